
/- The texts of results: what they are, and how long they can be. -/
import Derived.Test.YtjfbmjeekihdaaaDoorRuns
import Derived.Test.YtjfbmjeekihdaaaDoorDecM
import Derived.Test.YtjfbmjeekihdaaaDoorDecs
import Derived.Test.YtjfbmjeekihdaaaDoorRs
namespace Go.Proofs.YtjfbmjeekihdaaaDoor
open Go.ChangeShapes Go.WideShapes Go.ChangeAt Go.RowKit
set_option linter.unusedVariables false

def recTx (r : ByteArray × Int) : ByteArray := ⟨#[32]⟩ ++ r.1 ++ ⟨#[61]⟩ ++ decB r.2
def runTo (t : ByteArray) (V : Recs) (i : Nat) : ByteArray := (V.take i).foldl (fun t r => t ++ recTx r) t
def outTo (LS : List Recs) (k : Nat) : ByteArray := (LS.take k).foldl (fun t V => runTo (t ++ ⟨#[32, 124]⟩) V V.length) ⟨#[100, 111, 110, 101]⟩
def resTx (d f : Bool) (task : Int) (LS : List Recs) : ByteArray :=
  if d then outTo LS LS.length else if f then ⟨#[102, 97, 105, 108, 101, 100, 32]⟩ ++ decB task else ⟨#[111, 112, 101, 110]⟩
theorem runTo_zero (t : ByteArray) (V : Recs) : runTo t V 0 = t := by simp [runTo]
theorem runTo_step (t : ByteArray) (V : Recs) (i : Nat) (h : i < V.length) : runTo t V (i + 1) = runTo t V i ++ recTx (keyAt V i, numAt V i) := by
  unfold runTo
  rw [List.take_succ_eq_append_getElem h, List.foldl_append]
  have e : V[i] = (keyAt V i, numAt V i) := by
    unfold keyAt numAt
    rw [List.getD_eq_getElem?_getD, List.getElem?_eq_getElem h]
    rfl
  rw [e]
  rfl
theorem outTo_zero (LS : List Recs) : outTo LS 0 = ⟨#[100, 111, 110, 101]⟩ := by simp [outTo]
theorem outTo_step (LS : List Recs) (k : Nat) (h : k < LS.length) : outTo LS (k + 1) = runTo (outTo LS k ++ ⟨#[32, 124]⟩) (LS.getD k []) (LS.getD k []).length := by
  unfold outTo
  rw [List.take_succ_eq_append_getElem h, List.foldl_append]
  have e : LS[k] = LS.getD k [] := by
    rw [List.getD_eq_getElem?_getD, List.getElem?_eq_getElem h]
    rfl
  rw [e]
  rfl
/-- Few runs, few records, short keys, numbers of 64 bits. -/
structure FewR (LS : List Recs) : Prop where
  runs : LS.length ≤ 1048576
  recs : LS.flatten.length ≤ 1048576
  short : ∀ V ∈ LS, ∀ r ∈ V, r.1.size ≤ 1048576
  nums : ∀ V ∈ LS, ∀ r ∈ V, In64 r.2
theorem app_sz (s u : ByteArray) : (s ++ u).size = s.size + u.size := by simp
theorem recTx_le {s : ByteArray} {n : Int} (h : s.size ≤ 1048576) (hn : In64 n) : (recTx (s, n)).size ≤ 1048600 := by
  have := @decB_size n hn.1 (by have := hn.2; omega)
  unfold recTx
  rw [app_sz, app_sz, app_sz]
  show 1 + s.size + 1 + (decB n).size ≤ 1048600
  omega
theorem runTo_le (t : ByteArray) (V : Recs) (hs : ∀ r ∈ V, r.1.size ≤ 1048576) (hn : ∀ r ∈ V, In64 r.2) : ∀ i, i ≤ V.length → (runTo t V i).size ≤ t.size + i * 1048600
  | 0, _ => by rw [runTo_zero]; omega
  | i + 1, h => by
    have hi : i < V.length := by omega
    have e : V[i] = (keyAt V i, numAt V i) := by
      unfold keyAt numAt
      rw [List.getD_eq_getElem?_getD, List.getElem?_eq_getElem hi]
      rfl
    have h1 := hs _ (List.getElem_mem hi)
    have h2 := hn _ (List.getElem_mem hi)
    rw [e] at h1 h2
    have := runTo_le t V hs hn i (by omega)
    have := recTx_le (s := keyAt V i) (n := numAt V i) h1 h2
    rw [runTo_step t V i hi, app_sz]
    omega
theorem getD_mem' {LS : List Recs} {k : Nat} (h : k < LS.length) : LS.getD k [] ∈ LS := by
  rw [List.getD_eq_getElem?_getD, List.getElem?_eq_getElem h]
  exact List.getElem_mem h
theorem outTo_le {LS : List Recs} (hf : FewR LS) : ∀ k, k ≤ LS.length → (outTo LS k).size ≤ 4 + k * 2 + (LS.take k).flatten.length * 1048600
  | 0, _ => by
    rw [outTo_zero]
    exact Nat.le_trans (show (⟨#[100, 111, 110, 101]⟩ : ByteArray).size ≤ 4 by decide) (by omega)
  | k + 1, h => by
    have hk : k < LS.length := by omega
    have hm := getD_mem' hk
    have ih := outTo_le hf k (by omega)
    have hr := runTo_le (outTo LS k ++ ⟨#[32, 124]⟩) (LS.getD k []) (hf.short _ hm) (hf.nums _ hm) _ (Nat.le_refl _)
    rw [app_sz] at hr
    have e : (LS.take (k + 1)).flatten.length = (LS.take k).flatten.length + (LS.getD k []).length := by
      rw [List.take_succ_eq_append_getElem hk, List.flatten_append, List.length_append, List.flatten_singleton, List.getD_eq_getElem?_getD, List.getElem?_eq_getElem hk]
      rfl
    have e2 : (⟨#[32, 124]⟩ : ByteArray).size = 2 := rfl
    rw [e2] at hr
    rw [outTo_step LS k hk, e]
    omega
theorem runIn_le {LS : List Recs} (hf : FewR LS) {k i : Nat} (hk : k < LS.length) (hi : i ≤ (LS.getD k []).length) : (runTo (outTo LS k ++ ⟨#[32, 124]⟩) (LS.getD k []) i).size ≤ 1100000000000 := by
  have hm := getD_mem' hk
  have h1 := outTo_le hf k (by omega)
  have h2 := runTo_le (outTo LS k ++ ⟨#[32, 124]⟩) (LS.getD k []) (hf.short _ hm) (hf.nums _ hm) i hi
  rw [app_sz] at h2
  have e2 : (⟨#[32, 124]⟩ : ByteArray).size = 2 := rfl
  rw [e2] at h2
  have hl : (LS.take k).flatten.length + (LS.getD k []).length ≤ LS.flatten.length := by
    have e : LS.flatten = (LS.take k).flatten ++ (LS.drop k).flatten := by rw [← List.flatten_append, List.take_append_drop]
    rw [e, List.length_append, List.drop_eq_getElem_cons hk, List.flatten_cons, List.length_append, List.getD_eq_getElem?_getD, List.getElem?_eq_getElem hk]
    show _ + LS[k].length ≤ _
    omega
  have h3 := hf.recs
  have h4 := hf.runs
  omega
theorem outIn_le {LS : List Recs} (hf : FewR LS) {k : Nat} (hk : k ≤ LS.length) : (outTo LS k).size ≤ 1100000000000 := by
  have h1 := outTo_le hf k hk
  have hl : (LS.take k).flatten.length ≤ LS.flatten.length := by
    have e : LS.flatten = (LS.take k).flatten ++ (LS.drop k).flatten := by rw [← List.flatten_append, List.take_append_drop]
    rw [e, List.length_append]
    omega
  have h3 := hf.recs
  have h4 := hf.runs
  omega

/-- A slice of runs that may be read. -/
structure OutsAt (w : World) (a : Option Addr) (len : Nat) (LS : List Recs) : Prop where
  length : LS.length = len
  max : len ≤ maxLen
  src : len = 0 ∨ ∃ b off, a = some ⟨b, off, none⟩ ∧ b < w.heap.size ∧ ∀ i, i < len → ∃ p m c, w.cell? ⟨b, off + i, none⟩ = some (.slice p m c) ∧ RecsAt w p m (LS.getD i [])
theorem OutsAt.keep {w w1 : World} {a : Option Addr} {len : Nat} {LS : List Recs} (h : OutsAt w a len LS) (hB : Below w.heap.size w w1) : OutsAt w1 a len LS := by
  refine ⟨h.length, h.max, ?_⟩
  rcases h.src with h0 | ⟨b, off, ha, hb, hc⟩
  · exact .inl h0
  · refine .inr ⟨b, off, ha, Nat.lt_of_lt_of_le hb hB.size, fun i hi => ?_⟩
    obtain ⟨p, m, c, h1, h2⟩ := hc i hi
    exact ⟨p, m, c, (hB.cell (p := ⟨b, off + i, none⟩) hb).trans h1, h2.keep hB⟩
end Go.Proofs.YtjfbmjeekihdaaaDoor
