/- Texts put together, as a claim holds at most sixty files. -/
import Derived.Test.YtjofbeokkainlaaResOfS
import Derived.Test.YtjofbeokkainlaaMg43
import Derived.Test.YtjofbeokkainlaaAnsM
import Derived.Test.YtjofbeokkainlaaMg0
import Derived.Test.YtjofbeokkainlaaDecM
import Derived.Test.YtjofbeokkainlaaDecs
import Derived.Test.YtjofbeokkainlaaMg8
import Derived.Test.YtjofbeokkainlaaMg28
namespace Go.Proofs.Ytjofbeokkainlaa
open Go.ChangeShapes Go.WideShapes Go.ChangeAt Go.RowKit
set_option linter.unusedVariables false
set_option maxRecDepth 100000

/-- Runs in rows of a call's own, whatever became of elder blocks. -/
structure OutR (R : List Recs) (base : Nat) (wr : World) (q : Option Addr) (k cp : Nat) (XS : List Value) : Prop where
  own : wr.ownsRow base 33 1 (.slice q k cp) k XS
  runs : ∀ i, i < k → ∃ p c, XS[i]? = some (.slice p (nAt R i) c) ∧ Rs base wr p (R.getD i []) ∧ (p = none → nAt R i = 0 ∧ c = 0)
theorem OutS.r {R : List Recs} {w wr : World} {q : Option Addr} {k cp : Nat} {XS : List Value} (h : OutS R w wr q k cp XS) : OutR R w.heap.size wr q k cp XS := ⟨h.own, h.runs⟩
theorem OutR.oth {R : List Recs} {base : Nat} {wr w1 : World} {q : Option Addr} {k cp : Nat} {XS : List Value} (h : OutR R base wr q k cp XS) (hk : ∀ X, base ≤ X → X < wr.heap.size → w1.heap[X]? = wr.heap[X]?) : OutR R base w1 q k cp XS :=
  ⟨own_same h.own (fun g hg => hk g (h.own.lt g hg).1 (h.own.lt g hg).2), fun i hi => by
    obtain ⟨p, c, e1, e2, e3⟩ := h.runs i hi
    refine ⟨p, c, e1, ?_, e3⟩
    rcases e2 with h0 | ⟨g, cur, hq, hb, hr, h1, h2⟩
    · exact .inl h0
    · exact .inr ⟨g, cur, hq, hb, (hk g hb hr.lt).trans hr, h1, h2⟩⟩
theorem OutR.put {R : List Recs} {base : Nat} {wr : World} {q : Option Addr} {k cp : Nat} {XS : List Value} (h : OutR R base wr q k cp XS) {B : Nat} (hB : B < base) (j : Nat) (v : Value) : OutR R base (wr.setCell ⟨B, j, none⟩ v) q k cp XS :=
  h.oth fun X hX _ => Below.heap_setCell wr ⟨B, j, none⟩ v X (by show X ≠ B; omega)
theorem OutR.keep {R : List Recs} {base : Nat} {wr w1 : World} {q : Option Addr} {k cp : Nat} {XS : List Value} (h : OutR R base wr q k cp XS) (hB : Below wr.heap.size wr w1) : OutR R base w1 q k cp XS :=
  h.oth fun X _ hX => hB.block X hX
theorem OutR.went {R : List Recs} {base : Nat} {wr w1 : World} {q : Option Addr} {k cp : Nat} {XS : List Value} (h : OutR R base wr q k cp XS) {r : Nat} {a : Option Addr} {len cap : Nat} (hw : Went wr r a len cap w1) (hr : r < base) : OutR R base w1 q k cp XS :=
  h.oth fun X hX hlt => hw.grown.block X hlt (by simp only [ne_eq, Option.some.injEq]; omega)
theorem OutR.src {R : List Recs} {base : Nat} {wr : World} {q : Option Addr} {k cp : Nat} {XS : List Value} (h : OutR R base wr q k cp XS) (hk : 0 < k) : ∃ g, q = some ⟨g, 0, none⟩ ∧ g < wr.heap.size ∧ base ≤ g ∧ k ≤ cp ∧ cp ≤ maxLen ∧ ∀ i, i < k → ∃ p c, wr.cell? ⟨g, i, none⟩ = some (.slice p (nAt R i) c) ∧ Rs base wr p (R.getD i []) ∧ (p = none → nAt R i = 0 ∧ c = 0) := by
  rcases h.own.2 with ⟨_, h2⟩ | ⟨g, cap, cur, hv, hb, hh, h1, h2, h3, h4⟩
  · omega
  · have hlt : g < wr.heap.size := Row.lt (show Row wr g 33 cur from hh)
    simp only [Value.slice.injEq] at hv
    obtain ⟨rfl, _, rfl⟩ := hv
    refine ⟨g, rfl, hlt, hb, h1, h2, fun i hi => ?_⟩
    obtain ⟨p, c1, e1, e2, e3⟩ := h.runs i hi
    exact ⟨p, c1, by rw [h.own.cellAt i (by omega)]; exact e1, e2, e3⟩
theorem OutR.ls {R : List Recs} {base : Nat} {wr : World} {q : Option Addr} {k cp : Nat} {XS : List Value} (h : OutR R base wr q k cp XS) (hk : R.length = k) (hm : k ≤ maxLen) (hf : ShortR R) : RunLs wr q k R := by
  refine ⟨hk, hm, ?_⟩
  by_cases h0 : k = 0
  · exact .inl h0
  · obtain ⟨g, rfl, hlt, _, _, _, hc⟩ := h.src (by omega)
    refine .inr ⟨g, 0, rfl, hlt, fun i hi => ?_⟩
    obtain ⟨p, c, hx, hr, _⟩ := hc i hi
    exact ⟨p, nAt R i, c, by rw [Nat.zero_add]; exact hx, recs_of_rs hr rfl (by have := (hf i (by omega)).1; unfold maxLen; omega) (fun j hj => by have := (hf i (by omega)).2 j hj; unfold maxLen; omega)⟩
theorem resR_short (l : Instrs) (each : Bool) (op n1 : Int) (m : Strs) (sl : Nat) : ShortR (resR l each op n1 m sl).2.2.2 ∧ (resR l each op n1 m sl).2.2.2.length ≤ 3 ∧ ((resR l each op n1 m sl).1 = false → (resR l each op n1 m sl).2.2.2 = []) ∧ ((resR l each op n1 m sl).1 = true → 1 ≤ (resR l each op n1 m sl).2.2.2.length ∧ (resR l each op n1 m sl).2.1 = false ∧ (resR l each op n1 m sl).2.2.1 = 0) := by
  have hs0 : ShortR [] := fun i hi => absurd hi (by simp)
  unfold resR
  split
  · rename_i hj
    have hp := jobB_parts hj
    split
    · exact ⟨hs0, by simp, (fun _ => rfl), (fun h => by cases h)⟩
    · split
      · exact ⟨hs0, by simp, (fun _ => rfl), (fun h => by cases h)⟩
      · exact ⟨resL_short _ _ _ _ _ _ _, (by simp only [resL_len]; omega), (fun h => by cases h), fun _ => ⟨by simp only [resL_len]; omega, rfl, rfl⟩⟩
  · exact ⟨hs0, by simp, (fun _ => rfl), (fun h => by cases h)⟩
/-- The end of drawing a result and a key. -/
def DrewAns (w : World) (e : Ending) (w' : World) : Prop :=
  ∃ (d f : Bool) (task : Int) (q : Option Addr) (n cp : Nat) (LS : List Recs) (XS : List Value) (base : Nat) (key : ByteArray), e = .returned (.tuple #[.agg #[.bool d, .bool f, .int .i64 task, .slice q n cp], .string key]) ∧ OutR LS base w' q n cp XS ∧ LS.length = n ∧ n ≤ 3 ∧ PartsR LS ∧ ShortR LS ∧ key.size ≤ 5 ∧ Below w.heap.size w w'

set_option maxHeartbeats 4000000 in
theorem drawan_any (w : World) (a : Option Addr) (len cap : Nat) (h : Src w a len) : Calls Try.prog 5 #[.slice a len cap] w (DrewAns w) := by
  obtain ⟨R, hR⟩ : ∃ R, w.heap.size = R := ⟨_, rfl⟩
  obtain ⟨wb, hwb⟩ : ∃ wb, w.alloc (.cells #[.bool false, .bool false, .int .i64 0, .slice none 0 0] 26) = wb := ⟨_, rfl⟩
  have HRR := Lib.hid (show Row wb R 26 #[.bool false, .bool false, .int .i64 0, .slice none 0 0] from by rw [← hwb, ← hR]; exact row_new _ _ _)
  have HBB := Lib.hid (show Below w.heap.size w wb from hwb ▸ below_alloc (Below.refl _ _) _)
  have HSZ := Lib.hid (show wb.heap.size = R + 1 by rw [← hwb, ← hR]; simp)
  have HRE := Lib.hid hR
  have H := Lib.hid (h.below HBB.out)
  clear h
  go_enter Try.func5, Try.ntmps5
  go_wp2_with fail
  refine (open_any _ _ _ _ H.out).mono ?_
  rintro e w1 ⟨rfl, hb, hrd⟩
  have HB1 := Lib.hid hb
  have HRD := Lib.hid hrd
  have HRR := Lib.hid (HRR.out.keep hb)
  obtain ⟨r, hre⟩ : ∃ r, wb.heap.size = r := ⟨_, rfl⟩
  rw [hre] at HRD ⊢
  have HRr := Lib.hid (show R < r by have := HSZ.out; omega)
  have HLT := Lib.hid (show r < w1.heap.size by rw [← hre]; exact hrd.lt)
  clear hb hrd hre hR hwb
  go_wp2_with fail
  refine (rjob_any _ _ _ _ _ HRD.out).mono ?_
  rintro e w2 ⟨pq, pn, pc, W, sq, sn, sc, M, e1, o1, n1, rfl, hpn, hsn, hd⟩
  have HW2 := Lib.hid hd.d.went
  have HF := Lib.hid hd.d.fine
  have HSZI := Lib.hid hd.d.size
  have HJ := Lib.hid (hd.f.job (by omega) (by omega))
  have HRR := Lib.hid (HRR.out.went HW2.out (by have := HRr.out; omega))
  clear hd
  obtain ⟨⟨d, f, task, LS⟩, hres⟩ : ∃ x, resR W e1 o1 n1 M sn = x := ⟨_, rfl⟩
  have HPT := Lib.hid (resR_parts W e1 o1 n1 M sn)
  have HSH := Lib.hid (resR_short W e1 o1 n1 M sn)
  rw [hres] at HPT HSH
  have HRES := Lib.hid hres
  clear hres
  go_wp2_with fail
  refine (sresultof_any pq sq pn pc sn sc e1 o1 n1 W M _ HJ.out.1 (fun i hi => (fine_at HF.out (by rw [HSZI.out]; exact hi)).1) (fun i hi => by have := HJ.out.2 i hi; omega)).mono ?_
  rw [HRES.out]
  rintro e w3 ⟨q, cp, XS, rfl, ho⟩
  have HO := Lib.hid ho.r
  have HR2 := Lib.hid (show r < w2.heap.size from by have := HW2.out.size; have := HLT.out; omega)
  have HW3 := Lib.hid (show Went w1 r a len cap w3 from HW2.out.trans ⟨⟨ho.below.os, ho.below.tape, ho.below.output, ho.below.size, fun i hi _ => ho.below.block i hi⟩, HW2.out.rdr.below (ho.below.mono (show r + 1 ≤ w2.heap.size from HR2.out))⟩)
  have HRR := Lib.hid (HRR.out.keep ho.below)
  obtain ⟨n, hn⟩ : ∃ n, LS.length = n := ⟨_, rfl⟩
  have HNN := Lib.hid hn
  simp only [hn] at HO ⊢
  clear ho hn
  go_wp2_with fail
  refine (word1_any _ _ _ _ _ HW3.out.rdr).mono ?_
  rintro e w4 ⟨⟨key, hk5, rfl⟩, hw⟩
  have HO := Lib.hid (HO.out.went hw HR2.out)
  have HW4 := Lib.hid (HW3.out.trans hw)
  have HRR := Lib.hid (HRR.out.went hw (by have := HRr.out; omega))
  have HB4 := Lib.hid (show Below w.heap.size w w4 from HW4.out.under ((HBB.out.trans (HB1.out.mono HBB.out.size))) (by rw [HRE.out]; have := HRr.out; omega) ((HBB.out.trans (HB1.out.mono HBB.out.size))).size)
  have HRB := Lib.hid (show R < w2.heap.size from by have := HRr.out; have := HR2.out; omega)
  clear hw
  have r0 := HRR.out.cell (j := 0) (by simp)
  have r1 := HRR.out.cell (j := 1) (by simp)
  have r2 := HRR.out.cell (j := 2) (by simp)
  have r3 := HRR.out.cell (j := 3) (by simp)
  have f0 := HRR.out.free 0
  have f1 := HRR.out.free 1
  have f2 := HRR.out.free 2
  have f3 := HRR.out.free 3
  simp at r0 r1 r2 r3
  go_wp2
  have hbF := (((HRR.out.set 0 (.bool d)).set 1 (.bool f)).set 2 (.int .i64 task)).set 3 (.slice q n cp)
  unfold Row at hbF
  have hwR : w.heap.size ≤ R := by rw [HRE.out]; exact Nat.le_refl _
  exact bodyPost_ret (v := .tuple #[.agg #[.bool d, .bool f, .int .i64 task, .slice q n cp], .string key]) (by simp [results, Try.results5, go_sem, World.cell?, hbF]) rfl
    ⟨d, f, task, q, n, cp, LS, XS, w2.heap.size, key, rfl, (((HO.out.put HRB.out 0 _).put HRB.out 1 _).put HRB.out 2 _).put HRB.out 3 _, HNN.out, by have := HSH.out.2.1; rw [← HNN.out]; exact this, HPT.out, HSH.out.1, hk5, (((HB4.out.setCell hwR _).setCell hwR _).setCell hwR _).setCell hwR _⟩
end Go.Proofs.Ytjofbeokkainlaa
namespace Go.Proofs.Ytjofbeokkainlaa
open Go.ChangeShapes Go.WideShapes Go.ChangeAt Go.RowKit
set_option linter.unusedVariables false

def recTx (r : ByteArray × Int) : ByteArray := ⟨#[32]⟩ ++ r.1 ++ ⟨#[61]⟩ ++ decB r.2
def runTo (t : ByteArray) (V : Recs) (i : Nat) : ByteArray := (V.take i).foldl (fun t r => t ++ recTx r) t
def outTo (LS : List Recs) (k : Nat) : ByteArray := (LS.take k).foldl (fun t V => runTo (t ++ ⟨#[32, 124]⟩) V V.length) ⟨#[100, 111, 110, 101]⟩
def resTx (d f : Bool) (task : Int) (LS : List Recs) : ByteArray :=
  if d then outTo LS LS.length else if f then ⟨#[102, 97, 105, 108, 101, 100, 32]⟩ ++ decB task else ⟨#[111, 112, 101, 110]⟩
theorem runTo_zero (t : ByteArray) (V : Recs) : runTo t V 0 = t := by simp [runTo]
theorem runTo_step (t : ByteArray) (V : Recs) (i : Nat) (h : i < V.length) : runTo t V (i + 1) = runTo t V i ++ recTx (keyAt V i, numAt V i) := by
  unfold runTo
  rw [List.take_succ_eq_append_getElem h, List.foldl_append]
  have e : V[i] = (keyAt V i, numAt V i) := by
    unfold keyAt numAt
    rw [List.getD_eq_getElem?_getD, List.getElem?_eq_getElem h]
    rfl
  rw [e]
  rfl
theorem outTo_zero (LS : List Recs) : outTo LS 0 = ⟨#[100, 111, 110, 101]⟩ := by simp [outTo]
theorem outTo_step (LS : List Recs) (k : Nat) (h : k < LS.length) : outTo LS (k + 1) = runTo (outTo LS k ++ ⟨#[32, 124]⟩) (LS.getD k []) (LS.getD k []).length := by
  unfold outTo
  rw [List.take_succ_eq_append_getElem h, List.foldl_append]
  have e : LS[k] = LS.getD k [] := by
    rw [List.getD_eq_getElem?_getD, List.getElem?_eq_getElem h]
    rfl
  rw [e]
  rfl
/-- Few runs, few records, short keys, numbers of 64 bits. -/
structure FewR (LS : List Recs) : Prop where
  runs : LS.length ≤ 1048576
  recs : LS.flatten.length ≤ 1048576
  short : ∀ V ∈ LS, ∀ r ∈ V, r.1.size ≤ 1048576
  nums : ∀ V ∈ LS, ∀ r ∈ V, In64 r.2
theorem app_sz (s u : ByteArray) : (s ++ u).size = s.size + u.size := by simp
theorem recTx_le {s : ByteArray} {n : Int} (h : s.size ≤ 1048576) (hn : In64 n) : (recTx (s, n)).size ≤ 1048600 := by
  have := @decB_size n hn.1 (by have := hn.2; omega)
  unfold recTx
  rw [app_sz, app_sz, app_sz]
  show 1 + s.size + 1 + (decB n).size ≤ 1048600
  omega
theorem runTo_le (t : ByteArray) (V : Recs) (hs : ∀ r ∈ V, r.1.size ≤ 1048576) (hn : ∀ r ∈ V, In64 r.2) : ∀ i, i ≤ V.length → (runTo t V i).size ≤ t.size + i * 1048600
  | 0, _ => by rw [runTo_zero]; omega
  | i + 1, h => by
    have hi : i < V.length := by omega
    have e : V[i] = (keyAt V i, numAt V i) := by
      unfold keyAt numAt
      rw [List.getD_eq_getElem?_getD, List.getElem?_eq_getElem hi]
      rfl
    have h1 := hs _ (List.getElem_mem hi)
    have h2 := hn _ (List.getElem_mem hi)
    rw [e] at h1 h2
    have := runTo_le t V hs hn i (by omega)
    have := recTx_le (s := keyAt V i) (n := numAt V i) h1 h2
    rw [runTo_step t V i hi, app_sz]
    omega
theorem getD_mem' {LS : List Recs} {k : Nat} (h : k < LS.length) : LS.getD k [] ∈ LS := by
  rw [List.getD_eq_getElem?_getD, List.getElem?_eq_getElem h]
  exact List.getElem_mem h
theorem outTo_le {LS : List Recs} (hf : FewR LS) : ∀ k, k ≤ LS.length → (outTo LS k).size ≤ 4 + k * 2 + (LS.take k).flatten.length * 1048600
  | 0, _ => by
    rw [outTo_zero]
    exact Nat.le_trans (show (⟨#[100, 111, 110, 101]⟩ : ByteArray).size ≤ 4 by decide) (by omega)
  | k + 1, h => by
    have hk : k < LS.length := by omega
    have hm := getD_mem' hk
    have ih := outTo_le hf k (by omega)
    have hr := runTo_le (outTo LS k ++ ⟨#[32, 124]⟩) (LS.getD k []) (hf.short _ hm) (hf.nums _ hm) _ (Nat.le_refl _)
    rw [app_sz] at hr
    have e : (LS.take (k + 1)).flatten.length = (LS.take k).flatten.length + (LS.getD k []).length := by
      rw [List.take_succ_eq_append_getElem hk, List.flatten_append, List.length_append, List.flatten_singleton, List.getD_eq_getElem?_getD, List.getElem?_eq_getElem hk]
      rfl
    have e2 : (⟨#[32, 124]⟩ : ByteArray).size = 2 := rfl
    rw [e2] at hr
    rw [outTo_step LS k hk, e]
    omega
theorem runIn_le {LS : List Recs} (hf : FewR LS) {k i : Nat} (hk : k < LS.length) (hi : i ≤ (LS.getD k []).length) : (runTo (outTo LS k ++ ⟨#[32, 124]⟩) (LS.getD k []) i).size ≤ 1100000000000 := by
  have hm := getD_mem' hk
  have h1 := outTo_le hf k (by omega)
  have h2 := runTo_le (outTo LS k ++ ⟨#[32, 124]⟩) (LS.getD k []) (hf.short _ hm) (hf.nums _ hm) i hi
  rw [app_sz] at h2
  have e2 : (⟨#[32, 124]⟩ : ByteArray).size = 2 := rfl
  rw [e2] at h2
  have hl : (LS.take k).flatten.length + (LS.getD k []).length ≤ LS.flatten.length := by
    have e : LS.flatten = (LS.take k).flatten ++ (LS.drop k).flatten := by rw [← List.flatten_append, List.take_append_drop]
    rw [e, List.length_append, List.drop_eq_getElem_cons hk, List.flatten_cons, List.length_append, List.getD_eq_getElem?_getD, List.getElem?_eq_getElem hk]
    show _ + LS[k].length ≤ _
    omega
  have h3 := hf.recs
  have h4 := hf.runs
  omega
theorem outIn_le {LS : List Recs} (hf : FewR LS) {k : Nat} (hk : k ≤ LS.length) : (outTo LS k).size ≤ 1100000000000 := by
  have h1 := outTo_le hf k hk
  have hl : (LS.take k).flatten.length ≤ LS.flatten.length := by
    have e : LS.flatten = (LS.take k).flatten ++ (LS.drop k).flatten := by rw [← List.flatten_append, List.take_append_drop]
    rw [e, List.length_append]
    omega
  have h3 := hf.recs
  have h4 := hf.runs
  omega

/-- A slice of runs that may be read. -/
structure OutsAt (w : World) (a : Option Addr) (len : Nat) (LS : List Recs) : Prop where
  length : LS.length = len
  max : len ≤ maxLen
  src : len = 0 ∨ ∃ b off, a = some ⟨b, off, none⟩ ∧ b < w.heap.size ∧ ∀ i, i < len → ∃ p m c, w.cell? ⟨b, off + i, none⟩ = some (.slice p m c) ∧ RecsAt w p m (LS.getD i [])
theorem OutsAt.keep {w w1 : World} {a : Option Addr} {len : Nat} {LS : List Recs} (h : OutsAt w a len LS) (hB : Below w.heap.size w w1) : OutsAt w1 a len LS := by
  refine ⟨h.length, h.max, ?_⟩
  rcases h.src with h0 | ⟨b, off, ha, hb, hc⟩
  · exact .inl h0
  · refine .inr ⟨b, off, ha, Nat.lt_of_lt_of_le hb hB.size, fun i hi => ?_⟩
    obtain ⟨p, m, c, h1, h2⟩ := hc i hi
    exact ⟨p, m, c, (hB.cell (p := ⟨b, off + i, none⟩) hb).trans h1, h2.keep hB⟩
end Go.Proofs.Ytjofbeokkainlaa
namespace Go.Proofs.Ytjofbeokkainlaa
open Go.ChangeShapes Go.WideShapes Go.ChangeAt Go.RowKit
set_option linter.unusedVariables false
set_option maxRecDepth 100000

theorem sz1_key (x : Int) (s : ByteArray) : 0 ≤ sz1 x s → (s.size : Int) ≤ x := by
  unfold sz1; split <;> omega
def SizedK (left : Int) (len : Nat) (l : Recs) (w : World) (e : Ending) (w' : World) : Prop :=
  ∃ x : Int, -1 ≤ x ∧ x ≤ 1048576 ∧ e = .returned (.int .i64 x) ∧ Below w.heap.size w w' ∧ (0 ≤ x → x + len ≤ left ∧ ∀ i, i < len → (keyAt l i).size ≤ 1048576)
def SizedSK (len : Nat) (LS : List Recs) (w : World) (e : Ending) (w' : World) : Prop :=
  ∃ x : Int, -1 ≤ x ∧ x ≤ 1048576 ∧ e = .returned (.int .i64 x) ∧ Below w.heap.size w w' ∧ (0 ≤ x → len ≤ 1048576 ∧ LS.flatten.length ≤ 1048576 ∧ (∀ i, i < len → (LS.getD i []).length ≤ 1048576) ∧ ∀ i, i < len → ∀ j, j < (LS.getD i []).length → (keyAt (LS.getD i []) j).size ≤ 1048576)

end Go.Proofs.Ytjofbeokkainlaa
