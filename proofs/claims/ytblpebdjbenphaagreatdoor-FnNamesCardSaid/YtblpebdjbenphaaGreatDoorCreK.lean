
/- What the exact laws on Create, Put and Del rest on. -/
import Derived.Test.YtblpebdjbenphaaGreatDoorPcre
import Derived.Test.YtblpebdjbenphaaGreatDoorMarkK
namespace Go.Proofs.YtblpebdjbenphaaGreatDoor
open Go.ChangeShapes Go.WideShapes Go.ChangeAt Go.RowKit
set_option linter.unusedVariables false
set_option maxRecDepth 100000

/-- A store, a version and a code, the lists and lengths named. -/
def MadeLM (L : Objs) (M : Gones) (nl nm : Nat) (V C : Int) (w : World) (e : Ending) (w' : World) : Prop :=
  ∃ q1 c1 q2 c2, e = .returned (.tuple #[.agg #[.slice q1 nl c1, .slice q2 nm c2], .int .i64 V, .int .i64 C]) ∧ Below w.heap.size w w' ∧ StoK w.heap.size w' q1 nl c1 q2 nm c2 L M
theorem toLM {R : Els × Int × Int} {L : Objs} {M : Gones} {nl nm : Nat} {V C : Int} (hL : resO R = L) (hM : resG R = M) (hl : L.length = nl) (hm : M.length = nm) (hV : R.2.1 = V) (hC : R.2.2 = C) {w : World} (e : Ending) (w' : World) (h : MadeSR R w e w') : MadeLM L M nl nm V C w e w' := by
  obtain ⟨q1, n1, c1, q2, n2, c2, he, hB, hK⟩ := h
  subst hL hM
  obtain rfl : n1 = nl := hK.len1.symm.trans hl
  obtain rfl : n2 = nm := hK.len2.symm.trans hm
  exact ⟨q1, c1, q2, c2, by rw [he, hV, hC], hB, hK⟩
def MadeLD (L : Objs) (M : Gones) (nl nm : Nat) (C : Int) (w : World) (e : Ending) (w' : World) : Prop :=
  ∃ q1 c1 q2 c2, e = .returned (.tuple #[.agg #[.slice q1 nl c1, .slice q2 nm c2], .int .i64 C]) ∧ Below w.heap.size w w' ∧ StoK w.heap.size w' q1 nl c1 q2 nm c2 L M
theorem toLD {R : Els × Int × Int} {L : Objs} {M : Gones} {nl nm : Nat} {C : Int} (hL : resO R = L) (hM : resG R = M) (hl : L.length = nl) (hm : M.length = nm) (hC : R.2.2 = C) {w : World} (e : Ending) (w' : World) (h : MadeSD R w e w') : MadeLD L M nl nm C w e w' := by
  obtain ⟨q1, n1, c1, q2, n2, c2, he, hB, hK⟩ := h
  subst hL hM
  obtain rfl : n1 = nl := hK.len1.symm.trans hl
  obtain rfl : n2 = nm := hK.len2.symm.trans hm
  exact ⟨q1, c1, q2, c2, by rw [he, hC], hB, hK⟩
theorem res_sto {R : Els × Int × Int} (h : R.2.2 = 0 → EP R.1) : StoP (resO R) (resG R) := by
  by_cases hc : R.2.2 = 0
  · rw [(res_yes hc).1, (res_yes hc).2]; exact stop_of_ep (h hc)
  · rw [(res_no hc).1, (res_no hc).2]; exact stop_of_ep ep_nil
theorem isCreate_sto {l : Objs} {m : Gones} {key data : ByteArray} {R : Els × Int × Int} (h : IsCreate l m key data R) : StoP (resO R) (resG R) := res_sto (fun hc => by
  by_cases hp : StoP l m ∧ keyB key = true ∧ data.size ≤ 30000
  · rw [h.1 hp]; exact ep_create (ep_of hp.1) hp.2.1 hp.2.2
  · rw [h.2 hp] at hc; exact absurd hc (by decide))
theorem isPut_sto {l : Objs} {m : Gones} {key : ByteArray} {ver : Int} {data : ByteArray} {R : Els × Int × Int} (h : IsPut l m key ver data R) : StoP (resO R) (resG R) := res_sto (fun hc => by
  by_cases hp : StoP l m ∧ keyB key = true ∧ inB ver 1 1000000 = true ∧ data.size ≤ 30000
  · rw [h.1 hp]; exact ep_repl (ep_of hp.1) hp.2.1 hp.2.2.2
  · rw [h.2 hp] at hc; exact absurd hc (by decide))
theorem isDel_sto {l : Objs} {m : Gones} {key : ByteArray} {ver : Int} {R : Els × Int × Int} (h : IsDel l m key ver R) : StoP (resO R) (resG R) := res_sto (fun hc => by
  by_cases hp : StoP l m ∧ keyB key = true ∧ inB ver 1 1000000 = true
  · rw [h.1 hp]; exact ep_del (ep_of hp.1) hp.2.1
  · rw [h.2 hp] at hc; exact absurd hc (by decide))
theorem StoK.blocks {base : Nat} {w w1 : World} {q1 q2 : Option Addr} {n1 c1 n2 c2 : Nat} {l : Objs} {m : Gones} (h : StoK base w q1 n1 c1 q2 n2 c2 l m) (hs : w.heap.size ≤ w1.heap.size) (h1 : ∀ g, q1 = some ⟨g, 0, none⟩ → w1.heap[g]? = w.heap[g]?) (h2 : ∀ g, q2 = some ⟨g, 0, none⟩ → w1.heap[g]? = w.heap[g]?) : StoK base w1 q1 n1 c1 q2 n2 c2 l m := by
  refine ⟨?_, ?_, h.len1, h.len2, h.cap1, h.cap2, ?_, ?_, h.apart⟩
  · rcases h.o with h0 | ⟨g, cur, hq, hb, hr, h3, h4⟩
    · exact .inl h0
    · exact .inr ⟨g, cur, hq, hb, (h1 g hq).trans hr, h3, h4⟩
  · rcases h.g with h0 | ⟨g, cur, hq, hb, hr, h3, h4⟩
    · exact .inl h0
    · exact .inr ⟨g, cur, hq, hb, (h2 g hq).trans hr, h3, h4⟩
  · rcases h.at1 with h | ⟨g, a, b, c⟩
    · exact .inl h
    · exact .inr ⟨g, a, b, Nat.lt_of_lt_of_le c hs⟩
  · rcases h.at2 with h | ⟨g, a, b, c⟩
    · exact .inl h
    · exact .inr ⟨g, a, b, Nat.lt_of_lt_of_le c hs⟩
/-- Where the rows of a store lie. -/
structure In2 (lo hi : Nat) (q1 q2 : Option Addr) : Prop where
  a : ∀ g, q1 = some ⟨g, 0, none⟩ → lo ≤ g ∧ g < hi
  b : ∀ g, q2 = some ⟨g, 0, none⟩ → lo ≤ g ∧ g < hi
theorem AtB.in_ {base : Nat} {w : World} {q : Option Addr} {c : Nat} (h : AtB base w q c) : ∀ g, q = some ⟨g, 0, none⟩ → base ≤ g ∧ g < w.heap.size := by
  intro g hg
  rcases h with ⟨h, _⟩ | ⟨g', h1, h2, h3⟩
  · rw [h] at hg; cases hg
  · rw [h1] at hg
    simp only [Option.some.injEq, Addr.mk.injEq, and_true] at hg
    subst hg; exact ⟨h2, h3⟩
theorem StoK.in2 {base : Nat} {w : World} {q1 q2 : Option Addr} {n1 c1 n2 c2 : Nat} {l : Objs} {m : Gones} (h : StoK base w q1 n1 c1 q2 n2 c2 l m) : In2 base w.heap.size q1 q2 := ⟨h.at1.in_, h.at2.in_⟩
theorem StoK.butR {base lo hi : Nat} {w w1 : World} {q1 q2 : Option Addr} {n1 c1 n2 c2 : Nat} {l : Objs} {m : Gones} (h : StoK base w q1 n1 c1 q2 n2 c2 l m) (k : ButR lo hi w w1) {x y : Nat} (hi2 : In2 x y q1 q2) (ho : y ≤ lo ∨ hi ≤ x) : StoK base w1 q1 n1 c1 q2 n2 c2 l m :=
  h.blocks k.size (fun g hg => k.block g (h.in2.a g hg).2 (by have := hi2.a g hg; omega)) (fun g hg => k.block g (h.in2.b g hg).2 (by have := hi2.b g hg; omega))
theorem StoK.butK {base : Nat} {w w1 : World} {q1 q2 p1 p2 : Option Addr} {n1 c1 n2 c2 : Nat} {l : Objs} {m : Gones} (h : StoK base w q1 n1 c1 q2 n2 c2 l m) (k : ButK p1 p2 w w1) {x y u v : Nat} (hi2 : In2 x y q1 q2) (hj : In2 u v p1 p2) (ho : y ≤ u ∨ v ≤ x) : StoK base w1 q1 n1 c1 q2 n2 c2 l m :=
  h.blocks k.size (fun g hg => k.block g (h.in2.a g hg).2 (fun g' hg' => by have := hi2.a g hg; have := hj.a g' hg'; omega) (fun g' hg' => by have := hi2.a g hg; have := hj.b g' hg'; omega)) (fun g hg => k.block g (h.in2.b g hg).2 (fun g' hg' => by have := hi2.b g hg; have := hj.a g' hg'; omega) (fun g' hg' => by have := hi2.b g hg; have := hj.b g' hg'; omega))
theorem ButK.rowI {q1 q2 : Option Addr} {w w1 : World} {X : Nat} {T : TypeId} {cur : Array Value} {u v : Nat} (h : ButK q1 q2 w w1) (r : Row w X T cur) (hj : In2 u v q1 q2) (ho : X < u ∨ v ≤ X) : Row w1 X T cur :=
  h.row r (fun g hg => by have := hj.a g hg; omega) (fun g hg => by have := hj.b g hg; omega)
theorem ButK.belowI {q1 q2 : Option Addr} {w0 w w1 : World} {u v : Nat} (h : ButK q1 q2 w w1) (k : Below w0.heap.size w0 w) (hj : In2 u v q1 q2) (ho : w0.heap.size ≤ u) : Below w0.heap.size w0 w1 :=
  h.below k k.size (fun g hg => by have := hj.a g hg; omega) (fun g hg => by have := hj.b g hg; omega)
theorem row_cells2 {w : World} {X : Nat} {T : TypeId} {x y : Value} (h : Row w X T #[x, y]) : w.cell? ⟨X, 0, none⟩ = some x ∧ w.cell? ⟨X, 1, none⟩ = some y := by
  have h0 := h.cell (j := 0) (by simp)
  have h1 := h.cell (j := 1) (by simp)
  simp at h0 h1
  exact ⟨h0, h1⟩
theorem stoI_made {w : World} {B C la lg : Nat} {l : Objs} {m : Gones} (h : StoAt w (some ⟨B, 0, none⟩) la l (some ⟨C, 0, none⟩) lg m) (hla : la ≤ 1048576) (hlg : lg ≤ 1048576) : StoI w (some ⟨B, 0, none⟩) la la l (some ⟨C, 0, none⟩) lg lg m :=
  ⟨h, ⟨Nat.le_refl _, by unfold maxLen; omega⟩, ⟨Nat.le_refl _, by unfold maxLen; omega⟩, (fun h => nomatch h), (fun h => nomatch h)⟩
end Go.Proofs.YtblpebdjbenphaaGreatDoor
