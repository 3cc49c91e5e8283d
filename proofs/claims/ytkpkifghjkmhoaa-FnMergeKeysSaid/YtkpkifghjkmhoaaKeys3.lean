
/- Marks in records; keys as slices of texts that stay while other rows are marked. Only the marked row and new blocks change. -/
import Derived.Test.YtkpkifghjkmhoaaKeys2
namespace Go.Proofs.Ytkpkifghjkmhoaa
open Go.ChangeShapes Go.WideShapes Go.ChangeAt Go.RowKit
set_option linter.unusedVariables false
set_option maxRecDepth 100000

def MarkedRecs (B : Nat) (E : TypeId) (q : Nat) (w : World) (e : Ending) (w' : World) : Prop :=
  e = .returned (.int .i64 (q : Int)) ∧ w.grownBy w' (some B)

theorem grown_below {w a b : World} {row : Option Nat} (hg : w.grownBy a row) (hB : Below a.heap.size a b) : w.grownBy b row :=
  ⟨hB.os.trans hg.os, hB.tape.trans hg.tape, hB.output.trans hg.output, Nat.le_trans hg.size hB.size, fun i hi hne => (hB.block i (Nat.lt_of_lt_of_le hi hg.size)).trans (hg.block i hi hne)⟩
theorem grown_set {w a : World} {B : Nat} (hg : w.grownBy a (some B)) (j : Nat) (x : Value) : w.grownBy (a.setCell ⟨B, j, none⟩ x) (some B) :=
  ⟨hg.os, hg.tape, hg.output, by have := hg.size; simpa [World.setCell] using this, fun i hi hne => (Below.heap_setCell _ _ _ _ (fun e => hne (by rw [e]))).trans (hg.block i hi hne)⟩

set_option maxHeartbeats 1000000 in
theorem markrecs_any (B len cap k0 : Nat) (E : TypeId) (cur0 : Array Value) (w : World) (h : Row w B E cur0) (hn : cur0.size = len * 2) (h1 : 1 ≤ k0) (h2 : k0 + 2 * len ≤ 1099511627776) :
    Calls Try.prog 13 #[.slice (some ⟨B, 0, none⟩) len cap, .int .i64 k0] w (MarkedRecs B E (k0 + 2 * len) w) := by
  have HR := Lib.hid h
  have HN := Lib.hid hn
  clear h hn
  go_enter Try.func13, Try.ntmps13
  go_wp2
  go_loopw [1, 5] (fun t i wr => ∃ k : Nat, k ≤ len ∧ i = .int .i64 k ∧ t = .int .i64 ((k0 + 2 * k : Nat) : Int) ∧ Hid (w.grownBy wr (some B) ∧ ∃ cur, Row wr B E cur ∧ cur.size = len * 2)) (fun _ i _ => len - (intOf i).toNat)
  case atStart => exact ⟨0, Nat.zero_le _, rfl, rfl, World.grownBy.refl _ _, cur0, HR.out, HN.out⟩
  case round =>
    obtain ⟨k, hk, rfl, rfl, HW⟩ := hrel
    clear HR HN
    by_cases hlt : k < len
    · obtain ⟨q, hq⟩ : ∃ q, k0 + 2 * k = q := ⟨_, rfl⟩
      rw [hq]
      have hq1 : 1 ≤ q := by omega
      have hq2 : q < 1099511627776 := by omega
      have HQ := Lib.hid hq
      clear hq
      go_wp2_with fail
      refine (marktext_any q _ hq1 (by omega)).mono ?_
      rintro e w2 ⟨rfl, hB⟩
      obtain ⟨hg, cur, hr, hs⟩ := HW.out
      have hr2 := hr.keep hB
      have hA0 := hr2.cell (j := k * 2) (by omega)
      have hA1 := hr2.cell (j := k * 2 + 1) (by omega)
      have hf0 := hr2.free (k * 2)
      have hf1 := hr2.free (k * 2 + 1)
      have HG := Lib.hid (grown_below hg hB)
      have HR2 := Lib.hid hr2
      have HS := Lib.hid hs
      generalize cur[k * 2] = x0 at hA0
      generalize cur[k * 2 + 1] = x1 at hA1
      clear hB hg hr hr2 hs HW
      go_wp2
      go_roundw
      case rel => exact ⟨k + 1, by omega, by go_num, by have := HQ.out; go_num, grown_set (grown_set HG.out _ _) _ _, _, (HR2.out.set _ _).set _ _, by simpa using HS.out⟩
      case measure => simp [intOf]; omega
    · obtain rfl : k = len := by omega
      go_wp2
      go_ret
      exact ⟨rfl, HW.out.1⟩

/-- The slice (q, length of W) holds the texts W in a row from block 'base' on. -/
def Ks (base : Nat) (w : World) (q : Option Addr) (W : Strs) : Prop :=
  W.length = 0 ∨ ∃ g cur, q = some ⟨g, 0, none⟩ ∧ base ≤ g ∧ Row w g 9 cur ∧ W.length ≤ cur.size ∧ ∀ j (h : j < W.length), cur[j]? = some (.string W[j])

theorem ks_of_own {base : Nat} {w : World} {q : Option Addr} {cp : Nat} {W : Strs} (h : w.ownsRow base 9 1 (.slice q W.length cp) W.length (W.map Value.string)) : Ks base w q W := by
  rcases h.2 with ⟨_, h2⟩ | ⟨g, cap, cur, hv, hb, hh, h1, _, h3, h4⟩
  · exact .inl h2
  · simp only [Value.slice.injEq, true_and] at hv
    obtain ⟨rfl, rfl⟩ := hv
    refine .inr ⟨g, cur, rfl, hb, hh, by omega, fun j hj => ?_⟩
    have e : (cur.toList.take (W.length * 1))[j]? = (W.map Value.string)[j]? := by rw [h4]
    rw [List.getElem?_take_of_lt (by omega)] at e
    have e2 : cur[j]? = cur.toList[j]? := by simp
    rw [e2, e]
    simp [hj]
theorem ks_keep {base : Nat} {w w1 : World} {q : Option Addr} {W : Strs} (h : Ks base w q W) (hB : Below w.heap.size w w1) : Ks base w1 q W := by
  rcases h with h0 | ⟨g, cur, rfl, hb, hr, h1, h2⟩
  · exact .inl h0
  · exact .inr ⟨g, cur, rfl, hb, hr.keep hB, h1, h2⟩
theorem ks_lt {base : Nat} {w : World} {q : Option Addr} {W : Strs} (h : Ks base w q W) (hn : 0 < W.length) : ∀ g, q = some ⟨g, 0, none⟩ → base ≤ g ∧ g < w.heap.size := by
  intro g hg
  rcases h with h0 | ⟨g', cur, rfl, hb, hr, h1, h2⟩
  · omega
  · simp only [Option.some.injEq, Addr.mk.injEq, and_true] at hg
    rw [← hg]; exact ⟨hb, hr.lt⟩
theorem ks_grown {base g : Nat} {w w1 : World} {q : Option Addr} {W : Strs} (h : Ks base w q W) (hg : w.grownBy w1 (some g)) (hne : 0 < W.length → ∀ g', q = some ⟨g', 0, none⟩ → g' ≠ g) : Ks base w1 q W := by
  rcases h with h0 | ⟨g', cur, rfl, hb, hr, h1, h2⟩
  · exact .inl h0
  · by_cases hz : W.length = 0
    · exact .inl hz
    · exact .inr ⟨g', cur, rfl, hb, (hg.block g' hr.lt (by simpa using hne (by omega) g' rfl)).trans hr, h1, h2⟩
theorem strs_of_ks {base n : Nat} {w : World} {q : Option Addr} {W : Strs} (h : Ks base w q W) (hn : W.length = n) (hm : n ≤ maxLen) (hs : ∀ x ∈ W, x.size ≤ maxLen) : StrsAt w q n W := by
  subst hn
  have hat : ∀ i (hi : i < W.length), strAt W i = W[i] := fun i hi => by
    unfold strAt; rw [List.getD_eq_getElem?_getD, List.getElem?_eq_getElem hi]; rfl
  refine ⟨rfl, hm, fun i hi => by rw [hat i hi]; exact hs _ (List.getElem_mem hi), ?_⟩
  rcases h with h0 | ⟨g, cur, rfl, _, hr, _, hc⟩
  · exact .inl h0
  · refine .inr ⟨g, 0, rfl, hr.lt, fun i hi => ?_⟩
    rw [hat i hi]
    have := hc i hi
    unfold Row at hr
    simp [World.cell?, hr, this]

theorem keysTo_mem (l : Recs) : ∀ k, ∀ x ∈ keysTo l k, ∃ i, i < k ∧ x = keyAt l i
  | 0, x, hx => by simp [keysTo] at hx
  | k + 1, x, hx => by
    unfold keysTo at hx
    rcases List.mem_append.1 hx with h | h
    · obtain ⟨i, hi, he⟩ := keysTo_mem l k x h
      exact ⟨i, by omega, he⟩
    · split at h
      · exact ⟨k, by omega, by simpa using h⟩
      · simp at h
theorem keysB_short {w : World} {a : Option Addr} {len : Nat} {l : Recs} (h : RecsAt w a len l) : (∀ x ∈ keysB l, x.size ≤ maxLen) ∧ (keysB l).length ≤ len := by
  unfold keysB
  split
  · refine ⟨fun x hx => ?_, by rw [← h.length]; exact keysTo_len l _⟩
    obtain ⟨i, hi, rfl⟩ := keysTo_mem l _ x hx
    exact h.keys i (by rw [← h.length]; exact hi)
  · exact ⟨fun x hx => by simp at hx, Nat.zero_le _⟩
end Go.Proofs.Ytkpkifghjkmhoaa
