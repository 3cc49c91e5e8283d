
/- The program's numbers read out of words. Only new blocks are made. -/
import Derived.Test.YtcmbaclkfnecbaaDoorNumP
import Derived.Test.YtcmbaclkfnecbaaDoorSplit
import Derived.Test.YtcmbaclkfnecbaaDoorName
namespace Go.Proofs.YtcmbaclkfnecbaaDoor
open Go.ChangeShapes Go.WideShapes Go.ChangeAt Go.RowKit
set_option linter.unusedVariables false
set_option maxRecDepth 100000

/-- The pieces P lie in cells from off on in block g. -/
structure PiecesAt (w : World) (g off : Nat) (P : List (List UInt8)) : Prop where
  lt : g < w.heap.size
  cell : ∀ j (h : j < P.length), w.cell? ⟨g, off + j, none⟩ = some (encS P[j])
theorem PiecesAt.keep {w w1 : World} {g off : Nat} {P : List (List UInt8)} (h : PiecesAt w g off P) (hB : Below w.heap.size w w1) : PiecesAt w1 g off P :=
  ⟨Nat.lt_of_lt_of_le h.lt hB.size, fun j hj => (hB.cell (p := ⟨g, off + j, none⟩) h.lt).trans (h.cell j hj)⟩

def numsD (P : List (List UInt8)) : Option (List Int) := if P.all (fun l => (numD l).isSome) then some (P.map fun l => (numD l).getD 0) else none
theorem numsD_no {P : List (List UInt8)} {j : Nat} (hj : j < P.length) (h : numD P[j] = none) : numsD P = none := by
  unfold numsD
  rw [if_neg]
  intro e
  rw [List.all_eq_true] at e
  have := e P[j] (List.getElem_mem hj)
  rw [h] at this
  cases this
theorem numsD_yes {P : List (List UInt8)} (h : ∀ j (hj : j < P.length), ∃ v, numD P[j] = some v) : numsD P = some (P.map fun l => (numD l).getD 0) := by
  unfold numsD
  rw [if_pos]
  rw [List.all_eq_true]
  intro l hl
  obtain ⟨j, hj, rfl⟩ := List.getElem_of_mem hl
  obtain ⟨v, hv⟩ := h j hj
  rw [hv]; rfl

def MadeNums (o : Option (List Int)) (N : Nat) (w : World) (e : Ending) (w' : World) : Prop :=
  Below w.heap.size w w' ∧ ((o = none ∧ e = .returned (.tuple #[.slice none 0 0, .bool false])) ∨ ∃ ns, o = some ns ∧ ns.length = N ∧ e = .returned (.tuple #[.slice (some ⟨w.heap.size, 0, none⟩) N N, .bool true]) ∧ Nums0 w' w.heap.size ns)

theorem readdecs_len (q : Option Addr) (len cap : Nat) (N : Nat) (w : World) (h : len ≠ N) (hm : len ≤ maxLen) : Calls Tryd.prog 40 #[.slice q len cap, .int .i64 N] w fun e w' => e = .returned (.tuple #[.slice none 0 0, .bool false]) ∧ w = w' := by
  unfold maxLen at hm
  have hne : ((len : Int) == (N : Int)) = false := by rw [beq_eq_false_iff_ne]; omega
  clear h
  go_enter Tryd.func40, Tryd.ntmps40
  go_wp2
  go_ret2
  exact ⟨rfl, rfl⟩

set_option maxHeartbeats 4000000 in
theorem readdecs_any (g off c N : Nat) (P : List (List UInt8)) (w : World) (hN : P.length = N) (hl : N ≤ 4) (hc : N ≤ c) (h : PiecesAt w g off P) (hP : ∀ x ∈ P, x.length ≤ 1048576) (hT : TabsR w) :
    Calls Tryd.prog 40 #[.slice (some ⟨g, off, none⟩) N c, .int .i64 N] w (MadeNums (numsD P) N w) := by
  obtain ⟨i0, hi, hz0, hz1, hz2⟩ : ∃ i0, Tryd.prog.info? 2 = some i0 ∧ i0.zero = some (.int .i64 0) ∧ i0.size = 1 ∧ i0.bytes = 8 := by
    have h : (Tryd.prog.info? 2).map (fun i => (i.zero, i.size, i.bytes)) = some (some (.int .i64 0), 1, 8) := by kernel_rfl
    obtain ⟨i, hi, he⟩ := Option.map_eq_some_iff.1 h
    simp only [Prod.mk.injEq] at he
    exact ⟨i, hi, he.1, he.2.1, he.2.2⟩
  have HN := Lib.hid hN
  have HS := Lib.hid h
  have HT := Lib.hid hT
  have HPP := Lib.hid hP
  clear hN h hT hP
  go_enter Tryd.func40, Tryd.ntmps40
  go_wp2_with (at_make; refine wpList_make_full _ rfl _ _ 59 rfl w.heap.size 2 i0 _ 1 Tryd.underlying59 hi hz0 hz1 .i64 .i64 _ _ N rfl rfl rfl rfl (by rw [hz2]; omega) (by unfold maxLen; omega) (Nat.le_refl _) ?_; intro w1 hown hgrow)
  obtain ⟨cur0, hrow0, hsz0⟩ : ∃ cur, Row w1 w.heap.size 2 cur ∧ cur.size = N := by
    rcases hown.2 with ⟨h, _⟩ | ⟨g, cp, cur, hv, _, hh, _, _, hs, _⟩
    · simp at h
    · simp only [Value.slice.injEq, Option.some.injEq, Addr.mk.injEq, true_and, and_true] at hv
      obtain ⟨rfl, rfl⟩ := hv
      exact ⟨cur, hh, by omega⟩
  have HB0 := Lib.hid ((Below.refl w.heap.size w).grown hgrow (Nat.le_refl _) (by simp))
  have HR0 := Lib.hid hrow0
  have HS0 := Lib.hid hsz0
  clear hown hgrow hrow0 hsz0
  go_loopw [19] (fun i wr => ∃ k : Nat, k ≤ N ∧ i = .int .i64 k ∧ Hid (Below w.heap.size w wr ∧ ∃ cur, Row wr w.heap.size 2 cur ∧ cur.size = N ∧ ∀ j, (hj : j < P.length) → j < k → ∃ v, numD P[j] = some v ∧ cur[j]? = some (.int .i64 v))) (fun i _ => N - (intOf i).toNat)
  case atStart => exact ⟨0, Nat.zero_le _, rfl, HB0.out, cur0, HR0.out, HS0.out, fun j hj hk => by omega⟩
  case round =>
    obtain ⟨k, hk, rfl, HW⟩ := hrel
    clear HB0 HR0 HS0
    by_cases hlt : k < N
    · have hkl : k < P.length := by rw [HN.out]; exact hlt
      have c0 := (HW.out.1.cell (p := ⟨g, off + k, none⟩) HS.out.lt).trans (HS.out.cell k hkl)
      have HPK := Lib.hid (HPP.out P[k] (List.getElem_mem _))
      obtain ⟨x, hx⟩ : ∃ x, P[k] = x := ⟨_, rfl⟩
      rw [hx] at c0 HPK
      have HX := Lib.hid hx
      have HKL := Lib.hid hkl
      clear hx
      unfold encS at c0
      have hgne : g ≠ w.heap.size := Nat.ne_of_lt HS.out.lt
      have hi0 : (0 : Int) ≤ (k : Int) := by omega
      have hi1 : (k : Int) < (N : Int) := by omega
      have HD := decimalof_any ⟨x.toArray⟩ wr (by simpa [ByteArray.size] using HPK.out) (HT.out.keep HW.out.1)
      have he : (⟨x.toArray⟩ : ByteArray).data.toList = x := by simp
      rw [he] at HD
      cases hq : numD x with
      | none =>
        have HR := Lib.hid (numsD_no HKL.out (by rw [HX.out]; exact hq))
        rw [hq] at HD
        have HD := Lib.hid HD
        clear hq he
        go_wp2_with fail
        refine HD.out.mono ?_
        rintro e w2 ⟨rfl, hB⟩
        have HB := Lib.hid (below_via HW.out.1 hB)
        clear hB c0
        go_wp2
        go_ret2
        exact ⟨HB.out, .inl ⟨HR.out, rfl⟩⟩
      | some v =>
        have HQ := Lib.hid hq
        rw [hq] at HD
        have HD := Lib.hid HD
        clear hq he
        go_wp2_with fail
        refine HD.out.mono ?_
        rintro e w2 ⟨rfl, hB⟩
        obtain ⟨hb0, cur, hr, hs, hla⟩ := HW.out
        have hr2 := hr.keep hB
        have hA0 := hr2.cell (j := k) (by omega)
        have hf0 := hr2.free k
        have HB := Lib.hid (below_via hb0 hB)
        have HR2 := Lib.hid hr2
        have HS1 := Lib.hid hs
        have HL := Lib.hid hla
        generalize cur[k] = x0 at hA0
        clear hr hr2 hs hla hb0 hB HW c0
        go_wp2
        go_roundw
        case rel =>
          refine ⟨k + 1, by omega, by go_num, HB.out.setCell (Nat.le_refl _) _, _, HR2.out.set _ _, by simpa using HS1.out, fun j hj hjk => ?_⟩
          rcases Nat.lt_or_ge j k with hlt2 | hge
          · obtain ⟨u, h1, h2⟩ := HL.out j hj hlt2
            exact ⟨u, h1, by rw [Array.getElem?_setIfInBounds_ne (by omega)]; exact h2⟩
          · obtain rfl : j = k := by omega
            exact ⟨v, by rw [HX.out]; exact HQ.out, by rw [Array.getElem?_setIfInBounds_self_of_lt (by rw [HS1.out]; exact hlt)]⟩
        case measure => simp [intOf]; omega
    · obtain rfl : k = N := by omega
      obtain ⟨hb0, cur, hr, hs, hla⟩ := HW.out
      have HB := Lib.hid hb0
      have hall : ∀ j (hj : j < P.length), ∃ v, numD P[j] = some v := fun j hj => by
        obtain ⟨v, hv, _⟩ := hla j hj (by rw [← HN.out]; exact hj)
        exact ⟨v, hv⟩
      have HR := Lib.hid (numsD_yes hall)
      have HNU := Lib.hid (show Nums0 wr w.heap.size (P.map fun l => (numD l).getD 0) from ⟨hr.lt, fun j hj => by
        have hj2 : j < P.length := by simpa using hj
        obtain ⟨v, hv, hc⟩ := hla j hj2 (by rw [← HN.out]; exact hj2)
        have h2 := hr
        unfold Row at h2
        simp [World.cell?, h2, hc, hv]⟩)
      have HLN := Lib.hid (show (P.map fun l => (numD l).getD 0).length = k by simp [HN.out])
      clear hb0 hr hs hla hall HW
      go_wp2
      go_ret2
      exact ⟨HB.out, .inr ⟨_, HR.out, HLN.out, rfl, HNU.out⟩⟩
end Go.Proofs.YtcmbaclkfnecbaaDoor
