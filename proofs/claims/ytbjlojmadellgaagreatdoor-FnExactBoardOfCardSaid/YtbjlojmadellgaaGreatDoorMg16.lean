/- Texts put together, as a claim holds at most sixty files. -/
import Derived.Test.YtbjlojmadellgaaGreatDoorNumP
import Derived.Test.YtbjlojmadellgaaGreatDoorSplit
import Derived.Test.YtbjlojmadellgaaGreatDoorMg10
namespace Go.Proofs.YtbjlojmadellgaaGreatDoor
open Go.ChangeShapes Go.WideShapes Go.ChangeAt Go.RowKit
set_option linter.unusedVariables false
set_option maxRecDepth 100000

/-- The pieces P lie in cells from off on in block g. -/
structure PiecesAt (w : World) (g off : Nat) (P : List (List UInt8)) : Prop where
  lt : g < w.heap.size
  cell : ∀ j (h : j < P.length), w.cell? ⟨g, off + j, none⟩ = some (encS P[j])
theorem PiecesAt.keep {w w1 : World} {g off : Nat} {P : List (List UInt8)} (h : PiecesAt w g off P) (hB : Below w.heap.size w w1) : PiecesAt w1 g off P :=
  ⟨Nat.lt_of_lt_of_le h.lt hB.size, fun j hj => (hB.cell (p := ⟨g, off + j, none⟩) h.lt).trans (h.cell j hj)⟩

def numsD (P : List (List UInt8)) : Option (List Int) := if P.all (fun l => (numD l).isSome) then some (P.map fun l => (numD l).getD 0) else none
theorem numsD_no {P : List (List UInt8)} {j : Nat} (hj : j < P.length) (h : numD P[j] = none) : numsD P = none := by
  unfold numsD
  rw [if_neg]
  intro e
  rw [List.all_eq_true] at e
  have := e P[j] (List.getElem_mem hj)
  rw [h] at this
  cases this
theorem numsD_yes {P : List (List UInt8)} (h : ∀ j (hj : j < P.length), ∃ v, numD P[j] = some v) : numsD P = some (P.map fun l => (numD l).getD 0) := by
  unfold numsD
  rw [if_pos]
  rw [List.all_eq_true]
  intro l hl
  obtain ⟨j, hj, rfl⟩ := List.getElem_of_mem hl
  obtain ⟨v, hv⟩ := h j hj
  rw [hv]; rfl

def MadeNums (o : Option (List Int)) (N : Nat) (w : World) (e : Ending) (w' : World) : Prop :=
  Below w.heap.size w w' ∧ ((o = none ∧ e = .returned (.tuple #[.slice none 0 0, .bool false])) ∨ ∃ ns, o = some ns ∧ ns.length = N ∧ e = .returned (.tuple #[.slice (some ⟨w.heap.size, 0, none⟩) N N, .bool true]) ∧ Nums0 w' w.heap.size ns)

theorem readdecs_len (q : Option Addr) (len cap : Nat) (N : Nat) (w : World) (h : len ≠ N) (hm : len ≤ maxLen) : Calls Tryz.prog 94 #[.slice q len cap, .int .i64 N] w fun e w' => e = .returned (.tuple #[.slice none 0 0, .bool false]) ∧ w = w' := by
  unfold maxLen at hm
  have hne : ((len : Int) == (N : Int)) = false := by rw [beq_eq_false_iff_ne]; omega
  clear h
  go_enter Tryz.func94, Tryz.ntmps94
  go_wp2
  go_ret2
  exact ⟨rfl, rfl⟩

set_option maxHeartbeats 4000000 in
theorem readdecs_any (g off c N : Nat) (P : List (List UInt8)) (w : World) (hN : P.length = N) (hl : N ≤ 4) (hc : N ≤ c) (h : PiecesAt w g off P) (hP : ∀ x ∈ P, x.length ≤ 1048576) (hT : TabsR w) :
    Calls Tryz.prog 94 #[.slice (some ⟨g, off, none⟩) N c, .int .i64 N] w (MadeNums (numsD P) N w) := by
  obtain ⟨i0, hi, hz0, hz1, hz2⟩ : ∃ i0, Tryz.prog.info? 2 = some i0 ∧ i0.zero = some (.int .i64 0) ∧ i0.size = 1 ∧ i0.bytes = 8 := by
    have h : (Tryz.prog.info? 2).map (fun i => (i.zero, i.size, i.bytes)) = some (some (.int .i64 0), 1, 8) := by kernel_rfl
    obtain ⟨i, hi, he⟩ := Option.map_eq_some_iff.1 h
    simp only [Prod.mk.injEq] at he
    exact ⟨i, hi, he.1, he.2.1, he.2.2⟩
  have HN := Lib.hid hN
  have HS := Lib.hid h
  have HT := Lib.hid hT
  have HPP := Lib.hid hP
  clear hN h hT hP
  go_enter Tryz.func94, Tryz.ntmps94
  go_wp2_with (at_make; refine wpList_make_full _ rfl _ _ 111 rfl w.heap.size 2 i0 _ 1 Tryz.underlying111 hi hz0 hz1 .i64 .i64 _ _ N rfl rfl rfl rfl (by rw [hz2]; omega) (by unfold maxLen; omega) (Nat.le_refl _) ?_; intro w1 hown hgrow)
  obtain ⟨cur0, hrow0, hsz0⟩ : ∃ cur, Row w1 w.heap.size 2 cur ∧ cur.size = N := by
    rcases hown.2 with ⟨h, _⟩ | ⟨g, cp, cur, hv, _, hh, _, _, hs, _⟩
    · simp at h
    · simp only [Value.slice.injEq, Option.some.injEq, Addr.mk.injEq, true_and, and_true] at hv
      obtain ⟨rfl, rfl⟩ := hv
      exact ⟨cur, hh, by omega⟩
  have HB0 := Lib.hid ((Below.refl w.heap.size w).grown hgrow (Nat.le_refl _) (by simp))
  have HR0 := Lib.hid hrow0
  have HS0 := Lib.hid hsz0
  clear hown hgrow hrow0 hsz0
  go_loopw [19] (fun i wr => ∃ k : Nat, k ≤ N ∧ i = .int .i64 k ∧ Hid (Below w.heap.size w wr ∧ ∃ cur, Row wr w.heap.size 2 cur ∧ cur.size = N ∧ ∀ j, (hj : j < P.length) → j < k → ∃ v, numD P[j] = some v ∧ cur[j]? = some (.int .i64 v))) (fun i _ => N - (intOf i).toNat)
  case atStart => exact ⟨0, Nat.zero_le _, rfl, HB0.out, cur0, HR0.out, HS0.out, fun j hj hk => by omega⟩
  case round =>
    obtain ⟨k, hk, rfl, HW⟩ := hrel
    clear HB0 HR0 HS0
    by_cases hlt : k < N
    · have hkl : k < P.length := by rw [HN.out]; exact hlt
      have c0 := (HW.out.1.cell (p := ⟨g, off + k, none⟩) HS.out.lt).trans (HS.out.cell k hkl)
      have HPK := Lib.hid (HPP.out P[k] (List.getElem_mem _))
      obtain ⟨x, hx⟩ : ∃ x, P[k] = x := ⟨_, rfl⟩
      rw [hx] at c0 HPK
      have HX := Lib.hid hx
      have HKL := Lib.hid hkl
      clear hx
      unfold encS at c0
      have hgne : g ≠ w.heap.size := Nat.ne_of_lt HS.out.lt
      have hi0 : (0 : Int) ≤ (k : Int) := by omega
      have hi1 : (k : Int) < (N : Int) := by omega
      have HD := decimalof_any ⟨x.toArray⟩ wr (by simpa [ByteArray.size] using HPK.out) (HT.out.keep HW.out.1)
      have he : (⟨x.toArray⟩ : ByteArray).data.toList = x := by simp
      rw [he] at HD
      cases hq : numD x with
      | none =>
        have HR := Lib.hid (numsD_no HKL.out (by rw [HX.out]; exact hq))
        rw [hq] at HD
        have HD := Lib.hid HD
        clear hq he
        go_wp2_with fail
        refine HD.out.mono ?_
        rintro e w2 ⟨rfl, hB⟩
        have HB := Lib.hid (below_via HW.out.1 hB)
        clear hB c0
        go_wp2
        go_ret2
        exact ⟨HB.out, .inl ⟨HR.out, rfl⟩⟩
      | some v =>
        have HQ := Lib.hid hq
        rw [hq] at HD
        have HD := Lib.hid HD
        clear hq he
        go_wp2_with fail
        refine HD.out.mono ?_
        rintro e w2 ⟨rfl, hB⟩
        obtain ⟨hb0, cur, hr, hs, hla⟩ := HW.out
        have hr2 := hr.keep hB
        have hA0 := hr2.cell (j := k) (by omega)
        have hf0 := hr2.free k
        have HB := Lib.hid (below_via hb0 hB)
        have HR2 := Lib.hid hr2
        have HS1 := Lib.hid hs
        have HL := Lib.hid hla
        generalize cur[k] = x0 at hA0
        clear hr hr2 hs hla hb0 hB HW c0
        go_wp2
        go_roundw
        case rel =>
          refine ⟨k + 1, by omega, by go_num, HB.out.setCell (Nat.le_refl _) _, _, HR2.out.set _ _, by simpa using HS1.out, fun j hj hjk => ?_⟩
          rcases Nat.lt_or_ge j k with hlt2 | hge
          · obtain ⟨u, h1, h2⟩ := HL.out j hj hlt2
            exact ⟨u, h1, by rw [Array.getElem?_setIfInBounds_ne (by omega)]; exact h2⟩
          · obtain rfl : j = k := by omega
            exact ⟨v, by rw [HX.out]; exact HQ.out, by rw [Array.getElem?_setIfInBounds_self_of_lt (by rw [HS1.out]; exact hlt)]⟩
        case measure => simp [intOf]; omega
    · obtain rfl : k = N := by omega
      obtain ⟨hb0, cur, hr, hs, hla⟩ := HW.out
      have HB := Lib.hid hb0
      have hall : ∀ j (hj : j < P.length), ∃ v, numD P[j] = some v := fun j hj => by
        obtain ⟨v, hv, _⟩ := hla j hj (by rw [← HN.out]; exact hj)
        exact ⟨v, hv⟩
      have HR := Lib.hid (numsD_yes hall)
      have HNU := Lib.hid (show Nums0 wr w.heap.size (P.map fun l => (numD l).getD 0) from ⟨hr.lt, fun j hj => by
        have hj2 : j < P.length := by simpa using hj
        obtain ⟨v, hv, hc⟩ := hla j hj2 (by rw [← HN.out]; exact hj2)
        have h2 := hr
        unfold Row at h2
        simp [World.cell?, h2, hc, hv]⟩)
      have HLN := Lib.hid (show (P.map fun l => (numD l).getD 0).length = k by simp [HN.out])
      clear hb0 hr hs hla hall HW
      go_wp2
      go_ret2
      exact ⟨HB.out, .inr ⟨_, HR.out, HLN.out, rfl, HNU.out⟩⟩
end Go.Proofs.YtbjlojmadellgaaGreatDoor
namespace Go.Proofs.YtbjlojmadellgaaGreatDoor
set_option linter.unusedVariables false

theorem split3 {c : UInt8} {a b d : List UInt8} (ha : noC c a) (hb : noC c b) (hd : noC c d) : splitL c (a ++ c :: (b ++ c :: d)) = [a, b, d] := by
  rw [splitL_at c _ _ ha, splitL_at c _ _ hb, splitL_no c _ hd]
theorem joinL_of (c : UInt8) : ∀ (n : Nat) (l : List UInt8), l.length ≤ n → ∀ x y z, splitL c l = [x, y, z] → l = x ++ c :: (y ++ c :: z) := by
  intro n l _ x y z h
  rcases splitL_form c l with h1 | ⟨a, b, rfl, h1⟩
  · rw [splitL_no c l h1] at h; simp at h
  · rw [splitL_at c a b h1] at h
    injection h with e1 e2
    subst e1
    rcases splitL_form c b with h2 | ⟨a2, b2, rfl, h2⟩
    · rw [splitL_no c b h2] at e2; simp at e2
    · rw [splitL_at c a2 b2 h2] at e2
      injection e2 with e3 e4
      subst e3
      rcases splitL_form c b2 with h3 | ⟨a3, b3, rfl, h3⟩
      · rw [splitL_no c b2 h3] at e4
        injection e4 with e5 _
        rw [e5]
      · rw [splitL_at c a3 b3 h3] at e4
        injection e4 with _ e5
        exact absurd e5 (splitL_ne c b3)
theorem blank_no (v : Int) : noC 32 (Lib.itoa v) := itoa_noC 32 (by decide) v
theorem cat3_list (a b c : ByteArray) : (cat3 a b c).data.toList = a.data.toList ++ 32 :: (b.data.toList ++ 32 :: c.data.toList) := by simp [cat3]
theorem cat3_split (a e u : Int) : splitL 32 (cat3 (decB a) (decB e) (decB u)).data.toList = [Lib.itoa a, Lib.itoa e, Lib.itoa u] := by
  rw [cat3_list, decB_list, decB_list, decB_list, split3 (blank_no _) (blank_no _) (blank_no _)]

/-- What is read of a text as a claim. -/
def rclaim (s : List UInt8) : Option (Int × Int × Int) :=
  match splitL 32 s with
  | [x, y, z] => match numD x, numD y, numD z with
    | some a, some e, some u => if claimB a e u then some (a, e, u) else none
    | _, _, _ => none
  | _ => none
theorem rclaim_iff {s : ByteArray} {a e u : Int} : rclaim s.data.toList = some (a, e, u) ↔ claimB a e u = true ∧ cat3 (decB a) (decB e) (decB u) = s := by
  constructor
  · intro h
    unfold rclaim at h
    split at h
    · rename_i x y z hs
      split at h
      · rename_i a1 e1 u1 ha he hu
        split at h
        · rename_i hc
          simp only [Option.some.injEq, Prod.mk.injEq] at h
          obtain ⟨rfl, rfl, rfl⟩ := h
          refine ⟨hc, ba_eq ?_⟩
          rw [cat3_list, decB_list, decB_list, decB_list, (numD_iff.1 ha).1, (numD_iff.1 he).1, (numD_iff.1 hu).1]
          exact (joinL_of 32 _ _ (Nat.le_refl _) x y z hs).symm
        · cases h
      · cases h
    · cases h
  · rintro ⟨hc, rfl⟩
    have hb := claimB_iff.1 hc
    unfold rclaim
    rw [cat3_split]
    simp only
    rw [numD_itoa (by omega) (by omega), numD_itoa (by omega) (by omega), numD_itoa (by omega) (by omega)]
    simp only
    rw [if_pos hc]
theorem claimTx_eq {s : ByteArray} {a e u : Int} (hs : 1 < (splitL 32 s.data.toList).length) : claimTx a e u = s ↔ rclaim s.data.toList = some (a, e, u) := by
  rw [rclaim_iff]
  unfold claimTx
  cases hc : claimB a e u with
  | true => simp
  | false =>
    simp only [Bool.false_eq_true, if_false, false_and, iff_false]
    rintro rfl
    exact absurd hs (by decide)
theorem dec_small {v : Int} {k : Nat} (hk : 1 ≤ k) (h0 : 0 ≤ v) (h1 : v.toNat < 10 ^ k) : (decB v).size ≤ k := by
  have := itoa_len_k k hk h0 h1
  simpa [decB, ByteArray.size] using this
theorem rclaim_size {s : ByteArray} {a e u : Int} (h : rclaim s.data.toList = some (a, e, u)) : s.size ≤ 40 := by
  obtain ⟨hc, rfl⟩ := rclaim_iff.1 h
  have hb := claimB_iff.1 hc
  have h1 := @dec_small a 1 (by decide) (by omega) (by omega)
  have h2 := @dec_small e 7 (by decide) (by omega) (by omega)
  have h3 := @dec_small u 7 (by decide) (by omega) (by omega)
  unfold cat3
  rw [ByteArray.size_append, ByteArray.size_append, ByteArray.size_append, ByteArray.size_append]
  show _ + 1 + _ + 1 + _ ≤ 40
  omega
theorem rclaim_long {s : ByteArray} (h : 40 < s.size) : rclaim s.data.toList = none := by
  cases hr : rclaim s.data.toList with
  | none => rfl
  | some x => exact absurd (rclaim_size (s := s) hr) (by omega)
theorem rclaim_count {s : List UInt8} (h : (splitL 32 s).length ≠ 3) : rclaim s = none := by
  unfold rclaim
  split
  · rename_i x y z hs
    rw [hs] at h
    simp at h
  · rfl
theorem rclaim_nums_no {s x y z : List UInt8} (h : splitL 32 s = [x, y, z]) (hn : numsD [x, y, z] = none) : rclaim s = none := by
  unfold rclaim
  rw [h]
  simp only
  cases h1 : numD x with
  | none => rfl
  | some a =>
    cases h2 : numD y with
    | none => rfl
    | some b =>
      cases h3 : numD z with
      | none => rfl
      | some c =>
        unfold numsD at hn
        simp [h1, h2, h3] at hn
theorem rclaim_nums {s x y z : List UInt8} {a e u : Int} (h : splitL 32 s = [x, y, z]) (hn : numsD [x, y, z] = some [a, e, u]) : rclaim s = if claimB a e u then some (a, e, u) else none := by
  unfold numsD at hn
  split at hn
  · rename_i hall
    simp only [List.all_cons, List.all_nil, Bool.and_true, Bool.and_eq_true, Option.isSome_iff_exists] at hall
    obtain ⟨⟨a1, ha⟩, ⟨e1, he⟩, ⟨u1, hu⟩⟩ := hall
    simp only [List.map_cons, List.map_nil, ha, he, hu, Option.getD_some, Option.some.injEq, List.cons.injEq, and_true] at hn
    obtain ⟨rfl, rfl, rfl⟩ := hn
    unfold rclaim
    rw [h]
    simp only [ha, he, hu]
  · cases hn
theorem three {α : Type} {l : List α} (h : l.length = 3) : ∃ x y z, l = [x, y, z] := by
  match l, h with
  | [x, y, z], _ => exact ⟨x, y, z, rfl⟩
theorem splitL_len (c : UInt8) : ∀ (l : List UInt8), ∀ x ∈ splitL c l, x.length ≤ l.length
  | [], x, hx => by simp [splitL] at hx; subst hx; simp
  | y :: t, x, hx => by
    have ih := splitL_len c t
    unfold splitL at hx
    split at hx
    · rcases List.mem_cons.1 hx with e | e
      · subst e; simp
      · have := ih x e; simp; omega
    · split at hx
      · rename_i w ws hw
        rcases List.mem_cons.1 hx with e | e
        · subst e
          have := ih w (by rw [hw]; simp)
          simp; omega
        · have := ih x (by rw [hw]; simp [e])
          simp; omega
      · simp at hx; subst hx; simp
end Go.Proofs.YtbjlojmadellgaaGreatDoor
namespace Go.Proofs.YtbjlojmadellgaaGreatDoor
set_option linter.unusedVariables false

def okW : List UInt8 := [111, 107]
def failW : List UInt8 := [102, 97, 105, 108, 101, 100]
def wordM (b : Bool) : List UInt8 := if b then okW else failW
def mk3 (b : Bool) (e k : Int) : ByteArray := (if b then okTx else failTx) ++ decB e ++ ⟨#[32]⟩ ++ decB k
theorem mk3_list (b : Bool) (e k : Int) : (mk3 b e k).data.toList = wordM b ++ 32 :: (Lib.itoa e ++ 32 :: Lib.itoa k) := by
  cases b <;> simp [mk3, wordM, okTx, failTx, okW, failW, decB]
theorem wordM_no (b : Bool) : noC 32 (wordM b) := by
  cases b
  · intro x hx; simp [wordM, failW] at hx; rcases hx with h | h | h | h | h | h <;> subst h <;> decide
  · intro x hx; simp [wordM, okW] at hx; rcases hx with h | h <;> subst h <;> decide
theorem mk3_split (b : Bool) (e k : Int) : splitL 32 (mk3 b e k).data.toList = [wordM b, Lib.itoa e, Lib.itoa k] := by
  rw [mk3_list, split3 (wordM_no b) (blank_no _) (blank_no _)]
def isOk (x : List UInt8) : Bool := x == okW
def isWord (x : List UInt8) : Bool := x == okW || x == failW
theorem isOk_word (b : Bool) : isOk (wordM b) = b := by cases b <;> decide
theorem isWord_word (b : Bool) : isWord (wordM b) = true := by cases b <;> decide
theorem word_of {x : List UInt8} (h : isWord x = true) : x = wordM (isOk x) := by
  unfold isWord at h
  simp only [Bool.or_eq_true, beq_iff_eq] at h
  rcases h with rfl | rfl <;> decide

/-- What is read of a text as a mark. -/
def rmark (s : List UInt8) : Option (Bool × Int × Int) :=
  match splitL 32 s with
  | [x, y, z] => match numD y, numD z with
    | some e, some k => if isWord x = true ∧ markB e k = true then some (isOk x, e, k) else none
    | _, _ => none
  | _ => none
theorem rmark_iff {s : ByteArray} {b : Bool} {e k : Int} : rmark s.data.toList = some (b, e, k) ↔ markB e k = true ∧ mk3 b e k = s := by
  constructor
  · intro h
    unfold rmark at h
    split at h
    · rename_i x y z hs
      split at h
      · rename_i e1 k1 he hk
        split at h
        · rename_i hc
          simp only [Option.some.injEq, Prod.mk.injEq] at h
          obtain ⟨rfl, rfl, rfl⟩ := h
          refine ⟨hc.2, ba_eq ?_⟩
          rw [mk3_list, (numD_iff.1 he).1, (numD_iff.1 hk).1, ← word_of hc.1]
          exact (joinL_of 32 _ _ (Nat.le_refl _) x y z hs).symm
        · cases h
      · cases h
    · cases h
  · rintro ⟨hc, rfl⟩
    have hb := markB_iff.1 hc
    unfold rmark
    rw [mk3_split]
    simp only
    rw [numD_itoa (by omega) (by omega), numD_itoa (by omega) (by omega)]
    simp only
    rw [if_pos ⟨isWord_word b, hc⟩, isOk_word]
theorem markTx_eq {s : ByteArray} {b : Bool} {e k : Int} (hs : 1 < (splitL 32 s.data.toList).length) : markTx b e k = s ↔ rmark s.data.toList = some (b, e, k) := by
  rw [rmark_iff]
  unfold markTx mk3
  cases hc : markB e k with
  | true => simp
  | false =>
    simp only [Bool.false_eq_true, if_false, false_and, iff_false]
    rintro rfl
    exact absurd hs (by decide)
theorem rmark_size {s : ByteArray} {b : Bool} {e k : Int} (h : rmark s.data.toList = some (b, e, k)) : s.size ≤ 40 := by
  obtain ⟨hc, rfl⟩ := rmark_iff.1 h
  have hb := markB_iff.1 hc
  have h2 := @dec_small e 7 (by decide) (by omega) (by omega)
  have h3 := @dec_small k 1 (by decide) (by omega) (by omega)
  have h4 : (if b then okTx else failTx).size ≤ 7 := by cases b <;> decide
  unfold mk3
  rw [ByteArray.size_append, ByteArray.size_append, ByteArray.size_append]
  show _ + _ + 1 + _ ≤ 40
  omega
theorem rmark_long {s : ByteArray} (h : 40 < s.size) : rmark s.data.toList = none := by
  cases hr : rmark s.data.toList with
  | none => rfl
  | some x => exact absurd (rmark_size (s := s) hr) (by omega)
theorem rmark_count {s : List UInt8} (h : (splitL 32 s).length ≠ 3) : rmark s = none := by
  unfold rmark
  split
  · rename_i x y z hs
    rw [hs] at h
    simp at h
  · rfl
theorem rmark_nums_no {s x y z : List UInt8} (h : splitL 32 s = [x, y, z]) (hn : numsD [y, z] = none) : rmark s = none := by
  unfold rmark
  rw [h]
  simp only
  cases h2 : numD y with
  | none => rfl
  | some b =>
    cases h3 : numD z with
    | none => rfl
    | some c =>
      unfold numsD at hn
      simp [h2, h3] at hn
theorem rmark_nums {s x y z : List UInt8} {e k : Int} (h : splitL 32 s = [x, y, z]) (hn : numsD [y, z] = some [e, k]) : rmark s = if isWord x = true ∧ markB e k = true then some (isOk x, e, k) else none := by
  unfold numsD at hn
  split at hn
  · rename_i hall
    simp only [List.all_cons, List.all_nil, Bool.and_true, Bool.and_eq_true, Option.isSome_iff_exists] at hall
    obtain ⟨⟨e1, he⟩, ⟨u1, hu⟩⟩ := hall
    simp only [List.map_cons, List.map_nil, he, hu, Option.getD_some, Option.some.injEq, List.cons.injEq, and_true] at hn
    obtain ⟨rfl, rfl⟩ := hn
    unfold rmark
    rw [h]
    simp only [he, hu]
  · cases hn
theorem two {α : Type} {l : List α} (h : l.length = 2) : ∃ x y, l = [x, y] := by
  match l, h with
  | [x, y], _ => exact ⟨x, y, rfl⟩
end Go.Proofs.YtbjlojmadellgaaGreatDoor
