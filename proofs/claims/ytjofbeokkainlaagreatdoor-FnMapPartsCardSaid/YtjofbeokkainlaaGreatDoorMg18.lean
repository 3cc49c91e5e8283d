/- Texts put together, as a claim holds at most sixty files. -/
import Derived.Test.YtjofbeokkainlaaGreatDoorMg1
import Derived.Test.YtjofbeokkainlaaGreatDoorMg2
import Derived.Test.YtjofbeokkainlaaGreatDoorMg12
namespace Go.Proofs.YtjofbeokkainlaaGreatDoor
open Go.ChangeShapes Go.WideShapes Go.ChangeAt Go.RowKit
set_option linter.unusedVariables false
set_option maxRecDepth 100000

set_option maxHeartbeats 1000000 in
theorem samerun_same (a1 a2 : Option Addr) (len cap1 cap2 : Nat) (l : Recs) (w : World) (h1 : RecsAt w a1 len l) (h2 : RecsAt w a2 len l) :
    Calls Tryz.prog 12 #[.slice a1 len cap1, .slice a2 len cap2] w (MadeBool true w) := by
  have hm := h1.max
  unfold maxLen at hm
  have HR1 := Lib.hid h1
  have HR2 := Lib.hid h2
  clear h1 h2
  go_enter Tryz.func12, Tryz.ntmps12
  go_wp2
  go_loopw [5] (fun i wr => ∃ k : Nat, k ≤ len ∧ i = .int .i64 k ∧ Hid (Below w.heap.size w wr)) (fun i _ => len - (intOf i).toNat)
  case atStart => exact ⟨0, Nat.zero_le _, rfl, Below.refl _ _⟩
  case round =>
    obtain ⟨k, hk, rfl, HW⟩ := hrel
    by_cases hlt : k < len
    · rcases HR1.out.src with hz | ⟨b1, off1, rfl, hb1, hc1⟩
      · omega
      · rcases HR2.out.src with hz | ⟨b2, off2, rfl, hb2, hc2⟩
        · omega
        · have c0 := (HW.out.cell (p := ⟨b1, off1 + k * 2, none⟩) hb1).trans (hc1 k hlt).1
          have c1 := (HW.out.cell (p := ⟨b1, off1 + k * 2 + 1, none⟩) hb1).trans (hc1 k hlt).2
          have d0 := (HW.out.cell (p := ⟨b2, off2 + k * 2, none⟩) hb2).trans (hc2 k hlt).1
          have d1 := (HW.out.cell (p := ⟨b2, off2 + k * 2 + 1, none⟩) hb2).trans (hc2 k hlt).2
          have hi1 : (k : Int) < (len : Int) := by omega
          have hi0 : (0 : Int) ≤ (k : Int) := by omega
          clear hc1 hc2 hb1 hb2
          go_wp2_with fail
          go_quiet (fail)
          go_wp2
          go_roundw
          case rel => exact ⟨k + 1, by omega, by go_num, below_drewN HW.out _⟩
          case measure => simp [intOf]; omega
    · go_wp2
      go_ret
      exact ⟨rfl, HW.out⟩
end Go.Proofs.YtjofbeokkainlaaGreatDoor
namespace Go.Proofs.YtjofbeokkainlaaGreatDoor
open Go.ChangeShapes Go.WideShapes Go.ChangeAt Go.RowKit
set_option linter.unusedVariables false
set_option maxRecDepth 100000

def lessAt (l : Recs) (i j : Nat) : Bool := lessB (keyAt l i) (numAt l i) (keyAt l j) (numAt l j)
def badAt (l : Recs) (i : Nat) : Bool := decide (0 < i) && lessAt l i (i - 1)
def okAt (l : Recs) (i : Nat) : Bool := okB (keyAt l i)
/-- Whether l is a run: few, valid, in order. -/
def runOkB (l : Recs) : Bool := decide (l.length ≤ 600) && (List.range l.length).all fun i => okAt l i && !badAt l i

theorem runOk_long {l : Recs} (h : ¬ l.length ≤ 600) : runOkB l = false := by
  unfold runOkB; rw [decide_eq_false h]; rfl
theorem runOk_inv {l : Recs} {i : Nat} (hi : i < l.length) (h : okAt l i = false) : runOkB l = false := by
  unfold runOkB
  rw [Bool.and_eq_false_iff]
  refine .inr (List.all_eq_false.2 ⟨i, List.mem_range.2 hi, ?_⟩)
  rw [h]; simp
theorem runOk_bad {l : Recs} {i : Nat} (hi : i < l.length) (h : badAt l i = true) : runOkB l = false := by
  unfold runOkB
  rw [Bool.and_eq_false_iff]
  refine .inr (List.all_eq_false.2 ⟨i, List.mem_range.2 hi, ?_⟩)
  rw [h]; simp
theorem runOk_good {l : Recs} (h0 : l.length ≤ 600) (h : ∀ i, i < l.length → okAt l i = true ∧ badAt l i = false) : runOkB l = true := by
  unfold runOkB
  rw [decide_eq_true h0, Bool.true_and, List.all_eq_true]
  intro i hi
  obtain ⟨h1, h2⟩ := h i (List.mem_range.1 hi)
  rw [h1, h2]; rfl
theorem runOk_end {l : Recs} {len : Nat} (hl : l.length = len) (h : ∀ i, i < len → okAt l i = true ∧ badAt l i = false) : decide ((len : Int) ≤ 600) = runOkB l := by
  subst hl
  by_cases h0 : l.length ≤ 600
  · rw [runOk_good h0 h]; simp; omega
  · rw [runOk_long h0]; simp; omega

end Go.Proofs.YtjofbeokkainlaaGreatDoor
namespace Go.Proofs.YtjofbeokkainlaaGreatDoor
open Go.ChangeShapes Go.WideShapes Go.ChangeAt Go.RowKit
set_option linter.unusedVariables false
set_option maxRecDepth 100000

def recsOkB (l : Recs) : Bool := decide (l.length ≤ 600) && (List.range l.length).all fun i => okAt l i
theorem recsOk_long {l : Recs} (h : ¬ l.length ≤ 600) : recsOkB l = false := by
  unfold recsOkB; rw [decide_eq_false h]; rfl
theorem recsOk_inv {l : Recs} {i : Nat} (hi : i < l.length) (h : okAt l i = false) : recsOkB l = false := by
  unfold recsOkB
  rw [Bool.and_eq_false_iff]
  refine .inr (List.all_eq_false.2 ⟨i, List.mem_range.2 hi, ?_⟩)
  rw [h]; simp
theorem recsOk_good {l : Recs} (h0 : l.length ≤ 600) (h : ∀ i, i < l.length → okAt l i = true) : recsOkB l = true := by
  unfold recsOkB
  rw [decide_eq_true h0, Bool.true_and, List.all_eq_true]
  exact fun i hi => h i (List.mem_range.1 hi)
theorem recsOk_parts {l : Recs} (h : recsOkB l = true) : l.length ≤ 600 ∧ ∀ i, i < l.length → okAt l i = true := by
  unfold recsOkB at h
  rw [Bool.and_eq_true, List.all_eq_true] at h
  exact ⟨of_decide_eq_true h.1, fun i hi => h.2 i (List.mem_range.2 hi)⟩
theorem recsOk_not {l : Recs} (h : recsOkB l = false) : runOkB l = false := by
  cases hr : runOkB l with
  | false => rfl
  | true =>
    unfold runOkB at hr
    rw [Bool.and_eq_true, List.all_eq_true] at hr
    have := recsOk_good (of_decide_eq_true hr.1) (fun i hi => by have := hr.2 i (List.mem_range.2 hi); rw [Bool.and_eq_true] at this; exact this.1)
    rw [this] at h; cases h

set_option maxHeartbeats 1000000 in
theorem recsok_any (a : Option Addr) (len cap : Nat) (l : Recs) (w : World) (h : RecsAt w a len l) :
    Calls Tryz.prog 34 #[.slice a len cap] w (MadeBool (recsOkB l) w) := by
  have hm := h.max
  unfold maxLen at hm
  have HR := Lib.hid h
  have HL := Lib.hid h.length
  clear h
  by_cases hlong : 600 < len
  · have HQ := Lib.hid (recsOk_long (l := l) (by rw [HL.out]; omega))
    have hd : (600 : Int) < (len : Int) := by omega
    go_enter Tryz.func34, Tryz.ntmps34
    go_wp2
    go_ret
    exact ⟨ret_bool HQ.out.symm, Below.refl _ _⟩
  · have hd : ¬ (600 : Int) < (len : Int) := by omega
    go_enter Tryz.func34, Tryz.ntmps34
    go_wp2
    go_loopw [10] (fun i wr => ∃ k : Nat, k ≤ len ∧ i = .int .i64 k ∧ Hid (Below w.heap.size w wr ∧ ∀ j, j < k → okAt l j = true)) (fun i _ => len - (intOf i).toNat)
    case atStart => exact ⟨0, Nat.zero_le _, rfl, Below.refl _ _, fun j hj => by omega⟩
    case round =>
      obtain ⟨k, hk, rfl, HW⟩ := hrel
      by_cases hlt : k < len
      · rcases HR.out.src with hz | ⟨b, off, rfl, hb, hc⟩
        · omega
        · have c0 := (HW.out.1.cell (p := ⟨b, off + k * 2, none⟩) hb).trans (hc k hlt).1
          have c1 := (HW.out.1.cell (p := ⟨b, off + k * 2 + 1, none⟩) hb).trans (hc k hlt).2
          cases hok : okB (keyAt l k) with
          | false =>
            have HQ := Lib.hid (recsOk_inv (l := l) (i := k) (by rw [HL.out]; exact hlt) hok)
            clear hc hb
            go_wp2_with (go_at_call 66; refine (recok_any _ _ _).mono ?_; rw [hok]; rintro e w2 ⟨rfl, hB⟩; have HB := Lib.hid (below_via (below_alloc HW.out.1 _) hB); clear hB)
            go_ret
            exact ⟨ret_bool HQ.out.symm, HB.out⟩
          | true =>
            have HK := Lib.hid (show okAt l k = true from hok)
            clear hc hb
            go_wp2_with (go_at_call 66; refine (recok_any _ _ _).mono ?_; rw [hok]; rintro e w2 ⟨rfl, hB⟩; have HB := Lib.hid (below_via (below_alloc HW.out.1 _) hB); clear hB)
            go_roundw
            case rel => exact ⟨k + 1, by omega, by go_num, HB.out, fun j hj => by
              rcases Nat.lt_or_ge j k with h | h
              · exact HW.out.2 j h
              · obtain rfl : j = k := by omega
                exact HK.out⟩
            case measure => simp [intOf]; omega
      · obtain rfl : k = len := by omega
        have HQ := Lib.hid (recsOk_good (l := l) (by rw [HL.out]; omega) (by rw [HL.out]; exact HW.out.2))
        go_wp2
        go_ret
        exact ⟨ret_bool HQ.out.symm, HW.out.1⟩

set_option maxHeartbeats 1000000 in
theorem lessm_any (a : Option Addr) (len cap : Nat) (l : Recs) (i j : Nat) (w : World) (h : RecsAt w a len l) (hi : i < len) (hj : j < len) :
    Calls Tryz.prog 220 #[.slice a len cap, .int .i64 i, .int .i64 j] w (MadeBool (okAt l i && okAt l j && lessAt l i j) w) := by
  have hm := h.max
  unfold maxLen at hm
  rcases h.src with hz | ⟨b, off, rfl, hb, hc⟩
  · omega
  · have c0 := (hc i hi).1
    have c1 := (hc i hi).2
    have d0 := (hc j hj).1
    have d1 := (hc j hj).2
    have HB := Lib.hid ((Below.refl w.heap.size w).drew)
    clear hc hb h
    go_enter Tryz.func220, Tryz.ntmps220
    go_wp2_with fail
    go_region_held3 (fun w' => Hid (Below w.heap.size w w') ∧ w'.cell? ⟨b, off + i * 2, none⟩ = some (.string (keyAt l i)) ∧ w'.cell? ⟨b, off + i * 2 + 1, none⟩ = some (.int .i64 (numAt l i)) ∧ w'.cell? ⟨b, off + j * 2, none⟩ = some (.string (keyAt l j)) ∧ w'.cell? ⟨b, off + j * 2 + 1, none⟩ = some (.int .i64 (numAt l j)))
      (first | exact ⟨HB, c0, c1, d0, d1⟩ | exact ⟨HB, e0, e1, f0, f1⟩)
      (first | (go_at_call 222; refine (recless_any _ _ _ _ _).mono ?_; rintro e w2 ⟨rfl, hB⟩; have e0 := (hB.cell (p := ⟨b, off + i * 2, none⟩) (World.block_lt_of_cell? _ _ c0)).trans c0; have e1 := (hB.cell (p := ⟨b, off + i * 2 + 1, none⟩) (World.block_lt_of_cell? _ _ c1)).trans c1; have f0 := (hB.cell (p := ⟨b, off + j * 2, none⟩) (World.block_lt_of_cell? _ _ d0)).trans d0; have f1 := (hB.cell (p := ⟨b, off + j * 2 + 1, none⟩) (World.block_lt_of_cell? _ _ d1)).trans d1; have HB := Lib.hid (below_via HB.out hB); clear hB))
    go_wp2
    go_ret
    exact ⟨rfl, HB.out⟩

theorem lenm_any (a : Option Addr) (len cap : Nat) (w : World) : Calls Tryz.prog 219 #[.slice a len cap] w fun e w' => e = .returned (.int .i64 len) ∧ w = w' := by
  go_enter Tryz.func219, Tryz.ntmps219
  go_wp2
  go_ret
  exact ⟨rfl, rfl⟩
end Go.Proofs.YtjofbeokkainlaaGreatDoor
namespace Go.Proofs.YtjofbeokkainlaaGreatDoor
open Go.ChangeShapes Go.WideShapes Go.ChangeAt Go.RowKit
set_option linter.unusedVariables false
set_option maxRecDepth 100000

theorem bless_iff (x y : List UInt8) : Op.bytesLess x y = true ↔ x < y := by
  induction x generalizing y with
  | nil => cases y <;> simp [Op.bytesLess]
  | cons a x ih =>
    cases y with
    | nil => simp [Op.bytesLess]
    | cons b y =>
      rw [List.cons_lt_cons_iff, ← ih y]
      rw [show Op.bytesLess (a :: x) (b :: y) = (decide (a < b) || a == b && Op.bytesLess x y) from rfl]
      by_cases h1 : a < b
      · simp [h1]
      · by_cases h2 : a = b
        · subst h2; simp
        · simp [h1, h2]

/-- a may stand ahead of b. -/
def leR (a b : ByteArray × Int) : Bool := !lessB b.1 b.2 a.1 a.2
theorem less_iff (s u : ByteArray) (n m : Int) : lessB s n u m = true ↔ s.toList < u.toList ∨ (s.toList = u.toList ∧ n < m) := by
  unfold lessB
  rw [Bool.or_eq_true, bless_iff, Bool.and_eq_true, beq_iff_eq, decide_eq_true_eq]
theorem leR_iff (a b : ByteArray × Int) : leR a b = true ↔ ¬ (b.1.toList < a.1.toList ∨ (b.1.toList = a.1.toList ∧ b.2 < a.2)) := by
  unfold leR
  rw [Bool.not_eq_true', ← Bool.not_eq_true, less_iff]
theorem leR_iff' (a b : ByteArray × Int) : leR a b = true ↔ a.1.toList < b.1.toList ∨ (a.1.toList = b.1.toList ∧ a.2 ≤ b.2) := by
  rw [leR_iff]
  constructor
  · intro h
    by_cases h1 : a.1.toList < b.1.toList
    · exact .inl h1
    · have h2 : a.1.toList = b.1.toList := List.le_antisymm (fun h3 => h (.inl h3)) h1
      exact .inr ⟨h2, by
        rcases Int.lt_or_le b.2 a.2 with h3 | h3
        · exact absurd (.inr ⟨h2.symm, h3⟩) h
        · exact h3⟩
  · rintro (h1 | ⟨h1, h2⟩) (h3 | ⟨h3, h4⟩)
    · exact List.lt_irrefl _ (List.lt_trans h1 h3)
    · rw [h3] at h1; exact List.lt_irrefl _ h1
    · rw [h1] at h3; exact List.lt_irrefl _ h3
    · omega
theorem leR_trans (a b c : ByteArray × Int) (h : leR a b = true) (k : leR b c = true) : leR a c = true := by
  rw [leR_iff'] at h k ⊢
  rcases h with h | ⟨h, h2⟩ <;> rcases k with k | ⟨k, k2⟩
  · exact .inl (List.lt_trans h k)
  · exact .inl (k ▸ h)
  · exact .inl (h ▸ k)
  · exact .inr ⟨h.trans k, by omega⟩
theorem leR_total (a b : ByteArray × Int) : (leR a b || leR b a) = true := by
  rw [Bool.or_eq_true]
  by_cases h : leR a b = true
  · exact .inl h
  · right
    rw [leR_iff'] at h ⊢
    by_cases h1 : b.1.toList < a.1.toList
    · exact .inl h1
    · have h2 : b.1.toList = a.1.toList := List.le_antisymm (fun h3 => h (.inl h3)) h1
      exact .inr ⟨h2, by
        rcases Int.lt_or_le a.2 b.2 with h3 | h3
        · exact absurd (.inr ⟨h2.symm, by omega⟩) h
        · exact h3⟩
theorem toList_inj {s u : ByteArray} (h : s.toList = u.toList) : s = u := by
  rw [ByteArray.toList_eq, ByteArray.toList_eq] at h
  obtain ⟨⟨a⟩⟩ := s
  obtain ⟨⟨b⟩⟩ := u
  simp at h
  rw [h]
theorem leR_antisymm (a b : ByteArray × Int) (h : leR a b = true) (k : leR b a = true) : a = b := by
  rw [leR_iff'] at h k
  rcases h with h | ⟨h, h2⟩ <;> rcases k with k | ⟨k, k2⟩
  · exact absurd (List.lt_trans h k) (List.lt_irrefl _)
  · rw [k] at h; exact absurd h (List.lt_irrefl _)
  · rw [h] at k; exact absurd k (List.lt_irrefl _)
  · obtain ⟨a1, a2⟩ := a
    obtain ⟨b1, b2⟩ := b
    simp only at h h2 k2
    rw [toList_inj h, show a2 = b2 by omega]

/-- In order. -/
def InOrder (l : Recs) : Prop := List.Pairwise (fun a b => leR a b = true) l
def sortL (l : Recs) : Recs := l.mergeSort leR
theorem sortL_perm (l : Recs) : (sortL l).Perm l := List.mergeSort_perm l leR
theorem sortL_order (l : Recs) : InOrder (sortL l) := List.pairwise_mergeSort leR_trans leR_total l
/-- Two lists in order with the same records are the same. -/
theorem order_unique {l k : Recs} (hl : InOrder l) (hk : InOrder k) (h : l.Perm k) : l = k :=
  List.Perm.eq_of_pairwise (fun a b _ _ => leR_antisymm a b) hl hk h
theorem sortL_of {l k : Recs} (hk : InOrder k) (h : k.Perm l) : sortL l = k := order_unique (sortL_order l) hk ((sortL_perm l).trans h.symm)
theorem insert_order {V : Recs} {x : ByteArray × Int} {j : Nat} (h : InOrder V) (h1 : ∀ y ∈ V.drop j, leR x y = true) (h2 : ∀ y ∈ V.take j, leR y x = true) : InOrder (V.take j ++ x :: V.drop j) := by
  unfold InOrder at h ⊢
  rw [← List.take_append_drop j V, List.pairwise_append] at h
  obtain ⟨a, b, c⟩ := h
  rw [List.pairwise_append, List.pairwise_cons]
  refine ⟨a, ⟨h1, b⟩, fun p hp q hq => ?_⟩
  rcases List.mem_cons.1 hq with rfl | hq
  · exact h2 p hp
  · exact c p hp q hq
theorem insert_perm (V : Recs) (x : ByteArray × Int) (j : Nat) : (V.take j ++ x :: V.drop j).Perm (V ++ [x]) := by
  refine List.perm_middle.trans ?_
  rw [List.take_append_drop]
  exact (List.perm_append_comm (l₁ := [x]) (l₂ := V))
/-- All that stand ahead of place j may stand ahead of x, if the last of them may. -/
theorem ahead_all {V : Recs} {x : ByteArray × Int} {j : Nat} (h : InOrder V) (hj : j < V.length) (hx : leR V[j] x = true) : ∀ y ∈ V.take (j + 1), leR y x = true := by
  intro y hy
  obtain ⟨i, hi, rfl⟩ := List.getElem_of_mem hy
  simp at hi
  simp only [List.getElem_take]
  rcases Nat.lt_or_ge i j with hl | hl
  · exact leR_trans _ _ _ (List.pairwise_iff_getElem.1 h i j (by omega) hj hl) hx
  · obtain rfl : i = j := by omega
    exact hx
theorem at_get (l : Recs) (i : Nat) (h : i < l.length) : l[i] = (keyAt l i, numAt l i) := by
  unfold keyAt numAt
  rw [List.getD_eq_getElem?_getD, List.getElem?_eq_getElem h]; rfl
/-- A list is a run just if it is short, its records are valid, and it is in order. -/
theorem runOk_iff (l : Recs) : runOkB l = true ↔ recsOkB l = true ∧ InOrder l := by
  constructor
  · intro h
    have hok : recsOkB l = true := by
      cases hr : recsOkB l with
      | true => rfl
      | false => rw [recsOk_not hr] at h; cases h
    refine ⟨hok, ?_⟩
    unfold runOkB at h
    rw [Bool.and_eq_true, List.all_eq_true] at h
    have hstep : ∀ i, i + 1 < l.length → ∀ (h1 : i < l.length) (h2 : i + 1 < l.length), leR l[i] l[i + 1] = true := by
      intro i hi h1 h2
      have := h.2 (i + 1) (List.mem_range.2 hi)
      rw [Bool.and_eq_true, Bool.not_eq_true'] at this
      have hb := this.2
      unfold badAt lessAt at hb
      rw [decide_eq_true (by omega), Bool.true_and] at hb
      unfold leR
      rw [at_get l i h1, at_get l (i + 1) h2]
      simp only [Nat.add_sub_cancel] at hb
      rw [hb]; rfl
    unfold InOrder
    rw [List.pairwise_iff_getElem]
    intro i j hi hj hij
    induction j with
    | zero => omega
    | succ j ih =>
      rcases Nat.lt_or_ge i j with hl | hl
      · exact leR_trans _ _ _ (ih (by omega) hl) (hstep j hj (by omega) hj)
      · obtain rfl : i = j := by omega
        exact hstep i hj hi hj
  · rintro ⟨h1, h2⟩
    obtain ⟨h3, h4⟩ := recsOk_parts h1
    refine runOk_good h3 fun i hi => ⟨h4 i hi, ?_⟩
    unfold badAt
    by_cases h0 : 0 < i
    · have := List.pairwise_iff_getElem.1 h2 (i - 1) i (by omega) hi (by omega)
      unfold leR at this
      rw [at_get l i hi, at_get l (i - 1) (by omega), Bool.not_eq_true'] at this
      unfold lessAt
      simp only at this
      rw [this, Bool.and_false]
    · rw [decide_eq_false h0, Bool.false_and]

/-- What Sorted returns. -/
def sortedB (l : Recs) : Recs := if recsOkB l then sortL l else []
theorem runOk_keys {l : Recs} (h : runOkB l = true) : l.length ≤ 600 ∧ ∀ i, i < l.length → (keyAt l i).size ≤ 40 := by
  have hok : recsOkB l = true := by
    cases hr : recsOkB l with
    | true => rfl
    | false => rw [recsOk_not hr] at h; cases h
  obtain ⟨h1, h2⟩ := recsOk_parts hok
  exact ⟨h1, fun i hi => by have := h2 i hi; unfold okAt okB at this; exact of_decide_eq_true this⟩
end Go.Proofs.YtjofbeokkainlaaGreatDoor
namespace Go.Proofs.YtjofbeokkainlaaGreatDoor
open Go.ChangeShapes Go.WideShapes Go.ChangeAt Go.RowKit
set_option linter.unusedVariables false
set_option maxRecDepth 100000

def mergeL (l k : Recs) : Recs := List.merge l k leR
theorem mergeL_b {W A B : Recs} {x y : ByteArray × Int} (h : leR x y = false) : W ++ mergeL (x :: A) (y :: B) = (W ++ [y]) ++ mergeL (x :: A) B := by
  unfold mergeL
  rw [List.cons_merge_cons, h, if_neg (by simp), List.append_assoc]; rfl
theorem mergeL_a {W A B : Recs} {x y : ByteArray × Int} (h : leR x y = true) : W ++ mergeL (x :: A) (y :: B) = (W ++ [x]) ++ mergeL A (y :: B) := by
  unfold mergeL
  rw [List.cons_merge_cons, h, if_pos rfl, List.append_assoc]; rfl
theorem mergeL_nil {A B : Recs} (h : A = [] ∨ B = []) : mergeL A B = A ++ B := by
  unfold mergeL
  rcases h with rfl | rfl
  · rw [List.nil_merge]; rfl
  · rw [List.merge_right, List.append_nil]
theorem mergeL_sort {l k : Recs} (hl : InOrder l) (hk : InOrder k) : sortL (l ++ k) = mergeL l k :=
  sortL_of (List.pairwise_merge leR_trans leR_total l k hl hk) (List.merge_perm_append leR)
theorem mergeL_len (l k : Recs) : (mergeL l k).length = l.length + k.length := by
  have := (List.merge_perm_append leR (xs := l) (ys := k)).length_eq
  rw [List.length_append] at this
  exact this
end Go.Proofs.YtjofbeokkainlaaGreatDoor
namespace Go.Proofs.YtjofbeokkainlaaGreatDoor
open Go.ChangeShapes Go.WideShapes Go.ChangeAt Go.RowKit
set_option linter.unusedVariables false
set_option maxRecDepth 100000

theorem method_len (a : Option Addr) (len cap : Nat) (w : World) : (method 338 78 (.slice a len cap) "Len").run Tryz.prog w = .ok (219, .slice a len cap) w := by kernel_rfl
theorem method_less (a : Option Addr) (len cap : Nat) (w : World) : (method 338 78 (.slice a len cap) "Less").run Tryz.prog w = .ok (220, .slice a len cap) w := by kernel_rfl

theorem runOk_sorted {l : Recs} (h : recsOkB l = true) (hb : ∀ i, i < l.length → badAt l i = false) : runOkB l = true :=
  runOk_good (recsOk_parts h).1 (fun i hi => ⟨(recsOk_parts h).2 i hi, hb i hi⟩)

end Go.Proofs.YtjofbeokkainlaaGreatDoor
namespace Go.Proofs.YtjofbeokkainlaaGreatDoor
open Go.ChangeShapes Go.WideShapes Go.ChangeAt Go.RowKit
set_option linter.unusedVariables false
set_option maxRecDepth 100000

def sameKey (s u : ByteArray) : Bool := s.toList == u.toList
def findAux (key : ByteArray) : Recs → Int × Bool
  | [] => (0, false)
  | r :: t => if sameKey r.1 key then (r.2, true) else findAux key t
def findB (l : Recs) (key : ByteArray) : Int × Bool := if runOkB l then findAux key l else (0, false)

theorem findAux_hit (key : ByteArray) : ∀ (l : Recs) (k : Nat), k < l.length → (∀ j, j < k → sameKey (keyAt l j) key = false) → sameKey (keyAt l k) key = true → findAux key l = (numAt l k, true)
  | [], k, hk, _, _ => by simp at hk
  | r :: t, 0, _, _, h => by
    have h' : sameKey r.1 key = true := h
    unfold findAux; rw [if_pos h']; rfl
  | r :: t, k + 1, hk, hb, h => by
    have h' : sameKey r.1 key = false := hb 0 (by omega)
    unfold findAux
    rw [if_neg (by rw [h']; simp)]
    exact findAux_hit key t k (by simpa using hk) (fun j hj => hb (j + 1) (by omega)) h
theorem findAux_none (key : ByteArray) : ∀ (l : Recs), (∀ j, j < l.length → sameKey (keyAt l j) key = false) → findAux key l = (0, false)
  | [], _ => rfl
  | r :: t, hb => by
    have h' : sameKey r.1 key = false := hb 0 (by simp)
    unfold findAux
    rw [if_neg (by rw [h']; simp)]
    exact findAux_none key t (fun j hj => hb (j + 1) (by simpa using hj))

def MadeFind (p : Int × Bool) (w : World) (e : Ending) (w' : World) : Prop := e = .returned (.tuple #[.int .i64 p.1, .bool p.2]) ∧ Below w.heap.size w w'
theorem ret_find {n : Int} {b : Bool} {p : Int × Bool} (h : p = (n, b)) : Ending.returned (.tuple #[.int .i64 n, .bool b]) = .returned (.tuple #[.int .i64 p.1, .bool p.2]) := by rw [h]

end Go.Proofs.YtjofbeokkainlaaGreatDoor
namespace Go.Proofs.YtjofbeokkainlaaGreatDoor
open Go.ChangeShapes Go.WideShapes Go.ChangeAt Go.RowKit
set_option linter.unusedVariables false
set_option maxRecDepth 100000

def DrewComb (w : World) (e : Ending) (w' : World) : Prop := ∃ op a b : Int, (Lit.int .i64 a).wf = true ∧ (Lit.int .i64 b).wf = true ∧ e = .returned (.tuple #[.int .i64 op, .int .i64 a, .int .i64 b]) ∧ Below w.heap.size w w'

theorem comb_comm (op a b : Int) : combN op b a = combN op a b := by
  unfold combN
  split
  · rw [Int.add_comm]
  · split
    · split <;> split <;> omega
    · split
      · split <;> split <;> omega
      · rfl
theorem comb_assoc (op a b c : Int) : combN op (combN op a b) c = combN op a (combN op b c) := by
  unfold combN
  by_cases h1 : op = 1 ∨ op = 4
  · simp only [if_pos h1]; unfold wrap64; omega
  · simp only [if_neg h1]
    by_cases h2 : op = 2
    · simp only [if_pos h2]; repeat' split
      all_goals omega
    · simp only [if_neg h2]
      by_cases h3 : op = 3
      · simp only [if_pos h3]; repeat' split
        all_goals omega
      · simp only [if_neg h3]

theorem scomb_val {op a b x : Int} (w : World) (h : combN op a b = x) : Calls Tryz.prog 60 #[.int .i64 op, .int .i64 a, .int .i64 b] w (Same x w) := h ▸ scomb_any op a b w

end Go.Proofs.YtjofbeokkainlaaGreatDoor
namespace Go.Proofs.YtjofbeokkainlaaGreatDoor
open Go.ChangeShapes Go.WideShapes Go.ChangeAt Go.RowKit
set_option linter.unusedVariables false
set_option maxRecDepth 100000

end Go.Proofs.YtjofbeokkainlaaGreatDoor
namespace Go.Proofs.YtjofbeokkainlaaGreatDoor
open Go.ChangeShapes Go.WideShapes Go.ChangeAt Go.RowKit
set_option linter.unusedVariables false
set_option maxRecDepth 100000


def stoV (a : Option Addr) (la ca : Nat) (g : Option Addr) (lg cg : Nat) : Value := .agg #[.slice a la ca, .slice g lg cg]
/-- A store that may be read: its objects and its versions of deleted ones. -/
structure StoAt (w : World) (a : Option Addr) (la : Nat) (l : Objs) (g : Option Addr) (lg : Nat) (m : Gones) : Prop where
  o : ObjsAt w a la l
  d : GonesAt w g lg m
theorem StoAt.keep {w w1 : World} {a g : Option Addr} {la lg : Nat} {l : Objs} {m : Gones} (h : StoAt w a la l g lg m) (hB : Below w.heap.size w w1) : StoAt w1 a la l g lg m := ⟨h.o.keep hB, h.d.keep hB⟩

def StoSized (la : Nat) (l : Objs) (lg : Nat) (m : Gones) (w : World) (e : Ending) (w' : World) : Prop :=
  ∃ x : Int, -1 ≤ x ∧ x ≤ 1048576 ∧ e = .returned (.int .i64 x) ∧ Below w.heap.size w w' ∧ (0 ≤ x → (la ≤ 1048576 ∧ ∀ i, i < la → (obj0 l i).size ≤ 1048576 ∧ (obj2 l i).size ≤ 1048576) ∧ (lg ≤ 1048576 ∧ ∀ i, i < lg → (gone0 m i).size ≤ 1048576))

end Go.Proofs.YtjofbeokkainlaaGreatDoor
