
/- A mark read out of a text: what the program does. Only new blocks are made. -/
import Derived.Test.YtbjlojmadellgaaGreatDoorMg16
import Derived.Test.YtbjlojmadellgaaGreatDoorRClaimP
namespace Go.Proofs.YtbjlojmadellgaaGreatDoor
open Go.ChangeShapes Go.WideShapes Go.ChangeAt Go.RowKit
set_option linter.unusedVariables false
set_option maxRecDepth 100000

def rmV : Option (Bool × Int × Int) → Value
  | some (b, e, k) => .tuple #[.agg #[.bool b, .int .i64 e, .int .i64 k], .bool true]
  | none => .tuple #[.agg #[.bool false, .int .i64 0, .int .i64 0], .bool false]
def MadeRM (o : Option (Bool × Int × Int)) (w : World) (e : Ending) (w' : World) : Prop := e = .returned (rmV o) ∧ Below w.heap.size w w'
theorem rm_none {o : Option (Bool × Int × Int)} {w w' : World} (h : o = none) (hB : Below w.heap.size w w') : MadeRM o w (.returned (.tuple #[.agg #[.bool false, .int .i64 0, .int .i64 0], .bool false])) w' := by
  subst h; exact ⟨rfl, hB⟩
theorem rm_some {o : Option (Bool × Int × Int)} {b : Bool} {e k : Int} {w w' : World} (h : o = some (b, e, k)) (hB : Below w.heap.size w w') : MadeRM o w (.returned (.tuple #[.agg #[.bool b, .int .i64 e, .int .i64 k], .bool true])) w' := by
  subst h; exact ⟨rfl, hB⟩
theorem ba_list (x : List UInt8) : (⟨x.toArray⟩ : ByteArray).toList = x := by rw [ByteArray.toList_eq]
theorem word_cmp (x y : List UInt8) : ((⟨x.toArray⟩ : ByteArray).toList == (⟨y.toArray⟩ : ByteArray).toList) = (x == y) := by rw [ba_list, ba_list]

set_option maxHeartbeats 4000000 in
theorem readmark_any (s : ByteArray) (w : World) (hs : s.size ≤ 1048576) (hT : TabsR w) : Calls Tryz.prog 84 #[.string s] w (MadeRM (rmark s.data.toList) w) := by
  obtain ⟨P, hP⟩ : ∃ P, splitL 32 s.data.toList = P := ⟨_, rfl⟩
  have HLE := Lib.hid (show ∀ x ∈ P, x.length ≤ 1048576 from fun x hx => Nat.le_trans (splitL_len 32 s.data.toList x (by rw [hP]; exact hx)) (by simpa using hs))
  have HPL := Lib.hid (show P.length ≤ 1048577 by
    have h1 := countB_pieces s
    have h2 := Lib.countB_le ⟨#[32]⟩ (by decide) s.size s (Nat.le_refl _)
    rw [hP] at h1
    omega)
  have HP0 := Lib.hid (show 0 < P.length from List.length_pos_iff.2 (by rw [← hP]; exact splitL_ne 32 _))
  have HP := Lib.hid hP
  have HT := Lib.hid (hT.keep (below_alloc (Below.refl w.heap.size w) (.cells #[.bool false, .int .i64 0, .int .i64 0] 58)))
  have HX := Lib.hid (Row.new w 58 #[.bool false, .int .i64 0, .int .i64 0])
  have HB := Lib.hid (below_alloc (Below.refl w.heap.size w) (.cells #[.bool false, .int .i64 0, .int .i64 0] 58))
  clear hP hT
  go_enter Tryz.func84, Tryz.ntmps84
  go_wp2_with fail
  refine (libsplit_any s _ hs HT.out).mono ?_
  rw [HP.out]
  rintro e w1 ⟨rfl, hrow, hB⟩
  obtain ⟨G, hG⟩ : ∃ G, (w.alloc (.cells #[.bool false, .int .i64 0, .int .i64 0] 58)).heap.size = G := ⟨_, rfl⟩
  rw [hG] at hrow ⊢
  have HPI := Lib.hid (piece_row hrow)
  have HX := Lib.hid (HX.out.keep hB)
  have HT := Lib.hid (HT.out.keep hB)
  have HB := Lib.hid (below_via HB.out hB)
  clear hrow hB hG
  obtain ⟨n, hnn⟩ : ∃ n, P.length = n := ⟨_, rfl⟩
  have HNN := Lib.hid hnn
  rw [hnn] at HPL HP0 ⊢
  clear hnn
  have hnb := HPL.out
  have hn0 := HP0.out
  by_cases hn : n = 3
  · subst hn
    obtain ⟨x, y, z, rfl⟩ := three HNN.out
    go_wp2_with fail
    refine (readdecs_any G 1 2 2 [y, z] _ rfl (by decide) (Nat.le_refl _) ⟨HPI.out.lt, fun j hj => by
      have := HPI.out.cell (j + 1) (by simp at hj ⊢; omega)
      rw [Nat.zero_add] at this
      rw [Nat.add_comm 1 j]
      simpa using this⟩ (fun u hu => HLE.out u (by simp at hu ⊢; rcases hu with h | h <;> simp [h])) HT.out).mono ?_
    rintro e w2 ⟨hB, hcase⟩
    have HX := Lib.hid (HX.out.keep hB)
    have HPI := Lib.hid (HPI.out.keep hB)
    have HB := Lib.hid (below_via HB.out hB)
    obtain ⟨G2, hG2⟩ : ∃ G2, w1.heap.size = G2 := ⟨_, rfl⟩
    rw [hG2] at hcase
    clear hG2 hB
    have y0 := HX.out.cell (j := 0) (by simp)
    have y1 := HX.out.cell (j := 1) (by simp)
    have y2 := HX.out.cell (j := 2) (by simp)
    have f0 := HX.out.free 0
    have f1 := HX.out.free 1
    have f2 := HX.out.free 2
    simp at y0 y1 y2
    rcases hcase with ⟨ho, rfl⟩ | ⟨ns, ho, hl, rfl, hnu⟩
    · have HR := Lib.hid (rmark_nums_no HP.out ho)
      clear ho
      go_wp2
      have hbF := ((HX.out.set 0 (.bool false)).set 1 (.int .i64 0)).set 2 (.int .i64 0)
      unfold Row at hbF
      exact bodyPost_ret (v := .tuple #[.agg #[.bool false, .int .i64 0, .int .i64 0], .bool false]) (by simp [results, Tryz.results84, go_sem, World.cell?, hbF]) rfl (rm_none HR.out ((HB.out.setCell (Nat.le_refl _) _).setCell (Nat.le_refl _) _ |>.setCell (Nat.le_refl _) _))
    · obtain ⟨e, k, rfl⟩ := two hl
      have HR := Lib.hid (rmark_nums HP.out ho)
      have HNU := Lib.hid hnu
      have p0 := HPI.out.cell 0 (by simp)
      simp [encS] at p0
      have hgl := HPI.out.lt
      clear ho hl hnu
      by_cases hw1 : x = okW
      · subst hw1
        unfold okW at p0 HP HLE HPI
        have HR := Lib.hid (show rmark s.data.toList = if markB e k = true then some (true, e, k) else none by
          have h1 := HR.out
          rw [show isOk okW = true by decide] at h1
          rw [h1]
          simp [show isWord okW = true by decide])
        have hg2 := HNU.out.lt
        have hg3 : G2 ≠ w2.heap.size := Nat.ne_of_lt hg2
        have hg4 : G ≠ w2.heap.size := Nat.ne_of_lt hgl
        have d0 := HNU.out.cell 0 (by simp)
        have d1 := HNU.out.cell 1 (by simp)
        simp at d0 d1
        obtain ⟨q, hq⟩ : ∃ q, markB e k = q := ⟨_, rfl⟩
        rw [hq] at HR
        have HQ := Lib.hid hq
        clear hq
        go_wp2
        clear y0 y1 y2 f0 f1 f2
        go_region_held3 (fun w' => Hid (Below w2.heap.size w2 w') ∧ w'.cell? ⟨G, 0, none⟩ = some (.string ⟨#[111, 107]⟩) ∧ w'.cell? ⟨G2, 0, none⟩ = some (.int .i64 e) ∧ w'.cell? ⟨G2, 1, none⟩ = some (.int .i64 k))
          (exact ⟨(by first | exact Lib.hid (Below.refl _ _).drew | exact Lib.hid (below_alloc (Below.refl _ _) _).drew), (by first | exact p0 | exact ((below_alloc (Below.refl _ _) _).drew.cell (p := ⟨G, 0, none⟩) hgl).trans p0), (by first | exact d0 | exact ((below_alloc (Below.refl _ _) _).drew.cell (p := ⟨G2, 0, none⟩) hg2).trans d0), (by first | exact d1 | exact ((below_alloc (Below.refl _ _) _).drew.cell (p := ⟨G2, 1, none⟩) hg2).trans d1)⟩)
          (fail)
        go_wp2_with fail
        refine (markok_any true e k _).mono ?_
        rw [HQ.out]
        rintro x4 w3 ⟨rfl, hB⟩
        have z0 := (hB.cell (p := ⟨w2.heap.size, 0, none⟩) (by simp)).trans (show _ = some (.bool true) by simp)
        have z1 := (hB.cell (p := ⟨w2.heap.size, 1, none⟩) (by simp)).trans (show _ = some (.int .i64 e) by simp)
        have z2 := (hB.cell (p := ⟨w2.heap.size, 2, none⟩) (by simp)).trans (show _ = some (.int .i64 k) by simp)
        have HX := Lib.hid (HX.out.keep (below_via (below_alloc (Below.refl _ _) _).drew hB))
        have HB := Lib.hid (below_via (below_alloc HB.out _).drew hB)
        have y0 := HX.out.cell (j := 0) (by simp)
        have y1 := HX.out.cell (j := 1) (by simp)
        have y2 := HX.out.cell (j := 2) (by simp)
        have f0 := HX.out.free 0
        have f1 := HX.out.free 1
        have f2 := HX.out.free 2
        simp at y0 y1 y2
        clear hB p0 d0 d1 hg2 hg3 hg4
        cases q
        · go_wp2
          have hbF := ((HX.out.set 0 (.bool false)).set 1 (.int .i64 0)).set 2 (.int .i64 0)
          unfold Row at hbF
          exact bodyPost_ret (v := .tuple #[.agg #[.bool false, .int .i64 0, .int .i64 0], .bool false]) (by simp [results, Tryz.results84, go_sem, World.cell?, hbF]) rfl (rm_none (by rw [HR.out]; rfl) ((HB.out.setCell (Nat.le_refl _) _).setCell (Nat.le_refl _) _ |>.setCell (Nat.le_refl _) _))
        · go_wp2
          have hbF := ((HX.out.set 0 (.bool true)).set 1 (.int .i64 e)).set 2 (.int .i64 k)
          unfold Row at hbF
          exact bodyPost_ret (v := .tuple #[.agg #[.bool true, .int .i64 e, .int .i64 k], .bool true]) (by simp [results, Tryz.results84, go_sem, World.cell?, hbF]) rfl (rm_some (by rw [HR.out]; rfl) ((HB.out.setCell (Nat.le_refl _) _).setCell (Nat.le_refl _) _ |>.setCell (Nat.le_refl _) _))
      · by_cases hw2 : x = failW
        · clear hw1
          subst hw2
          unfold failW at p0 HP HLE HPI
          have HR := Lib.hid (show rmark s.data.toList = if markB e k = true then some (false, e, k) else none by
            have h1 := HR.out
            rw [show isOk failW = false by decide] at h1
            rw [h1]
            simp [show isWord failW = true by decide])
          have hg2 := HNU.out.lt
          have hg3 : G2 ≠ w2.heap.size := Nat.ne_of_lt hg2
          have hg4 : G ≠ w2.heap.size := Nat.ne_of_lt hgl
          have d0 := HNU.out.cell 0 (by simp)
          have d1 := HNU.out.cell 1 (by simp)
          simp at d0 d1
          obtain ⟨q, hq⟩ : ∃ q, markB e k = q := ⟨_, rfl⟩
          rw [hq] at HR
          have HQ := Lib.hid hq
          clear hq
          go_wp2
          clear y0 y1 y2 f0 f1 f2
          go_region_held3 (fun w' => Hid (Below w2.heap.size w2 w') ∧ w'.cell? ⟨G, 0, none⟩ = some (.string ⟨#[102, 97, 105, 108, 101, 100]⟩) ∧ w'.cell? ⟨G2, 0, none⟩ = some (.int .i64 e) ∧ w'.cell? ⟨G2, 1, none⟩ = some (.int .i64 k))
            (exact ⟨(by first | exact Lib.hid (Below.refl _ _).drew | exact Lib.hid (below_alloc (Below.refl _ _) _).drew), (by first | exact p0 | exact ((below_alloc (Below.refl _ _) _).drew.cell (p := ⟨G, 0, none⟩) hgl).trans p0), (by first | exact d0 | exact ((below_alloc (Below.refl _ _) _).drew.cell (p := ⟨G2, 0, none⟩) hg2).trans d0), (by first | exact d1 | exact ((below_alloc (Below.refl _ _) _).drew.cell (p := ⟨G2, 1, none⟩) hg2).trans d1)⟩)
            (fail)
          go_wp2_with fail
          refine (markok_any false e k _).mono ?_
          rw [HQ.out]
          rintro x4 w3 ⟨rfl, hB⟩
          have z0 := (hB.cell (p := ⟨w2.heap.size, 0, none⟩) (by simp)).trans (show _ = some (.bool false) by simp)
          have z1 := (hB.cell (p := ⟨w2.heap.size, 1, none⟩) (by simp)).trans (show _ = some (.int .i64 e) by simp)
          have z2 := (hB.cell (p := ⟨w2.heap.size, 2, none⟩) (by simp)).trans (show _ = some (.int .i64 k) by simp)
          have HX := Lib.hid (HX.out.keep (below_via (below_alloc (Below.refl _ _) _).drew hB))
          have HB := Lib.hid (below_via (below_alloc HB.out _).drew hB)
          have y0 := HX.out.cell (j := 0) (by simp)
          have y1 := HX.out.cell (j := 1) (by simp)
          have y2 := HX.out.cell (j := 2) (by simp)
          have f0 := HX.out.free 0
          have f1 := HX.out.free 1
          have f2 := HX.out.free 2
          simp at y0 y1 y2
          clear hB p0 d0 d1 hg2 hg3 hg4
          cases q
          · go_wp2
            have hbF := ((HX.out.set 0 (.bool false)).set 1 (.int .i64 0)).set 2 (.int .i64 0)
            unfold Row at hbF
            exact bodyPost_ret (v := .tuple #[.agg #[.bool false, .int .i64 0, .int .i64 0], .bool false]) (by simp [results, Tryz.results84, go_sem, World.cell?, hbF]) rfl (rm_none (by rw [HR.out]; rfl) ((HB.out.setCell (Nat.le_refl _) _).setCell (Nat.le_refl _) _ |>.setCell (Nat.le_refl _) _))
          · go_wp2
            have hbF := ((HX.out.set 0 (.bool false)).set 1 (.int .i64 e)).set 2 (.int .i64 k)
            unfold Row at hbF
            exact bodyPost_ret (v := .tuple #[.agg #[.bool false, .int .i64 e, .int .i64 k], .bool true]) (by simp [results, Tryz.results84, go_sem, World.cell?, hbF]) rfl (rm_some (by rw [HR.out]; rfl) ((HB.out.setCell (Nat.le_refl _) _).setCell (Nat.le_refl _) _ |>.setCell (Nat.le_refl _) _))
        · have HR2 := Lib.hid (show rmark s.data.toList = none by
            rw [HR.out, if_neg]
            rintro ⟨h1, _⟩
            simp [isWord, hw1, hw2] at h1)
          have hk1 : (x == [111, 107]) = false := by rw [beq_eq_false_iff_ne]; exact hw1
          have hk2 : (x == [102, 97, 105, 108, 101, 100]) = false := by rw [beq_eq_false_iff_ne]; exact hw2
          have hk3 : ¬ x = [111, 107] := hw1
          clear hw1 hw2
          go_wp2
          have hbF := ((HX.out.set 0 (.bool false)).set 1 (.int .i64 0)).set 2 (.int .i64 0)
          unfold Row at hbF
          exact bodyPost_ret (v := .tuple #[.agg #[.bool false, .int .i64 0, .int .i64 0], .bool false]) (by simp [results, Tryz.results84, go_sem, World.cell?, hbF]) rfl (rm_none (HR2.out) ((HB.out.setCell (Nat.le_refl _) _).setCell (Nat.le_refl _) _ |>.setCell (Nat.le_refl _) _))
  · have HR := Lib.hid (rmark_count (s := s.data.toList) (by rw [HP.out, HNN.out]; exact hn))
    obtain ⟨m, rfl⟩ : ∃ m, n = m + 1 := ⟨n - 1, by omega⟩
    have hm2 : m ≠ 2 := by omega
    have hmm : m ≤ maxLen := by unfold maxLen; omega
    by_cases hm0 : m = 0
    · subst hm0
      go_wp2_with fail
      refine (readdecs_len _ 0 0 2 _ (by decide) (Nat.zero_le _)).mono ?_
      rintro e w2 ⟨rfl, rfl⟩
      have y0 := HX.out.cell (j := 0) (by simp)
      have y1 := HX.out.cell (j := 1) (by simp)
      have y2 := HX.out.cell (j := 2) (by simp)
      have f0 := HX.out.free 0
      have f1 := HX.out.free 1
      have f2 := HX.out.free 2
      simp at y0 y1 y2
      go_wp2
      have hbF := ((HX.out.set 0 (.bool false)).set 1 (.int .i64 0)).set 2 (.int .i64 0)
      unfold Row at hbF
      exact bodyPost_ret (v := .tuple #[.agg #[.bool false, .int .i64 0, .int .i64 0], .bool false]) (by simp [results, Tryz.results84, go_sem, World.cell?, hbF]) rfl (rm_none (HR.out) ((HB.out.setCell (Nat.le_refl _) _).setCell (Nat.le_refl _) _ |>.setCell (Nat.le_refl _) _))
    · go_wp2_with fail
      refine (readdecs_len _ m m 2 _ hm2 hmm).mono ?_
      rintro e w2 ⟨rfl, rfl⟩
      have y0 := HX.out.cell (j := 0) (by simp)
      have y1 := HX.out.cell (j := 1) (by simp)
      have y2 := HX.out.cell (j := 2) (by simp)
      have f0 := HX.out.free 0
      have f1 := HX.out.free 1
      have f2 := HX.out.free 2
      simp at y0 y1 y2
      go_wp2
      have hbF := ((HX.out.set 0 (.bool false)).set 1 (.int .i64 0)).set 2 (.int .i64 0)
      unfold Row at hbF
      exact bodyPost_ret (v := .tuple #[.agg #[.bool false, .int .i64 0, .int .i64 0], .bool false]) (by simp [results, Tryz.results84, go_sem, World.cell?, hbF]) rfl (rm_none (HR.out) ((HB.out.setCell (Nat.le_refl _) _).setCell (Nat.le_refl _) _ |>.setCell (Nat.le_refl _) _))
end Go.Proofs.YtbjlojmadellgaaGreatDoor
