
/- A claim read out of a text: what the program does. Only new blocks are made. -/
import Derived.Test.YtbjlojmadellgaaGreatDoorMg16
import Derived.StillTailTactics
namespace Go.Proofs.YtbjlojmadellgaaGreatDoor
open Go.ChangeShapes Go.WideShapes Go.ChangeAt Go.RowKit
set_option linter.unusedVariables false
set_option maxRecDepth 100000

def rcV : Option (Int × Int × Int) → Value
  | some (a, e, u) => .tuple #[.agg #[.int .i64 a, .int .i64 e, .int .i64 u], .bool true]
  | none => .tuple #[.agg #[.int .i64 0, .int .i64 0, .int .i64 0], .bool false]
def MadeRC (o : Option (Int × Int × Int)) (w : World) (e : Ending) (w' : World) : Prop := e = .returned (rcV o) ∧ Below w.heap.size w w'
theorem rc_none {o : Option (Int × Int × Int)} {w w' : World} (h : o = none) (hB : Below w.heap.size w w') : MadeRC o w (.returned (.tuple #[.agg #[.int .i64 0, .int .i64 0, .int .i64 0], .bool false])) w' := by
  subst h; exact ⟨rfl, hB⟩
theorem rc_some {o : Option (Int × Int × Int)} {a e u : Int} {w w' : World} (h : o = some (a, e, u)) (hB : Below w.heap.size w w') : MadeRC o w (.returned (.tuple #[.agg #[.int .i64 a, .int .i64 e, .int .i64 u], .bool true])) w' := by
  subst h; exact ⟨rfl, hB⟩
theorem piece_row {w : World} {g : Nat} {E : TypeId} {P : List (List UInt8)} (h : Row w g E (P.map encS).toArray) : PiecesAt w g 0 P :=
  ⟨h.lt, fun j hj => by
    have h2 := h
    unfold Row at h2
    simp [World.cell?, h2, hj]⟩

set_option maxHeartbeats 4000000 in
theorem readclaim_any (s : ByteArray) (w : World) (hs : s.size ≤ 1048576) (hT : TabsR w) : Calls Tryz.prog 85 #[.string s] w (MadeRC (rclaim s.data.toList) w) := by
  obtain ⟨P, hP⟩ : ∃ P, splitL 32 s.data.toList = P := ⟨_, rfl⟩
  have HLE := Lib.hid (show ∀ x ∈ P, x.length ≤ 1048576 from fun x hx => Nat.le_trans (splitL_len 32 s.data.toList x (by rw [hP]; exact hx)) (by simpa using hs))
  have HPL := Lib.hid (show P.length ≤ maxLen by
    have h1 := countB_pieces s
    have h2 := Lib.countB_le ⟨#[32]⟩ (by decide) s.size s (Nat.le_refl _)
    rw [hP] at h1
    unfold maxLen
    omega)
  have HP := Lib.hid hP
  have HT := Lib.hid (hT.keep (below_alloc (Below.refl w.heap.size w) (.cells #[.int .i64 0, .int .i64 0, .int .i64 0] 69)))
  have HX := Lib.hid (Row.new w 69 #[.int .i64 0, .int .i64 0, .int .i64 0])
  have HB := Lib.hid (below_alloc (Below.refl w.heap.size w) (.cells #[.int .i64 0, .int .i64 0, .int .i64 0] 69))
  clear hP hT
  go_enter Tryz.func85, Tryz.ntmps85
  go_wp2_with fail
  refine (libsplit_any s _ hs HT.out).mono ?_
  rw [HP.out]
  rintro e w1 ⟨rfl, hrow, hB⟩
  obtain ⟨G, hG⟩ : ∃ G, (w.alloc (.cells #[.int .i64 0, .int .i64 0, .int .i64 0] 69)).heap.size = G := ⟨_, rfl⟩
  rw [hG] at hrow ⊢
  have HPI := Lib.hid (piece_row hrow)
  have HX := Lib.hid (HX.out.keep hB)
  have HT := Lib.hid (HT.out.keep hB)
  have HB := Lib.hid (below_via HB.out hB)
  clear hrow hB hG
  obtain ⟨n, hnn⟩ : ∃ n, P.length = n := ⟨_, rfl⟩
  have HNN := Lib.hid hnn
  rw [hnn] at HPL ⊢
  clear hnn
  by_cases hn : n = 3
  · subst hn
    obtain ⟨x, y, z, rfl⟩ := three HNN.out
    go_wp2_with fail
    refine (readdecs_any G 0 3 3 [x, y, z] _ rfl (by decide) (Nat.le_refl _) HPI.out HLE.out HT.out).mono ?_
    rintro e w2 ⟨hB, hcase⟩
    have HX := Lib.hid (HX.out.keep hB)
    have HB := Lib.hid (below_via HB.out hB)
    obtain ⟨G2, hG2⟩ : ∃ G2, w1.heap.size = G2 := ⟨_, rfl⟩
    rw [hG2] at hcase
    clear hG2 hB
    have y0 := HX.out.cell (j := 0) (by simp)
    have y1 := HX.out.cell (j := 1) (by simp)
    have y2 := HX.out.cell (j := 2) (by simp)
    have f0 := HX.out.free 0
    have f1 := HX.out.free 1
    have f2 := HX.out.free 2
    simp at y0 y1 y2
    rcases hcase with ⟨ho, rfl⟩ | ⟨ns, ho, hl, rfl, hnu⟩
    · have HR := Lib.hid (rclaim_nums_no HP.out ho)
      clear ho
      go_wp2
      have hbF := ((HX.out.set 0 (.int .i64 0)).set 1 (.int .i64 0)).set 2 (.int .i64 0)
      unfold Row at hbF
      exact bodyPost_ret (v := .tuple #[.agg #[.int .i64 0, .int .i64 0, .int .i64 0], .bool false]) (by simp [results, Tryz.results85, go_sem, World.cell?, hbF]) rfl (rc_none HR.out ((HB.out.setCell (Nat.le_refl _) _).setCell (Nat.le_refl _) _ |>.setCell (Nat.le_refl _) _))
    · obtain ⟨a, e, u, rfl⟩ := three hl
      have HR := Lib.hid (rclaim_nums HP.out ho)
      have HNU := Lib.hid hnu
      have c0 := hnu.cell 0 (by simp)
      have c1 := hnu.cell 1 (by simp)
      have c2 := hnu.cell 2 (by simp)
      simp at c0 c1 c2
      have hg2 := hnu.lt
      have hg3 : G2 ≠ w2.heap.size := Nat.ne_of_lt hg2
      clear ho hl hnu
      go_wp2
      obtain ⟨q, hq⟩ : ∃ q, claimB a e u = q := ⟨_, rfl⟩
      rw [hq] at HR
      have HQ := Lib.hid hq
      clear hq y0 y1 y2 f0 f1 f2
      go_region_with (fail)
      all_goals
        go_wp2_with fail
        refine (claimok_any a e u _).mono ?_
        rw [HQ.out]
        rintro x4 w3 ⟨rfl, hB⟩
        have z0 := (hB.cell (p := ⟨w2.heap.size, 0, none⟩) (by simp)).trans (show _ = some (.int .i64 a) by simp)
        have z1 := (hB.cell (p := ⟨w2.heap.size, 1, none⟩) (by simp)).trans (show _ = some (.int .i64 e) by simp)
        have z2 := (hB.cell (p := ⟨w2.heap.size, 2, none⟩) (by simp)).trans (show _ = some (.int .i64 u) by simp)
        have HX := Lib.hid (HX.out.keep (below_via (below_alloc (Below.refl _ _).drew _) hB))
        have HB := Lib.hid (below_via (below_alloc HB.out.drew _) hB)
        have y0 := HX.out.cell (j := 0) (by simp)
        have y1 := HX.out.cell (j := 1) (by simp)
        have y2 := HX.out.cell (j := 2) (by simp)
        have f0 := HX.out.free 0
        have f1 := HX.out.free 1
        have f2 := HX.out.free 2
        simp at y0 y1 y2
        clear hB c0 c1 c2 hg2 hg3
        cases q
        · go_wp2
          have hbF := ((HX.out.set 0 (.int .i64 0)).set 1 (.int .i64 0)).set 2 (.int .i64 0)
          unfold Row at hbF
          exact bodyPost_ret (v := .tuple #[.agg #[.int .i64 0, .int .i64 0, .int .i64 0], .bool false]) (by simp [results, Tryz.results85, go_sem, World.cell?, hbF]) rfl (rc_none (by rw [HR.out]; rfl) ((HB.out.setCell (Nat.le_refl _) _).setCell (Nat.le_refl _) _ |>.setCell (Nat.le_refl _) _))
        · go_wp2
          have hbF := ((HX.out.set 0 (.int .i64 a)).set 1 (.int .i64 e)).set 2 (.int .i64 u)
          unfold Row at hbF
          exact bodyPost_ret (v := .tuple #[.agg #[.int .i64 a, .int .i64 e, .int .i64 u], .bool true]) (by simp [results, Tryz.results85, go_sem, World.cell?, hbF]) rfl (rc_some (by rw [HR.out]; rfl) ((HB.out.setCell (Nat.le_refl _) _).setCell (Nat.le_refl _) _ |>.setCell (Nat.le_refl _) _))
  · have HR := Lib.hid (rclaim_count (s := s.data.toList) (by rw [HP.out, HNN.out]; exact hn))
    go_wp2_with fail
    refine (readdecs_len _ n n 3 _ hn HPL.out).mono ?_
    rintro e w2 ⟨rfl, rfl⟩
    have y0 := HX.out.cell (j := 0) (by simp)
    have y1 := HX.out.cell (j := 1) (by simp)
    have y2 := HX.out.cell (j := 2) (by simp)
    have f0 := HX.out.free 0
    have f1 := HX.out.free 1
    have f2 := HX.out.free 2
    simp at y0 y1 y2
    go_wp2
    have hbF := ((HX.out.set 0 (.int .i64 0)).set 1 (.int .i64 0)).set 2 (.int .i64 0)
    unfold Row at hbF
    exact bodyPost_ret (v := .tuple #[.agg #[.int .i64 0, .int .i64 0, .int .i64 0], .bool false]) (by simp [results, Tryz.results85, go_sem, World.cell?, hbF]) rfl (rc_none HR.out ((HB.out.setCell (Nat.le_refl _) _).setCell (Nat.le_refl _) _ |>.setCell (Nat.le_refl _) _))
end Go.Proofs.YtbjlojmadellgaaGreatDoor
