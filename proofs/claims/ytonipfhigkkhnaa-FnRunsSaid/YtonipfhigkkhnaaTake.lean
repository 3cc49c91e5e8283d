
/- The program's reader of records: whether there is more, and the record at its place. Only the reader's position and new blocks change. -/
import Derived.Test.YtonipfhigkkhnaaReadM
import Derived.Test.YtonipfhigkkhnaaOwn
namespace Go.Proofs.Ytonipfhigkkhnaa
open Go.ChangeShapes Go.WideShapes Go.ChangeAt Go.RowKit
set_option linter.unusedVariables false
set_option maxRecDepth 100000

def MadeTake (s : ByteArray) (at0 : Nat) (r : Nat) (E : TypeId) (w : World) (e : Ending) (w' : World) : Prop :=
  e = .returned (.tuple #[.agg #[.string (recAt s at0).1, .int .i64 (recAt s at0).2], .bool true]) ∧ Row w' r E #[.string s, .int .i64 ((keyEnd s at0 + 8 : Nat) : Int)] ∧ w.grownBy w' (some r)

set_option maxHeartbeats 2000000 in
theorem take_yes (s : ByteArray) (at0 : Nat) (w : World) (r : Nat) (E : TypeId) (hrow : Row w r E #[.string s, .int .i64 at0]) (hs : s.size ≤ 1048576) (ha : at0 < s.size) (hk : keyEnd s at0 + 8 ≤ s.size) :
    Calls Try.prog 75 #[.pointer (some ⟨r, 0, none⟩)] w (MadeTake s at0 r E w) := by
  have hlt := hrow.lt
  have hc0 : w.cell? ⟨r, 0, none⟩ = some (.string s) := hrow.cell (j := 0) (by simp)
  have hc1 : w.cell? ⟨r, 1, none⟩ = some (.int .i64 at0) := hrow.cell (j := 1) (by simp)
  have hf := hrow.free 1
  have HROW := Lib.hid hrow
  obtain ⟨c, hc⟩ : ∃ c, s[at0].toNat = c := ⟨_, rfl⟩
  have hcb : c < 256 := by rw [← hc]; exact UInt8.toNat_lt _
  obtain ⟨p, hp0⟩ : ∃ p, keyEnd s at0 = p := ⟨_, rfl⟩
  have hp1 : p = at0 + 1 + c := by rw [← hp0, ← hc]; unfold keyEnd; rw [byteAt_eq ha]
  rw [hp0] at hk
  have HP0 := Lib.hid hp0
  have HC := Lib.hid hc
  have hi0 : (0 : Int) ≤ (at0 : Int) := by omega
  have hi1 : (at0 : Int) < (s.size : Int) := by omega
  have hp : (at0 : Int) + 1 + (c : Int) = (p : Int) := by omega
  have g1 : ¬ (s.size : Int) - (p : Int) < 8 := by omega
  have HP := Lib.hid hp
  have HP1 := Lib.hid hp1
  have g2 : (at0 : Int) + 1 ≤ (p : Int) := by omega
  have g3 : (p : Int) ≤ (s.size : Int) := by omega
  have g4 : (0 : Int) ≤ (at0 : Int) + 1 := by omega
  clear hrow hp0 hp hp1
  go_enter Try.func75, Try.ntmps75
  go_wp2_with fail
  have hwr : IntKind.i64.wrap ((at0 : Int) + 1 + (c : Int)) = (at0 : Int) + 1 + (c : Int) := IntWalk.i64_in _ (by have := HP1.out; omega)
  go_quiet (fail)
  clear hwr
  rw [HP.out]
  clear hc
  go_wp2
  go_loop [6, 7] (fun x i => ∃ (m : Nat), m ≤ 8 ∧ i = .int .i64 (7 - (m : Int)) ∧ x = .int .u64 (wordTo s p m)) (fun _ i => (intOf i + 1).toNat)
  case atStart => exact ⟨0, by omega, rfl, rfl⟩
  case round =>
    obtain ⟨m, hm, rfl, rfl⟩ := hrel
    by_cases hlt : m < 8
    · obtain ⟨d, hd⟩ : ∃ d : Nat, 7 - (m : Int) = (d : Int) := ⟨7 - m, by omega⟩
      have HS := Lib.hid (show wordTo s p (m + 1) = wstep (wordTo s p m) s[p + d] by
        have : d = 7 - m := by omega
        rw [wordTo, ← this, byteAt_eq])
      rw [hd]
      have hpd : p + d < s.size := by omega
      have hj0 : (0 : Int) ≤ (p : Int) + (d : Int) := by omega
      have hj1 : (p : Int) + (d : Int) < (s.size : Int) := by omega
      have hj2 : ((p : Int) + (d : Int)).toNat = p + d := by omega
      generalize hX : wordTo s p m = X at HS
      have HX := Lib.hid hX
      clear hX
      go_wp2
      go_round
      case rel => exact ⟨m + 1, by omega, by go_num, by rw [HS.out]; rfl⟩
      case measure => simp [intOf]
    · obtain rfl : m = 8 := by omega
      have g6 : ((at0 : Int) + 1).toNat = at0 + 1 := by omega
      go_wp2
      have hrow2 : Row (((((w.alloc (.cells #[.string ⟨#[]⟩, .int .i64 0] 33)).drewN nq).setCell ⟨r, 1, none⟩ (.int .i64 ((p : Int) + 8))).setCell ⟨w.heap.size, 0, none⟩ (.string (s.extract (at0 + 1) p))).setCell ⟨w.heap.size, 1, none⟩ (.int .i64 (wrap64 (wordTo s p 8)))) w.heap.size 33 #[.string (s.extract (at0 + 1) p), .int .i64 (wrap64 (wordTo s p 8))] :=
        (((((Row.new w 33 #[.string ⟨#[]⟩, .int .i64 0]).drewN nq).other (Nat.ne_of_gt HROW.out.lt) 1 (.int .i64 ((p : Int) + 8))).set 0 (.string (s.extract (at0 + 1) p))).set 1 (.int .i64 (wrap64 (wordTo s p 8))) :)
      have hrow3 : Row (((((w.alloc (.cells #[.string ⟨#[]⟩, .int .i64 0] 33)).drewN nq).setCell ⟨r, 1, none⟩ (.int .i64 ((p : Int) + 8))).setCell ⟨w.heap.size, 0, none⟩ (.string (s.extract (at0 + 1) p))).setCell ⟨w.heap.size, 1, none⟩ (.int .i64 (wrap64 (wordTo s p 8)))) r E #[.string s, .int .i64 ((p : Int) + 8)] :=
        ((((HROW.out.alloc _).drewN nq).set 1 (.int .i64 ((p : Int) + 8))).other (Nat.ne_of_lt HROW.out.lt) 0 _).other (Nat.ne_of_lt HROW.out.lt) 1 _
      have hgr : w.grownBy (((((w.alloc (.cells #[.string ⟨#[]⟩, .int .i64 0] 33)).drewN nq).setCell ⟨r, 1, none⟩ (.int .i64 ((p : Int) + 8))).setCell ⟨w.heap.size, 0, none⟩ (.string (s.extract (at0 + 1) p))).setCell ⟨w.heap.size, 1, none⟩ (.int .i64 (wrap64 (wordTo s p 8)))) (some r) :=
        growP (growP (growS (growD (growA (World.grownBy.refl w _) _) _) _ _) (Nat.le_refl _) _ _) (Nat.le_refl _) _ _
      generalize (((((w.alloc (.cells #[.string ⟨#[]⟩, .int .i64 0] 33)).drewN nq).setCell ⟨r, 1, none⟩ (.int .i64 ((p : Int) + 8))).setCell ⟨w.heap.size, 0, none⟩ (.string (s.extract (at0 + 1) p))).setCell ⟨w.heap.size, 1, none⟩ (.int .i64 (wrap64 (wordTo s p 8)))) = wf at hrow2 hrow3 hgr ⊢
      have hb := hrow2
      unfold Row at hb
      have HREC := Lib.hid (show recAt s at0 = (s.extract (at0 + 1) p, wrap64 (wordTo s p 8)) by unfold recAt; rw [HP0.out])
      have HKE := Lib.hid (show ((keyEnd s at0 + 8 : Nat) : Int) = (p : Int) + 8 by rw [HP0.out]; omega)
      refine bodyPost_ret (v := .tuple #[recV (s.extract (at0 + 1) p) (wrap64 (wordTo s p 8)), .bool true]) (by simp [results, Try.results75, go_sem, World.cell?, hb, recV]) rfl ⟨by rw [HREC.out]; rfl, by rw [HKE.out]; exact hrow3, hgr⟩

/-- The end of takeRec where no whole record lies there. -/
def MadeNone (w : World) (e : Ending) (w' : World) : Prop := e = .returned (.tuple #[.agg #[.string ByteArray.empty, .int .i64 0], .bool false]) ∧ Below w.heap.size w w'

set_option maxHeartbeats 2000000 in
theorem take_no (s : ByteArray) (at0 : Nat) (w : World) (r : Nat) (E : TypeId) (hrow : Row w r E #[.string s, .int .i64 at0]) (hs : s.size ≤ 1048576) (ha : at0 < s.size) (hk : ¬ keyEnd s at0 + 8 ≤ s.size) :
    Calls Try.prog 75 #[.pointer (some ⟨r, 0, none⟩)] w (MadeNone w) := by
  have hlt := hrow.lt
  have hc0 : w.cell? ⟨r, 0, none⟩ = some (.string s) := hrow.cell (j := 0) (by simp)
  have hc1 : w.cell? ⟨r, 1, none⟩ = some (.int .i64 at0) := hrow.cell (j := 1) (by simp)
  have hf := hrow.free 1
  obtain ⟨c, hc⟩ : ∃ c, s[at0].toNat = c := ⟨_, rfl⟩
  have hcb : c < 256 := by rw [← hc]; exact UInt8.toNat_lt _
  obtain ⟨p, hp0⟩ : ∃ p, keyEnd s at0 = p := ⟨_, rfl⟩
  have hp1 : p = at0 + 1 + c := by rw [← hp0, ← hc]; unfold keyEnd; rw [byteAt_eq ha]
  rw [hp0] at hk
  have hi0 : (0 : Int) ≤ (at0 : Int) := by omega
  have hi1 : (at0 : Int) < (s.size : Int) := by omega
  have hp : (at0 : Int) + 1 + (c : Int) = (p : Int) := by omega
  have g1 : (s.size : Int) - (p : Int) < 8 := by omega
  have g2 : (p : Int) ≤ 2000000 := by omega
  have HP := Lib.hid hp
  have HP1 := Lib.hid hp1
  clear hrow hp0 hp hp1
  go_enter Try.func75, Try.ntmps75
  go_wp2_with fail
  have hwr : IntKind.i64.wrap ((at0 : Int) + 1 + (c : Int)) = (at0 : Int) + 1 + (c : Int) := IntWalk.i64_in _ (by have := HP1.out; omega)
  go_quiet (fail)
  clear hwr
  rw [HP.out]
  clear hc
  go_wp2
  have hrow2 : Row ((((w.alloc (.cells #[.string ⟨#[]⟩, .int .i64 0] 33)).drewN nq).setCell ⟨w.heap.size, 0, none⟩ (.string ⟨#[]⟩)).setCell ⟨w.heap.size, 1, none⟩ (.int .i64 0)) w.heap.size 33 #[.string ⟨#[]⟩, .int .i64 0] :=
    ((((Row.new w 33 #[.string ⟨#[]⟩, .int .i64 0]).drewN nq).set 0 (.string ⟨#[]⟩)).set 1 (.int .i64 0) :)
  have hbel : Below w.heap.size w ((((w.alloc (.cells #[.string ⟨#[]⟩, .int .i64 0] 33)).drewN nq).setCell ⟨w.heap.size, 0, none⟩ (.string ⟨#[]⟩)).setCell ⟨w.heap.size, 1, none⟩ (.int .i64 0)) := (((below_drewN (below_alloc (Below.refl _ _) _) _).setCell (Nat.le_refl _) _).setCell (Nat.le_refl _) _)
  generalize ((((w.alloc (.cells #[.string ⟨#[]⟩, .int .i64 0] 33)).drewN nq).setCell ⟨w.heap.size, 0, none⟩ (.string ⟨#[]⟩)).setCell ⟨w.heap.size, 1, none⟩ (.int .i64 0)) = wf at hrow2 hbel ⊢
  have hb := hrow2
  unfold Row at hb
  exact bodyPost_ret (v := .tuple #[recV ⟨#[]⟩ 0, .bool false]) (by simp [results, Try.results75, go_sem, World.cell?, hb, recV]) rfl ⟨rfl, hbel⟩

theorem more_any (s : ByteArray) (at0 : Nat) (w : World) (r : Nat) (E : TypeId) (hrow : Row w r E #[.string s, .int .i64 at0]) :
    Calls Try.prog 74 #[.pointer (some ⟨r, 0, none⟩)] w (fun e w' => e = .returned (.bool (decide ((at0 : Int) < (s.size : Int)))) ∧ Below w.heap.size w w') := by
  have hlt := hrow.lt
  have hc0 : w.cell? ⟨r, 0, none⟩ = some (.string s) := hrow.cell (j := 0) (by simp)
  have hc1 : w.cell? ⟨r, 1, none⟩ = some (.int .i64 at0) := hrow.cell (j := 1) (by simp)
  clear hrow
  go_enter Try.func74, Try.ntmps74
  go_wp2_with fail
  go_quiet (fail)
  go_wp2
  go_ret
  exact ⟨by simp, below_drewN (Below.refl _ _) _⟩
end Go.Proofs.Ytonipfhigkkhnaa
