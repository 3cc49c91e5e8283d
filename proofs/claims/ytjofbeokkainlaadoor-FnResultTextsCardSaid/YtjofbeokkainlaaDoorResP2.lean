
/- The text of a result, as the program writes it: whole. Only new blocks are made. -/
import Derived.Test.YtjofbeokkainlaaDoorResP
import Derived.Test.YtjofbeokkainlaaDoorMg8
namespace Go.Proofs.YtjofbeokkainlaaDoor
open Go.ChangeShapes Go.WideShapes Go.ChangeAt Go.RowKit
set_option linter.unusedVariables false
set_option maxRecDepth 100000

theorem joinB_one (e : Int) : joinB ⟨#[32]⟩ [e] = decB e := by
  apply ba_eq
  simp [joinB, Lib.join, List.intercalate, decB]

set_option maxHeartbeats 4000000 in
theorem resulttext_any (d f : Bool) (task : Int) (q : Option Addr) (n cp : Nat) (LS : List Recs) (w : World) (h : OutsAt w q n LS) (hf : FewR LS) (ht : In64 task) (hT : Tabs w) :
    Calls Tryd.prog 6 #[.agg #[.bool d, .bool f, .int .i64 task, .slice q n cp]] w (MadeTx (resTx d f task LS) w) := by
  have HF := Lib.hid hf
  have HI : Hid (∀ n ∈ [task], In64 n) := Lib.hid (by intro n hn; simp at hn; subst hn; exact ht)
  obtain ⟨B, hB⟩ : ∃ B, w.heap.size = B := ⟨_, rfl⟩
  obtain ⟨w1, hw1⟩ : ∃ x, w.alloc (.cells #[.bool d, .bool f, .int .i64 task, .slice q n cp] 26) = x := ⟨_, rfl⟩
  have HB := Lib.hid (show Below w.heap.size w w1 from hw1 ▸ below_alloc (Below.refl _ _) _)
  have HR := Lib.hid (show Row w1 B 26 #[.bool d, .bool f, .int .i64 task, .slice q n cp] from by rw [← hw1, ← hB]; exact Row.new w _ _)
  have HO := Lib.hid (show OutsAt w1 q n LS from h.keep HB.out)
  have HT := Lib.hid (hT.keep HB.out)
  have k0 := HR.out.cell (j := 0) (by simp)
  have k1 := HR.out.cell (j := 1) (by simp)
  have k2 := HR.out.cell (j := 2) (by simp)
  have k3 := HR.out.cell (j := 3) (by simp)
  simp at k0 k1 k2 k3
  have HZ := Lib.hid (@decB_size task ht.1 (by have := ht.2; omega))
  clear h hf ht hT
  cases d with
  | true =>
    go_enter Tryd.func6, Tryd.ntmps6
    go_wp2_with fail
    refine (donetext_any q n cp LS _ HO.out HF.out HT.out).mono ?_
    rintro e w2 ⟨rfl, hB2⟩
    have HB2 := Lib.hid (below_via HB.out hB2)
    have HE := Lib.hid (show outTo LS LS.length = resTx true f task LS by unfold resTx; rw [if_pos rfl])
    clear hB2
    rw [HE.out]
    go_wp2
    go_ret
    exact ⟨rfl, HB2.out⟩
  | false =>
    cases f with
    | false =>
      go_enter Tryd.func6, Tryd.ntmps6
      go_wp2
      go_ret
      exact ⟨rfl, HB.out⟩
    | true =>
      have HN := Lib.hid (nums_new w1 2 [task] HI.out)
      have HBA := Lib.hid (below_alloc HB.out (.cells #[.int .i64 task] 2))
      have HTA := Lib.hid (HT.out.keep (below_alloc (Below.refl _ _) (.cells #[.int .i64 task] 2)))
      have zj : (joinB ⟨#[32]⟩ [task]).size ≤ 20 := (by rw [joinB_one]; exact HZ.out)
      have c1 : ∀ w, (Op.stringOp .add (⟨#[102, 97, 105, 108, 101, 100, 32]⟩ : ByteArray) (joinB ⟨#[32]⟩ [task])).run Tryd.prog w = .ok (.string (⟨#[102, 97, 105, 108, 101, 100, 32]⟩ ++ joinB ⟨#[32]⟩ [task])) w := fun w => cat_runp _ _ 20 (by decide) zj
      have HE := Lib.hid (show (⟨#[102, 97, 105, 108, 101, 100, 32]⟩ : ByteArray) ++ joinB ⟨#[32]⟩ [task] = resTx false true task LS by rw [joinB_one]; rfl)
      obtain ⟨J, hJ⟩ : ∃ J, joinB ⟨#[32]⟩ [task] = J := ⟨_, rfl⟩
      have HJ := Lib.hid hJ
      rw [hJ] at c1 HE
      clear zj hJ
      go_enter Tryd.func6, Tryd.ntmps6
      go_wp2_with fail
      refine (decimals_any ⟨#[32]⟩ _ 1 [task] _ (by decide) (by simp) (by simp) HN.out HTA.out).mono ?_
      rintro e w2 ⟨rfl, hB2⟩
      rw [HJ.out]
      have HB2 := Lib.hid (below_via HBA.out hB2)
      clear hB2
      go_wp2
      go_ret
      exact ⟨congrArg (fun s => Ending.returned (.string s)) HE.out, HB2.out⟩
end Go.Proofs.YtjofbeokkainlaaDoor
