
/- The program's match: whether there is an object with this key and version. Only new blocks are made. -/
import Derived.Test.YtblpebdjbenphaaGreatDoorObK
namespace Go.Proofs.YtblpebdjbenphaaGreatDoor
open Go.ChangeShapes Go.WideShapes Go.ChangeAt Go.RowKit
set_option linter.unusedVariables false
set_option maxRecDepth 100000

def matchC (r : Option ElV) (ver : Int) : Int := match r with
  | none => 4
  | some e => if e.2.2 = true then 4 else if e.1 = ver then 0 else 5

set_option maxHeartbeats 2000000 in
theorem match_any (base B b n cp : Nat) (q : Option Addr) (lk : Int) (E : Els) (A : ErrA) (key : ByteArray) (ver : Int) (w : World) (h : ObAt base w B b n q cp lk E) (hA : Low base A w) (hk : key.size ≤ maxLen) :
    Calls Tryz.prog 74 #[.pointer (some ⟨B, 0, none⟩), .string key, .int .i64 ver] w fun e w' => e = .returned (codeV A (matchC (lookE key E) ver)) ∧ Below w.heap.size w w' := by
  obtain ⟨cB0, cB2, cB3⟩ := h.cells
  have HM := Lib.hid h.map
  have HK := Lib.hid hk
  have e3 := hA.tab.c3
  have e4 := hA.tab.c4
  have e3 := fun o => ((below_alloc (Below.refl _ _) o).cell (World.block_lt_of_cell? _ _ e3)).trans e3
  have e4 := fun o => ((below_alloc (Below.refl _ _) o).cell (World.block_lt_of_cell? _ _ e4)).trans e4
  unfold errV at e3 e4
  have HB := Lib.hid (below_alloc (Below.refl w.heap.size w))
  clear h hA hk
  cases hl : lookE key E with
  | none =>
    have HL := Lib.hid hl
    clear hl
    go_enter Tryz.func74, Tryz.ntmps74
    go_wp2_with (at_lookup; refine wpList_look_el _ rfl _ _ true rfl b n _ rfl HM.out key rfl HK.out _ HL.out ?_; simp only [Option.getD_none, Option.isSome_none, elV, el0, if_true])
    go_ret
    exact ⟨rfl, HB.out _⟩
  | some e =>
    obtain ⟨v, d, g⟩ := e
    have HL := Lib.hid hl
    clear hl
    cases g with
    | true =>
      go_enter Tryz.func74, Tryz.ntmps74
      go_wp2_with (at_lookup; refine wpList_look_el _ rfl _ _ true rfl b n _ rfl HM.out key rfl HK.out _ HL.out ?_; simp only [Option.getD_some, Option.isSome_some, elV, if_true])
      go_ret
      exact ⟨rfl, HB.out _⟩
    | false =>
      by_cases hv : v = ver
      · subst hv
        go_enter Tryz.func74, Tryz.ntmps74
        go_wp2_with (at_lookup; refine wpList_look_el _ rfl _ _ true rfl b n _ rfl HM.out key rfl HK.out _ HL.out ?_; simp only [Option.getD_some, Option.isSome_some, elV, if_true])
        go_ret
        exact ⟨by simp [matchC, codeV], HB.out _⟩
      · have hne : (v == ver) = false := by simpa using hv
        go_enter Tryz.func74, Tryz.ntmps74
        go_wp2_with (at_lookup; refine wpList_look_el _ rfl _ _ true rfl b n _ rfl HM.out key rfl HK.out _ HL.out ?_; simp only [Option.getD_some, Option.isSome_some, elV, if_true])
        go_ret
        exact ⟨by simp [matchC, codeV, hv, errV], HB.out _⟩
end Go.Proofs.YtblpebdjbenphaaGreatDoor
