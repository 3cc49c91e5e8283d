/-
  No cell of these rows narrows 'for every input' (looked for: loops, veiled, ifaces, maps, wideKeys, modest, calm, conditions, laid).
  DERIVED. THE GIVEN ROWS OF THIS SEAT. 4 by the template 'for every input the law returns true; each argument reads behind the call as it read before'; 0 by the template 'total and deterministic' (their statements: YtpfbnbhlmghgaaaTotals.lean).
  GIVEN WITH THE SEED: the statements are not yours to turn. If you find one false, say at which input.
  Laid BY PROGRAM, IN A SANDBOX (cutbox-rows.mjs): the forced cells as the released guide's own fill.sh prints them over the translation 25d73c015199ce1d… (all of the seat's roots in one cut). By AI agents, Wed Nov 11 2026. No macro, syntax, notation, axiom, sorry.
-/
import Derived.Test.YtpfbnbhlmghgaaaChecked
import GoSem.Claim
import GoSem.ClaimJoined
import GoSem.ClaimMapViews
import Derived.JoinedTies
import Derived.KernelRfl
namespace Go.Proofs.Ytpfbnbhlmghgaaa
/- THE CELL 'sum', in the pinned program and in every row, IS THE sha256 OF THE DUMP (.gsa) THAT YtpfbnbhlmghgaaaProg.lean LOADS. Nothing in Lean hashes anything: it is a label: what it is worth is what the hold of that sum in a sandbox is worth. -/
noncomputable def Try.pinned : Pinned := { name := "ytpfbnbhlmghgaaa", sum := "25d73c015199ce1debaab17b55d7503df047f7ff5866188ff89378f66099fd07", checked := Try.checked }
namespace Rows
def none {H : Type} : Left H := { results := [], args := [] }

/-- 'laws.FnExactLifted': WHATEVER THE INPUT: true; the input reads as it did. -/
def fnExactLiftedSpec : ChangeSpec := { name := "fnExactLifted", fn := fun _ => fun
  | [d1, d2] => { results := [.lit (.bool true)], args := [d1, d2] }
  | _ => none }
def fnExactLiftedRow : OpenClaim := { program := "ytpfbnbhlmghgaaa", sum := "25d73c015199ce1debaab17b55d7503df047f7ff5866188ff89378f66099fd07", func := "loop.example/g00703/laws.FnExactLifted", spec := "fnExactLifted", apart := false }
def FnExactLiftedSaid : Prop := fnExactLiftedRow.holds Try.pinned (OpenSpec.ofChange fnExactLiftedSpec)

/-- ITS FALSE NEIGHBOUR: 'it returns false'. Refute it at one input. -/
def fnExactLiftedWrong : ChangeSpec := { name := "fnExactLifted", fn := fun _ => fun
  | [d1, d2] => { results := [.lit (.bool false)], args := [d1, d2] }
  | _ => none }
def FnExactLiftedWrongFalsely : Prop := fnExactLiftedRow.holds Try.pinned (OpenSpec.ofChange fnExactLiftedWrong)

/-- 'laws.FnExactMergeAll': WHATEVER THE INPUT: true; the input reads as it did. -/
def fnExactMergeAllSpec : ChangeSpec := { name := "fnExactMergeAll", fn := fun _ => fun
  | [d] => { results := [.lit (.bool true)], args := [d] }
  | _ => none }
def fnExactMergeAllRow : OpenClaim := { program := "ytpfbnbhlmghgaaa", sum := "25d73c015199ce1debaab17b55d7503df047f7ff5866188ff89378f66099fd07", func := "loop.example/g00703/laws.FnExactMergeAll", spec := "fnExactMergeAll", unfollowed := true, recurses := true, apart := false }
def FnExactMergeAllSaid : Prop := fnExactMergeAllRow.holds Try.pinned (OpenSpec.ofChange fnExactMergeAllSpec)

/-- ITS FALSE NEIGHBOUR: 'it returns false'. Refute it at one input. -/
def fnExactMergeAllWrong : ChangeSpec := { name := "fnExactMergeAll", fn := fun _ => fun
  | [d] => { results := [.lit (.bool false)], args := [d] }
  | _ => none }
def FnExactMergeAllWrongFalsely : Prop := fnExactMergeAllRow.holds Try.pinned (OpenSpec.ofChange fnExactMergeAllWrong)

/-- 'laws.FnMergeKeys': WHATEVER THE INPUT: true; the input reads as it did. -/
def fnMergeKeysSpec : ChangeSpec := { name := "fnMergeKeys", fn := fun _ => fun
  | [d] => { results := [.lit (.bool true)], args := [d] }
  | _ => none }
def fnMergeKeysRow : OpenClaim := { program := "ytpfbnbhlmghgaaa", sum := "25d73c015199ce1debaab17b55d7503df047f7ff5866188ff89378f66099fd07", func := "loop.example/g00703/laws.FnMergeKeys", spec := "fnMergeKeys", unfollowed := true, recurses := true, apart := false }
def FnMergeKeysSaid : Prop := fnMergeKeysRow.holds Try.pinned (OpenSpec.ofChange fnMergeKeysSpec)

/-- ITS FALSE NEIGHBOUR: 'it returns false'. Refute it at one input. -/
def fnMergeKeysWrong : ChangeSpec := { name := "fnMergeKeys", fn := fun _ => fun
  | [d] => { results := [.lit (.bool false)], args := [d] }
  | _ => none }
def FnMergeKeysWrongFalsely : Prop := fnMergeKeysRow.holds Try.pinned (OpenSpec.ofChange fnMergeKeysWrong)

/-- 'laws.FnMergeAll': WHATEVER THE INPUT: true; the input reads as it did. -/
def fnMergeAllSpec : ChangeSpec := { name := "fnMergeAll", fn := fun _ => fun
  | [d] => { results := [.lit (.bool true)], args := [d] }
  | _ => none }
def fnMergeAllRow : OpenClaim := { program := "ytpfbnbhlmghgaaa", sum := "25d73c015199ce1debaab17b55d7503df047f7ff5866188ff89378f66099fd07", func := "loop.example/g00703/laws.FnMergeAll", spec := "fnMergeAll", unfollowed := true, recurses := true, apart := false }
def FnMergeAllSaid : Prop := fnMergeAllRow.holds Try.pinned (OpenSpec.ofChange fnMergeAllSpec)

/-- ITS FALSE NEIGHBOUR: 'it returns false'. Refute it at one input. -/
def fnMergeAllWrong : ChangeSpec := { name := "fnMergeAll", fn := fun _ => fun
  | [d] => { results := [.lit (.bool false)], args := [d] }
  | _ => none }
def FnMergeAllWrongFalsely : Prop := fnMergeAllRow.holds Try.pinned (OpenSpec.ofChange fnMergeAllWrong)

/- THE SECOND FORM. 'bulk': how many values and letters a reading holds, each counted each time it is reached (what is shared counts as often as it is met; a slice's spare places count too). A statement '..UptoSaid' is the law's where the arguments, and the package variables that the reading takes, are together of bulk at most 1048576: NARROWER than '..Said'. Prove '..Said' where nothing that the law and all that it calls make is longer than what came in: it says more and counts as full. Else prove '..UptoSaid'. A law counts once. -/
mutual
def uptoBulk {H : Type} : DataW H → Nat
  | .lit (.string bytes) => bytes.length + 1
  | .lit _ => 1
  | .nil => 1
  | .ptr d => uptoBulk d + 1
  | .slice elems spare => uptoBulkAll elems + uptoBulkAll spare + 1
  | .agg parts => uptoBulkAll parts + 1
  | .iface _ d => uptoBulk d + 1
  | .map entries => uptoBulkEntries entries + 1
  | .held _ => 1
def uptoBulkAll {H : Type} : List (DataW H) → Nat
  | [] => 0
  | d :: r => uptoBulk d + uptoBulkAll r
def uptoBulkEntries {H : Type} : List (Lit × DataW H) → Nat
  | [] => 0
  | x :: r => uptoBulkEntry x + uptoBulkEntries r
def uptoBulkEntry {H : Type} : Lit × DataW H → Nat
  | (.string bytes, d) => bytes.length + uptoBulk d + 1
  | (_, d) => uptoBulk d + 1
 end
def uptoSmall : (H : Type) → List (DataW H) → Bool := fun _ ds => decide (uptoBulkAll ds ≤ 1048576)
def OpenSpec.upto (s : _root_.Go.ChangeSpec) : _root_.Go.OpenSpec := { _root_.Go.OpenSpec.ofChange s with cond := some uptoSmall }

/-- 'laws.FnExactLifted', WHERE WHAT IT READS IS OF BULK AT MOST 1048576: true; the input reads as it did. -/
def fnExactLiftedUptoRow : OpenClaim := { program := "ytpfbnbhlmghgaaa", sum := "25d73c015199ce1debaab17b55d7503df047f7ff5866188ff89378f66099fd07", func := "loop.example/g00703/laws.FnExactLifted", spec := "fnExactLifted", apart := false, narrowed := true }
def FnExactLiftedUptoSaid : Prop := fnExactLiftedUptoRow.holds Try.pinned (OpenSpec.upto fnExactLiftedSpec)

/-- 'laws.FnExactMergeAll', WHERE WHAT IT READS IS OF BULK AT MOST 1048576: true; the input reads as it did. -/
def fnExactMergeAllUptoRow : OpenClaim := { program := "ytpfbnbhlmghgaaa", sum := "25d73c015199ce1debaab17b55d7503df047f7ff5866188ff89378f66099fd07", func := "loop.example/g00703/laws.FnExactMergeAll", spec := "fnExactMergeAll", unfollowed := true, recurses := true, apart := false, narrowed := true }
def FnExactMergeAllUptoSaid : Prop := fnExactMergeAllUptoRow.holds Try.pinned (OpenSpec.upto fnExactMergeAllSpec)

/-- 'laws.FnMergeKeys', WHERE WHAT IT READS IS OF BULK AT MOST 1048576: true; the input reads as it did. -/
def fnMergeKeysUptoRow : OpenClaim := { program := "ytpfbnbhlmghgaaa", sum := "25d73c015199ce1debaab17b55d7503df047f7ff5866188ff89378f66099fd07", func := "loop.example/g00703/laws.FnMergeKeys", spec := "fnMergeKeys", unfollowed := true, recurses := true, apart := false, narrowed := true }
def FnMergeKeysUptoSaid : Prop := fnMergeKeysUptoRow.holds Try.pinned (OpenSpec.upto fnMergeKeysSpec)

/-- 'laws.FnMergeAll', WHERE WHAT IT READS IS OF BULK AT MOST 1048576: true; the input reads as it did. -/
def fnMergeAllUptoRow : OpenClaim := { program := "ytpfbnbhlmghgaaa", sum := "25d73c015199ce1debaab17b55d7503df047f7ff5866188ff89378f66099fd07", func := "loop.example/g00703/laws.FnMergeAll", spec := "fnMergeAll", unfollowed := true, recurses := true, apart := false, narrowed := true }
def FnMergeAllUptoSaid : Prop := fnMergeAllUptoRow.holds Try.pinned (OpenSpec.upto fnMergeAllSpec)

end Rows
end Go.Proofs.Ytpfbnbhlmghgaaa
