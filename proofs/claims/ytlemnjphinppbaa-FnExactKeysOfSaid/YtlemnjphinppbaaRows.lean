/-
  No cell of these rows narrows 'for every input' (looked for: loops, veiled, ifaces, maps, wideKeys, modest, calm, conditions, laid).
  DERIVED. THE GIVEN ROWS OF THIS SEAT. 8 by the template 'for every input the law returns true; each argument reads behind the call as it read before'; 0 by the template 'total and deterministic' (their statements: YtlemnjphinppbaaTotals.lean).
  GIVEN WITH THE SEED: the statements are not yours to turn. If you find one false, say at which input.
  Laid BY PROGRAM, IN A SANDBOX (cutbox-rows.mjs): the forced cells as the released guide's own fill.sh prints them over the translation 15742b59d36bd1e1… (all of the seat's roots in one cut). By AI agents, Wed Nov 11 2026. No macro, syntax, notation, axiom, sorry.
-/
import Derived.Test.YtlemnjphinppbaaChecked
import GoSem.Claim
import GoSem.ClaimJoined
import GoSem.ClaimMapViews
import Derived.JoinedTies
import Derived.KernelRfl
namespace Go.Proofs.Ytlemnjphinppbaa
/- THE CELL 'sum', in the pinned program and in every row, IS THE sha256 OF THE DUMP (.gsa) THAT YtlemnjphinppbaaProg.lean LOADS. Nothing in Lean hashes anything: it is a label: what it is worth is what the hold of that sum in a sandbox is worth. -/
noncomputable def Try.pinned : Pinned := { name := "ytlemnjphinppbaa", sum := "15742b59d36bd1e1c45aa4ff7df64b76ff82573c5ed3e5316bce3db635a9a048", checked := Try.checked }
namespace Rows
def none {H : Type} : Left H := { results := [], args := [] }

/-- 'laws.FnRuns': WHATEVER THE INPUT: true; the input reads as it did. -/
def fnRunsSpec : ChangeSpec := { name := "fnRuns", fn := fun _ => fun
  | [d] => { results := [.lit (.bool true)], args := [d] }
  | _ => none }
def fnRunsRow : OpenClaim := { program := "ytlemnjphinppbaa", sum := "15742b59d36bd1e1c45aa4ff7df64b76ff82573c5ed3e5316bce3db635a9a048", func := "loop.example/g00703/laws.FnRuns", spec := "fnRuns", unfollowed := true, recurses := true, apart := false }
def FnRunsSaid : Prop := fnRunsRow.holds Try.pinned (OpenSpec.ofChange fnRunsSpec)

/-- ITS FALSE NEIGHBOUR: 'it returns false'. Refute it at one input. -/
def fnRunsWrong : ChangeSpec := { name := "fnRuns", fn := fun _ => fun
  | [d] => { results := [.lit (.bool false)], args := [d] }
  | _ => none }
def FnRunsWrongFalsely : Prop := fnRunsRow.holds Try.pinned (OpenSpec.ofChange fnRunsWrong)

/-- 'laws.FnKeys': WHATEVER THE INPUT: true; the input reads as it did. -/
def fnKeysSpec : ChangeSpec := { name := "fnKeys", fn := fun _ => fun
  | [d] => { results := [.lit (.bool true)], args := [d] }
  | _ => none }
def fnKeysRow : OpenClaim := { program := "ytlemnjphinppbaa", sum := "15742b59d36bd1e1c45aa4ff7df64b76ff82573c5ed3e5316bce3db635a9a048", func := "loop.example/g00703/laws.FnKeys", spec := "fnKeys", unfollowed := true, recurses := true, apart := false }
def FnKeysSaid : Prop := fnKeysRow.holds Try.pinned (OpenSpec.ofChange fnKeysSpec)

/-- ITS FALSE NEIGHBOUR: 'it returns false'. Refute it at one input. -/
def fnKeysWrong : ChangeSpec := { name := "fnKeys", fn := fun _ => fun
  | [d] => { results := [.lit (.bool false)], args := [d] }
  | _ => none }
def FnKeysWrongFalsely : Prop := fnKeysRow.holds Try.pinned (OpenSpec.ofChange fnKeysWrong)

/-- 'laws.FnRunFirst': WHATEVER THE INPUT: true; the input reads as it did. -/
def fnRunFirstSpec : ChangeSpec := { name := "fnRunFirst", fn := fun _ => fun
  | [d] => { results := [.lit (.bool true)], args := [d] }
  | _ => none }
def fnRunFirstRow : OpenClaim := { program := "ytlemnjphinppbaa", sum := "15742b59d36bd1e1c45aa4ff7df64b76ff82573c5ed3e5316bce3db635a9a048", func := "loop.example/g00703/laws.FnRunFirst", spec := "fnRunFirst", unfollowed := true, recurses := true, apart := false }
def FnRunFirstSaid : Prop := fnRunFirstRow.holds Try.pinned (OpenSpec.ofChange fnRunFirstSpec)

/-- ITS FALSE NEIGHBOUR: 'it returns false'. Refute it at one input. -/
def fnRunFirstWrong : ChangeSpec := { name := "fnRunFirst", fn := fun _ => fun
  | [d] => { results := [.lit (.bool false)], args := [d] }
  | _ => none }
def FnRunFirstWrongFalsely : Prop := fnRunFirstRow.holds Try.pinned (OpenSpec.ofChange fnRunFirstWrong)

/-- 'laws.FnExactRunOk': WHATEVER THE INPUT: true; the input reads as it did. -/
def fnExactRunOkSpec : ChangeSpec := { name := "fnExactRunOk", fn := fun _ => fun
  | [d] => { results := [.lit (.bool true)], args := [d] }
  | _ => none }
def fnExactRunOkRow : OpenClaim := { program := "ytlemnjphinppbaa", sum := "15742b59d36bd1e1c45aa4ff7df64b76ff82573c5ed3e5316bce3db635a9a048", func := "loop.example/g00703/laws.FnExactRunOk", spec := "fnExactRunOk", unfollowed := true, recurses := true, apart := false }
def FnExactRunOkSaid : Prop := fnExactRunOkRow.holds Try.pinned (OpenSpec.ofChange fnExactRunOkSpec)

/-- ITS FALSE NEIGHBOUR: 'it returns false'. Refute it at one input. -/
def fnExactRunOkWrong : ChangeSpec := { name := "fnExactRunOk", fn := fun _ => fun
  | [d] => { results := [.lit (.bool false)], args := [d] }
  | _ => none }
def FnExactRunOkWrongFalsely : Prop := fnExactRunOkRow.holds Try.pinned (OpenSpec.ofChange fnExactRunOkWrong)

/-- 'laws.FnExactRunBytes': WHATEVER THE INPUT: true; the input reads as it did. -/
def fnExactRunBytesSpec : ChangeSpec := { name := "fnExactRunBytes", fn := fun _ => fun
  | [d] => { results := [.lit (.bool true)], args := [d] }
  | _ => none }
def fnExactRunBytesRow : OpenClaim := { program := "ytlemnjphinppbaa", sum := "15742b59d36bd1e1c45aa4ff7df64b76ff82573c5ed3e5316bce3db635a9a048", func := "loop.example/g00703/laws.FnExactRunBytes", spec := "fnExactRunBytes", unfollowed := true, recurses := true, apart := false }
def FnExactRunBytesSaid : Prop := fnExactRunBytesRow.holds Try.pinned (OpenSpec.ofChange fnExactRunBytesSpec)

/-- ITS FALSE NEIGHBOUR: 'it returns false'. Refute it at one input. -/
def fnExactRunBytesWrong : ChangeSpec := { name := "fnExactRunBytes", fn := fun _ => fun
  | [d] => { results := [.lit (.bool false)], args := [d] }
  | _ => none }
def FnExactRunBytesWrongFalsely : Prop := fnExactRunBytesRow.holds Try.pinned (OpenSpec.ofChange fnExactRunBytesWrong)

/-- 'laws.FnExactReadRun': WHATEVER THE INPUT: true; the input reads as it did. -/
def fnExactReadRunSpec : ChangeSpec := { name := "fnExactReadRun", fn := fun _ => fun
  | [d] => { results := [.lit (.bool true)], args := [d] }
  | _ => none }
def fnExactReadRunRow : OpenClaim := { program := "ytlemnjphinppbaa", sum := "15742b59d36bd1e1c45aa4ff7df64b76ff82573c5ed3e5316bce3db635a9a048", func := "loop.example/g00703/laws.FnExactReadRun", spec := "fnExactReadRun", unfollowed := true, recurses := true, apart := false }
def FnExactReadRunSaid : Prop := fnExactReadRunRow.holds Try.pinned (OpenSpec.ofChange fnExactReadRunSpec)

/-- ITS FALSE NEIGHBOUR: 'it returns false'. Refute it at one input. -/
def fnExactReadRunWrong : ChangeSpec := { name := "fnExactReadRun", fn := fun _ => fun
  | [d] => { results := [.lit (.bool false)], args := [d] }
  | _ => none }
def FnExactReadRunWrongFalsely : Prop := fnExactReadRunRow.holds Try.pinned (OpenSpec.ofChange fnExactReadRunWrong)

/-- 'laws.FnExactKeysOf': WHATEVER THE INPUT: true; the input reads as it did. -/
def fnExactKeysOfSpec : ChangeSpec := { name := "fnExactKeysOf", fn := fun _ => fun
  | [d] => { results := [.lit (.bool true)], args := [d] }
  | _ => none }
def fnExactKeysOfRow : OpenClaim := { program := "ytlemnjphinppbaa", sum := "15742b59d36bd1e1c45aa4ff7df64b76ff82573c5ed3e5316bce3db635a9a048", func := "loop.example/g00703/laws.FnExactKeysOf", spec := "fnExactKeysOf", unfollowed := true, recurses := true, apart := false }
def FnExactKeysOfSaid : Prop := fnExactKeysOfRow.holds Try.pinned (OpenSpec.ofChange fnExactKeysOfSpec)

/-- ITS FALSE NEIGHBOUR: 'it returns false'. Refute it at one input. -/
def fnExactKeysOfWrong : ChangeSpec := { name := "fnExactKeysOf", fn := fun _ => fun
  | [d] => { results := [.lit (.bool false)], args := [d] }
  | _ => none }
def FnExactKeysOfWrongFalsely : Prop := fnExactKeysOfRow.holds Try.pinned (OpenSpec.ofChange fnExactKeysOfWrong)

/-- 'laws.FnExactFindRec': WHATEVER THE INPUT: true; the input reads as it did. -/
def fnExactFindRecSpec : ChangeSpec := { name := "fnExactFindRec", fn := fun _ => fun
  | [d1, d2] => { results := [.lit (.bool true)], args := [d1, d2] }
  | _ => none }
def fnExactFindRecRow : OpenClaim := { program := "ytlemnjphinppbaa", sum := "15742b59d36bd1e1c45aa4ff7df64b76ff82573c5ed3e5316bce3db635a9a048", func := "loop.example/g00703/laws.FnExactFindRec", spec := "fnExactFindRec", unfollowed := true, recurses := true, apart := false }
def FnExactFindRecSaid : Prop := fnExactFindRecRow.holds Try.pinned (OpenSpec.ofChange fnExactFindRecSpec)

/-- ITS FALSE NEIGHBOUR: 'it returns false'. Refute it at one input. -/
def fnExactFindRecWrong : ChangeSpec := { name := "fnExactFindRec", fn := fun _ => fun
  | [d1, d2] => { results := [.lit (.bool false)], args := [d1, d2] }
  | _ => none }
def FnExactFindRecWrongFalsely : Prop := fnExactFindRecRow.holds Try.pinned (OpenSpec.ofChange fnExactFindRecWrong)

/- THE SECOND FORM. 'bulk': how many values and letters a reading holds, each counted each time it is reached (what is shared counts as often as it is met; a slice's spare places count too). A statement '..UptoSaid' is the law's where the arguments, and the package variables that the reading takes, are together of bulk at most 1048576: NARROWER than '..Said'. Prove '..Said' where nothing that the law and all that it calls make is longer than what came in: it says more and counts as full. Else prove '..UptoSaid'. A law counts once. -/
mutual
def uptoBulk {H : Type} : DataW H → Nat
  | .lit (.string bytes) => bytes.length + 1
  | .lit _ => 1
  | .nil => 1
  | .ptr d => uptoBulk d + 1
  | .slice elems spare => uptoBulkAll elems + uptoBulkAll spare + 1
  | .agg parts => uptoBulkAll parts + 1
  | .iface _ d => uptoBulk d + 1
  | .map entries => uptoBulkEntries entries + 1
  | .held _ => 1
def uptoBulkAll {H : Type} : List (DataW H) → Nat
  | [] => 0
  | d :: r => uptoBulk d + uptoBulkAll r
def uptoBulkEntries {H : Type} : List (Lit × DataW H) → Nat
  | [] => 0
  | x :: r => uptoBulkEntry x + uptoBulkEntries r
def uptoBulkEntry {H : Type} : Lit × DataW H → Nat
  | (.string bytes, d) => bytes.length + uptoBulk d + 1
  | (_, d) => uptoBulk d + 1
 end
def uptoSmall : (H : Type) → List (DataW H) → Bool := fun _ ds => decide (uptoBulkAll ds ≤ 1048576)
def OpenSpec.upto (s : _root_.Go.ChangeSpec) : _root_.Go.OpenSpec := { _root_.Go.OpenSpec.ofChange s with cond := some uptoSmall }

/-- 'laws.FnRuns', WHERE WHAT IT READS IS OF BULK AT MOST 1048576: true; the input reads as it did. -/
def fnRunsUptoRow : OpenClaim := { program := "ytlemnjphinppbaa", sum := "15742b59d36bd1e1c45aa4ff7df64b76ff82573c5ed3e5316bce3db635a9a048", func := "loop.example/g00703/laws.FnRuns", spec := "fnRuns", unfollowed := true, recurses := true, apart := false, narrowed := true }
def FnRunsUptoSaid : Prop := fnRunsUptoRow.holds Try.pinned (OpenSpec.upto fnRunsSpec)

/-- 'laws.FnKeys', WHERE WHAT IT READS IS OF BULK AT MOST 1048576: true; the input reads as it did. -/
def fnKeysUptoRow : OpenClaim := { program := "ytlemnjphinppbaa", sum := "15742b59d36bd1e1c45aa4ff7df64b76ff82573c5ed3e5316bce3db635a9a048", func := "loop.example/g00703/laws.FnKeys", spec := "fnKeys", unfollowed := true, recurses := true, apart := false, narrowed := true }
def FnKeysUptoSaid : Prop := fnKeysUptoRow.holds Try.pinned (OpenSpec.upto fnKeysSpec)

/-- 'laws.FnRunFirst', WHERE WHAT IT READS IS OF BULK AT MOST 1048576: true; the input reads as it did. -/
def fnRunFirstUptoRow : OpenClaim := { program := "ytlemnjphinppbaa", sum := "15742b59d36bd1e1c45aa4ff7df64b76ff82573c5ed3e5316bce3db635a9a048", func := "loop.example/g00703/laws.FnRunFirst", spec := "fnRunFirst", unfollowed := true, recurses := true, apart := false, narrowed := true }
def FnRunFirstUptoSaid : Prop := fnRunFirstUptoRow.holds Try.pinned (OpenSpec.upto fnRunFirstSpec)

/-- 'laws.FnExactRunOk', WHERE WHAT IT READS IS OF BULK AT MOST 1048576: true; the input reads as it did. -/
def fnExactRunOkUptoRow : OpenClaim := { program := "ytlemnjphinppbaa", sum := "15742b59d36bd1e1c45aa4ff7df64b76ff82573c5ed3e5316bce3db635a9a048", func := "loop.example/g00703/laws.FnExactRunOk", spec := "fnExactRunOk", unfollowed := true, recurses := true, apart := false, narrowed := true }
def FnExactRunOkUptoSaid : Prop := fnExactRunOkUptoRow.holds Try.pinned (OpenSpec.upto fnExactRunOkSpec)

/-- 'laws.FnExactRunBytes', WHERE WHAT IT READS IS OF BULK AT MOST 1048576: true; the input reads as it did. -/
def fnExactRunBytesUptoRow : OpenClaim := { program := "ytlemnjphinppbaa", sum := "15742b59d36bd1e1c45aa4ff7df64b76ff82573c5ed3e5316bce3db635a9a048", func := "loop.example/g00703/laws.FnExactRunBytes", spec := "fnExactRunBytes", unfollowed := true, recurses := true, apart := false, narrowed := true }
def FnExactRunBytesUptoSaid : Prop := fnExactRunBytesUptoRow.holds Try.pinned (OpenSpec.upto fnExactRunBytesSpec)

/-- 'laws.FnExactReadRun', WHERE WHAT IT READS IS OF BULK AT MOST 1048576: true; the input reads as it did. -/
def fnExactReadRunUptoRow : OpenClaim := { program := "ytlemnjphinppbaa", sum := "15742b59d36bd1e1c45aa4ff7df64b76ff82573c5ed3e5316bce3db635a9a048", func := "loop.example/g00703/laws.FnExactReadRun", spec := "fnExactReadRun", unfollowed := true, recurses := true, apart := false, narrowed := true }
def FnExactReadRunUptoSaid : Prop := fnExactReadRunUptoRow.holds Try.pinned (OpenSpec.upto fnExactReadRunSpec)

/-- 'laws.FnExactKeysOf', WHERE WHAT IT READS IS OF BULK AT MOST 1048576: true; the input reads as it did. -/
def fnExactKeysOfUptoRow : OpenClaim := { program := "ytlemnjphinppbaa", sum := "15742b59d36bd1e1c45aa4ff7df64b76ff82573c5ed3e5316bce3db635a9a048", func := "loop.example/g00703/laws.FnExactKeysOf", spec := "fnExactKeysOf", unfollowed := true, recurses := true, apart := false, narrowed := true }
def FnExactKeysOfUptoSaid : Prop := fnExactKeysOfUptoRow.holds Try.pinned (OpenSpec.upto fnExactKeysOfSpec)

/-- 'laws.FnExactFindRec', WHERE WHAT IT READS IS OF BULK AT MOST 1048576: true; the input reads as it did. -/
def fnExactFindRecUptoRow : OpenClaim := { program := "ytlemnjphinppbaa", sum := "15742b59d36bd1e1c45aa4ff7df64b76ff82573c5ed3e5316bce3db635a9a048", func := "loop.example/g00703/laws.FnExactFindRec", spec := "fnExactFindRec", unfollowed := true, recurses := true, apart := false, narrowed := true }
def FnExactFindRecUptoSaid : Prop := fnExactFindRecUptoRow.holds Try.pinned (OpenSpec.upto fnExactFindRecSpec)

end Rows
end Go.Proofs.Ytlemnjphinppbaa
