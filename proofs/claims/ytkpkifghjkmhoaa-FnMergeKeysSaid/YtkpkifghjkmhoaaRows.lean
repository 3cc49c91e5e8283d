/-
  No cell of these rows narrows 'for every input' (looked for: loops, veiled, ifaces, maps, wideKeys, modest, calm, conditions, laid).
  DERIVED. THE GIVEN ROWS OF THIS SEAT. 3 by the template 'for every input the law returns true; each argument reads behind the call as it read before'; 0 by the template 'total and deterministic' (their statements: YtkpkifghjkmhoaaTotals.lean).
  GIVEN WITH THE SEED: the statements are not yours to turn. If you find one false, say at which input.
  Laid BY PROGRAM, IN A SANDBOX (cutbox-rows.mjs): the forced cells as the released guide's own fill.sh prints them over the translation 61ef488f36c6fd1b… (all of the seat's roots in one cut). By AI agents, Wed Nov 11 2026. No macro, syntax, notation, axiom, sorry.
-/
import Derived.Test.YtkpkifghjkmhoaaChecked
import GoSem.Claim
import GoSem.ClaimJoined
import GoSem.ClaimMapViews
import Derived.JoinedTies
import Derived.KernelRfl
namespace Go.Proofs.Ytkpkifghjkmhoaa
/- THE CELL 'sum', in the pinned program and in every row, IS THE sha256 OF THE DUMP (.gsa) THAT YtkpkifghjkmhoaaProg.lean LOADS. Nothing in Lean hashes anything: it is a label: what it is worth is what the hold of that sum in a sandbox is worth. -/
noncomputable def Try.pinned : Pinned := { name := "ytkpkifghjkmhoaa", sum := "61ef488f36c6fd1b68fe6c8b09e1da6f0b7049fa7a2af0b28031ce0630470f55", checked := Try.checked }
namespace Rows
def none {H : Type} : Left H := { results := [], args := [] }

/-- 'laws.FnExactMergeAll': WHATEVER THE INPUT: true; the input reads as it did. -/
def fnExactMergeAllSpec : ChangeSpec := { name := "fnExactMergeAll", fn := fun _ => fun
  | [d] => { results := [.lit (.bool true)], args := [d] }
  | _ => none }
def fnExactMergeAllRow : OpenClaim := { program := "ytkpkifghjkmhoaa", sum := "61ef488f36c6fd1b68fe6c8b09e1da6f0b7049fa7a2af0b28031ce0630470f55", func := "loop.example/g00703/laws.FnExactMergeAll", spec := "fnExactMergeAll", unfollowed := true, recurses := true, apart := false }
def FnExactMergeAllSaid : Prop := fnExactMergeAllRow.holds Try.pinned (OpenSpec.ofChange fnExactMergeAllSpec)

/-- ITS FALSE NEIGHBOUR: 'it returns false'. Refute it at one input. -/
def fnExactMergeAllWrong : ChangeSpec := { name := "fnExactMergeAll", fn := fun _ => fun
  | [d] => { results := [.lit (.bool false)], args := [d] }
  | _ => none }
def FnExactMergeAllWrongFalsely : Prop := fnExactMergeAllRow.holds Try.pinned (OpenSpec.ofChange fnExactMergeAllWrong)

/-- 'laws.FnMergeAll': WHATEVER THE INPUT: true; the input reads as it did. -/
def fnMergeAllSpec : ChangeSpec := { name := "fnMergeAll", fn := fun _ => fun
  | [d] => { results := [.lit (.bool true)], args := [d] }
  | _ => none }
def fnMergeAllRow : OpenClaim := { program := "ytkpkifghjkmhoaa", sum := "61ef488f36c6fd1b68fe6c8b09e1da6f0b7049fa7a2af0b28031ce0630470f55", func := "loop.example/g00703/laws.FnMergeAll", spec := "fnMergeAll", unfollowed := true, recurses := true, apart := false }
def FnMergeAllSaid : Prop := fnMergeAllRow.holds Try.pinned (OpenSpec.ofChange fnMergeAllSpec)

/-- ITS FALSE NEIGHBOUR: 'it returns false'. Refute it at one input. -/
def fnMergeAllWrong : ChangeSpec := { name := "fnMergeAll", fn := fun _ => fun
  | [d] => { results := [.lit (.bool false)], args := [d] }
  | _ => none }
def FnMergeAllWrongFalsely : Prop := fnMergeAllRow.holds Try.pinned (OpenSpec.ofChange fnMergeAllWrong)

/-- 'laws.FnMergeKeys': WHATEVER THE INPUT: true; the input reads as it did. -/
def fnMergeKeysSpec : ChangeSpec := { name := "fnMergeKeys", fn := fun _ => fun
  | [d] => { results := [.lit (.bool true)], args := [d] }
  | _ => none }
def fnMergeKeysRow : OpenClaim := { program := "ytkpkifghjkmhoaa", sum := "61ef488f36c6fd1b68fe6c8b09e1da6f0b7049fa7a2af0b28031ce0630470f55", func := "loop.example/g00703/laws.FnMergeKeys", spec := "fnMergeKeys", unfollowed := true, recurses := true, apart := false }
def FnMergeKeysSaid : Prop := fnMergeKeysRow.holds Try.pinned (OpenSpec.ofChange fnMergeKeysSpec)

/-- ITS FALSE NEIGHBOUR: 'it returns false'. Refute it at one input. -/
def fnMergeKeysWrong : ChangeSpec := { name := "fnMergeKeys", fn := fun _ => fun
  | [d] => { results := [.lit (.bool false)], args := [d] }
  | _ => none }
def FnMergeKeysWrongFalsely : Prop := fnMergeKeysRow.holds Try.pinned (OpenSpec.ofChange fnMergeKeysWrong)

/- THE SECOND FORM. 'bulk': how many values and letters a reading holds, each counted each time it is reached (what is shared counts as often as it is met; a slice's spare places count too). A statement '..UptoSaid' is the law's where the arguments, and the package variables that the reading takes, are together of bulk at most 1048576: NARROWER than '..Said'. Prove '..Said' where nothing that the law and all that it calls make is longer than what came in: it says more and counts as full. Else prove '..UptoSaid'. A law counts once. -/
mutual
def uptoBulk {H : Type} : DataW H → Nat
  | .lit (.string bytes) => bytes.length + 1
  | .lit _ => 1
  | .nil => 1
  | .ptr d => uptoBulk d + 1
  | .slice elems spare => uptoBulkAll elems + uptoBulkAll spare + 1
  | .agg parts => uptoBulkAll parts + 1
  | .iface _ d => uptoBulk d + 1
  | .map entries => uptoBulkEntries entries + 1
  | .held _ => 1
def uptoBulkAll {H : Type} : List (DataW H) → Nat
  | [] => 0
  | d :: r => uptoBulk d + uptoBulkAll r
def uptoBulkEntries {H : Type} : List (Lit × DataW H) → Nat
  | [] => 0
  | x :: r => uptoBulkEntry x + uptoBulkEntries r
def uptoBulkEntry {H : Type} : Lit × DataW H → Nat
  | (.string bytes, d) => bytes.length + uptoBulk d + 1
  | (_, d) => uptoBulk d + 1
 end
def uptoSmall : (H : Type) → List (DataW H) → Bool := fun _ ds => decide (uptoBulkAll ds ≤ 1048576)
def OpenSpec.upto (s : _root_.Go.ChangeSpec) : _root_.Go.OpenSpec := { _root_.Go.OpenSpec.ofChange s with cond := some uptoSmall }

/-- 'laws.FnExactMergeAll', WHERE WHAT IT READS IS OF BULK AT MOST 1048576: true; the input reads as it did. -/
def fnExactMergeAllUptoRow : OpenClaim := { program := "ytkpkifghjkmhoaa", sum := "61ef488f36c6fd1b68fe6c8b09e1da6f0b7049fa7a2af0b28031ce0630470f55", func := "loop.example/g00703/laws.FnExactMergeAll", spec := "fnExactMergeAll", unfollowed := true, recurses := true, apart := false, narrowed := true }
def FnExactMergeAllUptoSaid : Prop := fnExactMergeAllUptoRow.holds Try.pinned (OpenSpec.upto fnExactMergeAllSpec)

/-- 'laws.FnMergeAll', WHERE WHAT IT READS IS OF BULK AT MOST 1048576: true; the input reads as it did. -/
def fnMergeAllUptoRow : OpenClaim := { program := "ytkpkifghjkmhoaa", sum := "61ef488f36c6fd1b68fe6c8b09e1da6f0b7049fa7a2af0b28031ce0630470f55", func := "loop.example/g00703/laws.FnMergeAll", spec := "fnMergeAll", unfollowed := true, recurses := true, apart := false, narrowed := true }
def FnMergeAllUptoSaid : Prop := fnMergeAllUptoRow.holds Try.pinned (OpenSpec.upto fnMergeAllSpec)

/-- 'laws.FnMergeKeys', WHERE WHAT IT READS IS OF BULK AT MOST 1048576: true; the input reads as it did. -/
def fnMergeKeysUptoRow : OpenClaim := { program := "ytkpkifghjkmhoaa", sum := "61ef488f36c6fd1b68fe6c8b09e1da6f0b7049fa7a2af0b28031ce0630470f55", func := "loop.example/g00703/laws.FnMergeKeys", spec := "fnMergeKeys", unfollowed := true, recurses := true, apart := false, narrowed := true }
def FnMergeKeysUptoSaid : Prop := fnMergeKeysUptoRow.holds Try.pinned (OpenSpec.upto fnMergeKeysSpec)

end Rows
end Go.Proofs.Ytkpkifghjkmhoaa
