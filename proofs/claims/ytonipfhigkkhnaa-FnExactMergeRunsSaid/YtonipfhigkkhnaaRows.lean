/-
  No cell of these rows narrows 'for every input' (looked for: loops, veiled, ifaces, maps, wideKeys, modest, calm, conditions, laid).
  DERIVED. THE GIVEN ROWS OF THIS SEAT. 12 by the template 'for every input the law returns true; each argument reads behind the call as it read before'; 0 by the template 'total and deterministic' (their statements: YtonipfhigkkhnaaTotals.lean).
  GIVEN WITH THE SEED: the statements are not yours to turn. If you find one false, say at which input.
  Laid BY PROGRAM, IN A SANDBOX (cutbox-rows.mjs): the forced cells as the released guide's own fill.sh prints them over the translation defcf7ccad0f09b8… (all of the seat's roots in one cut). By AI agents, Wed Nov 11 2026. No macro, syntax, notation, axiom, sorry.
-/
import Derived.Test.YtonipfhigkkhnaaChecked
import GoSem.Claim
import GoSem.ClaimJoined
import GoSem.ClaimMapViews
import Derived.JoinedTies
import Derived.KernelRfl
namespace Go.Proofs.Ytonipfhigkkhnaa
/- THE CELL 'sum', in the pinned program and in every row, IS THE sha256 OF THE DUMP (.gsa) THAT YtonipfhigkkhnaaProg.lean LOADS. Nothing in Lean hashes anything: it is a label: what it is worth is what the hold of that sum in a sandbox is worth. -/
noncomputable def Try.pinned : Pinned := { name := "ytonipfhigkkhnaa", sum := "defcf7ccad0f09b88161030db3afddd41a2ed31527c609ba3198b134395ecdf0", checked := Try.checked }
namespace Rows
def none {H : Type} : Left H := { results := [], args := [] }

/-- 'laws.FnLines': WHATEVER THE INPUT: true; the input reads as it did. -/
def fnLinesSpec : ChangeSpec := { name := "fnLines", fn := fun _ => fun
  | [d] => { results := [.lit (.bool true)], args := [d] }
  | _ => none }
def fnLinesRow : OpenClaim := { program := "ytonipfhigkkhnaa", sum := "defcf7ccad0f09b88161030db3afddd41a2ed31527c609ba3198b134395ecdf0", func := "loop.example/g00703/laws.FnLines", spec := "fnLines", inPlace := ["internal/bytealg.IndexByteString", "internal/bytealg.IndexString"], named := ["internal/bytealg.MaxLen"], apart := false }
def FnLinesSaid : Prop := fnLinesRow.holds Try.pinned (OpenSpec.ofChange fnLinesSpec)

/-- ITS FALSE NEIGHBOUR: 'it returns false'. Refute it at one input. -/
def fnLinesWrong : ChangeSpec := { name := "fnLines", fn := fun _ => fun
  | [d] => { results := [.lit (.bool false)], args := [d] }
  | _ => none }
def FnLinesWrongFalsely : Prop := fnLinesRow.holds Try.pinned (OpenSpec.ofChange fnLinesWrong)

/-- 'laws.FnRecOrder': WHATEVER THE INPUT: true; the input reads as it did. -/
def fnRecOrderSpec : ChangeSpec := { name := "fnRecOrder", fn := fun _ => fun
  | [d1, d2] => { results := [.lit (.bool true)], args := [d1, d2] }
  | _ => none }
def fnRecOrderRow : OpenClaim := { program := "ytonipfhigkkhnaa", sum := "defcf7ccad0f09b88161030db3afddd41a2ed31527c609ba3198b134395ecdf0", func := "loop.example/g00703/laws.FnRecOrder", spec := "fnRecOrder", apart := false }
def FnRecOrderSaid : Prop := fnRecOrderRow.holds Try.pinned (OpenSpec.ofChange fnRecOrderSpec)

/-- ITS FALSE NEIGHBOUR: 'it returns false'. Refute it at one input. -/
def fnRecOrderWrong : ChangeSpec := { name := "fnRecOrder", fn := fun _ => fun
  | [d1, d2] => { results := [.lit (.bool false)], args := [d1, d2] }
  | _ => none }
def FnRecOrderWrongFalsely : Prop := fnRecOrderRow.holds Try.pinned (OpenSpec.ofChange fnRecOrderWrong)

/-- 'laws.FnRuns': WHATEVER THE INPUT: true; the input reads as it did. -/
def fnRunsSpec : ChangeSpec := { name := "fnRuns", fn := fun _ => fun
  | [d] => { results := [.lit (.bool true)], args := [d] }
  | _ => none }
def fnRunsRow : OpenClaim := { program := "ytonipfhigkkhnaa", sum := "defcf7ccad0f09b88161030db3afddd41a2ed31527c609ba3198b134395ecdf0", func := "loop.example/g00703/laws.FnRuns", spec := "fnRuns", unfollowed := true, recurses := true, apart := false }
def FnRunsSaid : Prop := fnRunsRow.holds Try.pinned (OpenSpec.ofChange fnRunsSpec)

/-- ITS FALSE NEIGHBOUR: 'it returns false'. Refute it at one input. -/
def fnRunsWrong : ChangeSpec := { name := "fnRuns", fn := fun _ => fun
  | [d] => { results := [.lit (.bool false)], args := [d] }
  | _ => none }
def FnRunsWrongFalsely : Prop := fnRunsRow.holds Try.pinned (OpenSpec.ofChange fnRunsWrong)

/-- 'laws.FnKeys': WHATEVER THE INPUT: true; the input reads as it did. -/
def fnKeysSpec : ChangeSpec := { name := "fnKeys", fn := fun _ => fun
  | [d] => { results := [.lit (.bool true)], args := [d] }
  | _ => none }
def fnKeysRow : OpenClaim := { program := "ytonipfhigkkhnaa", sum := "defcf7ccad0f09b88161030db3afddd41a2ed31527c609ba3198b134395ecdf0", func := "loop.example/g00703/laws.FnKeys", spec := "fnKeys", unfollowed := true, recurses := true, apart := false }
def FnKeysSaid : Prop := fnKeysRow.holds Try.pinned (OpenSpec.ofChange fnKeysSpec)

/-- ITS FALSE NEIGHBOUR: 'it returns false'. Refute it at one input. -/
def fnKeysWrong : ChangeSpec := { name := "fnKeys", fn := fun _ => fun
  | [d] => { results := [.lit (.bool false)], args := [d] }
  | _ => none }
def FnKeysWrongFalsely : Prop := fnKeysRow.holds Try.pinned (OpenSpec.ofChange fnKeysWrong)

/-- 'laws.FnRunFirst': WHATEVER THE INPUT: true; the input reads as it did. -/
def fnRunFirstSpec : ChangeSpec := { name := "fnRunFirst", fn := fun _ => fun
  | [d] => { results := [.lit (.bool true)], args := [d] }
  | _ => none }
def fnRunFirstRow : OpenClaim := { program := "ytonipfhigkkhnaa", sum := "defcf7ccad0f09b88161030db3afddd41a2ed31527c609ba3198b134395ecdf0", func := "loop.example/g00703/laws.FnRunFirst", spec := "fnRunFirst", unfollowed := true, recurses := true, apart := false }
def FnRunFirstSaid : Prop := fnRunFirstRow.holds Try.pinned (OpenSpec.ofChange fnRunFirstSpec)

/-- ITS FALSE NEIGHBOUR: 'it returns false'. Refute it at one input. -/
def fnRunFirstWrong : ChangeSpec := { name := "fnRunFirst", fn := fun _ => fun
  | [d] => { results := [.lit (.bool false)], args := [d] }
  | _ => none }
def FnRunFirstWrongFalsely : Prop := fnRunFirstRow.holds Try.pinned (OpenSpec.ofChange fnRunFirstWrong)

/-- 'laws.FnExactLinesOf': WHATEVER THE INPUT: true; the input reads as it did. -/
def fnExactLinesOfSpec : ChangeSpec := { name := "fnExactLinesOf", fn := fun _ => fun
  | [d] => { results := [.lit (.bool true)], args := [d] }
  | _ => none }
def fnExactLinesOfRow : OpenClaim := { program := "ytonipfhigkkhnaa", sum := "defcf7ccad0f09b88161030db3afddd41a2ed31527c609ba3198b134395ecdf0", func := "loop.example/g00703/laws.FnExactLinesOf", spec := "fnExactLinesOf", inPlace := ["internal/bytealg.IndexByteString", "internal/bytealg.IndexString"], named := ["internal/bytealg.MaxLen"], apart := false }
def FnExactLinesOfSaid : Prop := fnExactLinesOfRow.holds Try.pinned (OpenSpec.ofChange fnExactLinesOfSpec)

/-- ITS FALSE NEIGHBOUR: 'it returns false'. Refute it at one input. -/
def fnExactLinesOfWrong : ChangeSpec := { name := "fnExactLinesOf", fn := fun _ => fun
  | [d] => { results := [.lit (.bool false)], args := [d] }
  | _ => none }
def FnExactLinesOfWrongFalsely : Prop := fnExactLinesOfRow.holds Try.pinned (OpenSpec.ofChange fnExactLinesOfWrong)

/-- 'laws.FnExactLinesText': WHATEVER THE INPUT: true; the input reads as it did. -/
def fnExactLinesTextSpec : ChangeSpec := { name := "fnExactLinesText", fn := fun _ => fun
  | [d] => { results := [.lit (.bool true)], args := [d] }
  | _ => none }
def fnExactLinesTextRow : OpenClaim := { program := "ytonipfhigkkhnaa", sum := "defcf7ccad0f09b88161030db3afddd41a2ed31527c609ba3198b134395ecdf0", func := "loop.example/g00703/laws.FnExactLinesText", spec := "fnExactLinesText", inPlace := ["internal/bytealg.IndexByteString", "internal/bytealg.IndexString"], named := ["internal/bytealg.MaxLen"], apart := false }
def FnExactLinesTextSaid : Prop := fnExactLinesTextRow.holds Try.pinned (OpenSpec.ofChange fnExactLinesTextSpec)

/-- ITS FALSE NEIGHBOUR: 'it returns false'. Refute it at one input. -/
def fnExactLinesTextWrong : ChangeSpec := { name := "fnExactLinesText", fn := fun _ => fun
  | [d] => { results := [.lit (.bool false)], args := [d] }
  | _ => none }
def FnExactLinesTextWrongFalsely : Prop := fnExactLinesTextRow.holds Try.pinned (OpenSpec.ofChange fnExactLinesTextWrong)

/-- 'laws.FnExactRunBytes': WHATEVER THE INPUT: true; the input reads as it did. -/
def fnExactRunBytesSpec : ChangeSpec := { name := "fnExactRunBytes", fn := fun _ => fun
  | [d] => { results := [.lit (.bool true)], args := [d] }
  | _ => none }
def fnExactRunBytesRow : OpenClaim := { program := "ytonipfhigkkhnaa", sum := "defcf7ccad0f09b88161030db3afddd41a2ed31527c609ba3198b134395ecdf0", func := "loop.example/g00703/laws.FnExactRunBytes", spec := "fnExactRunBytes", unfollowed := true, recurses := true, apart := false }
def FnExactRunBytesSaid : Prop := fnExactRunBytesRow.holds Try.pinned (OpenSpec.ofChange fnExactRunBytesSpec)

/-- ITS FALSE NEIGHBOUR: 'it returns false'. Refute it at one input. -/
def fnExactRunBytesWrong : ChangeSpec := { name := "fnExactRunBytes", fn := fun _ => fun
  | [d] => { results := [.lit (.bool false)], args := [d] }
  | _ => none }
def FnExactRunBytesWrongFalsely : Prop := fnExactRunBytesRow.holds Try.pinned (OpenSpec.ofChange fnExactRunBytesWrong)

/-- 'laws.FnExactReadRun': WHATEVER THE INPUT: true; the input reads as it did. -/
def fnExactReadRunSpec : ChangeSpec := { name := "fnExactReadRun", fn := fun _ => fun
  | [d] => { results := [.lit (.bool true)], args := [d] }
  | _ => none }
def fnExactReadRunRow : OpenClaim := { program := "ytonipfhigkkhnaa", sum := "defcf7ccad0f09b88161030db3afddd41a2ed31527c609ba3198b134395ecdf0", func := "loop.example/g00703/laws.FnExactReadRun", spec := "fnExactReadRun", unfollowed := true, recurses := true, apart := false }
def FnExactReadRunSaid : Prop := fnExactReadRunRow.holds Try.pinned (OpenSpec.ofChange fnExactReadRunSpec)

/-- ITS FALSE NEIGHBOUR: 'it returns false'. Refute it at one input. -/
def fnExactReadRunWrong : ChangeSpec := { name := "fnExactReadRun", fn := fun _ => fun
  | [d] => { results := [.lit (.bool false)], args := [d] }
  | _ => none }
def FnExactReadRunWrongFalsely : Prop := fnExactReadRunRow.holds Try.pinned (OpenSpec.ofChange fnExactReadRunWrong)

/-- 'laws.FnExactCombine': WHATEVER THE INPUT: true; the input reads as it did. -/
def fnExactCombineSpec : ChangeSpec := { name := "fnExactCombine", fn := fun _ => fun
  | [d1, d2, d3] => { results := [.lit (.bool true)], args := [d1, d2, d3] }
  | _ => none }
def fnExactCombineRow : OpenClaim := { program := "ytonipfhigkkhnaa", sum := "defcf7ccad0f09b88161030db3afddd41a2ed31527c609ba3198b134395ecdf0", func := "loop.example/g00703/laws.FnExactCombine", spec := "fnExactCombine", unfollowed := true, recurses := true, apart := false }
def FnExactCombineSaid : Prop := fnExactCombineRow.holds Try.pinned (OpenSpec.ofChange fnExactCombineSpec)

/-- ITS FALSE NEIGHBOUR: 'it returns false'. Refute it at one input. -/
def fnExactCombineWrong : ChangeSpec := { name := "fnExactCombine", fn := fun _ => fun
  | [d1, d2, d3] => { results := [.lit (.bool false)], args := [d1, d2, d3] }
  | _ => none }
def FnExactCombineWrongFalsely : Prop := fnExactCombineRow.holds Try.pinned (OpenSpec.ofChange fnExactCombineWrong)

/-- 'laws.FnCombine': WHATEVER THE INPUT: true; the input reads as it did. -/
def fnCombineSpec : ChangeSpec := { name := "fnCombine", fn := fun _ => fun
  | [d1, d2] => { results := [.lit (.bool true)], args := [d1, d2] }
  | _ => none }
def fnCombineRow : OpenClaim := { program := "ytonipfhigkkhnaa", sum := "defcf7ccad0f09b88161030db3afddd41a2ed31527c609ba3198b134395ecdf0", func := "loop.example/g00703/laws.FnCombine", spec := "fnCombine", unfollowed := true, recurses := true, apart := false }
def FnCombineSaid : Prop := fnCombineRow.holds Try.pinned (OpenSpec.ofChange fnCombineSpec)

/-- ITS FALSE NEIGHBOUR: 'it returns false'. Refute it at one input. -/
def fnCombineWrong : ChangeSpec := { name := "fnCombine", fn := fun _ => fun
  | [d1, d2] => { results := [.lit (.bool false)], args := [d1, d2] }
  | _ => none }
def FnCombineWrongFalsely : Prop := fnCombineRow.holds Try.pinned (OpenSpec.ofChange fnCombineWrong)

/-- 'laws.FnExactMergeRuns': WHATEVER THE INPUT: true; the input reads as it did. -/
def fnExactMergeRunsSpec : ChangeSpec := { name := "fnExactMergeRuns", fn := fun _ => fun
  | [d1, d2] => { results := [.lit (.bool true)], args := [d1, d2] }
  | _ => none }
def fnExactMergeRunsRow : OpenClaim := { program := "ytonipfhigkkhnaa", sum := "defcf7ccad0f09b88161030db3afddd41a2ed31527c609ba3198b134395ecdf0", func := "loop.example/g00703/laws.FnExactMergeRuns", spec := "fnExactMergeRuns", unfollowed := true, recurses := true, apart := false }
def FnExactMergeRunsSaid : Prop := fnExactMergeRunsRow.holds Try.pinned (OpenSpec.ofChange fnExactMergeRunsSpec)

/-- ITS FALSE NEIGHBOUR: 'it returns false'. Refute it at one input. -/
def fnExactMergeRunsWrong : ChangeSpec := { name := "fnExactMergeRuns", fn := fun _ => fun
  | [d1, d2] => { results := [.lit (.bool false)], args := [d1, d2] }
  | _ => none }
def FnExactMergeRunsWrongFalsely : Prop := fnExactMergeRunsRow.holds Try.pinned (OpenSpec.ofChange fnExactMergeRunsWrong)

/- THE SECOND FORM. 'bulk': how many values and letters a reading holds, each counted each time it is reached (what is shared counts as often as it is met; a slice's spare places count too). A statement '..UptoSaid' is the law's where the arguments, and the package variables that the reading takes, are together of bulk at most 1048576: NARROWER than '..Said'. Prove '..Said' where nothing that the law and all that it calls make is longer than what came in: it says more and counts as full. Else prove '..UptoSaid'. A law counts once. -/
mutual
def uptoBulk {H : Type} : DataW H → Nat
  | .lit (.string bytes) => bytes.length + 1
  | .lit _ => 1
  | .nil => 1
  | .ptr d => uptoBulk d + 1
  | .slice elems spare => uptoBulkAll elems + uptoBulkAll spare + 1
  | .agg parts => uptoBulkAll parts + 1
  | .iface _ d => uptoBulk d + 1
  | .map entries => uptoBulkEntries entries + 1
  | .held _ => 1
def uptoBulkAll {H : Type} : List (DataW H) → Nat
  | [] => 0
  | d :: r => uptoBulk d + uptoBulkAll r
def uptoBulkEntries {H : Type} : List (Lit × DataW H) → Nat
  | [] => 0
  | x :: r => uptoBulkEntry x + uptoBulkEntries r
def uptoBulkEntry {H : Type} : Lit × DataW H → Nat
  | (.string bytes, d) => bytes.length + uptoBulk d + 1
  | (_, d) => uptoBulk d + 1
 end
def uptoSmall : (H : Type) → List (DataW H) → Bool := fun _ ds => decide (uptoBulkAll ds ≤ 1048576)
def OpenSpec.upto (s : _root_.Go.ChangeSpec) : _root_.Go.OpenSpec := { _root_.Go.OpenSpec.ofChange s with cond := some uptoSmall }

/-- 'laws.FnLines', WHERE WHAT IT READS IS OF BULK AT MOST 1048576: true; the input reads as it did. -/
def fnLinesUptoRow : OpenClaim := { program := "ytonipfhigkkhnaa", sum := "defcf7ccad0f09b88161030db3afddd41a2ed31527c609ba3198b134395ecdf0", func := "loop.example/g00703/laws.FnLines", spec := "fnLines", inPlace := ["internal/bytealg.IndexByteString", "internal/bytealg.IndexString"], named := ["internal/bytealg.MaxLen"], apart := false, narrowed := true }
def FnLinesUptoSaid : Prop := fnLinesUptoRow.holds Try.pinned (OpenSpec.upto fnLinesSpec)

/-- 'laws.FnRecOrder', WHERE WHAT IT READS IS OF BULK AT MOST 1048576: true; the input reads as it did. -/
def fnRecOrderUptoRow : OpenClaim := { program := "ytonipfhigkkhnaa", sum := "defcf7ccad0f09b88161030db3afddd41a2ed31527c609ba3198b134395ecdf0", func := "loop.example/g00703/laws.FnRecOrder", spec := "fnRecOrder", apart := false, narrowed := true }
def FnRecOrderUptoSaid : Prop := fnRecOrderUptoRow.holds Try.pinned (OpenSpec.upto fnRecOrderSpec)

/-- 'laws.FnRuns', WHERE WHAT IT READS IS OF BULK AT MOST 1048576: true; the input reads as it did. -/
def fnRunsUptoRow : OpenClaim := { program := "ytonipfhigkkhnaa", sum := "defcf7ccad0f09b88161030db3afddd41a2ed31527c609ba3198b134395ecdf0", func := "loop.example/g00703/laws.FnRuns", spec := "fnRuns", unfollowed := true, recurses := true, apart := false, narrowed := true }
def FnRunsUptoSaid : Prop := fnRunsUptoRow.holds Try.pinned (OpenSpec.upto fnRunsSpec)

/-- 'laws.FnKeys', WHERE WHAT IT READS IS OF BULK AT MOST 1048576: true; the input reads as it did. -/
def fnKeysUptoRow : OpenClaim := { program := "ytonipfhigkkhnaa", sum := "defcf7ccad0f09b88161030db3afddd41a2ed31527c609ba3198b134395ecdf0", func := "loop.example/g00703/laws.FnKeys", spec := "fnKeys", unfollowed := true, recurses := true, apart := false, narrowed := true }
def FnKeysUptoSaid : Prop := fnKeysUptoRow.holds Try.pinned (OpenSpec.upto fnKeysSpec)

/-- 'laws.FnRunFirst', WHERE WHAT IT READS IS OF BULK AT MOST 1048576: true; the input reads as it did. -/
def fnRunFirstUptoRow : OpenClaim := { program := "ytonipfhigkkhnaa", sum := "defcf7ccad0f09b88161030db3afddd41a2ed31527c609ba3198b134395ecdf0", func := "loop.example/g00703/laws.FnRunFirst", spec := "fnRunFirst", unfollowed := true, recurses := true, apart := false, narrowed := true }
def FnRunFirstUptoSaid : Prop := fnRunFirstUptoRow.holds Try.pinned (OpenSpec.upto fnRunFirstSpec)

/-- 'laws.FnExactLinesOf', WHERE WHAT IT READS IS OF BULK AT MOST 1048576: true; the input reads as it did. -/
def fnExactLinesOfUptoRow : OpenClaim := { program := "ytonipfhigkkhnaa", sum := "defcf7ccad0f09b88161030db3afddd41a2ed31527c609ba3198b134395ecdf0", func := "loop.example/g00703/laws.FnExactLinesOf", spec := "fnExactLinesOf", inPlace := ["internal/bytealg.IndexByteString", "internal/bytealg.IndexString"], named := ["internal/bytealg.MaxLen"], apart := false, narrowed := true }
def FnExactLinesOfUptoSaid : Prop := fnExactLinesOfUptoRow.holds Try.pinned (OpenSpec.upto fnExactLinesOfSpec)

/-- 'laws.FnExactLinesText', WHERE WHAT IT READS IS OF BULK AT MOST 1048576: true; the input reads as it did. -/
def fnExactLinesTextUptoRow : OpenClaim := { program := "ytonipfhigkkhnaa", sum := "defcf7ccad0f09b88161030db3afddd41a2ed31527c609ba3198b134395ecdf0", func := "loop.example/g00703/laws.FnExactLinesText", spec := "fnExactLinesText", inPlace := ["internal/bytealg.IndexByteString", "internal/bytealg.IndexString"], named := ["internal/bytealg.MaxLen"], apart := false, narrowed := true }
def FnExactLinesTextUptoSaid : Prop := fnExactLinesTextUptoRow.holds Try.pinned (OpenSpec.upto fnExactLinesTextSpec)

/-- 'laws.FnExactRunBytes', WHERE WHAT IT READS IS OF BULK AT MOST 1048576: true; the input reads as it did. -/
def fnExactRunBytesUptoRow : OpenClaim := { program := "ytonipfhigkkhnaa", sum := "defcf7ccad0f09b88161030db3afddd41a2ed31527c609ba3198b134395ecdf0", func := "loop.example/g00703/laws.FnExactRunBytes", spec := "fnExactRunBytes", unfollowed := true, recurses := true, apart := false, narrowed := true }
def FnExactRunBytesUptoSaid : Prop := fnExactRunBytesUptoRow.holds Try.pinned (OpenSpec.upto fnExactRunBytesSpec)

/-- 'laws.FnExactReadRun', WHERE WHAT IT READS IS OF BULK AT MOST 1048576: true; the input reads as it did. -/
def fnExactReadRunUptoRow : OpenClaim := { program := "ytonipfhigkkhnaa", sum := "defcf7ccad0f09b88161030db3afddd41a2ed31527c609ba3198b134395ecdf0", func := "loop.example/g00703/laws.FnExactReadRun", spec := "fnExactReadRun", unfollowed := true, recurses := true, apart := false, narrowed := true }
def FnExactReadRunUptoSaid : Prop := fnExactReadRunUptoRow.holds Try.pinned (OpenSpec.upto fnExactReadRunSpec)

/-- 'laws.FnExactCombine', WHERE WHAT IT READS IS OF BULK AT MOST 1048576: true; the input reads as it did. -/
def fnExactCombineUptoRow : OpenClaim := { program := "ytonipfhigkkhnaa", sum := "defcf7ccad0f09b88161030db3afddd41a2ed31527c609ba3198b134395ecdf0", func := "loop.example/g00703/laws.FnExactCombine", spec := "fnExactCombine", unfollowed := true, recurses := true, apart := false, narrowed := true }
def FnExactCombineUptoSaid : Prop := fnExactCombineUptoRow.holds Try.pinned (OpenSpec.upto fnExactCombineSpec)

/-- 'laws.FnCombine', WHERE WHAT IT READS IS OF BULK AT MOST 1048576: true; the input reads as it did. -/
def fnCombineUptoRow : OpenClaim := { program := "ytonipfhigkkhnaa", sum := "defcf7ccad0f09b88161030db3afddd41a2ed31527c609ba3198b134395ecdf0", func := "loop.example/g00703/laws.FnCombine", spec := "fnCombine", unfollowed := true, recurses := true, apart := false, narrowed := true }
def FnCombineUptoSaid : Prop := fnCombineUptoRow.holds Try.pinned (OpenSpec.upto fnCombineSpec)

/-- 'laws.FnExactMergeRuns', WHERE WHAT IT READS IS OF BULK AT MOST 1048576: true; the input reads as it did. -/
def fnExactMergeRunsUptoRow : OpenClaim := { program := "ytonipfhigkkhnaa", sum := "defcf7ccad0f09b88161030db3afddd41a2ed31527c609ba3198b134395ecdf0", func := "loop.example/g00703/laws.FnExactMergeRuns", spec := "fnExactMergeRuns", unfollowed := true, recurses := true, apart := false, narrowed := true }
def FnExactMergeRunsUptoSaid : Prop := fnExactMergeRunsUptoRow.holds Try.pinned (OpenSpec.upto fnExactMergeRunsSpec)

end Rows
end Go.Proofs.Ytonipfhigkkhnaa
