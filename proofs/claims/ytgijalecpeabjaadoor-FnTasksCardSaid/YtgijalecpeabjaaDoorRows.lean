/-
  NARROWER THAN 'FOR EVERY INPUT', by the rows' own cells (each row's printed sentence says how): FnExactProgOk: laid · FnExactProgText: laid · FnExactReadProg: laid · FnProgs: laid · FnExactJobOk: laid · FnExactJobText: laid · FnExactTasksOf: laid · FnTasks: laid.
  DERIVED. THE GIVEN ROWS OF THIS SEAT. 8 by the template 'for every input the law returns true; each argument reads behind the call as it read before'; 0 by the template 'total and deterministic' (their statements: YtgijalecpeabjaaDoorTotals.lean).
  GIVEN WITH THE SEED: the statements are not yours to turn. If you find one false, say at which input.
  Laid BY PROGRAM, IN A SANDBOX (cutbox-rows.mjs): the forced cells as the released guide's own fill.sh prints them over the translation 59aa76d527fab718… (all of the seat's roots in one cut). By AI agents, Wed Nov 11 2026. No macro, syntax, notation, axiom, sorry.
-/
import Derived.Test.YtgijalecpeabjaaDoorChecked
import GoSem.Claim
import GoSem.ClaimJoined
import GoSem.ClaimMapViews
import Derived.JoinedTies
import Derived.KernelRfl
namespace Go.Proofs.YtgijalecpeabjaaDoor
/- THE CELL 'sum', in the pinned program and in every row, IS THE sha256 OF THE DUMP (.gsa) THAT YtgijalecpeabjaaDoorProg.lean LOADS. Nothing in Lean hashes anything: it is a label: what it is worth is what the hold of that sum in a sandbox is worth. -/
noncomputable def Tryd.pinned : Pinned := { name := "ytgijalecpeabjaadoor", sum := "59aa76d527fab71847794fb4e4b5a465d44635ac58ecb8b23dd96c566cda7384", checked := Tryd.checked }
namespace Rows
def none {H : Type} : Left H := { results := [], args := [] }

/- WHAT THE LISTED PACKAGE-LEVEL VARIABLES READ AS WHEN THE CALL BEGINS. Each datum BY PROGRAM (the guide's laid-datum.mjs) off the statement by which the dump's own 'gosem.cut.vars' lays the variable. In a bare row this is a premise. The card (YtgijalecpeabjaaDoorCards.lean) ties it to the program's text. -/
def laid_loop_example_g00703_impl_opForms {H : Type} : DataW H := .agg [.agg [.lit (.string []), .lit (.string []), .lit (.string []), .lit (.string [])], .agg [.lit (.string [102]), .lit (.string [78]), .lit (.string []), .lit (.string [84])], .agg [.lit (.string [116, 58]), .lit (.string [83]), .lit (.string []), .lit (.string [84])], .agg [.lit (.string [110]), .lit (.string [78]), .lit (.string []), .lit (.string [78])], .agg [.lit (.string [99, 97, 116]), .lit (.string []), .lit (.string [84, 84]), .lit (.string [84])], .agg [.lit (.string [108, 101, 110]), .lit (.string []), .lit (.string [84]), .lit (.string [78])], .agg [.lit (.string [105, 110, 116]), .lit (.string []), .lit (.string [84]), .lit (.string [78])], .agg [.lit (.string [115, 116, 114]), .lit (.string []), .lit (.string [78]), .lit (.string [84])], .agg [.lit (.string [97, 100, 100]), .lit (.string []), .lit (.string [78, 78]), .lit (.string [78])], .agg [.lit (.string [115, 117, 98]), .lit (.string []), .lit (.string [78, 78]), .lit (.string [78])], .agg [.lit (.string [109, 117, 108]), .lit (.string []), .lit (.string [78, 78]), .lit (.string [78])], .agg [.lit (.string [108, 101, 115, 115]), .lit (.string []), .lit (.string [78, 78]), .lit (.string [78])], .agg [.lit (.string [115, 97, 109, 101]), .lit (.string []), .lit (.string [84, 84]), .lit (.string [78])], .agg [.lit (.string [101, 109, 105, 116]), .lit (.string []), .lit (.string [84, 78]), .lit (.string [])], .agg [.lit (.string [101, 109, 105, 116, 105, 102]), .lit (.string []), .lit (.string [84, 78, 78]), .lit (.string [])]]
def laid_math_bits_deBruijn32tab {H : Type} : DataW H := .agg [.lit (.int .u8 0), .lit (.int .u8 1), .lit (.int .u8 28), .lit (.int .u8 2), .lit (.int .u8 29), .lit (.int .u8 14), .lit (.int .u8 24), .lit (.int .u8 3), .lit (.int .u8 30), .lit (.int .u8 22), .lit (.int .u8 20), .lit (.int .u8 15), .lit (.int .u8 25), .lit (.int .u8 17), .lit (.int .u8 4), .lit (.int .u8 8), .lit (.int .u8 31), .lit (.int .u8 27), .lit (.int .u8 13), .lit (.int .u8 23), .lit (.int .u8 21), .lit (.int .u8 19), .lit (.int .u8 16), .lit (.int .u8 7), .lit (.int .u8 26), .lit (.int .u8 12), .lit (.int .u8 18), .lit (.int .u8 6), .lit (.int .u8 11), .lit (.int .u8 5), .lit (.int .u8 10), .lit (.int .u8 9)]
def laid_math_bits_deBruijn64tab {H : Type} : DataW H := .agg [.lit (.int .u8 0), .lit (.int .u8 1), .lit (.int .u8 56), .lit (.int .u8 2), .lit (.int .u8 57), .lit (.int .u8 49), .lit (.int .u8 28), .lit (.int .u8 3), .lit (.int .u8 61), .lit (.int .u8 58), .lit (.int .u8 42), .lit (.int .u8 50), .lit (.int .u8 38), .lit (.int .u8 29), .lit (.int .u8 17), .lit (.int .u8 4), .lit (.int .u8 62), .lit (.int .u8 47), .lit (.int .u8 59), .lit (.int .u8 36), .lit (.int .u8 45), .lit (.int .u8 43), .lit (.int .u8 51), .lit (.int .u8 22), .lit (.int .u8 53), .lit (.int .u8 39), .lit (.int .u8 33), .lit (.int .u8 30), .lit (.int .u8 24), .lit (.int .u8 18), .lit (.int .u8 12), .lit (.int .u8 5), .lit (.int .u8 63), .lit (.int .u8 55), .lit (.int .u8 48), .lit (.int .u8 27), .lit (.int .u8 60), .lit (.int .u8 41), .lit (.int .u8 37), .lit (.int .u8 16), .lit (.int .u8 46), .lit (.int .u8 35), .lit (.int .u8 44), .lit (.int .u8 21), .lit (.int .u8 52), .lit (.int .u8 32), .lit (.int .u8 23), .lit (.int .u8 11), .lit (.int .u8 54), .lit (.int .u8 26), .lit (.int .u8 40), .lit (.int .u8 15), .lit (.int .u8 34), .lit (.int .u8 20), .lit (.int .u8 31), .lit (.int .u8 10), .lit (.int .u8 25), .lit (.int .u8 14), .lit (.int .u8 19), .lit (.int .u8 9), .lit (.int .u8 13), .lit (.int .u8 8), .lit (.int .u8 7), .lit (.int .u8 6)]
def laid_internal_strconv_uint64pow10 {H : Type} : DataW H := .agg [.lit (.int .u64 1), .lit (.int .u64 10), .lit (.int .u64 100), .lit (.int .u64 1000), .lit (.int .u64 10000), .lit (.int .u64 100000), .lit (.int .u64 1000000), .lit (.int .u64 10000000), .lit (.int .u64 100000000), .lit (.int .u64 1000000000), .lit (.int .u64 10000000000), .lit (.int .u64 100000000000), .lit (.int .u64 1000000000000), .lit (.int .u64 10000000000000), .lit (.int .u64 100000000000000), .lit (.int .u64 1000000000000000), .lit (.int .u64 10000000000000000), .lit (.int .u64 100000000000000000), .lit (.int .u64 1000000000000000000), .lit (.int .u64 10000000000000000000)]
def laid_strconv_ErrRange {H : Type} : DataW H := .iface "*errors.errorString" (.ptr (.agg [.lit (.string [118, 97, 108, 117, 101, 32, 111, 117, 116, 32, 111, 102, 32, 114, 97, 110, 103, 101])]))
def laid_strconv_ErrSyntax {H : Type} : DataW H := .iface "*errors.errorString" (.ptr (.agg [.lit (.string [105, 110, 118, 97, 108, 105, 100, 32, 115, 121, 110, 116, 97, 120])]))
def laid_loop_example_g00703_impl_opWords {H : Type} : DataW H := .agg [.lit (.string []), .lit (.string [115, 117, 109]), .lit (.string [109, 105, 110]), .lit (.string [109, 97, 120]), .lit (.string [99, 111, 117, 110, 116])]

/-- 'laws.FnExactProgOk': WHATEVER THE INPUT: true; the input reads as it did. -/
def fnExactProgOkSpec : ChangeSpec := { name := "fnExactProgOk", vars := ["loop.example/g00703/impl.opForms"], fn := fun _ => fun
  | [d, g1] => { results := [.lit (.bool true)], args := [d], vars := [g1] }
  | _ => none }
def fnExactProgOkRow : OpenClaim := { program := "ytgijalecpeabjaadoor", sum := "59aa76d527fab71847794fb4e4b5a465d44635ac58ecb8b23dd96c566cda7384", func := "loop.example/g00703/laws.FnExactProgOk", spec := "fnExactProgOk", named := ["loop.example/g00703/impl.opForms"], apart := false, laid := [("loop.example/g00703/impl.opForms", laid_loop_example_g00703_impl_opForms)] }
def FnExactProgOkSaid : Prop := fnExactProgOkRow.holds Tryd.pinned (OpenSpec.ofChange fnExactProgOkSpec)

/-- ITS FALSE NEIGHBOUR: 'it returns false'. Refute it at one input. -/
def fnExactProgOkWrong : ChangeSpec := { name := "fnExactProgOk", vars := ["loop.example/g00703/impl.opForms"], fn := fun _ => fun
  | [d, g1] => { results := [.lit (.bool false)], args := [d], vars := [g1] }
  | _ => none }
def FnExactProgOkWrongFalsely : Prop := fnExactProgOkRow.holds Tryd.pinned (OpenSpec.ofChange fnExactProgOkWrong)

/-- 'laws.FnExactProgText': WHATEVER THE INPUT: true; the input reads as it did. -/
def fnExactProgTextSpec : ChangeSpec := { name := "fnExactProgText", vars := ["loop.example/g00703/impl.opForms"], fn := fun _ => fun
  | [d, g1] => { results := [.lit (.bool true)], args := [d], vars := [g1] }
  | _ => none }
def fnExactProgTextRow : OpenClaim := { program := "ytgijalecpeabjaadoor", sum := "59aa76d527fab71847794fb4e4b5a465d44635ac58ecb8b23dd96c566cda7384", func := "loop.example/g00703/laws.FnExactProgText", spec := "fnExactProgText", inPlace := ["internal/abi.NoEscape", "internal/bytealg.MakeNoZero"], named := ["loop.example/g00703/impl.opForms", "internal/strconv.uint64pow10", "math/bits.deBruijn32tab", "math/bits.deBruijn64tab"], apart := false, laid := [("math/bits.deBruijn32tab", laid_math_bits_deBruijn32tab), ("math/bits.deBruijn64tab", laid_math_bits_deBruijn64tab), ("internal/strconv.uint64pow10", laid_internal_strconv_uint64pow10), ("loop.example/g00703/impl.opForms", laid_loop_example_g00703_impl_opForms)] }
def FnExactProgTextSaid : Prop := fnExactProgTextRow.holds Tryd.pinned (OpenSpec.ofChange fnExactProgTextSpec)

/-- ITS FALSE NEIGHBOUR: 'it returns false'. Refute it at one input. -/
def fnExactProgTextWrong : ChangeSpec := { name := "fnExactProgText", vars := ["loop.example/g00703/impl.opForms"], fn := fun _ => fun
  | [d, g1] => { results := [.lit (.bool false)], args := [d], vars := [g1] }
  | _ => none }
def FnExactProgTextWrongFalsely : Prop := fnExactProgTextRow.holds Tryd.pinned (OpenSpec.ofChange fnExactProgTextWrong)

/-- 'laws.FnExactReadProg': WHATEVER THE INPUT: true; the input reads as it did. -/
def fnExactReadProgSpec : ChangeSpec := { name := "fnExactReadProg", vars := ["loop.example/g00703/impl.opForms"], fn := fun _ => fun
  | [d, g1] => { results := [.lit (.bool true)], args := [d], vars := [g1] }
  | _ => none }
def fnExactReadProgRow : OpenClaim := { program := "ytgijalecpeabjaadoor", sum := "59aa76d527fab71847794fb4e4b5a465d44635ac58ecb8b23dd96c566cda7384", func := "loop.example/g00703/laws.FnExactReadProg", spec := "fnExactReadProg", inPlace := ["internal/bytealg.IndexByteString", "internal/bytealg.IndexString"], named := ["internal/bytealg.MaxLen", "loop.example/g00703/impl.opForms", "strconv.ErrSyntax", "strconv.ErrRange", "internal/strconv.uint64pow10", "math/bits.deBruijn32tab", "math/bits.deBruijn64tab"], apart := false, laid := [("math/bits.deBruijn32tab", laid_math_bits_deBruijn32tab), ("math/bits.deBruijn64tab", laid_math_bits_deBruijn64tab), ("internal/strconv.uint64pow10", laid_internal_strconv_uint64pow10), ("strconv.ErrRange", laid_strconv_ErrRange), ("strconv.ErrSyntax", laid_strconv_ErrSyntax), ("loop.example/g00703/impl.opForms", laid_loop_example_g00703_impl_opForms)] }
def FnExactReadProgSaid : Prop := fnExactReadProgRow.holds Tryd.pinned (OpenSpec.ofChange fnExactReadProgSpec)

/-- ITS FALSE NEIGHBOUR: 'it returns false'. Refute it at one input. -/
def fnExactReadProgWrong : ChangeSpec := { name := "fnExactReadProg", vars := ["loop.example/g00703/impl.opForms"], fn := fun _ => fun
  | [d, g1] => { results := [.lit (.bool false)], args := [d], vars := [g1] }
  | _ => none }
def FnExactReadProgWrongFalsely : Prop := fnExactReadProgRow.holds Tryd.pinned (OpenSpec.ofChange fnExactReadProgWrong)

/-- 'laws.FnProgs': WHATEVER THE INPUT: true; the input reads as it did. -/
def fnProgsSpec : ChangeSpec := { name := "fnProgs", vars := ["loop.example/g00703/impl.opForms"], fn := fun _ => fun
  | [d, g1] => { results := [.lit (.bool true)], args := [d], vars := [g1] }
  | _ => none }
def fnProgsRow : OpenClaim := { program := "ytgijalecpeabjaadoor", sum := "59aa76d527fab71847794fb4e4b5a465d44635ac58ecb8b23dd96c566cda7384", func := "loop.example/g00703/laws.FnProgs", spec := "fnProgs", inPlace := ["internal/abi.NoEscape", "internal/bytealg.MakeNoZero", "internal/bytealg.IndexByteString", "internal/bytealg.IndexString"], named := ["loop.example/g00703/impl.opForms", "internal/strconv.uint64pow10", "math/bits.deBruijn32tab", "math/bits.deBruijn64tab", "internal/bytealg.MaxLen", "strconv.ErrSyntax", "strconv.ErrRange"], apart := false, laid := [("math/bits.deBruijn32tab", laid_math_bits_deBruijn32tab), ("math/bits.deBruijn64tab", laid_math_bits_deBruijn64tab), ("internal/strconv.uint64pow10", laid_internal_strconv_uint64pow10), ("strconv.ErrRange", laid_strconv_ErrRange), ("strconv.ErrSyntax", laid_strconv_ErrSyntax), ("loop.example/g00703/impl.opForms", laid_loop_example_g00703_impl_opForms)] }
def FnProgsSaid : Prop := fnProgsRow.holds Tryd.pinned (OpenSpec.ofChange fnProgsSpec)

/-- ITS FALSE NEIGHBOUR: 'it returns false'. Refute it at one input. -/
def fnProgsWrong : ChangeSpec := { name := "fnProgs", vars := ["loop.example/g00703/impl.opForms"], fn := fun _ => fun
  | [d, g1] => { results := [.lit (.bool false)], args := [d], vars := [g1] }
  | _ => none }
def FnProgsWrongFalsely : Prop := fnProgsRow.holds Tryd.pinned (OpenSpec.ofChange fnProgsWrong)

/-- 'laws.FnExactJobOk': WHATEVER THE INPUT: true; the input reads as it did. -/
def fnExactJobOkSpec : ChangeSpec := { name := "fnExactJobOk", vars := ["loop.example/g00703/impl.opForms"], fn := fun _ => fun
  | [d, g1] => { results := [.lit (.bool true)], args := [d], vars := [g1] }
  | _ => none }
def fnExactJobOkRow : OpenClaim := { program := "ytgijalecpeabjaadoor", sum := "59aa76d527fab71847794fb4e4b5a465d44635ac58ecb8b23dd96c566cda7384", func := "loop.example/g00703/laws.FnExactJobOk", spec := "fnExactJobOk", inPlace := ["internal/bytealg.IndexByteString", "internal/bytealg.IndexString"], named := ["loop.example/g00703/impl.opForms", "internal/bytealg.MaxLen"], apart := false, laid := [("loop.example/g00703/impl.opForms", laid_loop_example_g00703_impl_opForms)] }
def FnExactJobOkSaid : Prop := fnExactJobOkRow.holds Tryd.pinned (OpenSpec.ofChange fnExactJobOkSpec)

/-- ITS FALSE NEIGHBOUR: 'it returns false'. Refute it at one input. -/
def fnExactJobOkWrong : ChangeSpec := { name := "fnExactJobOk", vars := ["loop.example/g00703/impl.opForms"], fn := fun _ => fun
  | [d, g1] => { results := [.lit (.bool false)], args := [d], vars := [g1] }
  | _ => none }
def FnExactJobOkWrongFalsely : Prop := fnExactJobOkRow.holds Tryd.pinned (OpenSpec.ofChange fnExactJobOkWrong)

/-- 'laws.FnExactJobText': WHATEVER THE INPUT: true; the input reads as it did. -/
def fnExactJobTextSpec : ChangeSpec := { name := "fnExactJobText", vars := ["loop.example/g00703/impl.opForms", "loop.example/g00703/impl.opWords"], fn := fun _ => fun
  | [d, g1, g2] => { results := [.lit (.bool true)], args := [d], vars := [g1, g2] }
  | _ => none }
def fnExactJobTextRow : OpenClaim := { program := "ytgijalecpeabjaadoor", sum := "59aa76d527fab71847794fb4e4b5a465d44635ac58ecb8b23dd96c566cda7384", func := "loop.example/g00703/laws.FnExactJobText", spec := "fnExactJobText", inPlace := ["internal/bytealg.IndexByteString", "internal/bytealg.IndexString", "internal/abi.NoEscape", "internal/bytealg.MakeNoZero", "internal/bytealg.CountString"], named := ["loop.example/g00703/impl.opForms", "internal/bytealg.MaxLen", "loop.example/g00703/impl.opWords", "internal/strconv.uint64pow10", "math/bits.deBruijn32tab", "math/bits.deBruijn64tab"], apart := false, laid := [("math/bits.deBruijn32tab", laid_math_bits_deBruijn32tab), ("math/bits.deBruijn64tab", laid_math_bits_deBruijn64tab), ("internal/strconv.uint64pow10", laid_internal_strconv_uint64pow10), ("loop.example/g00703/impl.opForms", laid_loop_example_g00703_impl_opForms), ("loop.example/g00703/impl.opWords", laid_loop_example_g00703_impl_opWords)] }
def FnExactJobTextSaid : Prop := fnExactJobTextRow.holds Tryd.pinned (OpenSpec.ofChange fnExactJobTextSpec)

/-- ITS FALSE NEIGHBOUR: 'it returns false'. Refute it at one input. -/
def fnExactJobTextWrong : ChangeSpec := { name := "fnExactJobText", vars := ["loop.example/g00703/impl.opForms", "loop.example/g00703/impl.opWords"], fn := fun _ => fun
  | [d, g1, g2] => { results := [.lit (.bool false)], args := [d], vars := [g1, g2] }
  | _ => none }
def FnExactJobTextWrongFalsely : Prop := fnExactJobTextRow.holds Tryd.pinned (OpenSpec.ofChange fnExactJobTextWrong)

/-- 'laws.FnExactTasksOf': WHATEVER THE INPUT: true; the input reads as it did. -/
def fnExactTasksOfSpec : ChangeSpec := { name := "fnExactTasksOf", vars := ["loop.example/g00703/impl.opForms"], fn := fun _ => fun
  | [d, g1] => { results := [.lit (.bool true)], args := [d], vars := [g1] }
  | _ => none }
def fnExactTasksOfRow : OpenClaim := { program := "ytgijalecpeabjaadoor", sum := "59aa76d527fab71847794fb4e4b5a465d44635ac58ecb8b23dd96c566cda7384", func := "loop.example/g00703/laws.FnExactTasksOf", spec := "fnExactTasksOf", inPlace := ["internal/bytealg.IndexByteString", "internal/bytealg.IndexString"], named := ["loop.example/g00703/impl.opForms", "internal/bytealg.MaxLen"], apart := false, laid := [("loop.example/g00703/impl.opForms", laid_loop_example_g00703_impl_opForms)] }
def FnExactTasksOfSaid : Prop := fnExactTasksOfRow.holds Tryd.pinned (OpenSpec.ofChange fnExactTasksOfSpec)

/-- ITS FALSE NEIGHBOUR: 'it returns false'. Refute it at one input. -/
def fnExactTasksOfWrong : ChangeSpec := { name := "fnExactTasksOf", vars := ["loop.example/g00703/impl.opForms"], fn := fun _ => fun
  | [d, g1] => { results := [.lit (.bool false)], args := [d], vars := [g1] }
  | _ => none }
def FnExactTasksOfWrongFalsely : Prop := fnExactTasksOfRow.holds Tryd.pinned (OpenSpec.ofChange fnExactTasksOfWrong)

/-- 'laws.FnTasks': WHATEVER THE INPUT: true; the input reads as it did. -/
def fnTasksSpec : ChangeSpec := { name := "fnTasks", vars := ["loop.example/g00703/impl.opForms"], fn := fun _ => fun
  | [d, g1] => { results := [.lit (.bool true)], args := [d], vars := [g1] }
  | _ => none }
def fnTasksRow : OpenClaim := { program := "ytgijalecpeabjaadoor", sum := "59aa76d527fab71847794fb4e4b5a465d44635ac58ecb8b23dd96c566cda7384", func := "loop.example/g00703/laws.FnTasks", spec := "fnTasks", inPlace := ["internal/bytealg.IndexByteString", "internal/bytealg.IndexString"], named := ["loop.example/g00703/impl.opForms", "internal/bytealg.MaxLen"], apart := false, laid := [("loop.example/g00703/impl.opForms", laid_loop_example_g00703_impl_opForms)] }
def FnTasksSaid : Prop := fnTasksRow.holds Tryd.pinned (OpenSpec.ofChange fnTasksSpec)

/-- ITS FALSE NEIGHBOUR: 'it returns false'. Refute it at one input. -/
def fnTasksWrong : ChangeSpec := { name := "fnTasks", vars := ["loop.example/g00703/impl.opForms"], fn := fun _ => fun
  | [d, g1] => { results := [.lit (.bool false)], args := [d], vars := [g1] }
  | _ => none }
def FnTasksWrongFalsely : Prop := fnTasksRow.holds Tryd.pinned (OpenSpec.ofChange fnTasksWrong)

/- THE SECOND FORM. 'bulk': how many values and letters a reading holds, each counted each time it is reached (what is shared counts as often as it is met; a slice's spare places count too). A statement '..UptoSaid' is the law's where the arguments, and the package variables that the reading takes, are together of bulk at most 1048576: NARROWER than '..Said'. Prove '..Said' where nothing that the law and all that it calls make is longer than what came in: it says more and counts as full. Else prove '..UptoSaid'. A law counts once. -/
mutual
def uptoBulk {H : Type} : DataW H → Nat
  | .lit (.string bytes) => bytes.length + 1
  | .lit _ => 1
  | .nil => 1
  | .ptr d => uptoBulk d + 1
  | .slice elems spare => uptoBulkAll elems + uptoBulkAll spare + 1
  | .agg parts => uptoBulkAll parts + 1
  | .iface _ d => uptoBulk d + 1
  | .map entries => uptoBulkEntries entries + 1
  | .held _ => 1
def uptoBulkAll {H : Type} : List (DataW H) → Nat
  | [] => 0
  | d :: r => uptoBulk d + uptoBulkAll r
def uptoBulkEntries {H : Type} : List (Lit × DataW H) → Nat
  | [] => 0
  | x :: r => uptoBulkEntry x + uptoBulkEntries r
def uptoBulkEntry {H : Type} : Lit × DataW H → Nat
  | (.string bytes, d) => bytes.length + uptoBulk d + 1
  | (_, d) => uptoBulk d + 1
 end
def uptoSmall : (H : Type) → List (DataW H) → Bool := fun _ ds => decide (uptoBulkAll ds ≤ 1048576)
def OpenSpec.upto (s : _root_.Go.ChangeSpec) : _root_.Go.OpenSpec := { _root_.Go.OpenSpec.ofChange s with cond := some uptoSmall }

/-- 'laws.FnExactProgOk', WHERE WHAT IT READS IS OF BULK AT MOST 1048576: true; the input reads as it did. -/
def fnExactProgOkUptoRow : OpenClaim := { program := "ytgijalecpeabjaadoor", sum := "59aa76d527fab71847794fb4e4b5a465d44635ac58ecb8b23dd96c566cda7384", func := "loop.example/g00703/laws.FnExactProgOk", spec := "fnExactProgOk", named := ["loop.example/g00703/impl.opForms"], apart := false, laid := [("loop.example/g00703/impl.opForms", laid_loop_example_g00703_impl_opForms)], narrowed := true }
def FnExactProgOkUptoSaid : Prop := fnExactProgOkUptoRow.holds Tryd.pinned (OpenSpec.upto fnExactProgOkSpec)

/-- 'laws.FnExactProgText', WHERE WHAT IT READS IS OF BULK AT MOST 1048576: true; the input reads as it did. -/
def fnExactProgTextUptoRow : OpenClaim := { program := "ytgijalecpeabjaadoor", sum := "59aa76d527fab71847794fb4e4b5a465d44635ac58ecb8b23dd96c566cda7384", func := "loop.example/g00703/laws.FnExactProgText", spec := "fnExactProgText", inPlace := ["internal/abi.NoEscape", "internal/bytealg.MakeNoZero"], named := ["loop.example/g00703/impl.opForms", "internal/strconv.uint64pow10", "math/bits.deBruijn32tab", "math/bits.deBruijn64tab"], apart := false, laid := [("math/bits.deBruijn32tab", laid_math_bits_deBruijn32tab), ("math/bits.deBruijn64tab", laid_math_bits_deBruijn64tab), ("internal/strconv.uint64pow10", laid_internal_strconv_uint64pow10), ("loop.example/g00703/impl.opForms", laid_loop_example_g00703_impl_opForms)], narrowed := true }
def FnExactProgTextUptoSaid : Prop := fnExactProgTextUptoRow.holds Tryd.pinned (OpenSpec.upto fnExactProgTextSpec)

/-- 'laws.FnExactReadProg', WHERE WHAT IT READS IS OF BULK AT MOST 1048576: true; the input reads as it did. -/
def fnExactReadProgUptoRow : OpenClaim := { program := "ytgijalecpeabjaadoor", sum := "59aa76d527fab71847794fb4e4b5a465d44635ac58ecb8b23dd96c566cda7384", func := "loop.example/g00703/laws.FnExactReadProg", spec := "fnExactReadProg", inPlace := ["internal/bytealg.IndexByteString", "internal/bytealg.IndexString"], named := ["internal/bytealg.MaxLen", "loop.example/g00703/impl.opForms", "strconv.ErrSyntax", "strconv.ErrRange", "internal/strconv.uint64pow10", "math/bits.deBruijn32tab", "math/bits.deBruijn64tab"], apart := false, laid := [("math/bits.deBruijn32tab", laid_math_bits_deBruijn32tab), ("math/bits.deBruijn64tab", laid_math_bits_deBruijn64tab), ("internal/strconv.uint64pow10", laid_internal_strconv_uint64pow10), ("strconv.ErrRange", laid_strconv_ErrRange), ("strconv.ErrSyntax", laid_strconv_ErrSyntax), ("loop.example/g00703/impl.opForms", laid_loop_example_g00703_impl_opForms)], narrowed := true }
def FnExactReadProgUptoSaid : Prop := fnExactReadProgUptoRow.holds Tryd.pinned (OpenSpec.upto fnExactReadProgSpec)

/-- 'laws.FnProgs', WHERE WHAT IT READS IS OF BULK AT MOST 1048576: true; the input reads as it did. -/
def fnProgsUptoRow : OpenClaim := { program := "ytgijalecpeabjaadoor", sum := "59aa76d527fab71847794fb4e4b5a465d44635ac58ecb8b23dd96c566cda7384", func := "loop.example/g00703/laws.FnProgs", spec := "fnProgs", inPlace := ["internal/abi.NoEscape", "internal/bytealg.MakeNoZero", "internal/bytealg.IndexByteString", "internal/bytealg.IndexString"], named := ["loop.example/g00703/impl.opForms", "internal/strconv.uint64pow10", "math/bits.deBruijn32tab", "math/bits.deBruijn64tab", "internal/bytealg.MaxLen", "strconv.ErrSyntax", "strconv.ErrRange"], apart := false, laid := [("math/bits.deBruijn32tab", laid_math_bits_deBruijn32tab), ("math/bits.deBruijn64tab", laid_math_bits_deBruijn64tab), ("internal/strconv.uint64pow10", laid_internal_strconv_uint64pow10), ("strconv.ErrRange", laid_strconv_ErrRange), ("strconv.ErrSyntax", laid_strconv_ErrSyntax), ("loop.example/g00703/impl.opForms", laid_loop_example_g00703_impl_opForms)], narrowed := true }
def FnProgsUptoSaid : Prop := fnProgsUptoRow.holds Tryd.pinned (OpenSpec.upto fnProgsSpec)

/-- 'laws.FnExactJobOk', WHERE WHAT IT READS IS OF BULK AT MOST 1048576: true; the input reads as it did. -/
def fnExactJobOkUptoRow : OpenClaim := { program := "ytgijalecpeabjaadoor", sum := "59aa76d527fab71847794fb4e4b5a465d44635ac58ecb8b23dd96c566cda7384", func := "loop.example/g00703/laws.FnExactJobOk", spec := "fnExactJobOk", inPlace := ["internal/bytealg.IndexByteString", "internal/bytealg.IndexString"], named := ["loop.example/g00703/impl.opForms", "internal/bytealg.MaxLen"], apart := false, laid := [("loop.example/g00703/impl.opForms", laid_loop_example_g00703_impl_opForms)], narrowed := true }
def FnExactJobOkUptoSaid : Prop := fnExactJobOkUptoRow.holds Tryd.pinned (OpenSpec.upto fnExactJobOkSpec)

/-- 'laws.FnExactJobText', WHERE WHAT IT READS IS OF BULK AT MOST 1048576: true; the input reads as it did. -/
def fnExactJobTextUptoRow : OpenClaim := { program := "ytgijalecpeabjaadoor", sum := "59aa76d527fab71847794fb4e4b5a465d44635ac58ecb8b23dd96c566cda7384", func := "loop.example/g00703/laws.FnExactJobText", spec := "fnExactJobText", inPlace := ["internal/bytealg.IndexByteString", "internal/bytealg.IndexString", "internal/abi.NoEscape", "internal/bytealg.MakeNoZero", "internal/bytealg.CountString"], named := ["loop.example/g00703/impl.opForms", "internal/bytealg.MaxLen", "loop.example/g00703/impl.opWords", "internal/strconv.uint64pow10", "math/bits.deBruijn32tab", "math/bits.deBruijn64tab"], apart := false, laid := [("math/bits.deBruijn32tab", laid_math_bits_deBruijn32tab), ("math/bits.deBruijn64tab", laid_math_bits_deBruijn64tab), ("internal/strconv.uint64pow10", laid_internal_strconv_uint64pow10), ("loop.example/g00703/impl.opForms", laid_loop_example_g00703_impl_opForms), ("loop.example/g00703/impl.opWords", laid_loop_example_g00703_impl_opWords)], narrowed := true }
def FnExactJobTextUptoSaid : Prop := fnExactJobTextUptoRow.holds Tryd.pinned (OpenSpec.upto fnExactJobTextSpec)

/-- 'laws.FnExactTasksOf', WHERE WHAT IT READS IS OF BULK AT MOST 1048576: true; the input reads as it did. -/
def fnExactTasksOfUptoRow : OpenClaim := { program := "ytgijalecpeabjaadoor", sum := "59aa76d527fab71847794fb4e4b5a465d44635ac58ecb8b23dd96c566cda7384", func := "loop.example/g00703/laws.FnExactTasksOf", spec := "fnExactTasksOf", inPlace := ["internal/bytealg.IndexByteString", "internal/bytealg.IndexString"], named := ["loop.example/g00703/impl.opForms", "internal/bytealg.MaxLen"], apart := false, laid := [("loop.example/g00703/impl.opForms", laid_loop_example_g00703_impl_opForms)], narrowed := true }
def FnExactTasksOfUptoSaid : Prop := fnExactTasksOfUptoRow.holds Tryd.pinned (OpenSpec.upto fnExactTasksOfSpec)

/-- 'laws.FnTasks', WHERE WHAT IT READS IS OF BULK AT MOST 1048576: true; the input reads as it did. -/
def fnTasksUptoRow : OpenClaim := { program := "ytgijalecpeabjaadoor", sum := "59aa76d527fab71847794fb4e4b5a465d44635ac58ecb8b23dd96c566cda7384", func := "loop.example/g00703/laws.FnTasks", spec := "fnTasks", inPlace := ["internal/bytealg.IndexByteString", "internal/bytealg.IndexString"], named := ["loop.example/g00703/impl.opForms", "internal/bytealg.MaxLen"], apart := false, laid := [("loop.example/g00703/impl.opForms", laid_loop_example_g00703_impl_opForms)], narrowed := true }
def FnTasksUptoSaid : Prop := fnTasksUptoRow.holds Tryd.pinned (OpenSpec.upto fnTasksSpec)

end Rows
end Go.Proofs.YtgijalecpeabjaaDoor
