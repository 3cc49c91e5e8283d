/-
  NARROWER THAN 'FOR EVERY INPUT', by the rows' own cells (each row's printed sentence says how): FnCreate: ifaces, laid · FnPut: ifaces, laid · FnStorePlayed: ifaces, laid · FnVersions: ifaces, laid.
  DERIVED. THE GIVEN ROWS OF THIS SEAT. 4 by the template 'for every input the law returns true; each argument reads behind the call as it read before'; 0 by the template 'total and deterministic' (their statements: YtblpebdjbenphaaDoorTotals.lean).
  GIVEN WITH THE SEED: the statements are not yours to turn. If you find one false, say at which input.
  Laid BY PROGRAM, IN A SANDBOX (cutbox-rows.mjs): the forced cells as the released guide's own fill.sh prints them over the translation dd193f5d6f9f00b7… (all of the seat's roots in one cut). By AI agents, Wed Nov 11 2026. No macro, syntax, notation, axiom, sorry.
-/
import Derived.Test.YtblpebdjbenphaaDoorChecked
import GoSem.Claim
import GoSem.ClaimJoined
import GoSem.ClaimMapViews
import Derived.JoinedTies
import Derived.KernelRfl
namespace Go.Proofs.YtblpebdjbenphaaDoor
/- THE CELL 'sum', in the pinned program and in every row, IS THE sha256 OF THE DUMP (.gsa) THAT YtblpebdjbenphaaDoorProg.lean LOADS. Nothing in Lean hashes anything: it is a label: what it is worth is what the hold of that sum in a sandbox is worth. -/
noncomputable def Tryd.pinned : Pinned := { name := "ytblpebdjbenphaadoor", sum := "dd193f5d6f9f00b72dcf32cd27220ff93d94606713a77798f07cc68f8367bd6f", checked := Tryd.checked }
namespace Rows
def none {H : Type} : Left H := { results := [], args := [] }

/- WHAT THE LISTED PACKAGE-LEVEL VARIABLES READ AS WHEN THE CALL BEGINS. Each datum BY PROGRAM (the guide's laid-datum.mjs) off the statement by which the dump's own 'gosem.cut.vars' lays the variable. In a bare row this is a premise. The card (YtblpebdjbenphaaDoorCards.lean) ties it to the program's text. -/
def laid_loop_example_g00703_impl_errForm {H : Type} : DataW H := .iface "*errors.errorString" (.ptr (.agg [.lit (.string [110, 111, 116, 32, 118, 97, 108, 105, 100])]))
def laid_loop_example_g00703_impl_errThere {H : Type} : DataW H := .iface "*errors.errorString" (.ptr (.agg [.lit (.string [116, 104, 101, 114, 101, 32, 105, 115, 32, 97, 110, 32, 111, 98, 106, 101, 99, 116, 32, 119, 105, 116, 104, 32, 116, 104, 105, 115, 32, 107, 101, 121])]))
def laid_loop_example_g00703_impl_errFull {H : Type} : DataW H := .iface "*errors.errorString" (.ptr (.agg [.lit (.string [110, 111, 32, 114, 111, 111, 109, 32, 102, 111, 114, 32, 97, 110, 111, 116, 104, 101, 114, 32, 107, 101, 121, 32, 111, 114, 32, 118, 101, 114, 115, 105, 111, 110])]))
def laid_loop_example_g00703_impl_errNone {H : Type} : DataW H := .iface "*errors.errorString" (.ptr (.agg [.lit (.string [116, 104, 101, 114, 101, 32, 105, 115, 32, 110, 111, 32, 115, 117, 99, 104, 32, 111, 98, 106, 101, 99, 116])]))
def laid_loop_example_g00703_impl_errVer {H : Type} : DataW H := .iface "*errors.errorString" (.ptr (.agg [.lit (.string [116, 104, 101, 32, 111, 98, 106, 101, 99, 116, 32, 104, 97, 115, 32, 97, 110, 111, 116, 104, 101, 114, 32, 118, 101, 114, 115, 105, 111, 110])]))

/-- 'laws.FnCreate': WHATEVER THE INPUT: true; the input reads as it did. -/
def fnCreateSpec : ChangeSpec := { name := "fnCreate", vars := ["loop.example/g00703/impl.errForm", "loop.example/g00703/impl.errThere", "loop.example/g00703/impl.errFull", "loop.example/g00703/impl.errNone", "loop.example/g00703/impl.errVer"], fn := fun _ => fun
  | [d, g1, g2, g3, g4, g5] => { results := [.lit (.bool true)], args := [d], vars := [g1, g2, g3, g4, g5] }
  | _ => none }
def fnCreateRow : OpenClaim := { program := "ytblpebdjbenphaadoor", sum := "dd193f5d6f9f00b72dcf32cd27220ff93d94606713a77798f07cc68f8367bd6f", func := "loop.example/g00703/laws.FnCreate", spec := "fnCreate", inPlace := ["(*internal/sync.Mutex).Lock", "internal/race.Disable", "sync/atomic.CompareAndSwapInt32", "internal/race.Enable", "internal/race.Acquire", "(*internal/sync.Mutex).lockSlow", "internal/sync.runtime_canSpin", "internal/sync.runtime_doSpin", "internal/sync.throw", "internal/sync.runtime_nanotime", "internal/sync.runtime_SemacquireMutex", "sync/atomic.AddInt32", "(*internal/sync.Mutex).Unlock", "internal/race.ReleaseMerge", "(*internal/sync.Mutex).unlockSlow", "internal/sync.fatal", "internal/sync.runtime_Semrelease", "slices.overlaps[string]", "internal/reflectlite.TypeOf"], unfollowed := true, recurses := true, named := ["loop.example/g00703/impl.errForm", "loop.example/g00703/impl.errThere", "loop.example/g00703/impl.errFull", "loop.example/g00703/impl.errNone", "loop.example/g00703/impl.errVer"], ifaces := true, apart := false, laid := [("loop.example/g00703/impl.errForm", laid_loop_example_g00703_impl_errForm), ("loop.example/g00703/impl.errThere", laid_loop_example_g00703_impl_errThere), ("loop.example/g00703/impl.errFull", laid_loop_example_g00703_impl_errFull), ("loop.example/g00703/impl.errNone", laid_loop_example_g00703_impl_errNone), ("loop.example/g00703/impl.errVer", laid_loop_example_g00703_impl_errVer)] }
def FnCreateSaid : Prop := fnCreateRow.holds Tryd.pinned (OpenSpec.ofChange fnCreateSpec)

/-- ITS FALSE NEIGHBOUR: 'it returns false'. Refute it at one input. -/
def fnCreateWrong : ChangeSpec := { name := "fnCreate", vars := ["loop.example/g00703/impl.errForm", "loop.example/g00703/impl.errThere", "loop.example/g00703/impl.errFull", "loop.example/g00703/impl.errNone", "loop.example/g00703/impl.errVer"], fn := fun _ => fun
  | [d, g1, g2, g3, g4, g5] => { results := [.lit (.bool false)], args := [d], vars := [g1, g2, g3, g4, g5] }
  | _ => none }
def FnCreateWrongFalsely : Prop := fnCreateRow.holds Tryd.pinned (OpenSpec.ofChange fnCreateWrong)

/-- 'laws.FnPut': WHATEVER THE INPUT: true; the input reads as it did. -/
def fnPutSpec : ChangeSpec := { name := "fnPut", vars := ["loop.example/g00703/impl.errForm", "loop.example/g00703/impl.errThere", "loop.example/g00703/impl.errFull", "loop.example/g00703/impl.errNone", "loop.example/g00703/impl.errVer"], fn := fun _ => fun
  | [d, g1, g2, g3, g4, g5] => { results := [.lit (.bool true)], args := [d], vars := [g1, g2, g3, g4, g5] }
  | _ => none }
def fnPutRow : OpenClaim := { program := "ytblpebdjbenphaadoor", sum := "dd193f5d6f9f00b72dcf32cd27220ff93d94606713a77798f07cc68f8367bd6f", func := "loop.example/g00703/laws.FnPut", spec := "fnPut", inPlace := ["(*internal/sync.Mutex).Lock", "internal/race.Disable", "sync/atomic.CompareAndSwapInt32", "internal/race.Enable", "internal/race.Acquire", "(*internal/sync.Mutex).lockSlow", "internal/sync.runtime_canSpin", "internal/sync.runtime_doSpin", "internal/sync.throw", "internal/sync.runtime_nanotime", "internal/sync.runtime_SemacquireMutex", "sync/atomic.AddInt32", "(*internal/sync.Mutex).Unlock", "internal/race.ReleaseMerge", "(*internal/sync.Mutex).unlockSlow", "internal/sync.fatal", "internal/sync.runtime_Semrelease", "slices.overlaps[string]", "internal/reflectlite.TypeOf"], unfollowed := true, recurses := true, named := ["loop.example/g00703/impl.errForm", "loop.example/g00703/impl.errThere", "loop.example/g00703/impl.errFull", "loop.example/g00703/impl.errNone", "loop.example/g00703/impl.errVer"], ifaces := true, apart := false, laid := [("loop.example/g00703/impl.errForm", laid_loop_example_g00703_impl_errForm), ("loop.example/g00703/impl.errThere", laid_loop_example_g00703_impl_errThere), ("loop.example/g00703/impl.errFull", laid_loop_example_g00703_impl_errFull), ("loop.example/g00703/impl.errNone", laid_loop_example_g00703_impl_errNone), ("loop.example/g00703/impl.errVer", laid_loop_example_g00703_impl_errVer)] }
def FnPutSaid : Prop := fnPutRow.holds Tryd.pinned (OpenSpec.ofChange fnPutSpec)

/-- ITS FALSE NEIGHBOUR: 'it returns false'. Refute it at one input. -/
def fnPutWrong : ChangeSpec := { name := "fnPut", vars := ["loop.example/g00703/impl.errForm", "loop.example/g00703/impl.errThere", "loop.example/g00703/impl.errFull", "loop.example/g00703/impl.errNone", "loop.example/g00703/impl.errVer"], fn := fun _ => fun
  | [d, g1, g2, g3, g4, g5] => { results := [.lit (.bool false)], args := [d], vars := [g1, g2, g3, g4, g5] }
  | _ => none }
def FnPutWrongFalsely : Prop := fnPutRow.holds Tryd.pinned (OpenSpec.ofChange fnPutWrong)

/-- 'laws.FnStorePlayed': WHATEVER THE INPUT: true; the input reads as it did. -/
def fnStorePlayedSpec : ChangeSpec := { name := "fnStorePlayed", vars := ["loop.example/g00703/impl.errForm", "loop.example/g00703/impl.errThere", "loop.example/g00703/impl.errFull", "loop.example/g00703/impl.errNone", "loop.example/g00703/impl.errVer"], fn := fun _ => fun
  | [d, g1, g2, g3, g4, g5] => { results := [.lit (.bool true)], args := [d], vars := [g1, g2, g3, g4, g5] }
  | _ => none }
def fnStorePlayedRow : OpenClaim := { program := "ytblpebdjbenphaadoor", sum := "dd193f5d6f9f00b72dcf32cd27220ff93d94606713a77798f07cc68f8367bd6f", func := "loop.example/g00703/laws.FnStorePlayed", spec := "fnStorePlayed", inPlace := ["(*internal/sync.Mutex).Lock", "internal/race.Disable", "sync/atomic.CompareAndSwapInt32", "internal/race.Enable", "internal/race.Acquire", "(*internal/sync.Mutex).lockSlow", "internal/sync.runtime_canSpin", "internal/sync.runtime_doSpin", "internal/sync.throw", "internal/sync.runtime_nanotime", "internal/sync.runtime_SemacquireMutex", "sync/atomic.AddInt32", "(*internal/sync.Mutex).Unlock", "internal/race.ReleaseMerge", "(*internal/sync.Mutex).unlockSlow", "internal/sync.fatal", "internal/sync.runtime_Semrelease", "slices.overlaps[string]", "internal/reflectlite.TypeOf"], unfollowed := true, recurses := true, named := ["loop.example/g00703/impl.errForm", "loop.example/g00703/impl.errThere", "loop.example/g00703/impl.errFull", "loop.example/g00703/impl.errNone", "loop.example/g00703/impl.errVer"], ifaces := true, apart := false, laid := [("loop.example/g00703/impl.errForm", laid_loop_example_g00703_impl_errForm), ("loop.example/g00703/impl.errThere", laid_loop_example_g00703_impl_errThere), ("loop.example/g00703/impl.errFull", laid_loop_example_g00703_impl_errFull), ("loop.example/g00703/impl.errNone", laid_loop_example_g00703_impl_errNone), ("loop.example/g00703/impl.errVer", laid_loop_example_g00703_impl_errVer)] }
def FnStorePlayedSaid : Prop := fnStorePlayedRow.holds Tryd.pinned (OpenSpec.ofChange fnStorePlayedSpec)

/-- ITS FALSE NEIGHBOUR: 'it returns false'. Refute it at one input. -/
def fnStorePlayedWrong : ChangeSpec := { name := "fnStorePlayed", vars := ["loop.example/g00703/impl.errForm", "loop.example/g00703/impl.errThere", "loop.example/g00703/impl.errFull", "loop.example/g00703/impl.errNone", "loop.example/g00703/impl.errVer"], fn := fun _ => fun
  | [d, g1, g2, g3, g4, g5] => { results := [.lit (.bool false)], args := [d], vars := [g1, g2, g3, g4, g5] }
  | _ => none }
def FnStorePlayedWrongFalsely : Prop := fnStorePlayedRow.holds Tryd.pinned (OpenSpec.ofChange fnStorePlayedWrong)

/-- 'laws.FnVersions': WHATEVER THE INPUT: true; the input reads as it did. -/
def fnVersionsSpec : ChangeSpec := { name := "fnVersions", vars := ["loop.example/g00703/impl.errForm", "loop.example/g00703/impl.errThere", "loop.example/g00703/impl.errFull", "loop.example/g00703/impl.errNone", "loop.example/g00703/impl.errVer"], fn := fun _ => fun
  | [d, g1, g2, g3, g4, g5] => { results := [.lit (.bool true)], args := [d], vars := [g1, g2, g3, g4, g5] }
  | _ => none }
def fnVersionsRow : OpenClaim := { program := "ytblpebdjbenphaadoor", sum := "dd193f5d6f9f00b72dcf32cd27220ff93d94606713a77798f07cc68f8367bd6f", func := "loop.example/g00703/laws.FnVersions", spec := "fnVersions", inPlace := ["(*internal/sync.Mutex).Lock", "internal/race.Disable", "sync/atomic.CompareAndSwapInt32", "internal/race.Enable", "internal/race.Acquire", "(*internal/sync.Mutex).lockSlow", "internal/sync.runtime_canSpin", "internal/sync.runtime_doSpin", "internal/sync.throw", "internal/sync.runtime_nanotime", "internal/sync.runtime_SemacquireMutex", "sync/atomic.AddInt32", "(*internal/sync.Mutex).Unlock", "internal/race.ReleaseMerge", "(*internal/sync.Mutex).unlockSlow", "internal/sync.fatal", "internal/sync.runtime_Semrelease", "slices.overlaps[string]", "internal/reflectlite.TypeOf"], unfollowed := true, recurses := true, named := ["loop.example/g00703/impl.errForm", "loop.example/g00703/impl.errThere", "loop.example/g00703/impl.errFull", "loop.example/g00703/impl.errNone", "loop.example/g00703/impl.errVer"], ifaces := true, apart := false, laid := [("loop.example/g00703/impl.errForm", laid_loop_example_g00703_impl_errForm), ("loop.example/g00703/impl.errThere", laid_loop_example_g00703_impl_errThere), ("loop.example/g00703/impl.errFull", laid_loop_example_g00703_impl_errFull), ("loop.example/g00703/impl.errNone", laid_loop_example_g00703_impl_errNone), ("loop.example/g00703/impl.errVer", laid_loop_example_g00703_impl_errVer)] }
def FnVersionsSaid : Prop := fnVersionsRow.holds Tryd.pinned (OpenSpec.ofChange fnVersionsSpec)

/-- ITS FALSE NEIGHBOUR: 'it returns false'. Refute it at one input. -/
def fnVersionsWrong : ChangeSpec := { name := "fnVersions", vars := ["loop.example/g00703/impl.errForm", "loop.example/g00703/impl.errThere", "loop.example/g00703/impl.errFull", "loop.example/g00703/impl.errNone", "loop.example/g00703/impl.errVer"], fn := fun _ => fun
  | [d, g1, g2, g3, g4, g5] => { results := [.lit (.bool false)], args := [d], vars := [g1, g2, g3, g4, g5] }
  | _ => none }
def FnVersionsWrongFalsely : Prop := fnVersionsRow.holds Tryd.pinned (OpenSpec.ofChange fnVersionsWrong)

/- THE SECOND FORM. 'bulk': how many values and letters a reading holds, each counted each time it is reached (what is shared counts as often as it is met; a slice's spare places count too). A statement '..UptoSaid' is the law's where the arguments, and the package variables that the reading takes, are together of bulk at most 1048576: NARROWER than '..Said'. Prove '..Said' where nothing that the law and all that it calls make is longer than what came in: it says more and counts as full. Else prove '..UptoSaid'. A law counts once. -/
mutual
def uptoBulk {H : Type} : DataW H → Nat
  | .lit (.string bytes) => bytes.length + 1
  | .lit _ => 1
  | .nil => 1
  | .ptr d => uptoBulk d + 1
  | .slice elems spare => uptoBulkAll elems + uptoBulkAll spare + 1
  | .agg parts => uptoBulkAll parts + 1
  | .iface _ d => uptoBulk d + 1
  | .map entries => uptoBulkEntries entries + 1
  | .held _ => 1
def uptoBulkAll {H : Type} : List (DataW H) → Nat
  | [] => 0
  | d :: r => uptoBulk d + uptoBulkAll r
def uptoBulkEntries {H : Type} : List (Lit × DataW H) → Nat
  | [] => 0
  | x :: r => uptoBulkEntry x + uptoBulkEntries r
def uptoBulkEntry {H : Type} : Lit × DataW H → Nat
  | (.string bytes, d) => bytes.length + uptoBulk d + 1
  | (_, d) => uptoBulk d + 1
 end
def uptoSmall : (H : Type) → List (DataW H) → Bool := fun _ ds => decide (uptoBulkAll ds ≤ 1048576)
def OpenSpec.upto (s : _root_.Go.ChangeSpec) : _root_.Go.OpenSpec := { _root_.Go.OpenSpec.ofChange s with cond := some uptoSmall }

/-- 'laws.FnCreate', WHERE WHAT IT READS IS OF BULK AT MOST 1048576: true; the input reads as it did. -/
def fnCreateUptoRow : OpenClaim := { program := "ytblpebdjbenphaadoor", sum := "dd193f5d6f9f00b72dcf32cd27220ff93d94606713a77798f07cc68f8367bd6f", func := "loop.example/g00703/laws.FnCreate", spec := "fnCreate", inPlace := ["(*internal/sync.Mutex).Lock", "internal/race.Disable", "sync/atomic.CompareAndSwapInt32", "internal/race.Enable", "internal/race.Acquire", "(*internal/sync.Mutex).lockSlow", "internal/sync.runtime_canSpin", "internal/sync.runtime_doSpin", "internal/sync.throw", "internal/sync.runtime_nanotime", "internal/sync.runtime_SemacquireMutex", "sync/atomic.AddInt32", "(*internal/sync.Mutex).Unlock", "internal/race.ReleaseMerge", "(*internal/sync.Mutex).unlockSlow", "internal/sync.fatal", "internal/sync.runtime_Semrelease", "slices.overlaps[string]", "internal/reflectlite.TypeOf"], unfollowed := true, recurses := true, named := ["loop.example/g00703/impl.errForm", "loop.example/g00703/impl.errThere", "loop.example/g00703/impl.errFull", "loop.example/g00703/impl.errNone", "loop.example/g00703/impl.errVer"], ifaces := true, apart := false, laid := [("loop.example/g00703/impl.errForm", laid_loop_example_g00703_impl_errForm), ("loop.example/g00703/impl.errThere", laid_loop_example_g00703_impl_errThere), ("loop.example/g00703/impl.errFull", laid_loop_example_g00703_impl_errFull), ("loop.example/g00703/impl.errNone", laid_loop_example_g00703_impl_errNone), ("loop.example/g00703/impl.errVer", laid_loop_example_g00703_impl_errVer)], narrowed := true }
def FnCreateUptoSaid : Prop := fnCreateUptoRow.holds Tryd.pinned (OpenSpec.upto fnCreateSpec)

/-- 'laws.FnPut', WHERE WHAT IT READS IS OF BULK AT MOST 1048576: true; the input reads as it did. -/
def fnPutUptoRow : OpenClaim := { program := "ytblpebdjbenphaadoor", sum := "dd193f5d6f9f00b72dcf32cd27220ff93d94606713a77798f07cc68f8367bd6f", func := "loop.example/g00703/laws.FnPut", spec := "fnPut", inPlace := ["(*internal/sync.Mutex).Lock", "internal/race.Disable", "sync/atomic.CompareAndSwapInt32", "internal/race.Enable", "internal/race.Acquire", "(*internal/sync.Mutex).lockSlow", "internal/sync.runtime_canSpin", "internal/sync.runtime_doSpin", "internal/sync.throw", "internal/sync.runtime_nanotime", "internal/sync.runtime_SemacquireMutex", "sync/atomic.AddInt32", "(*internal/sync.Mutex).Unlock", "internal/race.ReleaseMerge", "(*internal/sync.Mutex).unlockSlow", "internal/sync.fatal", "internal/sync.runtime_Semrelease", "slices.overlaps[string]", "internal/reflectlite.TypeOf"], unfollowed := true, recurses := true, named := ["loop.example/g00703/impl.errForm", "loop.example/g00703/impl.errThere", "loop.example/g00703/impl.errFull", "loop.example/g00703/impl.errNone", "loop.example/g00703/impl.errVer"], ifaces := true, apart := false, laid := [("loop.example/g00703/impl.errForm", laid_loop_example_g00703_impl_errForm), ("loop.example/g00703/impl.errThere", laid_loop_example_g00703_impl_errThere), ("loop.example/g00703/impl.errFull", laid_loop_example_g00703_impl_errFull), ("loop.example/g00703/impl.errNone", laid_loop_example_g00703_impl_errNone), ("loop.example/g00703/impl.errVer", laid_loop_example_g00703_impl_errVer)], narrowed := true }
def FnPutUptoSaid : Prop := fnPutUptoRow.holds Tryd.pinned (OpenSpec.upto fnPutSpec)

/-- 'laws.FnStorePlayed', WHERE WHAT IT READS IS OF BULK AT MOST 1048576: true; the input reads as it did. -/
def fnStorePlayedUptoRow : OpenClaim := { program := "ytblpebdjbenphaadoor", sum := "dd193f5d6f9f00b72dcf32cd27220ff93d94606713a77798f07cc68f8367bd6f", func := "loop.example/g00703/laws.FnStorePlayed", spec := "fnStorePlayed", inPlace := ["(*internal/sync.Mutex).Lock", "internal/race.Disable", "sync/atomic.CompareAndSwapInt32", "internal/race.Enable", "internal/race.Acquire", "(*internal/sync.Mutex).lockSlow", "internal/sync.runtime_canSpin", "internal/sync.runtime_doSpin", "internal/sync.throw", "internal/sync.runtime_nanotime", "internal/sync.runtime_SemacquireMutex", "sync/atomic.AddInt32", "(*internal/sync.Mutex).Unlock", "internal/race.ReleaseMerge", "(*internal/sync.Mutex).unlockSlow", "internal/sync.fatal", "internal/sync.runtime_Semrelease", "slices.overlaps[string]", "internal/reflectlite.TypeOf"], unfollowed := true, recurses := true, named := ["loop.example/g00703/impl.errForm", "loop.example/g00703/impl.errThere", "loop.example/g00703/impl.errFull", "loop.example/g00703/impl.errNone", "loop.example/g00703/impl.errVer"], ifaces := true, apart := false, laid := [("loop.example/g00703/impl.errForm", laid_loop_example_g00703_impl_errForm), ("loop.example/g00703/impl.errThere", laid_loop_example_g00703_impl_errThere), ("loop.example/g00703/impl.errFull", laid_loop_example_g00703_impl_errFull), ("loop.example/g00703/impl.errNone", laid_loop_example_g00703_impl_errNone), ("loop.example/g00703/impl.errVer", laid_loop_example_g00703_impl_errVer)], narrowed := true }
def FnStorePlayedUptoSaid : Prop := fnStorePlayedUptoRow.holds Tryd.pinned (OpenSpec.upto fnStorePlayedSpec)

/-- 'laws.FnVersions', WHERE WHAT IT READS IS OF BULK AT MOST 1048576: true; the input reads as it did. -/
def fnVersionsUptoRow : OpenClaim := { program := "ytblpebdjbenphaadoor", sum := "dd193f5d6f9f00b72dcf32cd27220ff93d94606713a77798f07cc68f8367bd6f", func := "loop.example/g00703/laws.FnVersions", spec := "fnVersions", inPlace := ["(*internal/sync.Mutex).Lock", "internal/race.Disable", "sync/atomic.CompareAndSwapInt32", "internal/race.Enable", "internal/race.Acquire", "(*internal/sync.Mutex).lockSlow", "internal/sync.runtime_canSpin", "internal/sync.runtime_doSpin", "internal/sync.throw", "internal/sync.runtime_nanotime", "internal/sync.runtime_SemacquireMutex", "sync/atomic.AddInt32", "(*internal/sync.Mutex).Unlock", "internal/race.ReleaseMerge", "(*internal/sync.Mutex).unlockSlow", "internal/sync.fatal", "internal/sync.runtime_Semrelease", "slices.overlaps[string]", "internal/reflectlite.TypeOf"], unfollowed := true, recurses := true, named := ["loop.example/g00703/impl.errForm", "loop.example/g00703/impl.errThere", "loop.example/g00703/impl.errFull", "loop.example/g00703/impl.errNone", "loop.example/g00703/impl.errVer"], ifaces := true, apart := false, laid := [("loop.example/g00703/impl.errForm", laid_loop_example_g00703_impl_errForm), ("loop.example/g00703/impl.errThere", laid_loop_example_g00703_impl_errThere), ("loop.example/g00703/impl.errFull", laid_loop_example_g00703_impl_errFull), ("loop.example/g00703/impl.errNone", laid_loop_example_g00703_impl_errNone), ("loop.example/g00703/impl.errVer", laid_loop_example_g00703_impl_errVer)], narrowed := true }
def FnVersionsUptoSaid : Prop := fnVersionsUptoRow.holds Tryd.pinned (OpenSpec.upto fnVersionsSpec)

end Rows
end Go.Proofs.YtblpebdjbenphaaDoor
