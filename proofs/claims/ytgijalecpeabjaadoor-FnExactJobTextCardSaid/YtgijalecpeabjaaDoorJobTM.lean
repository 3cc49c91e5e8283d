
/- Texts of jobs, as lists of bytes. -/
import Derived.Test.YtgijalecpeabjaaDoorProgTP
import Derived.Test.YtgijalecpeabjaaDoorJobOk
import Derived.Test.YtgijalecpeabjaaDoorTabStr
namespace Go.Proofs.YtgijalecpeabjaaDoor
open Go.ChangeShapes Go.WideShapes Go.ChangeAt Go.RowKit
set_option linter.unusedVariables false
set_option maxRecDepth 100000

def opWs : List ByteArray := [ByteArray.empty, ⟨#[115, 117, 109]⟩, ⟨#[109, 105, 110]⟩, ⟨#[109, 97, 120]⟩, ⟨#[99, 111, 117, 110, 116]⟩]
theorem gOpW : Tryd.prog.globalNamed "loop.example/g00703/impl.opWords" = some 1 := by kernel_rfl
theorem gOpWType : (Tryd.prog.globals[1]?).map (·.type) = some 111 := by kernel_rfl
theorem opWCells : Tryd.prog.cellsOf 111 = 5 := by kernel_rfl
structure TabsJ (w : World) : Prop where
  t : TabsPT w
  words : StrTab w 1 opWs
theorem TabsJ.keep {w w' : World} (h : TabsJ w) (hB : Below w.heap.size w w') : TabsJ w' := ⟨h.t.keep hB, h.words.keep hB⟩
theorem tabsj_of {W : World} (h : laidMet Tryd.prog [("math/bits.deBruijn32tab", Rows.laid_math_bits_deBruijn32tab), ("math/bits.deBruijn64tab", Rows.laid_math_bits_deBruijn64tab), ("internal/strconv.uint64pow10", Rows.laid_internal_strconv_uint64pow10), ("loop.example/g00703/impl.opForms", Rows.laid_loop_example_g00703_impl_opForms), ("loop.example/g00703/impl.opWords", Rows.laid_loop_example_g00703_impl_opWords)] W) : TabsJ W :=
  ⟨⟨Lib.tabIs_of_head (k := .u64) (zs := Lib.pow10Tab) gPow gPowType Tryd.underlying137 Tryd.underlying110 gU64Cells gPowCells h.tail.tail, tabsp_of_head h.tail.tail.tail⟩,
    strTab_of_head (ss := opWs) gOpW gOpWType Tryd.underlying111 opWCells (by decide) h.tail.tail.tail.tail⟩

def opW (k : Nat) : ByteArray := opWs.getD k ByteArray.empty
theorem opW_few (k : Nat) : (opW k).size ≤ 5 := by
  rcases (by omega : k = 0 ∨ k = 1 ∨ k = 2 ∨ k = 3 ∨ k = 4 ∨ 5 ≤ k) with rfl | rfl | rfl | rfl | rfl | h
  · decide
  · decide
  · decide
  · decide
  · decide
  · unfold opW
    rw [List.getD_eq_getElem?_getD, List.getElem?_eq_none (by simpa [opWs] using h)]
    decide
def scopeB (e : Bool) : ByteArray := if e then ⟨#[101, 97, 99, 104]⟩ else ⟨#[108, 105, 110, 101]⟩
/-- The head of a job's text: op's number k, parts n. -/
def headTx (k : Nat) (n : Int) (e : Bool) : ByteArray := ((((⟨#[106, 111, 98, 32]⟩ ++ opW k) ++ ⟨#[32]⟩) ++ decB n ++ ⟨#[32]⟩) ++ scopeB e) ++ ⟨#[10]⟩
def cntB (s : ByteArray) : Int := ((linesW s.data.toList).length : Nat)
def splitTx (s : ByteArray) : ByteArray := ((⟨#[115, 112, 108, 105, 116, 32]⟩ ++ decB (cntB s)) ++ ⟨#[10]⟩) ++ s
def jobTo (h : ByteArray) (m : Strs) : Nat → ByteArray
  | 0 => h
  | k + 1 => jobTo h m k ++ splitTx (strAt m k)
def jobHd (l : Instrs) (k : Nat) (n : Int) (e : Bool) : ByteArray := (headTx k n e ++ progTo l l.length) ++ ⟨#[10]⟩
def jobTx (l : Instrs) (e : Bool) (o1 n1 : Int) (m : Strs) (sl : Nat) : ByteArray := if jobB l o1 n1 m sl then jobTo (jobHd l o1.toNat n1 e) m sl else ByteArray.empty

theorem count_joinN : ∀ (W : List (List UInt8)), (∀ x ∈ W, (10 : UInt8) ∉ x) → (joinN W).count 10 = W.length
  | [], _ => rfl
  | a :: t, h => by
    show (a ++ 10 :: joinN t).count 10 = t.length + 1
    rw [List.count_append, List.count_cons_self, count_joinN t (fun x hx => h x (by simp [hx])), List.count_eq_zero.2 (h a (by simp))]
    omega
end Go.Proofs.YtgijalecpeabjaaDoor
