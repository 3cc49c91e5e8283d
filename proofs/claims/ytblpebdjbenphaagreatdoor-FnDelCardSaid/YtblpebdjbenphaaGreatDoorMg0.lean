/- Texts put together, as a claim holds at most sixty files. -/
import Derived.Test.YtblpebdjbenphaaGreatDoorRows
import Derived.WalkKit
import Derived.LaidEql
import Derived.Stop.Asserts
import Derived.Stop.LaidTwo
import Derived.RowKitTokens
import Derived.Lib.Hide
import Derived.ProofKit
import Derived.OpenShut
import Derived.WalkLawsBesides
import Derived.OwnWalk
import Derived.Deep.QuietTactic
import Derived.BigQuiet
import Derived.Deep.RegionHeld3
import Derived.Outline
import Derived.Stop.LaidErr
import Derived.Below
namespace Go.Proofs.YtblpebdjbenphaaGreatDoor
open Go.RowKit Go.Extern.Stop Go.Stop Go.Extern
set_option linter.unusedVariables false
set_option maxRecDepth 100000

theorem isTypeOfE (v : Value) (w : World) : (callFunc 62 #[.iface 171 v]).run Tryz.prog w = .ok (.value (.iface 124 (.agg #[.pointer (some ⟨9, 171, none⟩)]))) w := by kernel_rfl
theorem isComparableE (w : World) : (callFunc 136 #[.agg #[.pointer (some ⟨9, 171, none⟩)]]).run Tryz.prog w = .ok (.value (.bool true)) w := by kernel_rfl
theorem isMethodE (v : Value) (w : World) : (Go.method 304 124 v "Comparable").run Tryz.prog w = .ok (136, v) w := by kernel_rfl
theorem isCompE : (Tryz.prog.info? 171).map (·.comparable) = some true := by kernel_rfl
theorem isSizeE : (Tryz.prog.info? 193).map (·.size) = some 1 := by kernel_rfl
theorem noIsE (v : Value) (xT : TypeId) (w : World) : (Instr.typeAssert (.iface 171 v) xT 126 true).run Tryz.prog w = .ok (.tuple #[.nilIface, .bool false]) w := run_typeAssert_lacksB Tryz.underlying126 (by kernel_rfl) (by kernel_rfl) v xT w
theorem noUnE (v : Value) (xT : TypeId) (w : World) : (Instr.typeAssert (.iface 171 v) xT 129 true).run Tryz.prog w = .ok (.tuple #[.nilIface, .bool false]) w := run_typeAssert_lacksB Tryz.underlying129 (by kernel_rfl) (by kernel_rfl) v xT w
theorem noUnsE (v : Value) (xT : TypeId) (w : World) : (Instr.typeAssert (.iface 171 v) xT 131 true).run Tryz.prog w = .ok (.tuple #[.nilIface, .bool false]) w := run_typeAssert_lacksB Tryz.underlying131 (by kernel_rfl) (by kernel_rfl) v xT w

/-- An error of errors.New's make: its block. -/
def ErrAt (w : World) (a : Addr) : Prop := ∃ c t, w.heap[a.block]? = some (.cells c t (0, 0))
theorem ErrAt.lt {w : World} {a : Addr} (h : ErrAt w a) : a.block < w.heap.size := by
  obtain ⟨c, t, h⟩ := h
  exact (Array.getElem?_eq_some_iff.1 h).1
theorem ErrAt.keep {w w1 : World} {a : Addr} (h : ErrAt w a) (hB : Below w.heap.size w w1) : ErrAt w1 a := by
  have hl := h.lt
  obtain ⟨c, t, h⟩ := h
  exact ⟨c, t, (hB.block _ hl).trans h⟩
def errV (a : Addr) : Value := .iface 171 (.pointer (some a))

set_option maxHeartbeats 1000000 in
theorem is_inner (a b : Addr) (w : World) (ha : ErrAt w a) (hb : ErrAt w b) :
    Calls Tryz.prog 63 #[.iface 171 (.pointer (some a)), .iface 171 (.pointer (some b)), .bool true] w fun e w' => e = .returned (.bool (decide (a = b))) ∧ w' = w := by
  obtain ⟨ca, ta, ha⟩ := ha
  obtain ⟨cb, tb, hb⟩ := hb
  obtain ⟨i, hi, hcmp⟩ := Option.map_eq_some_iff.1 isCompE
  obtain ⟨j, hj, hjs⟩ := Option.map_eq_some_iff.1 isSizeE
  have nE := noIsE
  have uE := noUnE
  have vE := noUnsE
  by_cases hab : a = b
  · subst hab
    have hd : decide (a = a) = true := by simp
    rw [hd]
    go_enter Tryz.func63, Tryz.ntmps63
    go_wp2
    go_loopw [0] (fun E' wl => wl = w ∧ E' = .iface 171 (.pointer (some a))) (fun _ _ => 0)
    case atStart => exact ⟨rfl, rfl⟩
    case round =>
      obtain ⟨rfl, rfl⟩ := hrel
      have heq := run_eql_iface_ptr_same (P := Tryz.prog) wr a Tryz.underlying48 Tryz.underlying171 hi hcmp hj
      go_wp2
      go_ret
      exact ⟨rfl, rfl⟩
  · have hd : decide (a = b) = false := by simp [hab]
    rw [hd]
    go_enter Tryz.func63, Tryz.ntmps63
    go_wp2
    go_loopw [0] (fun E' wl => wl = w ∧ E' = .iface 171 (.pointer (some a))) (fun _ _ => 0)
    case atStart => exact ⟨rfl, rfl⟩
    case round =>
      obtain ⟨rfl, rfl⟩ := hrel
      have heq := run_eql_iface_ptr_other (P := Tryz.prog) wr Tryz.underlying48 Tryz.underlying171 hi hcmp hj (by rw [hjs]; decide) hab ha hb
      go_wp2
      go_ret
      exact ⟨rfl, rfl⟩

set_option maxHeartbeats 1000000 in
theorem is_any (a b : Addr) (w : World) (ha : ErrAt w a) (hb : ErrAt w b) :
    Calls Tryz.prog 40 #[.iface 171 (.pointer (some a)), .iface 171 (.pointer (some b))] w fun e w' => e = .returned (.bool (decide (a = b))) ∧ w' = w := by
  have HA := Lib.hid ha
  have HB := Lib.hid hb
  have h1 := isTypeOfE
  have h2 := isComparableE
  have h3 := isMethodE
  clear ha hb
  go_enter Tryz.func40, Tryz.ntmps40
  go_wp2_with (first | (go_at_call 63; refine (is_inner a b _ HA.out HB.out).mono ?_; rintro e w' ⟨rfl, rfl⟩) | go_in)
  go_ret
  exact ⟨rfl, rfl⟩
end Go.Proofs.YtblpebdjbenphaaGreatDoor
namespace Go.Proofs.YtblpebdjbenphaaGreatDoor
open Go.ChangeShapes Go.WideShapes Go.ChangeAt Go.RowKit
set_option linter.unusedVariables false
set_option maxRecDepth 100000

/-- The end of a function that returns a bool and makes at most new blocks. -/
def MadeBool (b : Bool) (w : World) (e : Ending) (w' : World) : Prop := e = .returned (.bool b) ∧ Below w.heap.size w w'

theorem ret_bool {a b : Bool} (h : a = b) : Ending.returned (.bool a) = .returned (.bool b) := by rw [h]
theorem below_alloc {w x : World} (h : Below w.heap.size w x) (o : Obj) : Below w.heap.size w (x.alloc o) := h.alloc h.size o
theorem below_via {w x y : World} (h : Below w.heap.size w x) (k : Below x.heap.size x y) : Below w.heap.size w y := h.trans (k.mono h.size)
theorem bcell {W w1 : World} (hb : Below W.heap.size W w1) : ∀ b o, b < W.heap.size → w1.cell? ⟨b, o, none⟩ = W.cell? ⟨b, o, none⟩ := fun b o h => hb.cell (p := ⟨b, o, none⟩) h

/-- Block B is a row of cells that may be written. -/
def Row (w : World) (B : Nat) (E : TypeId) (cur : Array Value) : Prop := w.heap[B]? = some (.cells cur E (0, 0))
theorem Row.lt {w : World} {B : Nat} {E : TypeId} {cur : Array Value} (h : Row w B E cur) : B < w.heap.size := lt_of_block h
theorem Row.keep {w w1 : World} {B : Nat} {E : TypeId} {cur : Array Value} (h : Row w B E cur) (hB : Below w.heap.size w w1) : Row w1 B E cur := (hB.block B h.lt).trans h
theorem Row.cell {w : World} {B : Nat} {E : TypeId} {cur : Array Value} (h : Row w B E cur) {j : Nat} (hj : j < cur.size) : w.cell? ⟨B, j, none⟩ = some cur[j] := by
  unfold Row at h; simp [World.cell?, h, hj]
theorem Row.free {w : World} {B : Nat} {E : TypeId} {cur : Array Value} (h : Row w B E cur) (j : Nat) : w.frozen? ⟨B, j, none⟩ = false := by
  unfold Row at h; simp [World.frozen?, h]
theorem Row.set {w : World} {B : Nat} {E : TypeId} {cur : Array Value} (h : Row w B E cur) (j : Nat) (x : Value) : Row (w.setCell ⟨B, j, none⟩ x) B E (cur.setIfInBounds j x) := by
  have hlt := h.lt
  unfold Row at h ⊢
  have h' : w.heap[B] = .cells cur E (0, 0) := by simpa [Array.getElem?_eq_getElem hlt] using h
  show (w.heap.modify B _)[B]? = _
  rw [Array.getElem?_eq_getElem (by simpa using hlt), Array.getElem_modify_self, h']
  rfl

end Go.Proofs.YtblpebdjbenphaaGreatDoor
namespace Go.Proofs.YtblpebdjbenphaaGreatDoor
open Go.ChangeShapes Go.WideShapes Go.ChangeAt Go.RowKit
set_option linter.unusedVariables false
set_option maxRecDepth 100000

structure ErrA where
  form : Addr
  there : Addr
  full : Addr
  missing : Addr
  ver : Addr
/-- The errors of the package. -/
structure TabsEA (A : ErrA) (w : World) : Prop where
  c0 : w.cell? ⟨0, 0, none⟩ = some (errV A.form)
  c1 : w.cell? ⟨1, 0, none⟩ = some (errV A.there)
  c2 : w.cell? ⟨2, 0, none⟩ = some (errV A.full)
  c3 : w.cell? ⟨3, 0, none⟩ = some (errV A.missing)
  c4 : w.cell? ⟨4, 0, none⟩ = some (errV A.ver)
  e0 : ErrAt w A.form
  e1 : ErrAt w A.there
  e2 : ErrAt w A.full
  e3 : ErrAt w A.missing
  e4 : ErrAt w A.ver
  n01 : A.form ≠ A.there
  n02 : A.form ≠ A.full
  n03 : A.form ≠ A.missing
  n04 : A.form ≠ A.ver
  n12 : A.there ≠ A.full
  n13 : A.there ≠ A.missing
  n14 : A.there ≠ A.ver
  n23 : A.full ≠ A.missing
  n24 : A.full ≠ A.ver
  n34 : A.missing ≠ A.ver
theorem TabsEA.keep {A : ErrA} {w w1 : World} (h : TabsEA A w) (hB : Below w.heap.size w w1) : TabsEA A w1 :=
  ⟨(hB.cell (World.block_lt_of_cell? _ _ h.c0)).trans h.c0, (hB.cell (World.block_lt_of_cell? _ _ h.c1)).trans h.c1, (hB.cell (World.block_lt_of_cell? _ _ h.c2)).trans h.c2, (hB.cell (World.block_lt_of_cell? _ _ h.c3)).trans h.c3, (hB.cell (World.block_lt_of_cell? _ _ h.c4)).trans h.c4,
   h.e0.keep hB, h.e1.keep hB, h.e2.keep hB, h.e3.keep hB, h.e4.keep hB, h.n01, h.n02, h.n03, h.n04, h.n12, h.n13, h.n14, h.n23, h.n24, h.n34⟩
def TabsE (w : World) : Prop := ∃ A, TabsEA A w

theorem gv0 : Tryz.prog.globalNamed "loop.example/g00703/impl.errForm" = some 0 := by kernel_rfl
theorem gt0 : (Tryz.prog.globals[0]?).map (·.type) = some 48 := by kernel_rfl
theorem gv1 : Tryz.prog.globalNamed "loop.example/g00703/impl.errThere" = some 1 := by kernel_rfl
theorem gt1 : (Tryz.prog.globals[1]?).map (·.type) = some 48 := by kernel_rfl
theorem gv2 : Tryz.prog.globalNamed "loop.example/g00703/impl.errFull" = some 2 := by kernel_rfl
theorem gt2 : (Tryz.prog.globals[2]?).map (·.type) = some 48 := by kernel_rfl
theorem gv3 : Tryz.prog.globalNamed "loop.example/g00703/impl.errNone" = some 3 := by kernel_rfl
theorem gt3 : (Tryz.prog.globals[3]?).map (·.type) = some 48 := by kernel_rfl
theorem gv4 : Tryz.prog.globalNamed "loop.example/g00703/impl.errVer" = some 4 := by kernel_rfl
theorem gt4 : (Tryz.prog.globals[4]?).map (·.type) = some 48 := by kernel_rfl
theorem cellsESe : Tryz.prog.cellsOf 193 = 1 := by kernel_rfl
theorem cellsStre : Tryz.prog.cellsOf 9 = 1 := by kernel_rfl
theorem starESe : "*" ++ "errors.errorString" = "*errors.errorString" := by decide
theorem rowESe (u : TypeId) (h : Tryz.prog.typeName? 3 u = some "*errors.errorString") : u = 171 :=
  typeName_ptr_named (nm := "errors.errorString") (by rw [starESe]; kernel_rfl) (by kernel_rfl) (by decide) u (by rw [starESe]; exact h)
theorem sent_ne {W : World} {a b : Addr} {s u : ByteArray} {t1 t2 : List UInt8} (h1 : W.cell? a = some (.string s)) (h2 : W.cell? b = some (.string u)) (hs : s.data.toList = t1) (hu : u.data.toList = t2) (hne : t1 ≠ t2) : a ≠ b := by
  intro he
  subst he
  rw [h1] at h2
  simp only [Option.some.injEq, Value.string.injEq] at h2
  subst h2
  exact hne (hs.symm.trans hu)
theorem tabse_of {W : World} (h : laidMet Tryz.prog [("loop.example/g00703/impl.errForm", Rows.laid_loop_example_g00703_impl_errForm), ("loop.example/g00703/impl.errThere", Rows.laid_loop_example_g00703_impl_errThere), ("loop.example/g00703/impl.errFull", Rows.laid_loop_example_g00703_impl_errFull), ("loop.example/g00703/impl.errNone", Rows.laid_loop_example_g00703_impl_errNone), ("loop.example/g00703/impl.errVer", Rows.laid_loop_example_g00703_impl_errVer)] W) : TabsE W := by
  obtain ⟨a0, a1, s0, s1, x0, x1, t0, t1, v0, v1, k0, l0, -, k1, l1, -, -, b0, b1⟩ := laid_sentinels2 (nm := "*errors.errorString") h gv0 gt0 gv1 gt1 Tryz.underlying48 rowESe Tryz.underlying171 Tryz.underlying193 rfl rfl Tryz.underlying9 cellsESe cellsStre
  obtain ⟨a2, a3, s2, s3, x2, x3, t2, t3, v2, v3, k2, l2, -, k3, l3, -, -, b2, b3⟩ := laid_sentinels2 (nm := "*errors.errorString") h.tail.tail gv2 gt2 gv3 gt3 Tryz.underlying48 rowESe Tryz.underlying171 Tryz.underlying193 rfl rfl Tryz.underlying9 cellsESe cellsStre
  obtain ⟨-, a4, -, s4, -, x4, -, t4, -, v4, -, -, -, k4, l4, -, -, -, b4⟩ := laid_sentinels2 (nm := "*errors.errorString") h.tail.tail.tail gv3 gt3 gv4 gt4 Tryz.underlying48 rowESe Tryz.underlying171 Tryz.underlying193 rfl rfl Tryz.underlying9 cellsESe cellsStre
  exact ⟨⟨a0, a1, a2, a3, a4⟩, by unfold errV; simpa using World.var?_cell gv0 v0 0, by unfold errV; simpa using World.var?_cell gv1 v1 0, by unfold errV; simpa using World.var?_cell gv2 v2 0, by unfold errV; simpa using World.var?_cell gv3 v3 0, by unfold errV; simpa using World.var?_cell gv4 v4 0,
    ⟨x0, t0, b0⟩, ⟨x1, t1, b1⟩, ⟨x2, t2, b2⟩, ⟨x3, t3, b3⟩, ⟨x4, t4, b4⟩,
    sent_ne k0 k1 l0 l1 (by decide), sent_ne k0 k2 l0 l2 (by decide), sent_ne k0 k3 l0 l3 (by decide), sent_ne k0 k4 l0 l4 (by decide), sent_ne k1 k2 l1 l2 (by decide), sent_ne k1 k3 l1 l3 (by decide), sent_ne k1 k4 l1 l4 (by decide), sent_ne k2 k3 l2 l3 (by decide), sent_ne k2 k4 l2 l4 (by decide), sent_ne k3 k4 l3 l4 (by decide)⟩

/-- The error of a code: nil for 0. -/
def codeV (A : ErrA) (c : Int) : Value := if c = 0 then .nilIface else if c = 2 then errV A.there else if c = 3 then errV A.full else if c = 4 then errV A.missing else if c = 5 then errV A.ver else errV A.form
def CodeOk (c : Int) : Prop := c = 0 ∨ c = 1 ∨ c = 2 ∨ c = 3 ∨ c = 4 ∨ c = 5

set_option maxHeartbeats 4000000 in
theorem codeof_any (A : ErrA) (c : Int) (w : World) (h : TabsEA A w) (hc : CodeOk c) : Calls Tryz.prog 19 #[codeV A c] w fun e w' => e = .returned (.int .i64 c) ∧ w' = w := by
  have HT := Lib.hid h
  have c1 := h.c1
  have c2 := h.c2
  have c3 := h.c3
  have c4 := h.c4
  unfold errV at c1 c2 c3 c4
  clear h
  rcases hc with rfl | rfl | rfl | rfl | rfl | rfl
  · have e : codeV A 0 = .nilIface := rfl
    rw [e]
    go_enter Tryz.func19, Tryz.ntmps19
    go_wp2
    go_ret
    exact ⟨rfl, rfl⟩
  · have e : codeV A 1 = .iface 171 (.pointer (some A.form)) := rfl
    rw [e]
    go_enter Tryz.func19, Tryz.ntmps19
    go_wp2_with fail
    refine (is_any A.form A.there _ HT.out.e0 HT.out.e1).mono ?_
    rw [decide_eq_false HT.out.n01]
    rintro e w' ⟨rfl, rfl⟩
    go_wp2_with fail
    refine (is_any A.form A.full _ HT.out.e0 HT.out.e2).mono ?_
    rw [decide_eq_false HT.out.n02]
    rintro e w' ⟨rfl, rfl⟩
    go_wp2_with fail
    refine (is_any A.form A.missing _ HT.out.e0 HT.out.e3).mono ?_
    rw [decide_eq_false HT.out.n03]
    rintro e w' ⟨rfl, rfl⟩
    go_wp2_with fail
    refine (is_any A.form A.ver _ HT.out.e0 HT.out.e4).mono ?_
    rw [decide_eq_false HT.out.n04]
    rintro e w' ⟨rfl, rfl⟩
    go_wp2
    go_ret
    exact ⟨rfl, rfl⟩
  · have e : codeV A 2 = .iface 171 (.pointer (some A.there)) := rfl
    rw [e]
    go_enter Tryz.func19, Tryz.ntmps19
    go_wp2_with fail
    refine (is_any A.there A.there _ HT.out.e1 HT.out.e1).mono ?_
    rw [decide_eq_true rfl]
    rintro e w' ⟨rfl, rfl⟩
    go_wp2
    go_ret
    exact ⟨rfl, rfl⟩
  · have e : codeV A 3 = .iface 171 (.pointer (some A.full)) := rfl
    rw [e]
    go_enter Tryz.func19, Tryz.ntmps19
    go_wp2_with fail
    refine (is_any A.full A.there _ HT.out.e2 HT.out.e1).mono ?_
    rw [decide_eq_false HT.out.n12.symm]
    rintro e w' ⟨rfl, rfl⟩
    go_wp2_with fail
    refine (is_any A.full A.full _ HT.out.e2 HT.out.e2).mono ?_
    rw [decide_eq_true rfl]
    rintro e w' ⟨rfl, rfl⟩
    go_wp2
    go_ret
    exact ⟨rfl, rfl⟩
  · have e : codeV A 4 = .iface 171 (.pointer (some A.missing)) := rfl
    rw [e]
    go_enter Tryz.func19, Tryz.ntmps19
    go_wp2_with fail
    refine (is_any A.missing A.there _ HT.out.e3 HT.out.e1).mono ?_
    rw [decide_eq_false HT.out.n13.symm]
    rintro e w' ⟨rfl, rfl⟩
    go_wp2_with fail
    refine (is_any A.missing A.full _ HT.out.e3 HT.out.e2).mono ?_
    rw [decide_eq_false HT.out.n23.symm]
    rintro e w' ⟨rfl, rfl⟩
    go_wp2_with fail
    refine (is_any A.missing A.missing _ HT.out.e3 HT.out.e3).mono ?_
    rw [decide_eq_true rfl]
    rintro e w' ⟨rfl, rfl⟩
    go_wp2
    go_ret
    exact ⟨rfl, rfl⟩
  · have e : codeV A 5 = .iface 171 (.pointer (some A.ver)) := rfl
    rw [e]
    go_enter Tryz.func19, Tryz.ntmps19
    go_wp2_with fail
    refine (is_any A.ver A.there _ HT.out.e4 HT.out.e1).mono ?_
    rw [decide_eq_false HT.out.n14.symm]
    rintro e w' ⟨rfl, rfl⟩
    go_wp2_with fail
    refine (is_any A.ver A.full _ HT.out.e4 HT.out.e2).mono ?_
    rw [decide_eq_false HT.out.n24.symm]
    rintro e w' ⟨rfl, rfl⟩
    go_wp2_with fail
    refine (is_any A.ver A.missing _ HT.out.e4 HT.out.e3).mono ?_
    rw [decide_eq_false HT.out.n34.symm]
    rintro e w' ⟨rfl, rfl⟩
    go_wp2_with fail
    refine (is_any A.ver A.ver _ HT.out.e4 HT.out.e4).mono ?_
    rw [decide_eq_true rfl]
    rintro e w' ⟨rfl, rfl⟩
    go_wp2
    go_ret
    exact ⟨rfl, rfl⟩
end Go.Proofs.YtblpebdjbenphaaGreatDoor
