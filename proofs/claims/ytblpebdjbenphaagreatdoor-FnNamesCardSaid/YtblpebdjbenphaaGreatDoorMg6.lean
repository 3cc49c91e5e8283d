/- Texts put together, as a claim holds at most sixty files. -/
import Derived.Test.YtblpebdjbenphaaGreatDoorMg5
import Derived.Stop.LaidErr
import Derived.Below
import Derived.Test.YtblpebdjbenphaaGreatDoorMg0
import Derived.OwnWalk
import Derived.WalkKit
import Derived.ProofKit
import Derived.OpenShut
import Derived.WalkLawsBesides
import Derived.Deep.QuietTactic
import Derived.BigQuiet
import Derived.Deep.RegionHeld3
import Derived.Lib.Hide
import Derived.Outline
import Derived.Test.YtblpebdjbenphaaGreatDoorMg2
namespace Go.Proofs.YtblpebdjbenphaaGreatDoor
open Go.ChangeShapes Go.WideShapes Go.ChangeAt Go.RowKit
set_option linter.unusedVariables false
set_option maxRecDepth 100000

structure ErrA where
  form : Addr
  there : Addr
  full : Addr
  missing : Addr
  ver : Addr
/-- The errors of the package. -/
structure TabsEA (A : ErrA) (w : World) : Prop where
  c0 : w.cell? ⟨0, 0, none⟩ = some (errV A.form)
  c1 : w.cell? ⟨1, 0, none⟩ = some (errV A.there)
  c2 : w.cell? ⟨2, 0, none⟩ = some (errV A.full)
  c3 : w.cell? ⟨3, 0, none⟩ = some (errV A.missing)
  c4 : w.cell? ⟨4, 0, none⟩ = some (errV A.ver)
  e0 : ErrAt w A.form
  e1 : ErrAt w A.there
  e2 : ErrAt w A.full
  e3 : ErrAt w A.missing
  e4 : ErrAt w A.ver
  n01 : A.form ≠ A.there
  n02 : A.form ≠ A.full
  n03 : A.form ≠ A.missing
  n04 : A.form ≠ A.ver
  n12 : A.there ≠ A.full
  n13 : A.there ≠ A.missing
  n14 : A.there ≠ A.ver
  n23 : A.full ≠ A.missing
  n24 : A.full ≠ A.ver
  n34 : A.missing ≠ A.ver
theorem TabsEA.keep {A : ErrA} {w w1 : World} (h : TabsEA A w) (hB : Below w.heap.size w w1) : TabsEA A w1 :=
  ⟨(hB.cell (World.block_lt_of_cell? _ _ h.c0)).trans h.c0, (hB.cell (World.block_lt_of_cell? _ _ h.c1)).trans h.c1, (hB.cell (World.block_lt_of_cell? _ _ h.c2)).trans h.c2, (hB.cell (World.block_lt_of_cell? _ _ h.c3)).trans h.c3, (hB.cell (World.block_lt_of_cell? _ _ h.c4)).trans h.c4,
   h.e0.keep hB, h.e1.keep hB, h.e2.keep hB, h.e3.keep hB, h.e4.keep hB, h.n01, h.n02, h.n03, h.n04, h.n12, h.n13, h.n14, h.n23, h.n24, h.n34⟩
def TabsE (w : World) : Prop := ∃ A, TabsEA A w

theorem gv0 : Tryz.prog.globalNamed "loop.example/g00703/impl.errForm" = some 0 := by kernel_rfl
theorem gt0 : (Tryz.prog.globals[0]?).map (·.type) = some 48 := by kernel_rfl
theorem gv1 : Tryz.prog.globalNamed "loop.example/g00703/impl.errThere" = some 1 := by kernel_rfl
theorem gt1 : (Tryz.prog.globals[1]?).map (·.type) = some 48 := by kernel_rfl
theorem gv2 : Tryz.prog.globalNamed "loop.example/g00703/impl.errFull" = some 2 := by kernel_rfl
theorem gt2 : (Tryz.prog.globals[2]?).map (·.type) = some 48 := by kernel_rfl
theorem gv3 : Tryz.prog.globalNamed "loop.example/g00703/impl.errNone" = some 3 := by kernel_rfl
theorem gt3 : (Tryz.prog.globals[3]?).map (·.type) = some 48 := by kernel_rfl
theorem gv4 : Tryz.prog.globalNamed "loop.example/g00703/impl.errVer" = some 4 := by kernel_rfl
theorem gt4 : (Tryz.prog.globals[4]?).map (·.type) = some 48 := by kernel_rfl
theorem cellsESe : Tryz.prog.cellsOf 193 = 1 := by kernel_rfl
theorem cellsStre : Tryz.prog.cellsOf 9 = 1 := by kernel_rfl
theorem starESe : "*" ++ "errors.errorString" = "*errors.errorString" := by decide
theorem rowESe (u : TypeId) (h : Tryz.prog.typeName? 3 u = some "*errors.errorString") : u = 171 :=
  typeName_ptr_named (nm := "errors.errorString") (by rw [starESe]; kernel_rfl) (by kernel_rfl) (by decide) u (by rw [starESe]; exact h)
theorem sent_ne {W : World} {a b : Addr} {s u : ByteArray} {t1 t2 : List UInt8} (h1 : W.cell? a = some (.string s)) (h2 : W.cell? b = some (.string u)) (hs : s.data.toList = t1) (hu : u.data.toList = t2) (hne : t1 ≠ t2) : a ≠ b := by
  intro he
  subst he
  rw [h1] at h2
  simp only [Option.some.injEq, Value.string.injEq] at h2
  subst h2
  exact hne (hs.symm.trans hu)
theorem tabse_of {W : World} (h : laidMet Tryz.prog [("loop.example/g00703/impl.errForm", Rows.laid_loop_example_g00703_impl_errForm), ("loop.example/g00703/impl.errThere", Rows.laid_loop_example_g00703_impl_errThere), ("loop.example/g00703/impl.errFull", Rows.laid_loop_example_g00703_impl_errFull), ("loop.example/g00703/impl.errNone", Rows.laid_loop_example_g00703_impl_errNone), ("loop.example/g00703/impl.errVer", Rows.laid_loop_example_g00703_impl_errVer)] W) : TabsE W := by
  obtain ⟨a0, a1, s0, s1, x0, x1, t0, t1, v0, v1, k0, l0, -, k1, l1, -, -, b0, b1⟩ := laid_sentinels2 (nm := "*errors.errorString") h gv0 gt0 gv1 gt1 Tryz.underlying48 rowESe Tryz.underlying171 Tryz.underlying193 rfl rfl Tryz.underlying9 cellsESe cellsStre
  obtain ⟨a2, a3, s2, s3, x2, x3, t2, t3, v2, v3, k2, l2, -, k3, l3, -, -, b2, b3⟩ := laid_sentinels2 (nm := "*errors.errorString") h.tail.tail gv2 gt2 gv3 gt3 Tryz.underlying48 rowESe Tryz.underlying171 Tryz.underlying193 rfl rfl Tryz.underlying9 cellsESe cellsStre
  obtain ⟨-, a4, -, s4, -, x4, -, t4, -, v4, -, -, -, k4, l4, -, -, -, b4⟩ := laid_sentinels2 (nm := "*errors.errorString") h.tail.tail.tail gv3 gt3 gv4 gt4 Tryz.underlying48 rowESe Tryz.underlying171 Tryz.underlying193 rfl rfl Tryz.underlying9 cellsESe cellsStre
  exact ⟨⟨a0, a1, a2, a3, a4⟩, by unfold errV; simpa using World.var?_cell gv0 v0 0, by unfold errV; simpa using World.var?_cell gv1 v1 0, by unfold errV; simpa using World.var?_cell gv2 v2 0, by unfold errV; simpa using World.var?_cell gv3 v3 0, by unfold errV; simpa using World.var?_cell gv4 v4 0,
    ⟨x0, t0, b0⟩, ⟨x1, t1, b1⟩, ⟨x2, t2, b2⟩, ⟨x3, t3, b3⟩, ⟨x4, t4, b4⟩,
    sent_ne k0 k1 l0 l1 (by decide), sent_ne k0 k2 l0 l2 (by decide), sent_ne k0 k3 l0 l3 (by decide), sent_ne k0 k4 l0 l4 (by decide), sent_ne k1 k2 l1 l2 (by decide), sent_ne k1 k3 l1 l3 (by decide), sent_ne k1 k4 l1 l4 (by decide), sent_ne k2 k3 l2 l3 (by decide), sent_ne k2 k4 l2 l4 (by decide), sent_ne k3 k4 l3 l4 (by decide)⟩

/-- The error of a code: nil for 0. -/
def codeV (A : ErrA) (c : Int) : Value := if c = 0 then .nilIface else if c = 2 then errV A.there else if c = 3 then errV A.full else if c = 4 then errV A.missing else if c = 5 then errV A.ver else errV A.form
def CodeOk (c : Int) : Prop := c = 0 ∨ c = 1 ∨ c = 2 ∨ c = 3 ∨ c = 4 ∨ c = 5

set_option maxHeartbeats 4000000 in
theorem codeof_any (A : ErrA) (c : Int) (w : World) (h : TabsEA A w) (hc : CodeOk c) : Calls Tryz.prog 19 #[codeV A c] w fun e w' => e = .returned (.int .i64 c) ∧ w' = w := by
  have HT := Lib.hid h
  have c1 := h.c1
  have c2 := h.c2
  have c3 := h.c3
  have c4 := h.c4
  unfold errV at c1 c2 c3 c4
  clear h
  rcases hc with rfl | rfl | rfl | rfl | rfl | rfl
  · have e : codeV A 0 = .nilIface := rfl
    rw [e]
    go_enter Tryz.func19, Tryz.ntmps19
    go_wp2
    go_ret
    exact ⟨rfl, rfl⟩
  · have e : codeV A 1 = .iface 171 (.pointer (some A.form)) := rfl
    rw [e]
    go_enter Tryz.func19, Tryz.ntmps19
    go_wp2_with fail
    refine (is_any A.form A.there _ HT.out.e0 HT.out.e1).mono ?_
    rw [decide_eq_false HT.out.n01]
    rintro e w' ⟨rfl, rfl⟩
    go_wp2_with fail
    refine (is_any A.form A.full _ HT.out.e0 HT.out.e2).mono ?_
    rw [decide_eq_false HT.out.n02]
    rintro e w' ⟨rfl, rfl⟩
    go_wp2_with fail
    refine (is_any A.form A.missing _ HT.out.e0 HT.out.e3).mono ?_
    rw [decide_eq_false HT.out.n03]
    rintro e w' ⟨rfl, rfl⟩
    go_wp2_with fail
    refine (is_any A.form A.ver _ HT.out.e0 HT.out.e4).mono ?_
    rw [decide_eq_false HT.out.n04]
    rintro e w' ⟨rfl, rfl⟩
    go_wp2
    go_ret
    exact ⟨rfl, rfl⟩
  · have e : codeV A 2 = .iface 171 (.pointer (some A.there)) := rfl
    rw [e]
    go_enter Tryz.func19, Tryz.ntmps19
    go_wp2_with fail
    refine (is_any A.there A.there _ HT.out.e1 HT.out.e1).mono ?_
    rw [decide_eq_true rfl]
    rintro e w' ⟨rfl, rfl⟩
    go_wp2
    go_ret
    exact ⟨rfl, rfl⟩
  · have e : codeV A 3 = .iface 171 (.pointer (some A.full)) := rfl
    rw [e]
    go_enter Tryz.func19, Tryz.ntmps19
    go_wp2_with fail
    refine (is_any A.full A.there _ HT.out.e2 HT.out.e1).mono ?_
    rw [decide_eq_false HT.out.n12.symm]
    rintro e w' ⟨rfl, rfl⟩
    go_wp2_with fail
    refine (is_any A.full A.full _ HT.out.e2 HT.out.e2).mono ?_
    rw [decide_eq_true rfl]
    rintro e w' ⟨rfl, rfl⟩
    go_wp2
    go_ret
    exact ⟨rfl, rfl⟩
  · have e : codeV A 4 = .iface 171 (.pointer (some A.missing)) := rfl
    rw [e]
    go_enter Tryz.func19, Tryz.ntmps19
    go_wp2_with fail
    refine (is_any A.missing A.there _ HT.out.e3 HT.out.e1).mono ?_
    rw [decide_eq_false HT.out.n13.symm]
    rintro e w' ⟨rfl, rfl⟩
    go_wp2_with fail
    refine (is_any A.missing A.full _ HT.out.e3 HT.out.e2).mono ?_
    rw [decide_eq_false HT.out.n23.symm]
    rintro e w' ⟨rfl, rfl⟩
    go_wp2_with fail
    refine (is_any A.missing A.missing _ HT.out.e3 HT.out.e3).mono ?_
    rw [decide_eq_true rfl]
    rintro e w' ⟨rfl, rfl⟩
    go_wp2
    go_ret
    exact ⟨rfl, rfl⟩
  · have e : codeV A 5 = .iface 171 (.pointer (some A.ver)) := rfl
    rw [e]
    go_enter Tryz.func19, Tryz.ntmps19
    go_wp2_with fail
    refine (is_any A.ver A.there _ HT.out.e4 HT.out.e1).mono ?_
    rw [decide_eq_false HT.out.n14.symm]
    rintro e w' ⟨rfl, rfl⟩
    go_wp2_with fail
    refine (is_any A.ver A.full _ HT.out.e4 HT.out.e2).mono ?_
    rw [decide_eq_false HT.out.n24.symm]
    rintro e w' ⟨rfl, rfl⟩
    go_wp2_with fail
    refine (is_any A.ver A.missing _ HT.out.e4 HT.out.e3).mono ?_
    rw [decide_eq_false HT.out.n34.symm]
    rintro e w' ⟨rfl, rfl⟩
    go_wp2_with fail
    refine (is_any A.ver A.ver _ HT.out.e4 HT.out.e4).mono ?_
    rw [decide_eq_true rfl]
    rintro e w' ⟨rfl, rfl⟩
    go_wp2
    go_ret
    exact ⟨rfl, rfl⟩
end Go.Proofs.YtblpebdjbenphaaGreatDoor
namespace Go.Proofs.YtblpebdjbenphaaGreatDoor
open Go.ChangeShapes Go.WideShapes Go.ChangeAt Go.RowKit
set_option linter.unusedVariables false
set_option maxRecDepth 100000

abbrev Objs := List (ByteArray × Int × ByteArray)
def obj0 (l : Objs) (i : Nat) : ByteArray := (l.getD i (ByteArray.empty, 0, ByteArray.empty)).1
def obj1 (l : Objs) (i : Nat) : Int := (l.getD i (ByteArray.empty, 0, ByteArray.empty)).2.1
def obj2 (l : Objs) (i : Nat) : ByteArray := (l.getD i (ByteArray.empty, 0, ByteArray.empty)).2.2

/-- The slice (a, len, cap) holds the values l. -/
structure ObjsAt (w : World) (a : Option Addr) (len : Nat) (l : Objs) : Prop where
  length : l.length = len
  max : len ≤ maxLen
  keys : ∀ i, i < len → (obj0 l i).size ≤ maxLen ∧ (obj2 l i).size ≤ maxLen
  src : len = 0 ∨ ∃ b off, a = some ⟨b, off, none⟩ ∧ b < w.heap.size ∧ ∀ i, i < len → w.cell? ⟨b, off + i * 3, none⟩ = some (.string (obj0 l i)) ∧ w.cell? ⟨b, off + i * 3 + 1, none⟩ = some (.int .i64 (obj1 l i)) ∧ w.cell? ⟨b, off + i * 3 + 2, none⟩ = some (.string (obj2 l i))

theorem ObjsAt.keep {w w1 : World} {a : Option Addr} {len : Nat} {l : Objs} (h : ObjsAt w a len l) (hB : Below w.heap.size w w1) : ObjsAt w1 a len l := by
  refine ⟨h.length, h.max, h.keys, ?_⟩
  rcases h.src with h0 | ⟨b, off, ha, hb, hc⟩
  · exact .inl h0
  · exact .inr ⟨b, off, ha, Nat.lt_of_lt_of_le hb hB.size, fun i hi => ⟨(hB.cell (p := ⟨b, off + i * 3, none⟩) hb).trans (hc i hi).1, (hB.cell (p := ⟨b, off + i * 3 + 1, none⟩) hb).trans (hc i hi).2.1, (hB.cell (p := ⟨b, off + i * 3 + 2, none⟩) hb).trans (hc i hi).2.2⟩⟩

theorem ObjsAt.put {w : World} {a : Option Addr} {len : Nat} {l : Objs} (h : ObjsAt w a len l) {X : Nat} (hne : ∀ b off, a = some ⟨b, off, none⟩ → b ≠ X) (j : Nat) (v : Value) : ObjsAt (w.setCell ⟨X, j, none⟩ v) a len l := by
  refine ⟨h.length, h.max, h.keys, ?_⟩
  rcases h.src with h0 | ⟨b, off, ha, hb, hc⟩
  · exact .inl h0
  · have e : ∀ o, (w.setCell ⟨X, j, none⟩ v).cell? ⟨b, o, none⟩ = w.cell? ⟨b, o, none⟩ := fun o => by
      simp only [World.cell?, Below.heap_setCell w ⟨X, j, none⟩ v b (hne b off ha)]
    exact .inr ⟨b, off, ha, by simpa [World.setCell] using hb, fun i hi => by simpa only [e] using hc i hi⟩

def ObjSized1 (left : Int) (x0 : ByteArray) (x2 : ByteArray) (w : World) (e : Ending) (w' : World) : Prop :=
  ∃ x : Int, -1 ≤ x ∧ x ≤ left ∧ e = .returned (.int .i64 x) ∧ Below w.heap.size w w' ∧ (0 ≤ x → x0.size ≤ 1048576 ∧ x2.size ≤ 1048576)

def ObjSized (len : Nat) (l : Objs) (w : World) (e : Ending) (w' : World) : Prop :=
  ∃ x : Int, -1 ≤ x ∧ x ≤ 1048576 ∧ e = .returned (.int .i64 x) ∧ Below w.heap.size w w' ∧ (0 ≤ x → len ≤ 1048576 ∧ ∀ i, i < len → (obj0 l i).size ≤ 1048576 ∧ (obj2 l i).size ≤ 1048576)

theorem infoObj : (Tryz.prog.info? 34).map (fun i => (i.zero, i.size, i.bytes)) = some (some (.agg #[.string ByteArray.empty, .int .i64 0, .string ByteArray.empty]), 3, 40) := by kernel_rfl

def ObjLaid (cur : Array Value) (l : Objs) (k : Nat) : Prop := ∀ j, j < k → cur[j * 3]? = some (.string (obj0 l j)) ∧ cur[j * 3 + 1]? = some (.int .i64 (obj1 l j)) ∧ cur[j * 3 + 2]? = some (.string (obj2 l j))
theorem ObjLaid.step {cur : Array Value} {l : Objs} {k len : Nat} (h : ObjLaid cur l k) (hs : cur.size = len * 3) (hk : k < len) :
    ObjLaid (((cur.setIfInBounds (k * 3) (.string (obj0 l k))).setIfInBounds (k * 3 + 1) (.int .i64 (obj1 l k))).setIfInBounds (k * 3 + 2) (.string (obj2 l k))) l (k + 1) := by
  intro j hj
  rcases Nat.lt_or_ge j k with hlt | hge
  · obtain ⟨e0, e1, e2⟩ := h j hlt
    refine ⟨?_, ?_, ?_⟩
    · rw [Array.getElem?_setIfInBounds_ne (by omega), Array.getElem?_setIfInBounds_ne (by omega), Array.getElem?_setIfInBounds_ne (by omega)]; exact e0
    · rw [Array.getElem?_setIfInBounds_ne (by omega), Array.getElem?_setIfInBounds_ne (by omega), Array.getElem?_setIfInBounds_ne (by omega)]; exact e1
    · rw [Array.getElem?_setIfInBounds_ne (by omega), Array.getElem?_setIfInBounds_ne (by omega), Array.getElem?_setIfInBounds_ne (by omega)]; exact e2
  · obtain rfl : j = k := by omega
    refine ⟨?_, ?_, ?_⟩
    · rw [Array.getElem?_setIfInBounds_ne (by omega), Array.getElem?_setIfInBounds_ne (by omega)]; rw [Array.getElem?_setIfInBounds_self_of_lt (by first | omega | (simp only [Array.size_setIfInBounds]; omega))]
    · rw [Array.getElem?_setIfInBounds_ne (by omega)]; rw [Array.getElem?_setIfInBounds_self_of_lt (by first | omega | (simp only [Array.size_setIfInBounds]; omega))]
    · rw [Array.getElem?_setIfInBounds_self_of_lt (by first | omega | (simp only [Array.size_setIfInBounds]; omega))]

theorem ObjsAt.ofRow {w : World} {B len : Nat} {E : TypeId} {cur : Array Value} {l : Objs} (h : Row w B E cur) (hl : l.length = len) (hm : len ≤ maxLen) (hk : ∀ i, i < len → (obj0 l i).size ≤ maxLen ∧ (obj2 l i).size ≤ maxLen) (hlaid : ObjLaid cur l len) : ObjsAt w (some ⟨B, 0, none⟩) len l := by
  refine ⟨hl, hm, hk, .inr ⟨B, 0, rfl, h.lt, fun i hi => ?_⟩⟩
  obtain ⟨e0, e1, e2⟩ := hlaid i hi
  unfold Row at h
  simp [World.cell?, h, e0, e1, e2]

def MadeObj (x0 : ByteArray) (x1 : Int) (x2 : ByteArray) (w : World) (e : Ending) (w' : World) : Prop := e = .returned (.agg #[.string x0, .int .i64 x1, .string x2]) ∧ Below w.heap.size w w'

/-- The end of the laws' copy: a new slice of the same values. -/
def MadeObjs (len : Nat) (l : Objs) (w : World) (e : Ending) (w' : World) : Prop :=
  e = .returned (.slice (some ⟨w.heap.size, 0, none⟩) len len) ∧ ObjsAt w' (some ⟨w.heap.size, 0, none⟩) len l ∧ Below w.heap.size w w' ∧ ∃ cur, Row w' w.heap.size 34 cur ∧ cur.size = len * 3

end Go.Proofs.YtblpebdjbenphaaGreatDoor
namespace Go.Proofs.YtblpebdjbenphaaGreatDoor
open Go.ChangeShapes Go.WideShapes Go.ChangeAt Go.RowKit
set_option linter.unusedVariables false
set_option maxRecDepth 100000

end Go.Proofs.YtblpebdjbenphaaGreatDoor
