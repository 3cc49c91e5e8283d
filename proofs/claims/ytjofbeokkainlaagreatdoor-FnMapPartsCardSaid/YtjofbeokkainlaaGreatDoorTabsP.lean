
/- What the rows of the laws on programs list gives a walk: the table of the ops' forms. -/
import Derived.Test.YtjofbeokkainlaaGreatDoorMg2
import Derived.Lib.LaidTab
import Derived.Stop.LaidErr
import Derived.KernelRfl
import Derived.Deep.Strs
namespace Go.Proofs.YtjofbeokkainlaaGreatDoor
open Go.ChangeShapes Go.WideShapes Go.ChangeAt Go.RowKit
set_option linter.unusedVariables false
set_option maxRecDepth 100000

def textB : Nat → ByteArray
  | 1 => ⟨#[102]⟩ | 2 => ⟨#[116, 58]⟩ | 3 => ⟨#[110]⟩ | 4 => ⟨#[99, 97, 116]⟩ | 5 => ⟨#[108, 101, 110]⟩ | 6 => ⟨#[105, 110, 116]⟩ | 7 => ⟨#[115, 116, 114]⟩
  | 8 => ⟨#[97, 100, 100]⟩ | 9 => ⟨#[115, 117, 98]⟩ | 10 => ⟨#[109, 117, 108]⟩ | 11 => ⟨#[108, 101, 115, 115]⟩ | 12 => ⟨#[115, 97, 109, 101]⟩ | 13 => ⟨#[101, 109, 105, 116]⟩
  | 14 => ⟨#[101, 109, 105, 116, 105, 102]⟩ | _ => ByteArray.empty
def fieldB : Nat → ByteArray
  | 1 => ⟨#[78]⟩ | 2 => ⟨#[83]⟩ | 3 => ⟨#[78]⟩ | _ => ByteArray.empty
def formsD {H : Type} : List (DataW H) := (List.range 15).map fun x => .agg [.lit (.string (textB x).data.toList), .lit (.string (fieldB x).data.toList), .lit (.string (takesB x).data.toList), .lit (.string (givesB x).data.toList)]

structure TabsP (w : World) : Prop where
  lt : 0 < w.heap.size
  cell : ∀ x, x < 15 → w.cell? ⟨0, x * 4, none⟩ = some (.string (textB x)) ∧ w.cell? ⟨0, x * 4 + 1, none⟩ = some (.string (fieldB x)) ∧
    w.cell? ⟨0, x * 4 + 2, none⟩ = some (.string (takesB x)) ∧ w.cell? ⟨0, x * 4 + 3, none⟩ = some (.string (givesB x))
theorem TabsP.keep {w w' : World} (h : TabsP w) (hB : Below w.heap.size w w') : TabsP w' :=
  ⟨Nat.lt_of_lt_of_le h.lt hB.size, fun x hx => ⟨(hB.cell (p := ⟨_, x * 4, none⟩) h.lt).trans (h.cell x hx).1, (hB.cell (p := ⟨_, x * 4 + 1, none⟩) h.lt).trans (h.cell x hx).2.1,
    (hB.cell (p := ⟨_, x * 4 + 2, none⟩) h.lt).trans (h.cell x hx).2.2.1, (hB.cell (p := ⟨_, x * 4 + 3, none⟩) h.lt).trans (h.cell x hx).2.2.2⟩⟩

theorem gForms : Tryz.prog.globalNamed "loop.example/g00703/impl.opForms" = some 0 := by kernel_rfl
theorem gFormsType : (Tryz.prog.globals[0]?).map (·.type) = some 123 := by kernel_rfl
theorem formsCells : Tryz.prog.cellsOf 123 = 60 := by kernel_rfl
theorem formCells : Tryz.prog.cellsOf 122 = 4 := by kernel_rfl
theorem strCellsP : Tryz.prog.cellsOf 9 = 1 := by kernel_rfl
theorem forms_data {H : Type} : (Rows.laid_loop_example_g00703_impl_opForms : DataW H) = .agg formsD := by rfl

theorem bytes_eq {s u : ByteArray} (h : s.data.toList = u.data.toList) : s = u := ByteArray.ext (Array.toList_inj.1 h)

theorem form_read {H : Type} {enc : TypeId × Value → H} {w : World} {base : Nat} {sp : Nat → Bool} {held : Bool} {fuel : Nat} {cs : List Value} {a b c d : ByteArray} {p : List MemPlace}
    (h : DataW.trod enc Tryz.prog w base sp held fuel 122 cs = some (.agg [.lit (.string a.data.toList), .lit (.string b.data.toList), .lit (.string c.data.toList), .lit (.string d.data.toList)], p)) :
    cs = [.string a, .string b, .string c, .string d] := by
  obtain ⟨xs, n, _, hx, hl, hlen, hf⟩ := DataW.trod_struct Tryz.underlying122 h
  rw [formCells] at hl
  match xs, hlen, cs, hl with
  | [y0, y1, y2, y3], _, [c0, c1, c2, c3], _ =>
    have k : Tryz.prog.cellsOf 9 = 1 := strCellsP
    have h0 := hf 0 _ rfl
    have h1 := hf 1 _ rfl
    have h2 := hf 2 _ rfl
    have h3 := hf 3 _ rfl
    obtain ⟨s0, e0, f0, _⟩ := DataW.trod_string Tryz.underlying9 h0
    obtain ⟨s1, e1, f1, _⟩ := DataW.trod_string Tryz.underlying9 h1
    obtain ⟨s2, e2, f2, _⟩ := DataW.trod_string Tryz.underlying9 h2
    obtain ⟨s3, e3, f3, _⟩ := DataW.trod_string Tryz.underlying9 h3
    simp [k] at e0 e1 e2 e3 f0 f1 f2 f3
    simp [f0, f1, f2, f3] at hx
    obtain ⟨⟨g0, g1, g2, g3⟩, _⟩ := hx
    rw [e0, e1, e2, e3, bytes_eq (by simp [g0] : a.data.toList = s0.data.toList), bytes_eq (by simp [g1] : b.data.toList = s1.data.toList), bytes_eq (by simp [g2] : c.data.toList = s2.data.toList), bytes_eq (by simp [g3] : d.data.toList = s3.data.toList)]

theorem tabsp_of_head {W : World} {rest} (h : laidMet Tryz.prog (("loop.example/g00703/impl.opForms", Rows.laid_loop_example_g00703_impl_opForms) :: rest) W) : TabsP W := by
  obtain ⟨ps, ⟨g', t', cs, fuel, p, q, hg', ht', hvar, hd, _, _⟩, _⟩ := h
  obtain rfl := Option.some.inj (gForms.symm.trans hg')
  obtain rfl := Option.some.inj (gFormsType.symm.trans ht')
  rw [forms_data] at hd
  have hcell := World.var?_cell gForms hvar
  have hall : ∀ x, x < 15 → cs[x * 4]? = some (.string (textB x)) ∧ cs[x * 4 + 1]? = some (.string (fieldB x)) ∧ cs[x * 4 + 2]? = some (.string (takesB x)) ∧ cs[x * 4 + 3]? = some (.string (givesB x)) := by
    cases fuel with
    | zero => simp [DataW.trod] at hd
    | succ fuel =>
      simp only [DataW.trod, Tryz.underlying123, formCells, formsCells] at hd
      split at hd
      · rename_i hl
        obtain ⟨xs, hm, hx⟩ := Option.map_eq_some_iff.1 hd
        have hxs : xs.map (·.1) = (formsD : List (DataW Unit)) := by
          have := congrArg Prod.fst hx
          simpa using this
        intro x hlt
        obtain ⟨b, hb, hf⟩ := Lib.mapM_at hm x x (by simp [hlt])
        have h2 : (xs.map (·.1))[x]? = some b.1 := by simp [hb]
        rw [hxs] at h2
        simp only [formsD, List.getElem?_map, List.getElem?_range hlt, Option.map_some, Option.some.injEq] at h2
        obtain ⟨b1, b2⟩ := b
        simp only at h2
        subst h2
        have hcs := form_read hf
        have hget : ∀ j, j < 4 → cs[x * 4 + j]? = ((cs.toList.drop (x * 4)).take 4)[j]? := fun j hj => by
          rw [List.getElem?_take_of_lt hj, List.getElem?_drop, Array.getElem?_toList]
        simp only [hcs] at hget
        exact ⟨by simpa using hget 0 (by omega), by simpa using hget 1 (by omega), by simpa using hget 2 (by omega), by simpa using hget 3 (by omega)⟩
      · cases hd
  have hat : ∀ j v, cs[j]? = some v → W.cell? ⟨0, j, none⟩ = some v := fun j v hj => by
    rw [hcell j]; simpa using hj
  refine ⟨World.block_lt_of_cell? _ _ (hat 0 _ (hall 0 (by omega)).1), fun x hx => ⟨hat _ _ (hall x hx).1, hat _ _ (hall x hx).2.1, hat _ _ (hall x hx).2.2.1, hat _ _ (hall x hx).2.2.2⟩⟩
theorem tabsp_of {W : World} (h : laidMet Tryz.prog [("loop.example/g00703/impl.opForms", Rows.laid_loop_example_g00703_impl_opForms)] W) : TabsP W := tabsp_of_head h
end Go.Proofs.YtjofbeokkainlaaGreatDoor
