
/- A table of texts that a row lists: what a walk reads of it. -/
import Derived.Test.YtgijalecpeabjaaDoorOwn
import Derived.Lib.LaidTab
import Derived.Stop.LaidErr
import Derived.KernelRfl
import Derived.Deep.Strs
namespace Go.Proofs.YtgijalecpeabjaaDoor
open Go.ChangeShapes Go.WideShapes Go.ChangeAt Go.RowKit
set_option linter.unusedVariables false
set_option maxRecDepth 100000

structure StrTab (w : World) (g : Nat) (ss : List ByteArray) : Prop where
  lt : g < w.heap.size
  cell : ∀ i (h : i < ss.length), w.cell? ⟨g, i, none⟩ = some (.string ss[i])
theorem StrTab.keep {w w' : World} {g : Nat} {ss : List ByteArray} (h : StrTab w g ss) (hB : Below w.heap.size w w') : StrTab w' g ss :=
  ⟨Nat.lt_of_lt_of_le h.lt hB.size, fun i hi => (hB.cell (p := ⟨g, i, none⟩) h.lt).trans (h.cell i hi)⟩
def strData {H : Type} (ss : List ByteArray) : DataW H := .agg (ss.map fun s => .lit (.string s.data.toList))
theorem tbytes_eq {s u : ByteArray} (h : s.data.toList = u.data.toList) : s = u := ByteArray.ext (Array.toList_inj.1 h)
theorem strCellsT : Tryd.prog.cellsOf 9 = 1 := by kernel_rfl
theorem strTab_of_head {W : World} {name : String} {ss : List ByteArray} {rest : List (String × DataW Unit)} {g : Nat} {t : TypeId} {n : Nat}
    (hg : Tryd.prog.globalNamed name = some g) (hty : (Tryd.prog.globals[g]?).map (·.type) = some t) (ht : Tryd.prog.underlying t = some (.array n 9)) (hct : Tryd.prog.cellsOf t = n) (h0 : 0 < ss.length)
    (h : laidMet Tryd.prog ((name, strData ss) :: rest) W) : StrTab W g ss := by
  obtain ⟨ps, ⟨g', t', cs, fuel, p, q, hg', ht', hvar, hd, _, _⟩, _⟩ := h
  obtain rfl := Option.some.inj (hg.symm.trans hg')
  obtain rfl := Option.some.inj (hty.symm.trans ht')
  have hcell := World.var?_cell hg hvar
  have hce := strCellsT
  have hall : ∀ i (hi : i < ss.length), cs[i]? = some (.string ss[i]) := by
    cases fuel with
    | zero => simp [DataW.trod] at hd
    | succ fuel =>
      simp only [DataW.trod, ht, hce, hct, Nat.mul_one] at hd
      split at hd
      · rename_i hl
        obtain ⟨xs, hm, hx⟩ := Option.map_eq_some_iff.1 hd
        have hxs : xs.map (·.1) = ss.map fun s => (DataW.lit (.string s.data.toList) : DataW Unit) := by
          have := congrArg Prod.fst hx
          simpa [strData] using this
        have hxl : xs.length = n := by simpa using Lib.mapM_length hm
        have hzl : ss.length = n := by
          have := congrArg List.length hxs
          simp at this
          omega
        intro i hi
        obtain ⟨b, hb, hf⟩ := Lib.mapM_at hm i i (by simp [show i < n by omega])
        obtain ⟨s, hc, hs, _⟩ := DataW.trod_string Tryd.underlying9 hf
        have h1 : cs[i]? = some (.string s) := by
          have := congrArg (·[0]?) hc
          simpa [List.getElem?_take, List.getElem?_drop] using this
        have h2 : (xs.map (·.1))[i]? = some b.1 := by simp [hb]
        rw [hxs, hs] at h2
        simp only [List.getElem?_map, List.getElem?_eq_getElem hi, Option.map_some, Option.some.injEq, DataW.lit.injEq, Lit.string.injEq] at h2
        rw [h1, tbytes_eq h2]
      · cases hd
  have hat : ∀ j v, cs[j]? = some v → W.cell? ⟨g, j, none⟩ = some v := fun j v hj => by
    rw [hcell j]; simpa using hj
  exact ⟨World.block_lt_of_cell? _ _ (hat 0 _ (hall 0 h0)), fun i hi => hat i _ (hall i hi)⟩
end Go.Proofs.YtgijalecpeabjaaDoor
