
/- What the rows of the laws on readers list, and the world's shape, give a walk: the table of the powers of ten; that the errors' variables hold errors; that the library's length is a number. -/
import Derived.Test.YtjofbeokkainlaaGreatDoorTabs
import Derived.Test.YtjofbeokkainlaaGreatDoorShelf
namespace Go.Proofs.YtjofbeokkainlaaGreatDoor
open Go.ChangeShapes Go.WideShapes Go.ChangeAt Go.RowKit Go.Joins

structure TabsR (w : World) : Prop where
  pow : Tabs w
  syn : ∃ te pe, w.cell? ⟨3, 0, none⟩ = some (.iface te pe)
  rng : ∃ te pe, w.cell? ⟨4, 0, none⟩ = some (.iface te pe)
  max : ∃ m, w.cell? ⟨1, 0, none⟩ = some (.int .i64 m)
theorem gSyn : Tryz.prog.globalNamed "strconv.ErrSyntax" = some 3 := by kernel_rfl
theorem gSynType : (Tryz.prog.globals[3]?).map (·.type) = some 186 := by kernel_rfl
theorem gRng : Tryz.prog.globalNamed "strconv.ErrRange" = some 4 := by kernel_rfl
theorem gRngType : (Tryz.prog.globals[4]?).map (·.type) = some 186 := by kernel_rfl
theorem cellsES : Tryz.prog.cellsOf 221 = 1 := by kernel_rfl
theorem cellsStr1 : Tryz.prog.cellsOf 9 = 1 := by kernel_rfl
theorem starES : "*" ++ "errors.errorString" = "*errors.errorString" := by decide
theorem rowES (u : TypeId) (h : Tryz.prog.typeName? 3 u = some "*errors.errorString") : u = 219 :=
  typeName_ptr_named (nm := "errors.errorString") (by rw [starES]; kernel_rfl) (by kernel_rfl) (by decide) u (by rw [starES]; exact h)
theorem TabsR.keep {w w' : World} (h : TabsR w) (hB : Below w.heap.size w w') : TabsR w' := by
  obtain ⟨te, pe, h1⟩ := h.syn
  obtain ⟨tf, pf, h2⟩ := h.rng
  obtain ⟨m, h3⟩ := h.max
  exact ⟨h.pow.keep hB, ⟨te, pe, (hB.cell (World.block_lt_of_cell? _ _ h1)).trans h1⟩, ⟨tf, pf, (hB.cell (World.block_lt_of_cell? _ _ h2)).trans h2⟩, ⟨m, (hB.cell (World.block_lt_of_cell? _ _ h3)).trans h3⟩⟩
end Go.Proofs.YtjofbeokkainlaaGreatDoor
