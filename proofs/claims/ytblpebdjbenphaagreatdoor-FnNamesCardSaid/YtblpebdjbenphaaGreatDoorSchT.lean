
/- Where a key belongs in a row of texts in order (slices.BinarySearch). -/
import Derived.Test.YtblpebdjbenphaaGreatDoorInsT
import Derived.Test.YtblpebdjbenphaaGreatDoorMg9
namespace Go.Proofs.YtblpebdjbenphaaGreatDoor
open Go.ChangeShapes Go.WideShapes Go.ChangeAt Go.RowKit
set_option linter.unusedVariables false
set_option maxRecDepth 100000

theorem pos_below {K : Txts} {key : ByteArray} : ∀ {t : Nat}, t < posT K key → ltT (K.getD t key) key = true := by
  induction K with
  | nil => intro t h; simp [posT] at h
  | cons x r ih =>
    intro t h
    unfold posT at h ih
    rw [List.takeWhile_cons] at h
    cases hx : ltT x key with
    | false => rw [hx] at h; simp at h
    | true =>
      rw [hx] at h
      cases t with
      | zero => exact hx
      | succ t => exact ih (by simpa using h)
theorem pos_above {K : Txts} (hi : IncT K) {key : ByteArray} : ∀ {t : Nat}, posT K key ≤ t → ltT (K.getD t key) key = false := by
  induction K with
  | nil => intro t h; rw [List.getD_nil, ← Bool.not_eq_true, ltT_iff]; exact lt_irr _
  | cons x r ih =>
    intro t h
    have hi2 := inc_cons.1 hi
    cases hx : ltT x key with
    | true =>
      rw [pos_succ (ltT_iff.1 hx)] at h
      cases t with
      | zero => omega
      | succ t => exact ih hi2.2 (by omega)
    | false =>
      cases t with
      | zero => exact hx
      | succ t =>
        rw [List.getD_cons_succ, ← Bool.not_eq_true, ltT_iff]
        rw [← Bool.not_eq_true, ltT_iff] at hx
        intro hl
        rcases Nat.lt_or_ge t r.length with hr | hr
        · rw [List.getD_eq_getElem?_getD, List.getElem?_eq_getElem hr] at hl
          exact hx (List.lt_trans (hi2.1 _ (List.getElem_mem hr)) hl)
        · rw [List.getD_eq_getElem?_getD, List.getElem?_eq_none hr] at hl
          exact lt_irr _ hl

set_option maxHeartbeats 2000000 in
theorem search_any (base n cp : Nat) (q : Option Addr) (K : Txts) (key : ByteArray) (w : World) (h : w.ownsRow base 9 1 (.slice q n cp) n (K.map Value.string)) (hi : IncT K) (hn : n ≤ 2000) :
    Calls Tryz.prog 72 #[.slice q n cp, .string key] w fun e w' => ∃ b, e = .returned (.tuple #[.int .i64 (posT K key : Nat), .bool b]) ∧ ∃ k, w' = w.drewN k := by
  have hl : K.length = n := by have := h.1; simpa using this
  have hz : n = 0 → Calls Tryz.prog 72 #[.slice q n cp, .string key] w fun e w' => ∃ b, e = .returned (.tuple #[.int .i64 (posT K key : Nat), .bool b]) ∧ ∃ k, w' = w.drewN k := by
    rintro rfl
    have hcon := Any2.slices_BinarySearch_string_empty Tryz.laysNm226 q cp key w
    change Calls Tryz.prog 72 _ _ _ at hcon
    refine hcon.mono ?_
    rintro e w' ⟨rfl, rfl⟩
    have : K = [] := List.length_eq_zero_iff.1 hl
    subst this
    exact ⟨false, rfl, 0, rfl⟩
  rcases h.2 with ⟨h2, h3⟩ | ⟨g, cap, cur, hv, hg, hr, hc1, hc2, hcs, htk⟩
  · exact hz h3
  · simp only [Value.slice.injEq] at hv
    obtain ⟨rfl, -, rfl⟩ := hv
    have hrow : Row w g 9 cur := hr
    have hcell : ∀ j, j < n → w.cell? ⟨g, 0 + j, none⟩ = some (.string (K.getD j key)) := fun j hj => row_cells_at hrow (by
      have : (K.map Value.string)[j]? = some (.string (K.getD j key)) := by
        rw [List.getElem?_map, List.getD_eq_getElem?_getD, List.getElem?_eq_getElem (by omega)]; rfl
      rw [Nat.mul_one] at htk
      rw [← htk, List.getElem?_take, if_pos hj] at this
      exact this)
    have hcon := Any2.slices_BinarySearch_string Tryz.laysNm226 g 0 n cp (fun j => K.getD j key) key w (by omega) hcell
    change Calls Tryz.prog 72 _ _ _ at hcon
    refine hcon.mono ?_
    rintro e w' ⟨rfl, hq⟩
    have hpos : Lib.bsGo (fun t => Op.bytesLess (K.getD t key).toList key.toList) n 0 n = posT K key :=
      Lib.bsGo_spec _ (posT K key) (fun t ht => pos_below ht) (fun t ht => pos_above hi ht) n 0 n (by omega) (Nat.zero_le _) (by rw [← hl]; exact posT_le K key)
    rw [hpos]
    exact ⟨_, rfl, hq⟩
end Go.Proofs.YtblpebdjbenphaaGreatDoor
