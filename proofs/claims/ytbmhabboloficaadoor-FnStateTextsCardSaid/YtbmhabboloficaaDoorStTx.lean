
/- The text of a state of a board: what the program and its model write. Only new blocks are made. -/
import Derived.Test.YtbmhabboloficaaDoorClaim
import Derived.Test.YtbmhabboloficaaDoorMark
import Derived.Test.YtbmhabboloficaaDoorTabsW
namespace Go.Proofs.YtbmhabboloficaaDoor
open Go.ChangeShapes Go.WideShapes Go.ChangeAt Go.RowKit
set_option linter.unusedVariables false
set_option maxRecDepth 100000

theorem cell_keep {w w' : World} {p : Addr} {v : Value} (hB : Below w.heap.size w w') (h : w.cell? p = some v) : w'.cell? p = some v := (hB.cell (World.block_lt_of_cell? _ _ h)).trans h
theorem cell_alloc {w : World} {p : Addr} {v : Value} (o : Obj) (h : w.cell? p = some v) : (w.alloc o).cell? p = some v := cell_keep (below_alloc (Below.refl _ _) o) h

theorem nums_drew {w : World} {B : Nat} (t : TypeId) {ns : List Int} (h : ∀ n ∈ ns, In64 n) (hB : w.heap.size = B) : Nums (w.alloc (.cells (ns.map fun n => Value.int .i64 n).toArray t)).drew B ns := by
  subst hB
  exact (nums_new w t ns h).keep (Below.refl _ _).drew

def stW (k : Int) : ByteArray := if k = 1 then ⟨#[102, 114, 101, 101]⟩ else if k = 2 then ⟨#[116, 97, 107, 101, 110]⟩ else if k = 3 then ⟨#[100, 111, 110, 101]⟩ else ⟨#[102, 97, 105, 108, 101, 100]⟩
def stateTx (k e v : Int) : ByteArray :=
  if inB k 1 4 then (if k = 1 then stW k ++ ⟨#[32]⟩ ++ decB e else stW k ++ ⟨#[32]⟩ ++ decB e ++ ⟨#[32]⟩ ++ decB v) else ByteArray.empty
theorem join1 (e : Int) : joinB ⟨#[32]⟩ [e] = decB e := by
  apply ba_eq
  simp [joinB, Lib.join, List.intercalate, decB]
theorem state_1 (e v : Int) : (⟨#[102, 114, 101, 101]⟩ ++ ⟨#[32]⟩ ++ joinB ⟨#[32]⟩ [e] : ByteArray) = stateTx 1 e v := by
  rw [join1]; rfl
theorem state_n {k : Int} (e v : Int) (hk : inB k 1 4 = true) (h1 : k ≠ 1) : (stW k ++ ⟨#[32]⟩ ++ joinB ⟨#[32]⟩ [e, v] : ByteArray) = stateTx k e v := by
  unfold stateTx
  rw [if_pos hk, if_neg h1, join2]
  apply ba_eq
  simp
theorem join2_size20 {e k : Int} (ze : (decB e).size ≤ 20) (zk : (decB k).size ≤ 20) : (joinB ⟨#[32]⟩ [e, k]).size ≤ 41 := join2_size ze zk
theorem state_out {k e v : Int} (h : inB k 1 4 = false) : stateTx k e v = ByteArray.empty := by unfold stateTx; rw [h]; rfl

set_option maxHeartbeats 4000000 in
theorem statetext_1 (e v : Int) (w : World) (he : In64 e) (hv : In64 v) (hT : TabsSt w) : Calls Tryd.prog 32 #[.agg #[.int .i64 1, .int .i64 e, .int .i64 v]] w (MadeTx (stateTx 1 e v) w) := by
  have HK := Lib.hid (show inB 1 1 4 = true by decide)
  have ze := @decB_size e he.1 (by have := he.2; omega)
  have zv := @decB_size v hv.1 (by have := hv.2; omega)
  have HI : Hid (∀ n ∈ [e], In64 n) := Lib.hid (by intro n hn; simp at hn; subst hn; exact he)
  have HB := Lib.hid (below_alloc (Below.refl w.heap.size w) (.cells #[.int .i64 1, .int .i64 e, .int .i64 v] 45))
  have HT := Lib.hid (hT.keep HB.out)
  have y0 : (w.alloc (.cells #[.int .i64 1, .int .i64 e, .int .i64 v] 45)).cell? ⟨w.heap.size, 0, none⟩ = some (.int .i64 1) := by simp
  have y1 : (w.alloc (.cells #[.int .i64 1, .int .i64 e, .int .i64 v] 45)).cell? ⟨w.heap.size, 1, none⟩ = some (.int .i64 e) := by simp
  have y2 : (w.alloc (.cells #[.int .i64 1, .int .i64 e, .int .i64 v] 45)).cell? ⟨w.heap.size, 2, none⟩ = some (.int .i64 v) := by simp
  have HR := Lib.hid (state_1 e v)
  have t0 : (w.alloc (.cells #[.int .i64 1, .int .i64 e, .int .i64 v] 45)).cell? ⟨1, 1, none⟩ = some (.string ⟨#[102, 114, 101, 101]⟩) := HT.out.words.cell 1 (by decide)
  have zj : (joinB ⟨#[32]⟩ [e]).size ≤ 41 := (by rw [join1]; omega)
  have k1 : ∀ w, (Op.stringOp .add ((⟨#[102, 114, 101, 101]⟩ : ByteArray) ++ ⟨#[32]⟩) (joinB ⟨#[32]⟩ [e])).run Tryd.prog w = .ok (.string (⟨#[102, 114, 101, 101]⟩ ++ ⟨#[32]⟩ ++ joinB ⟨#[32]⟩ [e])) w := fun w => cat_run _ _ 41 (by decide) zj
  have HB1 := Lib.hid (below_alloc HB.out (.cells #[.int .i64 e] 2)).drew
  have HT1 := Lib.hid (HT.out.keep (below_alloc (Below.refl _ _) (.cells #[.int .i64 e] 2)).drew)
  have HN := Lib.hid (nums_drew (w := w.alloc (.cells #[.int .i64 1, .int .i64 e, .int .i64 v] 45)) (B := w.heap.size + 1) 2 HI.out (by simp))
  have HB0 := Lib.hid HB.out.drew
  clear hT he hv zv ze
  go_enter Tryd.func32, Tryd.ntmps32
  go_wp2_with (go_at_call 72; refine (within_any _ _ _ _).mono ?_; rw [HK.out]; rintro x w1 ⟨rfl, rfl⟩)
  go_region_held3 (fun w' => Hid (Below w.heap.size w w') ∧ w'.cell? ⟨w.heap.size, 0, none⟩ = some (.int .i64 1) ∧ w'.cell? ⟨w.heap.size, 1, none⟩ = some (.int .i64 e) ∧ w'.cell? ⟨w.heap.size, 2, none⟩ = some (.int .i64 v) ∧ w'.cell? ⟨1, 1, none⟩ = some (.string ⟨#[102, 114, 101, 101]⟩))
    (first | exact ⟨HB0, y0, y1, y2, t0⟩ | exact ⟨HB1, cell_alloc _ y0, cell_alloc _ y1, cell_alloc _ y2, cell_alloc _ t0⟩ | exact ⟨HB2, z0, z1, z2, u0⟩)
    ((go_at_call 59; refine (decimals_any ⟨#[32]⟩ _ 1 [e] _ (by decide) (by simp) (by simp) HN.out HT1.out.pow).mono ?_; rintro x w2 ⟨rfl, hB⟩; have HB2 := Lib.hid (below_via HB1.out hB); have z0 := cell_keep hB (cell_alloc _ y0); have z1 := cell_keep hB (cell_alloc _ y1); have z2 := cell_keep hB (cell_alloc _ y2); have u0 := cell_keep hB (cell_alloc _ t0); clear hB))
  go_wp2
  go_ret
  exact ⟨congrArg (fun s => Ending.returned (.string s)) HR.out, HB2.out⟩

set_option maxHeartbeats 4000000 in
theorem statetext_2 (e v : Int) (w : World) (he : In64 e) (hv : In64 v) (hT : TabsSt w) : Calls Tryd.prog 32 #[.agg #[.int .i64 2, .int .i64 e, .int .i64 v]] w (MadeTx (stateTx 2 e v) w) := by
  have HK := Lib.hid (show inB 2 1 4 = true by decide)
  have ze := @decB_size e he.1 (by have := he.2; omega)
  have zv := @decB_size v hv.1 (by have := hv.2; omega)
  have HI : Hid (∀ n ∈ [e, v], In64 n) := Lib.hid (by intro n hn; simp at hn; rcases hn with rfl | rfl; exact he; exact hv)
  have HB := Lib.hid (below_alloc (Below.refl w.heap.size w) (.cells #[.int .i64 2, .int .i64 e, .int .i64 v] 45))
  have HT := Lib.hid (hT.keep HB.out)
  have y0 : (w.alloc (.cells #[.int .i64 2, .int .i64 e, .int .i64 v] 45)).cell? ⟨w.heap.size, 0, none⟩ = some (.int .i64 2) := by simp
  have y1 : (w.alloc (.cells #[.int .i64 2, .int .i64 e, .int .i64 v] 45)).cell? ⟨w.heap.size, 1, none⟩ = some (.int .i64 e) := by simp
  have y2 : (w.alloc (.cells #[.int .i64 2, .int .i64 e, .int .i64 v] 45)).cell? ⟨w.heap.size, 2, none⟩ = some (.int .i64 v) := by simp
  have HR := Lib.hid ((show (⟨#[116, 97, 107, 101, 110]⟩ ++ ⟨#[32]⟩ ++ joinB ⟨#[32]⟩ [e, v] : ByteArray) = stateTx 2 e v from state_n (k := 2) e v (by decide) (by decide)))
  have t0 : (w.alloc (.cells #[.int .i64 2, .int .i64 e, .int .i64 v] 45)).cell? ⟨1, 2, none⟩ = some (.string ⟨#[116, 97, 107, 101, 110]⟩) := HT.out.words.cell 2 (by decide)
  have zj : (joinB ⟨#[32]⟩ [e, v]).size ≤ 41 := join2_size ze zv
  have k1 : ∀ w, (Op.stringOp .add ((⟨#[116, 97, 107, 101, 110]⟩ : ByteArray) ++ ⟨#[32]⟩) (joinB ⟨#[32]⟩ [e, v])).run Tryd.prog w = .ok (.string (⟨#[116, 97, 107, 101, 110]⟩ ++ ⟨#[32]⟩ ++ joinB ⟨#[32]⟩ [e, v])) w := fun w => cat_run _ _ 41 (by decide) zj
  have HB1 := Lib.hid (below_alloc HB.out (.cells #[.int .i64 e, .int .i64 v] 2)).drew
  have HT1 := Lib.hid (HT.out.keep (below_alloc (Below.refl _ _) (.cells #[.int .i64 e, .int .i64 v] 2)).drew)
  have HN := Lib.hid (nums_drew (w := w.alloc (.cells #[.int .i64 2, .int .i64 e, .int .i64 v] 45)) (B := w.heap.size + 1) 2 HI.out (by simp))
  have HB0 := Lib.hid HB.out.drew
  clear hT he hv zv ze
  go_enter Tryd.func32, Tryd.ntmps32
  go_wp2_with (go_at_call 72; refine (within_any _ _ _ _).mono ?_; rw [HK.out]; rintro x w1 ⟨rfl, rfl⟩)
  go_region_held3 (fun w' => Hid (Below w.heap.size w w') ∧ w'.cell? ⟨w.heap.size, 0, none⟩ = some (.int .i64 2) ∧ w'.cell? ⟨w.heap.size, 1, none⟩ = some (.int .i64 e) ∧ w'.cell? ⟨w.heap.size, 2, none⟩ = some (.int .i64 v) ∧ w'.cell? ⟨1, 2, none⟩ = some (.string ⟨#[116, 97, 107, 101, 110]⟩))
    (first | exact ⟨HB0, y0, y1, y2, t0⟩ | exact ⟨HB1, cell_alloc _ y0, cell_alloc _ y1, cell_alloc _ y2, cell_alloc _ t0⟩ | exact ⟨HB2, z0, z1, z2, u0⟩)
    ((go_at_call 59; refine (decimals_any ⟨#[32]⟩ _ 2 [e, v] _ (by decide) (by simp) (by simp) HN.out HT1.out.pow).mono ?_; rintro x w2 ⟨rfl, hB⟩; have HB2 := Lib.hid (below_via HB1.out hB); have z0 := cell_keep hB (cell_alloc _ y0); have z1 := cell_keep hB (cell_alloc _ y1); have z2 := cell_keep hB (cell_alloc _ y2); have u0 := cell_keep hB (cell_alloc _ t0); clear hB))
  go_wp2
  go_ret
  exact ⟨congrArg (fun s => Ending.returned (.string s)) HR.out, HB2.out⟩

set_option maxHeartbeats 4000000 in
theorem statetext_3 (e v : Int) (w : World) (he : In64 e) (hv : In64 v) (hT : TabsSt w) : Calls Tryd.prog 32 #[.agg #[.int .i64 3, .int .i64 e, .int .i64 v]] w (MadeTx (stateTx 3 e v) w) := by
  have HK := Lib.hid (show inB 3 1 4 = true by decide)
  have ze := @decB_size e he.1 (by have := he.2; omega)
  have zv := @decB_size v hv.1 (by have := hv.2; omega)
  have HI : Hid (∀ n ∈ [e, v], In64 n) := Lib.hid (by intro n hn; simp at hn; rcases hn with rfl | rfl; exact he; exact hv)
  have HB := Lib.hid (below_alloc (Below.refl w.heap.size w) (.cells #[.int .i64 3, .int .i64 e, .int .i64 v] 45))
  have HT := Lib.hid (hT.keep HB.out)
  have y0 : (w.alloc (.cells #[.int .i64 3, .int .i64 e, .int .i64 v] 45)).cell? ⟨w.heap.size, 0, none⟩ = some (.int .i64 3) := by simp
  have y1 : (w.alloc (.cells #[.int .i64 3, .int .i64 e, .int .i64 v] 45)).cell? ⟨w.heap.size, 1, none⟩ = some (.int .i64 e) := by simp
  have y2 : (w.alloc (.cells #[.int .i64 3, .int .i64 e, .int .i64 v] 45)).cell? ⟨w.heap.size, 2, none⟩ = some (.int .i64 v) := by simp
  have HR := Lib.hid ((show (⟨#[100, 111, 110, 101]⟩ ++ ⟨#[32]⟩ ++ joinB ⟨#[32]⟩ [e, v] : ByteArray) = stateTx 3 e v from state_n (k := 3) e v (by decide) (by decide)))
  have t0 : (w.alloc (.cells #[.int .i64 3, .int .i64 e, .int .i64 v] 45)).cell? ⟨1, 3, none⟩ = some (.string ⟨#[100, 111, 110, 101]⟩) := HT.out.words.cell 3 (by decide)
  have zj : (joinB ⟨#[32]⟩ [e, v]).size ≤ 41 := join2_size ze zv
  have k1 : ∀ w, (Op.stringOp .add ((⟨#[100, 111, 110, 101]⟩ : ByteArray) ++ ⟨#[32]⟩) (joinB ⟨#[32]⟩ [e, v])).run Tryd.prog w = .ok (.string (⟨#[100, 111, 110, 101]⟩ ++ ⟨#[32]⟩ ++ joinB ⟨#[32]⟩ [e, v])) w := fun w => cat_run _ _ 41 (by decide) zj
  have HB1 := Lib.hid (below_alloc HB.out (.cells #[.int .i64 e, .int .i64 v] 2)).drew
  have HT1 := Lib.hid (HT.out.keep (below_alloc (Below.refl _ _) (.cells #[.int .i64 e, .int .i64 v] 2)).drew)
  have HN := Lib.hid (nums_drew (w := w.alloc (.cells #[.int .i64 3, .int .i64 e, .int .i64 v] 45)) (B := w.heap.size + 1) 2 HI.out (by simp))
  have HB0 := Lib.hid HB.out.drew
  clear hT he hv zv ze
  go_enter Tryd.func32, Tryd.ntmps32
  go_wp2_with (go_at_call 72; refine (within_any _ _ _ _).mono ?_; rw [HK.out]; rintro x w1 ⟨rfl, rfl⟩)
  go_region_held3 (fun w' => Hid (Below w.heap.size w w') ∧ w'.cell? ⟨w.heap.size, 0, none⟩ = some (.int .i64 3) ∧ w'.cell? ⟨w.heap.size, 1, none⟩ = some (.int .i64 e) ∧ w'.cell? ⟨w.heap.size, 2, none⟩ = some (.int .i64 v) ∧ w'.cell? ⟨1, 3, none⟩ = some (.string ⟨#[100, 111, 110, 101]⟩))
    (first | exact ⟨HB0, y0, y1, y2, t0⟩ | exact ⟨HB1, cell_alloc _ y0, cell_alloc _ y1, cell_alloc _ y2, cell_alloc _ t0⟩ | exact ⟨HB2, z0, z1, z2, u0⟩)
    ((go_at_call 59; refine (decimals_any ⟨#[32]⟩ _ 2 [e, v] _ (by decide) (by simp) (by simp) HN.out HT1.out.pow).mono ?_; rintro x w2 ⟨rfl, hB⟩; have HB2 := Lib.hid (below_via HB1.out hB); have z0 := cell_keep hB (cell_alloc _ y0); have z1 := cell_keep hB (cell_alloc _ y1); have z2 := cell_keep hB (cell_alloc _ y2); have u0 := cell_keep hB (cell_alloc _ t0); clear hB))
  go_wp2
  go_ret
  exact ⟨congrArg (fun s => Ending.returned (.string s)) HR.out, HB2.out⟩

set_option maxHeartbeats 4000000 in
theorem statetext_4 (e v : Int) (w : World) (he : In64 e) (hv : In64 v) (hT : TabsSt w) : Calls Tryd.prog 32 #[.agg #[.int .i64 4, .int .i64 e, .int .i64 v]] w (MadeTx (stateTx 4 e v) w) := by
  have HK := Lib.hid (show inB 4 1 4 = true by decide)
  have ze := @decB_size e he.1 (by have := he.2; omega)
  have zv := @decB_size v hv.1 (by have := hv.2; omega)
  have HI : Hid (∀ n ∈ [e, v], In64 n) := Lib.hid (by intro n hn; simp at hn; rcases hn with rfl | rfl; exact he; exact hv)
  have HB := Lib.hid (below_alloc (Below.refl w.heap.size w) (.cells #[.int .i64 4, .int .i64 e, .int .i64 v] 45))
  have HT := Lib.hid (hT.keep HB.out)
  have y0 : (w.alloc (.cells #[.int .i64 4, .int .i64 e, .int .i64 v] 45)).cell? ⟨w.heap.size, 0, none⟩ = some (.int .i64 4) := by simp
  have y1 : (w.alloc (.cells #[.int .i64 4, .int .i64 e, .int .i64 v] 45)).cell? ⟨w.heap.size, 1, none⟩ = some (.int .i64 e) := by simp
  have y2 : (w.alloc (.cells #[.int .i64 4, .int .i64 e, .int .i64 v] 45)).cell? ⟨w.heap.size, 2, none⟩ = some (.int .i64 v) := by simp
  have HR := Lib.hid ((show (⟨#[102, 97, 105, 108, 101, 100]⟩ ++ ⟨#[32]⟩ ++ joinB ⟨#[32]⟩ [e, v] : ByteArray) = stateTx 4 e v from state_n (k := 4) e v (by decide) (by decide)))
  have t0 : (w.alloc (.cells #[.int .i64 4, .int .i64 e, .int .i64 v] 45)).cell? ⟨1, 4, none⟩ = some (.string ⟨#[102, 97, 105, 108, 101, 100]⟩) := HT.out.words.cell 4 (by decide)
  have zj : (joinB ⟨#[32]⟩ [e, v]).size ≤ 41 := join2_size ze zv
  have k1 : ∀ w, (Op.stringOp .add ((⟨#[102, 97, 105, 108, 101, 100]⟩ : ByteArray) ++ ⟨#[32]⟩) (joinB ⟨#[32]⟩ [e, v])).run Tryd.prog w = .ok (.string (⟨#[102, 97, 105, 108, 101, 100]⟩ ++ ⟨#[32]⟩ ++ joinB ⟨#[32]⟩ [e, v])) w := fun w => cat_run _ _ 41 (by decide) zj
  have HB1 := Lib.hid (below_alloc HB.out (.cells #[.int .i64 e, .int .i64 v] 2)).drew
  have HT1 := Lib.hid (HT.out.keep (below_alloc (Below.refl _ _) (.cells #[.int .i64 e, .int .i64 v] 2)).drew)
  have HN := Lib.hid (nums_drew (w := w.alloc (.cells #[.int .i64 4, .int .i64 e, .int .i64 v] 45)) (B := w.heap.size + 1) 2 HI.out (by simp))
  have HB0 := Lib.hid HB.out.drew
  clear hT he hv zv ze
  go_enter Tryd.func32, Tryd.ntmps32
  go_wp2_with (go_at_call 72; refine (within_any _ _ _ _).mono ?_; rw [HK.out]; rintro x w1 ⟨rfl, rfl⟩)
  go_region_held3 (fun w' => Hid (Below w.heap.size w w') ∧ w'.cell? ⟨w.heap.size, 0, none⟩ = some (.int .i64 4) ∧ w'.cell? ⟨w.heap.size, 1, none⟩ = some (.int .i64 e) ∧ w'.cell? ⟨w.heap.size, 2, none⟩ = some (.int .i64 v) ∧ w'.cell? ⟨1, 4, none⟩ = some (.string ⟨#[102, 97, 105, 108, 101, 100]⟩))
    (first | exact ⟨HB0, y0, y1, y2, t0⟩ | exact ⟨HB1, cell_alloc _ y0, cell_alloc _ y1, cell_alloc _ y2, cell_alloc _ t0⟩ | exact ⟨HB2, z0, z1, z2, u0⟩)
    ((go_at_call 59; refine (decimals_any ⟨#[32]⟩ _ 2 [e, v] _ (by decide) (by simp) (by simp) HN.out HT1.out.pow).mono ?_; rintro x w2 ⟨rfl, hB⟩; have HB2 := Lib.hid (below_via HB1.out hB); have z0 := cell_keep hB (cell_alloc _ y0); have z1 := cell_keep hB (cell_alloc _ y1); have z2 := cell_keep hB (cell_alloc _ y2); have u0 := cell_keep hB (cell_alloc _ t0); clear hB))
  go_wp2
  go_ret
  exact ⟨congrArg (fun s => Ending.returned (.string s)) HR.out, HB2.out⟩

set_option maxHeartbeats 1000000 in
theorem statetext_any (k e v : Int) (w : World) (he : In64 e) (hv : In64 v) (hT : TabsSt w) : Calls Tryd.prog 32 #[.agg #[.int .i64 k, .int .i64 e, .int .i64 v]] w (MadeTx (stateTx k e v) w) := by
  cases hk : inB k 1 4 with
  | false =>
    have HK := Lib.hid hk
    have HR := Lib.hid (state_out (e := e) (v := v) hk)
    clear hk hT
    go_enter Tryd.func32, Tryd.ntmps32
    go_wp2_with (go_at_call 72; refine (within_any _ _ _ _).mono ?_; rw [HK.out]; rintro x w1 ⟨rfl, rfl⟩)
    go_ret
    exact ⟨congrArg (fun s => Ending.returned (.string s)) HR.out.symm, below_alloc (Below.refl _ _) _⟩
  | true =>
    have hk2 := inB_iff.1 hk
    have h4 : k = 1 ∨ k = 2 ∨ k = 3 ∨ k = 4 := by omega
    rcases h4 with rfl | rfl | rfl | rfl
    · exact statetext_1 e v w he hv hT
    · exact statetext_2 e v w he hv hT
    · exact statetext_3 e v w he hv hT
    · exact statetext_4 e v w he hv hT
end Go.Proofs.YtbmhabboloficaaDoor
