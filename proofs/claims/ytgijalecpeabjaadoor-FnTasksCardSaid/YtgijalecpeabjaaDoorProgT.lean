
/- The text of an instruction and of a program: what the program and its model write. Only new blocks are made. -/
import Derived.Test.YtgijalecpeabjaaDoorProgTM
import Derived.Test.YtgijalecpeabjaaDoorProgOk
import Derived.Test.YtgijalecpeabjaaDoorHeld
namespace Go.Proofs.YtgijalecpeabjaaDoor
open Go.ChangeShapes Go.WideShapes Go.ChangeAt Go.RowKit
set_option linter.unusedVariables false
set_option maxRecDepth 100000

def tabNm : Array Value := #[.string ⟨#[99, 97, 116]⟩, .string ⟨#[108, 101, 110]⟩, .string ⟨#[105, 110, 116]⟩, .string ⟨#[115, 116, 114]⟩, .string ⟨#[97, 100, 100]⟩, .string ⟨#[115, 117, 98]⟩, .string ⟨#[109, 117, 108]⟩, .string ⟨#[108, 101, 115, 115]⟩, .string ⟨#[115, 97, 109, 101]⟩, .string ⟨#[101, 109, 105, 116]⟩, .string ⟨#[101, 109, 105, 116, 105, 102]⟩]
theorem tabNm_at (x : Nat) (h : x < 11) : tabNm[x]? = some (.string (textB (x + 4))) := by
  rcases (by omega : x = 0 ∨ x = 1 ∨ x = 2 ∨ x = 3 ∨ x = 4 ∨ x = 5 ∨ x = 6 ∨ x = 7 ∨ x = 8 ∨ x = 9 ∨ x = 10) with rfl | rfl | rfl | rfl | rfl | rfl | rfl | rfl | rfl | rfl | rfl <;> rfl
def MadeNames (w : World) (e : Ending) (w' : World) : Prop := e = .returned (.slice (some ⟨w.heap.size, 0, none⟩) 11 11) ∧ (∀ x, x < 11 → w'.cell? ⟨w.heap.size, x, none⟩ = some (.string (textB (x + 4)))) ∧ Below w.heap.size w w'
set_option maxHeartbeats 1000000 in
theorem l3names_any (w : World) : Calls Tryd.prog 77 #[] w (MadeNames w) := by
  have HB := Lib.hid (below_alloc (Below.refl w.heap.size w) (.cells tabNm 9))
  have HR : Hid (Row (w.alloc (.cells tabNm 9)) w.heap.size 9 tabNm) := by
    have := heap_alloc_new w (.cells tabNm 9)
    exact Lib.hid (by simpa [Row] using this)
  go_enter Tryd.func77, Tryd.ntmps77
  go_wp2
  go_ret
  exact ⟨rfl, fun x hx => row_tab HR.out (tabNm_at x hx), HB.out⟩

theorem empty_app (s : ByteArray) : ByteArray.empty ++ s = s := by
  apply ByteArray.ext
  simp
theorem app_empty {s t : ByteArray} (h : t.size = 0) : s ++ t = s := by
  have : t = ByteArray.empty := ByteArray.ext (Array.eq_empty_of_size_eq_zero h)
  rw [this]
  apply ByteArray.ext
  simp

def MadeTxtP (s : ByteArray) (w : World) (e : Ending) (w' : World) : Prop := e = .returned (.string s) ∧ Below w.heap.size w w'

set_option maxHeartbeats 4000000 in
theorem l3text_any (op n : Int) (s : ByteArray) (w : World) (h : instrB op n s = true) (hn : In64 n) :
    Calls Tryd.prog 71 #[.agg #[.int .i64 op, .int .i64 n, .string s]] w (MadeTxtP (insTx op n s) w) := by
  have HB := Lib.hid (below_alloc (Below.refl w.heap.size w) (.cells #[.int .i64 op, .int .i64 n, .string s] 55))
  have HN := Lib.hid hn
  have hd : (decB n).size ≤ 20 := decB_size hn.1 (by have := hn.2; omega)
  have kd : ∀ w, (Op.stringOp .add (⟨#[102]⟩ : ByteArray) (decB n)).run Tryd.prog w = .ok (.string (⟨#[102]⟩ ++ decB n)) w := fun w => cat_runp _ _ 40 (by decide) (by omega)
  have kn : ∀ w, (Op.stringOp .add (⟨#[110]⟩ : ByteArray) (decB n)).run Tryd.prog w = .ok (.string (⟨#[110]⟩ ++ decB n)) w := fun w => cat_runp _ _ 40 (by decide) (by omega)
  clear hn
  rcases ins_ways h with ⟨rfl, h0⟩ | ⟨rfl, h0⟩ | ⟨rfl, h0⟩ | ⟨x, rfl, hx, h0⟩
  · clear h h0
    go_enter Tryd.func71, Tryd.ntmps71
    go_wp2_with fail
    refine (l1dec_any _ HN.out.1 (by have := HN.out.2; omega) _).mono ?_
    rintro e w2 ⟨rfl, hB⟩
    have HB := Lib.hid (below_via HB.out hB)
    clear hB
    go_wp2
    go_ret
    exact ⟨rfl, HB.out⟩
  · have ks : ∀ w, (Op.stringOp .add (⟨#[116, 58]⟩ : ByteArray) s).run Tryd.prog w = .ok (.string (⟨#[116, 58]⟩ ++ s)) w := fun w => cat_runp _ _ 40 (by decide) (by omega)
    clear h h0
    go_enter Tryd.func71, Tryd.ntmps71
    go_wp2
    go_ret
    exact ⟨rfl, HB.out⟩
  · clear h h0
    go_enter Tryd.func71, Tryd.ntmps71
    go_wp2_with fail
    refine (l1dec_any _ HN.out.1 (by have := HN.out.2; omega) _).mono ?_
    rintro e w2 ⟨rfl, hB⟩
    have HB := Lib.hid (below_via HB.out hB)
    clear hB
    go_wp2
    go_ret
    exact ⟨rfl, HB.out⟩
  · have HQ := Lib.hid (show insTx ((x : Int) + 4) n s = textB (x + 4) by
      unfold insTx
      rw [if_neg (by omega), if_neg (by omega), if_neg (by omega)]
      congr 1)
    have HX := Lib.hid (Row.new w 55 #[.int .i64 ((x : Int) + 4), .int .i64 n, .string s])
    rw [HQ.out]
    have e1 : ((x : Int) + 4 == 1) = false := by simp; omega
    have e2 : ((x : Int) + 4 == 2) = false := by simp; omega
    have e3 : ((x : Int) + 4 == 3) = false := by simp; omega
    have e : ((x : Int) + 4) - 4 = (x : Int) := by omega
    have i0 : (0 : Int) ≤ (x : Int) := by omega
    have i1 : (x : Int) < 11 := by omega
    have s0 : IntKind.i64.wrap (x : Int) = (x : Int) := IntWalk.i64_in _ (by omega)
    have s1 : IntKind.i64.wrap ((x : Int) + 4 - 4) = (x : Int) := (congrArg _ e).trans s0
    clear h h0 kd kn hd
    obtain ⟨W0, hW0⟩ : ∃ W0, w.alloc (.cells #[.int .i64 ((x : Int) + 4), .int .i64 n, .string s] 55) = W0 := ⟨_, rfl⟩
    have HW0 := Lib.hid hW0
    rw [hW0] at HB HX
    clear hW0
    go_enter Tryd.func71, Tryd.ntmps71
    go_wp2_with fail
    rw [HW0.out]
    refine wp_region_noPanic ?_
    refine wp_region_held_drew (S := (fun w' => Hid (Below w.heap.size w w' ∧ Row w' w.heap.size 55 #[.int .i64 ((x : Int) + 4), .int .i64 n, .string s]))) (by kernel_rfl) (Lib.hid ⟨HB.out.drew, HX.out.keep (Below.refl _ _).drew⟩) (fun HS => ?_)
    refine held_take (i := 1) (d := 23) (v := .pointer (some ⟨w.heap.size, 0, none⟩)) rfl rfl (by kernel_rfl) (by kernel_rfl) (by kernel_rfl) (by kernel_rfl) (fun wx hS => by go_simp) HS ?_
    refine held_take (i := 2) (d := 24) (v := .int .i64 ((x : Int) + 4)) rfl rfl (by kernel_rfl) (by kernel_rfl) (by kernel_rfl) (by kernel_rfl) (fun wx hS => by have k0 := row_tab (j := 0) hS.out.2 rfl; go_simp) HS ?_
    refine held_take (i := 3) (d := 25) (v := .int .i64 (x : Int)) rfl rfl (by kernel_rfl) (by kernel_rfl) (by kernel_rfl) (by kernel_rfl) (fun wx hS => by go_simp) HS ?_
    refine wpAnyH_ready (rs := [0]) (by kernel_rfl) (by simp) (AllReadyH.cons rfl (fun K hK => ?_) AllReadyH.nil)
    go_simp
    refine (l3names_any _).mono ?_
    rintro e w2 ⟨rfl, hc, hB⟩
    refine hK.out _ _ (Lib.hid ⟨below_via HS.out.1 hB, HS.out.2.keep hB⟩) (fun HS => ?_)
    clear hK K
    obtain ⟨B, hBe⟩ : ∃ B, W0.drew.heap.size = B := ⟨_, rfl⟩
    rw [hBe] at hc ⊢
    refine held_mono (S' := (fun w' => Hid (Below w.heap.size w w' ∧ Row w' w.heap.size 55 #[.int .i64 ((x : Int) + 4), .int .i64 n, .string s] ∧ ∀ x, x < 11 → w'.cell? ⟨B, x, none⟩ = some (.string (textB (x + 4)))))) (fun w' h => Lib.hid ⟨h.out.1, h.out.2.1⟩) ?_
    have HS := Lib.hid (show _ ∧ _ ∧ _ from ⟨HS.out.1, HS.out.2, hc⟩)
    refine held_take (i := 4) (d := 26) (v := .pointer (some ⟨B, x, none⟩)) rfl rfl (by kernel_rfl) (by kernel_rfl) (by kernel_rfl) (by kernel_rfl) (fun wx hS => by go_simp) HS ?_
    refine held_take (i := 5) (d := 27) (v := .string (textB (x + 4))) rfl rfl (by kernel_rfl) (by kernel_rfl) (by kernel_rfl) (by kernel_rfl) (fun wx hS => by have k0 := hS.out.2.2 x hx; go_simp) HS ?_
    refine held_take (i := 6) (d := 2) (v := .string (textB (x + 4))) rfl rfl (by kernel_rfl) (by kernel_rfl) (by kernel_rfl) (by kernel_rfl) (fun wx hS => by go_simp) HS ?_
    refine wpAnyH_done (by kernel_rfl) (NoPanic.normal ?_) _
    simp only [List.setIfInBounds_toArray, List.set_cons_zero, List.set_cons_succ]
    go_wp2
    go_ret
    exact ⟨rfl, HS.out.1⟩
end Go.Proofs.YtgijalecpeabjaaDoor
