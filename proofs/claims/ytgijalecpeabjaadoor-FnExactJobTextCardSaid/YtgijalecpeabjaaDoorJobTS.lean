
/- The text of a job: what the model writes, whole. Only new blocks are made. -/
import Derived.Test.YtgijalecpeabjaaDoorJobTP
namespace Go.Proofs.YtgijalecpeabjaaDoor
open Go.ChangeShapes Go.WideShapes Go.ChangeAt Go.RowKit
set_option linter.unusedVariables false
set_option maxRecDepth 100000

def tabOp : Array Value := #[.string ⟨#[115, 117, 109]⟩, .string ⟨#[109, 105, 110]⟩, .string ⟨#[109, 97, 120]⟩, .string ⟨#[99, 111, 117, 110, 116]⟩]
theorem tabOp_at (x : Nat) (h : x < 4) : tabOp[x]? = some (.string (opW (x + 1))) := by
  rcases (by omega : x = 0 ∨ x = 1 ∨ x = 2 ∨ x = 3) with rfl | rfl | rfl | rfl <;> rfl
def MadeOps (w : World) (e : Ending) (w' : World) : Prop := e = .returned (.slice (some ⟨w.heap.size, 0, none⟩) 4 4) ∧ (∀ x, x < 4 → w'.cell? ⟨w.heap.size, x, none⟩ = some (.string (opW (x + 1)))) ∧ Below w.heap.size w w'
set_option maxHeartbeats 1000000 in
theorem l5ops_any (w : World) : Calls Tryd.prog 64 #[] w (MadeOps w) := by
  have HB := Lib.hid (below_alloc (Below.refl w.heap.size w) (.cells tabOp 9))
  have HR : Hid (Row (w.alloc (.cells tabOp 9)) w.heap.size 9 tabOp) := by
    have := heap_alloc_new w (.cells tabOp 9)
    exact Lib.hid (by simpa [Row] using this)
  go_enter Tryd.func64, Tryd.ntmps64
  go_wp2
  go_ret
  exact ⟨rfl, fun x hx => row_tab HR.out (tabOp_at x hx), HB.out⟩
theorem head_same (k : Nat) (n : Int) (e : Bool) : headTx k n e = ((((⟨#[106, 111, 98, 32]⟩ ++ opW k) ++ ⟨#[32]⟩) ++ decB n) ++ (if e then ⟨#[32, 101, 97, 99, 104, 10]⟩ else ⟨#[32, 108, 105, 110, 101, 10]⟩)) := by
  apply ba_eq
  cases e <;> simp [headTx, scopeB]
theorem split_same (T t : ByteArray) : (((T ++ ⟨#[115, 112, 108, 105, 116, 32]⟩) ++ decB (cntB t)) ++ ⟨#[10]⟩) ++ t = T ++ splitTx t := by
  apply ba_eq
  simp [splitTx]

set_option maxHeartbeats 8000000 in
theorem sjobtext_any (p s : Option Addr) (pl pc sl sc : Nat) (e1 : Bool) (o1 n1 : Int) (l : Instrs) (m : Strs) (w : World) (h : JobAt w p pl l s sl m) (hsz : ∀ i, i < sl → (strAt m i).size ≤ 1048576) (hn : ∀ i, i < pl → In64 (ins1 l i)) :
    Calls Tryd.prog 31 #[.agg #[.slice p pl pc, .bool e1, .int .i64 o1, .int .i64 n1, .slice s sl sc]] w (MadeTxtP (jobTx l e1 o1 n1 m sl) w) := by
  have HB := Lib.hid (below_alloc (Below.refl w.heap.size w) (.cells #[.slice p pl pc, .bool e1, .int .i64 o1, .int .i64 n1, .slice s sl sc] 44))
  have HX := Lib.hid (row_new w #[.slice p pl pc, .bool e1, .int .i64 o1, .int .i64 n1, .slice s sl sc] 44)
  have HS := Lib.hid (h.keep HB.out)
  have HZ := Lib.hid hsz
  have HN := Lib.hid hn
  have HL := Lib.hid h.i.length
  obtain ⟨q, hq⟩ : ∃ q, jobB l o1 n1 m sl = q := ⟨_, rfl⟩
  have HQ := Lib.hid hq
  clear h hsz hn hq
  go_enter Tryd.func31, Tryd.ntmps31
  go_wp2_with fail
  refine (sjobok_any _ _ _ _ _ _ _ _ _ l m _ HS.out HZ.out).mono ?_
  rw [HQ.out]
  rintro e w2 ⟨rfl, hB⟩
  have HX9 := Lib.hid (HX.out.keep hB)
  have HS9 := Lib.hid (HS.out.keep hB)
  have HB9 := Lib.hid (below_via HB.out hB)
  clear hB
  cases q
  · have HP := Lib.hid (show jobTx l e1 o1 n1 m sl = ByteArray.empty by unfold jobTx; rw [HQ.out]; rfl)
    go_wp2
    go_ret
    exact ⟨congrArg (fun s => Ending.returned (.string s)) HP.out.symm, HB9.out⟩
  obtain ⟨hpq, ⟨ho1, ho4⟩, ⟨hn1, hn3⟩, ⟨hs1, hs4⟩, hall⟩ := job_parts HQ.out
  have HQ9 := HQ
  clear HQ
  obtain ⟨y, rfl⟩ : ∃ y : Nat, o1 = (y : Int) + 1 := ⟨(o1 - 1).toNat, by omega⟩
  obtain ⟨z1, z2, z3, z4⟩ := jobHd_size (k := y + 1) (e := e1) hpq (by rw [HL.out]; exact HN.out) hn1 hn3
  have HJ := Lib.hid (show jobTx l e1 ((y : Int) + 1) n1 m sl = jobTo (jobHd l (y + 1) n1 e1) m sl by unfold jobTx; rw [HQ9.out]; rfl)
  have HALL := Lib.hid hall
  have HPQ := Lib.hid hpq
  have hy : y < 4 := by omega
  have HHD := Lib.hid (show jobHd l (y + 1) n1 e1 = (headTx (y + 1) n1 e1 ++ progTo l pl) ++ ⟨#[10]⟩ from by rw [← HL.out]; rfl)
  rw [HL.out] at z2 z3
  have hNV : In64 n1 := ⟨by omega, by omega⟩
  have HNV := Lib.hid hNV
  have hd : (decB n1).size ≤ 20 := decB_size hNV.1 (by omega)
  have hX := opW_few (y + 1)
  have e : ((y : Int) + 1) - 1 = (y : Int) := by omega
  have i0 : (0 : Int) ≤ (y : Int) := by omega
  have i1 : (y : Int) < 4 := by omega
  have s0 : IntKind.i64.wrap (y : Int) = (y : Int) := IntWalk.i64_in _ (by omega)
  have s1 : IntKind.i64.wrap ((y : Int) + 1 - 1) = (y : Int) := (congrArg _ e).trans s0
  have HES := Lib.hid (head_same (y + 1) n1)
  obtain ⟨X, hXe⟩ : ∃ X, opW (y + 1) = X := ⟨_, rfl⟩
  obtain ⟨D, hDe⟩ : ∃ D, decB n1 = D := ⟨_, rfl⟩
  have HXE := Lib.hid hXe
  have HDE := Lib.hid hDe
  rw [hXe] at hX HES
  rw [hDe] at hd HES
  have HZ4 := Lib.hid z4
  clear hpq hall hNV hXe hDe z4 hn1 hn3 ho1 ho4
  have k1 : ∀ w, (Op.stringOp .add (⟨#[106, 111, 98, 32]⟩ : ByteArray) X).run Tryd.prog w = .ok (.string (⟨#[106, 111, 98, 32]⟩ ++ X)) w := fun w => cat_runp _ _ 100 (by decide) (by omega)
  have z5 : (⟨#[106, 111, 98, 32]⟩ ++ X : ByteArray).size ≤ 9 := size_add (x := 4) (y := 5) (by decide) hX (by omega)
  have k2 : ∀ w, (Op.stringOp .add (⟨#[106, 111, 98, 32]⟩ ++ X) (⟨#[32]⟩ : ByteArray)).run Tryd.prog w = .ok (.string ((⟨#[106, 111, 98, 32]⟩ ++ X) ++ ⟨#[32]⟩)) w := fun w => cat_runp _ _ 100 (by omega) (by decide)
  have z6 : ((⟨#[106, 111, 98, 32]⟩ ++ X) ++ ⟨#[32]⟩ : ByteArray).size ≤ 10 := size_add (x := 9) (y := 1) z5 (by decide) (by omega)
  obtain ⟨A, hA⟩ : ∃ A : ByteArray, (⟨#[106, 111, 98, 32]⟩ ++ X) ++ ⟨#[32]⟩ = A := ⟨_, rfl⟩
  rw [hA] at k2 z6 HES
  have k3 : ∀ w, (Op.stringOp .add A D).run Tryd.prog w = .ok (.string (A ++ D)) w := fun w => cat_runp _ _ 100 (by omega) (by omega)
  have z7 : (A ++ D).size ≤ 30 := size_add z6 hd (by omega)
  clear hA
  cases e1
  · have kl : ∀ w, (Op.stringOp .add (A ++ D) (⟨#[32, 108, 105, 110, 101, 10]⟩ : ByteArray)).run Tryd.prog w = .ok (.string ((A ++ D) ++ ⟨#[32, 108, 105, 110, 101, 10]⟩)) w := fun w => cat_runp _ _ 100 (by omega) (by decide)
    have ke : ∀ w, (Op.stringOp .add (A ++ D) (⟨#[32, 101, 97, 99, 104, 10]⟩ : ByteArray)).run Tryd.prog w = .ok (.string ((A ++ D) ++ ⟨#[32, 101, 97, 99, 104, 10]⟩)) w := fun w => cat_runp _ _ 100 (by omega) (by decide)
    have hH : (A ++ D) ++ ⟨#[32, 108, 105, 110, 101, 10]⟩ = headTx (y + 1) n1 false := (HES.out false).symm
    obtain ⟨H, hHe⟩ : ∃ H, headTx (y + 1) n1 false = H := ⟨_, rfl⟩
    rw [hHe] at hH HHD z1 z3
    obtain ⟨P, hPe⟩ : ∃ P, progTo l pl = P := ⟨_, rfl⟩
    have HPE := Lib.hid hPe
    rw [hPe] at HHD z2 z3
    have HHH := Lib.hid hH
    clear hH hHe hPe
    obtain ⟨WW, hWW⟩ : ∃ WW : World, WW = w2 := ⟨_, rfl⟩
    rw [← hWW] at HB9 HX9 HS9
    go_wp2_with fail
    rw [← hWW]
    clear hWW
    refine wp_region_noPanic ?_
    refine wp_region_held_drew (S := (fun w' => Hid (Below w.heap.size w w' ∧ Row w' w.heap.size 44 #[.slice p pl pc, .bool false, .int .i64 ((y : Int) + 1), .int .i64 n1, .slice s sl sc] ∧ JobAt w' p pl l s sl m))) (by kernel_rfl) (Lib.hid ⟨HB9.out.drew, HX9.out.keep (Below.refl _ _).drew, HS9.out.keep (Below.refl _ _).drew⟩) (fun HS => ?_)
    refine held_take (i := 1) (d := 11) (v := .pointer (some ⟨w.heap.size, 2, none⟩)) rfl rfl (by kernel_rfl) (by kernel_rfl) (by kernel_rfl) (by kernel_rfl) (fun wx hS => by go_simp) HS ?_
    refine held_take (i := 2) (d := 12) (v := .int .i64 ((y : Int) + 1)) rfl rfl (by kernel_rfl) (by kernel_rfl) (by kernel_rfl) (by kernel_rfl) (fun wx hS => by have k0 := row_tab (j := 2) hS.out.2.1 rfl; go_simp) HS ?_
    refine held_take (i := 3) (d := 13) (v := .int .i64 (y : Int)) rfl rfl (by kernel_rfl) (by kernel_rfl) (by kernel_rfl) (by kernel_rfl) (fun wx hS => by go_simp) HS ?_
    refine held_take (i := 8) (d := 18) (v := .pointer (some ⟨w.heap.size, 3, none⟩)) rfl rfl (by kernel_rfl) (by kernel_rfl) (by kernel_rfl) (by kernel_rfl) (fun wx hS => by go_simp) HS ?_
    refine held_take (i := 9) (d := 19) (v := .int .i64 n1) rfl rfl (by kernel_rfl) (by kernel_rfl) (by kernel_rfl) (by kernel_rfl) (fun wx hS => by have k0 := row_tab (j := 3) hS.out.2.1 rfl; go_simp) HS ?_
    refine wpAnyH_ready (rs := [0]) (by kernel_rfl) (by simp) (AllReadyH.cons rfl (fun K hK => ?_) AllReadyH.nil)
    go_simp
    refine (l5ops_any _).mono ?_
    rintro e w3 ⟨rfl, hc, hB⟩
    refine hK.out _ _ (Lib.hid ⟨below_via HS.out.1 hB, HS.out.2.1.keep hB, HS.out.2.2.keep hB⟩) (fun HS => ?_)
    clear hK K
    obtain ⟨B, hBe⟩ : ∃ B, WW.drew.heap.size = B := ⟨_, rfl⟩
    rw [hBe] at hc ⊢
    have hc0 := hc y hy
    rw [HXE.out] at hc0
    refine held_mono (S' := (fun w' => Hid ((Below w.heap.size w w' ∧ Row w' w.heap.size 44 #[.slice p pl pc, .bool false, .int .i64 ((y : Int) + 1), .int .i64 n1, .slice s sl sc] ∧ JobAt w' p pl l s sl m) ∧ w'.cell? ⟨B, y, none⟩ = some (.string X)))) (fun w' h => Lib.hid h.out.1) ?_
    have HS := Lib.hid (show _ ∧ _ from ⟨HS.out, hc0⟩)
    refine held_take (i := 4) (d := 14) (v := .pointer (some ⟨B, y, none⟩)) rfl rfl (by kernel_rfl) (by kernel_rfl) (by kernel_rfl) (by kernel_rfl) (fun wx hS => by go_simp) HS ?_
    refine held_take (i := 5) (d := 15) (v := .string X) rfl rfl (by kernel_rfl) (by kernel_rfl) (by kernel_rfl) (by kernel_rfl) (fun wx hS => by have k0 := hS.out.2; go_simp) HS ?_
    refine held_take (i := 6) (d := 16) (v := .string (⟨#[106, 111, 98, 32]⟩ ++ X)) rfl rfl (by kernel_rfl) (by kernel_rfl) (by kernel_rfl) (by kernel_rfl) (fun wx hS => by go_simp) HS ?_
    refine held_take (i := 7) (d := 17) (v := .string A) rfl rfl (by kernel_rfl) (by kernel_rfl) (by kernel_rfl) (by kernel_rfl) (fun wx hS => by go_simp) HS ?_
    refine wpAnyH_ready (rs := [10]) (by kernel_rfl) (by simp) (AllReadyH.cons rfl (fun K hK => ?_) AllReadyH.nil)
    go_simp
    refine (l1dec_any n1 HNV.out.1 (by have := HNV.out.2; omega) _).mono ?_
    rw [HDE.out]
    rintro e w4 ⟨rfl, hB⟩
    refine hK.out _ _ (Lib.hid ⟨⟨below_via HS.out.1.1 hB, HS.out.1.2.1.keep hB, HS.out.1.2.2.keep hB⟩, (hB.cell (World.block_lt_of_cell? _ _ HS.out.2)).trans HS.out.2⟩) (fun HS => ?_)
    clear hK K
    refine held_take (i := 11) (d := 21) (v := .string (A ++ D)) rfl rfl (by kernel_rfl) (by kernel_rfl) (by kernel_rfl) (by kernel_rfl) (fun wx hS => by go_simp) HS ?_
    refine held_take (i := 12) (d := 22) (v := .string ((A ++ D) ++ ⟨#[32, 108, 105, 110, 101, 10]⟩)) rfl rfl (by kernel_rfl) (by kernel_rfl) (by kernel_rfl) (by kernel_rfl) (fun wx hS => by go_simp) HS ?_
    refine held_take (i := 13) (d := 3) (v := .string ((A ++ D) ++ ⟨#[32, 108, 105, 110, 101, 10]⟩)) rfl rfl (by kernel_rfl) (by kernel_rfl) (by kernel_rfl) (by kernel_rfl) (fun wx hS => by go_simp) HS ?_
    refine wpAnyH_done (by kernel_rfl) (NoPanic.normal ?_) _
    simp only [List.setIfInBounds_toArray, List.set_cons_zero, List.set_cons_succ]
    have HB9 := Lib.hid HS.out.1.1
    have HX9 := Lib.hid HS.out.1.2.1
    have HS9 := Lib.hid HS.out.1.2.2
    have x1 := row_tab (j := 1) HX9.out rfl
    have x0 := row_tab (j := 0) HX9.out rfl
    clear HS hc hc0 hBe
    rw [HHH.out]
    have k5 : ∀ w, (Op.stringOp .add H P).run Tryd.prog w = .ok (.string (H ++ P)) w := fun w => cat_runp _ _ 3000 (by omega) (by omega)
    have k6 : ∀ w, (Op.stringOp .add (H ++ P) (⟨#[10]⟩ : ByteArray)).run Tryd.prog w = .ok (.string ((H ++ P) ++ ⟨#[10]⟩)) w := fun w => cat_runp _ _ 3000 (by omega) (by decide)
    go_wp2_with fail
    refine (l3prog_any _ _ _ l _ HS9.out.i HPQ.out HN.out).mono ?_
    rw [HPE.out]
    rintro e w6 ⟨rfl, hB⟩
    have HX5 := Lib.hid (HX9.out.keep hB)
    have HS5 := Lib.hid (HS9.out.keep hB)
    have HB5 := Lib.hid (below_via HB9.out hB)
    clear hB x0 x1
    go_wp2
    go_loopw [3, 4] (fun t i wr => ∃ j : Nat, j ≤ sl ∧ i = .int .i64 j ∧ (∃ T : ByteArray, t = .string T ∧ Hid (T = jobTo (jobHd l (y + 1) n1 false) m j)) ∧ Hid (Below w6.heap.size w6 wr)) (fun _ i _ => sl - (intOf i).toNat)
    case atStart => exact ⟨0, Nat.zero_le _, rfl, ⟨_, rfl, Lib.hid HHD.out.symm⟩, Lib.hid (Below.refl _ _)⟩
    case round =>
      obtain ⟨j, hj, rfl, ⟨T, rfl, HTT⟩, HW⟩ := hrel
      clear k1 k2 k3 kl ke k5 k6
      have x4 := row_tab (j := 4) (HX5.out.keep HW.out) rfl
      by_cases hlt : j < sl
      · rcases (HS5.out.keep HW.out).t.src with hz | ⟨b, off, rfl, hb, hc⟩
        · omega
        have c0 := hc j hlt
        have hi0 : (0 : Int) ≤ (j : Int) := by omega
        have hi1 : (j : Int) < (sl : Int) := by omega
        have hts : T.size ≤ 800 + 2037 * j := by rw [HTT.out]; exact jobTo_size (by have := HZ4.out; omega) HALL.out j hj
        have hk := allB_at HALL.out hlt
        have hsize := HZ.out j hlt
        obtain ⟨t, ht⟩ : ∃ t, strAt m j = t := ⟨_, rfl⟩
        have HP := Lib.hid (show T ++ splitTx t = jobTo (jobHd l (y + 1) n1 false) m (j + 1) by rw [HTT.out, ← ht]; rfl)
        rw [ht] at c0 hk hsize
        obtain ⟨_, ht2, hcn0, hcn1⟩ := lines_facts hk
        have HKK := Lib.hid hk
        have HC0 := Lib.hid c0
        have HC1 := Lib.hid (World.block_lt_of_cell? _ _ c0)
        clear hc hb ht hk
        go_wp2_with fail
        refine (slinesof_any t _ hsize).mono ?_
        rw [show linesK t.data.toList = true from HKK.out]
        rintro e w7 ⟨q5, cp5, rfl, _, hB⟩
        have HW := Lib.hid (below_via HW.out hB)
        have c0 := (hB.cell (p := ⟨b, off + j, none⟩) HC1.out).trans c0
        clear hB x4
        have HC5 := Lib.hid c0
        obtain ⟨N, hNe⟩ : ∃ N, (linesW t.data.toList).length = N := ⟨_, rfl⟩
        have hcn : cntB t = (N : Int) := by unfold cntB; rw [hNe]
        rw [hcn] at hcn0 hcn1
        have hd2 : (decB (N : Int)).size ≤ 20 := decB_size (by omega) (by omega)
        have HV2 := Lib.hid (show -9223372036854775808 ≤ (N : Int) ∧ (N : Int) < 9223372036854775808 from ⟨by omega, by omega⟩)
        have HP2 := Lib.hid (show (((T ++ ⟨#[115, 112, 108, 105, 116, 32]⟩) ++ decB (N : Int)) ++ ⟨#[10]⟩) ++ t = jobTo (jobHd l (y + 1) n1 false) m (j + 1) by rw [← HP.out, ← split_same, hcn])
        obtain ⟨D2, hD2⟩ : ∃ D2, decB (N : Int) = D2 := ⟨_, rfl⟩
        have HD2 := Lib.hid hD2
        rw [hD2] at hd2 HP2
        rw [hNe]
        clear hNe hcn hD2 HP
        have k7 : ∀ w, (Op.stringOp .add T (⟨#[115, 112, 108, 105, 116, 32]⟩ : ByteArray)).run Tryd.prog w = .ok (.string (T ++ ⟨#[115, 112, 108, 105, 116, 32]⟩)) w := fun w => cat_runp _ _ 20000 (by omega) (by decide)
        have z8 : (T ++ ⟨#[115, 112, 108, 105, 116, 32]⟩ : ByteArray).size ≤ 9000 := size_add (x := 8954) (y := 6) (by omega) (by decide) (by omega)
        have k8 : ∀ w, (Op.stringOp .add (T ++ ⟨#[115, 112, 108, 105, 116, 32]⟩) D2).run Tryd.prog w = .ok (.string ((T ++ ⟨#[115, 112, 108, 105, 116, 32]⟩) ++ D2)) w := fun w => cat_runp _ _ 20000 (by omega) (by omega)
        have z9 := size_add (z := 9020) z8 hd2 (by omega)
        have k9 : ∀ w, (Op.stringOp .add ((T ++ ⟨#[115, 112, 108, 105, 116, 32]⟩) ++ D2) (⟨#[10]⟩ : ByteArray)).run Tryd.prog w = .ok (.string (((T ++ ⟨#[115, 112, 108, 105, 116, 32]⟩) ++ D2) ++ ⟨#[10]⟩)) w := fun w => cat_runp _ _ 20000 (by omega) (by decide)
        have z10 := size_add (b := (⟨#[10]⟩ : ByteArray)) (y := 1) (z := 9021) z9 (by decide) (by omega)
        have k10 : ∀ w, (Op.stringOp .add (((T ++ ⟨#[115, 112, 108, 105, 116, 32]⟩) ++ D2) ++ ⟨#[10]⟩) t).run Tryd.prog w = .ok (.string ((((T ++ ⟨#[115, 112, 108, 105, 116, 32]⟩) ++ D2) ++ ⟨#[10]⟩) ++ t)) w := fun w => cat_runp _ _ 20000 (by omega) (by omega)
        go_wp2_with fail
        refine wp_region_noPanic ?_
        refine wp_region_held_drew (S := (fun w' => Hid (Below w6.heap.size w6 w' ∧ Row w' w.heap.size 44 #[.slice p pl pc, .bool false, .int .i64 ((y : Int) + 1), .int .i64 n1, .slice (some ⟨b, off, none⟩) sl sc] ∧ w'.cell? ⟨b, off + j, none⟩ = some (.string t)))) (by kernel_rfl) (Lib.hid ⟨HW.out.drew, (HX5.out.keep HW.out).keep (Below.refl _ _).drew, HC5.out⟩) (fun HS => ?_)
        refine held_take (i := 0) (d := 60) (v := .string T) rfl rfl (by kernel_rfl) (by kernel_rfl) (by kernel_rfl) (by kernel_rfl) (fun wx hS => by go_simp) HS ?_
        refine held_take (i := 1) (d := 61) (v := .string (T ++ ⟨#[115, 112, 108, 105, 116, 32]⟩)) rfl rfl (by kernel_rfl) (by kernel_rfl) (by kernel_rfl) (by kernel_rfl) (fun wx hS => by go_simp) HS ?_
        refine held_take (i := 2) (d := 62) (v := .slice q5 N cp5) rfl rfl (by kernel_rfl) (by kernel_rfl) (by kernel_rfl) (by kernel_rfl) (fun wx hS => by go_simp) HS ?_
        refine held_take (i := 3) (d := 63) (v := .int .i64 (N : Int)) rfl rfl (by kernel_rfl) (by kernel_rfl) (by kernel_rfl) (by kernel_rfl) (fun wx hS => by go_simp) HS ?_
        refine held_take (i := 7) (d := 67) (v := .pointer (some ⟨w.heap.size, 4, none⟩)) rfl rfl (by kernel_rfl) (by kernel_rfl) (by kernel_rfl) (by kernel_rfl) (fun wx hS => by go_simp) HS ?_
        refine held_take (i := 8) (d := 68) (v := .slice (some ⟨b, off, none⟩) sl sc) rfl rfl (by kernel_rfl) (by kernel_rfl) (by kernel_rfl) (by kernel_rfl) (fun wx hS => by have k0 := row_tab (j := 4) hS.out.2.1 rfl; go_simp) HS ?_
        refine held_take (i := 9) (d := 69) (v := .int .i64 (j : Int)) rfl rfl (by kernel_rfl) (by kernel_rfl) (by kernel_rfl) (by kernel_rfl) (fun wx hS => by go_simp) HS ?_
        refine held_take (i := 10) (d := 70) (v := .pointer (some ⟨b, off + j, none⟩)) rfl rfl (by kernel_rfl) (by kernel_rfl) (by kernel_rfl) (by kernel_rfl) (fun wx hS => by go_simp) HS ?_
        refine held_take (i := 11) (d := 71) (v := .string t) rfl rfl (by kernel_rfl) (by kernel_rfl) (by kernel_rfl) (by kernel_rfl) (fun wx hS => by have k0 := hS.out.2.2; go_simp) HS ?_
        refine wpAnyH_ready (rs := [4]) (by kernel_rfl) (by simp) (AllReadyH.cons rfl (fun K hK => ?_) AllReadyH.nil)
        go_simp
        refine (l1dec_any (N : Int) HV2.out.1 HV2.out.2 _).mono ?_
        rw [HD2.out]
        rintro e w8 ⟨rfl, hB⟩
        refine hK.out _ _ (Lib.hid ⟨below_via HS.out.1 hB, HS.out.2.1.keep hB, (hB.cell (World.block_lt_of_cell? _ _ HS.out.2.2)).trans HS.out.2.2⟩) (fun HS => ?_)
        clear hK K
        refine held_take (i := 5) (d := 65) (v := .string ((T ++ ⟨#[115, 112, 108, 105, 116, 32]⟩) ++ D2)) rfl rfl (by kernel_rfl) (by kernel_rfl) (by kernel_rfl) (by kernel_rfl) (fun wx hS => by go_simp) HS ?_
        refine held_take (i := 6) (d := 66) (v := .string (((T ++ ⟨#[115, 112, 108, 105, 116, 32]⟩) ++ D2) ++ ⟨#[10]⟩)) rfl rfl (by kernel_rfl) (by kernel_rfl) (by kernel_rfl) (by kernel_rfl) (fun wx hS => by go_simp) HS ?_
        refine held_take (i := 12) (d := 72) (v := .string ((((T ++ ⟨#[115, 112, 108, 105, 116, 32]⟩) ++ D2) ++ ⟨#[10]⟩) ++ t)) rfl rfl (by kernel_rfl) (by kernel_rfl) (by kernel_rfl) (by kernel_rfl) (fun wx hS => by go_simp) HS ?_
        refine held_take (i := 13) (d := 3) (v := .string ((((T ++ ⟨#[115, 112, 108, 105, 116, 32]⟩) ++ D2) ++ ⟨#[10]⟩) ++ t)) rfl rfl (by kernel_rfl) (by kernel_rfl) (by kernel_rfl) (by kernel_rfl) (fun wx hS => by go_simp) HS ?_
        refine wpAnyH_done (by kernel_rfl) (NoPanic.normal ?_) _
        simp only [List.setIfInBounds_toArray, List.set_cons_zero, List.set_cons_succ]
        have HW := Lib.hid HS.out.1
        clear HS c0
        go_wp2
        go_roundw
        case rel => exact ⟨j + 1, by omega, by go_num, ⟨_, rfl, HP2⟩, HW⟩
        case measure => simp [intOf]; omega
      · obtain rfl : j = sl := by omega
        go_wp2
        go_ret
        exact ⟨congrArg (fun s => Ending.returned (.string s)) (HTT.out.trans HJ.out.symm), below_via HB5.out HW.out⟩
  · have kl : ∀ w, (Op.stringOp .add (A ++ D) (⟨#[32, 108, 105, 110, 101, 10]⟩ : ByteArray)).run Tryd.prog w = .ok (.string ((A ++ D) ++ ⟨#[32, 108, 105, 110, 101, 10]⟩)) w := fun w => cat_runp _ _ 100 (by omega) (by decide)
    have ke : ∀ w, (Op.stringOp .add (A ++ D) (⟨#[32, 101, 97, 99, 104, 10]⟩ : ByteArray)).run Tryd.prog w = .ok (.string ((A ++ D) ++ ⟨#[32, 101, 97, 99, 104, 10]⟩)) w := fun w => cat_runp _ _ 100 (by omega) (by decide)
    have hH : (A ++ D) ++ ⟨#[32, 101, 97, 99, 104, 10]⟩ = headTx (y + 1) n1 true := (HES.out true).symm
    obtain ⟨H, hHe⟩ : ∃ H, headTx (y + 1) n1 true = H := ⟨_, rfl⟩
    rw [hHe] at hH HHD z1 z3
    obtain ⟨P, hPe⟩ : ∃ P, progTo l pl = P := ⟨_, rfl⟩
    have HPE := Lib.hid hPe
    rw [hPe] at HHD z2 z3
    have HHH := Lib.hid hH
    clear hH hHe hPe
    obtain ⟨WW, hWW⟩ : ∃ WW : World, WW = w2 := ⟨_, rfl⟩
    rw [← hWW] at HB9 HX9 HS9
    go_wp2_with fail
    rw [← hWW]
    clear hWW
    refine wp_region_noPanic ?_
    refine wp_region_held_drew (S := (fun w' => Hid (Below w.heap.size w w' ∧ Row w' w.heap.size 44 #[.slice p pl pc, .bool true, .int .i64 ((y : Int) + 1), .int .i64 n1, .slice s sl sc] ∧ JobAt w' p pl l s sl m))) (by kernel_rfl) (Lib.hid ⟨HB9.out.drew, HX9.out.keep (Below.refl _ _).drew, HS9.out.keep (Below.refl _ _).drew⟩) (fun HS => ?_)
    refine held_take (i := 1) (d := 11) (v := .pointer (some ⟨w.heap.size, 2, none⟩)) rfl rfl (by kernel_rfl) (by kernel_rfl) (by kernel_rfl) (by kernel_rfl) (fun wx hS => by go_simp) HS ?_
    refine held_take (i := 2) (d := 12) (v := .int .i64 ((y : Int) + 1)) rfl rfl (by kernel_rfl) (by kernel_rfl) (by kernel_rfl) (by kernel_rfl) (fun wx hS => by have k0 := row_tab (j := 2) hS.out.2.1 rfl; go_simp) HS ?_
    refine held_take (i := 3) (d := 13) (v := .int .i64 (y : Int)) rfl rfl (by kernel_rfl) (by kernel_rfl) (by kernel_rfl) (by kernel_rfl) (fun wx hS => by go_simp) HS ?_
    refine held_take (i := 8) (d := 18) (v := .pointer (some ⟨w.heap.size, 3, none⟩)) rfl rfl (by kernel_rfl) (by kernel_rfl) (by kernel_rfl) (by kernel_rfl) (fun wx hS => by go_simp) HS ?_
    refine held_take (i := 9) (d := 19) (v := .int .i64 n1) rfl rfl (by kernel_rfl) (by kernel_rfl) (by kernel_rfl) (by kernel_rfl) (fun wx hS => by have k0 := row_tab (j := 3) hS.out.2.1 rfl; go_simp) HS ?_
    refine wpAnyH_ready (rs := [0]) (by kernel_rfl) (by simp) (AllReadyH.cons rfl (fun K hK => ?_) AllReadyH.nil)
    go_simp
    refine (l5ops_any _).mono ?_
    rintro e w3 ⟨rfl, hc, hB⟩
    refine hK.out _ _ (Lib.hid ⟨below_via HS.out.1 hB, HS.out.2.1.keep hB, HS.out.2.2.keep hB⟩) (fun HS => ?_)
    clear hK K
    obtain ⟨B, hBe⟩ : ∃ B, WW.drew.heap.size = B := ⟨_, rfl⟩
    rw [hBe] at hc ⊢
    have hc0 := hc y hy
    rw [HXE.out] at hc0
    refine held_mono (S' := (fun w' => Hid ((Below w.heap.size w w' ∧ Row w' w.heap.size 44 #[.slice p pl pc, .bool true, .int .i64 ((y : Int) + 1), .int .i64 n1, .slice s sl sc] ∧ JobAt w' p pl l s sl m) ∧ w'.cell? ⟨B, y, none⟩ = some (.string X)))) (fun w' h => Lib.hid h.out.1) ?_
    have HS := Lib.hid (show _ ∧ _ from ⟨HS.out, hc0⟩)
    refine held_take (i := 4) (d := 14) (v := .pointer (some ⟨B, y, none⟩)) rfl rfl (by kernel_rfl) (by kernel_rfl) (by kernel_rfl) (by kernel_rfl) (fun wx hS => by go_simp) HS ?_
    refine held_take (i := 5) (d := 15) (v := .string X) rfl rfl (by kernel_rfl) (by kernel_rfl) (by kernel_rfl) (by kernel_rfl) (fun wx hS => by have k0 := hS.out.2; go_simp) HS ?_
    refine held_take (i := 6) (d := 16) (v := .string (⟨#[106, 111, 98, 32]⟩ ++ X)) rfl rfl (by kernel_rfl) (by kernel_rfl) (by kernel_rfl) (by kernel_rfl) (fun wx hS => by go_simp) HS ?_
    refine held_take (i := 7) (d := 17) (v := .string A) rfl rfl (by kernel_rfl) (by kernel_rfl) (by kernel_rfl) (by kernel_rfl) (fun wx hS => by go_simp) HS ?_
    refine wpAnyH_ready (rs := [10]) (by kernel_rfl) (by simp) (AllReadyH.cons rfl (fun K hK => ?_) AllReadyH.nil)
    go_simp
    refine (l1dec_any n1 HNV.out.1 (by have := HNV.out.2; omega) _).mono ?_
    rw [HDE.out]
    rintro e w4 ⟨rfl, hB⟩
    refine hK.out _ _ (Lib.hid ⟨⟨below_via HS.out.1.1 hB, HS.out.1.2.1.keep hB, HS.out.1.2.2.keep hB⟩, (hB.cell (World.block_lt_of_cell? _ _ HS.out.2)).trans HS.out.2⟩) (fun HS => ?_)
    clear hK K
    refine held_take (i := 11) (d := 21) (v := .string (A ++ D)) rfl rfl (by kernel_rfl) (by kernel_rfl) (by kernel_rfl) (by kernel_rfl) (fun wx hS => by go_simp) HS ?_
    refine held_take (i := 12) (d := 22) (v := .string ((A ++ D) ++ ⟨#[32, 108, 105, 110, 101, 10]⟩)) rfl rfl (by kernel_rfl) (by kernel_rfl) (by kernel_rfl) (by kernel_rfl) (fun wx hS => by go_simp) HS ?_
    refine held_take (i := 13) (d := 3) (v := .string ((A ++ D) ++ ⟨#[32, 108, 105, 110, 101, 10]⟩)) rfl rfl (by kernel_rfl) (by kernel_rfl) (by kernel_rfl) (by kernel_rfl) (fun wx hS => by go_simp) HS ?_
    refine wpAnyH_done (by kernel_rfl) (NoPanic.normal ?_) _
    simp only [List.setIfInBounds_toArray, List.set_cons_zero, List.set_cons_succ]
    have HB9 := Lib.hid HS.out.1.1
    have HX9 := Lib.hid HS.out.1.2.1
    have HS9 := Lib.hid HS.out.1.2.2
    have x1 := row_tab (j := 1) HX9.out rfl
    have x0 := row_tab (j := 0) HX9.out rfl
    clear HS hc hc0 hBe
    obtain ⟨WW, hWW⟩ : ∃ WW : World, WW = w4 := ⟨_, rfl⟩
    rw [← hWW] at HB9 HX9 HS9 x0 x1 ⊢
    clear hWW
    go_wp2_with fail
    clear x0 x1
    refine wp_region_noPanic ?_
    refine wp_region_held_drew (S := (fun w' => Hid (Below w.heap.size w w' ∧ Row w' w.heap.size 44 #[.slice p pl pc, .bool true, .int .i64 ((y : Int) + 1), .int .i64 n1, .slice s sl sc] ∧ JobAt w' p pl l s sl m))) (by kernel_rfl) (Lib.hid ⟨HB9.out.drew, HX9.out.keep (Below.refl _ _).drew, HS9.out.keep (Below.refl _ _).drew⟩) (fun HS => ?_)
    refine held_take (i := 1) (d := 26) (v := .pointer (some ⟨w.heap.size, 2, none⟩)) rfl rfl (by kernel_rfl) (by kernel_rfl) (by kernel_rfl) (by kernel_rfl) (fun wx hS => by go_simp) HS ?_
    refine held_take (i := 2) (d := 27) (v := .int .i64 ((y : Int) + 1)) rfl rfl (by kernel_rfl) (by kernel_rfl) (by kernel_rfl) (by kernel_rfl) (fun wx hS => by have k0 := row_tab (j := 2) hS.out.2.1 rfl; go_simp) HS ?_
    refine held_take (i := 3) (d := 28) (v := .int .i64 (y : Int)) rfl rfl (by kernel_rfl) (by kernel_rfl) (by kernel_rfl) (by kernel_rfl) (fun wx hS => by go_simp) HS ?_
    refine held_take (i := 8) (d := 33) (v := .pointer (some ⟨w.heap.size, 3, none⟩)) rfl rfl (by kernel_rfl) (by kernel_rfl) (by kernel_rfl) (by kernel_rfl) (fun wx hS => by go_simp) HS ?_
    refine held_take (i := 9) (d := 34) (v := .int .i64 n1) rfl rfl (by kernel_rfl) (by kernel_rfl) (by kernel_rfl) (by kernel_rfl) (fun wx hS => by have k0 := row_tab (j := 3) hS.out.2.1 rfl; go_simp) HS ?_
    refine wpAnyH_ready (rs := [0]) (by kernel_rfl) (by simp) (AllReadyH.cons rfl (fun K hK => ?_) AllReadyH.nil)
    go_simp
    refine (l5ops_any _).mono ?_
    rintro e w3 ⟨rfl, hc, hB⟩
    refine hK.out _ _ (Lib.hid ⟨below_via HS.out.1 hB, HS.out.2.1.keep hB, HS.out.2.2.keep hB⟩) (fun HS => ?_)
    clear hK K
    obtain ⟨B, hBe⟩ : ∃ B, WW.drew.heap.size = B := ⟨_, rfl⟩
    rw [hBe] at hc ⊢
    have hc0 := hc y hy
    rw [HXE.out] at hc0
    refine held_mono (S' := (fun w' => Hid ((Below w.heap.size w w' ∧ Row w' w.heap.size 44 #[.slice p pl pc, .bool true, .int .i64 ((y : Int) + 1), .int .i64 n1, .slice s sl sc] ∧ JobAt w' p pl l s sl m) ∧ w'.cell? ⟨B, y, none⟩ = some (.string X)))) (fun w' h => Lib.hid h.out.1) ?_
    have HS := Lib.hid (show _ ∧ _ from ⟨HS.out, hc0⟩)
    refine held_take (i := 4) (d := 29) (v := .pointer (some ⟨B, y, none⟩)) rfl rfl (by kernel_rfl) (by kernel_rfl) (by kernel_rfl) (by kernel_rfl) (fun wx hS => by go_simp) HS ?_
    refine held_take (i := 5) (d := 30) (v := .string X) rfl rfl (by kernel_rfl) (by kernel_rfl) (by kernel_rfl) (by kernel_rfl) (fun wx hS => by have k0 := hS.out.2; go_simp) HS ?_
    refine held_take (i := 6) (d := 31) (v := .string (⟨#[106, 111, 98, 32]⟩ ++ X)) rfl rfl (by kernel_rfl) (by kernel_rfl) (by kernel_rfl) (by kernel_rfl) (fun wx hS => by go_simp) HS ?_
    refine held_take (i := 7) (d := 32) (v := .string A) rfl rfl (by kernel_rfl) (by kernel_rfl) (by kernel_rfl) (by kernel_rfl) (fun wx hS => by go_simp) HS ?_
    refine wpAnyH_ready (rs := [10]) (by kernel_rfl) (by simp) (AllReadyH.cons rfl (fun K hK => ?_) AllReadyH.nil)
    go_simp
    refine (l1dec_any n1 HNV.out.1 (by have := HNV.out.2; omega) _).mono ?_
    rw [HDE.out]
    rintro e w4 ⟨rfl, hB⟩
    refine hK.out _ _ (Lib.hid ⟨⟨below_via HS.out.1.1 hB, HS.out.1.2.1.keep hB, HS.out.1.2.2.keep hB⟩, (hB.cell (World.block_lt_of_cell? _ _ HS.out.2)).trans HS.out.2⟩) (fun HS => ?_)
    clear hK K
    refine held_take (i := 11) (d := 36) (v := .string (A ++ D)) rfl rfl (by kernel_rfl) (by kernel_rfl) (by kernel_rfl) (by kernel_rfl) (fun wx hS => by go_simp) HS ?_
    refine held_take (i := 12) (d := 37) (v := .string ((A ++ D) ++ ⟨#[32, 101, 97, 99, 104, 10]⟩)) rfl rfl (by kernel_rfl) (by kernel_rfl) (by kernel_rfl) (by kernel_rfl) (fun wx hS => by go_simp) HS ?_
    refine held_take (i := 13) (d := 3) (v := .string ((A ++ D) ++ ⟨#[32, 101, 97, 99, 104, 10]⟩)) rfl rfl (by kernel_rfl) (by kernel_rfl) (by kernel_rfl) (by kernel_rfl) (fun wx hS => by go_simp) HS ?_
    refine wpAnyH_done (by kernel_rfl) (NoPanic.normal ?_) _
    simp only [List.setIfInBounds_toArray, List.set_cons_zero, List.set_cons_succ]
    have HB9 := Lib.hid HS.out.1.1
    have HX9 := Lib.hid HS.out.1.2.1
    have HS9 := Lib.hid HS.out.1.2.2
    have x1 := row_tab (j := 1) HX9.out rfl
    have x0 := row_tab (j := 0) HX9.out rfl
    clear HS hc hc0 hBe
    rw [HHH.out]
    have k5 : ∀ w, (Op.stringOp .add H P).run Tryd.prog w = .ok (.string (H ++ P)) w := fun w => cat_runp _ _ 3000 (by omega) (by omega)
    have k6 : ∀ w, (Op.stringOp .add (H ++ P) (⟨#[10]⟩ : ByteArray)).run Tryd.prog w = .ok (.string ((H ++ P) ++ ⟨#[10]⟩)) w := fun w => cat_runp _ _ 3000 (by omega) (by decide)
    go_wp2_with fail
    refine (l3prog_any _ _ _ l _ HS9.out.i HPQ.out HN.out).mono ?_
    rw [HPE.out]
    rintro e w6 ⟨rfl, hB⟩
    have HX5 := Lib.hid (HX9.out.keep hB)
    have HS5 := Lib.hid (HS9.out.keep hB)
    have HB5 := Lib.hid (below_via HB9.out hB)
    clear hB x0 x1
    go_wp2
    go_loopw [3, 4] (fun t i wr => ∃ j : Nat, j ≤ sl ∧ i = .int .i64 j ∧ (∃ T : ByteArray, t = .string T ∧ Hid (T = jobTo (jobHd l (y + 1) n1 true) m j)) ∧ Hid (Below w6.heap.size w6 wr)) (fun _ i _ => sl - (intOf i).toNat)
    case atStart => exact ⟨0, Nat.zero_le _, rfl, ⟨_, rfl, Lib.hid HHD.out.symm⟩, Lib.hid (Below.refl _ _)⟩
    case round =>
      obtain ⟨j, hj, rfl, ⟨T, rfl, HTT⟩, HW⟩ := hrel
      clear k1 k2 k3 kl ke k5 k6
      have x4 := row_tab (j := 4) (HX5.out.keep HW.out) rfl
      by_cases hlt : j < sl
      · rcases (HS5.out.keep HW.out).t.src with hz | ⟨b, off, rfl, hb, hc⟩
        · omega
        have c0 := hc j hlt
        have hi0 : (0 : Int) ≤ (j : Int) := by omega
        have hi1 : (j : Int) < (sl : Int) := by omega
        have hts : T.size ≤ 800 + 2037 * j := by rw [HTT.out]; exact jobTo_size (by have := HZ4.out; omega) HALL.out j hj
        have hk := allB_at HALL.out hlt
        have hsize := HZ.out j hlt
        obtain ⟨t, ht⟩ : ∃ t, strAt m j = t := ⟨_, rfl⟩
        have HP := Lib.hid (show T ++ splitTx t = jobTo (jobHd l (y + 1) n1 true) m (j + 1) by rw [HTT.out, ← ht]; rfl)
        rw [ht] at c0 hk hsize
        obtain ⟨_, ht2, hcn0, hcn1⟩ := lines_facts hk
        have HKK := Lib.hid hk
        have HC0 := Lib.hid c0
        have HC1 := Lib.hid (World.block_lt_of_cell? _ _ c0)
        clear hc hb ht hk
        go_wp2_with fail
        refine (slinesof_any t _ hsize).mono ?_
        rw [show linesK t.data.toList = true from HKK.out]
        rintro e w7 ⟨q5, cp5, rfl, _, hB⟩
        have HW := Lib.hid (below_via HW.out hB)
        have c0 := (hB.cell (p := ⟨b, off + j, none⟩) HC1.out).trans c0
        clear hB x4
        have HC5 := Lib.hid c0
        obtain ⟨N, hNe⟩ : ∃ N, (linesW t.data.toList).length = N := ⟨_, rfl⟩
        have hcn : cntB t = (N : Int) := by unfold cntB; rw [hNe]
        rw [hcn] at hcn0 hcn1
        have hd2 : (decB (N : Int)).size ≤ 20 := decB_size (by omega) (by omega)
        have HV2 := Lib.hid (show -9223372036854775808 ≤ (N : Int) ∧ (N : Int) < 9223372036854775808 from ⟨by omega, by omega⟩)
        have HP2 := Lib.hid (show (((T ++ ⟨#[115, 112, 108, 105, 116, 32]⟩) ++ decB (N : Int)) ++ ⟨#[10]⟩) ++ t = jobTo (jobHd l (y + 1) n1 true) m (j + 1) by rw [← HP.out, ← split_same, hcn])
        obtain ⟨D2, hD2⟩ : ∃ D2, decB (N : Int) = D2 := ⟨_, rfl⟩
        have HD2 := Lib.hid hD2
        rw [hD2] at hd2 HP2
        rw [hNe]
        clear hNe hcn hD2 HP
        have k7 : ∀ w, (Op.stringOp .add T (⟨#[115, 112, 108, 105, 116, 32]⟩ : ByteArray)).run Tryd.prog w = .ok (.string (T ++ ⟨#[115, 112, 108, 105, 116, 32]⟩)) w := fun w => cat_runp _ _ 20000 (by omega) (by decide)
        have z8 : (T ++ ⟨#[115, 112, 108, 105, 116, 32]⟩ : ByteArray).size ≤ 9000 := size_add (x := 8954) (y := 6) (by omega) (by decide) (by omega)
        have k8 : ∀ w, (Op.stringOp .add (T ++ ⟨#[115, 112, 108, 105, 116, 32]⟩) D2).run Tryd.prog w = .ok (.string ((T ++ ⟨#[115, 112, 108, 105, 116, 32]⟩) ++ D2)) w := fun w => cat_runp _ _ 20000 (by omega) (by omega)
        have z9 := size_add (z := 9020) z8 hd2 (by omega)
        have k9 : ∀ w, (Op.stringOp .add ((T ++ ⟨#[115, 112, 108, 105, 116, 32]⟩) ++ D2) (⟨#[10]⟩ : ByteArray)).run Tryd.prog w = .ok (.string (((T ++ ⟨#[115, 112, 108, 105, 116, 32]⟩) ++ D2) ++ ⟨#[10]⟩)) w := fun w => cat_runp _ _ 20000 (by omega) (by decide)
        have z10 := size_add (b := (⟨#[10]⟩ : ByteArray)) (y := 1) (z := 9021) z9 (by decide) (by omega)
        have k10 : ∀ w, (Op.stringOp .add (((T ++ ⟨#[115, 112, 108, 105, 116, 32]⟩) ++ D2) ++ ⟨#[10]⟩) t).run Tryd.prog w = .ok (.string ((((T ++ ⟨#[115, 112, 108, 105, 116, 32]⟩) ++ D2) ++ ⟨#[10]⟩) ++ t)) w := fun w => cat_runp _ _ 20000 (by omega) (by omega)
        go_wp2_with fail
        refine wp_region_noPanic ?_
        refine wp_region_held_drew (S := (fun w' => Hid (Below w6.heap.size w6 w' ∧ Row w' w.heap.size 44 #[.slice p pl pc, .bool true, .int .i64 ((y : Int) + 1), .int .i64 n1, .slice (some ⟨b, off, none⟩) sl sc] ∧ w'.cell? ⟨b, off + j, none⟩ = some (.string t)))) (by kernel_rfl) (Lib.hid ⟨HW.out.drew, (HX5.out.keep HW.out).keep (Below.refl _ _).drew, HC5.out⟩) (fun HS => ?_)
        refine held_take (i := 0) (d := 60) (v := .string T) rfl rfl (by kernel_rfl) (by kernel_rfl) (by kernel_rfl) (by kernel_rfl) (fun wx hS => by go_simp) HS ?_
        refine held_take (i := 1) (d := 61) (v := .string (T ++ ⟨#[115, 112, 108, 105, 116, 32]⟩)) rfl rfl (by kernel_rfl) (by kernel_rfl) (by kernel_rfl) (by kernel_rfl) (fun wx hS => by go_simp) HS ?_
        refine held_take (i := 2) (d := 62) (v := .slice q5 N cp5) rfl rfl (by kernel_rfl) (by kernel_rfl) (by kernel_rfl) (by kernel_rfl) (fun wx hS => by go_simp) HS ?_
        refine held_take (i := 3) (d := 63) (v := .int .i64 (N : Int)) rfl rfl (by kernel_rfl) (by kernel_rfl) (by kernel_rfl) (by kernel_rfl) (fun wx hS => by go_simp) HS ?_
        refine held_take (i := 7) (d := 67) (v := .pointer (some ⟨w.heap.size, 4, none⟩)) rfl rfl (by kernel_rfl) (by kernel_rfl) (by kernel_rfl) (by kernel_rfl) (fun wx hS => by go_simp) HS ?_
        refine held_take (i := 8) (d := 68) (v := .slice (some ⟨b, off, none⟩) sl sc) rfl rfl (by kernel_rfl) (by kernel_rfl) (by kernel_rfl) (by kernel_rfl) (fun wx hS => by have k0 := row_tab (j := 4) hS.out.2.1 rfl; go_simp) HS ?_
        refine held_take (i := 9) (d := 69) (v := .int .i64 (j : Int)) rfl rfl (by kernel_rfl) (by kernel_rfl) (by kernel_rfl) (by kernel_rfl) (fun wx hS => by go_simp) HS ?_
        refine held_take (i := 10) (d := 70) (v := .pointer (some ⟨b, off + j, none⟩)) rfl rfl (by kernel_rfl) (by kernel_rfl) (by kernel_rfl) (by kernel_rfl) (fun wx hS => by go_simp) HS ?_
        refine held_take (i := 11) (d := 71) (v := .string t) rfl rfl (by kernel_rfl) (by kernel_rfl) (by kernel_rfl) (by kernel_rfl) (fun wx hS => by have k0 := hS.out.2.2; go_simp) HS ?_
        refine wpAnyH_ready (rs := [4]) (by kernel_rfl) (by simp) (AllReadyH.cons rfl (fun K hK => ?_) AllReadyH.nil)
        go_simp
        refine (l1dec_any (N : Int) HV2.out.1 HV2.out.2 _).mono ?_
        rw [HD2.out]
        rintro e w8 ⟨rfl, hB⟩
        refine hK.out _ _ (Lib.hid ⟨below_via HS.out.1 hB, HS.out.2.1.keep hB, (hB.cell (World.block_lt_of_cell? _ _ HS.out.2.2)).trans HS.out.2.2⟩) (fun HS => ?_)
        clear hK K
        refine held_take (i := 5) (d := 65) (v := .string ((T ++ ⟨#[115, 112, 108, 105, 116, 32]⟩) ++ D2)) rfl rfl (by kernel_rfl) (by kernel_rfl) (by kernel_rfl) (by kernel_rfl) (fun wx hS => by go_simp) HS ?_
        refine held_take (i := 6) (d := 66) (v := .string (((T ++ ⟨#[115, 112, 108, 105, 116, 32]⟩) ++ D2) ++ ⟨#[10]⟩)) rfl rfl (by kernel_rfl) (by kernel_rfl) (by kernel_rfl) (by kernel_rfl) (fun wx hS => by go_simp) HS ?_
        refine held_take (i := 12) (d := 72) (v := .string ((((T ++ ⟨#[115, 112, 108, 105, 116, 32]⟩) ++ D2) ++ ⟨#[10]⟩) ++ t)) rfl rfl (by kernel_rfl) (by kernel_rfl) (by kernel_rfl) (by kernel_rfl) (fun wx hS => by go_simp) HS ?_
        refine held_take (i := 13) (d := 3) (v := .string ((((T ++ ⟨#[115, 112, 108, 105, 116, 32]⟩) ++ D2) ++ ⟨#[10]⟩) ++ t)) rfl rfl (by kernel_rfl) (by kernel_rfl) (by kernel_rfl) (by kernel_rfl) (fun wx hS => by go_simp) HS ?_
        refine wpAnyH_done (by kernel_rfl) (NoPanic.normal ?_) _
        simp only [List.setIfInBounds_toArray, List.set_cons_zero, List.set_cons_succ]
        have HW := Lib.hid HS.out.1
        clear HS c0
        go_wp2
        go_roundw
        case rel => exact ⟨j + 1, by omega, by go_num, ⟨_, rfl, HP2⟩, HW⟩
        case measure => simp [intOf]; omega
      · obtain rfl : j = sl := by omega
        go_wp2
        go_ret
        exact ⟨congrArg (fun s => Ending.returned (.string s)) (HTT.out.trans HJ.out.symm), below_via HB5.out HW.out⟩
end Go.Proofs.YtgijalecpeabjaaDoor
