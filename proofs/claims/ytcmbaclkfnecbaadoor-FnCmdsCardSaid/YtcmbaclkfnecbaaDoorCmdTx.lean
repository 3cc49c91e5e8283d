
/- The text of a command: what the program and its model write. Only new blocks are made. -/
import Derived.Test.YtcmbaclkfnecbaaDoorHex
import Derived.Test.YtcmbaclkfnecbaaDoorCmdOk
import Derived.Test.YtcmbaclkfnecbaaDoorCat
import Derived.Test.YtcmbaclkfnecbaaDoorDecs
namespace Go.Proofs.YtcmbaclkfnecbaaDoor
open Go.ChangeShapes Go.WideShapes Go.ChangeAt Go.RowKit
set_option linter.unusedVariables false
set_option maxRecDepth 100000

def cmdTo (kind : Int) (key : ByteArray) (ver : Int) (data : ByteArray) : ByteArray :=
  if kind = 1 then ⟨#[99, 114, 101, 97, 116, 101, 32]⟩ ++ key ++ ⟨#[32]⟩ ++ dataB data
  else if kind = 2 then ⟨#[112, 117, 116, 32]⟩ ++ key ++ ⟨#[32]⟩ ++ decB ver ++ ⟨#[32]⟩ ++ dataB data
  else ⟨#[100, 101, 108, 32]⟩ ++ key ++ ⟨#[32]⟩ ++ decB ver
def cmdTx (kind : Int) (key : ByteArray) (ver : Int) (data : ByteArray) : ByteArray := if cmdB kind key ver data then cmdTo kind key ver data else ByteArray.empty
theorem row_cellC {w : World} {B j : Nat} {E : TypeId} {cur : Array Value} {v : Value} (h : Row w B E cur) (hv : cur[j]? = some v) : w.cell? ⟨B, j, none⟩ = some v := by
  unfold Row at h
  simp [World.cell?, h, hv]
theorem strOfNums_size (l : List Int) : (strOfNums l).size = l.length := by
  simp [strOfNums, ByteArray.size]
theorem dataB_size (s : ByteArray) (h : s.size ≤ 30000) : (dataB s).size ≤ 60000 := by
  unfold dataB
  split
  · show 1 ≤ _; omega
  · rw [strOfNums_size, hexTo_len]; omega
theorem cmd_bd {kind : Int} {key : ByteArray} {ver : Int} {data : ByteArray} (h : cmdB kind key ver data = true) : (kind = 1 ∨ kind = 2 ∨ kind = 3) ∧ key.size ≤ 40 ∧ 0 ≤ ver ∧ ver ≤ 1000000 ∧ data.size ≤ 30000 := by
  have hk : keyB key = true := by
    cases hk : keyB key with
    | true => rfl
    | false => rw [cmd_key hk] at h; cases h
  have h40 : key.size ≤ 40 := by
    unfold keyB at hk
    simp only [Bool.and_eq_true, decide_eq_true_eq] at hk
    omega
  by_cases h1 : kind = 1
  · subst h1
    rw [cmd_1 hk] at h
    simp only [Bool.and_eq_true, decide_eq_true_eq] at h
    omega
  by_cases h2 : kind = 2
  · subst h2
    rw [cmd_2 hk] at h
    unfold inB at h
    simp only [Bool.and_eq_true, decide_eq_true_eq] at h
    omega
  by_cases h3 : kind = 3
  · subst h3
    rw [cmd_3 hk] at h
    unfold inB at h
    simp only [Bool.and_eq_true, decide_eq_true_eq] at h
    have hd : data.size = 0 := by
      have := h.2
      rw [ByteArray.toList_eq] at this
      have h9 : data.data.toList = [] := by simpa using this
      have := congrArg List.length h9
      simpa using this
    omega
  · rw [cmd_no h1 h2 h3] at h; cases h

def tabC : Array Value := #[.string ⟨#[99, 114, 101, 97, 116, 101, 32]⟩, .string ⟨#[112, 117, 116, 32]⟩, .string ⟨#[100, 101, 108, 32]⟩]
set_option maxHeartbeats 8000000 in
theorem l7text_any (kind : Int) (key : ByteArray) (ver : Int) (data : ByteArray) (w : World) (h : cmdB kind key ver data = true) :
    Calls Tryd.prog 55 #[.agg #[.int .i64 kind, .string key, .int .i64 ver, .string data]] w (MadeTx (cmdTo kind key ver data) w) := by
  obtain ⟨hk, h40, hv0, hv1, hd⟩ := cmd_bd h
  have hdz := dataB_size data hd
  have hdec : (decB ver).size ≤ 20 := decB_size (by omega) (by omega)
  clear h
  rcases hk with rfl | rfl | rfl
  · have z0 : (⟨#[99, 114, 101, 97, 116, 101, 32]⟩ : ByteArray).size = 7 := rfl
    have zs : (⟨#[32]⟩ : ByteArray).size = 1 := rfl
    have z1 : ((⟨#[99, 114, 101, 97, 116, 101, 32]⟩ ++ key) : ByteArray).size ≤ 47 := by rw [ByteArray.size_append]; omega
    have k1 : ∀ w, (Op.stringOp .add (⟨#[99, 114, 101, 97, 116, 101, 32]⟩ : ByteArray) (key : ByteArray)).run Tryd.prog w = .ok (.string (⟨#[99, 114, 101, 97, 116, 101, 32]⟩ ++ key)) w := fun w => cat_runp _ _ 70000 (by omega) (by omega)
    have z2 : (((⟨#[99, 114, 101, 97, 116, 101, 32]⟩ ++ key) ++ ⟨#[32]⟩) : ByteArray).size ≤ 48 := by rw [ByteArray.size_append]; omega
    have k2 : ∀ w, (Op.stringOp .add ((⟨#[99, 114, 101, 97, 116, 101, 32]⟩ ++ key) : ByteArray) (⟨#[32]⟩ : ByteArray)).run Tryd.prog w = .ok (.string ((⟨#[99, 114, 101, 97, 116, 101, 32]⟩ ++ key) ++ ⟨#[32]⟩)) w := fun w => cat_runp _ _ 70000 (by omega) (by omega)
    have z3 : ((((⟨#[99, 114, 101, 97, 116, 101, 32]⟩ ++ key) ++ ⟨#[32]⟩) ++ dataB data) : ByteArray).size ≤ 60048 := by rw [ByteArray.size_append]; omega
    have k3 : ∀ w, (Op.stringOp .add (((⟨#[99, 114, 101, 97, 116, 101, 32]⟩ ++ key) ++ ⟨#[32]⟩) : ByteArray) (dataB data : ByteArray)).run Tryd.prog w = .ok (.string (((⟨#[99, 114, 101, 97, 116, 101, 32]⟩ ++ key) ++ ⟨#[32]⟩) ++ dataB data)) w := fun w => cat_runp _ _ 70000 (by omega) (by omega)
    have HB := Lib.hid (below_alloc (Below.refl w.heap.size w) (.cells #[.int .i64 1, .string key, .int .i64 ver, .string data] 38))
    have HX := Lib.hid (Row.new w 38 #[.int .i64 1, .string key, .int .i64 ver, .string data])
    obtain ⟨W0, hW0⟩ : ∃ W0, w.alloc (.cells #[.int .i64 1, .string key, .int .i64 ver, .string data] 38) = W0 := ⟨_, rfl⟩
    have HW0 := Lib.hid hW0
    rw [hW0] at HB HX
    clear hW0
    go_enter Tryd.func55, Tryd.ntmps55
    go_wp2_with fail
    rw [HW0.out]
    refine wp_region_noPanic ?_
    refine wp_region_held_drew (S := (fun w' => Hid (Below w.heap.size w w' ∧ Row w' w.heap.size 38 #[.int .i64 1, .string key, .int .i64 ver, .string data]))) (by kernel_rfl) (Lib.hid ⟨HB.out.drew, HX.out.keep (Below.refl _ _).drew⟩) (fun HS => ?_)
    have s0 : IntKind.i64.wrap 0 = 0 := IntWalk.i64_in _ (by decide)
    refine held_take (i := 1) (d := 5) (v := .pointer (some ⟨w.heap.size, 0, none⟩)) rfl rfl (by kernel_rfl) (by kernel_rfl) (by kernel_rfl) (by kernel_rfl) (fun wx hS => by go_simp) HS ?_
    refine held_take (i := 2) (d := 6) (v := .int .i64 1) rfl rfl (by kernel_rfl) (by kernel_rfl) (by kernel_rfl) (by kernel_rfl) (fun wx hS => by have k0 := row_cellC (j := 0) hS.out.2 rfl; go_simp) HS ?_
    refine held_take (i := 3) (d := 7) (v := .int .i64 0) rfl rfl (by kernel_rfl) (by kernel_rfl) (by kernel_rfl) (by kernel_rfl) (fun wx hS => by go_simp) HS ?_
    refine held_take (i := 6) (d := 10) (v := .pointer (some ⟨w.heap.size, 1, none⟩)) rfl rfl (by kernel_rfl) (by kernel_rfl) (by kernel_rfl) (by kernel_rfl) (fun wx hS => by go_simp) HS ?_
    refine held_take (i := 7) (d := 11) (v := .string key) rfl rfl (by kernel_rfl) (by kernel_rfl) (by kernel_rfl) (by kernel_rfl) (fun wx hS => by have k0 := row_cellC (j := 1) hS.out.2 rfl; go_simp) HS ?_
    refine wpAnyH_ready (rs := [0]) (by kernel_rfl) (by simp) (AllReadyH.cons rfl (fun K hK => ?_) AllReadyH.nil)
    go_simp
    refine hK.out _ _ (Lib.hid ⟨below_alloc HS.out.1 _, HS.out.2.alloc _⟩) (fun HS => ?_)
    clear hK K
    obtain ⟨B, hBe⟩ : ∃ B, W0.drew.heap.size = B := ⟨_, rfl⟩
    have HTB := Lib.hid (Row.new W0.drew 9 tabC)
    unfold tabC at HTB
    rw [hBe] at HTB
    refine held_mono (S' := (fun w' => Hid (Below w.heap.size w w' ∧ Row w' w.heap.size 38 #[.int .i64 1, .string key, .int .i64 ver, .string data] ∧ Row w' B 9 tabC))) (fun w' h => Lib.hid ⟨h.out.1, h.out.2.1⟩) ?_
    have HS := Lib.hid (show _ ∧ _ ∧ Row _ B 9 tabC from ⟨HS.out.1, HS.out.2, HTB.out⟩)
    have hB9 : W0.heap.size = B := by rw [← hBe]; rfl
    refine held_take (i := 4) (d := 8) (v := .pointer (some ⟨B, 0, none⟩)) rfl rfl (by kernel_rfl) (by kernel_rfl) (by kernel_rfl) (by kernel_rfl) (fun wx hS => by go_simp) HS ?_
    refine held_take (i := 5) (d := 9) (v := .string ⟨#[99, 114, 101, 97, 116, 101, 32]⟩) rfl rfl (by kernel_rfl) (by kernel_rfl) (by kernel_rfl) (by kernel_rfl) (fun wx hS => by have k0 := row_cellC (j := 0) (v := .string ⟨#[99, 114, 101, 97, 116, 101, 32]⟩) hS.out.2.2 rfl; go_simp) HS ?_
    refine held_take (i := 8) (d := 12) (v := .string (⟨#[99, 114, 101, 97, 116, 101, 32]⟩ ++ key)) rfl rfl (by kernel_rfl) (by kernel_rfl) (by kernel_rfl) (by kernel_rfl) (fun wx hS => by go_simp) HS ?_
    refine held_take (i := 9) (d := 3) (v := .string (⟨#[99, 114, 101, 97, 116, 101, 32]⟩ ++ key)) rfl rfl (by kernel_rfl) (by kernel_rfl) (by kernel_rfl) (by kernel_rfl) (fun wx hS => by go_simp) HS ?_
    refine wpAnyH_done (by kernel_rfl) (NoPanic.normal ?_) _
    simp only [List.setIfInBounds_toArray, List.set_cons_zero, List.set_cons_succ]
    obtain ⟨W1, hW1⟩ : ∃ W1, (W0.alloc (.cells tabC 9)).drew = W1 := ⟨_, rfl⟩
    have HB := Lib.hid HS.out.1
    have HX := Lib.hid HS.out.2.1
    unfold tabC at hW1
    rw [hW1] at HB HX ⊢
    clear HS hW1 HTB hBe hB9
    have y0 := HX.out.cell (j := 0) (by simp)
    have y1 := HX.out.cell (j := 1) (by simp)
    have y2 := HX.out.cell (j := 2) (by simp)
    have y3 := HX.out.cell (j := 3) (by simp)
    simp at y0 y1 y2 y3
    go_wp2_with fail
    refine (l7hex_any data _ hd).mono ?_
    rintro e w3 ⟨rfl, hB⟩
    have HB := Lib.hid (below_via HB.out hB)
    clear hB y0 y1 y2 y3
    go_wp2
    go_ret
    exact ⟨rfl, HB.out⟩
  · have z0 : (⟨#[112, 117, 116, 32]⟩ : ByteArray).size = 4 := rfl
    have zs : (⟨#[32]⟩ : ByteArray).size = 1 := rfl
    have z1 : ((⟨#[112, 117, 116, 32]⟩ ++ key) : ByteArray).size ≤ 44 := by rw [ByteArray.size_append]; omega
    have k1 : ∀ w, (Op.stringOp .add (⟨#[112, 117, 116, 32]⟩ : ByteArray) (key : ByteArray)).run Tryd.prog w = .ok (.string (⟨#[112, 117, 116, 32]⟩ ++ key)) w := fun w => cat_runp _ _ 70000 (by omega) (by omega)
    have z2 : (((⟨#[112, 117, 116, 32]⟩ ++ key) ++ ⟨#[32]⟩) : ByteArray).size ≤ 45 := by rw [ByteArray.size_append]; omega
    have k2 : ∀ w, (Op.stringOp .add ((⟨#[112, 117, 116, 32]⟩ ++ key) : ByteArray) (⟨#[32]⟩ : ByteArray)).run Tryd.prog w = .ok (.string ((⟨#[112, 117, 116, 32]⟩ ++ key) ++ ⟨#[32]⟩)) w := fun w => cat_runp _ _ 70000 (by omega) (by omega)
    have z3 : ((((⟨#[112, 117, 116, 32]⟩ ++ key) ++ ⟨#[32]⟩) ++ decB ver) : ByteArray).size ≤ 65 := by rw [ByteArray.size_append]; omega
    have k3 : ∀ w, (Op.stringOp .add (((⟨#[112, 117, 116, 32]⟩ ++ key) ++ ⟨#[32]⟩) : ByteArray) (decB ver : ByteArray)).run Tryd.prog w = .ok (.string (((⟨#[112, 117, 116, 32]⟩ ++ key) ++ ⟨#[32]⟩) ++ decB ver)) w := fun w => cat_runp _ _ 70000 (by omega) (by omega)
    have z4 : (((((⟨#[112, 117, 116, 32]⟩ ++ key) ++ ⟨#[32]⟩) ++ decB ver) ++ ⟨#[32]⟩) : ByteArray).size ≤ 66 := by rw [ByteArray.size_append]; omega
    have k4 : ∀ w, (Op.stringOp .add ((((⟨#[112, 117, 116, 32]⟩ ++ key) ++ ⟨#[32]⟩) ++ decB ver) : ByteArray) (⟨#[32]⟩ : ByteArray)).run Tryd.prog w = .ok (.string ((((⟨#[112, 117, 116, 32]⟩ ++ key) ++ ⟨#[32]⟩) ++ decB ver) ++ ⟨#[32]⟩)) w := fun w => cat_runp _ _ 70000 (by omega) (by omega)
    have z5 : ((((((⟨#[112, 117, 116, 32]⟩ ++ key) ++ ⟨#[32]⟩) ++ decB ver) ++ ⟨#[32]⟩) ++ dataB data) : ByteArray).size ≤ 60066 := by rw [ByteArray.size_append]; omega
    have k5 : ∀ w, (Op.stringOp .add (((((⟨#[112, 117, 116, 32]⟩ ++ key) ++ ⟨#[32]⟩) ++ decB ver) ++ ⟨#[32]⟩) : ByteArray) (dataB data : ByteArray)).run Tryd.prog w = .ok (.string (((((⟨#[112, 117, 116, 32]⟩ ++ key) ++ ⟨#[32]⟩) ++ decB ver) ++ ⟨#[32]⟩) ++ dataB data)) w := fun w => cat_runp _ _ 70000 (by omega) (by omega)
    have HB := Lib.hid (below_alloc (Below.refl w.heap.size w) (.cells #[.int .i64 2, .string key, .int .i64 ver, .string data] 38))
    have HX := Lib.hid (Row.new w 38 #[.int .i64 2, .string key, .int .i64 ver, .string data])
    obtain ⟨W0, hW0⟩ : ∃ W0, w.alloc (.cells #[.int .i64 2, .string key, .int .i64 ver, .string data] 38) = W0 := ⟨_, rfl⟩
    have HW0 := Lib.hid hW0
    rw [hW0] at HB HX
    clear hW0
    go_enter Tryd.func55, Tryd.ntmps55
    go_wp2_with fail
    rw [HW0.out]
    refine wp_region_noPanic ?_
    refine wp_region_held_drew (S := (fun w' => Hid (Below w.heap.size w w' ∧ Row w' w.heap.size 38 #[.int .i64 2, .string key, .int .i64 ver, .string data]))) (by kernel_rfl) (Lib.hid ⟨HB.out.drew, HX.out.keep (Below.refl _ _).drew⟩) (fun HS => ?_)
    have s0 : IntKind.i64.wrap 1 = 1 := IntWalk.i64_in _ (by decide)
    refine held_take (i := 1) (d := 5) (v := .pointer (some ⟨w.heap.size, 0, none⟩)) rfl rfl (by kernel_rfl) (by kernel_rfl) (by kernel_rfl) (by kernel_rfl) (fun wx hS => by go_simp) HS ?_
    refine held_take (i := 2) (d := 6) (v := .int .i64 2) rfl rfl (by kernel_rfl) (by kernel_rfl) (by kernel_rfl) (by kernel_rfl) (fun wx hS => by have k0 := row_cellC (j := 0) hS.out.2 rfl; go_simp) HS ?_
    refine held_take (i := 3) (d := 7) (v := .int .i64 1) rfl rfl (by kernel_rfl) (by kernel_rfl) (by kernel_rfl) (by kernel_rfl) (fun wx hS => by go_simp) HS ?_
    refine held_take (i := 6) (d := 10) (v := .pointer (some ⟨w.heap.size, 1, none⟩)) rfl rfl (by kernel_rfl) (by kernel_rfl) (by kernel_rfl) (by kernel_rfl) (fun wx hS => by go_simp) HS ?_
    refine held_take (i := 7) (d := 11) (v := .string key) rfl rfl (by kernel_rfl) (by kernel_rfl) (by kernel_rfl) (by kernel_rfl) (fun wx hS => by have k0 := row_cellC (j := 1) hS.out.2 rfl; go_simp) HS ?_
    refine wpAnyH_ready (rs := [0]) (by kernel_rfl) (by simp) (AllReadyH.cons rfl (fun K hK => ?_) AllReadyH.nil)
    go_simp
    refine hK.out _ _ (Lib.hid ⟨below_alloc HS.out.1 _, HS.out.2.alloc _⟩) (fun HS => ?_)
    clear hK K
    obtain ⟨B, hBe⟩ : ∃ B, W0.drew.heap.size = B := ⟨_, rfl⟩
    have HTB := Lib.hid (Row.new W0.drew 9 tabC)
    unfold tabC at HTB
    rw [hBe] at HTB
    refine held_mono (S' := (fun w' => Hid (Below w.heap.size w w' ∧ Row w' w.heap.size 38 #[.int .i64 2, .string key, .int .i64 ver, .string data] ∧ Row w' B 9 tabC))) (fun w' h => Lib.hid ⟨h.out.1, h.out.2.1⟩) ?_
    have HS := Lib.hid (show _ ∧ _ ∧ Row _ B 9 tabC from ⟨HS.out.1, HS.out.2, HTB.out⟩)
    have hB9 : W0.heap.size = B := by rw [← hBe]; rfl
    refine held_take (i := 4) (d := 8) (v := .pointer (some ⟨B, 1, none⟩)) rfl rfl (by kernel_rfl) (by kernel_rfl) (by kernel_rfl) (by kernel_rfl) (fun wx hS => by go_simp) HS ?_
    refine held_take (i := 5) (d := 9) (v := .string ⟨#[112, 117, 116, 32]⟩) rfl rfl (by kernel_rfl) (by kernel_rfl) (by kernel_rfl) (by kernel_rfl) (fun wx hS => by have k0 := row_cellC (j := 1) (v := .string ⟨#[112, 117, 116, 32]⟩) hS.out.2.2 rfl; go_simp) HS ?_
    refine held_take (i := 8) (d := 12) (v := .string (⟨#[112, 117, 116, 32]⟩ ++ key)) rfl rfl (by kernel_rfl) (by kernel_rfl) (by kernel_rfl) (by kernel_rfl) (fun wx hS => by go_simp) HS ?_
    refine held_take (i := 9) (d := 3) (v := .string (⟨#[112, 117, 116, 32]⟩ ++ key)) rfl rfl (by kernel_rfl) (by kernel_rfl) (by kernel_rfl) (by kernel_rfl) (fun wx hS => by go_simp) HS ?_
    refine wpAnyH_done (by kernel_rfl) (NoPanic.normal ?_) _
    simp only [List.setIfInBounds_toArray, List.set_cons_zero, List.set_cons_succ]
    obtain ⟨W1, hW1⟩ : ∃ W1, (W0.alloc (.cells tabC 9)).drew = W1 := ⟨_, rfl⟩
    have HB := Lib.hid HS.out.1
    have HX := Lib.hid HS.out.2.1
    unfold tabC at hW1
    rw [hW1] at HB HX ⊢
    clear HS hW1 HTB hBe hB9
    have y0 := HX.out.cell (j := 0) (by simp)
    have y1 := HX.out.cell (j := 1) (by simp)
    have y2 := HX.out.cell (j := 2) (by simp)
    have y3 := HX.out.cell (j := 3) (by simp)
    simp at y0 y1 y2 y3
    go_wp2_with fail
    refine (l1dec_any ver (by omega) (by omega) _).mono ?_
    rintro e w2 ⟨rfl, hB⟩
    have HX := Lib.hid (HX.out.keep hB)
    have HB := Lib.hid (below_via HB.out hB)
    clear hB y0 y1 y2 y3
    have y0 := HX.out.cell (j := 0) (by simp)
    have y1 := HX.out.cell (j := 1) (by simp)
    have y2 := HX.out.cell (j := 2) (by simp)
    have y3 := HX.out.cell (j := 3) (by simp)
    simp at y0 y1 y2 y3
    go_wp2_with fail
    refine (l7hex_any data _ hd).mono ?_
    rintro e w3 ⟨rfl, hB⟩
    have HB := Lib.hid (below_via HB.out hB)
    clear hB y0 y1 y2 y3
    go_wp2
    go_ret
    exact ⟨rfl, HB.out⟩
  · have z0 : (⟨#[100, 101, 108, 32]⟩ : ByteArray).size = 4 := rfl
    have zs : (⟨#[32]⟩ : ByteArray).size = 1 := rfl
    have z1 : ((⟨#[100, 101, 108, 32]⟩ ++ key) : ByteArray).size ≤ 44 := by rw [ByteArray.size_append]; omega
    have k1 : ∀ w, (Op.stringOp .add (⟨#[100, 101, 108, 32]⟩ : ByteArray) (key : ByteArray)).run Tryd.prog w = .ok (.string (⟨#[100, 101, 108, 32]⟩ ++ key)) w := fun w => cat_runp _ _ 70000 (by omega) (by omega)
    have z2 : (((⟨#[100, 101, 108, 32]⟩ ++ key) ++ ⟨#[32]⟩) : ByteArray).size ≤ 45 := by rw [ByteArray.size_append]; omega
    have k2 : ∀ w, (Op.stringOp .add ((⟨#[100, 101, 108, 32]⟩ ++ key) : ByteArray) (⟨#[32]⟩ : ByteArray)).run Tryd.prog w = .ok (.string ((⟨#[100, 101, 108, 32]⟩ ++ key) ++ ⟨#[32]⟩)) w := fun w => cat_runp _ _ 70000 (by omega) (by omega)
    have z3 : ((((⟨#[100, 101, 108, 32]⟩ ++ key) ++ ⟨#[32]⟩) ++ decB ver) : ByteArray).size ≤ 65 := by rw [ByteArray.size_append]; omega
    have k3 : ∀ w, (Op.stringOp .add (((⟨#[100, 101, 108, 32]⟩ ++ key) ++ ⟨#[32]⟩) : ByteArray) (decB ver : ByteArray)).run Tryd.prog w = .ok (.string (((⟨#[100, 101, 108, 32]⟩ ++ key) ++ ⟨#[32]⟩) ++ decB ver)) w := fun w => cat_runp _ _ 70000 (by omega) (by omega)
    have HB := Lib.hid (below_alloc (Below.refl w.heap.size w) (.cells #[.int .i64 3, .string key, .int .i64 ver, .string data] 38))
    have HX := Lib.hid (Row.new w 38 #[.int .i64 3, .string key, .int .i64 ver, .string data])
    obtain ⟨W0, hW0⟩ : ∃ W0, w.alloc (.cells #[.int .i64 3, .string key, .int .i64 ver, .string data] 38) = W0 := ⟨_, rfl⟩
    have HW0 := Lib.hid hW0
    rw [hW0] at HB HX
    clear hW0
    go_enter Tryd.func55, Tryd.ntmps55
    go_wp2_with fail
    rw [HW0.out]
    refine wp_region_noPanic ?_
    refine wp_region_held_drew (S := (fun w' => Hid (Below w.heap.size w w' ∧ Row w' w.heap.size 38 #[.int .i64 3, .string key, .int .i64 ver, .string data]))) (by kernel_rfl) (Lib.hid ⟨HB.out.drew, HX.out.keep (Below.refl _ _).drew⟩) (fun HS => ?_)
    have s0 : IntKind.i64.wrap 2 = 2 := IntWalk.i64_in _ (by decide)
    refine held_take (i := 1) (d := 5) (v := .pointer (some ⟨w.heap.size, 0, none⟩)) rfl rfl (by kernel_rfl) (by kernel_rfl) (by kernel_rfl) (by kernel_rfl) (fun wx hS => by go_simp) HS ?_
    refine held_take (i := 2) (d := 6) (v := .int .i64 3) rfl rfl (by kernel_rfl) (by kernel_rfl) (by kernel_rfl) (by kernel_rfl) (fun wx hS => by have k0 := row_cellC (j := 0) hS.out.2 rfl; go_simp) HS ?_
    refine held_take (i := 3) (d := 7) (v := .int .i64 2) rfl rfl (by kernel_rfl) (by kernel_rfl) (by kernel_rfl) (by kernel_rfl) (fun wx hS => by go_simp) HS ?_
    refine held_take (i := 6) (d := 10) (v := .pointer (some ⟨w.heap.size, 1, none⟩)) rfl rfl (by kernel_rfl) (by kernel_rfl) (by kernel_rfl) (by kernel_rfl) (fun wx hS => by go_simp) HS ?_
    refine held_take (i := 7) (d := 11) (v := .string key) rfl rfl (by kernel_rfl) (by kernel_rfl) (by kernel_rfl) (by kernel_rfl) (fun wx hS => by have k0 := row_cellC (j := 1) hS.out.2 rfl; go_simp) HS ?_
    refine wpAnyH_ready (rs := [0]) (by kernel_rfl) (by simp) (AllReadyH.cons rfl (fun K hK => ?_) AllReadyH.nil)
    go_simp
    refine hK.out _ _ (Lib.hid ⟨below_alloc HS.out.1 _, HS.out.2.alloc _⟩) (fun HS => ?_)
    clear hK K
    obtain ⟨B, hBe⟩ : ∃ B, W0.drew.heap.size = B := ⟨_, rfl⟩
    have HTB := Lib.hid (Row.new W0.drew 9 tabC)
    unfold tabC at HTB
    rw [hBe] at HTB
    refine held_mono (S' := (fun w' => Hid (Below w.heap.size w w' ∧ Row w' w.heap.size 38 #[.int .i64 3, .string key, .int .i64 ver, .string data] ∧ Row w' B 9 tabC))) (fun w' h => Lib.hid ⟨h.out.1, h.out.2.1⟩) ?_
    have HS := Lib.hid (show _ ∧ _ ∧ Row _ B 9 tabC from ⟨HS.out.1, HS.out.2, HTB.out⟩)
    have hB9 : W0.heap.size = B := by rw [← hBe]; rfl
    refine held_take (i := 4) (d := 8) (v := .pointer (some ⟨B, 2, none⟩)) rfl rfl (by kernel_rfl) (by kernel_rfl) (by kernel_rfl) (by kernel_rfl) (fun wx hS => by go_simp) HS ?_
    refine held_take (i := 5) (d := 9) (v := .string ⟨#[100, 101, 108, 32]⟩) rfl rfl (by kernel_rfl) (by kernel_rfl) (by kernel_rfl) (by kernel_rfl) (fun wx hS => by have k0 := row_cellC (j := 2) (v := .string ⟨#[100, 101, 108, 32]⟩) hS.out.2.2 rfl; go_simp) HS ?_
    refine held_take (i := 8) (d := 12) (v := .string (⟨#[100, 101, 108, 32]⟩ ++ key)) rfl rfl (by kernel_rfl) (by kernel_rfl) (by kernel_rfl) (by kernel_rfl) (fun wx hS => by go_simp) HS ?_
    refine held_take (i := 9) (d := 3) (v := .string (⟨#[100, 101, 108, 32]⟩ ++ key)) rfl rfl (by kernel_rfl) (by kernel_rfl) (by kernel_rfl) (by kernel_rfl) (fun wx hS => by go_simp) HS ?_
    refine wpAnyH_done (by kernel_rfl) (NoPanic.normal ?_) _
    simp only [List.setIfInBounds_toArray, List.set_cons_zero, List.set_cons_succ]
    obtain ⟨W1, hW1⟩ : ∃ W1, (W0.alloc (.cells tabC 9)).drew = W1 := ⟨_, rfl⟩
    have HB := Lib.hid HS.out.1
    have HX := Lib.hid HS.out.2.1
    unfold tabC at hW1
    rw [hW1] at HB HX ⊢
    clear HS hW1 HTB hBe hB9
    have y0 := HX.out.cell (j := 0) (by simp)
    have y1 := HX.out.cell (j := 1) (by simp)
    have y2 := HX.out.cell (j := 2) (by simp)
    have y3 := HX.out.cell (j := 3) (by simp)
    simp at y0 y1 y2 y3
    go_wp2_with fail
    refine (l1dec_any ver (by omega) (by omega) _).mono ?_
    rintro e w2 ⟨rfl, hB⟩
    have HX := Lib.hid (HX.out.keep hB)
    have HB := Lib.hid (below_via HB.out hB)
    clear hB y0 y1 y2 y3
    have y0 := HX.out.cell (j := 0) (by simp)
    have y1 := HX.out.cell (j := 1) (by simp)
    have y2 := HX.out.cell (j := 2) (by simp)
    have y3 := HX.out.cell (j := 3) (by simp)
    simp at y0 y1 y2 y3
    go_wp2
    go_ret
    exact ⟨rfl, HB.out⟩

set_option maxHeartbeats 2000000 in
theorem scmdtext_any (kind : Int) (key : ByteArray) (ver : Int) (data : ByteArray) (w : World) (hs : key.size ≤ maxLen) (hd : data.size ≤ maxLen) :
    Calls Tryd.prog 27 #[.agg #[.int .i64 kind, .string key, .int .i64 ver, .string data]] w (MadeTx (cmdTx kind key ver data) w) := by
  have HB := Lib.hid (below_alloc (Below.refl w.heap.size w) (.cells #[.int .i64 kind, .string key, .int .i64 ver, .string data] 38))
  have HX := Lib.hid (Row.new w 38 #[.int .i64 kind, .string key, .int .i64 ver, .string data])
  have HS := Lib.hid (And.intro hs hd)
  obtain ⟨q, hq⟩ : ∃ q, cmdB kind key ver data = q := ⟨_, rfl⟩
  have HQ := Lib.hid hq
  clear hs hd hq
  go_enter Tryd.func27, Tryd.ntmps27
  go_wp2_with fail
  refine (scmdok_any kind key ver data _ HS.out.1 HS.out.2).mono ?_
  rw [HQ.out]
  rintro e w1 ⟨rfl, hB⟩
  have HX := Lib.hid (HX.out.keep hB)
  have HB := Lib.hid (below_via HB.out hB)
  have y0 := HX.out.cell (j := 0) (by simp)
  have y1 := HX.out.cell (j := 1) (by simp)
  have y2 := HX.out.cell (j := 2) (by simp)
  have y3 := HX.out.cell (j := 3) (by simp)
  simp at y0 y1 y2 y3
  clear hB
  cases q
  · have HP := Lib.hid (show cmdTx kind key ver data = ByteArray.empty by unfold cmdTx; rw [HQ.out]; rfl)
    go_wp2
    go_ret
    exact ⟨congrArg (fun s => Ending.returned (.string s)) HP.out.symm, HB.out⟩
  · have HP := Lib.hid (show cmdTx kind key ver data = cmdTo kind key ver data by unfold cmdTx; rw [HQ.out]; rfl)
    go_wp2_with fail
    refine (l7text_any kind key ver data _ HQ.out).mono ?_
    rintro e w2 ⟨rfl, hB⟩
    have HB := Lib.hid (below_via HB.out hB)
    clear hB y0 y1 y2 y3
    go_wp2
    go_ret
    exact ⟨congrArg (fun s => Ending.returned (.string s)) HP.out.symm, HB.out⟩

set_option maxHeartbeats 8000000 in
theorem cmdtext_any (kind : Int) (key : ByteArray) (ver : Int) (data : ByteArray) (w : World) (hs : key.size ≤ maxLen) (hd : data.size ≤ maxLen) (hT : Tabs w) :
    Calls Tryd.prog 23 #[.agg #[.int .i64 kind, .string key, .int .i64 ver, .string data]] w (MadeTx (cmdTx kind key ver data) w) := by
  have HB := Lib.hid (below_alloc (Below.refl w.heap.size w) (.cells #[.int .i64 kind, .string key, .int .i64 ver, .string data] 38))
  have HX := Lib.hid (Row.new w 38 #[.int .i64 kind, .string key, .int .i64 ver, .string data])
  have HT := Lib.hid (hT.keep HB.out)
  have HS := Lib.hid (And.intro hs hd)
  obtain ⟨q, hq⟩ : ∃ q, cmdB kind key ver data = q := ⟨_, rfl⟩
  have HQ := Lib.hid hq
  clear hs hd hq hT
  go_enter Tryd.func23, Tryd.ntmps23
  go_wp2_with fail
  refine (cmdok_any kind key ver data _ HS.out.1 HS.out.2).mono ?_
  rw [HQ.out]
  rintro e w1 ⟨rfl, hB⟩
  have HX := Lib.hid (HX.out.keep hB)
  have HT := Lib.hid (HT.out.keep hB)
  have HB := Lib.hid (below_via HB.out hB)
  have y0 := HX.out.cell (j := 0) (by simp)
  have y1 := HX.out.cell (j := 1) (by simp)
  have y2 := HX.out.cell (j := 2) (by simp)
  have y3 := HX.out.cell (j := 3) (by simp)
  simp at y0 y1 y2 y3
  clear hB
  cases q
  · have HP := Lib.hid (show cmdTx kind key ver data = ByteArray.empty by unfold cmdTx; rw [HQ.out]; rfl)
    go_wp2
    go_ret
    exact ⟨congrArg (fun s => Ending.returned (.string s)) HP.out.symm, HB.out⟩
  have HP := Lib.hid (show cmdTx kind key ver data = cmdTo kind key ver data by unfold cmdTx; rw [HQ.out]; rfl)
  obtain ⟨hk, h40, hv0, hv1, hd⟩ := cmd_bd HQ.out
  have hdz := dataB_size data hd
  have hdec : (decB ver).size ≤ 20 := decB_size (by omega) (by omega)
  go_wp2_with fail
  refine (fmt_any ver ⟨by omega, by omega⟩ _ HT.out).mono ?_
  rintro e w2 ⟨rfl, hB⟩
  have HX9 := Lib.hid (HX.out.keep hB)
  have HB9 := Lib.hid (below_via HB.out hB)
  clear hB y0 y1 y2 y3 HB HX
  rcases hk with rfl | rfl | rfl
  · have z0 : (⟨#[99, 114, 101, 97, 116, 101, 32]⟩ : ByteArray).size = 7 := rfl
    have zs : (⟨#[32]⟩ : ByteArray).size = 1 := rfl
    have z1 : ((⟨#[99, 114, 101, 97, 116, 101, 32]⟩ ++ key) : ByteArray).size ≤ 47 := by rw [ByteArray.size_append]; omega
    have k1 : ∀ w, (Op.stringOp .add (⟨#[99, 114, 101, 97, 116, 101, 32]⟩ : ByteArray) (key : ByteArray)).run Tryd.prog w = .ok (.string (⟨#[99, 114, 101, 97, 116, 101, 32]⟩ ++ key)) w := fun w => cat_runp _ _ 70000 (by omega) (by omega)
    have z2 : (((⟨#[99, 114, 101, 97, 116, 101, 32]⟩ ++ key) ++ ⟨#[32]⟩) : ByteArray).size ≤ 48 := by rw [ByteArray.size_append]; omega
    have k2 : ∀ w, (Op.stringOp .add ((⟨#[99, 114, 101, 97, 116, 101, 32]⟩ ++ key) : ByteArray) (⟨#[32]⟩ : ByteArray)).run Tryd.prog w = .ok (.string ((⟨#[99, 114, 101, 97, 116, 101, 32]⟩ ++ key) ++ ⟨#[32]⟩)) w := fun w => cat_runp _ _ 70000 (by omega) (by omega)
    have z3 : ((((⟨#[99, 114, 101, 97, 116, 101, 32]⟩ ++ key) ++ ⟨#[32]⟩) ++ dataB data) : ByteArray).size ≤ 60048 := by rw [ByteArray.size_append]; omega
    have k3 : ∀ w, (Op.stringOp .add (((⟨#[99, 114, 101, 97, 116, 101, 32]⟩ ++ key) ++ ⟨#[32]⟩) : ByteArray) (dataB data : ByteArray)).run Tryd.prog w = .ok (.string (((⟨#[99, 114, 101, 97, 116, 101, 32]⟩ ++ key) ++ ⟨#[32]⟩) ++ dataB data)) w := fun w => cat_runp _ _ 70000 (by omega) (by omega)
    have y0 := HX9.out.cell (j := 0) (by simp)
    have y1 := HX9.out.cell (j := 1) (by simp)
    have y2 := HX9.out.cell (j := 2) (by simp)
    have y3 := HX9.out.cell (j := 3) (by simp)
    simp at y0 y1 y2 y3
    go_wp2_with fail
    refine wp_region_noPanic ?_
    refine wp_region_held_drew (S := (fun w' => Hid (Below w.heap.size w w' ∧ Row w' w.heap.size 38 #[.int .i64 1, .string key, .int .i64 ver, .string data]))) (by kernel_rfl) (Lib.hid ⟨HB9.out.drew, HX9.out.keep (Below.refl _ _).drew⟩) (fun HS => ?_)
    refine held_take (i := 0) (d := 14) (v := .pointer (some ⟨w.heap.size, 1, none⟩)) rfl rfl (by kernel_rfl) (by kernel_rfl) (by kernel_rfl) (by kernel_rfl) (fun wx hS => by go_simp) HS ?_
    refine held_take (i := 1) (d := 15) (v := .string key) rfl rfl (by kernel_rfl) (by kernel_rfl) (by kernel_rfl) (by kernel_rfl) (fun wx hS => by have k0 := row_cellC (j := 1) hS.out.2 rfl; go_simp) HS ?_
    refine held_take (i := 2) (d := 16) (v := .string (⟨#[99, 114, 101, 97, 116, 101, 32]⟩ ++ key)) rfl rfl (by kernel_rfl) (by kernel_rfl) (by kernel_rfl) (by kernel_rfl) (fun wx hS => by go_simp) HS ?_
    refine held_take (i := 3) (d := 17) (v := .string ((⟨#[99, 114, 101, 97, 116, 101, 32]⟩ ++ key) ++ ⟨#[32]⟩)) rfl rfl (by kernel_rfl) (by kernel_rfl) (by kernel_rfl) (by kernel_rfl) (fun wx hS => by go_simp) HS ?_
    refine held_take (i := 4) (d := 18) (v := .pointer (some ⟨w.heap.size, 3, none⟩)) rfl rfl (by kernel_rfl) (by kernel_rfl) (by kernel_rfl) (by kernel_rfl) (fun wx hS => by go_simp) HS ?_
    refine held_take (i := 5) (d := 19) (v := .string data) rfl rfl (by kernel_rfl) (by kernel_rfl) (by kernel_rfl) (by kernel_rfl) (fun wx hS => by have k0 := row_cellC (j := 3) hS.out.2 rfl; go_simp) HS ?_
    refine wpAnyH_ready (rs := [6]) (by kernel_rfl) (by simp) (AllReadyH.cons rfl (fun K hK => ?_) AllReadyH.nil)
    go_simp
    refine (datatext_any data _ hd).mono ?_
    rintro e w3 ⟨rfl, hB⟩
    refine hK.out _ _ (Lib.hid ⟨below_via HS.out.1 hB, HS.out.2.keep hB⟩) (fun HS => ?_)
    clear hK K hB
    refine held_take (i := 7) (d := 21) (v := .string (((⟨#[99, 114, 101, 97, 116, 101, 32]⟩ ++ key) ++ ⟨#[32]⟩) ++ dataB data)) rfl rfl (by kernel_rfl) (by kernel_rfl) (by kernel_rfl) (by kernel_rfl) (fun wx hS => by go_simp) HS ?_
    refine held_take (i := 8) (d := 2) (v := .string (((⟨#[99, 114, 101, 97, 116, 101, 32]⟩ ++ key) ++ ⟨#[32]⟩) ++ dataB data)) rfl rfl (by kernel_rfl) (by kernel_rfl) (by kernel_rfl) (by kernel_rfl) (fun wx hS => by go_simp) HS ?_
    refine wpAnyH_done (by kernel_rfl) (NoPanic.normal ?_) _
    simp only [List.setIfInBounds_toArray, List.set_cons_zero, List.set_cons_succ]
    clear y0 y1 y2 y3
    go_wp2
    go_ret
    exact ⟨congrArg (fun s => Ending.returned (.string s)) HP.out.symm, HS.out.1⟩
  · have z0 : (⟨#[112, 117, 116, 32]⟩ : ByteArray).size = 4 := rfl
    have zs : (⟨#[32]⟩ : ByteArray).size = 1 := rfl
    have z1 : ((⟨#[112, 117, 116, 32]⟩ ++ key) : ByteArray).size ≤ 44 := by rw [ByteArray.size_append]; omega
    have k1 : ∀ w, (Op.stringOp .add (⟨#[112, 117, 116, 32]⟩ : ByteArray) (key : ByteArray)).run Tryd.prog w = .ok (.string (⟨#[112, 117, 116, 32]⟩ ++ key)) w := fun w => cat_runp _ _ 70000 (by omega) (by omega)
    have z2 : (((⟨#[112, 117, 116, 32]⟩ ++ key) ++ ⟨#[32]⟩) : ByteArray).size ≤ 45 := by rw [ByteArray.size_append]; omega
    have k2 : ∀ w, (Op.stringOp .add ((⟨#[112, 117, 116, 32]⟩ ++ key) : ByteArray) (⟨#[32]⟩ : ByteArray)).run Tryd.prog w = .ok (.string ((⟨#[112, 117, 116, 32]⟩ ++ key) ++ ⟨#[32]⟩)) w := fun w => cat_runp _ _ 70000 (by omega) (by omega)
    have z3 : ((((⟨#[112, 117, 116, 32]⟩ ++ key) ++ ⟨#[32]⟩) ++ decB ver) : ByteArray).size ≤ 65 := by rw [ByteArray.size_append]; omega
    have k3 : ∀ w, (Op.stringOp .add (((⟨#[112, 117, 116, 32]⟩ ++ key) ++ ⟨#[32]⟩) : ByteArray) (decB ver : ByteArray)).run Tryd.prog w = .ok (.string (((⟨#[112, 117, 116, 32]⟩ ++ key) ++ ⟨#[32]⟩) ++ decB ver)) w := fun w => cat_runp _ _ 70000 (by omega) (by omega)
    have z4 : (((((⟨#[112, 117, 116, 32]⟩ ++ key) ++ ⟨#[32]⟩) ++ decB ver) ++ ⟨#[32]⟩) : ByteArray).size ≤ 66 := by rw [ByteArray.size_append]; omega
    have k4 : ∀ w, (Op.stringOp .add ((((⟨#[112, 117, 116, 32]⟩ ++ key) ++ ⟨#[32]⟩) ++ decB ver) : ByteArray) (⟨#[32]⟩ : ByteArray)).run Tryd.prog w = .ok (.string ((((⟨#[112, 117, 116, 32]⟩ ++ key) ++ ⟨#[32]⟩) ++ decB ver) ++ ⟨#[32]⟩)) w := fun w => cat_runp _ _ 70000 (by omega) (by omega)
    have z5 : ((((((⟨#[112, 117, 116, 32]⟩ ++ key) ++ ⟨#[32]⟩) ++ decB ver) ++ ⟨#[32]⟩) ++ dataB data) : ByteArray).size ≤ 60066 := by rw [ByteArray.size_append]; omega
    have k5 : ∀ w, (Op.stringOp .add (((((⟨#[112, 117, 116, 32]⟩ ++ key) ++ ⟨#[32]⟩) ++ decB ver) ++ ⟨#[32]⟩) : ByteArray) (dataB data : ByteArray)).run Tryd.prog w = .ok (.string (((((⟨#[112, 117, 116, 32]⟩ ++ key) ++ ⟨#[32]⟩) ++ decB ver) ++ ⟨#[32]⟩) ++ dataB data)) w := fun w => cat_runp _ _ 70000 (by omega) (by omega)
    have y0 := HX9.out.cell (j := 0) (by simp)
    have y1 := HX9.out.cell (j := 1) (by simp)
    have y2 := HX9.out.cell (j := 2) (by simp)
    have y3 := HX9.out.cell (j := 3) (by simp)
    simp at y0 y1 y2 y3
    go_wp2_with fail
    refine wp_region_noPanic ?_
    refine wp_region_held_drew (S := (fun w' => Hid (Below w.heap.size w w' ∧ Row w' w.heap.size 38 #[.int .i64 2, .string key, .int .i64 ver, .string data]))) (by kernel_rfl) (Lib.hid ⟨HB9.out.drew, HX9.out.keep (Below.refl _ _).drew⟩) (fun HS => ?_)
    refine held_take (i := 0) (d := 24) (v := .pointer (some ⟨w.heap.size, 1, none⟩)) rfl rfl (by kernel_rfl) (by kernel_rfl) (by kernel_rfl) (by kernel_rfl) (fun wx hS => by go_simp) HS ?_
    refine held_take (i := 1) (d := 25) (v := .string key) rfl rfl (by kernel_rfl) (by kernel_rfl) (by kernel_rfl) (by kernel_rfl) (fun wx hS => by have k0 := row_cellC (j := 1) hS.out.2 rfl; go_simp) HS ?_
    refine held_take (i := 2) (d := 26) (v := .string (⟨#[112, 117, 116, 32]⟩ ++ key)) rfl rfl (by kernel_rfl) (by kernel_rfl) (by kernel_rfl) (by kernel_rfl) (fun wx hS => by go_simp) HS ?_
    refine held_take (i := 3) (d := 27) (v := .string ((⟨#[112, 117, 116, 32]⟩ ++ key) ++ ⟨#[32]⟩)) rfl rfl (by kernel_rfl) (by kernel_rfl) (by kernel_rfl) (by kernel_rfl) (fun wx hS => by go_simp) HS ?_
    refine held_take (i := 4) (d := 28) (v := .string (decB ver)) rfl rfl (by kernel_rfl) (by kernel_rfl) (by kernel_rfl) (by kernel_rfl) (fun wx hS => by go_simp) HS ?_
    refine held_take (i := 5) (d := 29) (v := .string (((⟨#[112, 117, 116, 32]⟩ ++ key) ++ ⟨#[32]⟩) ++ decB ver)) rfl rfl (by kernel_rfl) (by kernel_rfl) (by kernel_rfl) (by kernel_rfl) (fun wx hS => by go_simp) HS ?_
    refine held_take (i := 6) (d := 30) (v := .string ((((⟨#[112, 117, 116, 32]⟩ ++ key) ++ ⟨#[32]⟩) ++ decB ver) ++ ⟨#[32]⟩)) rfl rfl (by kernel_rfl) (by kernel_rfl) (by kernel_rfl) (by kernel_rfl) (fun wx hS => by go_simp) HS ?_
    refine held_take (i := 7) (d := 31) (v := .pointer (some ⟨w.heap.size, 3, none⟩)) rfl rfl (by kernel_rfl) (by kernel_rfl) (by kernel_rfl) (by kernel_rfl) (fun wx hS => by go_simp) HS ?_
    refine held_take (i := 8) (d := 32) (v := .string data) rfl rfl (by kernel_rfl) (by kernel_rfl) (by kernel_rfl) (by kernel_rfl) (fun wx hS => by have k0 := row_cellC (j := 3) hS.out.2 rfl; go_simp) HS ?_
    refine wpAnyH_ready (rs := [9]) (by kernel_rfl) (by simp) (AllReadyH.cons rfl (fun K hK => ?_) AllReadyH.nil)
    go_simp
    refine (datatext_any data _ hd).mono ?_
    rintro e w3 ⟨rfl, hB⟩
    refine hK.out _ _ (Lib.hid ⟨below_via HS.out.1 hB, HS.out.2.keep hB⟩) (fun HS => ?_)
    clear hK K hB
    refine held_take (i := 10) (d := 34) (v := .string (((((⟨#[112, 117, 116, 32]⟩ ++ key) ++ ⟨#[32]⟩) ++ decB ver) ++ ⟨#[32]⟩) ++ dataB data)) rfl rfl (by kernel_rfl) (by kernel_rfl) (by kernel_rfl) (by kernel_rfl) (fun wx hS => by go_simp) HS ?_
    refine held_take (i := 11) (d := 2) (v := .string (((((⟨#[112, 117, 116, 32]⟩ ++ key) ++ ⟨#[32]⟩) ++ decB ver) ++ ⟨#[32]⟩) ++ dataB data)) rfl rfl (by kernel_rfl) (by kernel_rfl) (by kernel_rfl) (by kernel_rfl) (fun wx hS => by go_simp) HS ?_
    refine wpAnyH_done (by kernel_rfl) (NoPanic.normal ?_) _
    simp only [List.setIfInBounds_toArray, List.set_cons_zero, List.set_cons_succ]
    clear y0 y1 y2 y3
    go_wp2
    go_ret
    exact ⟨congrArg (fun s => Ending.returned (.string s)) HP.out.symm, HS.out.1⟩
  · have z0 : (⟨#[100, 101, 108, 32]⟩ : ByteArray).size = 4 := rfl
    have zs : (⟨#[32]⟩ : ByteArray).size = 1 := rfl
    have z1 : ((⟨#[100, 101, 108, 32]⟩ ++ key) : ByteArray).size ≤ 44 := by rw [ByteArray.size_append]; omega
    have k1 : ∀ w, (Op.stringOp .add (⟨#[100, 101, 108, 32]⟩ : ByteArray) (key : ByteArray)).run Tryd.prog w = .ok (.string (⟨#[100, 101, 108, 32]⟩ ++ key)) w := fun w => cat_runp _ _ 70000 (by omega) (by omega)
    have z2 : (((⟨#[100, 101, 108, 32]⟩ ++ key) ++ ⟨#[32]⟩) : ByteArray).size ≤ 45 := by rw [ByteArray.size_append]; omega
    have k2 : ∀ w, (Op.stringOp .add ((⟨#[100, 101, 108, 32]⟩ ++ key) : ByteArray) (⟨#[32]⟩ : ByteArray)).run Tryd.prog w = .ok (.string ((⟨#[100, 101, 108, 32]⟩ ++ key) ++ ⟨#[32]⟩)) w := fun w => cat_runp _ _ 70000 (by omega) (by omega)
    have z3 : ((((⟨#[100, 101, 108, 32]⟩ ++ key) ++ ⟨#[32]⟩) ++ decB ver) : ByteArray).size ≤ 65 := by rw [ByteArray.size_append]; omega
    have k3 : ∀ w, (Op.stringOp .add (((⟨#[100, 101, 108, 32]⟩ ++ key) ++ ⟨#[32]⟩) : ByteArray) (decB ver : ByteArray)).run Tryd.prog w = .ok (.string (((⟨#[100, 101, 108, 32]⟩ ++ key) ++ ⟨#[32]⟩) ++ decB ver)) w := fun w => cat_runp _ _ 70000 (by omega) (by omega)
    have y0 := HX9.out.cell (j := 0) (by simp)
    have y1 := HX9.out.cell (j := 1) (by simp)
    have y2 := HX9.out.cell (j := 2) (by simp)
    have y3 := HX9.out.cell (j := 3) (by simp)
    simp at y0 y1 y2 y3
    go_wp2
    go_ret
    exact ⟨congrArg (fun s => Ending.returned (.string s)) HP.out.symm, HB9.out⟩
end Go.Proofs.YtcmbaclkfnecbaaDoor
