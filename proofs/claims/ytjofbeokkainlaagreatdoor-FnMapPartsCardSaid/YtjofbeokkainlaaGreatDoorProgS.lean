
/- The model's ProgOk. Only new blocks are made. -/
import Derived.Test.YtjofbeokkainlaaGreatDoorMg2
import Derived.Test.YtjofbeokkainlaaGreatDoorMg1
import Derived.Test.YtjofbeokkainlaaGreatDoorMg8
namespace Go.Proofs.YtjofbeokkainlaaGreatDoor
open Go.ChangeShapes Go.WideShapes Go.ChangeAt Go.RowKit
set_option linter.unusedVariables false
set_option maxRecDepth 100000

set_option maxHeartbeats 4000000 in
theorem l3fields_any (op n : Int) (s : ByteArray) (w : World) (hs : s.size ≤ maxLen) :
    Calls Tryz.prog 80 #[.agg #[.int .i64 op, .int .i64 n, .string s]] w (MadeBool (instrB op n s) w) := by
  unfold maxLen at hs
  by_cases e1 : op = 1
  · subst e1
    have HC := Lib.hid (show instrB 1 n s = (inB n 0 19 && decide (s.size = 0)) by unfold instrB inB; rfl)
    cases hn : inB n 0 19 with
    | false =>
      rw [hn, Bool.false_and] at HC
      have HN := Lib.hid hn
      clear hn
      go_enter Tryz.func80, Tryz.ntmps80
      go_wp2_with (first | (go_at_call 25; refine (l1in_any _ _ _ _).mono ?_; rw [HN.out]; rintro e w1 ⟨rfl, rfl⟩))
      go_ret
      exact ⟨ret_bool HC.out.symm, below_alloc (Below.refl _ _) _⟩
    | true =>
      rw [hn, Bool.true_and] at HC
      have HN := Lib.hid hn
      clear hn
      by_cases h0 : s.size = 0
      · have he : s.toList.isEmpty = true := ba_nil h0
        rw [decide_eq_true h0] at HC
        go_enter Tryz.func80, Tryz.ntmps80
        go_wp2_with (first | (go_at_call 25; refine (l1in_any _ _ _ _).mono ?_; rw [HN.out]; rintro e w1 ⟨rfl, rfl⟩))
        go_ret
        exact ⟨ret_bool HC.out.symm, below_alloc (Below.refl _ _) _⟩
      · have he : s.toList.isEmpty = false := ba_some (by omega)
        rw [decide_eq_false h0] at HC
        go_enter Tryz.func80, Tryz.ntmps80
        go_wp2_with (first | (go_at_call 25; refine (l1in_any _ _ _ _).mono ?_; rw [HN.out]; rintro e w1 ⟨rfl, rfl⟩))
        go_ret
        exact ⟨ret_bool HC.out.symm, below_alloc (Below.refl _ _) _⟩
  by_cases e2 : op = 2
  · subst e2
    have HC := Lib.hid (show instrB 2 n s = (decide (n = 0) && pushB s) by unfold instrB; rfl)
    have HX : Hid (Row (w.alloc (.cells #[.int .i64 2, .int .i64 n, .string s] 89)) w.heap.size 89 #[.int .i64 2, .int .i64 n, .string s]) := Lib.hid (by
      have := heap_alloc_new w (.cells #[.int .i64 2, .int .i64 n, .string s] 89)
      simpa [Row] using this)
    go_enter Tryz.func80, Tryz.ntmps80
    go_wp2
    go_loopw [3] (fun i wr => ∃ k : Nat, k ≤ s.size ∧ i = .int .i64 k ∧ Hid (Below w.heap.size w wr ∧ Row wr w.heap.size 89 #[.int .i64 2, .int .i64 n, .string s]) ∧ Hid (∀ j, (hj : j < s.size) → j < k → pbB s[j].toNat = true)) (fun i _ => s.size - (intOf i).toNat)
    case atStart => exact ⟨0, Nat.zero_le _, rfl, Lib.hid ⟨below_alloc (Below.refl _ _) _, HX.out⟩, Lib.hid fun j _ h => by omega⟩
    case round =>
      obtain ⟨k, hk, rfl, HWR, HW⟩ := hrel
      have HX := Lib.hid HWR.out.2
      have y0 := HX.out.cell (j := 0) (by simp)
      have y1 := HX.out.cell (j := 1) (by simp)
      have y2 := HX.out.cell (j := 2) (by simp)
      simp at y0 y1 y2
      have HB := Lib.hid HWR.out.1
      by_cases hlt : k < s.size
      · by_cases h33 : (s[k].toNat : Int) < 33
        · have HK := Lib.hid (show instrB 2 n s = false by rw [HC.out, push_bad hlt (by unfold pbB; exact decide_eq_false (by omega)), Bool.and_false])
          go_wp2
          go_ret
          exact ⟨ret_bool HK.out.symm, HB.out⟩
        · by_cases h126 : (126 : Int) < (s[k].toNat : Int)
          · have HK := Lib.hid (show instrB 2 n s = false by rw [HC.out, push_bad hlt (by unfold pbB; exact decide_eq_false (by omega)), Bool.and_false])
            go_wp2
            go_ret
            exact ⟨ret_bool HK.out.symm, HB.out⟩
          · have HQ := Lib.hid (show pbB s[k].toNat = true by unfold pbB; exact decide_eq_true (by omega))
            go_wp2
            go_roundw
            case rel => exact ⟨k + 1, by omega, by go_num, Lib.hid ⟨by first | exact HB.out | exact below_drewN HB.out _, by first | exact HX.out | exact HX.out.keep (below_drewN (Below.refl _ _) _)⟩, Lib.hid fun j hj h => by
              rcases Nat.lt_or_ge j k with h | h
              · exact HW.out j hj h
              · obtain rfl : j = k := by omega
                exact HQ.out⟩
            case measure => simp [intOf]; omega
      · have HK := Lib.hid (show pushB s = decide (s.size ≤ 20) from push_all (fun j hj => HW.out j hj (by omega)))
        by_cases hn : n = 0
        · subst hn
          have HZ := Lib.hid (show instrB 2 0 s = decide ((s.size : Int) ≤ 20) by rw [HC.out, HK.out, decide_eq_true rfl, Bool.true_and]; exact decide_eq_decide.2 (by omega))
          go_wp2
          go_ret
          exact ⟨ret_bool HZ.out.symm, HB.out⟩
        · have HZ := Lib.hid (show instrB 2 n s = false by rw [HC.out, decide_eq_false hn, Bool.false_and])
          have hv2 : ((n : Int) == 0) = false := by rw [beq_eq_false_iff_ne]; exact hn
          go_wp2
          go_ret
          exact ⟨ret_bool HZ.out.symm, HB.out⟩
  by_cases e3 : op = 3
  · subst e3
    have HC := Lib.hid (show instrB 3 n s = decide (s.size = 0) by unfold instrB; rfl)
    by_cases h0 : s.size = 0
    · have he : s.toList.isEmpty = true := ba_nil h0
      rw [decide_eq_true h0] at HC
      go_enter Tryz.func80, Tryz.ntmps80
      go_wp2
      go_ret
      exact ⟨ret_bool HC.out.symm, below_alloc (Below.refl _ _) _⟩
    · have he : s.toList.isEmpty = false := ba_some (by omega)
      rw [decide_eq_false h0] at HC
      go_enter Tryz.func80, Tryz.ntmps80
      go_wp2
      go_ret
      exact ⟨ret_bool HC.out.symm, below_alloc (Below.refl _ _) _⟩
  have k1 : ((op : Int) == 1) = false := by rw [beq_eq_false_iff_ne]; exact e1
  have k2 : ((op : Int) == 2) = false := by rw [beq_eq_false_iff_ne]; exact e2
  have k3 : ((op : Int) == 3) = false := by rw [beq_eq_false_iff_ne]; exact e3
  have hop : (decide (1 ≤ op ∧ op ≤ 14)) = decide (4 ≤ op ∧ op ≤ 14) := decide_eq_decide.2 (by omega)
  have HC := Lib.hid (show instrB op n s = (inB op 1 14 && (decide (n = 0) && decide (s.size = 0))) by unfold instrB inB; rw [if_neg e1, if_neg e2, if_neg e3, hop])
  clear e1 e2 e3 hop
  cases hn : inB op 1 14 with
  | false =>
    rw [hn, Bool.false_and] at HC
    have HN := Lib.hid hn
    clear hn
    go_enter Tryz.func80, Tryz.ntmps80
    go_wp2_with (first | (go_at_call 25; refine (l1in_any _ _ _ _).mono ?_; rw [HN.out]; rintro e w1 ⟨rfl, rfl⟩))
    go_ret
    exact ⟨ret_bool HC.out.symm, below_alloc (Below.refl _ _) _⟩
  | true =>
    rw [hn, Bool.true_and] at HC
    have HN := Lib.hid hn
    clear hn
    by_cases h0 : n = 0
    · subst h0
      rw [decide_eq_true rfl, Bool.true_and] at HC
      by_cases h0 : s.size = 0
      · have he : s.toList.isEmpty = true := ba_nil h0
        rw [decide_eq_true h0] at HC
        go_enter Tryz.func80, Tryz.ntmps80
        go_wp2_with (first | (go_at_call 25; refine (l1in_any _ _ _ _).mono ?_; rw [HN.out]; rintro e w1 ⟨rfl, rfl⟩))
        go_ret
        exact ⟨ret_bool HC.out.symm, below_alloc (Below.refl _ _) _⟩
      · have he : s.toList.isEmpty = false := ba_some (by omega)
        rw [decide_eq_false h0] at HC
        go_enter Tryz.func80, Tryz.ntmps80
        go_wp2_with (first | (go_at_call 25; refine (l1in_any _ _ _ _).mono ?_; rw [HN.out]; rintro e w1 ⟨rfl, rfl⟩))
        go_ret
        exact ⟨ret_bool HC.out.symm, below_alloc (Below.refl _ _) _⟩
    · have hv2 : ((n : Int) == 0) = false := by rw [beq_eq_false_iff_ne]; exact h0
      rw [decide_eq_false h0, Bool.false_and] at HC
      clear h0
      go_enter Tryz.func80, Tryz.ntmps80
      go_wp2_with (first | (go_at_call 25; refine (l1in_any _ _ _ _).mono ?_; rw [HN.out]; rintro e w1 ⟨rfl, rfl⟩))
      go_ret
      exact ⟨ret_bool HC.out.symm, below_alloc (Below.refl _ _) _⟩

def tabTk : Array Value := #[.string ⟨#[]⟩, .string ⟨#[]⟩, .string ⟨#[]⟩, .string ⟨#[84, 84]⟩, .string ⟨#[84]⟩, .string ⟨#[84]⟩, .string ⟨#[78]⟩, .string ⟨#[78, 78]⟩, .string ⟨#[78, 78]⟩, .string ⟨#[78, 78]⟩, .string ⟨#[78, 78]⟩, .string ⟨#[84, 84]⟩, .string ⟨#[84, 78]⟩, .string ⟨#[84, 78, 78]⟩]
def tabGv : Array Value := #[.string ⟨#[84]⟩, .string ⟨#[84]⟩, .string ⟨#[78]⟩, .string ⟨#[84]⟩, .string ⟨#[78]⟩, .string ⟨#[78]⟩, .string ⟨#[84]⟩, .string ⟨#[78]⟩, .string ⟨#[78]⟩, .string ⟨#[78]⟩, .string ⟨#[78]⟩, .string ⟨#[78]⟩, .string ⟨#[]⟩, .string ⟨#[]⟩]
theorem tabTk_at (x : Nat) (h : x < 14) : tabTk[x]? = some (.string (takesB (x + 1))) := by
  have : ∀ i : Fin 14, tabTk[i.val]? = some (.string (takesB (i.val + 1))) := fun i => by
    match i with
    | 0 => rfl | 1 => rfl | 2 => rfl | 3 => rfl | 4 => rfl | 5 => rfl | 6 => rfl | 7 => rfl | 8 => rfl | 9 => rfl | 10 => rfl | 11 => rfl | 12 => rfl | 13 => rfl
  exact this ⟨x, h⟩
theorem tabGv_at (x : Nat) (h : x < 14) : tabGv[x]? = some (.string (givesB (x + 1))) := by
  have : ∀ i : Fin 14, tabGv[i.val]? = some (.string (givesB (i.val + 1))) := fun i => by
    match i with
    | 0 => rfl | 1 => rfl | 2 => rfl | 3 => rfl | 4 => rfl | 5 => rfl | 6 => rfl | 7 => rfl | 8 => rfl | 9 => rfl | 10 => rfl | 11 => rfl | 12 => rfl | 13 => rfl
  exact this ⟨x, h⟩

def MadeTwo (a b : ByteArray) (w : World) (e : Ending) (w' : World) : Prop := e = .returned (.tuple #[.string a, .string b]) ∧ Below w.heap.size w w'

theorem more1d {w w0 : World} {A : Nat} {T : TypeId} {tab : Array Value} (h : Hid (Below w.heap.size w (w0.alloc (.cells tab T (0, 0))).drew)) (hA : w0.heap.size = A) :
    Hid (Below w.heap.size w (w0.alloc (.cells tab T (0, 0))).drew ∧ Row (w0.alloc (.cells tab T (0, 0))).drew A T tab) := by
  subst hA
  exact Lib.hid ⟨h.out, (Row.new _ _ _).keep (Below.refl _ _).drew⟩
theorem more3d {w w0 : World} {B A : Nat} {E T : TypeId} {cur tab : Array Value} (h : Hid (Below w.heap.size w (w0.alloc (.cells tab T (0, 0))).drew ∧ Row (w0.alloc (.cells tab T (0, 0))).drew B E cur)) (hA : w0.heap.size = A) :
    Hid (Below w.heap.size w (w0.alloc (.cells tab T (0, 0))).drew ∧ Row (w0.alloc (.cells tab T (0, 0))).drew B E cur ∧ Row (w0.alloc (.cells tab T (0, 0))).drew A T tab) := by
  subst hA
  exact Lib.hid ⟨h.out.1, h.out.2, (Row.new _ _ _).keep (Below.refl _ _).drew⟩
theorem row_tab {w : World} {B j : Nat} {E : TypeId} {cur : Array Value} {v : Value} (h : Row w B E cur) (hv : cur[j]? = some v) : w.cell? ⟨B, j, none⟩ = some v := by
  unfold Row at h
  simp [World.cell?, h, hv]

set_option maxHeartbeats 4000000 in
theorem l3takes_any (x : Nat) (w : World) (hx : x < 14) : Calls Tryz.prog 81 #[.int .i64 ((x : Int) + 1)] w (MadeTwo (takesB (x + 1)) (givesB (x + 1)) w) := by
  have e : ((x : Int) + 1) - 1 = (x : Int) := by omega
  have h0 : (0 : Int) ≤ (x : Int) := by omega
  have h1 : (x : Int) < 14 := by omega
  have s0 : IntKind.i64.wrap (x : Int) = (x : Int) := IntWalk.i64_in _ (by omega)
  have s1 : IntKind.i64.wrap ((x : Int) + 1 - 1) = (x : Int) := (congrArg _ e).trans s0
  go_enter Tryz.func81, Tryz.ntmps81
  go_wp2_with fail
  refine wp_region_noPanic ?_
  refine wp_region_held_drew (S := (fun w' => Hid (Below w.heap.size w w'))) (by kernel_rfl) (Lib.hid (Below.refl _ _).drew) (fun HS => ?_)
  refine held_take (i := 1) (d := 5) (v := .int .i64 ((x : Int) + 1)) rfl rfl (by kernel_rfl) (by kernel_rfl) (by kernel_rfl) (by kernel_rfl) (fun wx hS => by go_simp) HS ?_
  refine held_take (i := 2) (d := 6) (v := .int .i64 (x : Int)) rfl rfl (by kernel_rfl) (by kernel_rfl) (by kernel_rfl) (by kernel_rfl) (fun wx hS => by go_simp) HS ?_
  refine held_take (i := 6) (d := 10) (v := .int .i64 ((x : Int) + 1)) rfl rfl (by kernel_rfl) (by kernel_rfl) (by kernel_rfl) (by kernel_rfl) (fun wx hS => by go_simp) HS ?_
  refine held_take (i := 7) (d := 11) (v := .int .i64 (x : Int)) rfl rfl (by kernel_rfl) (by kernel_rfl) (by kernel_rfl) (by kernel_rfl) (fun wx hS => by go_simp) HS ?_
  refine wpAnyH_ready (rs := [0, 5]) (by kernel_rfl) (by simp) (AllReadyH.cons rfl (fun K hK => ?_) (AllReadyH.cons rfl (fun K hK => ?_) AllReadyH.nil))
  · go_simp
    refine hK.out _ _ (Lib.hid (by first | exact (below_alloc (Below.refl _ _) _).drew | exact below_alloc HS.out _)) (fun HS => ?_)
    clear hK K
    refine held_mono (S' := (fun w' => Hid (Below w.heap.size w w' ∧ Row w' (w.heap.size) 9 tabTk))) (fun w' h => Lib.hid h.out.1) ?_
    have HS := more1d (tab := tabTk) (A := w.heap.size) HS rfl
    refine held_take (i := 3) (d := 7) (v := .pointer (some ⟨w.heap.size, x, none⟩)) rfl rfl (by kernel_rfl) (by kernel_rfl) (by kernel_rfl) (by kernel_rfl) (fun wx hS => by go_simp) HS ?_
    refine held_take (i := 4) (d := 8) (v := .string (takesB (x + 1))) rfl rfl (by kernel_rfl) (by kernel_rfl) (by kernel_rfl) (by kernel_rfl) (fun wx hS => by have k0 := row_tab hS.out.2 (tabTk_at x hx); go_simp) HS ?_
    refine wpAnyH_ready (rs := [5, 10]) (by kernel_rfl) (by simp) (AllReadyH.cons rfl (fun K hK => ?_) (AllReadyH.cons rfl (fun K hK => ?_) AllReadyH.nil))
    · go_simp
      refine hK.out _ _ (Lib.hid ⟨by first | exact below_alloc HS.out.1 _ | exact (below_alloc (below_alloc (Below.refl _ _) _) _).drew, HS.out.2.alloc _⟩) (fun HS => ?_)
      clear hK K
      refine held_mono (S' := (fun w' => Hid (Below w.heap.size w w' ∧ Row w' (w.heap.size) 9 tabTk ∧ Row w' (w.heap.size + 1) 9 tabGv))) (fun w' h => Lib.hid ⟨h.out.1, h.out.2.1⟩) ?_
      have HS := more3d (tab := tabGv) (A := w.heap.size + 1) HS (by simp)
      refine held_take (i := 8) (d := 12) (v := .pointer (some ⟨w.heap.size + 1, x, none⟩)) rfl rfl (by kernel_rfl) (by kernel_rfl) (by kernel_rfl) (by kernel_rfl) (fun wx hS => by go_simp) HS ?_
      refine held_take (i := 9) (d := 13) (v := .string (givesB (x + 1))) rfl rfl (by kernel_rfl) (by kernel_rfl) (by kernel_rfl) (by kernel_rfl) (fun wx hS => by have k0 := row_tab hS.out.2.2 (tabGv_at x hx); go_simp) HS ?_
      refine held_take (i := 10) (d := 2) (v := .string (takesB (x + 1))) rfl rfl (by kernel_rfl) (by kernel_rfl) (by kernel_rfl) (by kernel_rfl) (fun wx hS => by go_simp) HS ?_
      refine held_take (i := 11) (d := 3) (v := .string (givesB (x + 1))) rfl rfl (by kernel_rfl) (by kernel_rfl) (by kernel_rfl) (by kernel_rfl) (fun wx hS => by go_simp) HS ?_
      refine wpAnyH_done (by kernel_rfl) (NoPanic.normal ?_) _
      simp only [List.setIfInBounds_toArray, List.set_cons_zero, List.set_cons_succ]
      go_wp2
      go_ret2
      exact ⟨rfl, HS.out.1⟩
    · go_simp
      refine hK.out _ _ (Lib.hid HS.out) (fun HS => ?_)
      clear hK K
      refine wpAnyH_ready (rs := [5]) (by kernel_rfl) (by simp) (AllReadyH.cons rfl (fun K hK => ?_) AllReadyH.nil)
      · go_simp
        refine hK.out _ _ (Lib.hid ⟨by first | exact below_alloc HS.out.1 _ | exact (below_alloc (below_alloc (Below.refl _ _) _) _).drew, HS.out.2.alloc _⟩) (fun HS => ?_)
        clear hK K
        refine held_mono (S' := (fun w' => Hid (Below w.heap.size w w' ∧ Row w' (w.heap.size) 9 tabTk ∧ Row w' (w.heap.size + 1) 9 tabGv))) (fun w' h => Lib.hid ⟨h.out.1, h.out.2.1⟩) ?_
        have HS := more3d (tab := tabGv) (A := w.heap.size + 1) HS (by simp)
        refine held_take (i := 8) (d := 12) (v := .pointer (some ⟨w.heap.size + 1, x, none⟩)) rfl rfl (by kernel_rfl) (by kernel_rfl) (by kernel_rfl) (by kernel_rfl) (fun wx hS => by go_simp) HS ?_
        refine held_take (i := 9) (d := 13) (v := .string (givesB (x + 1))) rfl rfl (by kernel_rfl) (by kernel_rfl) (by kernel_rfl) (by kernel_rfl) (fun wx hS => by have k0 := row_tab hS.out.2.2 (tabGv_at x hx); go_simp) HS ?_
        refine held_take (i := 11) (d := 3) (v := .string (givesB (x + 1))) rfl rfl (by kernel_rfl) (by kernel_rfl) (by kernel_rfl) (by kernel_rfl) (fun wx hS => by go_simp) HS ?_
        refine wpAnyH_done (by kernel_rfl) (NoPanic.normal ?_) _
        simp only [List.setIfInBounds_toArray, List.set_cons_zero, List.set_cons_succ]
        go_wp2
        go_ret2
        exact ⟨rfl, HS.out.1⟩
  · go_simp
    refine hK.out _ _ (Lib.hid (by first | exact (below_alloc (Below.refl _ _) _).drew | exact below_alloc HS.out _)) (fun HS => ?_)
    clear hK K
    refine held_mono (S' := (fun w' => Hid (Below w.heap.size w w' ∧ Row w' (w.heap.size) 9 tabGv))) (fun w' h => Lib.hid h.out.1) ?_
    have HS := more1d (tab := tabGv) (A := w.heap.size) HS rfl
    refine held_take (i := 8) (d := 12) (v := .pointer (some ⟨w.heap.size, x, none⟩)) rfl rfl (by kernel_rfl) (by kernel_rfl) (by kernel_rfl) (by kernel_rfl) (fun wx hS => by go_simp) HS ?_
    refine held_take (i := 9) (d := 13) (v := .string (givesB (x + 1))) rfl rfl (by kernel_rfl) (by kernel_rfl) (by kernel_rfl) (by kernel_rfl) (fun wx hS => by have k0 := row_tab hS.out.2 (tabGv_at x hx); go_simp) HS ?_
    refine wpAnyH_ready (rs := [0]) (by kernel_rfl) (by simp) (AllReadyH.cons rfl (fun K hK => ?_) AllReadyH.nil)
    · go_simp
      refine hK.out _ _ (Lib.hid ⟨by first | exact below_alloc HS.out.1 _ | exact (below_alloc (below_alloc (Below.refl _ _) _) _).drew, HS.out.2.alloc _⟩) (fun HS => ?_)
      clear hK K
      refine held_mono (S' := (fun w' => Hid (Below w.heap.size w w' ∧ Row w' (w.heap.size) 9 tabGv ∧ Row w' (w.heap.size + 1) 9 tabTk))) (fun w' h => Lib.hid ⟨h.out.1, h.out.2.1⟩) ?_
      have HS := more3d (tab := tabTk) (A := w.heap.size + 1) HS (by simp)
      refine held_take (i := 3) (d := 7) (v := .pointer (some ⟨w.heap.size + 1, x, none⟩)) rfl rfl (by kernel_rfl) (by kernel_rfl) (by kernel_rfl) (by kernel_rfl) (fun wx hS => by go_simp) HS ?_
      refine held_take (i := 4) (d := 8) (v := .string (takesB (x + 1))) rfl rfl (by kernel_rfl) (by kernel_rfl) (by kernel_rfl) (by kernel_rfl) (fun wx hS => by have k0 := row_tab hS.out.2.2 (tabTk_at x hx); go_simp) HS ?_
      refine held_take (i := 10) (d := 2) (v := .string (takesB (x + 1))) rfl rfl (by kernel_rfl) (by kernel_rfl) (by kernel_rfl) (by kernel_rfl) (fun wx hS => by go_simp) HS ?_
      refine held_take (i := 11) (d := 3) (v := .string (givesB (x + 1))) rfl rfl (by kernel_rfl) (by kernel_rfl) (by kernel_rfl) (by kernel_rfl) (fun wx hS => by go_simp) HS ?_
      refine wpAnyH_done (by kernel_rfl) (NoPanic.normal ?_) _
      simp only [List.setIfInBounds_toArray, List.set_cons_zero, List.set_cons_succ]
      go_wp2
      go_ret2
      exact ⟨rfl, HS.out.1⟩
end Go.Proofs.YtjofbeokkainlaaGreatDoor
