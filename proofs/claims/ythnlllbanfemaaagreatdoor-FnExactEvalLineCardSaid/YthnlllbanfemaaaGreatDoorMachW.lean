
/- The methods of the program's machine, walked. -/
import Derived.Test.YthnlllbanfemaaaGreatDoorMach
namespace Go.Proofs.YthnlllbanfemaaaGreatDoor
open Go.ChangeShapes Go.WideShapes Go.ChangeAt Go.RowKit
set_option linter.unusedVariables false
set_option maxRecDepth 100000

/-- The end of a method that turns the machine. -/
def MEnd (B M : Nat) (wv v : Value) (T : Strs) (N : List Int) (O : Recs) (w : World) (e : Ending) (w' : World) : Prop := e = .returned v ∧ MAt B M wv w' T N O ∧ Below B w w'
theorem one_at (w : World) (x : Value) (t : TypeId) : ∀ j u, [x][j]? = some u → (w.alloc (.cells #[x] t)).cell? ((⟨w.heap.size, 0, none⟩ : Addr).add j) = some u := one_new w x t

set_option maxHeartbeats 2000000 in
theorem pushText_any (B M : Nat) (wv : Value) (w : World) (T : Strs) (N : List Int) (O : Recs) (s : ByteArray) (h : MAt B M wv w T N O) (hf : T.length < 100) :
    Calls Tryz.prog 107 #[.pointer (some ⟨M, 0, none⟩), .string s] w (MEnd B M wv (.tuple #[]) (T ++ [s]) N O w) := by
  obtain ⟨tq, nq, oq, tc, nc, oc, nt, nn, no, h⟩ := h
  have hn : nt + 1 ≤ 100 := by have := h.lt; omega
  obtain ⟨i0, hi, hz0, hz1, hz2⟩ := info_parts infoStr
  have HM := Lib.hid h
  have HF := Lib.hid hn
  have HR := Lib.hid (h.row.otAl (.cells #[.string s] 9))
  have k0 := h.row.cell (j := 0) (by simp)
  have k1 := h.row.cell (j := 1) (by simp)
  have k2 := h.row.cell (j := 2) (by simp)
  have k3 := h.row.cell (j := 3) (by simp)
  simp at k0 k1 k2 k3
  have f1 := h.row.free 1
  have a1 : (w.alloc (.cells #[.string s] 9)).cell? ⟨M, 1, none⟩ = some (.slice tq nt tc) := (World.cell?_alloc_past _ _ _ h.row.lt).trans k1
  clear h hf
  go_enter Tryz.func107, Tryz.ntmps107
  go_wp2_with (at_builtin; (refine wpList_append_own _ rfl _ _ 23 rfl B 9 i0 _ 1 16 Tryz.underlying23 hi hz0 hz1 hz2 rfl (by decide) _ _ _ rfl (own_below HM.out.tx (below_alloc (Below.refl _ _) _)) ⟨w.heap.size, 0, none⟩ 1 1 [.string s] rfl rfl (one_at _ _ _) (fun u hu => by simp at hu; subst hu; rfl) (by unfold maxLen; omega) (by omega) (Nat.le_trans HM.out.lts (by simp)) ?_); intro v' w8 hown hgrow _; obtain ⟨q', c', rfl⟩ := own_form hown; have HP := Lib.hid (HM.out.push_tx s _ (by unfold cellsTx; rw [List.map_append]; exact hown) hgrow HF.out); have hr8 := Lib.hid (ot_row_grownT HR.out (own_below HM.out.tx (below_alloc (Below.refl _ _) _)) (by decide) hgrow); have f8 := hr8.out.free 1; have k8 := hr8.out.cell (j := 1) (by simp); simp at k8; clear hown hgrow hr8)
  go_end0
  exact ⟨rfl, ⟨_, _, _, _, _, _, _, _, _, HP.out.1⟩, HP.out.2⟩

set_option maxHeartbeats 2000000 in
theorem pushNum_any (B M : Nat) (wv : Value) (w : World) (T : Strs) (N : List Int) (O : Recs) (s : Int) (h : MAt B M wv w T N O) (hf : N.length < 100) :
    Calls Tryz.prog 111 #[.pointer (some ⟨M, 0, none⟩), .int .i64 s] w (MEnd B M wv (.tuple #[]) T (N ++ [s]) O w) := by
  obtain ⟨tq, nq, oq, tc, nc, oc, nt, nn, no, h⟩ := h
  have hn : nn + 1 ≤ 100 := by have := h.ln; omega
  obtain ⟨i0, hi, hz0, hz1, hz2⟩ := info_parts infoNumM
  have HM := Lib.hid h
  have HF := Lib.hid hn
  have HR := Lib.hid (h.row.otAl (.cells #[.int .i64 s] 2))
  have k0 := h.row.cell (j := 0) (by simp)
  have k1 := h.row.cell (j := 1) (by simp)
  have k2 := h.row.cell (j := 2) (by simp)
  have k3 := h.row.cell (j := 3) (by simp)
  simp at k0 k1 k2 k3
  have f1 := h.row.free 2
  have a2 : (w.alloc (.cells #[.int .i64 s] 2)).cell? ⟨M, 2, none⟩ = some (.slice nq nn nc) := (World.cell?_alloc_past _ _ _ h.row.lt).trans k2
  clear h hf
  go_enter Tryz.func111, Tryz.ntmps111
  go_wp2_with (at_builtin; (refine wpList_append_own _ rfl _ _ 117 rfl B 2 i0 _ 1 8 Tryz.underlying117 hi hz0 hz1 hz2 rfl (by decide) _ _ _ rfl (own_below HM.out.nm (below_alloc (Below.refl _ _) _)) ⟨w.heap.size, 0, none⟩ 1 1 [.int .i64 s] rfl rfl (one_at _ _ _) (fun u hu => by simp at hu; subst hu; rfl) (by unfold maxLen; omega) (by omega) (Nat.le_trans HM.out.lts (by simp)) ?_); intro v' w8 hown hgrow _; obtain ⟨q', c', rfl⟩ := own_form hown; have HP := Lib.hid (HM.out.push_nm s _ (by unfold cellsNm; rw [List.map_append]; exact hown) hgrow HF.out); have hr8 := Lib.hid (ot_row_grownT HR.out (own_below HM.out.nm (below_alloc (Below.refl _ _) _)) (by decide) hgrow); have f8 := hr8.out.free 2; have k8 := hr8.out.cell (j := 2) (by simp); simp at k8; clear hown hgrow hr8)
  go_end0
  exact ⟨rfl, ⟨_, _, _, _, _, _, _, _, _, HP.out.1⟩, HP.out.2⟩

set_option maxHeartbeats 2000000 in
theorem emit_any (B M : Nat) (wv : Value) (w : World) (T : Strs) (N : List Int) (O : Recs) (s : ByteArray) (m : Int) (h : MAt B M wv w T N O) (hf : O.length < 100) :
    Calls Tryz.prog 145 #[.pointer (some ⟨M, 0, none⟩), .string s, .int .i64 m] w (MEnd B M wv (.tuple #[]) T N (O ++ [(s, m)]) w) := by
  obtain ⟨tq, nq, oq, tc, nc, oc, nt, nn, no, h⟩ := h
  have hn : no + 1 ≤ 100 := by have := h.lo; omega
  have HM := Lib.hid h
  have HF := Lib.hid hn
  have HR := Lib.hid (h.row.otAl (.cells #[.string s, .int .i64 m] 54))
  have k0 := h.row.cell (j := 0) (by simp)
  have k1 := h.row.cell (j := 1) (by simp)
  have k2 := h.row.cell (j := 2) (by simp)
  have k3 := h.row.cell (j := 3) (by simp)
  simp at k0 k1 k2 k3
  have f1 := h.row.free 3
  clear h hf
  go_enter Tryz.func145, Tryz.ntmps145
  go_wp2_with (at_builtin; go_loud (refine append1_rc rfl _ _ rfl B (.slice oq no oc) no O rfl (own_below HM.out.rc (below_alloc (Below.refl _ _) _)) w.heap.size _ s m rfl (rc_new w _ _ _) (by omega) (Nat.le_trans HM.out.lts (by simp)) ?_); intro q' c' w8 hown hgrow; have HP := Lib.hid (HM.out.push_rc s m _ hown hgrow HF.out); have hr8 := Lib.hid (ot_row_grownT HR.out (own_below HM.out.rc (below_alloc (Below.refl _ _) _)) (by decide) hgrow); have f8 := hr8.out.free 3; have k8 := hr8.out.cell (j := 3) (by simp); simp at k8; clear hown hgrow hr8)
  go_end0
  exact ⟨rfl, ⟨_, _, _, _, _, _, _, _, _, HP.out.1⟩, HP.out.2⟩

set_option maxHeartbeats 2000000 in
theorem popText_any (B M : Nat) (wv : Value) (w : World) (T : Strs) (N : List Int) (O : Recs) (V : Strs) (s : ByteArray) (h : MAt B M wv w T N O) (hL : T = V ++ [s]) :
    Calls Tryz.prog 115 #[.pointer (some ⟨M, 0, none⟩)] w (MEnd B M wv (.string s) V N O w) := by
  obtain ⟨tq, nq, oq, tc, nc, oc, nt, nn, no, h⟩ := h
  have HM := Lib.hid (h.pop_tx hL rfl)
  obtain ⟨g, hg, ct, hk, hc, hcm⟩ := h.top_tx hL rfl
  have hfew := h.few
  obtain ⟨k, hkl⟩ : ∃ k, V.length = k := ⟨_, rfl⟩
  rw [hkl] at HM ct hk hc
  subst hg
  subst hk
  unfold maxLen at hcm
  have k0 := h.row.cell (j := 0) (by simp)
  have k1 := h.row.cell (j := 1) (by simp)
  have k2 := h.row.cell (j := 2) (by simp)
  have k3 := h.row.cell (j := 3) (by simp)
  simp at k0 k1 k2 k3
  have f1 := h.row.free 1
  have e1 : ((k : Int) + 1) - 1 = (k : Int) := by omega
  have sw : IntKind.i64.wrap ((k : Int) + 1 - 1) = (k : Int) := by rw [e1]; exact IntWalk.i64_in _ (by omega)
  clear h hL hkl
  go_enter Tryz.func115, Tryz.ntmps115
  go_wp2
  go_ret
  exact ⟨rfl, ⟨_, _, _, _, _, _, _, _, _, HM.out.1⟩, HM.out.2.1⟩

set_option maxHeartbeats 2000000 in
theorem popNum_any (B M : Nat) (wv : Value) (w : World) (T : Strs) (N : List Int) (O : Recs) (V : List Int) (s : Int) (h : MAt B M wv w T N O) (hL : N = V ++ [s]) :
    Calls Tryz.prog 118 #[.pointer (some ⟨M, 0, none⟩)] w (MEnd B M wv (.int .i64 s) T V O w) := by
  obtain ⟨tq, nq, oq, tc, nc, oc, nt, nn, no, h⟩ := h
  have HM := Lib.hid (h.pop_nm hL rfl)
  obtain ⟨g, hg, ct, hk, hc, hcm⟩ := h.top_nm hL rfl
  have hfew := h.few
  obtain ⟨k, hkl⟩ : ∃ k, V.length = k := ⟨_, rfl⟩
  rw [hkl] at HM ct hk hc
  subst hg
  subst hk
  unfold maxLen at hcm
  have k0 := h.row.cell (j := 0) (by simp)
  have k1 := h.row.cell (j := 1) (by simp)
  have k2 := h.row.cell (j := 2) (by simp)
  have k3 := h.row.cell (j := 3) (by simp)
  simp at k0 k1 k2 k3
  have f1 := h.row.free 2
  have e1 : ((k : Int) + 1) - 1 = (k : Int) := by omega
  have sw : IntKind.i64.wrap ((k : Int) + 1 - 1) = (k : Int) := by rw [e1]; exact IntWalk.i64_in _ (by omega)
  clear h hL hkl
  go_enter Tryz.func118, Tryz.ntmps118
  go_wp2
  go_ret
  exact ⟨rfl, ⟨_, _, _, _, _, _, _, _, _, HM.out.1⟩, HM.out.2.1⟩

theorem word_any (B M : Nat) (wq : Option Addr) (wn wc : Nat) (ws : Strs) (w : World) (T : Strs) (N : List Int) (O : Recs) (i : Int) (h : MAt B M (.slice wq wn wc) w T N O) (hw : StrsAt w wq wn ws) (hi : 0 ≤ i) :
    Calls Tryz.prog 108 #[.pointer (some ⟨M, 0, none⟩), .int .i64 i] w fun e w' => e = .returned (.string (wordAt ws i)) ∧ w' = w := by
  obtain ⟨tq, nq, oq, tc, nc, oc, nt, nn, no, h⟩ := h
  have hl := hw.length
  have k0 := h.row.cell (j := 0) (by simp)
  have k1 := h.row.cell (j := 1) (by simp)
  have k2 := h.row.cell (j := 2) (by simp)
  have k3 := h.row.cell (j := 3) (by simp)
  simp at k0 k1 k2 k3
  clear h
  by_cases hlt : i < (wn : Int)
  · obtain ⟨j, rfl⟩ : ∃ j : Nat, i = j := ⟨i.toNat, by omega⟩
    rcases hw.src with h0 | ⟨b, off, rfl, _, hc⟩
    · omega
    have cw := hc j (by omega)
    have HR := Lib.hid (show wordAt ws j = strAt ws j by unfold wordAt; rw [if_pos (by omega)]; rfl)
    obtain ⟨x, hx⟩ : ∃ x, strAt ws j = x := ⟨_, rfl⟩
    rw [hx] at HR cw
    have hge : ¬ (wn : Int) ≤ (j : Int) := by omega
    clear hc hw hx
    go_enter Tryz.func108, Tryz.ntmps108
    go_wp2
    go_ret
    exact ⟨by rw [HR.out]; rfl, rfl⟩
  · have HR := Lib.hid (show wordAt ws i = ⟨#[]⟩ by unfold wordAt; rw [if_neg (by omega)]; rfl)
    have hge : (wn : Int) ≤ i := by omega
    clear hw
    go_enter Tryz.func108, Tryz.ntmps108
    go_wp2
    go_ret
    exact ⟨by rw [HR.out]; rfl, rfl⟩

/-- Whether the text that was pushed last is too long. -/
theorem toolong_any (B M : Nat) (wv : Value) (w : World) (T : Strs) (N : List Int) (O : Recs) (h : MAt B M wv w T N O) (b : Bool) (hb : (∀ V s, T = V ++ [s] → b = decide (40 < s.size)) ∧ (T = [] → b = false)) :
    Calls Tryz.prog 68 #[.pointer (some ⟨M, 0, none⟩)] w fun e w' => e = .returned (.bool b) ∧ w' = w := by
  obtain ⟨tq, nq, oq, tc, nc, oc, nt, nn, no, h⟩ := h
  have hfew := h.few
  rcases List.eq_nil_or_concat T with hT | ⟨V, s, hT⟩
  · have hb2 := hb.2 hT
    subst hb2
    have hn0 : nt = 0 := by have := h.lt; rw [hT] at this; exact this.symm
    subst hn0
    have k0 := h.row.cell (j := 0) (by simp)
    have k1 := h.row.cell (j := 1) (by simp)
    have k2 := h.row.cell (j := 2) (by simp)
    have k3 := h.row.cell (j := 3) (by simp)
    simp at k0 k1 k2 k3
    clear h hb
    have sw : IntKind.i64.wrap (-1) = -1 := by decide
    go_enter Tryz.func68, Tryz.ntmps68
    go_wp2
    go_ret
    exact ⟨rfl, rfl⟩
  · rw [List.concat_eq_append] at hT
    have hb2 := hb.1 V s hT
    obtain ⟨g, hg, ct, hk, hc, hcm⟩ := h.top_tx hT rfl
    obtain ⟨k, hkl⟩ : ∃ k, V.length = k := ⟨_, rfl⟩
    rw [hkl] at ct hk hc
    subst hg
    subst hk
    have e1 : ((k : Int) + 1) - 1 = (k : Int) := by omega
    have sw : IntKind.i64.wrap ((k : Int) + 1 - 1) = (k : Int) := by rw [e1]; exact IntWalk.i64_in _ (by omega)
    have HB := Lib.hid (show b = decide ((40 : Int) < (s.size : Int)) by rw [hb2]; exact decide_eq_decide.2 (by omega))
    have k0 := h.row.cell (j := 0) (by simp)
    have k1 := h.row.cell (j := 1) (by simp)
    have k2 := h.row.cell (j := 2) (by simp)
    have k3 := h.row.cell (j := 3) (by simp)
    simp at k0 k1 k2 k3
    clear h hb hT hb2 hkl
    have hk0 : (0 : Int) ≤ (k : Int) := by omega
    go_enter Tryz.func68, Tryz.ntmps68
    go_wp2
    go_ret
    exact ⟨by rw [HB.out]; rfl, rfl⟩
end Go.Proofs.YthnlllbanfemaaaGreatDoor
