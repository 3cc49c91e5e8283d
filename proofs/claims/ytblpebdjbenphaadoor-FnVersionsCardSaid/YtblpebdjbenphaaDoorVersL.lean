
/- The law on versions, walked: drawn commands, each of them. -/
import Derived.Test.YtblpebdjbenphaaDoorStpL
import Derived.Test.YtblpebdjbenphaaDoorHeld
namespace Go.Proofs.YtblpebdjbenphaaDoor
open Go.ChangeShapes Go.WideShapes Go.ChangeAt Go.RowKit
set_option linter.unusedVariables false
set_option maxRecDepth 100000

theorem cmds_takeA {w : World} {a : Option Addr} {ca k n : Nat} {l : Cmds} (h : CmdsAt w a k l) : CmdsAt w (if ca = 0 then a else a.map fun x => x.add (0 * n)) k l := by
  by_cases h0 : ca = 0
  · rw [if_pos h0]; exact h
  · rw [if_neg h0]
    cases a with
    | none => exact h
    | some x =>
      have : x.add (0 * n) = x := by unfold Addr.add; rw [Nat.zero_mul, if_pos rfl]
      rw [Option.map_some, this]; exact h
structure VP (w : World) (q : Option Addr) (k : Nat) (L : Cmds) (kq tq : Option Addr) (nc : Nat) (cs : List Int) (wr : World) : Prop where
  below : Below w.heap.size w wr
  l : CmdsAt wr q k L
  kc : NumsAt wr kq nc cs
  tc : NumsAt wr tq nc cs
theorem VP.keep {w : World} {q : Option Addr} {k : Nat} {L : Cmds} {kq tq : Option Addr} {nc : Nat} {cs : List Int} {wr w2 : World} (h : VP w q k L kq tq nc cs wr) (hB : Below wr.heap.size wr w2) : VP w q k L kq tq nc cs w2 :=
  ⟨below_via h.below hB, h.l.keep hB, h.kc.keep hB, h.tc.keep hB⟩
theorem cmds_look {w : World} {b off n : Nat} {L : Cmds} {q : Option Addr} (h : CmdsAt w q n L) (hq : q = some ⟨b, off, none⟩) {k : Nat} (hk : k < n) : w.cell? ⟨b, off + k * 4, none⟩ = some (.int .i64 (cmd0 L k)) ∧ w.cell? ⟨b, off + k * 4 + 1, none⟩ = some (.string (cmd1 L k)) ∧ w.cell? ⟨b, off + k * 4 + 2, none⟩ = some (.int .i64 (cmd2 L k)) ∧ w.cell? ⟨b, off + k * 4 + 3, none⟩ = some (.string (cmd3 L k)) := by
  rcases h.src with h0 | ⟨b', off', hq', _, hc⟩
  · omega
  · rw [hq] at hq'
    simp only [Option.some.injEq, Addr.mk.injEq, and_true] at hq'
    obtain ⟨rfl, rfl⟩ := hq'
    exact hc k hk
theorem ver_bd {key : ByteArray} {E : Els} (h : EP E) : 0 ≤ verB key (objsOf E) (gonsOf E) ∧ verB key (objsOf E) (gonsOf E) ≤ 1000000 := by
  rw [ver_look h.inc]
  cases hl : lookE key E with
  | none => simp [verE]
  | some e => have := ep_look h hl; simp only [verE]; omega
/-- What StorePlayed comes to on a list of at most 200 commands, told for the walk. -/
def MadeV (E : Els) (nl nm : Nat) (w : World) (e : Ending) (w' : World) : Prop :=
  ∃ q1 c1 q2 c2 v, e = .returned (.tuple #[.agg #[.slice q1 nl c1, .slice q2 nm c2], v]) ∧ Below w.heap.size w w' ∧ StoAt w' q1 nl (objsOf E) q2 nm (gonsOf E)
theorem toV {E : Els} {cs : List Int} {nl nm : Nat} (hp : StoP (objsOf E) (gonsOf E)) (hl : (objsOf E).length = nl) (hm : (gonsOf E).length = nm) {w : World} (e : Ending) (w' : World) (h : MadeQ E cs w e w') : MadeV E nl nm w e w' := by
  obtain ⟨q1, n1, c1, q2, n2, c2, qc, nc', cc, rfl, hB, hK, hcl, mid, hmid, hS, _⟩ := h
  have h1 := hS.len1
  have h2 := hS.len2
  rw [hl] at h1
  rw [hm] at h2
  subst h1 h2
  exact ⟨q1, c1, q2, c2, _, rfl, hB, hS.sto hp⟩

set_option maxHeartbeats 8000000 in
theorem fnVersions_walk (w : World) (a : Option Addr) (len cap : Nat) (A : ErrA) (h : Src w a len) (hA : TabsEA A w) :
    Calls Tryd.prog 6 #[.slice a len cap] w fun e w' => e = .returned (.bool true) ∧ Below w.heap.size w w' := by
  have H := Lib.hid h
  have HTA := Lib.hid hA
  clear h hA
  by_cases hbig : 1048576 < len
  · go_enter Tryd.func6, Tryd.ntmps6
    go_wp2_with (go_at_call 7; refine (big_yes _ _ _ _ hbig).mono ?_; rintro e w' ⟨rfl, rfl⟩)
    go_ret
    exact ⟨rfl, Below.refl _ _⟩
  go_enter Tryd.func6, Tryd.ntmps6
  go_wp2_with (go_at_call 7; refine (big_no _ _ _ _ hbig).mono ?_; rintro e w' ⟨rfl, rfl⟩)
  refine (drawstp_any _ _ _ _ H.out).mono ?_
  rintro e w1 ⟨q, k, cc, L, rfl, hk, hkc, hqn, hs, hC, hB⟩
  have HL := Lib.hid hC
  have HSH := Lib.hid hs
  have HB := Lib.hid hB
  have HQN := Lib.hid hqn
  clear hC hs hB hqn
  obtain ⟨E, hE⟩ : ∃ E, (playE L k).1 = E := ⟨_, rfl⟩
  obtain ⟨cs, hcs⟩ : ∃ cs, (playE L k).2 = cs := ⟨_, rfl⟩
  have HEP := Lib.hid (show EP E by rw [← hE]; exact playE_ep L k)
  obtain ⟨nc, hnc⟩ : ∃ n, cs.length = n := ⟨_, rfl⟩
  have hnk : nc ≤ 1000 := by
    rw [← hnc, ← hcs]
    unfold playE
    split
    · simp
    · have := play_len L k; omega
  obtain ⟨Lo, hLo⟩ : ∃ x, objsOf E = x := ⟨_, rfl⟩
  obtain ⟨Mo, hMo⟩ : ∃ x, gonsOf E = x := ⟨_, rfl⟩
  obtain ⟨nl, hnl⟩ : ∃ n, Lo.length = n := ⟨_, rfl⟩
  obtain ⟨nm, hnm⟩ : ∃ n, Mo.length = n := ⟨_, rfl⟩
  have HQ := Lib.hid (fun w e w' => toQ (stop_of_ep HEP.out) hLo hMo hnl hnm hnc hnk (w := w) e w')
  have HQ2 := Lib.hid (fun w e w' => toQ2 (stop_of_ep HEP.out) hLo hMo hnl hnm hnc hnk (w := w) e w')
  have HEQ := Lib.hid hE
  have HCS := Lib.hid hcs
  have HNC := Lib.hid hnc
  clear hE hcs hLo hMo hnl hnm hnc
  go_wp2_with fail
  refine ((played_any q k cc L A _ HL.out (HTA.out.keep HB.out) (by omega)).mono (by rw [HEQ.out, HCS.out]; exact HQ.out _)).mono ?_
  rintro e w2 ⟨q3, c3, q4, c4, kq, kc, rfl, hB2, hT, hN⟩
  obtain ⟨w3, hw3⟩ : ∃ x, w2.alloc (.cells #[.slice q3 nl c3, .slice q4 nm c4] 27) = x := ⟨_, rfl⟩
  have hal : Below w2.heap.size w2 w3 := by rw [← hw3]; exact below_alloc (Below.refl _ _) _
  have HN := Lib.hid (hN.keep hal)
  have HL := Lib.hid ((HL.out.keep hB2).keep hal)
  have HB := Lib.hid (below_via (below_via HB.out hB2) hal)
  clear hB2 hT hN hal
  go_wp2_with fail
  try rw [hw3]
  clear hw3
  refine ((splayed_any q k cc L _ HL.out (by omega)).mono (by rw [HEQ.out, HCS.out]; exact HQ2.out _)).mono ?_
  rintro e w4 ⟨q5, c5, q6, c6, tq, tc, rfl, hB4, hU, hN4⟩
  obtain ⟨w5, hw5⟩ : ∃ x, w4.alloc (.cells #[.slice q5 nl c5, .slice q6 nm c6] 27) = x := ⟨_, rfl⟩
  have hal : Below w4.heap.size w4 w5 := by rw [← hw5]; exact below_alloc (Below.refl _ _) _
  have HP : Hid (VP w q k L kq tq nc cs w5) := Lib.hid ⟨below_via (below_via HB.out hB4) hal, (HL.out.keep hB4).keep hal, (HN.out.keep hB4).keep hal, hN4.keep hal⟩
  clear hB4 hU hN4 hal HN HL HB
  go_wp2_with fail
  try rw [hw5]
  clear hw5
  refine (sameints_same _ _ nc _ _ cs _ HP.out.kc HP.out.tc).mono ?_
  rintro e w7 ⟨rfl, hB⟩
  have HP := Lib.hid (HP.out.keep hB)
  clear hB
  by_cases h200 : 200 < k
  · have h2 : (200 : Int) < (k : Int) := by omega
    go_wp2_with fail
    refine (sameints_same _ _ nc _ _ cs _ HP.out.kc HP.out.tc).mono ?_
    rintro e w9 ⟨rfl, hB⟩
    have HB := Lib.hid (below_via HP.out.below hB)
    clear hB
    go_wp2
    go_ret
    exact ⟨rfl, HB.out⟩
  have h2 : ¬ (200 : Int) < (k : Int) := by omega
  have hCK : cs = (playK L k).2 := by rw [← HCS.out]; unfold playE; rw [if_neg h200]
  have hnk2 : nc = k := by rw [← HNC.out, hCK]; exact play_len L k
  subst hnk2
  have HCK := Lib.hid hCK
  clear hCK
  go_wp2_with fail
  go_loopw [8] (fun i wr => ∃ j : Nat, j ≤ nc ∧ i = .int .i64 j ∧ Hid (VP w q nc L kq tq nc cs wr)) (fun i _ => nc - (intOf i).toNat)
  case atStart => exact ⟨0, Nat.zero_le _, rfl, HP.out⟩
  case round =>
    obtain ⟨j, hj, rfl, HX⟩ := hrel
    clear HP
    have HP := HX
    clear HX
    by_cases hlt : j < nc
    · have hi0 : (0 : Int) ≤ (j : Int) := by omega
      have hi1 : (j : Int) < (nc : Int) := by omega
      have hi2 : (j : Int) ≤ (cc : Int) := by omega
      have hi3 : (0 : Int) ≤ (j : Int) + 1 := by omega
      have hi4 : (j : Int) + 1 ≤ (cc : Int) := by omega
      obtain ⟨Ea, hEa⟩ : ∃ x, (playK L j).1 = x := ⟨_, rfl⟩
      obtain ⟨Eb, hEb⟩ : ∃ x, (playK L (j + 1)).1 = x := ⟨_, rfl⟩
      have HEA := Lib.hid (show EP Ea by rw [← hEa]; exact play_ep L j)
      have HEB := Lib.hid (show EP Eb by rw [← hEb]; exact play_ep L (j + 1))
      obtain ⟨la, hla⟩ : ∃ n, (objsOf Ea).length = n := ⟨_, rfl⟩
      obtain ⟨ma, hma⟩ : ∃ n, (gonsOf Ea).length = n := ⟨_, rfl⟩
      obtain ⟨lb, hlb⟩ : ∃ n, (objsOf Eb).length = n := ⟨_, rfl⟩
      obtain ⟨mb, hmb⟩ : ∃ n, (gonsOf Eb).length = n := ⟨_, rfl⟩
      have hpa : (playE (L.take j) j).1 = Ea := by unfold playE; rw [if_neg (by omega), play_take L j j (Nat.le_refl _), hEa]
      have hpb : (playE (L.take (j + 1)) (j + 1)).1 = Eb := by unfold playE; rw [if_neg (by omega), play_take L (j + 1) (j + 1) (Nat.le_refl _), hEb]
      have HVA := Lib.hid (fun cs w e w' => toV (cs := cs) (stop_of_ep HEA.out) hla hma (w := w) e w')
      have HVB := Lib.hid (fun cs w e w' => toV (cs := cs) (stop_of_ep HEB.out) hlb hmb (w := w) e w')
      have HPA := Lib.hid hpa
      have HPB := Lib.hid hpb
      obtain ⟨kd, hkd⟩ : ∃ x, cmd0 L j = x := ⟨_, rfl⟩
      obtain ⟨ky, hky⟩ : ∃ x, cmd1 L j = x := ⟨_, rfl⟩
      have hstep := ver_step (kind := cmd0 L j) (key := cmd1 L j) (ver := cmd2 L j) (data := cmd3 L j) (E := (playK L j).1) (play_ep L j)
      have hcode : (performE (cmd0 L j) (cmd1 L j) (cmd2 L j) (cmd3 L j) (playK L j).1).2.2 = codeN L j := rfl
      have hnext : (performE (cmd0 L j) (cmd1 L j) (cmd2 L j) (cmd3 L j) (playK L j).1).1 = (playK L (j + 1)).1 := rfl
      rw [hcode, hnext, hEa, hEb, hkd, hky] at hstep
      obtain ⟨cN, hcN⟩ : ∃ x, codeN L j = x := ⟨_, rfl⟩
      rw [hcN] at hstep
      have hba := ver_bd (key := ky) HEA.out
      have hbb := ver_bd (key := ky) HEB.out
      obtain ⟨va, hva⟩ : ∃ x, verB ky (objsOf Ea) (gonsOf Ea) = x := ⟨_, rfl⟩
      obtain ⟨vb, hvb⟩ : ∃ x, verB ky (objsOf Eb) (gonsOf Eb) = x := ⟨_, rfl⟩
      rw [hva] at hba hstep
      rw [hvb] at hbb hstep
      have HVE := Lib.hid hva
      have HVF := Lib.hid hvb
      have HST := Lib.hid hstep
      have HKD := Lib.hid hkd
      have HKY := Lib.hid hky
      have HCN := Lib.hid hcN
      clear hstep hcode hnext hpa hpb hEa hEb hla hma hlb hmb hkd hky hcN hva hvb
      obtain ⟨hba1, hba2⟩ := hba
      obtain ⟨hbb1, hbb2⟩ := hbb
      go_wp2_with fail
      refine ((played_any q j cc (L.take j) A _ (cmds_take HP.out.l (Nat.le_of_lt hlt)) (HTA.out.keep HP.out.below) (by omega)).mono (by rw [HPA.out]; exact HVA.out _ _)).mono ?_
      rintro e w8 ⟨q7, c7, q8, c8, v8, rfl, hB8, hT8⟩
      obtain ⟨X, hX⟩ : ∃ x, w8.heap.size = x := ⟨_, rfl⟩
      obtain ⟨w9, hw9⟩ : ∃ x, w8.alloc (.cells #[.slice q7 la c7, .slice q8 ma c8] 27) = x := ⟨_, rfl⟩
      have hal : Below w8.heap.size w8 w9 := by rw [← hw9]; exact below_alloc (Below.refl _ _) _
      have HRX := Lib.hid (show Row w9 X 27 #[.slice q7 la c7, .slice q8 ma c8] by rw [← hw9, ← hX]; exact Row.new _ _ _)
      have HTX := Lib.hid (hT8.keep hal)
      have HP := Lib.hid ((HP.out.keep hB8).keep hal)
      clear hB8 hT8 hal
      go_wp2_with fail
      try rw [hw9]
      try rw [hX]
      clear hX hw9
      refine ((played_any q (j + 1) cc (L.take (j + 1)) A _ (cmds_take HP.out.l hlt) (HTA.out.keep HP.out.below) (by omega)).mono (by rw [HPB.out]; exact HVB.out _ _)).mono ?_
      rintro e w10 ⟨q9, c9, q10, c10, v10, rfl, hB8, hT8⟩
      obtain ⟨Y, hY⟩ : ∃ x, w10.heap.size = x := ⟨_, rfl⟩
      obtain ⟨w11, hw11⟩ : ∃ x, w10.alloc (.cells #[.slice q9 lb c9, .slice q10 mb c10] 27) = x := ⟨_, rfl⟩
      have hal : Below w10.heap.size w10 w11 := by rw [← hw11]; exact below_alloc (Below.refl _ _) _
      have HRY := Lib.hid (show Row w11 Y 27 #[.slice q9 lb c9, .slice q10 mb c10] by rw [← hw11, ← hY]; exact Row.new _ _ _)
      have HTY := Lib.hid (hT8.keep hal)
      have HRX := Lib.hid ((HRX.out.keep hB8).keep hal)
      have HTX := Lib.hid ((HTX.out.keep hB8).keep hal)
      have HP := Lib.hid ((HP.out.keep hB8).keep hal)
      clear hB8 hT8 hal
      go_wp2_with fail
      try rw [hw11]
      try rw [hY]
      clear hY hw11
      obtain ⟨b, off, rfl⟩ : ∃ b o, q = some ⟨b, o, none⟩ := by
        rcases HP.out.l.src with hz | ⟨b, o, hq, _⟩
        · omega
        · exact ⟨b, o, hq⟩
      have hsub : IntKind.i64.wrap (vb - va) = vb - va := IntWalk.i64_in _ (by omega)
      refine wp_region_noPanic ?_
      obtain ⟨v0, hv0⟩ : ∃ x, w11.drew = x := ⟨_, rfl⟩
      have HP : Hid (VP w (some ⟨b, off, none⟩) nc L kq tq nc cs v0) := Lib.hid (by rw [← hv0]; exact HP.out.keep (below_drewN (Below.refl _ _) 1))
      have HRX : Hid (Row v0 X 27 #[.slice q7 la c7, .slice q8 ma c8]) := Lib.hid (by rw [← hv0]; exact HRX.out.keep (below_drewN (Below.refl _ _) 1))
      have HRY : Hid (Row v0 Y 27 #[.slice q9 lb c9, .slice q10 mb c10]) := Lib.hid (by rw [← hv0]; exact HRY.out.keep (below_drewN (Below.refl _ _) 1))
      have HTX : Hid (StoAt v0 q7 la (objsOf Ea) q8 ma (gonsOf Ea)) := Lib.hid (by rw [← hv0]; exact HTX.out.keep (below_drewN (Below.refl _ _) 1))
      have HTY : Hid (StoAt v0 q9 lb (objsOf Eb) q10 mb (gonsOf Eb)) := Lib.hid (by rw [← hv0]; exact HTY.out.keep (below_drewN (Below.refl _ _) 1))
      refine wp_region_held_drew (S := (fun w' => (w'.cell? ⟨Y, 0, none⟩ = some (.slice q9 lb c9) ∧ w'.cell? ⟨Y, 1, none⟩ = some (.slice q10 mb c10)) ∧ (w'.cell? ⟨X, 0, none⟩ = some (.slice q7 la c7) ∧ w'.cell? ⟨X, 1, none⟩ = some (.slice q8 ma c8)) ∧ w'.cell? ⟨b, off + j * 4 + 1, none⟩ = some (.string ky))) (by kernel_rfl) (by rw [hv0]; exact ⟨row_two HRY.out, row_two HRX.out, by rw [← HKY.out]; exact (cmds_look HP.out.l rfl hlt).2.1⟩) (fun HS => ?_)
      rw [hv0] at HS ⊢
      clear hv0
      refine held_take (i := 0) (d := 62) (v := .agg #[.slice q9 lb c9, .slice q10 mb c10]) rfl rfl (by kernel_rfl) (by kernel_rfl) (by kernel_rfl) (by kernel_rfl) (fun wx hS => by have e0 := hS.1.1; have e1 := hS.1.2; go_simp) HS ?_
      refine held_take (i := 1) (d := 63) (v := .slice (some ⟨b, off, none⟩) nc cc) rfl rfl (by kernel_rfl) (by kernel_rfl) (by kernel_rfl) (by kernel_rfl) (fun wx hS => by go_simp) HS ?_
      refine held_take (i := 2) (d := 64) (v := .int .i64 (j : Int)) rfl rfl (by kernel_rfl) (by kernel_rfl) (by kernel_rfl) (by kernel_rfl) (fun wx hS => by go_simp) HS ?_
      refine held_take (i := 3) (d := 65) (v := .pointer (some ⟨b, off + j * 4, none⟩)) rfl rfl (by kernel_rfl) (by kernel_rfl) (by kernel_rfl) (by kernel_rfl) (fun wx hS => by go_simp) HS ?_
      refine held_take (i := 4) (d := 66) (v := .pointer (some ⟨b, off + j * 4 + 1, none⟩)) rfl rfl (by kernel_rfl) (by kernel_rfl) (by kernel_rfl) (by kernel_rfl) (fun wx hS => by go_simp) HS ?_
      refine held_take (i := 5) (d := 67) (v := .string ky) rfl rfl (by kernel_rfl) (by kernel_rfl) (by kernel_rfl) (by kernel_rfl) (fun wx hS => by have e0 := hS.2.2; go_simp) HS ?_
      refine held_take (i := 7) (d := 69) (v := .agg #[.slice q7 la c7, .slice q8 ma c8]) rfl rfl (by kernel_rfl) (by kernel_rfl) (by kernel_rfl) (by kernel_rfl) (fun wx hS => by have e0 := hS.2.1.1; have e1 := hS.2.1.2; go_simp) HS ?_
      refine held_take (i := 8) (d := 70) (v := .slice (some ⟨b, off, none⟩) nc cc) rfl rfl (by kernel_rfl) (by kernel_rfl) (by kernel_rfl) (by kernel_rfl) (fun wx hS => by go_simp) HS ?_
      refine held_take (i := 9) (d := 71) (v := .int .i64 (j : Int)) rfl rfl (by kernel_rfl) (by kernel_rfl) (by kernel_rfl) (by kernel_rfl) (fun wx hS => by go_simp) HS ?_
      refine held_take (i := 10) (d := 72) (v := .pointer (some ⟨b, off + j * 4, none⟩)) rfl rfl (by kernel_rfl) (by kernel_rfl) (by kernel_rfl) (by kernel_rfl) (fun wx hS => by go_simp) HS ?_
      refine held_take (i := 11) (d := 73) (v := .pointer (some ⟨b, off + j * 4 + 1, none⟩)) rfl rfl (by kernel_rfl) (by kernel_rfl) (by kernel_rfl) (by kernel_rfl) (fun wx hS => by go_simp) HS ?_
      refine held_take (i := 12) (d := 74) (v := .string ky) rfl rfl (by kernel_rfl) (by kernel_rfl) (by kernel_rfl) (by kernel_rfl) (fun wx hS => by have e0 := hS.2.2; go_simp) HS ?_
      refine wpAnyH_ready (rs := [6]) (by kernel_rfl) (by simp) (AllReadyH.cons rfl (fun K hK => ?_) AllReadyH.nil)
      go_simp
      refine (ver_any _ _ _ _ _ _ (objsOf Eb) (gonsOf Eb) ky _ HTY.out).mono ?_
      rw [HVF.out]
      rintro e v1 ⟨rfl, hB⟩
      have HP := Lib.hid (HP.out.keep hB)
      have HRX := Lib.hid (HRX.out.keep hB)
      have HRY := Lib.hid (HRY.out.keep hB)
      have HTX := Lib.hid (HTX.out.keep hB)
      have HTY := Lib.hid (HTY.out.keep hB)
      clear hB
      refine hK.out _ _ (⟨row_two HRY.out, row_two HRX.out, by rw [← HKY.out]; exact (cmds_look HP.out.l rfl hlt).2.1⟩) (fun HS => ?_)
      clear hK K
      refine wpAnyH_ready (rs := [13]) (by kernel_rfl) (by simp) (AllReadyH.cons rfl (fun K hK => ?_) AllReadyH.nil)
      go_simp
      refine (ver_any _ _ _ _ _ _ (objsOf Ea) (gonsOf Ea) ky _ HTX.out).mono ?_
      rw [HVE.out]
      rintro e v2 ⟨rfl, hB⟩
      have HP := Lib.hid (HP.out.keep hB)
      have HRX := Lib.hid (HRX.out.keep hB)
      have HRY := Lib.hid (HRY.out.keep hB)
      have HTX := Lib.hid (HTX.out.keep hB)
      have HTY := Lib.hid (HTY.out.keep hB)
      clear hB
      refine hK.out _ _ (⟨row_two HRY.out, row_two HRX.out, by rw [← HKY.out]; exact (cmds_look HP.out.l rfl hlt).2.1⟩) (fun HS => ?_)
      clear hK K
      refine held_take (i := 14) (d := 76) (v := .int .i64 (vb - va)) rfl rfl (by kernel_rfl) (by kernel_rfl) (by kernel_rfl) (by kernel_rfl) (fun wx hS => by have := hsub; go_simp) HS ?_
      refine held_take (i := 15) (d := 13) (v := .int .i64 (vb - va)) rfl rfl (by kernel_rfl) (by kernel_rfl) (by kernel_rfl) (by kernel_rfl) (fun wx hS => by go_simp) HS ?_
      refine wpAnyH_done (by kernel_rfl) (NoPanic.normal ?_) _
      clear hsub
      have HST := HST.out
      obtain ⟨c0, c1, _, _⟩ := cmds_look HP.out.l rfl hlt
      rw [HKD.out] at c0
      rcases (HP.out.kc).src with hz | ⟨kb, koff, rfl, hkb, hkc⟩
      · omega
      have kc0 := hkc j hlt
      have hcode : numAt cs j = codeN L j := by rw [HCK.out]; exact num_code hlt
      rw [hcode, HCN.out] at kc0
      clear hkc hkb hcode c1
      by_cases hc0 : cN = 0
      · subst hc0
        by_cases hk3 : kd = 3
        · subst hk3
          rw [if_neg (fun k => k.2 rfl)] at HST
          have hd0 : vb - va = 0 := HST
          obtain ⟨df, hdf⟩ : ∃ x, vb - va = x := ⟨_, rfl⟩
          rw [hdf] at hd0 ⊢
          subst hd0
          clear hdf HST
          go_wp2_with fail
          go_roundw
          case rel => exact ⟨j + 1, by omega, by go_num, HP.out⟩
          case measure => simp [intOf]; omega
        · rw [if_pos ⟨rfl, hk3⟩] at HST
          have hd0 : vb - va = 1 := HST
          obtain ⟨df, hdf⟩ : ∃ x, vb - va = x := ⟨_, rfl⟩
          rw [hdf] at hd0 ⊢
          subst hd0
          have hk3b : (kd == 3) = false := by rw [beq_eq_false_iff_ne]; exact hk3
          clear hdf HST
          go_wp2_with fail
          go_roundw
          case rel => exact ⟨j + 1, by omega, by go_num, HP.out⟩
          case measure => simp [intOf]; omega
      · rw [if_neg (fun k => hc0 k.1)] at HST
        have hd0 : vb - va = 0 := HST
        obtain ⟨df, hdf⟩ : ∃ x, vb - va = x := ⟨_, rfl⟩
        rw [hdf] at hd0 ⊢
        subst hd0
        have hcb : (cN == 0) = false := by rw [beq_eq_false_iff_ne]; exact hc0
        clear hdf HST
        go_wp2_with fail
        go_roundw
        case rel => exact ⟨j + 1, by omega, by go_num, HP.out⟩
        case measure => simp [intOf]; omega
    · obtain rfl : j = nc := by omega
      go_wp2
      go_ret
      exact ⟨rfl, HP.out.below⟩
end Go.Proofs.YtblpebdjbenphaaDoor
