
/- The law on List, walked: drawn stores, prefixes and pages. -/
import Derived.Test.YtblpebdjbenphaaDrawLs
import Derived.Test.YtblpebdjbenphaaListM
import Derived.Test.YtblpebdjbenphaaListP
import Derived.Test.YtblpebdjbenphaaCount
import Derived.Test.YtblpebdjbenphaaSame
import Derived.Test.YtblpebdjbenphaaStoreOkS
namespace Go.Proofs.Ytblpebdjbenphaa
open Go.ChangeShapes Go.WideShapes Go.ChangeAt Go.RowKit
set_option linter.unusedVariables false
set_option maxRecDepth 100000

structure LL (w : World) (S : Nat) (q1 : Option Addr) (n1 c1 : Nat) (q2 : Option Addr) (n2 c2 : Nat) (l : Objs) (m : Gones) (wr : World) : Prop where
  below : Below w.heap.size w wr
  rs : Row wr S 27 #[.slice q1 n1 c1, .slice q2 n2 c2]
  s : StoD wr q1 n1 c1 q2 n2 c2 l m
theorem LL.keep {w : World} {S : Nat} {q1 : Option Addr} {n1 c1 : Nat} {q2 : Option Addr} {n2 c2 : Nat} {l : Objs} {m : Gones} {wr w2 : World} (h : LL w S q1 n1 c1 q2 n2 c2 l m wr) (hB : Below wr.heap.size wr w2) : LL w S q1 n1 c1 q2 n2 c2 l m w2 :=
  ⟨below_via h.below hB, h.rs.keep hB, h.s.keep hB⟩
theorem kz_strs {W : Strs} {w w' : World} {e : Ending} {W0 : Strs} {N : Nat} (hW : W0 = W) (hn : W.length = N) (hN : N ≤ 100) (hs : ∀ x ∈ W, x.size ≤ maxLen) (h : MadeKz W0 w e w') : ∃ q cp, e = .returned (.slice q N cp) ∧ StrsAt w' q N W ∧ Below w.heap.size w w' := by
  subst hW
  obtain ⟨q, cp, rfl, hk, hB⟩ := h
  subst hn
  exact ⟨q, cp, rfl, strs_of_ks hk rfl (by unfold maxLen; omega) hs, hB⟩
theorem sto_keys {l : Objs} {m : Gones} (h : StoP l m) : ∀ s ∈ okeys l, s.toList ≠ [] := by
  intro s hs he
  obtain ⟨i, hi, rfl⟩ : ∃ i, i < l.length ∧ s = obj0 l i := by
    unfold okeys at hs
    obtain ⟨o, ho, rfl⟩ := List.mem_map.1 hs
    obtain ⟨i, hi, rfl⟩ := List.getElem_of_mem ho
    exact ⟨i, hi, by unfold obj0; rw [List.getD_eq_getElem?_getD, List.getElem?_eq_getElem hi]; rfl⟩
  have hk := key_len (h.objs i hi).1
  rw [Lib.toList_data] at he
  have : ∀ s : ByteArray, s.size = s.data.toList.length := fun s => by cases s; simp [ByteArray.size]
  rw [this (obj0 l i), he] at hk
  simp at hk

set_option maxHeartbeats 8000000 in
theorem fnList_walk (w : World) (a : Option Addr) (len cap : Nat) (h : Src w a len) :
    Calls Try.prog 4 #[.slice a len cap] w fun e w' => e = .returned (.bool true) ∧ Below w.heap.size w w' := by
  have H := Lib.hid h
  clear h
  by_cases hbig : 1048576 < len
  · go_enter Try.func4, Try.ntmps4
    go_wp2_with (go_at_call 5; refine (big_yes _ _ _ _ hbig).mono ?_; rintro e w' ⟨rfl, rfl⟩)
    go_ret
    exact ⟨rfl, Below.refl _ _⟩
  go_enter Try.func4, Try.ntmps4
  go_wp2_with (go_at_call 5; refine (big_no _ _ _ _ hbig).mono ?_; rintro e w' ⟨rfl, rfl⟩)
  refine (drawlist_any _ _ _ _ H.out).mono ?_
  rintro e w1 ⟨q1, n1, c1, q2, n2, c2, l, m, p, af, n, rfl, hS, hp, hB⟩
  have hf1 := hS.few1
  have hf2 := hS.few2
  have HLL := Lib.hid hS.at_.at_.o.length
  have HPS := Lib.hid (show p.size ≤ maxLen by unfold maxLen; omega)
  have HX := Lib.hid (Row.new w1 27 #[.slice q1 n1 c1, .slice q2 n2 c2])
  have hal := below_alloc (Below.refl w1.heap.size w1) (.cells #[.slice q1 n1 c1, .slice q2 n2 c2] 27)
  have HP := Lib.hid (show LL w w1.heap.size q1 n1 c1 q2 n2 c2 l m (w1.alloc (.cells #[.slice q1 n1 c1, .slice q2 n2 c2] 27)) from ⟨below_via hB hal, HX.out, hS.keep hal⟩)
  clear hS hB hal HX
  obtain ⟨S, hS⟩ : ∃ x, w1.heap.size = x := ⟨_, rfl⟩
  obtain ⟨w2, hw2⟩ : ∃ x, w1.alloc (.cells #[.slice q1 n1 c1, .slice q2 n2 c2] 27) = x := ⟨_, rfl⟩
  rw [hS, hw2] at HP
  obtain ⟨W, hW⟩ : ∃ W, listB p af l n1 n = W := ⟨_, rfl⟩
  have hfw := listB_few p af n HP.out.s.at_.at_.o
  rw [hW] at hfw
  obtain ⟨N, hN⟩ : ∃ N, W.length = N := ⟨_, rfl⟩
  have hN100 : N ≤ 100 := by rw [← hN]; exact hfw.1
  have hNn : inB n 1 100 = true → (N : Int) ≤ n := by
    intro hi
    have hb := inB_iff.1 hi
    rw [← hN, ← hW]
    unfold listB
    rw [if_pos hi]
    have := List.length_take_le n.toNat (listTo p af l n1)
    omega
  have HKZ := Lib.hid (fun (w : World) e w' (h : MadeKz (listB p af l n1 n) w e w') => kz_strs hW hN hN100 hfw.2 h)
  have HNN := Lib.hid hNn
  clear hW hfw hN hNn
  obtain ⟨s0, s1⟩ := row_two HP.out.rs
  go_wp2_with fail
  clear hS hw2 s0 s1
  refine ((list_any q1 q2 n1 c1 n2 c2 l m p af n _ HP.out.s.at_.at_ HPS.out (by omega)).mono (HKZ.out _)).mono ?_
  rintro e w3 ⟨lq, lc, rfl, hL, hB⟩
  have HL := Lib.hid hL
  have HP := Lib.hid (HP.out.keep hB)
  clear hL hB
  obtain ⟨s0, s1⟩ := row_two HP.out.rs
  go_wp2_with fail
  clear s0 s1
  refine ((slist_any q1 q2 n1 c1 n2 c2 l m p af n _ HP.out.s.at_.at_ HPS.out (by omega)).mono (HKZ.out _)).mono ?_
  rintro e w4 ⟨mq, mc, rfl, hM, hB⟩
  have HM := Lib.hid hM
  have HL := Lib.hid (HL.out.keep hB)
  have HP := Lib.hid (HP.out.keep hB)
  clear hM hB
  go_wp2_with fail
  refine (sametexts_same _ _ N _ _ W _ HL.out HM.out).mono ?_
  rintro e w5 ⟨rfl, hB⟩
  have HL := Lib.hid (HL.out.keep hB)
  have HP := Lib.hid (HP.out.keep hB)
  clear hB HM
  obtain ⟨s0, s1⟩ := row_two HP.out.rs
  go_wp2_with fail
  clear s0 s1
  refine (sstoreok_any _ _ _ _ _ _ l m _ HP.out.s.at_.at_ (by omega) (by omega)).mono ?_
  rintro e w6 ⟨bb, rfl, hbb, hB⟩
  have HL := Lib.hid (HL.out.keep hB)
  have HP := Lib.hid (HP.out.keep hB)
  clear hB
  by_cases hgo : bb = true ∧ inB n 1 100 = true
  · obtain ⟨rfl, hnn⟩ := hgo
    have hsp := hbb.1 rfl
    have hb := inB_iff.1 hnn
    obtain ⟨hb1, hb2⟩ := hb
    have hNle := HNN.out hnn
    have HINC := Lib.hid hsp.oinc
    have HNE := Lib.hid (sto_keys hsp)
    have HNB := Lib.hid hnn
    have hcnt := cnt_all p l
    rw [HLL.out] at hcnt
    have hpg := fun (c : Nat) (hc : c ≤ (keysP p l).length) => page_at (p := p) HINC.out HNE.out HLL.out hc HNB.out
    have hpk := fun (k : Nat) (hk : k < (keysP p l).length) => page_key (p := p) HINC.out HNE.out hk
    have hFl : (keysP p l).length ≤ n1 := by
      rw [← HLL.out]
      unfold keysP
      have := List.length_filter_le (fun s => hpB s p) (okeys l)
      simpa [okeys] using this
    have hfs : ∀ s ∈ keysP p l, s.size ≤ 41 := fun s hs => by
      have hs2 := (List.mem_filter.1 hs).1
      unfold okeys at hs2
      obtain ⟨o, ho, rfl⟩ := List.mem_map.1 hs2
      exact (HP.out.s.short.1 o ho).1
    generalize keysP p l = F at hcnt hpg hpk hFl hfs
    have HPG := Lib.hid hpg
    have HPK := Lib.hid hpk
    have HFS := Lib.hid hfs
    have HCN := Lib.hid hcnt
    clear hbb hsp hnn hcnt hpg hpk hfs HINC HNE HNB HNN
    go_wp2_with fail
    go_loopw [8, 9] (fun cnt at_ wr => ∃ c : Nat, c ≤ F.length ∧ cnt = .int .i64 c ∧ at_ = .string (atF F c) ∧ Hid (LL w S q1 n1 c1 q2 n2 c2 l m wr)) (fun cnt _ _ => F.length - (intOf cnt).toNat)
    case atStart => exact ⟨0, Nat.zero_le _, rfl, rfl, HP.out⟩
    case round =>
      obtain ⟨c, hc, rfl, rfl, HX⟩ := hrel
      clear HP
      have HP := HX
      clear HX
      obtain ⟨at0, hat⟩ : ∃ x, atF F c = x := ⟨_, rfl⟩
      have hpg := HPG.out c hc
      rw [hat] at hpg ⊢
      obtain ⟨P, hP⟩ : ∃ P, (F.drop c).take n.toNat = P := ⟨_, rfl⟩
      rw [hP] at hpg
      obtain ⟨M, hM⟩ : ∃ M, P.length = M := ⟨_, rfl⟩
      have hMl : M = min n.toNat (F.length - c) := by rw [← hM, ← hP, List.length_take, List.length_drop]
      have hM100 : M ≤ 100 := by omega
      have hM1 : c + M ≤ F.length := by omega
      have HM2 := Lib.hid (show M = 0 → c = F.length by omega)
      have hPs : ∀ x ∈ P, x.size ≤ maxLen := fun x hx => by
        rw [← hP] at hx
        have := HFS.out x (List.mem_of_mem_drop (List.mem_of_mem_take hx))
        unfold maxLen; omega
      have HKP := Lib.hid (fun (w : World) e w' (h : MadeKz (listB p at0 l n1 n) w e w') => kz_strs hpg hM hM100 hPs h)
      have HPD := Lib.hid (show ∀ i, i < M → c + i < F.length ∧ strAt P i = atF F (c + i + 1) ∧ (atF F (c + i)).toList < (strAt P i).toList ∧ hpB (strAt P i) p = true from fun i hi => by
        have hlt : c + i < F.length := by omega
        obtain ⟨k1, k2, k3⟩ := HPK.out (c + i) hlt
        have e : strAt P i = F[c + i] := by
          unfold strAt
          rw [← hP, List.getD_eq_getElem?_getD, List.getElem?_take_of_lt (by omega), List.getElem?_drop, List.getElem?_eq_getElem hlt]; rfl
        rw [e, k1]
        exact ⟨hlt, rfl, k2, k3⟩)
      have HAT := Lib.hid hat
      clear hpg hP hM hPs hat hMl
      obtain ⟨s0, s1⟩ := row_two HP.out.rs
      go_wp2_with fail
      clear s0 s1
      refine ((list_any q1 q2 n1 c1 n2 c2 l m p at0 n _ HP.out.s.at_.at_ HPS.out (by omega)).mono (HKP.out _)).mono ?_
      rintro e w7 ⟨pq, pc, rfl, hL, hB⟩
      have HPL := Lib.hid hL
      have HP := Lib.hid (HP.out.keep hB)
      clear hL hB HKP
      by_cases hM0 : M = 0
      · have hcF : c = F.length := HM2.out hM0
        subst hM0
        subst hcF
        clear HPD HM2
        obtain ⟨s0, s1⟩ := row_two HP.out.rs
        go_wp2_with fail
        clear s0 s1
        refine (count_any _ _ _ _ _ _ l m p _ HP.out.s.at_.at_ HPS.out).mono ?_
        rw [HCN.out]
        rintro e w8 ⟨rfl, hB⟩
        have HB := Lib.hid (below_via HP.out.below hB)
        clear hB
        go_wp2
        go_ret
        exact ⟨rfl, HB.out⟩
      · have hMi : ((M : Int) == 0) = false := by rw [beq_eq_false_iff_ne]; omega
        go_wp2_with fail
        go_loopw [11, 9] (fun i at_ wr => ∃ j : Nat, j ≤ M ∧ i = .int .i64 j ∧ at_ = .string (atF F (c + j)) ∧ Hid (LL w S q1 n1 c1 q2 n2 c2 l m wr ∧ StrsAt wr pq M P)) (fun i _ _ => M - (intOf i).toNat)
        case atStart => exact ⟨0, Nat.zero_le _, rfl, by rw [Nat.add_zero, HAT.out], HP.out, HPL.out⟩
        case round =>
          obtain ⟨j, hj, rfl, rfl, HX⟩ := hrel
          clear HP HPL
          have HP := Lib.hid HX.out.1
          have HPL := Lib.hid HX.out.2
          clear HX
          by_cases hlt : j < M
          · have hj0 : (0 : Int) ≤ (j : Int) := by omega
            have hj1 : (j : Int) < (M : Int) := by omega
            obtain ⟨hcl, hk1, hk2, hk3⟩ := HPD.out j hlt
            obtain ⟨x, hx⟩ : ∃ x, strAt P j = x := ⟨_, rfl⟩
            obtain ⟨y, hy⟩ : ∃ y, atF F (c + j) = y := ⟨_, rfl⟩
            rw [hx, hy] at hk2
            rw [hx] at hk1 hk3
            have HNX := Lib.hid hk1
            rw [hy]
            rcases HPL.out.src with hz | ⟨b, off, rfl, hb, hcc⟩
            · omega
            have x0 := hcc j hlt
            rw [hx] at x0
            have hl1 : Op.bytesLess y.toList x.toList = true := (bltIff _ _).2 hk2
            have hl2 : Op.bytesLess x.toList y.toList = false := by rw [← Bool.not_eq_true, bltIff]; exact fun h => List.lt_irrefl _ (List.lt_trans h hk2)
            have hl3 : (x.toList == y.toList) = false := by rw [beq_eq_false_iff_ne]; intro he; rw [he] at hk2; exact List.lt_irrefl _ hk2
            have hps : p.size ≤ x.size := by
              by_cases h : p.size ≤ x.size
              · exact h
              · rw [hp_short h] at hk3; cases hk3
            have hpx := hp_long hps
            rw [hk3] at hpx
            have hpx2 : ((x.extract 0 p.size).toList == p.toList) = true := hpx.symm
            have hps2 : ¬ (x.size : Int) < (p.size : Int) := by omega
            have hps3 : (p.size : Int) ≤ (x.size : Int) := by omega
            clear hk1 hk2 hk3 hx hy hcc hb hpx hcl
            go_wp2_with fail
            go_roundw
            case rel => exact ⟨j + 1, by omega, by go_num, by rw [HNX.out]; rfl, HP.out, HPL.out⟩
            case measure => simp [intOf]; omega
          · obtain rfl : j = M := by omega
            go_wp2_with fail
            go_roundw
            case rel => exact ⟨c + j, by omega, by rw [show ((c + j : Nat) : Int) = (c : Int) + (j : Int) from Int.natCast_add c j], rfl, HP.out⟩
            case measure => simp [intOf]; omega
  · cases hbv : bb with
    | false =>
      subst hbv
      clear hgo hbb
      obtain ⟨s0, s1⟩ := row_two HP.out.rs
      go_wp2_with fail
      clear s0 s1
      refine ((slist_any q1 q2 n1 c1 n2 c2 l m p af n _ HP.out.s.at_.at_ HPS.out (by omega)).mono (HKZ.out _)).mono ?_
      rintro e w7 ⟨mq, mc, rfl, hM, hB⟩
      have HM := Lib.hid hM
      have HL := Lib.hid (HL.out.keep hB)
      have HP := Lib.hid (HP.out.keep hB)
      clear hM hB
      go_wp2_with fail
      refine (sametexts_same _ _ N _ _ W _ HL.out HM.out).mono ?_
      rintro e w8 ⟨rfl, hB⟩
      have HB := Lib.hid (below_via HP.out.below hB)
      clear hB
      go_wp2
      go_ret
      exact ⟨rfl, HB.out⟩
    | true =>
      subst hbv
      have hnn : ¬ inB n 1 100 = true := fun h => hgo ⟨rfl, h⟩
      clear hgo hbb
      by_cases hn1 : n < 1
      · clear hnn
        obtain ⟨s0, s1⟩ := row_two HP.out.rs
        go_wp2_with fail
        clear s0 s1
        refine ((slist_any q1 q2 n1 c1 n2 c2 l m p af n _ HP.out.s.at_.at_ HPS.out (by omega)).mono (HKZ.out _)).mono ?_
        rintro e w7 ⟨mq, mc, rfl, hM, hB⟩
        have HM := Lib.hid hM
        have HL := Lib.hid (HL.out.keep hB)
        have HP := Lib.hid (HP.out.keep hB)
        clear hM hB
        go_wp2_with fail
        refine (sametexts_same _ _ N _ _ W _ HL.out HM.out).mono ?_
        rintro e w8 ⟨rfl, hB⟩
        have HB := Lib.hid (below_via HP.out.below hB)
        clear hB
        go_wp2
        go_ret
        exact ⟨rfl, HB.out⟩
      · have hn2 : (100 : Int) < n := by
          by_cases h : n ≤ 100
          · exact absurd (inB_iff.2 ⟨by omega, h⟩) hnn
          · omega
        clear hnn
        obtain ⟨s0, s1⟩ := row_two HP.out.rs
        go_wp2_with fail
        clear s0 s1
        refine ((slist_any q1 q2 n1 c1 n2 c2 l m p af n _ HP.out.s.at_.at_ HPS.out (by omega)).mono (HKZ.out _)).mono ?_
        rintro e w7 ⟨mq, mc, rfl, hM, hB⟩
        have HM := Lib.hid hM
        have HL := Lib.hid (HL.out.keep hB)
        have HP := Lib.hid (HP.out.keep hB)
        clear hM hB
        go_wp2_with fail
        refine (sametexts_same _ _ N _ _ W _ HL.out HM.out).mono ?_
        rintro e w8 ⟨rfl, hB⟩
        have HB := Lib.hid (below_via HP.out.below hB)
        clear hB
        go_wp2
        go_ret
        exact ⟨rfl, HB.out⟩
end Go.Proofs.Ytblpebdjbenphaa
