
/- The law on commands, walked: a command comes back from its text; what is read, written again, is that text. -/
import Derived.Test.YtcmbaclkfnecbaaDoorDrawCm5
import Derived.Test.YtcmbaclkfnecbaaDoorRCmdX
namespace Go.Proofs.YtcmbaclkfnecbaaDoor
open Go.ChangeShapes Go.WideShapes Go.ChangeAt Go.RowKit
set_option linter.unusedVariables false
set_option maxRecDepth 100000

set_option maxHeartbeats 8000000 in
theorem fnCmds_walk (w : World) (a0 : Option Addr) (len cap : Nat) (h : Src w a0 len) (hT : TabsR w) :
    Calls Tryd.prog 5 #[.slice a0 len cap] w fun x w' => x = .returned (.bool true) ∧ Below w.heap.size w w' := by
  by_cases hbig : 1048576 < len
  · go_enter Tryd.func5, Tryd.ntmps5
    go_wp2_with fail
    refine (big_yes _ _ _ _ hbig).mono ?_
    rintro e w' ⟨rfl, rfl⟩
    go_wp2_with fail
    go_ret
    exact ⟨rfl, Below.refl _ _⟩
  have HT := Lib.hid hT
  have H := Lib.hid h
  clear hT h
  go_enter Tryd.func5, Tryd.ntmps5
  go_wp2_with fail
  refine (big_no _ _ _ _ hbig).mono ?_
  rintro e w' ⟨rfl, rfl⟩
  go_wp2_with fail
  refine (drawcmdtext_any _ _ _ _ H.out).mono ?_
  rintro e w1 ⟨x, y, z, u, hy, hu, rfl, hb⟩
  have HB := Lib.hid hb
  have HX := Lib.hid (Row.new w1 38 #[.int .i64 x, .string y, .int .i64 z, .string u])
  have HY := Lib.hid (show y.size ≤ maxLen by unfold maxLen; omega)
  have HU := Lib.hid (show u.size ≤ maxLen by unfold maxLen; omega)
  clear hb hy hu
  obtain ⟨s, hs⟩ : ∃ s, cmdTx x y z u = s := ⟨_, rfl⟩
  have HS := Lib.hid hs
  have hs7 : s.size ≤ 70000 := hs ▸ cmdTx_size x y z u
  clear hs
  go_wp2_with fail
  refine (cmdtext_any x y z u _ HY.out HU.out (HT.out.pow.keep (below_alloc HB.out _))).mono ?_
  rintro e w2 ⟨rfl, hb⟩
  rw [HS.out]
  have HX := Lib.hid (HX.out.keep hb)
  have HB := Lib.hid (below_via (below_alloc HB.out (.cells #[.int .i64 x, .string y, .int .i64 z, .string u] 38)) hb)
  clear hb
  go_wp2_with fail
  refine (drawreadcmd_any _ _ _ _ (H.out.below HB.out)).mono ?_
  rintro e w3 ⟨t, ht7, rfl, hb⟩
  have HX := Lib.hid (HX.out.keep hb)
  have HB := Lib.hid (below_via HB.out hb)
  clear hb
  obtain ⟨o, ho⟩ : ∃ o, rcmd t.data.toList = o := ⟨_, rfl⟩
  have HO := Lib.hid ho
  have HF := Lib.hid (cdV_form o)
  obtain ⟨k1, hk1⟩ : ∃ a, (cdA o).1 = a := ⟨_, rfl⟩
  obtain ⟨b1, hb1⟩ : ∃ a, (cdA o).2.1 = a := ⟨_, rfl⟩
  obtain ⟨v1, hv1⟩ : ∃ a, (cdA o).2.2.1 = a := ⟨_, rfl⟩
  obtain ⟨d1, hd1⟩ : ∃ a, (cdA o).2.2.2 = a := ⟨_, rfl⟩
  obtain ⟨b, hb⟩ : ∃ a, o.isSome = a := ⟨_, rfl⟩
  have HK : Hid (b = true → cmdTx k1 b1 v1 d1 = t ∧ b1.size ≤ maxLen ∧ d1.size ≤ maxLen) := Lib.hid (by
    intro h1
    cases o with
    | none => rw [h1] at hb; cases hb
    | some q =>
      obtain ⟨q1, q2, q3, q4⟩ := q
      cases hk1; cases hb1; cases hv1; cases hd1
      have hsz : q2.length ≤ 70001 ∧ q4.length ≤ 70001 := by
        unfold rcmd at ho
        split at ho
        · rename_i k' b' v' d' hp
          split at ho
          · simp only [Option.some.injEq, Prod.mk.injEq] at ho
            obtain ⟨rfl, rfl, rfl, rfl⟩ := ho
            exact rp_size hp (fun x hx => Nat.le_trans (splitL_len 32 t.data.toList x hx) (by simpa using ht7))
          · cases ho
        · cases ho
      exact ⟨cmdTx_back ho, by show (ba q2).size ≤ maxLen; rw [ba_size]; unfold maxLen; omega, by show (ba q4).size ≤ maxLen; rw [ba_size]; unfold maxLen; omega⟩)
  rw [hk1, hb1, hv1, hd1, hb] at HF
  clear ho hk1 hb1 hv1 hd1 hb
  go_wp2_with fail
  refine (readcmd_any t _ (Nat.le_trans ht7 (by decide)) (HT.out.keep HB.out)).mono ?_
  rw [HO.out]
  rintro v w4 ⟨hv, hb⟩
  rw [HF.out] at hv
  subst hv
  have HX := Lib.hid ((HX.out.keep hb).alloc (.cells #[.int .i64 k1, .string b1, .int .i64 v1, .string d1] 38))
  have HB := Lib.hid (below_alloc (below_via HB.out hb) (.cells #[.int .i64 k1, .string b1, .int .i64 v1, .string d1] 38))
  have HY1 := Lib.hid (Row.new w4 38 #[.int .i64 k1, .string b1, .int .i64 v1, .string d1])
  clear hb
  go_wp2_with fail
  refine (sreadcmd_any t _ (Nat.le_trans ht7 (by decide))).mono ?_
  rw [HO.out]
  rintro v w5 ⟨hv, hb⟩
  rw [HF.out] at hv
  subst hv
  have hne : w4.heap.size ≠ w5.heap.size := Nat.ne_of_lt (Nat.lt_of_lt_of_le (by simp) hb.size)
  have HX := Lib.hid ((HX.out.keep hb).alloc (.cells #[.int .i64 k1, .string b1, .int .i64 v1, .string d1] 38))
  have HY1 := Lib.hid ((HY1.out.keep hb).alloc (.cells #[.int .i64 k1, .string b1, .int .i64 v1, .string d1] 38))
  have HB := Lib.hid (below_alloc (below_via HB.out hb) (.cells #[.int .i64 k1, .string b1, .int .i64 v1, .string d1] 38))
  have HZ1 := Lib.hid (Row.new w5 38 #[.int .i64 k1, .string b1, .int .i64 v1, .string d1])
  clear hb
  obtain ⟨w6, hw6⟩ : ∃ w6, w5.alloc (.cells #[.int .i64 k1, .string b1, .int .i64 v1, .string d1] 38) = w6 := ⟨_, rfl⟩
  rw [hw6] at HX HY1 HB HZ1
  have c0 := HX.out.cell (j := 0) (by simp)
  have c1 := HX.out.cell (j := 1) (by simp)
  have c2 := HX.out.cell (j := 2) (by simp)
  have c3 := HX.out.cell (j := 3) (by simp)
  simp at c0 c1 c2 c3
  go_wp2_with fail
  refine (scmdtext_any x y z u _ HY.out HU.out).mono ?_
  rintro v w7 ⟨rfl, hb⟩
  rw [HS.out]
  have HX := Lib.hid (HX.out.keep hb)
  have HY1 := Lib.hid (HY1.out.keep hb)
  have HZ1 := Lib.hid (HZ1.out.keep hb)
  have HB := Lib.hid (below_via HB.out hb)
  clear hb c0 c1 c2 c3 hw6
  have c0 := HX.out.cell (j := 0) (by simp)
  have c1 := HX.out.cell (j := 1) (by simp)
  have c2 := HX.out.cell (j := 2) (by simp)
  have c3 := HX.out.cell (j := 3) (by simp)
  simp at c0 c1 c2 c3
  have y0 := HY1.out.cell (j := 0) (by simp)
  have y1 := HY1.out.cell (j := 1) (by simp)
  have y2 := HY1.out.cell (j := 2) (by simp)
  have y3 := HY1.out.cell (j := 3) (by simp)
  simp at y0 y1 y2 y3
  have z0 := HZ1.out.cell (j := 0) (by simp)
  have z1 := HZ1.out.cell (j := 1) (by simp)
  have z2 := HZ1.out.cell (j := 2) (by simp)
  have z3 := HZ1.out.cell (j := 3) (by simp)
  simp at z0 z1 z2 z3
  obtain ⟨q, hq⟩ : ∃ q, cmdB x y z u = q := ⟨_, rfl⟩
  have HQ := Lib.hid hq
  have HWAY : Hid ((q = false ∧ rcmd s.data.toList = none) ∨ (q = true ∧ rcmd s.data.toList = some (x, y.data.toList, z, u.data.toList))) := Lib.hid (by
    have := cmdTx_way x y z u
    rw [HS.out, hq] at this
    exact this)
  clear hq
  cases b
  · go_wp2_with fail
    clear y0 y1 y2 y3 z0 z1 z2 z3 hne
    refine (readcmd_any s _ (Nat.le_trans hs7 (by decide)) (HT.out.keep HB.out)).mono ?_
    rcases HWAY.out with ⟨rfl, hr⟩ | ⟨rfl, hr⟩
    · rw [hr]
      rintro v w9 ⟨hv, hb⟩
      simp only [cdV] at hv
      subst hv
      have HX := Lib.hid ((HX.out.keep hb).alloc (.cells #[.int .i64 0, .string ⟨#[]⟩, .int .i64 0, .string ⟨#[]⟩] 38))
      have HB := Lib.hid (below_alloc (below_via HB.out hb) (.cells #[.int .i64 0, .string ⟨#[]⟩, .int .i64 0, .string ⟨#[]⟩] 38))
      clear hb c0 c1 c2 c3 hr
      have c0 := HX.out.cell (j := 0) (by simp)
      have c1 := HX.out.cell (j := 1) (by simp)
      have c2 := HX.out.cell (j := 2) (by simp)
      have c3 := HX.out.cell (j := 3) (by simp)
      simp at c0 c1 c2 c3
      go_wp2_with fail
      refine (scmdok_any x y z u _ HY.out HU.out).mono ?_
      rw [HQ.out]
      rintro v w10 ⟨rfl, hb⟩
      have HX := Lib.hid (HX.out.keep hb)
      have HB := Lib.hid (below_via HB.out hb)
      clear hb c0 c1 c2 c3
      have c0 := HX.out.cell (j := 0) (by simp)
      have c1 := HX.out.cell (j := 1) (by simp)
      have c2 := HX.out.cell (j := 2) (by simp)
      have c3 := HX.out.cell (j := 3) (by simp)
      simp at c0 c1 c2 c3
      go_wp2_with fail
      refine (cmdok_any x y z u _ HY.out HU.out).mono ?_
      rw [HQ.out]
      rintro v w11 ⟨rfl, hb⟩
      have HX := Lib.hid (HX.out.keep hb)
      have HB := Lib.hid (below_via HB.out hb)
      clear hb c0 c1 c2 c3
      have c0 := HX.out.cell (j := 0) (by simp)
      have c1 := HX.out.cell (j := 1) (by simp)
      have c2 := HX.out.cell (j := 2) (by simp)
      have c3 := HX.out.cell (j := 3) (by simp)
      simp at c0 c1 c2 c3
      go_wp2_with fail
      go_ret
      exact ⟨rfl, HB.out⟩
    · rw [hr]
      rintro v w9 ⟨hv, hb⟩
      simp only [cdV, ba_back] at hv
      subst hv
      have HV := Lib.hid (Row.new w9 38 #[.int .i64 x, .string y, .int .i64 z, .string u])
      have hn9 : w1.heap.size ≠ w9.heap.size := Nat.ne_of_lt (HX.out.keep hb).lt
      have HX := Lib.hid ((HX.out.keep hb).alloc (.cells #[.int .i64 x, .string y, .int .i64 z, .string u] 38))
      have HB := Lib.hid (below_alloc (below_via HB.out hb) (.cells #[.int .i64 x, .string y, .int .i64 z, .string u] 38))
      clear hb c0 c1 c2 c3 hr
      have c0 := HX.out.cell (j := 0) (by simp)
      have c1 := HX.out.cell (j := 1) (by simp)
      have c2 := HX.out.cell (j := 2) (by simp)
      have c3 := HX.out.cell (j := 3) (by simp)
      simp at c0 c1 c2 c3
      go_wp2_with fail
      refine (scmdok_any x y z u _ HY.out HU.out).mono ?_
      rw [HQ.out]
      rintro v w10 ⟨rfl, hb⟩
      have HX := Lib.hid (HX.out.keep hb)
      have HV := Lib.hid (HV.out.keep hb)
      have HB := Lib.hid (below_via HB.out hb)
      clear hb c0 c1 c2 c3
      have c0 := HX.out.cell (j := 0) (by simp)
      have c1 := HX.out.cell (j := 1) (by simp)
      have c2 := HX.out.cell (j := 2) (by simp)
      have c3 := HX.out.cell (j := 3) (by simp)
      simp at c0 c1 c2 c3
      have e0 := HV.out.cell (j := 0) (by simp)
      have e1 := HV.out.cell (j := 1) (by simp)
      have e2 := HV.out.cell (j := 2) (by simp)
      have e3 := HV.out.cell (j := 3) (by simp)
      simp at e0 e1 e2 e3
      go_wp2_with fail
      refine (cmdok_any x y z u _ HY.out HU.out).mono ?_
      rw [HQ.out]
      rintro v w11 ⟨rfl, hb⟩
      have HX := Lib.hid (HX.out.keep hb)
      have HV := Lib.hid (HV.out.keep hb)
      have HB := Lib.hid (below_via HB.out hb)
      clear hb c0 c1 c2 c3 e0 e1 e2 e3
      have c0 := HX.out.cell (j := 0) (by simp)
      have c1 := HX.out.cell (j := 1) (by simp)
      have c2 := HX.out.cell (j := 2) (by simp)
      have c3 := HX.out.cell (j := 3) (by simp)
      simp at c0 c1 c2 c3
      have e0 := HV.out.cell (j := 0) (by simp)
      have e1 := HV.out.cell (j := 1) (by simp)
      have e2 := HV.out.cell (j := 2) (by simp)
      have e3 := HV.out.cell (j := 3) (by simp)
      simp at e0 e1 e2 e3
      go_wp2_with fail
      go_ret
      exact ⟨rfl, HB.out⟩
  · have HK2 := Lib.hid (HK.out rfl)
    go_wp2_with fail
    refine (cmdtext_any k1 b1 v1 d1 _ HK2.out.2.1 HK2.out.2.2 (HT.out.pow.keep HB.out)).mono ?_
    rintro v w8 ⟨rfl, hb⟩
    rw [HK2.out.1]
    have HX := Lib.hid (HX.out.keep hb)
    have HB := Lib.hid (below_via HB.out hb)
    clear hb c0 c1 c2 c3 y0 y1 y2 y3 z0 z1 z2 z3 hne
    go_wp2_with fail
    refine (readcmd_any s _ (Nat.le_trans hs7 (by decide)) (HT.out.keep HB.out)).mono ?_
    rcases HWAY.out with ⟨rfl, hr⟩ | ⟨rfl, hr⟩
    · rw [hr]
      rintro v w9 ⟨hv, hb⟩
      simp only [cdV] at hv
      subst hv
      have HX := Lib.hid ((HX.out.keep hb).alloc (.cells #[.int .i64 0, .string ⟨#[]⟩, .int .i64 0, .string ⟨#[]⟩] 38))
      have HB := Lib.hid (below_alloc (below_via HB.out hb) (.cells #[.int .i64 0, .string ⟨#[]⟩, .int .i64 0, .string ⟨#[]⟩] 38))
      clear hb hr
      have c0 := HX.out.cell (j := 0) (by simp)
      have c1 := HX.out.cell (j := 1) (by simp)
      have c2 := HX.out.cell (j := 2) (by simp)
      have c3 := HX.out.cell (j := 3) (by simp)
      simp at c0 c1 c2 c3
      go_wp2_with fail
      refine (scmdok_any x y z u _ HY.out HU.out).mono ?_
      rw [HQ.out]
      rintro v w10 ⟨rfl, hb⟩
      have HX := Lib.hid (HX.out.keep hb)
      have HB := Lib.hid (below_via HB.out hb)
      clear hb c0 c1 c2 c3
      have c0 := HX.out.cell (j := 0) (by simp)
      have c1 := HX.out.cell (j := 1) (by simp)
      have c2 := HX.out.cell (j := 2) (by simp)
      have c3 := HX.out.cell (j := 3) (by simp)
      simp at c0 c1 c2 c3
      go_wp2_with fail
      refine (cmdok_any x y z u _ HY.out HU.out).mono ?_
      rw [HQ.out]
      rintro v w11 ⟨rfl, hb⟩
      have HX := Lib.hid (HX.out.keep hb)
      have HB := Lib.hid (below_via HB.out hb)
      clear hb c0 c1 c2 c3
      have c0 := HX.out.cell (j := 0) (by simp)
      have c1 := HX.out.cell (j := 1) (by simp)
      have c2 := HX.out.cell (j := 2) (by simp)
      have c3 := HX.out.cell (j := 3) (by simp)
      simp at c0 c1 c2 c3
      go_wp2_with fail
      go_ret
      exact ⟨rfl, HB.out⟩
    · rw [hr]
      rintro v w9 ⟨hv, hb⟩
      simp only [cdV, ba_back] at hv
      subst hv
      have HV := Lib.hid (Row.new w9 38 #[.int .i64 x, .string y, .int .i64 z, .string u])
      have hn9 : w1.heap.size ≠ w9.heap.size := Nat.ne_of_lt (HX.out.keep hb).lt
      have HX := Lib.hid ((HX.out.keep hb).alloc (.cells #[.int .i64 x, .string y, .int .i64 z, .string u] 38))
      have HB := Lib.hid (below_alloc (below_via HB.out hb) (.cells #[.int .i64 x, .string y, .int .i64 z, .string u] 38))
      clear hb hr
      have c0 := HX.out.cell (j := 0) (by simp)
      have c1 := HX.out.cell (j := 1) (by simp)
      have c2 := HX.out.cell (j := 2) (by simp)
      have c3 := HX.out.cell (j := 3) (by simp)
      simp at c0 c1 c2 c3
      go_wp2_with fail
      refine (scmdok_any x y z u _ HY.out HU.out).mono ?_
      rw [HQ.out]
      rintro v w10 ⟨rfl, hb⟩
      have HX := Lib.hid (HX.out.keep hb)
      have HV := Lib.hid (HV.out.keep hb)
      have HB := Lib.hid (below_via HB.out hb)
      clear hb c0 c1 c2 c3
      have c0 := HX.out.cell (j := 0) (by simp)
      have c1 := HX.out.cell (j := 1) (by simp)
      have c2 := HX.out.cell (j := 2) (by simp)
      have c3 := HX.out.cell (j := 3) (by simp)
      simp at c0 c1 c2 c3
      have e0 := HV.out.cell (j := 0) (by simp)
      have e1 := HV.out.cell (j := 1) (by simp)
      have e2 := HV.out.cell (j := 2) (by simp)
      have e3 := HV.out.cell (j := 3) (by simp)
      simp at e0 e1 e2 e3
      go_wp2_with fail
      refine (cmdok_any x y z u _ HY.out HU.out).mono ?_
      rw [HQ.out]
      rintro v w11 ⟨rfl, hb⟩
      have HX := Lib.hid (HX.out.keep hb)
      have HV := Lib.hid (HV.out.keep hb)
      have HB := Lib.hid (below_via HB.out hb)
      clear hb c0 c1 c2 c3 e0 e1 e2 e3
      have c0 := HX.out.cell (j := 0) (by simp)
      have c1 := HX.out.cell (j := 1) (by simp)
      have c2 := HX.out.cell (j := 2) (by simp)
      have c3 := HX.out.cell (j := 3) (by simp)
      simp at c0 c1 c2 c3
      have e0 := HV.out.cell (j := 0) (by simp)
      have e1 := HV.out.cell (j := 1) (by simp)
      have e2 := HV.out.cell (j := 2) (by simp)
      have e3 := HV.out.cell (j := 3) (by simp)
      simp at e0 e1 e2 e3
      go_wp2_with fail
      go_ret
      exact ⟨rfl, HB.out⟩
end Go.Proofs.YtcmbaclkfnecbaaDoor
