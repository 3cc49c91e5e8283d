
/- Texts of lists of events: what the program and its model write; the exact law on EventsText, walked. Only new blocks are made. -/
import Derived.Test.YtbmhabboloficaaDoorEvsM
import Derived.Test.YtbmhabboloficaaDoorEvTx
import Derived.Test.YtbmhabboloficaaDoorEvRd
import Derived.Test.YtbmhabboloficaaDoorEventEq
import Derived.Test.YtbmhabboloficaaDoorEventIn
import Derived.Test.YtbmhabboloficaaDoorBld
import Derived.Test.YtbmhabboloficaaDoorHeld
import Derived.Deep.LoopGhost
import Derived.Test.YtbmhabboloficaaDoorShelfC
namespace Go.Proofs.YtbmhabboloficaaDoor
open Go.ChangeShapes Go.WideShapes Go.ChangeAt Go.RowKit
set_option linter.unusedVariables false
set_option maxRecDepth 100000

theorem itoaP_any (n : Int) (hn : In64 n) (w : World) (hT : Tabs w) : Calls Tryd.prog 103 #[.int .i64 n] w (MadeTx (decB n) w) := by
  refine (Tryd.strconv_Itoa n hn.1 hn.2 w hT).mono ?_
  rintro e w' ⟨rfl, k, os, rfl⟩
  exact ⟨rfl, below_grew w k os⟩

set_option maxHeartbeats 2000000 in
theorem eventsok_any (a : Option Addr) (len cap : Nat) (l : Events) (n : Int) (w : World) (h : EventsAt w a len l) :
    Calls Tryd.prog 65 #[.slice a len cap, .int .i64 n] w (MadeBool (evsB l n) w) := by
  have hm := h.max
  unfold maxLen at hm
  have HL := Lib.hid h.length
  have HR := Lib.hid h
  clear h
  by_cases hbig : (1000 : Int) < (len : Int)
  · have HC := Lib.hid (evs_many (l := l) (n := n) (by rw [HL.out]; omega))
    go_enter Tryd.func65, Tryd.ntmps65
    go_wp2
    go_ret
    exact ⟨ret_bool HC.out.symm, Below.refl _ _⟩
  · go_enter Tryd.func65, Tryd.ntmps65
    go_wp2
    go_loopw [12] (fun i wr => ∃ k : Nat, k ≤ len ∧ i = .int .i64 k ∧ Hid (Below w.heap.size w wr ∧ ∀ j, j < k → evB (ev0 l j) (ev1 l j) n = true)) (fun i _ => len - (intOf i).toNat)
    case atStart => exact ⟨0, Nat.zero_le _, rfl, Below.refl _ _, fun j hj => by omega⟩
    case round =>
      obtain ⟨k, hk, rfl, HW⟩ := hrel
      by_cases hlt : k < len
      · rcases (HR.out.keep HW.out.1).src with hz | ⟨b, off, rfl, hb, hc⟩
        · omega
        · obtain ⟨c0, c1⟩ := hc k hlt
          have hi0 : (0 : Int) ≤ (k : Int) := by omega
          have hi1 : (k : Int) < (len : Int) := by omega
          clear hc hb
          obtain ⟨q, hq⟩ : ∃ q, evB (ev0 l k) (ev1 l k) n = q := ⟨_, rfl⟩
          have HQ := Lib.hid hq
          clear hq
          go_wp2_with fail
          refine (eventok_any _ _ n _).mono ?_
          rw [HQ.out]
          rintro e w1 ⟨rfl, hB⟩
          have HB := Lib.hid (below_via (below_alloc HW.out.1 _) hB)
          clear hB c0 c1
          cases q
          · have HC := Lib.hid (evs_bad (by rw [HL.out]; exact hlt) HQ.out)
            go_wp2
            go_ret
            exact ⟨ret_bool HC.out.symm, HB.out⟩
          · go_wp2
            go_roundw
            case rel => exact ⟨k + 1, by omega, by go_num, HB.out, fun j hj => by
              rcases Nat.lt_or_ge j k with h | h
              · exact HW.out.2 j h
              · obtain rfl : j = k := by omega
                exact HQ.out⟩
            case measure => simp [intOf]; omega
      · obtain rfl : k = len := by omega
        have HC := Lib.hid (show evsB l n = true from evsB_iff.2 ⟨by rw [HL.out]; omega, fun i hi => HW.out.2 i (by rw [← HL.out]; exact hi)⟩)
        go_wp2
        go_ret
        exact ⟨ret_bool HC.out.symm, HW.out.1⟩

set_option maxHeartbeats 4000000 in
theorem seqtext_any (n k v : Int) (w : World) (hn : In64 n) (hT : TabsEv w) : Calls Tryd.prog 67 #[.int .i64 n, .agg #[.int .i64 k, .int .i64 v]] w (MadeTx (decB n ++ ⟨#[32]⟩ ++ evTx k v ++ ⟨#[10]⟩) w) := by
  have ze := @decB_size n hn.1 (by have := hn.2; omega)
  have zt := evTx_le k v
  have k2 : ∀ w, (Op.stringOp .add (decB n) (⟨#[32]⟩ : ByteArray)).run Tryd.prog w = .ok (.string (decB n ++ ⟨#[32]⟩)) w := fun w => cat_run _ _ 20 ze (by decide)
  have k3 : ∀ w, (Op.stringOp .add (decB n ++ ⟨#[32]⟩) (evTx k v)).run Tryd.prog w = .ok (.string (decB n ++ ⟨#[32]⟩ ++ evTx k v)) w := fun w => cat_run _ _ 21 (app_le (m := 20) (n := 1) ze (by decide)) (by omega)
  have k4 : ∀ w, (Op.stringOp .add (decB n ++ ⟨#[32]⟩ ++ evTx k v) (⟨#[10]⟩ : ByteArray)).run Tryd.prog w = .ok (.string (decB n ++ ⟨#[32]⟩ ++ evTx k v ++ ⟨#[10]⟩)) w := fun w => cat_run _ _ 28 (app_le (m := 21) (n := 7) (app_le (m := 20) (n := 1) ze (by decide)) zt) (by decide)
  have HI := Lib.hid hn
  have HB := Lib.hid (below_alloc (Below.refl w.heap.size w) (.cells #[.int .i64 k, .int .i64 v] 25))
  have HX := Lib.hid (Row.new w 25 #[.int .i64 k, .int .i64 v])
  have HT := Lib.hid hT
  clear hn hT ze zt
  go_enter Tryd.func67, Tryd.ntmps67
  go_wp2_with fail
  refine wp_region_noPanic ?_
  refine wp_region_held_drew (S := (fun w' => Hid (Below w.heap.size w w' ∧ Row w' w.heap.size 25 #[.int .i64 k, .int .i64 v]))) (by kernel_rfl) (Lib.hid ⟨HB.out.drew, HX.out.keep (Below.refl _ _).drew⟩) (fun HS => ?_)
  refine held_take (i := 0) (d := 5) (v := .int .i64 n) rfl rfl (by kernel_rfl) (by kernel_rfl) (by kernel_rfl) (by kernel_rfl) (fun wx hS => by go_simp) HS ?_
  refine held_take (i := 3) (d := 8) (v := .agg #[.int .i64 k, .int .i64 v]) rfl rfl (by kernel_rfl) (by kernel_rfl) (by kernel_rfl) (by kernel_rfl) (fun wx hS => by have k0 := hS.out.2.cell (j := 0) (by simp); have k1 := hS.out.2.cell (j := 1) (by simp); simp at k0 k1; go_simp) HS ?_
  refine wpAnyH_ready (rs := [1]) (by kernel_rfl) (by simp) (AllReadyH.cons rfl (fun K hK => ?_) AllReadyH.nil)
  go_simp
  refine (itoaP_any n HI.out _ (HT.out.pow.keep HS.out.1)).mono ?_
  rintro x w2 ⟨rfl, hB⟩
  refine hK.out _ _ (Lib.hid ⟨below_via HS.out.1 hB, HS.out.2.keep hB⟩) (fun HS => ?_)
  clear hK K
  refine held_take (i := 2) (d := 7) (v := .string (decB n ++ ⟨#[32]⟩)) rfl rfl (by kernel_rfl) (by kernel_rfl) (by kernel_rfl) (by kernel_rfl) (fun wx hS => by go_simp) HS ?_
  refine wpAnyH_ready (rs := [4]) (by kernel_rfl) (by simp) (AllReadyH.cons rfl (fun K hK => ?_) AllReadyH.nil)
  go_simp
  refine (eventtext_any k v _ (HT.out.keep HS.out.1)).mono ?_
  rintro x w2 ⟨rfl, hB⟩
  refine hK.out _ _ (Lib.hid ⟨below_via HS.out.1 hB, HS.out.2.keep hB⟩) (fun HS => ?_)
  clear hK K
  refine held_take (i := 5) (d := 10) (v := .string (decB n ++ ⟨#[32]⟩ ++ evTx k v)) rfl rfl (by kernel_rfl) (by kernel_rfl) (by kernel_rfl) (by kernel_rfl) (fun wx hS => by go_simp) HS ?_
  refine held_take (i := 6) (d := 11) (v := .string (decB n ++ ⟨#[32]⟩ ++ evTx k v ++ ⟨#[10]⟩)) rfl rfl (by kernel_rfl) (by kernel_rfl) (by kernel_rfl) (by kernel_rfl) (fun wx hS => by go_simp) HS ?_
  refine held_take (i := 7) (d := 4) (v := .string (decB n ++ ⟨#[32]⟩ ++ evTx k v ++ ⟨#[10]⟩)) rfl rfl (by kernel_rfl) (by kernel_rfl) (by kernel_rfl) (by kernel_rfl) (fun wx hS => by go_simp) HS ?_
  refine wpAnyH_done (by kernel_rfl) (NoPanic.normal ?_) _
  simp only [List.setIfInBounds_toArray, List.set_cons_zero, List.set_cons_succ]
  go_wp2
  go_ret
  exact ⟨rfl, HS.out.1⟩

theorem seqTx_eq (n : Nat) (k v : Int) : seqTx n k v = decB (n : Int) ++ ⟨#[32]⟩ ++ evTx k v ++ ⟨#[10]⟩ := rfl
theorem text_app {t : List UInt8} {l : Events} {e k : Nat} (hk : k < e) (he : evFold l (e - 1) = (⟨t.toArray⟩, e - 1 - k)) (hs : evAt l (e - 1) = evAt l k) (hb : e = l.length ∨ evAt l e ≠ evAt l k) :
    evFold l e = (⟨(t ++ (seqTx (e - k) (ev0 l k) (ev1 l k)).data.toList).toArray⟩, 0) := by
  have h1 : e - 1 + 1 = e := by omega
  have h := evFold_end (k := e - 1) he (by rw [h1, hs]; exact hb)
  rw [h1] at h
  rw [h, show e - 1 - k + 1 = e - k by omega]
  unfold evAt at hs
  rw [Prod.mk.injEq] at hs
  rw [hs.1, hs.2]
  refine Prod.ext ?_ rfl
  apply ba_eq
  simp
theorem text_on {t : List UInt8} {l : Events} {e k : Nat} (hk : k < e) (he : evFold l (e - 1) = (⟨t.toArray⟩, e - 1 - k)) (hs : evAt l (e - 1) = evAt l k) (hn : e ≠ l.length) (hb : evAt l e = evAt l k) :
    evFold l e = (⟨t.toArray⟩, e - k) := by
  have h1 : e - 1 + 1 = e := by omega
  have h := evFold_on (k := e - 1) he (by rw [h1, hs]; exact fun hh => by rcases hh with hh | hh; exact hn hh; exact hh hb)
  rw [h1] at h
  rw [h, show e - 1 - k + 1 = e - k by omega]

set_option maxHeartbeats 8000000 in
theorem eventstext_any (a : Option Addr) (len cap : Nat) (l : Events) (w : World) (h : EventsAt w a len l) (hT : TabsEv w) :
    Calls Tryd.prog 24 #[.slice a len cap] w (MadeTx (evsTx l) w) := by
  have hm := h.max
  unfold maxLen at hm
  have HL := Lib.hid h.length
  have HR := Lib.hid h
  have HT := Lib.hid hT
  clear h hT
  cases hq : evsB l 4 with
  | false =>
    have HQ := Lib.hid hq
    have HC := Lib.hid (evsTx_no hq)
    clear hq
    go_enter Tryd.func24, Tryd.ntmps24
    go_wp2
    go_step3
    go_wp2_with (go_at_call 65; refine (eventsok_any _ _ _ _ _ _ HR.out).mono ?_; rw [HQ.out]; rintro e w1 ⟨rfl, hB⟩)
    go_ret
    exact ⟨congrArg (fun s => Ending.returned (.string s)) HC.out.symm, hB⟩
  | true =>
    have HQ := Lib.hid hq
    have hl1 : len ≤ 1000 := by have := (evsB_iff.1 hq).1; rw [HL.out] at this; exact this
    clear hq
    go_enter Tryd.func24, Tryd.ntmps24
    go_wp2
    go_step3
    go_wp2_with fail
    refine (eventsok_any _ _ _ _ _ _ HR.out).mono ?_
    rw [HQ.out]
    rintro e w1 ⟨rfl, hB⟩
    have HB0 := Lib.hid hB
    have HBL := Lib.hid (bld_new w1)
    have HLE := Lib.hid hB.size
    clear hB
    go_wp2
    have HB1 := Lib.hid (below_alloc HB0.out (.cells #[.pointer none, .slice none 0 0] 91))
    have HSZ := Lib.hid (show w1.heap.size ≤ (w1.alloc (.cells #[.pointer none, .slice none 0 0] 91)).heap.size by simp)
    go_step3
    go_wp2
    go_loopg [4] len (fun g s4 wx => ∃ (k : Nat) (t : List UInt8), k + g = len ∧ s4 = .int .i64 k ∧ Hid (evFold l k = (⟨t.toArray⟩, 0)) ∧ Hid (Bld w1.heap.size w1.heap.size t wx ∧ Below w.heap.size w wx))
    case atStart => exact ⟨0, [], by omega, rfl, Lib.hid rfl, Lib.hid ⟨HBL.out, HB1.out⟩⟩
    case round =>
      obtain ⟨k, t, hkg, rfl, HF, HW⟩ := hrel
      by_cases hlt : k < len
      · have hts : t.length ≤ 30000 := by
          have h1 := evFold_size l k (by omega)
          rw [HF.out] at h1
          have h2 : (⟨t.toArray⟩ : ByteArray).size = t.length := by simp [ByteArray.size]
          simp only [h2] at h1
          omega
        have HBe := HW
        have hi0 : (0 : Int) ≤ (k : Int) := by omega
        have hi1 : (k : Int) < (len : Int) := by omega
        go_wp2
        go_loopg [4, 5] (len - k - 1) (fun g2 s4 s5 wy => ∃ e : Nat, e + g2 = len ∧ s4 = .int .i64 k ∧ s5 = .int .i64 e ∧ k < e ∧ Hid (evFold l (e - 1) = (⟨t.toArray⟩, e - 1 - k) ∧ evAt l (e - 1) = evAt l k) ∧ Hid (Bld w1.heap.size w1.heap.size t wy ∧ Below w.heap.size w wy))
        case atStart => exact ⟨k + 1, by omega, rfl, by go_num, by omega, Lib.hid ⟨by rw [show k + 1 - 1 = k by omega, show k - k = 0 by omega]; exact HF.out, rfl⟩, Lib.hid HBe.out⟩
        case round =>
          obtain ⟨e, heg, rfl, rfl, hke, HE, HBe⟩ := hrel
          rcases (HR.out.keep HBe.out.2).src with hz | ⟨b, off, rfl, hb, hc⟩
          · omega
          obtain ⟨c0, c1⟩ := hc k hlt
          have he0 : (0 : Int) ≤ (e : Int) := by omega
          by_cases hend : e = len
          · have hq1 : ((e : Int) == (len : Int)) = true := by rw [beq_iff_eq]; omega
            have HEND := Lib.hid hend
            clear hend hc hb
            have HBq : ∀ n, Hid (Bld w1.heap.size w1.heap.size t (wr.drewN n) ∧ Below w.heap.size w (wr.drewN n)) := fun n => Lib.hid ⟨HBe.out.1.keep (below_drewN (Below.refl _ _) _), below_drewN HBe.out.2 _⟩
            go_wp2_with fail
            go_quiet (fail)
            go_wp2_with fail
            refine (seqtext_any _ _ _ _ ?hin (HT.out.keep (HBq _).out.2)).mono ?_
            case hin => unfold In64; omega
            rintro x w3 ⟨rfl, hB⟩
            have HBe := Lib.hid (And.intro ((HBq _).out.1.keep hB) (below_via (HBq _).out.2 hB))
            have hsz := seqTx_le (n := e - k) (ev0 l k) (ev1 l k) (by omega)
            have hcast : (((e - k : Nat)) : Int) = (e : Int) - (k : Int) := by omega
            rw [seqTx_eq, hcast] at hsz
            have HSZ := Lib.hid hsz
            have HF := Lib.hid (text_app hke HE.out.1 HE.out.2 (.inl (HEND.out.trans HL.out.symm)))
            rw [seqTx_eq, hcast] at HF
            clear hB hcast hsz
            go_wp2_with fail
            refine (bld_write _ _ t _ _ HBe.out.1 (by have := HSZ.out; omega) (Nat.le_of_lt HBe.out.1.lt)).mono ?_
            rintro x w4 ⟨rfl, hb4, hB4⟩
            have HBe := Lib.hid (And.intro hb4 (HBe.out.2.trans (hB4.mono HLE.out)))
            clear hb4 hB4
            go_wp2
            go_roundg (len - e)
            case measure => omega
            case rel => exact ⟨e, _, by omega, rfl, Lib.hid HF.out, Lib.hid ⟨HBe.out.1, HBe.out.2⟩⟩
          have he1 : (e : Int) < (len : Int) := by omega
          have hq1 : ((e : Int) == (len : Int)) = false := by rw [beq_eq_false_iff_ne]; omega
          obtain ⟨d0, d1⟩ := hc e (by omega)
          have HNE := Lib.hid hend
          clear hend hc hb
          have HBq : ∀ n, Hid (Bld w1.heap.size w1.heap.size t (wr.drewN n) ∧ Below w.heap.size w (wr.drewN n)) := fun n => Lib.hid ⟨HBe.out.1.keep (below_drewN (Below.refl _ _) _), below_drewN HBe.out.2 _⟩
          by_cases e0 : ev0 l e = ev0 l k
          · by_cases e1 : ev1 l e = ev1 l k
            · have HF := Lib.hid (text_on hke HE.out.1 HE.out.2 (fun h => HNE.out (h.trans HL.out)) (Prod.ext e0 e1))
              have HS := Lib.hid (show evAt l e = evAt l k from Prod.ext e0 e1)
              rw [e0] at d0
              rw [e1] at d1
              clear e0 e1
              go_wp2_with fail
              go_quiet (fail)
              go_wp2
              go_roundg (gk - 1)
              case measure => omega
              case rel => exact ⟨e + 1, by omega, rfl, by go_num, by omega, Lib.hid ⟨by rw [show e + 1 - 1 = e by omega]; exact HF.out, HS.out⟩, HBq _⟩
            · have HX := Lib.hid (show evAt l e ≠ evAt l k from fun h => e1 (congrArg Prod.snd h))
              rw [e0] at d0
              have e2 : (ev1 l e == ev1 l k) = false := by rw [beq_eq_false_iff_ne]; exact e1
              clear e0
              go_wp2_with fail
              go_quiet (fail)
              go_wp2_with fail
              refine (seqtext_any _ _ _ _ ?hin (HT.out.keep (HBq _).out.2)).mono ?_
              case hin => unfold In64; omega
              rintro x w3 ⟨rfl, hB⟩
              have HBe := Lib.hid (And.intro ((HBq _).out.1.keep hB) (below_via (HBq _).out.2 hB))
              have hsz := seqTx_le (n := e - k) (ev0 l k) (ev1 l k) (by omega)
              have hcast : (((e - k : Nat)) : Int) = (e : Int) - (k : Int) := by omega
              rw [seqTx_eq, hcast] at hsz
              have HSZ := Lib.hid hsz
              have HF := Lib.hid (text_app hke HE.out.1 HE.out.2 (.inr HX.out))
              rw [seqTx_eq, hcast] at HF
              clear hB hcast hsz
              go_wp2_with fail
              refine (bld_write _ _ t _ _ HBe.out.1 (by have := HSZ.out; omega) (Nat.le_of_lt HBe.out.1.lt)).mono ?_
              rintro x w4 ⟨rfl, hb4, hB4⟩
              have HBe := Lib.hid (And.intro hb4 (HBe.out.2.trans (hB4.mono HLE.out)))
              clear hb4 hB4
              go_wp2
              go_roundg (len - e)
              case measure => omega
              case rel => exact ⟨e, _, by omega, rfl, Lib.hid HF.out, Lib.hid ⟨HBe.out.1, HBe.out.2⟩⟩
          · have HX := Lib.hid (show evAt l e ≠ evAt l k from fun h => e0 (congrArg Prod.fst h))
            have e2 : (ev0 l e == ev0 l k) = false := by rw [beq_eq_false_iff_ne]; exact e0
            go_wp2_with fail
            go_quiet (fail)
            go_wp2_with fail
            refine (seqtext_any _ _ _ _ ?hin (HT.out.keep (HBq _).out.2)).mono ?_
            case hin => unfold In64; omega
            rintro x w3 ⟨rfl, hB⟩
            have HBe := Lib.hid (And.intro ((HBq _).out.1.keep hB) (below_via (HBq _).out.2 hB))
            have hsz := seqTx_le (n := e - k) (ev0 l k) (ev1 l k) (by omega)
            have hcast : (((e - k : Nat)) : Int) = (e : Int) - (k : Int) := by omega
            rw [seqTx_eq, hcast] at hsz
            have HSZ := Lib.hid hsz
            have HF := Lib.hid (text_app hke HE.out.1 HE.out.2 (.inr HX.out))
            rw [seqTx_eq, hcast] at HF
            clear hB hcast hsz
            go_wp2_with fail
            refine (bld_write _ _ t _ _ HBe.out.1 (by have := HSZ.out; omega) (Nat.le_of_lt HBe.out.1.lt)).mono ?_
            rintro x w4 ⟨rfl, hb4, hB4⟩
            have HBe := Lib.hid (And.intro hb4 (HBe.out.2.trans (hB4.mono HLE.out)))
            clear hb4 hB4
            go_wp2
            go_roundg (len - e)
            case measure => omega
            case rel => exact ⟨e, _, by omega, rfl, Lib.hid HF.out, Lib.hid ⟨HBe.out.1, HBe.out.2⟩⟩
      · have hkl : k = len := by omega
        have HC := Lib.hid (evsTx_yes (t := ⟨t.toArray⟩) (n := 0) HQ.out (by rw [HL.out, ← hkl]; exact HF.out))
        clear hkl
        go_wp2_with fail
        refine (bld_text _ _ t _ HW.out.1 (Nat.le_of_lt HW.out.1.lt)).mono ?_
        rintro x w4 ⟨rfl, _, hB4⟩
        have HB4 := Lib.hid (HW.out.2.trans (hB4.mono HLE.out))
        clear hB4
        go_wp2
        try rw [Exit.noGoto_ret]
        go_ret
        exact ⟨congrArg (fun s => Ending.returned (.string s)) HC.out.symm, HB4.out⟩
end Go.Proofs.YtbmhabboloficaaDoor
