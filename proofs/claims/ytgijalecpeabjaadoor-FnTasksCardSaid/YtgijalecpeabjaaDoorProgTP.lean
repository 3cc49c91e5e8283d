
/- The text of a program: what the program and its model write. Only new blocks are made. -/
import Derived.Test.YtgijalecpeabjaaDoorProgT
namespace Go.Proofs.YtgijalecpeabjaaDoor
open Go.ChangeShapes Go.WideShapes Go.ChangeAt Go.RowKit
set_option linter.unusedVariables false
set_option maxRecDepth 100000

theorem progTo_step (l : Instrs) (k : Nat) (h : 0 < k) : progTo l (k + 1) = progTo l k ++ ⟨#[32]⟩ ++ txAt l k := by
  show (if 0 < k then progTo l k ++ ⟨#[32]⟩ else progTo l k) ++ txAt l k = _
  rw [if_pos h]

set_option maxHeartbeats 4000000 in
theorem l3prog_any (a : Option Addr) (len cap : Nat) (l : Instrs) (w : World) (h : InstrsAt w a len l) (hq : progB l = true) (hn : ∀ i, i < len → In64 (ins1 l i)) :
    Calls Tryd.prog 43 #[.slice a len cap] w (MadeTxtP (progTo l len) w) := by
  have hl := h.length
  have h30 := prog_few hq
  rw [hl] at h30
  have HR := Lib.hid h
  have HN := Lib.hid hn
  have HQ := Lib.hid hq
  have HZ := Lib.hid (fun k (hk : k ≤ len) => progTo_size hq (by rw [hl]; exact hn) k (by rw [hl]; exact hk))
  have HL := Lib.hid hl
  clear h hn hq hl
  go_enter Tryd.func43, Tryd.ntmps43
  go_wp2
  go_loopw [3, 4] (fun s i wr => ∃ k : Nat, k ≤ len ∧ i = .int .i64 k ∧ (∃ t : ByteArray, s = .string t ∧ Hid (t = progTo l k)) ∧ Hid (Below w.heap.size w wr)) (fun _ i _ => len - (intOf i).toNat)
  case atStart => exact ⟨0, Nat.zero_le _, rfl, ⟨_, rfl, Lib.hid rfl⟩, Lib.hid (Below.refl _ _)⟩
  case round =>
    obtain ⟨k, hk, rfl, ⟨t, rfl, HT⟩, HW⟩ := hrel
    by_cases hlt : k < len
    · rcases (HR.out.keep HW.out).src with hz | ⟨b, off, rfl, hb, hc⟩
      · omega
      obtain ⟨c0, c1, c2⟩ := hc k hlt
      have hi0 : (0 : Int) ≤ (k : Int) := by omega
      have hi1 : (k : Int) < (len : Int) := by omega
      have hts : t.size ≤ 23 * k := by rw [HT.out]; exact HZ.out k hk
      have hI := prog_ins HQ.out (k := k) (by rw [HL.out]; exact hlt)
      have hxs : (txAt l k).size ≤ 22 := insTx_size hI (HN.out k hlt)
      have HI := Lib.hid (show ∃ op n s, ins0 l k = op ∧ ins1 l k = n ∧ ins2 l k = s from ⟨_, _, _, rfl, rfl, rfl⟩)
      obtain ⟨op, n, s, e0, e1, e2⟩ := HI.out
      have hX : ∃ x, txAt l k = x ∧ insTx op n s = x := ⟨_, rfl, by unfold txAt; rw [e0, e1, e2]⟩
      obtain ⟨x, hx, hx2⟩ := hX
      rw [hx] at hxs
      rw [e0, e1, e2] at hI
      have HV := Lib.hid (show In64 n by rw [← e1]; exact HN.out k hlt)
      rw [e0] at c0
      rw [e1] at c1
      rw [e2] at c2
      have HX := Lib.hid hx
      have HX2 := Lib.hid hx2
      have HII := Lib.hid hI
      clear e0 e1 e2 hx hx2 hI hc hb HI
      by_cases hk0 : 0 < k
      · have hk1 : (0 : Int) < (k : Int) := by omega
        have k1 : ∀ w, (Op.stringOp .add t (⟨#[32]⟩ : ByteArray)).run Tryd.prog w = .ok (.string (t ++ ⟨#[32]⟩)) w := fun w => cat_runp _ _ 1000 (by omega) (by decide)
        have k2 : ∀ w, (Op.stringOp .add (t ++ ⟨#[32]⟩) x).run Tryd.prog w = .ok (.string (t ++ ⟨#[32]⟩ ++ x)) w := fun w => cat_runp _ _ 1000 (by rw [ByteArray.size_append]; show _ + 1 ≤ _; omega) (by omega)
        have HP := Lib.hid (show t ++ ⟨#[32]⟩ ++ x = progTo l (k + 1) by rw [progTo_step l k hk0, ← HT.out, HX.out])
        go_wp2_with fail
        refine (l3text_any _ _ _ _ HII.out HV.out).mono ?_
        rw [HX2.out]
        rintro e w3 ⟨rfl, hB⟩
        have HW := Lib.hid (below_via HW.out hB)
        clear hB c0 c1 c2
        go_wp2
        go_roundw
        case rel => exact ⟨k + 1, by omega, by go_num, ⟨_, rfl, HP⟩, HW⟩
        case measure => simp [intOf]; omega
      · have hk1 : ¬ (0 : Int) < (k : Int) := by omega
        have k2 : ∀ w, (Op.stringOp .add t x).run Tryd.prog w = .ok (.string (t ++ x)) w := fun w => cat_runp _ _ 1000 (by omega) (by omega)
        have HP := Lib.hid (show t ++ x = progTo l (k + 1) by
          show _ = (if 0 < k then progTo l k ++ ⟨#[32]⟩ else progTo l k) ++ txAt l k
          rw [if_neg hk0, ← HT.out, HX.out])
        go_wp2_with fail
        refine (l3text_any _ _ _ _ HII.out HV.out).mono ?_
        rw [HX2.out]
        rintro e w3 ⟨rfl, hB⟩
        have HW := Lib.hid (below_via HW.out hB)
        clear hB c0 c1 c2
        go_wp2
        go_roundw
        case rel => exact ⟨k + 1, by omega, by go_num, ⟨_, rfl, HP⟩, HW⟩
        case measure => simp [intOf]; omega
    · obtain rfl : k = len := by omega
      go_wp2
      go_ret
      exact ⟨congrArg (fun s => Ending.returned (.string s)) HT.out, HW.out⟩

set_option maxHeartbeats 1000000 in
theorem sprogtext_any (a : Option Addr) (len cap : Nat) (l : Instrs) (w : World) (h : InstrsAt w a len l) (hn : ∀ i, i < len → In64 (ins1 l i)) :
    Calls Tryd.prog 16 #[.slice a len cap] w (MadeTxtP (progTx l) w) := by
  have HR := Lib.hid h
  have HN := Lib.hid hn
  have HL := Lib.hid h.length
  obtain ⟨q, hq⟩ : ∃ q, progB l = q := ⟨_, rfl⟩
  have HQ := Lib.hid hq
  clear h hn hq
  go_enter Tryd.func16, Tryd.ntmps16
  go_wp2_with fail
  refine (sprogok_any _ _ _ _ _ HR.out).mono ?_
  rw [HQ.out]
  rintro e w2 ⟨rfl, hB⟩
  have HB := Lib.hid hB
  clear hB
  cases q
  · have HP := Lib.hid (show progTx l = ByteArray.empty by unfold progTx; rw [HQ.out]; rfl)
    go_wp2
    go_ret
    exact ⟨congrArg (fun s => Ending.returned (.string s)) HP.out.symm, HB.out⟩
  · have HP := Lib.hid (show progTx l = progTo l len by unfold progTx; rw [HQ.out, HL.out]; rfl)
    go_wp2_with fail
    refine (l3prog_any _ _ _ _ _ (HR.out.keep HB.out) HQ.out HN.out).mono ?_
    rintro e w3 ⟨rfl, hB⟩
    have HB := Lib.hid (below_via HB.out hB)
    clear hB
    go_wp2
    go_ret
    exact ⟨congrArg (fun s => Ending.returned (.string s)) HP.out.symm, HB.out⟩

theorem field_num (y : Nat) (h : y = 1 ∨ y = 3) : fieldB y = ⟨#[78]⟩ := by rcases h with rfl | rfl <;> rfl
theorem field_other {y : Nat} (h0 : y < 15) (h1 : y ≠ 1) (h3 : y ≠ 3) : ¬ fieldB y = ⟨#[78]⟩ := by
  rcases (by omega : y = 0 ∨ y = 2 ∨ y = 4 ∨ y = 5 ∨ y = 6 ∨ y = 7 ∨ y = 8 ∨ y = 9 ∨ y = 10 ∨ y = 11 ∨ y = 12 ∨ y = 13 ∨ y = 14) with rfl | rfl | rfl | rfl | rfl | rfl | rfl | rfl | rfl | rfl | rfl | rfl | rfl <;> decide

set_option maxHeartbeats 4000000 in
theorem instrtext_any (op n : Int) (s : ByteArray) (w : World) (h : instrB op n s = true) (hn : In64 n) (hT : TabsPT w) :
    Calls Tryd.prog 44 #[.agg #[.int .i64 op, .int .i64 n, .string s]] w (MadeTxtP (insTx op n s) w) := by
  have HB := Lib.hid (below_alloc (Below.refl w.heap.size w) (.cells #[.int .i64 op, .int .i64 n, .string s] 55))
  have HN := Lib.hid hn
  have HT := Lib.hid (hT.keep HB.out)
  have hd : (decB n).size ≤ 20 := decB_size hn.1 (by have := hn.2; omega)
  have ho := instr_op h
  obtain ⟨y, rfl⟩ : ∃ y : Nat, op = (y : Int) := ⟨op.toNat, by omega⟩
  have hy0 : (0 : Int) ≤ (y : Int) := by omega
  have hy1 : (y : Int) < 15 := by omega
  have t0 := (HT.out.forms.cell y (by omega)).1
  have t1 := (HT.out.forms.cell y (by omega)).2.1
  have ht6 := text_few y
  have hs20 : s.size ≤ 20 := by rcases ins_ways h with ⟨_, h0⟩ | ⟨_, h0⟩ | ⟨_, h0⟩ | ⟨x, _, hx, h0⟩ <;> omega
  have HE : Hid (insTx (y : Int) n s = if y = 1 ∨ y = 3 then textB y ++ decB n else textB y ++ s) := Lib.hid (by
    unfold insTx
    rcases ins_ways h with ⟨e, h0⟩ | ⟨e, h0⟩ | ⟨e, h0⟩ | ⟨x, e, hx, h0⟩
    · obtain rfl : y = 1 := by omega
      rfl
    · obtain rfl : y = 2 := by omega
      rfl
    · obtain rfl : y = 3 := by omega
      rfl
    · rw [if_neg (by omega), if_neg (by omega), if_neg (by omega), if_neg (by omega), app_empty h0]
      congr 1)
  obtain ⟨F, hF⟩ : ∃ F, fieldB y = F := ⟨_, rfl⟩
  obtain ⟨X, hX⟩ : ∃ X, textB y = X := ⟨_, rfl⟩
  rw [hF] at t1
  rw [hX] at t0 ht6 HE
  have kd : ∀ w, (Op.stringOp .add X (decB n)).run Tryd.prog w = .ok (.string (X ++ decB n)) w := fun w => cat_runp _ _ 40 (by omega) (by omega)
  have ks : ∀ w, (Op.stringOp .add X s).run Tryd.prog w = .ok (.string (X ++ s)) w := fun w => cat_runp _ _ 40 (by omega) (by omega)
  by_cases hy : y = 1 ∨ y = 3
  · rw [if_pos hy] at HE
    have q1 : (F.toList == [78]) = true := lit_yes (by rw [← hF]; exact field_num y hy)
    rw [HE.out]
    clear h hn hT hF hX ho hy
    go_enter Tryd.func44, Tryd.ntmps44
    go_wp2_with fail
    refine (fmt_any n HN.out _ HT.out.pow).mono ?_
    rintro e w2 ⟨rfl, hB⟩
    have HB := Lib.hid (below_via HB.out hB)
    clear hB t0 t1
    go_wp2
    go_ret
    exact ⟨rfl, HB.out⟩
  · rw [if_neg hy] at HE
    have q1 : (F.toList == [78]) = false := lit_no (by rw [← hF]; exact field_other (by omega) (by omega) (by omega))
    rw [HE.out]
    clear h hn hT hF hX ho hy
    go_enter Tryd.func44, Tryd.ntmps44
    go_wp2
    go_ret
    exact ⟨rfl, HB.out⟩

set_option maxHeartbeats 8000000 in
theorem progtext_any (a : Option Addr) (len cap : Nat) (l : Instrs) (w : World) (h : InstrsAt w a len l) (hn : ∀ i, i < len → In64 (ins1 l i)) (hT : TabsPT w) :
    Calls Tryd.prog 17 #[.slice a len cap] w (MadeTxtP (progTx l) w) := by
  have HR := Lib.hid h
  have HN := Lib.hid hn
  have HL := Lib.hid h.length
  have HT := Lib.hid hT
  obtain ⟨q, hq⟩ : ∃ q, progB l = q := ⟨_, rfl⟩
  have HQ := Lib.hid hq
  clear h hn hq hT
  go_enter Tryd.func17, Tryd.ntmps17
  go_wp2_with fail
  refine (progok_any _ _ _ _ _ HR.out HT.out.forms).mono ?_
  rw [HQ.out]
  rintro e w2 ⟨rfl, hB⟩
  have HB := Lib.hid hB
  have HR := Lib.hid (HR.out.keep hB)
  have HT := Lib.hid (HT.out.keep hB)
  clear hB
  cases q
  · have HP := Lib.hid (show progTx l = ByteArray.empty by unfold progTx; rw [HQ.out]; rfl)
    go_wp2
    go_ret
    exact ⟨congrArg (fun s => Ending.returned (.string s)) HP.out.symm, HB.out⟩
  have HP := Lib.hid (show progTx l = progTo l len by unfold progTx; rw [HQ.out, HL.out]; rfl)
  have h30 := prog_few HQ.out
  rw [HL.out] at h30
  obtain ⟨i0, hi, hz0, hz1, hz2⟩ := info_parts infoStr
  go_wp2_with (at_make; refine wpList_make_full _ rfl _ _ 38 rfl w2.heap.size 9 i0 _ 1 Tryd.underlying38 hi hz0 hz1 .i64 .i64 _ _ len rfl rfl rfl rfl (by rw [hz2]; omega) (by unfold maxLen; omega) (Nat.le_refl _) ?_; intro w3 hown hgrow)
  obtain ⟨G, hG⟩ : ∃ G, w2.heap.size = G := ⟨_, rfl⟩
  have HB0 := Lib.hid ((Below.refl w2.heap.size w2).grown hgrow (Nat.le_refl _) (by simp))
  rw [hG] at hown
  obtain ⟨cur0, hrow0, hsz0⟩ : ∃ cur, Row w3 G 9 cur ∧ cur.size = len := by
    rcases hown.2 with ⟨h, _⟩ | ⟨g, cp, cur, hv, _, hh, _, _, hs, _⟩
    · simp at h
    · simp only [Value.slice.injEq, Option.some.injEq, Addr.mk.injEq, true_and, and_true] at hv
      obtain ⟨rfl, rfl⟩ := hv
      exact ⟨cur, hh, by omega⟩
  have HR0 := Lib.hid hrow0
  have HS0 := Lib.hid hsz0
  have HG := Lib.hid hG
  rw [hG]
  clear hown hgrow hrow0 hsz0 hG
  go_loopw [14] (fun i wr => ∃ k : Nat, k ≤ len ∧ i = .int .i64 k ∧ Hid (Below w2.heap.size w2 wr ∧ ∃ cur, Row wr G 9 cur ∧ cur.size = len ∧ ∀ j, j < k → cur[j]? = some (.string (txAt l j)))) (fun i _ => len - (intOf i).toNat)
  case atStart => exact ⟨0, Nat.zero_le _, rfl, HB0.out, cur0, HR0.out, HS0.out, fun j hj => by omega⟩
  case round =>
    obtain ⟨k, hk, rfl, HW⟩ := hrel
    clear HB0 HR0 HS0
    by_cases hlt : k < len
    · rcases (HR.out.keep HW.out.1).src with hz | ⟨b, off, rfl, hb, hc⟩
      · omega
      obtain ⟨c0, c1, c2⟩ := hc k hlt
      have hi0 : (0 : Int) ≤ (k : Int) := by omega
      have hi1 : (k : Int) < (len : Int) := by omega
      have hI := prog_ins HQ.out (k := k) (by rw [HL.out]; exact hlt)
      have HV := Lib.hid (HN.out k hlt)
      obtain ⟨op, e0⟩ : ∃ op, ins0 l k = op := ⟨_, rfl⟩
      obtain ⟨n, e1⟩ : ∃ n, ins1 l k = n := ⟨_, rfl⟩
      obtain ⟨s, e2⟩ : ∃ s, ins2 l k = s := ⟨_, rfl⟩
      have HX := Lib.hid (show txAt l k = insTx op n s by unfold txAt; rw [e0, e1, e2])
      rw [e0] at c0 hI
      rw [e1] at c1 hI HV
      rw [e2] at c2 hI
      have HI := Lib.hid hI
      obtain ⟨x, hx⟩ : ∃ x, insTx op n s = x := ⟨_, rfl⟩
      have HX2 := Lib.hid hx
      rw [hx] at HX
      clear hc hb hI e0 e1 e2 hx
      obtain ⟨hb0, cur, hr, hs, hla⟩ := HW.out
      have HR1 := Lib.hid (hr.keep (below_alloc (Below.refl _ _) (.cells #[.int .i64 op, .int .i64 n, .string s] 55)))
      have HB1 := Lib.hid (below_alloc hb0 (.cells #[.int .i64 op, .int .i64 n, .string s] 55))
      have HS := Lib.hid hs
      have HLA := Lib.hid hla
      clear hb0 hr hs hla HW
      go_wp2_with fail
      refine (instrtext_any op n s _ HI.out HV.out (HT.out.keep HB1.out)).mono ?_
      rw [HX2.out]
      rintro e w4 ⟨rfl, hB⟩
      have HR1 := Lib.hid (HR1.out.keep hB)
      have HB1 := Lib.hid (below_via HB1.out hB)
      have hkc : k < cur.size := by have := HS.out; omega
      have hA0 := HR1.out.cell (j := k) hkc
      have hf0 := HR1.out.free k
      clear hB c0 c1 c2
      generalize cur[k] = x0 at hA0
      clear hkc
      go_wp2
      go_roundw
      case rel =>
        refine ⟨k + 1, by omega, by go_num, HB1.out.setCell (by show w2.heap.size ≤ G; rw [HG.out]; exact Nat.le_refl _) _, _, HR1.out.set _ _, by simpa using HS.out, fun j hj => ?_⟩
        rcases Nat.lt_or_ge j k with hlt2 | hge
        · rw [Array.getElem?_setIfInBounds_ne (by omega)]; exact HLA.out j hlt2
        · obtain rfl : j = k := by omega
          rw [Array.getElem?_setIfInBounds_self_of_lt (by rw [HS.out]; exact hlt), HX.out]
      case measure => simp [intOf]; omega
    · obtain rfl : k = len := by omega
      have HJ := Lib.hid (join_prog l k)
      have HZ := Lib.hid (progTo_size HQ.out (by rw [HL.out]; exact HN.out) k (by rw [HL.out]; exact Nat.le_refl _))
      obtain ⟨hb0, cur, hr, hs, hla⟩ := HW.out
      have HB2 := Lib.hid hb0
      have HR2 := Lib.hid hr
      have HLA := Lib.hid hla
      clear hr hs hla hb0 HW
      have HM := Lib.hid (show (txsOf l k).length = k by simp [txsOf])
      go_wp2_with fail
      have hjoin := Tryd.strings_Join G 0 k (txsOf l k) ⟨#[32]⟩
      rw [HM.out] at hjoin
      have hJ2 : (Lib.join ((txsOf l k).map (·.data.toList)) (⟨#[32]⟩ : ByteArray).data.toList) = (progTo l k).data.toList := HJ.out
      rw [hJ2] at hjoin
      refine (hjoin _ (fun j x hx => ?_) HR2.out.lt (by omega) (Nat.le_refl _) (by have := HZ.out; simp; omega)).mono ?_
      · obtain ⟨hj, he⟩ := List.getElem?_eq_some_iff.1 hx
        have hj2 : j < k := by simpa [txsOf] using hj
        have h1 := HLA.out j hj2
        have h2 := HR2.out
        unfold Row at h2
        have he2 : txAt l j = x := by simpa [txsOf] using he
        subst he2
        simp [World.cell?, h2, h1]
      · rintro e w5 ⟨rfl, hB⟩
        have HB3 := Lib.hid (below_via HB.out (below_via HB2.out hB))
        clear hB
        go_wp2
        go_ret
        exact ⟨congrArg (fun s => Ending.returned (.string s)) HP.out.symm, HB3.out⟩
end Go.Proofs.YtgijalecpeabjaaDoor
