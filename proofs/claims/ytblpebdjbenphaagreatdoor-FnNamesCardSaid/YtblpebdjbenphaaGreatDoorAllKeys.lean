
/- The program's StoreOk: it says whether a store is valid. Only new blocks are made. -/
import Derived.Test.YtblpebdjbenphaaGreatDoorStoreOkS
import Derived.Test.YtblpebdjbenphaaGreatDoorMrgT
import Derived.Test.YtblpebdjbenphaaGreatDoorStrs3
namespace Go.Proofs.YtblpebdjbenphaaGreatDoor
open Go.ChangeShapes Go.WideShapes Go.ChangeAt Go.RowKit
set_option linter.unusedVariables false
set_option maxRecDepth 100000

structure ElemP (l : Objs) (m : Gones) : Prop where
  objs : ∀ i, i < l.length → objOk l i
  gons : ∀ i, i < m.length → gonOk m i

set_option maxHeartbeats 4000000 in
theorem elementsok_any (a g : Option Addr) (la ca lg cg : Nat) (l : Objs) (m : Gones) (w : World) (h : StoAt w a la l g lg m) :
    Calls Tryz.prog 24 #[.agg #[.slice a la ca, .slice g lg cg]] w (SaysB (ElemP l m) w) := by
  have hm := h.o.max
  have hm2 := h.d.max
  unfold maxLen at hm hm2
  have HS := Lib.hid h
  have HL := Lib.hid h.o.length
  have HLG := Lib.hid h.d.length
  clear h
  go_enter Tryz.func24, Tryz.ntmps24
  go_wp2
  go_loopw [10] (fun i wr => ∃ k : Nat, k ≤ la ∧ i = .int .i64 k ∧ Hid (GD w #[.slice a la ca, .slice g lg cg] wr ∧ ∀ j, j < k → objOk l j)) (fun i _ => la - (intOf i).toNat)
  case atStart => exact ⟨0, Nat.zero_le _, rfl, ⟨below_alloc (Below.refl _ _) _, row_new _ _ _⟩, fun j hj => by omega⟩
  case round =>
    obtain ⟨k, hk, rfl, HW⟩ := hrel
    by_cases hlt : k < la
    · rcases HS.out.o.src with hz | ⟨b, off, rfl, hb, hc⟩
      · omega
      · have c0 := (HW.out.1.below.cell (p := ⟨b, off + k * 3, none⟩) hb).trans (hc k hlt).1
        have c1 := (HW.out.1.below.cell (p := ⟨b, off + k * 3 + 1, none⟩) hb).trans (hc k hlt).2.1
        have c2 := (HW.out.1.below.cell (p := ⟨b, off + k * 3 + 2, none⟩) hb).trans (hc k hlt).2.2
        have hi1 : (k : Int) < (la : Int) := by omega
        have hi0 : (0 : Int) ≤ (k : Int) := by omega
        have hsz : (obj0 l k).size ≤ maxLen ∧ (obj2 l k).size ≤ maxLen := HS.out.o.keys k hlt
        have HSZ := Lib.hid hsz.1
        clear hsz
        have hkl : k < l.length := by rw [HL.out]; exact hlt
        have HBK := Lib.hid (below_alloc HW.out.1.below (.cells #[.string (obj0 l k), .int .i64 (obj1 l k), .string (obj2 l k)] 34))
        clear hc hb
        cases hkey : keyB (obj0 l k) with
        | false =>
          have HN := Lib.hid (show ¬ ElemP l m from fun h => by rw [(h.objs k hkl).1] at hkey; cases hkey)
          have HK := Lib.hid hkey
          clear hkey
          go_wp2_with (first | (go_at_call 43; refine (keyok_any _ _ HSZ.out).mono ?_; rw [HK.out]; rintro e w1 ⟨rfl, rfl⟩))
          go_ret
          exact says_no HN.out HBK.out
        | true =>
          have HK := Lib.hid hkey
          cases hver : inB (obj1 l k) 1 1000000 with
          | false =>
            have HN := Lib.hid (show ¬ ElemP l m from fun h => by rw [(h.objs k hkl).2.1] at hver; cases hver)
            have HV := Lib.hid hver
            clear hkey hver
            go_wp2_with (first | (go_at_call 43; refine (keyok_any _ _ HSZ.out).mono ?_; rw [HK.out]; rintro e w1 ⟨rfl, rfl⟩) | (go_at_call 44; refine (verok_any _ _).mono ?_; rw [HV.out]; rintro e w1 ⟨rfl, rfl⟩))
            go_ret
            exact says_no HN.out HBK.out
          | true =>
            have HV := Lib.hid hver
            cases hd : decide (((obj2 l k).size : Int) ≤ 30000) with
            | false =>
              have HN := Lib.hid (show ¬ ElemP l m from fun h => by have := (h.objs k hkl).2.2; rw [decide_eq_false_iff_not] at hd; omega)
              have HD := Lib.hid hd
              clear hkey hver hd
              go_wp2_with (first | (go_at_call 43; refine (keyok_any _ _ HSZ.out).mono ?_; rw [HK.out]; rintro e w1 ⟨rfl, rfl⟩) | (go_at_call 44; refine (verok_any _ _).mono ?_; rw [HV.out]; rintro e w1 ⟨rfl, rfl⟩) | (go_at_call 45; refine (dataok_any _ _).mono ?_; rw [HD.out]; rintro e w1 ⟨rfl, rfl⟩))
              go_ret
              exact says_no HN.out HBK.out
            | true =>
              have HSN := Lib.hid (show ∀ j, j < k + 1 → objOk l j from fun j hj => by
                rcases Nat.lt_or_ge j k with h | h
                · exact HW.out.2 j h
                · obtain rfl : j = k := by omega
                  exact ⟨hkey, hver, by rw [decide_eq_true_eq] at hd; omega⟩)
              have HD := Lib.hid hd
              clear hkey hver hd
              go_wp2_with (first | (go_at_call 43; refine (keyok_any _ _ HSZ.out).mono ?_; rw [HK.out]; rintro e w1 ⟨rfl, rfl⟩) | (go_at_call 44; refine (verok_any _ _).mono ?_; rw [HV.out]; rintro e w1 ⟨rfl, rfl⟩) | (go_at_call 45; refine (dataok_any _ _).mono ?_; rw [HD.out]; rintro e w1 ⟨rfl, rfl⟩))
              go_roundw
              case rel => exact ⟨k + 1, by omega, by go_num, ⟨HBK.out, HW.out.1.box.al _⟩, HSN.out⟩
              case measure => simp [intOf]; omega
    · obtain rfl : k = la := by omega
      have HSO := Lib.hid (show ∀ i, i < l.length → objOk l i by rw [HL.out]; exact HW.out.2)
      have b1 := HW.out.1.box.cell (j := 1) (by simp)
      simp at b1
      go_wp2
      have HWB := Lib.hid HW.out.1
      clear HW b1
      go_loopw [34] (fun i wr => ∃ j : Nat, j ≤ lg ∧ i = .int .i64 j ∧ Hid (Below w.heap.size w wr ∧ ∀ i, i < j → gonOk m i)) (fun i _ => lg - (intOf i).toNat)
      case atStart => exact ⟨0, Nat.zero_le _, rfl, HWB.out.below, fun j hj => by omega⟩
      case round =>
        obtain ⟨j, hj, rfl, HW⟩ := hrel
        clear HWB
        by_cases hlt : j < lg
        · rcases HS.out.d.src with hz | ⟨b, off, rfl, hb, hc⟩
          · omega
          · have c0 := (HW.out.1.cell (p := ⟨b, off + j * 2, none⟩) hb).trans (hc j hlt).1
            have c1 := (HW.out.1.cell (p := ⟨b, off + j * 2 + 1, none⟩) hb).trans (hc j hlt).2
            have hi1 : (j : Int) < (lg : Int) := by omega
            have hi0 : (0 : Int) ≤ (j : Int) := by omega
            have HSZ := Lib.hid (HS.out.d.keys j hlt)
            have hkl : j < m.length := by rw [HLG.out]; exact hlt
            have HBK := Lib.hid (below_alloc HW.out.1 (.cells #[.string (gone0 m j), .int .i64 (gone1 m j)] 57))
            clear hc hb
            cases hkey : keyB (gone0 m j) with
            | false =>
              have HN := Lib.hid (show ¬ ElemP l m from fun h => by rw [(h.gons j hkl).1] at hkey; cases hkey)
              have HK := Lib.hid hkey
              clear hkey
              go_wp2_with (first | (go_at_call 43; refine (keyok_any _ _ HSZ.out).mono ?_; rw [HK.out]; rintro e w1 ⟨rfl, rfl⟩))
              go_ret
              exact says_no HN.out HBK.out
            | true =>
              have HK := Lib.hid hkey
              cases hver : inB (gone1 m j) 1 1000000 with
              | false =>
                have HN := Lib.hid (show ¬ ElemP l m from fun h => by rw [(h.gons j hkl).2] at hver; cases hver)
                have HV := Lib.hid hver
                clear hkey hver
                go_wp2_with (first | (go_at_call 43; refine (keyok_any _ _ HSZ.out).mono ?_; rw [HK.out]; rintro e w1 ⟨rfl, rfl⟩) | (go_at_call 44; refine (verok_any _ _).mono ?_; rw [HV.out]; rintro e w1 ⟨rfl, rfl⟩))
                go_ret
                exact says_no HN.out HBK.out
              | true =>
                have HV := Lib.hid hver
                have HSN := Lib.hid (show ∀ i, i < j + 1 → gonOk m i from fun i hi => by
                  rcases Nat.lt_or_ge i j with h | h
                  · exact HW.out.2 i h
                  · obtain rfl : i = j := by omega
                    exact ⟨hkey, hver⟩)
                clear hkey hver
                go_wp2_with (first | (go_at_call 43; refine (keyok_any _ _ HSZ.out).mono ?_; rw [HK.out]; rintro e w1 ⟨rfl, rfl⟩) | (go_at_call 44; refine (verok_any _ _).mono ?_; rw [HV.out]; rintro e w1 ⟨rfl, rfl⟩))
                go_roundw
                case rel => exact ⟨j + 1, by omega, by go_num, HBK.out, HSN.out⟩
                case measure => simp [intOf]; omega
        · obtain rfl : j = lg := by omega
          have HY := Lib.hid (show ElemP l m from ⟨HSO.out, by rw [HLG.out]; exact HW.out.2⟩)
          go_wp2
          go_ret
          exact says_yes HY.out HW.out.1

set_option maxHeartbeats 2000000 in
theorem strict_any (a : Option Addr) (n cap : Nat) (l : Strs) (w : World) (h : StrsAt w a n l) :
    Calls Tryz.prog 25 #[.slice a n cap] w (SaysB (IncT l) w) := by
  have hm := h.max
  unfold maxLen at hm
  have HR := Lib.hid h
  clear h
  go_enter Tryz.func25, Tryz.ntmps25
  go_wp2
  go_loopw [3] (fun i wr => ∃ k : Nat, k ≤ n ∧ i = .int .i64 ((k : Int) + 1) ∧ Hid (Below w.heap.size w wr ∧ ∀ j, j < k → j + 1 < n → (txt l j).toList < (txt l (j + 1)).toList)) (fun i _ => n + 1 - (intOf i).toNat)
  case atStart => exact ⟨0, Nat.zero_le _, rfl, Below.refl _ _, fun j hj => by omega⟩
  case round =>
    obtain ⟨k, hk, rfl, HW⟩ := hrel
    by_cases hlt : k + 1 < n
    · rcases HR.out.src with hz | ⟨b, off, rfl, hb, hc⟩
      · omega
      · have c0 := (HW.out.1.cell (p := ⟨b, off + k, none⟩) hb).trans (hc k (by omega))
        have c1 := (HW.out.1.cell (p := ⟨b, off + (k + 1), none⟩) hb).trans (hc (k + 1) hlt)
        have hi1 : (k : Int) + 1 < (n : Int) := by omega
        have hi2 : (k : Int) < (n : Int) := by omega
        have hi0 : (0 : Int) ≤ (k : Int) := by omega
        have hi3 : (0 : Int) ≤ (k : Int) + 1 := by omega
        clear hc hb
        cases hsk : Op.bytesLess (strAt l k).toList (strAt l (k + 1)).toList with
        | false =>
          have HN := Lib.hid (inc_not (l := l) (i := k) (by rw [HR.out.length]; exact hlt) hsk)
          go_wp2_with fail
          have hw1 : IntKind.i64.wrap ((k : Int) + 1) = (k : Int) + 1 := IntWalk.i64_in _ (by omega)
          have hw2 : IntKind.i64.wrap (k : Int) = (k : Int) := IntWalk.i64_in _ (by omega)
          have hw3 : (k : Int) + 1 - 1 = (k : Int) := by omega
          have hw4 : ((k : Int) + 1).toNat = k + 1 := by omega
          go_quiet (fail)
          clear hw1 hw2 hw3 hw4
          go_wp2
          go_ret
          exact says_no HN.out (below_drewN HW.out.1 _)
        | true =>
          have HSN := Lib.hid (show ∀ j, j < k + 1 → j + 1 < n → (txt l j).toList < (txt l (j + 1)).toList from fun j hj h1 => by
            rcases Nat.lt_or_ge j k with h | h
            · exact HW.out.2 j h h1
            · obtain rfl : j = k := by omega
              exact (bltIff _ _).1 hsk)
          go_wp2_with fail
          have hw1 : IntKind.i64.wrap ((k : Int) + 1) = (k : Int) + 1 := IntWalk.i64_in _ (by omega)
          have hw2 : IntKind.i64.wrap (k : Int) = (k : Int) := IntWalk.i64_in _ (by omega)
          have hw3 : (k : Int) + 1 - 1 = (k : Int) := by omega
          have hw4 : ((k : Int) + 1).toNat = k + 1 := by omega
          go_quiet (fail)
          clear hw1 hw2 hw3 hw4
          go_wp2
          go_roundw
          case rel => exact ⟨k + 1, by omega, by go_num, below_drewN HW.out.1 _, HSN.out⟩
          case measure => simp [intOf]; omega
    · have HY := Lib.hid (show IncT l from inc_adj (fun j hj => HW.out.2 j (by rw [HR.out.length] at hj; omega) (by rw [HR.out.length] at hj; exact hj)))
      have hi1 : ¬ (k : Int) + 1 < (n : Int) := by omega
      go_wp2
      go_ret
      exact says_yes HY.out HW.out.1

theorem row_made {w1 : World} {base B len : Nat} {xs : List Value} (h : w1.ownsRow base 9 1 (.slice (some ⟨B, 0, none⟩) len len) len xs) : ∃ cur, Row w1 B 9 cur ∧ cur.size = len := by
  rcases h.2 with ⟨h, _⟩ | ⟨g, cp, cur, hv, _, hh, _, _, hs, _⟩
  · simp at h
  · simp only [Value.slice.injEq, Option.some.injEq, Addr.mk.injEq, true_and, and_true] at hv
    obtain ⟨rfl, rfl⟩ := hv
    exact ⟨cur, hh, by omega⟩

theorem ks_low {base B : Nat} {w : World} {q : Option Addr} {W : Strs} (h : Ks B w q W) (hb : base ≤ B) : Ks base w q W := by
  rcases h with h0 | ⟨g, cur, rfl, h1, hr, h2, h3⟩
  · exact .inl h0
  · exact .inr ⟨g, cur, rfl, Nat.le_trans hb h1, hr, h2, h3⟩

set_option maxHeartbeats 4000000 in
theorem allkeysO_any (a g : Option Addr) (la ca lg cg : Nat) (l : Objs) (m : Gones) (w : World) (h : StoAt w a la l g lg m) (hfew : la + lg ≤ 1048576) :
    Calls Tryz.prog 26 #[.agg #[.slice a la ca, .slice g lg cg]] w (MadeKo (mergeT (okeys l) (gkeys m)) w) := by
  obtain ⟨i0, hi, hz0, hz1, hz2⟩ := info_parts infoStr
  have hm := h.o.max
  have hm2 := h.d.max
  unfold maxLen at hm hm2
  have HS := Lib.hid h
  have HL := Lib.hid h.o.length
  have HLG := Lib.hid h.d.length
  have HB0 := Lib.hid (below_alloc (Below.refl w.heap.size w) (.cells #[.slice a la ca, .slice g lg cg] 27))
  have HX0 := Lib.hid (row_new w #[.slice a la ca, .slice g lg cg] 27)
  clear h
  go_enter Tryz.func26, Tryz.ntmps26
  go_wp2_with (at_make; refine wpList_make_full _ rfl _ _ 59 rfl (w.heap.size + 1) 9 i0 _ 1 Tryz.underlying59 hi hz0 hz1 .i64 .i64 _ _ la rfl rfl rfl rfl (by rw [hz2]; omega) (by unfold maxLen; omega) (by simp) ?_; intro w1 hown hgrow; have HX1 := Lib.hid (HX0.out.grown hgrow (by simp)); have HB1 := Lib.hid (HB0.out.grown hgrow HB0.out.size (by simp)); have HR1 := Lib.hid (row_made hown); have b0 := HX1.out.cell (j := 0) (by simp); have b1 := HX1.out.cell (j := 1) (by simp); simp at b0 b1; clear hown hgrow)
  obtain ⟨cur0, hrow0, hsz0⟩ := HR1.out
  have hB1e : (w.alloc (.cells #[.slice a la ca, .slice g lg cg] 27)).heap.size = w.heap.size + 1 := by simp
  rw [hB1e] at hrow0
  have HRW := Lib.hid (show Row w1 (w.heap.size + 1) 9 cur0 ∧ cur0.size = la ∧ LaidS cur0 (okeys l) 0 from ⟨hrow0, hsz0, fun j hj => by omega⟩)
  clear hrow0 hsz0 hB1e HR1
  go_loopw [16] (fun i wr => ∃ k : Nat, k ≤ la ∧ i = .int .i64 k ∧ Hid (GD w #[.slice a la ca, .slice g lg cg] wr ∧ ∃ cur, Row wr (w.heap.size + 1) 9 cur ∧ cur.size = la ∧ LaidS cur (okeys l) k)) (fun i _ => la - (intOf i).toNat)
  case atStart => exact ⟨0, Nat.zero_le _, rfl, ⟨HB1.out, HX1.out⟩, cur0, HRW.out⟩
  case round =>
    obtain ⟨k, hk, rfl, HW⟩ := hrel
    clear HB1 HX1 HRW
    by_cases hlt : k < la
    · rcases HS.out.o.src with hz | ⟨b, off, rfl, hb, hc⟩
      · omega
      · have c0 := (HW.out.1.below.cell (p := ⟨b, off + k * 3, none⟩) hb).trans (hc k hlt).1
        have c1 := (HW.out.1.below.cell (p := ⟨b, off + k * 3 + 1, none⟩) hb).trans (hc k hlt).2.1
        have c2 := (HW.out.1.below.cell (p := ⟨b, off + k * 3 + 2, none⟩) hb).trans (hc k hlt).2.2
        clear hc hb
        obtain ⟨hgd, cur, hr, hs, hla⟩ := HW.out
        have hr2 := hr.al (.cells #[.string (obj0 l k), .int .i64 (obj1 l k), .string (obj2 l k)] 34)
        have hA0 := hr2.cell (j := k) (by omega)
        have hf0 := hr2.free k
        have hBz := hr.lt
        have HGD := Lib.hid hgd
        have HR2 := Lib.hid hr
        have HSZ := Lib.hid hs
        have HLA := Lib.hid hla
        generalize cur[k] = x0 at hA0
        have hi0 : (0 : Int) ≤ (k : Int) := by omega
        have hi1 : (k : Int) < (la : Int) := by omega
        clear hr hr2 hs hla hgd HW
        go_wp2_with fail
        go_roundw
        case rel =>
          have h1 := HLA.out.step HSZ.out hlt
          have e : strAt (okeys l) k = obj0 l k := okeys_at l k
          rw [e] at h1
          exact ⟨k + 1, by omega, by go_num, ⟨below_alloc (HGD.out.below.setCell (show w.heap.size ≤ w.heap.size + 1 by omega) _) _, (HGD.out.box.put (show w.heap.size ≠ w.heap.size + 1 by omega) _ _).al _⟩, _, (HR2.out.set _ _).al _, by simpa using HSZ.out, h1⟩
        case measure => simp [intOf]; omega
    · obtain rfl : k = la := by omega
      obtain ⟨wo, rfl⟩ : ∃ wo : World, wo = wr := ⟨_, rfl⟩
      obtain ⟨hgd, curO, hrO, hsO, hlaO⟩ := HW.out
      have d1 := hgd.box.cell (j := 1) (by simp)
      simp at d1
      have HGD := Lib.hid hgd
      have HO := Lib.hid (And.intro hrO (And.intro hsO hlaO))
      have hBz := hrO.lt
      clear hgd hrO hsO hlaO HW b0 b1
      go_wp2_with (at_make; refine wpList_make_full _ rfl _ _ 59 rfl wo.heap.size 9 i0 _ 1 Tryz.underlying59 hi hz0 hz1 .i64 .i64 _ _ lg rfl rfl rfl rfl (by rw [hz2]; omega) (by unfold maxLen; omega) (Nat.le_refl _) ?_; intro w2 hown hgrow; have HX2 := Lib.hid (HGD.out.box.grown hgrow (by simp)); have HB2 := Lib.hid (HGD.out.below.grown hgrow HGD.out.below.size (by simp)); have HO2 := Lib.hid (HO.out.1.grown hgrow (by simp)); have HR2 := Lib.hid (row_made hown); have e1 := HX2.out.cell (j := 1) (by simp); simp at e1; clear hown hgrow)
      obtain ⟨cur2, hrow2, hsz2⟩ := HR2.out
      have HRW := Lib.hid (show Row w2 (w.heap.size + 1) 9 curO ∧ Row w2 wo.heap.size 9 cur2 ∧ cur2.size = lg ∧ LaidS cur2 (gkeys m) 0 from ⟨HO2.out, hrow2, hsz2, fun j hj => by omega⟩)
      clear hrow2 hsz2 HR2 HO2
      go_loopw [34] (fun i wr => ∃ j : Nat, j ≤ lg ∧ i = .int .i64 j ∧ Hid (Below w.heap.size w wr ∧ Row wr (w.heap.size + 1) 9 curO ∧ ∃ cur, Row wr wo.heap.size 9 cur ∧ cur.size = lg ∧ LaidS cur (gkeys m) j)) (fun i _ => lg - (intOf i).toNat)
      case atStart => exact ⟨0, Nat.zero_le _, rfl, HB2.out, HRW.out.1, cur2, HRW.out.2⟩
      case round =>
        obtain ⟨j, hj, rfl, HW⟩ := hrel
        clear HB2 HX2 HRW e1
        by_cases hlt : j < lg
        · rcases HS.out.d.src with hz | ⟨b, off, rfl, hb, hc⟩
          · omega
          · have c0 := (HW.out.1.cell (p := ⟨b, off + j * 2, none⟩) hb).trans (hc j hlt).1
            have c1 := (HW.out.1.cell (p := ⟨b, off + j * 2 + 1, none⟩) hb).trans (hc j hlt).2
            clear hc hb
            obtain ⟨hbl, hro, cur, hr, hs, hla⟩ := HW.out
            have hr2 := hr.al (.cells #[.string (gone0 m j), .int .i64 (gone1 m j)] 57)
            have hA0 := hr2.cell (j := j) (by omega)
            have hf0 := hr2.free j
            have hBz2 := hr.lt
            have HBL := Lib.hid hbl
            have HRO := Lib.hid hro
            have HR2 := Lib.hid hr
            have HSZ := Lib.hid hs
            have HLA := Lib.hid hla
            generalize cur[j] = x0 at hA0
            have hi0 : (0 : Int) ≤ (j : Int) := by omega
            have hi1 : (j : Int) < (lg : Int) := by omega
            clear hr hr2 hs hla hbl hro HW
            go_wp2_with fail
            go_roundw
            case rel =>
              have h1 := HLA.out.step HSZ.out hlt
              have e : strAt (gkeys m) j = gone0 m j := gkeys_at m j
              rw [e] at h1
              exact ⟨j + 1, by omega, by go_num, below_alloc (HBL.out.setCell (show w.heap.size ≤ wo.heap.size from HGD.out.below.size) _) _, (HRO.out.put (show w.heap.size + 1 ≠ wo.heap.size from Nat.ne_of_lt hBz) _ _).al _, _, (HR2.out.set _ _).al _, by simpa using HSZ.out, h1⟩
            case measure => simp [intOf]; omega
        · obtain rfl : j = lg := by omega
          obtain ⟨hbl, hro, cur, hr, hs, hla⟩ := HW.out
          have HBL := Lib.hid hbl
          have RO := Lib.hid (StrsAt.ofRow hro ((okeys_len l).trans HL.out) hm (fun i hi => by rw [show strAt (okeys l) i = obj0 l i from okeys_at l i]; exact (HS.out.o.keys i hi).1) HO.out.2.2)
          have RG := Lib.hid (StrsAt.ofRow hr ((gkeys_len m).trans HLG.out) hm2 (fun i hi => by rw [show strAt (gkeys m) i = gone0 m i from gkeys_at m i]; exact HS.out.d.keys i hi) hla)
          clear hr hs hla hbl hro HW
          go_wp2_with fail
          refine (mergedTo_any _ _ _ _ _ _ _ _ _ _ _ RO.out RG.out (Nat.le_refl _) (Nat.le_refl _) hm hm2 hfew).mono ?_
          rintro e w5 ⟨q, cp, rfl, hks, hB⟩
          have HK := Lib.hid hks
          have HB5 := Lib.hid (below_via HBL.out hB)
          have HZ := Lib.hid HBL.out.size
          clear hks hB
          go_wp2
          go_ret
          exact ⟨q, cp, rfl, strs_own_low HK.out HZ.out, HB5.out⟩

theorem allkeys_any (a g : Option Addr) (la ca lg cg : Nat) (l : Objs) (m : Gones) (w : World) (h : StoAt w a la l g lg m) (hfew : la + lg ≤ 1048576) :
    Calls Tryz.prog 26 #[.agg #[.slice a la ca, .slice g lg cg]] w (MadeKs (mergeT (okeys l) (gkeys m)) w) := (allkeysO_any a g la ca lg cg l m w h hfew).mono fun _ _ h => ko_ks h

set_option maxHeartbeats 4000000 in
theorem storeok_any (a g : Option Addr) (la ca lg cg : Nat) (l : Objs) (m : Gones) (w : World) (h : StoAt w a la l g lg m) (hla : la ≤ 1048576) (hlg : lg ≤ 1048576) :
    Calls Tryz.prog 13 #[.agg #[.slice a la ca, .slice g lg cg]] w (SaysB (StoP l m) w) := by
  have HS := Lib.hid h
  have HL := Lib.hid h.o.length
  have HLG := Lib.hid h.d.length
  have HB := Lib.hid (below_alloc (Below.refl w.heap.size w) (.cells #[.slice a la ca, .slice g lg cg] 27))
  have HX := Lib.hid (row_new w #[.slice a la ca, .slice g lg cg] 27)
  clear h
  by_cases hfew : 1100 < la + lg
  · have HN := Lib.hid (show ¬ StoP l m from fun hs => by have := hs.few; rw [HL.out, HLG.out] at this; omega)
    have hf : (1100 : Int) < (la : Int) + (lg : Int) := by omega
    go_enter Tryz.func13, Tryz.ntmps13
    go_wp2
    go_ret
    exact says_no HN.out HB.out
  have hf : ¬ (1100 : Int) < (la : Int) + (lg : Int) := by omega
  go_enter Tryz.func13, Tryz.ntmps13
  go_wp2_with fail
  refine (elementsok_any _ _ _ _ _ _ l m _ (HS.out.keep HB.out)).mono ?_
  rintro e w1 ⟨b1, rfl, hb1, hB⟩
  have HB1 := Lib.hid (below_via HB.out hB)
  have HX1 := Lib.hid (HX.out.keep hB)
  have y0 := HX1.out.cell (j := 0) (by simp)
  have y1 := HX1.out.cell (j := 1) (by simp)
  simp at y0 y1
  clear hB
  cases b1 with
  | false =>
    have HN := Lib.hid (show ¬ StoP l m from fun hs => by have := hb1.2 ⟨hs.objs, hs.gons⟩; cases this)
    clear hb1
    go_wp2
    go_ret
    exact says_no HN.out HB1.out
  | true =>
    have HE := Lib.hid (hb1.1 rfl)
    clear hb1
    go_wp2_with fail
    refine (allkeys_any _ _ _ _ _ _ l m _ (HS.out.keep HB1.out) (by omega)).mono ?_
    rintro e w2 ⟨q, cp, rfl, hks, hB⟩
    have HB2 := Lib.hid (below_via HB1.out hB)
    have HKS := Lib.hid (strs_of_ks hks rfl (by rw [mergeT_len, okeys_len, gkeys_len, HL.out, HLG.out]; unfold maxLen; omega) (fun x hx => by
      rcases (mergeT_mem _ _ _).1 hx with h | h
      · obtain ⟨i, hi, rfl⟩ := mem_txt h
        rw [okeys_at]; rw [okeys_len, HL.out] at hi; exact (HS.out.o.keys i hi).1
      · obtain ⟨i, hi, rfl⟩ := mem_txt h
        rw [gkeys_at]; rw [gkeys_len, HLG.out] at hi; exact HS.out.d.keys i hi))
    clear hks hB
    go_wp2_with fail
    refine (strict_any _ _ _ _ _ HKS.out).mono ?_
    rintro e w3 ⟨b2, rfl, hb2, hB⟩
    have HB3 := Lib.hid (below_via HB2.out hB)
    have HY := Lib.hid (show b2 = true ↔ StoP l m by
      rw [hb2, inc_merge _ _ _ (Nat.le_refl _)]
      exact ⟨fun h => ⟨by rw [HL.out, HLG.out]; omega, HE.out.objs, HE.out.gons, h.1, h.2.1, h.2.2⟩, fun h => ⟨h.oinc, h.ginc, h.apart⟩⟩)
    clear hb2 hB
    go_wp2
    go_ret
    exact ⟨b2, rfl, HY.out, HB3.out⟩
end Go.Proofs.YtblpebdjbenphaaGreatDoor
