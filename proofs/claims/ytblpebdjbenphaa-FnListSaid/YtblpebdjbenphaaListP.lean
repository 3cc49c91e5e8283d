
/- What List computes in the program: the keys that fit, in a row of their own. Only new blocks are made. -/
import Derived.Test.YtblpebdjbenphaaList
namespace Go.Proofs.Ytblpebdjbenphaa
open Go.ChangeShapes Go.WideShapes Go.ChangeAt Go.RowKit
set_option linter.unusedVariables false
set_option maxRecDepth 100000

theorem one_new2 (w : World) (o : Obj) (x : Value) (t : TypeId) : ∀ j u, [x][j]? = some u → ((w.alloc o).alloc (.cells #[x] t)).cell? ((⟨w.heap.size + 1, 0, none⟩ : Addr).add j) = some u := by
  have := one_new (w.alloc o) x t
  simpa using this

set_option maxHeartbeats 4000000 in
theorem list_any (q0 g : Option Addr) (la ca lg cg : Nat) (l : Objs) (m : Gones) (p a : ByteArray) (n : Int) (w : World) (h : StoAt w q0 la l g lg m) (hp : p.size ≤ maxLen) (hfew : la ≤ 1048576) :
    Calls Try.prog 14 #[.agg #[.slice q0 la ca, .slice g lg cg], .string p, .string a, .int .i64 n] w (MadeKz (listB p a l la n) w) := by
  obtain ⟨i0, hi, hz0, hz1, hz2⟩ := info_parts infoStr
  have HP := Lib.hid hp
  have HS := Lib.hid h
  clear h hp
  cases hin : inB n 1 100 with
  | false =>
    have HIN := Lib.hid hin
    have HNO := Lib.hid (listB_no (p := p) (a := a) (l := l) (la := la) hin)
    clear hin
    go_enter Try.func14, Try.ntmps14
    go_wp2_with (go_at_call 24; refine (within_any _ _ _ _).mono ?_; rw [HIN.out]; rintro e w1 ⟨rfl, rfl⟩)
    go_ret
    exact ⟨none, 0, by rw [HNO.out]; rfl, by rw [HNO.out]; exact .inl rfl, below_alloc (Below.refl _ _) _⟩
  | true =>
    obtain ⟨N, rfl⟩ : ∃ N : Nat, n = (N : Int) := ⟨n.toNat, by rw [inB_iff] at hin; omega⟩
    have hN : 1 ≤ N ∧ N ≤ 100 := by rw [inB_iff] at hin; omega
    obtain ⟨hN1, hN2⟩ := hN
    have HIN := Lib.hid hin
    clear hin
    go_enter Try.func14, Try.ntmps14
    go_wp2_with (go_at_call 24; refine (within_any _ _ _ _).mono ?_; rw [HIN.out]; rintro e w1 ⟨rfl, rfl⟩)
    have HB0 := Lib.hid (below_alloc (Below.refl w.heap.size w) (.cells #[.slice q0 la ca, .slice g lg cg] 27))
    go_loopw [9, 18] (fun v i wr => ∃ (k wl : Nat) (q : Option Addr) (cp : Nat), k ≤ la ∧ wl ≤ N ∧ v = .slice q wl cp ∧ i = .int .i64 k ∧ Hid (LSt p a l w wr (.slice q wl cp) k wl)) (fun _ i _ => la - (intOf i).toNat)
    case atStart => exact ⟨0, 0, none, 0, Nat.zero_le _, Nat.zero_le _, rfl, rfl, Lib.hid ⟨⟨rfl, .inl ⟨rfl, rfl⟩⟩, rfl, HB0.out⟩⟩
    case round =>
      obtain ⟨k, wl, q, cp, hk, hwn, rfl, rfl, HW⟩ := hrel
      clear HB0
      by_cases hlt : k < la
      · rcases HS.out.o.src with hz | ⟨b, off, rfl, hb, hc⟩
        · omega
        · have c0 := (HW.out.below.cell (p := ⟨b, off + k * 3, none⟩) hb).trans (hc k hlt).1
          have c1 := (HW.out.below.cell (p := ⟨b, off + k * 3 + 1, none⟩) hb).trans (hc k hlt).2.1
          have c2 := (HW.out.below.cell (p := ⟨b, off + k * 3 + 2, none⟩) hb).trans (hc k hlt).2.2
          have HKS := Lib.hid (HS.out.o.keys k hlt).1
          clear hc hb
          have HO := Lib.hid HW.out.own
          have HLEN := Lib.hid HW.out.len
          have HBW := Lib.hid HW.out.below
          have HZ := Lib.hid HW.out.below.size
          clear HW
          by_cases hfull : wl = N
          · subst hfull
            have HV := Lib.hid (listB_full HIN.out hk HLEN.out)
            go_wp2
            go_ret
            exact made_kz (own_lower (HO.out.alloc _) (Nat.le_succ _)) HLEN.out HV.out (below_alloc HBW.out _)
          · have hne : ((wl : Int) == (N : Int)) = false := by rw [beq_eq_false_iff_ne]; omega
            have hwl : wl < N := by omega
            clear hfull
            cases hq : pickB p a (obj0 l k) with
            | true =>
              have HY := Lib.hid (listTo_yes hq)
              unfold pickB at hq
              rw [Bool.and_eq_true] at hq
              obtain ⟨hq1, hq2⟩ := hq
              obtain ⟨hg1, hg2, hg3⟩ := gr_yes hq2
              have HQ1 := Lib.hid hq1
              clear hq1 hq2
              go_wp2_with (first | (go_at_call 19; refine (hasprefix_any _ _ _ HKS.out HP.out).mono ?_; rw [HQ1.out]; rintro e w' ⟨rfl, rfl⟩) | (at_builtin; (refine wpList_append_own _ rfl _ _ 37 rfl (w.heap.size + 1) 9 i0 _ 1 16 Try.underlying37 hi hz0 hz1 hz2 rfl (by decide) _ _ _ rfl ((HO.out.alloc _).alloc _) ⟨wr.heap.size + 1, 0, none⟩ 1 1 [.string (obj0 l k)] rfl rfl (one_new2 _ _ _ _) (fun u hu => by simp at hu; subst hu; rfl) (by unfold maxLen; omega) (by omega) (by have := HZ.out; simp; omega) ?_); intro v' w2 hown1 hgrow hnil; have HO1 := Lib.hid hown1; have HG := Lib.hid hgrow; clear hown1 hgrow hnil))
              obtain ⟨q1, cp1, rfl⟩ := own_form HO1.out
              go_roundw
              case rel =>
                have hb : Below w.heap.size w w2 := ((HBW.out.alloc HBW.out.size _).alloc (by have := HBW.out.size; simp; omega) _).grown HG.out (by have := HBW.out.size; simp; omega) (fun j hj => by have := (HO.out.lt j hj).1; omega)
                refine ⟨k + 1, wl + 1, q1, cp1, by omega, by omega, rfl, by go_num, Lib.hid ⟨?_, by rw [HY.out]; simp; exact HLEN.out, hb⟩⟩
                rw [HY.out]
                simp only [List.map_append, List.map_cons, List.map_nil]
                exact HO1.out
              case measure => simp [intOf]; omega
            | false =>
              have HY := Lib.hid (listTo_no hq)
              have HW2 := Lib.hid (show ∀ o, LSt p a l w (wr.alloc o) (.slice q wl cp) (k + 1) wl from fun o => ⟨by rw [HY.out]; exact HO.out.alloc _, by rw [HY.out]; exact HLEN.out, below_alloc HBW.out _⟩)
              clear HY HO HLEN HBW
              cases hq1 : hpB (obj0 l k) p with
              | false =>
                have HQ1 := Lib.hid hq1
                clear hq hq1
                go_wp2_with (go_at_call 19; refine (hasprefix_any _ _ _ HKS.out HP.out).mono ?_; rw [HQ1.out]; rintro e w' ⟨rfl, rfl⟩)
                go_roundw
                case rel => exact ⟨k + 1, wl, q, cp, by omega, hwn, rfl, by go_num, Lib.hid (HW2.out _)⟩
                case measure => simp [intOf]; omega
              | true =>
                have hg : grB (obj0 l k) a = false := by
                  unfold pickB at hq
                  rw [hq1, Bool.true_and] at hq
                  exact hq
                have HQ1 := Lib.hid hq1
                clear hq hq1
                cases hl : Op.bytesLess (obj0 l k).toList a.toList with
                | true =>
                  clear hg
                  go_wp2_with (go_at_call 19; refine (hasprefix_any _ _ _ HKS.out HP.out).mono ?_; rw [HQ1.out]; rintro e w' ⟨rfl, rfl⟩)
                  go_roundw
                  case rel => exact ⟨k + 1, wl, q, cp, by omega, hwn, rfl, by go_num, Lib.hid (HW2.out _)⟩
                  case measure => simp [intOf]; omega
                | false =>
                  have he : (obj0 l k).toList = a.toList := by
                    unfold grB at hg
                    rw [hl] at hg
                    simpa using hg
                  clear hg
                  go_wp2_with (go_at_call 19; refine (hasprefix_any _ _ _ HKS.out HP.out).mono ?_; rw [HQ1.out]; rintro e w' ⟨rfl, rfl⟩)
                  go_roundw
                  case rel => exact ⟨k + 1, wl, q, cp, by omega, hwn, rfl, by go_num, Lib.hid (HW2.out _)⟩
                  case measure => simp [intOf]; omega
      · obtain rfl : k = la := by omega
        have HV := Lib.hid (listB_end HIN.out (by rw [HW.out.len]; exact hwn))
        go_wp2
        go_ret
        exact made_kz (own_lower HW.out.own (Nat.le_succ _)) HW.out.len HV.out HW.out.below
end Go.Proofs.Ytblpebdjbenphaa
