
/- The model's StoreOk: it says whether a store is valid. Only new blocks are made. -/
import Derived.Test.YtblpebdjbenphaaFindK
namespace Go.Proofs.Ytblpebdjbenphaa
open Go.ChangeShapes Go.WideShapes Go.ChangeAt Go.RowKit
set_option linter.unusedVariables false
set_option maxRecDepth 100000

/-- What the model has seen of the objects. -/
def SeenO (l : Objs) (k : Nat) : Prop := ∀ j, j < k → objOk l j ∧ (0 < j → (obj0 l (j - 1)).toList < (obj0 l j).toList)
def SeenG (l : Objs) (m : Gones) (k : Nat) : Prop := ∀ j, j < k → gonOk m j ∧ (0 < j → (gone0 m (j - 1)).toList < (gone0 m j).toList) ∧ isT (okeys l) (gone0 m j) = false
theorem seenO_inc {l : Objs} (h : SeenO l l.length) : IncT (okeys l) := inc_adj (fun i hi => by
  rw [okeys_at, okeys_at]
  rw [okeys_len] at hi
  exact (h (i + 1) hi).2 (by omega))
theorem seenG_inc {l : Objs} {m : Gones} (h : SeenG l m m.length) : IncT (gkeys m) := inc_adj (fun i hi => by
  rw [gkeys_at, gkeys_at]
  rw [gkeys_len] at hi
  exact (h (i + 1) hi).2.1 (by omega))
theorem mem_txt {l : Txts} {s : ByteArray} (h : s ∈ l) : ∃ i, i < l.length ∧ s = txt l i := by
  obtain ⟨i, hi, rfl⟩ := List.getElem_of_mem h
  exact ⟨i, hi, txt_get _ _ hi⟩
theorem txt_mem {l : Txts} {i : Nat} (h : i < l.length) : txt l i ∈ l := by rw [← txt_get l i h]; exact List.getElem_mem _
theorem sto_seen {l : Objs} {m : Gones} (h0 : l.length + m.length ≤ 1100) (h1 : SeenO l l.length) (h2 : SeenG l m m.length) : StoP l m := by
  refine ⟨h0, fun i hi => (h1 i hi).1, fun i hi => (h2 i hi).1, seenO_inc h1, seenG_inc h2, ?_⟩
  intro a ha b hb he
  obtain ⟨i, hi, rfl⟩ := mem_txt hb
  have := (h2 i (by rw [gkeys_len] at hi; exact hi)).2.2
  rw [gkeys_at] at he
  rw [← Bool.not_eq_true, isT_iff (seenO_inc h1)] at this
  exact this ⟨a, ha, he⟩
theorem sto_not_obj {l : Objs} {m : Gones} {k : Nat} (hk : k < l.length) (h : ¬ objOk l k) : ¬ StoP l m := fun hs => h (hs.objs k hk)
theorem sto_not_gon {l : Objs} {m : Gones} {k : Nat} (hk : k < m.length) (h : ¬ gonOk m k) : ¬ StoP l m := fun hs => h (hs.gons k hk)
theorem sto_not_oinc {l : Objs} {m : Gones} {k : Nat} (hk : k + 1 < l.length) (h : ltT (obj0 l k) (obj0 l (k + 1)) = false) : ¬ StoP l m := fun hs =>
  inc_not (l := okeys l) (i := k) (by rw [okeys_len]; exact hk) (by rw [okeys_at, okeys_at]; exact h) hs.oinc
theorem sto_not_ginc {l : Objs} {m : Gones} {k : Nat} (hk : k + 1 < m.length) (h : ltT (gone0 m k) (gone0 m (k + 1)) = false) : ¬ StoP l m := fun hs =>
  inc_not (l := gkeys m) (i := k) (by rw [gkeys_len]; exact hk) (by rw [gkeys_at, gkeys_at]; exact h) hs.ginc
theorem sto_not_apart {l : Objs} {m : Gones} {k : Nat} (hk : k < m.length) (h : isT (okeys l) (gone0 m k) = true) : ¬ StoP l m := fun hs => by
  obtain ⟨s, h1, h2⟩ := (isT_iff hs.oinc).1 h
  exact hs.apart s h1 _ (txt_mem (l := gkeys m) (i := k) (by rw [gkeys_len]; exact hk)) (by rw [gkeys_at]; exact h2)
theorem l7find_is {a g : Option Addr} {la ca lg cg : Nat} {l : Objs} {m : Gones} {key : ByteArray} {w : World} {b : Bool} (h : StoAt w a la l g lg m) (hb : isT (okeys l) key = b) :
    Calls Try.prog 28 #[.agg #[.slice a la ca, .slice g lg cg], .string key] w fun e w' => e = .returned (.tuple #[.int .i64 (posT (okeys l) key : Nat), .bool b]) ∧ Below w.heap.size w w' := by
  have := l7find_any a g la ca lg cg l m key w h
  unfold MadeFound at this
  rw [hb] at this
  exact this
theorem says_no {p : Prop} {w w' : World} (h : ¬ p) (hB : Below w.heap.size w w') : SaysB p w (.returned (.bool false)) w' := ⟨false, rfl, by simp [h], hB⟩
theorem says_yes {p : Prop} {w w' : World} (h : p) (hB : Below w.heap.size w w') : SaysB p w (.returned (.bool true)) w' := ⟨true, rfl, by simp [h], hB⟩

theorem same_quiet {f : FuncId} {args : Array Value} {w : World} {n : Nat} {b c : Bool} (h : Calls Try.prog f args (w.drewN n) (SameBool b (w.drewN n))) (hb : b = c) :
    Calls Try.prog f args (w.drewN n) fun e w'' => e = .returned (.bool c) ∧ ∃ m, w'' = w.drewN m := h.mono fun _ _ ⟨he, hw⟩ => ⟨by rw [he, hb], n, hw.symm⟩

set_option maxHeartbeats 4000000 in
theorem sstoreok_any (a g : Option Addr) (la ca lg cg : Nat) (l : Objs) (m : Gones) (w : World) (h : StoAt w a la l g lg m) (hla : la ≤ 1048576) (hlg : lg ≤ 1048576) :
    Calls Try.prog 17 #[.agg #[.slice a la ca, .slice g lg cg]] w (SaysB (StoP l m) w) := by
  have hm := h.o.max
  have hm2 := h.d.max
  unfold maxLen at hm hm2
  have HS := Lib.hid h
  have HL := Lib.hid h.o.length
  have HLG := Lib.hid h.d.length
  clear h
  by_cases hfew : 1100 < la + lg
  · have HN := Lib.hid (show ¬ StoP l m from fun hs => by have := hs.few; rw [HL.out, HLG.out] at this; omega)
    have hf : (1100 : Int) < (la : Int) + (lg : Int) := by omega
    go_enter Try.func17, Try.ntmps17
    go_wp2
    go_ret
    exact says_no HN.out (below_alloc (Below.refl _ _) _)
  have hf : ¬ (1100 : Int) < (la : Int) + (lg : Int) := by omega
  go_enter Try.func17, Try.ntmps17
  go_wp2
  go_loopw [3, 4] (fun i o wr => ∃ k : Nat, k ≤ la ∧ i = .int .i64 k ∧ Hid (GD w #[.slice a la ca, .slice g lg cg] wr ∧ SeenO l k)) (fun i _ _ => la - (intOf i).toNat)
  case atStart => exact ⟨0, Nat.zero_le _, rfl, ⟨below_alloc (Below.refl _ _) _, row_new _ _ _⟩, fun j hj => by omega⟩
  case round =>
    obtain ⟨k, hk, rfl, HW⟩ := hrel
    have b0 := HW.out.1.box.cell (j := 0) (by simp)
    have b1 := HW.out.1.box.cell (j := 1) (by simp)
    simp at b0 b1
    by_cases hlt : k < la
    · rcases HS.out.o.src with hz | ⟨b, off, rfl, hb, hc⟩
      · omega
      · have c0 := (HW.out.1.below.cell (p := ⟨b, off + k * 3, none⟩) hb).trans (hc k hlt).1
        have c1 := (HW.out.1.below.cell (p := ⟨b, off + k * 3 + 1, none⟩) hb).trans (hc k hlt).2.1
        have c2 := (HW.out.1.below.cell (p := ⟨b, off + k * 3 + 2, none⟩) hb).trans (hc k hlt).2.2
        have hi1 : (k : Int) < (la : Int) := by omega
        have hi0 : (0 : Int) ≤ (k : Int) := by omega
        have hsz : (obj0 l k).size ≤ maxLen ∧ (obj2 l k).size ≤ maxLen := HS.out.o.keys k hlt
        have HSZ := Lib.hid hsz.1
        have hd0 := hsz.2
        unfold maxLen at hd0
        clear hsz
        have hkl : k < l.length := by rw [HL.out]; exact hlt
        have HBK := Lib.hid (below_alloc HW.out.1.below (.cells #[.string (obj0 l k), .int .i64 (obj1 l k), .string (obj2 l k)] 31))
        have HC := Lib.hid hc
        have HBB := Lib.hid hb
        clear hc hb
        cases hkey : keyB (obj0 l k) with
        | false =>
          have HN := Lib.hid (sto_not_obj (m := m) hkl (fun h => by rw [h.1] at hkey; cases hkey))
          have HK := Lib.hid hkey
          clear hkey
          go_wp2_with fail
          go_quiet ((go_at_call 26; exact same_quiet (l7key_any _ _ HSZ.out) HK.out))
          go_wp2
          go_ret
          exact says_no HN.out (below_drewN HBK.out _)
        | true =>
          have HK := Lib.hid hkey
          cases hver : inB (obj1 l k) 1 1000000 with
          | false =>
            have HN := Lib.hid (sto_not_obj (m := m) hkl (fun h => by rw [h.2.1] at hver; cases hver))
            have HV := Lib.hid hver
            clear hkey hver
            go_wp2_with fail
            go_quiet ((first | (go_at_call 26; exact same_quiet (l7key_any _ _ HSZ.out) HK.out) | (go_at_call 27; exact same_quiet (l7ver_any _ _) HV.out)))
            go_wp2
            go_ret
            exact says_no HN.out (below_drewN HBK.out _)
          | true =>
            have HV := Lib.hid hver
            by_cases hd : (30000 : Int) < ((obj2 l k).size : Int)
            · have HN := Lib.hid (sto_not_obj (m := m) hkl (fun h => by have := h.2.2; omega))
              clear hkey hver
              go_wp2_with fail
              go_quiet ((first | (go_at_call 26; exact same_quiet (l7key_any _ _ HSZ.out) HK.out) | (go_at_call 27; exact same_quiet (l7ver_any _ _) HV.out)))
              go_wp2
              go_ret
              exact says_no HN.out (below_drewN HBK.out _)
            · have HOK := Lib.hid (show objOk l k from ⟨hkey, hver, by omega⟩)
              clear hkey hver
              have hd2 : decide ((30000 : Int) < ((obj2 l k).size : Int)) = false := by simpa using hd
              by_cases hk0 : 0 < k
              · obtain ⟨p, hp1, hp2⟩ : ∃ p : Nat, (k : Int) - 1 = (p : Int) ∧ p + 1 = k := ⟨k - 1, by omega, by omega⟩
                have d0 := (HBK.out.cell (p := ⟨b, off + p * 3, none⟩) HBB.out).trans (HC.out p (by omega)).1
                have e0 := (HW.out.1.box.al (.cells #[.string (obj0 l k), .int .i64 (obj1 l k), .string (obj2 l k)] 31)).cell (j := 0) (by simp)
                simp at e0
                have hm0 : (0 : Int) ≤ (p : Int) := by omega
                have hmn : (p : Int) < (la : Int) := by omega
                have hg1 : decide ((0 : Int) < (k : Int)) = true := by simp; omega
                cases hlt2 : Op.bytesLess (obj0 l p).toList (obj0 l k).toList with
                | false =>
                  have HN := Lib.hid (sto_not_oinc (m := m) (k := p) (by rw [hp2]; exact hkl) (by rw [hp2]; exact hlt2))
                  go_wp2_with fail
                  have hw1 : IntKind.i64.wrap (p : Int) = (p : Int) := IntWalk.i64_in _ (by omega)
                  have HP2 := Lib.hid hp2
                  clear hp2
                  go_quiet ((first | (go_at_call 26; exact same_quiet (l7key_any _ _ HSZ.out) HK.out) | (go_at_call 27; exact same_quiet (l7ver_any _ _) HV.out)))
                  clear hw1
                  go_wp2
                  go_ret
                  exact says_no HN.out (below_drewN HBK.out _)
                | true =>
                  have HSN := Lib.hid (show SeenO l (k + 1) from fun j hj => by
                    rcases Nat.lt_or_ge j k with h | h
                    · exact HW.out.2 j h
                    · obtain rfl : j = k := by omega
                      exact ⟨HOK.out, fun _ => by rw [show j - 1 = p by omega]; exact (bltIff _ _).1 hlt2⟩)
                  go_wp2_with fail
                  have hw1 : IntKind.i64.wrap (p : Int) = (p : Int) := IntWalk.i64_in _ (by omega)
                  have HP2 := Lib.hid hp2
                  clear hp2
                  go_quiet ((first | (go_at_call 26; exact same_quiet (l7key_any _ _ HSZ.out) HK.out) | (go_at_call 27; exact same_quiet (l7ver_any _ _) HV.out)))
                  clear hw1
                  go_wp2
                  go_roundw
                  case rel => exact ⟨k + 1, by omega, by go_num, ⟨below_drewN HBK.out _, (HW.out.1.box.al _).keep (below_drewN (Below.refl _ _) _)⟩, HSN.out⟩
                  case measure => simp [intOf]; omega
              · have HSN := Lib.hid (show SeenO l (k + 1) from fun j hj => by
                  rcases Nat.lt_or_ge j k with h | h
                  · exact HW.out.2 j h
                  · obtain rfl : j = k := by omega
                    exact ⟨HOK.out, fun h => by omega⟩)
                have hg1 : decide ((0 : Int) < (k : Int)) = false := by simp; omega
                have hg2 : decide (0 < k) = false := by simp; omega
                go_wp2_with fail
                go_quiet ((first | (go_at_call 26; exact same_quiet (l7key_any _ _ HSZ.out) HK.out) | (go_at_call 27; exact same_quiet (l7ver_any _ _) HV.out)))
                go_wp2
                go_roundw
                case rel => exact ⟨k + 1, by omega, by go_num, ⟨below_drewN HBK.out _, (HW.out.1.box.al _).keep (below_drewN (Below.refl _ _) _)⟩, HSN.out⟩
                case measure => simp [intOf]; omega
    · obtain rfl : k = la := by omega
      have HSO := Lib.hid (show SeenO l l.length by rw [HL.out]; exact HW.out.2)
      go_wp2
      have HWB := Lib.hid HW.out.1
      clear HW b0 b1
      go_loopw [5, 6, 7, 8] (fun i o x y wr => ∃ j : Nat, j ≤ lg ∧ i = .int .i64 j ∧ Hid (GD w #[.slice a k ca, .slice g lg cg] wr ∧ SeenG l m j)) (fun i _ _ _ _ => lg - (intOf i).toNat)
      case atStart => exact ⟨0, Nat.zero_le _, rfl, HWB.out, fun j hj => by omega⟩
      case round =>
        obtain ⟨j, hj, rfl, HW⟩ := hrel
        clear HWB
        have b0 := HW.out.1.box.cell (j := 0) (by simp)
        have b1 := HW.out.1.box.cell (j := 1) (by simp)
        simp at b0 b1
        by_cases hlt : j < lg
        · rcases HS.out.d.src with hz | ⟨b, off, rfl, hb, hc⟩
          · omega
          · have c0 := (HW.out.1.below.cell (p := ⟨b, off + j * 2, none⟩) hb).trans (hc j hlt).1
            have c1 := (HW.out.1.below.cell (p := ⟨b, off + j * 2 + 1, none⟩) hb).trans (hc j hlt).2
            have hi1 : (j : Int) < (lg : Int) := by omega
            have hi0 : (0 : Int) ≤ (j : Int) := by omega
            have HSZ := Lib.hid (HS.out.d.keys j hlt)
            have hkl : j < m.length := by rw [HLG.out]; exact hlt
            have HBK := Lib.hid (below_alloc HW.out.1.below (.cells #[.string (gone0 m j), .int .i64 (gone1 m j)] 45))
            have HC := Lib.hid hc
            have HBB := Lib.hid hb
            clear hc hb
            cases hkey : keyB (gone0 m j) with
            | false =>
              have HN := Lib.hid (sto_not_gon (l := l) hkl (fun h => by rw [h.1] at hkey; cases hkey))
              have HK := Lib.hid hkey
              clear hkey
              go_wp2_with fail
              go_quiet ((go_at_call 26; exact same_quiet (l7key_any _ _ HSZ.out) HK.out))
              go_wp2
              go_ret
              exact says_no HN.out (below_drewN HBK.out _)
            | true =>
              have HK := Lib.hid hkey
              cases hver : inB (gone1 m j) 1 1000000 with
              | false =>
                have HN := Lib.hid (sto_not_gon (l := l) hkl (fun h => by rw [h.2] at hver; cases hver))
                have HV := Lib.hid hver
                clear hkey hver
                go_wp2_with fail
                go_quiet ((first | (go_at_call 26; exact same_quiet (l7key_any _ _ HSZ.out) HK.out) | (go_at_call 27; exact same_quiet (l7ver_any _ _) HV.out)))
                go_wp2
                go_ret
                exact says_no HN.out (below_drewN HBK.out _)
              | true =>
                have HV := Lib.hid hver
                have HOK := Lib.hid (show gonOk m j from ⟨hkey, hver⟩)
                clear hkey hver
                have e0 := (HW.out.1.box.al (.cells #[.string (gone0 m j), .int .i64 (gone1 m j)] 45)).cell (j := 0) (by simp)
                have e1 := (HW.out.1.box.al (.cells #[.string (gone0 m j), .int .i64 (gone1 m j)] 45)).cell (j := 1) (by simp)
                simp at e0 e1
                by_cases hk0 : 0 < j
                · obtain ⟨p, hp1, hp2⟩ : ∃ p : Nat, (j : Int) - 1 = (p : Int) ∧ p + 1 = j := ⟨j - 1, by omega, by omega⟩
                  have d0 := (HBK.out.cell (p := ⟨b, off + p * 2, none⟩) HBB.out).trans (HC.out p (by omega)).1
                  have hm0 : (0 : Int) ≤ (p : Int) := by omega
                  have hmn : (p : Int) < (lg : Int) := by omega
                  have hg1 : decide ((0 : Int) < (j : Int)) = true := by simp; omega
                  cases hlt2 : Op.bytesLess (gone0 m p).toList (gone0 m j).toList with
                  | false =>
                    have HN := Lib.hid (sto_not_ginc (l := l) (k := p) (by rw [hp2]; exact hkl) (by rw [hp2]; exact hlt2))
                    go_wp2_with fail
                    have hw1 : IntKind.i64.wrap (p : Int) = (p : Int) := IntWalk.i64_in _ (by omega)
                    have HP2 := Lib.hid hp2
                    clear hp2
                    go_quiet ((first | (go_at_call 26; exact same_quiet (l7key_any _ _ HSZ.out) HK.out) | (go_at_call 27; exact same_quiet (l7ver_any _ _) HV.out)))
                    clear hw1
                    go_wp2
                    go_ret
                    exact says_no HN.out (below_drewN HBK.out _)
                  | true =>
                    have HLT := Lib.hid (show 0 < j → (gone0 m (j - 1)).toList < (gone0 m j).toList from fun _ => by rw [show j - 1 = p by omega]; exact (bltIff _ _).1 hlt2)
                    cases his : isT (okeys l) (gone0 m j) with
                    | true =>
                      have HN := Lib.hid (sto_not_apart hkl his)
                      have HIS := Lib.hid his
                      clear his
                      go_wp2_with fail
                      have hw1 : IntKind.i64.wrap (p : Int) = (p : Int) := IntWalk.i64_in _ (by omega)
                      have HP2 := Lib.hid hp2
                      clear hp2
                      go_quiet ((first | (go_at_call 26; exact same_quiet (l7key_any _ _ HSZ.out) HK.out) | (go_at_call 27; exact same_quiet (l7ver_any _ _) HV.out)))
                      clear hw1 hp1 hlt2
                      go_wp2_with (go_at_call 28; refine (l7find_is (g := some ⟨b, off, none⟩) (HS.out.keep (below_drewN HBK.out _)) HIS.out).mono ?_; rintro e w3 ⟨rfl, hB⟩; have HB3 := Lib.hid (below_via (below_drewN HBK.out _) hB); clear hB)
                      go_ret
                      exact says_no HN.out HB3.out
                    | false =>
                      have HSN := Lib.hid (show SeenG l m (j + 1) from fun i hi => by
                        rcases Nat.lt_or_ge i j with h | h
                        · exact HW.out.2 i h
                        · obtain rfl : i = j := by omega
                          exact ⟨HOK.out, HLT.out, his⟩)
                      have HIS := Lib.hid his
                      clear his
                      go_wp2_with fail
                      have hw1 : IntKind.i64.wrap (p : Int) = (p : Int) := IntWalk.i64_in _ (by omega)
                      have HP2 := Lib.hid hp2
                      clear hp2
                      go_quiet ((first | (go_at_call 26; exact same_quiet (l7key_any _ _ HSZ.out) HK.out) | (go_at_call 27; exact same_quiet (l7ver_any _ _) HV.out)))
                      clear hw1 hp1 hlt2
                      go_wp2_with (go_at_call 28; refine (l7find_is (g := some ⟨b, off, none⟩) (HS.out.keep (below_drewN HBK.out _)) HIS.out).mono ?_; rintro e w3 ⟨rfl, hB⟩; have HB3 := Lib.hid (below_via (below_drewN HBK.out _) hB); have HX3 := Lib.hid (((HW.out.1.box.al (.cells #[.string (gone0 m j), .int .i64 (gone1 m j)] 45)).keep (below_drewN (Below.refl _ _) _)).keep hB); clear hB)
                      go_roundw
                      case rel => exact ⟨j + 1, by omega, by go_num, ⟨HB3.out, HX3.out⟩, HSN.out⟩
                      case measure => simp [intOf]; omega
                · have hg1 : decide ((0 : Int) < (j : Int)) = false := by simp; omega
                  have hg2 : decide (0 < j) = false := by simp; omega
                  cases his : isT (okeys l) (gone0 m j) with
                  | true =>
                    have HN := Lib.hid (sto_not_apart hkl his)
                    have HIS := Lib.hid his
                    clear his
                    go_wp2_with fail
                    go_quiet ((first | (go_at_call 26; exact same_quiet (l7key_any _ _ HSZ.out) HK.out) | (go_at_call 27; exact same_quiet (l7ver_any _ _) HV.out)))
                    go_wp2_with (go_at_call 28; refine (l7find_is (g := some ⟨b, off, none⟩) (HS.out.keep (below_drewN HBK.out _)) HIS.out).mono ?_; rintro e w3 ⟨rfl, hB⟩; have HB3 := Lib.hid (below_via (below_drewN HBK.out _) hB); clear hB)
                    go_ret
                    exact says_no HN.out HB3.out
                  | false =>
                    have HSN := Lib.hid (show SeenG l m (j + 1) from fun i hi => by
                      rcases Nat.lt_or_ge i j with h | h
                      · exact HW.out.2 i h
                      · obtain rfl : i = j := by omega
                        exact ⟨HOK.out, fun h => absurd h hk0, his⟩)
                    have HIS := Lib.hid his
                    clear his
                    go_wp2_with fail
                    go_quiet ((first | (go_at_call 26; exact same_quiet (l7key_any _ _ HSZ.out) HK.out) | (go_at_call 27; exact same_quiet (l7ver_any _ _) HV.out)))
                    go_wp2_with (go_at_call 28; refine (l7find_is (g := some ⟨b, off, none⟩) (HS.out.keep (below_drewN HBK.out _)) HIS.out).mono ?_; rintro e w3 ⟨rfl, hB⟩; have HB3 := Lib.hid (below_via (below_drewN HBK.out _) hB); have HX3 := Lib.hid (((HW.out.1.box.al (.cells #[.string (gone0 m j), .int .i64 (gone1 m j)] 45)).keep (below_drewN (Below.refl _ _) _)).keep hB); clear hB)
                    go_roundw
                    case rel => exact ⟨j + 1, by omega, by go_num, ⟨HB3.out, HX3.out⟩, HSN.out⟩
                    case measure => simp [intOf]; omega
        · obtain rfl : j = lg := by omega
          have HY := Lib.hid (show StoP l m from sto_seen (by rw [HL.out, HLG.out]; omega) HSO.out (by rw [HLG.out]; exact HW.out.2))
          go_wp2
          go_ret
          exact says_yes HY.out HW.out.1.below
end Go.Proofs.Ytblpebdjbenphaa
