
/- What List computes in the program and in its model: the keys that fit, in a row of their own. Only new blocks are made. -/
import Derived.Test.YtblpebdjbenphaaCount
import Derived.Test.YtblpebdjbenphaaKeyOk
import Derived.Test.YtblpebdjbenphaaKs
namespace Go.Proofs.Ytblpebdjbenphaa
open Go.ChangeShapes Go.WideShapes Go.ChangeAt Go.RowKit
set_option linter.unusedVariables false
set_option maxRecDepth 100000

def grB (s a : ByteArray) : Bool := !Op.bytesLess s.toList a.toList && !(s.toList == a.toList)
theorem gr_yes {s a : ByteArray} (h : grB s a = true) : Op.bytesLess s.toList a.toList = false ∧ (s.toList == a.toList) = false ∧ ¬ s.toList = a.toList := by
  unfold grB at h
  simp only [Bool.and_eq_true, Bool.not_eq_true'] at h
  exact ⟨h.1, h.2, by simpa using h.2⟩
def pickB (p a s : ByteArray) : Bool := hpB s p && grB s a
def listTo (p a : ByteArray) (l : Objs) : Nat → Strs
  | 0 => []
  | k + 1 => listTo p a l k ++ (if pickB p a (obj0 l k) then [obj0 l k] else [])
theorem listTo_yes {p a : ByteArray} {l : Objs} {k : Nat} (h : pickB p a (obj0 l k) = true) : listTo p a l (k + 1) = listTo p a l k ++ [obj0 l k] := by rw [listTo, if_pos h]
theorem listTo_no {p a : ByteArray} {l : Objs} {k : Nat} (h : pickB p a (obj0 l k) = false) : listTo p a l (k + 1) = listTo p a l k := by rw [listTo, if_neg (by rw [h]; simp), List.append_nil]
theorem listTo_pre (p a : ByteArray) (l : Objs) (k : Nat) : ∀ m, k ≤ m → ∃ t, listTo p a l m = listTo p a l k ++ t
  | 0, h => ⟨[], by obtain rfl : k = 0 := by omega
                    simp⟩
  | m + 1, h => by
    rcases Nat.lt_or_ge m k with hlt | hge
    · obtain rfl : k = m + 1 := by omega
      exact ⟨[], by simp⟩
    · obtain ⟨t, ht⟩ := listTo_pre p a l k m hge
      rw [listTo, ht, List.append_assoc]
      exact ⟨_, rfl⟩
theorem listTo_len (p a : ByteArray) (l : Objs) : ∀ k, (listTo p a l k).length ≤ k
  | 0 => Nat.le_refl _
  | k + 1 => by
    have := listTo_len p a l k
    unfold listTo
    split <;> simp <;> omega
theorem listTo_mem (p a : ByteArray) (l : Objs) : ∀ k, ∀ x ∈ listTo p a l k, ∃ i, i < k ∧ x = obj0 l i
  | 0, x, hx => by simp [listTo] at hx
  | k + 1, x, hx => by
    unfold listTo at hx
    rcases List.mem_append.1 hx with h | h
    · obtain ⟨i, hi, he⟩ := listTo_mem p a l k x h
      exact ⟨i, by omega, he⟩
    · split at h
      · exact ⟨k, by omega, by simpa using h⟩
      · simp at h
def listB (p a : ByteArray) (l : Objs) (la : Nat) (n : Int) : Strs := if inB n 1 100 then (listTo p a l la).take n.toNat else []
theorem listB_full {p a : ByteArray} {l : Objs} {la k N : Nat} (hi : inB (N : Int) 1 100 = true) (hk : k ≤ la) (h : (listTo p a l k).length = N) : listB p a l la N = listTo p a l k := by
  unfold listB
  rw [if_pos hi]
  obtain ⟨t, ht⟩ := listTo_pre p a l k la hk
  rw [ht]
  show List.take (Int.toNat (N : Int)) _ = _
  rw [Int.toNat_natCast, ← h, List.take_left]
theorem listB_end {p a : ByteArray} {l : Objs} {la N : Nat} (hi : inB (N : Int) 1 100 = true) (h : (listTo p a l la).length ≤ N) : listB p a l la N = listTo p a l la := by
  unfold listB
  rw [if_pos hi]
  show List.take (Int.toNat (N : Int)) _ = _
  rw [Int.toNat_natCast, List.take_of_length_le h]
theorem listB_no {p a : ByteArray} {l : Objs} {la : Nat} {n : Int} (hi : inB n 1 100 = false) : listB p a l la n = [] := by
  unfold listB
  rw [if_neg (by rw [hi]; simp)]
theorem listB_few {w : World} {q : Option Addr} {la : Nat} {l : Objs} (p a : ByteArray) (n : Int) (h : ObjsAt w q la l) : (listB p a l la n).length ≤ 100 ∧ ∀ x ∈ listB p a l la n, x.size ≤ maxLen := by
  unfold listB
  split
  · rename_i hi
    rw [inB_iff] at hi
    refine ⟨by rw [List.length_take]; omega, fun x hx => ?_⟩
    obtain ⟨i, hi2, rfl⟩ := listTo_mem p a l la x (List.mem_of_mem_take hx)
    exact (h.keys i hi2).1
  · exact ⟨by simp, fun x hx => by simp at hx⟩

def MadeKz (W : Strs) (w : World) (e : Ending) (w' : World) : Prop := ∃ q cp, e = .returned (.slice q W.length cp) ∧ Ks w.heap.size w' q W ∧ Below w.heap.size w w'
theorem made_kz {W V : Strs} {w w' : World} {q : Option Addr} {cp wl : Nat} (hown : w'.ownsRow w.heap.size 9 1 (.slice q wl cp) wl (W.map Value.string)) (hl : W.length = wl) (hV : V = W) (hB : Below w.heap.size w w') : MadeKz V w (.returned (.slice q wl cp)) w' := by
  subst hl
  subst hV
  exact ⟨q, cp, rfl, ks_of_own hown, hB⟩

structure LSt (p a : ByteArray) (l : Objs) (w wr : World) (v : Value) (k wl : Nat) : Prop where
  own : wr.ownsRow (w.heap.size + 1) 9 1 v wl ((listTo p a l k).map Value.string)
  len : (listTo p a l k).length = wl
  below : Below w.heap.size w wr
theorem own_lower {w : World} {base base' : Nat} {e : TypeId} {size : Nat} {v : Value} {n : Nat} {xs : List Value} (h : w.ownsRow base e size v n xs) (hb : base' ≤ base) : w.ownsRow base' e size v n xs := by
  refine ⟨h.1, ?_⟩
  rcases h.2 with h2 | ⟨g, cap, cur, h1, h3, h4⟩
  · exact .inl h2
  · exact .inr ⟨g, cap, cur, h1, Nat.le_trans hb h3, h4⟩

set_option maxHeartbeats 4000000 in
theorem slist_any (q0 g : Option Addr) (la ca lg cg : Nat) (l : Objs) (m : Gones) (p a : ByteArray) (n : Int) (w : World) (h : StoAt w q0 la l g lg m) (hp : p.size ≤ maxLen) (hfew : la ≤ 1048576) :
    Calls Try.prog 16 #[.agg #[.slice q0 la ca, .slice g lg cg], .string p, .string a, .int .i64 n] w (MadeKz (listB p a l la n) w) := by
  obtain ⟨i0, hi, hz0, hz1, hz2⟩ := info_parts infoStr
  unfold maxLen at hp
  have HS := Lib.hid h
  clear h
  have h0 := World.ownsRow_lit (base := w.heap.size + 1) (e := 9) (size := 1) (w.alloc (.cells #[.slice q0 la ca, .slice g lg cg] 27)) #[] 0 (by simp) (Nat.zero_le _) rfl
  have HB0 := Lib.hid (below_alloc (below_alloc (Below.refl w.heap.size w) (.cells #[.slice q0 la ca, .slice g lg cg] 27)) (.cells #[] 9))
  have HX0 := Lib.hid ((row_new w #[.slice q0 la ca, .slice g lg cg] 27).al (.cells #[] 9))
  have hsz : (w.alloc (.cells #[.slice q0 la ca, .slice g lg cg] 27)).heap.size = w.heap.size + 1 := by simp
  rw [hsz] at h0
  have H0 := Lib.hid h0
  clear h0 hsz
  cases hin : inB n 1 100 with
  | false =>
    have HIN := Lib.hid hin
    have HNO := Lib.hid (listB_no (p := p) (a := a) (l := l) (la := la) hin)
    clear hin
    go_enter Try.func16, Try.ntmps16
    go_wp2
    go_loopw [9, 10] (fun v i wr => ∃ (q : Option Addr) (cp : Nat), v = .slice q 0 cp ∧ i = .int .i64 0 ∧ Hid (LSt p a l w wr (.slice q 0 cp) 0 0 ∧ Row wr w.heap.size 27 #[.slice q0 la ca, .slice g lg cg])) (fun _ _ _ => 0)
    case atStart => exact ⟨_, _, rfl, rfl, Lib.hid ⟨⟨H0.out, rfl, HB0.out⟩, HX0.out⟩⟩
    case round =>
      obtain ⟨q, cp, rfl, rfl, HW⟩ := hrel
      have b0 := HW.out.2.cell (j := 0) (by simp)
      simp at b0
      by_cases hlt : 0 < la
      · go_wp2_with (go_at_call 25; refine (l1in_any _ _ _ _).mono ?_; rw [HIN.out]; rintro e w1 ⟨rfl, rfl⟩)
        go_ret
        exact made_kz (own_lower HW.out.1.own (Nat.le_succ _)) HW.out.1.len HNO.out HW.out.1.below
      · obtain rfl : la = 0 := by omega
        go_wp2
        go_ret
        exact made_kz (own_lower HW.out.1.own (Nat.le_succ _)) HW.out.1.len HNO.out HW.out.1.below
  | true =>
    obtain ⟨N, rfl⟩ : ∃ N : Nat, n = (N : Int) := ⟨n.toNat, by rw [inB_iff] at hin; omega⟩
    have hN : 1 ≤ N ∧ N ≤ 100 := by rw [inB_iff] at hin; omega
    obtain ⟨hN1, hN2⟩ := hN
    have HIN := Lib.hid hin
    clear hin
    go_enter Try.func16, Try.ntmps16
    go_wp2
    go_loopw [9, 10] (fun v i wr => ∃ (k wl : Nat) (q : Option Addr) (cp : Nat), k ≤ la ∧ wl ≤ N ∧ v = .slice q wl cp ∧ i = .int .i64 k ∧ Hid (LSt p a l w wr (.slice q wl cp) k wl ∧ Row wr w.heap.size 27 #[.slice q0 la ca, .slice g lg cg])) (fun _ i _ => la - (intOf i).toNat)
    case atStart => exact ⟨0, 0, _, _, Nat.zero_le _, Nat.zero_le _, rfl, rfl, Lib.hid ⟨⟨H0.out, rfl, HB0.out⟩, HX0.out⟩⟩
    case round =>
      obtain ⟨k, wl, q, cp, hk, hwn, rfl, rfl, HW⟩ := hrel
      clear H0 HB0 HX0
      have b0 := HW.out.2.cell (j := 0) (by simp)
      simp at b0
      by_cases hlt : k < la
      · by_cases hfull : wl < N
        · rcases HS.out.o.src with hz | ⟨b, off, rfl, hb, hc⟩
          · omega
          · have c0 := (HW.out.1.below.cell (p := ⟨b, off + k * 3, none⟩) hb).trans (hc k hlt).1
            have hks := (HS.out.o.keys k hlt).1
            unfold maxLen at hks
            have HLEN := Lib.hid HW.out.1.len
            clear hc hb
            cases hq : pickB p a (obj0 l k) with
            | true =>
              have HY := Lib.hid (listTo_yes hq)
              unfold pickB at hq
              rw [Bool.and_eq_true] at hq
              obtain ⟨hq1, hq2⟩ := hq
              obtain ⟨hq2, hq4, hq5⟩ := gr_yes hq2
              unfold hpB at hq1
              rw [Bool.and_eq_true, decide_eq_true_eq] at hq1
              obtain ⟨hq1, hq3⟩ := hq1
              have h1 : (p.size : Int) ≤ ((obj0 l k).size : Int) := by omega
              have HO := Lib.hid HW.out.1.own
              have HBW := Lib.hid HW.out.1.below
              have HXW := Lib.hid HW.out.2
              have HZ := Lib.hid HW.out.2.lt
              clear HW hq1
              go_wp2_with (first | (go_at_call 25; refine (l1in_any _ _ _ _).mono ?_; rw [HIN.out]; rintro e w1 ⟨rfl, rfl⟩) | (at_builtin; (refine wpList_append_own _ rfl _ _ 37 rfl (w.heap.size + 1) 9 i0 _ 1 16 Try.underlying37 hi hz0 hz1 hz2 rfl (by decide) _ _ _ rfl (HO.out.alloc _) ⟨wr.heap.size, 0, none⟩ 1 1 [.string (obj0 l k)] rfl rfl (one_new _ _ _) (fun u hu => by simp at hu; subst hu; rfl) (by unfold maxLen; omega) (by omega) (by have := HZ.out; simp; omega) ?_); intro v' w2 hown1 hgrow hnil; have HO1 := Lib.hid hown1; have HG := Lib.hid hgrow; clear hown1 hgrow hnil))
              obtain ⟨q1, cp1, rfl⟩ := own_form HO1.out
              go_roundw
              case rel =>
                have hb : Below w.heap.size w w2 := (HBW.out.alloc HBW.out.size _).grown HG.out (by have := HBW.out.size; simp; omega) (fun j hj => by have := (HO.out.lt j hj).1; omega)
                have hx : Row w2 w.heap.size 27 #[.slice (some ⟨b, off, none⟩) la ca, .slice g lg cg] := (HXW.out.al _).grown HG.out (fun e => by have := (HO.out.lt _ e).1; omega)
                refine ⟨k + 1, wl + 1, q1, cp1, by omega, by omega, rfl, by go_num, Lib.hid ⟨⟨?_, by rw [HY.out]; simp; exact HLEN.out, hb⟩, hx⟩⟩
                rw [HY.out]
                simp only [List.map_append, List.map_cons, List.map_nil]
                exact HO1.out
              case measure => simp [intOf]; omega
            | false =>
              have HY := Lib.hid (listTo_no hq)
              have HW2 := Lib.hid (show LSt p a l w wr (.slice q wl cp) (k + 1) wl from ⟨by rw [HY.out]; exact HW.out.1.own, by rw [HY.out]; exact HW.out.1.len, HW.out.1.below⟩)
              have HXW := Lib.hid HW.out.2
              clear HW HY
              cases hq2 : grB (obj0 l k) a with
              | false =>
                clear hq
                cases hl : Op.bytesLess (obj0 l k).toList a.toList with
                | true =>
                  clear hq2
                  go_wp2_with (go_at_call 25; refine (l1in_any _ _ _ _).mono ?_; rw [HIN.out]; rintro e w1 ⟨rfl, rfl⟩)
                  go_roundw
                  case rel => exact ⟨k + 1, wl, q, cp, by omega, hwn, rfl, by go_num, Lib.hid ⟨HW2.out, HXW.out⟩⟩
                  case measure => simp [intOf]; omega
                | false =>
                  have he : (obj0 l k).toList = a.toList := by
                    unfold grB at hq2
                    rw [hl] at hq2
                    simpa using hq2
                  clear hq2
                  go_wp2_with (go_at_call 25; refine (l1in_any _ _ _ _).mono ?_; rw [HIN.out]; rintro e w1 ⟨rfl, rfl⟩)
                  go_roundw
                  case rel => exact ⟨k + 1, wl, q, cp, by omega, hwn, rfl, by go_num, Lib.hid ⟨HW2.out, HXW.out⟩⟩
                  case measure => simp [intOf]; omega
              | true =>
                obtain ⟨hg1, hg2, hg3⟩ := gr_yes hq2
                by_cases hle : p.size ≤ (obj0 l k).size
                · have h1 : (p.size : Int) ≤ ((obj0 l k).size : Int) := by omega
                  have hq3 : (((obj0 l k).extract 0 p.size).toList == p.toList) = false := by
                    unfold pickB at hq
                    rw [hp_long hle, hq2, Bool.and_true] at hq
                    exact hq
                  clear hq hle hq2
                  go_wp2_with (go_at_call 25; refine (l1in_any _ _ _ _).mono ?_; rw [HIN.out]; rintro e w1 ⟨rfl, rfl⟩)
                  go_roundw
                  case rel => exact ⟨k + 1, wl, q, cp, by omega, hwn, rfl, by go_num, Lib.hid ⟨HW2.out, HXW.out⟩⟩
                  case measure => simp [intOf]; omega
                · have h1 : ¬ (p.size : Int) ≤ ((obj0 l k).size : Int) := by omega
                  clear hq hle hq2
                  go_wp2_with (go_at_call 25; refine (l1in_any _ _ _ _).mono ?_; rw [HIN.out]; rintro e w1 ⟨rfl, rfl⟩)
                  go_roundw
                  case rel => exact ⟨k + 1, wl, q, cp, by omega, hwn, rfl, by go_num, Lib.hid ⟨HW2.out, HXW.out⟩⟩
                  case measure => simp [intOf]; omega
        · obtain rfl : wl = N := by omega
          have HV := Lib.hid (listB_full HIN.out hk HW.out.1.len)
          go_wp2_with (go_at_call 25; refine (l1in_any _ _ _ _).mono ?_; rw [HIN.out]; rintro e w1 ⟨rfl, rfl⟩)
          go_ret
          exact made_kz (own_lower HW.out.1.own (Nat.le_succ _)) HW.out.1.len HV.out HW.out.1.below
      · obtain rfl : k = la := by omega
        have HV := Lib.hid (listB_end HIN.out (by rw [HW.out.1.len]; exact hwn))
        go_wp2
        go_ret
        exact made_kz (own_lower HW.out.1.own (Nat.le_succ _)) HW.out.1.len HV.out HW.out.1.below
end Go.Proofs.Ytblpebdjbenphaa
