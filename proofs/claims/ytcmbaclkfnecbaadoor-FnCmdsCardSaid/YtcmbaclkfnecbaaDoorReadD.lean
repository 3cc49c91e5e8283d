
/- The data of a command read out of digits: what the program and its model do. Only new blocks are made. -/
import Derived.Test.YtcmbaclkfnecbaaDoorRCmdM
import Derived.Test.YtcmbaclkfnecbaaDoorNum
namespace Go.Proofs.YtcmbaclkfnecbaaDoor
open Go.ChangeShapes Go.WideShapes Go.ChangeAt Go.RowKit
set_option linter.unusedVariables false
set_option maxRecDepth 100000

/-! ### Decoding step by step -/
theorem unHex_snoc : ∀ (n : Nat) (l Y : List UInt8) (a b : UInt8) (x y : Nat), l.length = 2 * n → unHex l = some Y → unD a = some x → unD b = some y → unHex (l ++ [a, b]) = some (Y ++ [UInt8.ofNat (16 * x + y)])
  | 0, l, Y, a, b, x, y, hl, h, ha, hb => by
    have : l = [] := List.eq_nil_of_length_eq_zero (by omega)
    subst this
    injection h with h
    subst h
    show unHex [a, b] = _
    simp [unHex, ha, hb]
  | n + 1, l, Y, a, b, x, y, hl, h, ha, hb => by
    match l, hl with
    | c :: d :: t, hl =>
      obtain ⟨u, v, r, h1, h2, h3, rfl⟩ := unHex_cons h
      have ih := unHex_snoc n t r a b x y (by simp at hl; omega) h3 ha hb
      show unHex (c :: d :: (t ++ [a, b])) = _
      simp [unHex, h1, h2, ih]
    | [c], hl => simp at hl; omega
theorem unHex_bad : ∀ (n : Nat) (l t : List UInt8) (a b : UInt8), l.length = 2 * n → (unD a = none ∨ unD b = none) → unHex (l ++ a :: b :: t) = none
  | 0, l, t, a, b, hl, h => by
    have : l = [] := List.eq_nil_of_length_eq_zero (by omega)
    subst this
    show unHex (a :: b :: t) = none
    rcases h with h | h
    · simp [unHex, h]
    · cases ha : unD a <;> simp [unHex, ha, h]
  | n + 1, l, t, a, b, hl, h => by
    match l, hl with
    | c :: d :: u, hl =>
      have ih := unHex_bad n u t a b (by simp at hl; omega) h
      show unHex (c :: d :: (u ++ a :: b :: t)) = none
      cases h1 : unD c <;> cases h2 : unD d <;> simp [unHex, h1, h2, ih]
    | [c], hl => simp at hl; omega
theorem unHex_odd : ∀ (n : Nat) (l : List UInt8), l.length = 2 * n + 1 → unHex l = none
  | 0, l, hl => by
    match l, hl with
    | [c], _ => rfl
    | c :: d :: t, hl => simp at hl
  | n + 1, l, hl => by
    match l, hl with
    | [c], hl => simp at hl
    | c :: d :: t, hl =>
      have ih := unHex_odd n t (by simp at hl; omega)
      cases h1 : unD c <;> cases h2 : unD d <;> simp [unHex, h1, h2, ih]
theorem mHex_snoc : ∀ (n : Nat) (l : List UInt8) (a b : UInt8), l.length = 2 * n → mHex (l ++ [a, b]) = mHex l ++ [UInt8.ofNat (16 * dgD a + dgD b)]
  | 0, l, a, b, hl => by
    have : l = [] := List.eq_nil_of_length_eq_zero (by omega)
    subst this; rfl
  | n + 1, l, a, b, hl => by
    match l, hl with
    | c :: d :: t, hl =>
      have ih := mHex_snoc n t a b (by simp at hl; omega)
      show mHex (c :: d :: (t ++ [a, b])) = _
      simp [mHex, ih]
    | [c], hl => simp at hl; omega
theorem mHex_one : ∀ (n : Nat) (l : List UInt8) (a : UInt8), l.length = 2 * n → mHex (l ++ [a]) = mHex l
  | 0, l, a, hl => by
    have : l = [] := List.eq_nil_of_length_eq_zero (by omega)
    subst this; rfl
  | n + 1, l, a, hl => by
    match l, hl with
    | c :: d :: t, hl =>
      have ih := mHex_one n t a (by simp at hl; omega)
      show mHex (c :: d :: (t ++ [a])) = _
      simp [mHex, ih]
    | [c], hl => simp at hl; omega
/-- Bytes as the numbers of a row. -/
def numsL (l : List UInt8) : List Int := l.map fun x => (x.toNat : Int)
theorem nums_back (l : List UInt8) : strOfNums (numsL l) = ba l := by
  apply ByteArray.ext
  simp only [strOfNums, numsL, ba]
  congr 1
  rw [List.map_map]
  conv => rhs; rw [← List.map_id l]
  apply List.map_congr_left
  intro x _
  simp

def hexDig : ByteArray := ⟨#[48, 49, 50, 51, 52, 53, 54, 55, 56, 57, 97, 98, 99, 100, 101, 102]⟩
def ixD (c : UInt8) : Int := match unD c with | some n => (n : Int) | none => -1
theorem ix_all : ∀ c : Fin 256, Lib.indexByte hexDig.data.toList (UInt8.ofNat c.val) = ixD (UInt8.ofNat c.val) := by decide +kernel
theorem ix_dig (c : UInt8) : Lib.indexByte hexDig.data.toList c = ixD c := by
  have := ix_all ⟨c.toNat, c.toNat_lt⟩
  simpa using this
theorem indexd_any (c : UInt8) (w : World) : Calls Tryd.prog 88 #[.string hexDig, .int .u8 (c.toNat : Int)] w fun e w' => e = .returned (.int .i64 (ixD c)) ∧ w = w' :=
  (Tryd.strings_IndexByte hexDig (c.toNat : Int) w).mono fun e w' ⟨he, hw⟩ => ⟨by rw [he, ← ix_dig]; simp, hw.symm⟩
def MadeRD (o : Option (List UInt8)) (w : World) (e : Ending) (w' : World) : Prop := e = .returned (.tuple #[.string (ba (o.getD [])), .bool o.isSome]) ∧ Below w.heap.size w w'
theorem rd_none {o : Option (List UInt8)} {w w' : World} (h : o = none) (hB : Below w.heap.size w w') : MadeRD o w (.returned (.tuple #[.string ⟨#[]⟩, .bool false])) w' := by
  subst h; exact ⟨rfl, hB⟩
theorem rd_some {o : Option (List UInt8)} {r : List UInt8} {w w' : World} (h : o = some r) (hB : Below w.heap.size w w') : MadeRD o w (.returned (.tuple #[.string (ba r), .bool true])) w' := by
  subst h; exact ⟨rfl, hB⟩
theorem or_dig : ∀ x y : Fin 16, bits BinOp.or IntKind.i64 ((x.val : Nat) * 16 : Int) ((y.val : Nat) : Int) = ((16 * x.val + y.val : Nat) : Int) := by decide +kernel

theorem take2 {l : List UInt8} {i : Nat} (h : i + 1 < l.length) : l.take (i + 2) = l.take i ++ [l[i], l[i + 1]] := by
  have e1 := List.take_succ_eq_append_getElem (show i + 1 < l.length by omega)
  have e2 := List.take_succ_eq_append_getElem (show i < l.length by omega)
  have e3 : l.take (i + 2) = l.take (i + 1 + 1) := rfl
  rw [e3, e1, e2, List.append_assoc]
  rfl
theorem drop2 {l : List UInt8} {i : Nat} (h : i + 1 < l.length) : l = l.take i ++ l[i] :: l[i + 1] :: l.drop (i + 2) := by
  conv => lhs; rw [← List.take_append_drop i l]
  rw [List.drop_eq_getElem_cons (show i < l.length by omega), List.drop_eq_getElem_cons (show i + 1 < l.length by omega)]
theorem one_newD (w : World) (x : Value) (t : TypeId) : ∀ j u, [x][j]? = some u → (w.alloc (.cells #[x] t)).cell? ((⟨w.heap.size, 0, none⟩ : Addr).add j) = some u := by
  intro j u hj
  match j, hj with
  | 0, hj => simp at hj; subst hj; simp [Addr.add]
set_option maxHeartbeats 8000000 in
theorem readdata_any (s : ByteArray) (w : World) (hs : s.size ≤ 1048576) : Calls Tryd.prog 73 #[.string s] w (MadeRD (readD s.data.toList) w) := by
  obtain ⟨i0, hi, hz0, hz1, hz2⟩ := infoByteX
  by_cases hd : s = ⟨#[45]⟩
  · have HR := Lib.hid (show readD s.data.toList = some [] by rw [hd]; rfl)
    have q1 : (s.toList == [45]) = true := lit_yes hd
    clear hd
    go_enter Tryd.func73, Tryd.ntmps73
    go_wp2
    go_ret2
    exact rd_some HR.out (Below.refl _ _)
  have q1 : (s.toList == [45]) = false := lit_no hd
  have hne : s.data.toList ≠ [45] := fun e => hd (ba_eq e)
  by_cases h0 : s.size = 0
  · have HR := Lib.hid (show readD s.data.toList = none by
      have e : s.data.toList = [] := List.eq_nil_of_length_eq_zero (by simpa using h0)
      rw [e]; rfl)
    have q2 := ba_nil h0
    clear hd hne
    go_enter Tryd.func73, Tryd.ntmps73
    go_wp2
    go_ret2
    exact rd_none HR.out (Below.refl _ _)
  have q2 := ba_some (s := s) (by omega)
  have HRD := Lib.hid (show readD s.data.toList = unHex s.data.toList by
    unfold readD
    rw [if_neg hne, if_neg (fun e => h0 (by have := congrArg List.length e; simpa using this))])
  have hlen : s.data.toList.length = s.size := by simp
  by_cases hod : s.size % 2 = 1
  · have HR := Lib.hid (show readD s.data.toList = none by rw [HRD.out]; exact unHex_odd (s.size / 2) _ (by rw [hlen]; omega))
    have hm : ((s.size : Int)) % 2 = 1 := by omega
    have hm2 : Int.tmod (s.size : Int) 2 = 1 := by rw [Int.tmod_eq_emod_of_nonneg (by omega)]; omega
    clear hd hne
    go_enter Tryd.func73, Tryd.ntmps73
    go_wp2
    go_ret2
    exact rd_none HR.out (Below.refl _ _)
  obtain ⟨n, hn⟩ : ∃ n, s.size = 2 * n := ⟨s.size / 2, by omega⟩
  have hm : ((s.size : Int)) % 2 = 0 := by omega
  have hm2 : Int.tmod (s.size : Int) 2 = 0 := by rw [Int.tmod_eq_emod_of_nonneg (by omega)]; omega
  have hdv : Int.tdiv (s.size : Int) 2 = (n : Int) := by rw [Int.tdiv_eq_ediv_of_nonneg (by omega)]; omega
  have hdv2 : (s.size : Int) / 2 = (n : Int) := by omega
  clear hd hne
  go_enter Tryd.func73, Tryd.ntmps73
  go_wp2_with (at_make; (refine wpList_make_own _ rfl _ _ 22 rfl w.heap.size 5 i0 _ 1 Tryd.underlying22 hi hz0 hz1 .i64 .i64 _ n rfl rfl (by omega) (by rw [hz2]; omega) (by unfold maxLen; omega) (Nat.le_refl _) ?_); intro w1 hown hgrow; have HO := Lib.hid hown; have HG := Lib.hid ((Below.refl w.heap.size w).grown hgrow (Nat.le_refl _) (fun k hk => by cases hk)); clear hown hgrow)
  go_loopw [4, 5] (fun v i wr => ∃ (k : Nat) (Y : List UInt8) (q : Option Addr) (cp : Nat), k ≤ n ∧ i = .int .i64 ((2 * k : Nat) : Int) ∧ v = .slice q k cp ∧ Hid (HexSt w wr (.slice q k cp) k (numsL Y)) ∧ Hid (unHex (s.data.toList.take (2 * k)) = some Y)) (fun _ i _ => s.size + 2 - (intOf i).toNat)
  case atStart => exact ⟨0, [], _, _, Nat.zero_le _, rfl, rfl, ⟨HO.out, rfl, HG.out⟩, Lib.hid rfl⟩
  case round =>
    clear HO HG
    obtain ⟨k, Y, q, cp, hk, rfl, rfl, HS, HY⟩ := hrel
    obtain ⟨j, hj⟩ : ∃ j, 2 * k = j := ⟨_, rfl⟩
    have HJ := Lib.hid hj
    rw [hj] at HY ⊢
    by_cases hlt : k < n
    · have hjs : j + 1 < s.size := by omega
      have hjs0 : j < s.size := by omega
      have hi0 : (0 : Int) ≤ (j : Int) := by omega
      have hi1 : (j : Int) < (s.size : Int) := by omega
      have hi2 : (0 : Int) ≤ (j : Int) + 1 := by omega
      have hi3 : (j : Int) + 1 < (s.size : Int) := by omega
      have hjl : j + 1 < s.data.toList.length := by omega
      have hjt : ((j : Int) + 1).toNat = j + 1 := by omega
      have HD2 := Lib.hid (drop2 hjl)
      have HT2 := Lib.hid (take2 hjl)
      have HTL := Lib.hid (show (s.data.toList.take j).length = 2 * k by rw [List.length_take]; omega)
      obtain ⟨a, ha⟩ : ∃ a, s.data.toList[j]'(by omega) = a := ⟨_, rfl⟩
      obtain ⟨b, hb⟩ : ∃ b, s.data.toList[j + 1]'(by omega) = b := ⟨_, rfl⟩
      rw [ha, hb] at HD2 HT2
      have ha2 : s[j] = a := ha
      have hb2 : s[j + 1] = b := hb
      have hab : s.get j hjs0 = a := ha
      have hbb : s.get (j + 1) hjs = b := hb
      have HRd := Lib.hid (show (unD a = none ∨ unD b = none) → readD s.data.toList = none from fun h => by
        rw [HRD.out]
        have e := unHex_bad k (s.data.toList.take j) (s.data.toList.drop (j + 2)) a b HTL.out h
        rw [← HD2.out] at e
        exact e)
      have HB := Lib.hid HS.out.below
      clear ha hb hj
      go_wp2_with fail
      refine (indexd_any a wr).mono ?_
      rintro e w1 ⟨rfl, rfl⟩
      go_wp2_with fail
      refine (indexd_any b wr).mono ?_
      rintro e w1 ⟨rfl, rfl⟩
      cases hua : unD a with
      | none =>
        have HR := Lib.hid (HRd.out (Or.inl hua))
        have eA : ixD a = -1 := by unfold ixD; rw [hua]
        rw [eA]
        clear hua eA
        go_wp2
        go_ret2
        exact rd_none HR.out HB.out
      | some x =>
        have eA : ixD a = (x : Int) := by unfold ixD; rw [hua]
        have hx16 := (dig_of hua).2
        rw [eA]
        clear eA
        cases hub : unD b with
        | none =>
          have HR := Lib.hid (HRd.out (Or.inr hub))
          have eB : ixD b = -1 := by unfold ixD; rw [hub]
          rw [eB]
          clear hua hub eB
          go_wp2
          go_ret2
          exact rd_none HR.out HB.out
        | some y =>
          have eB : ixD b = (y : Int) := by unfold ixD; rw [hub]
          have hy16 := (dig_of hub).2
          rw [eB]
          clear eB
          have HYN := Lib.hid (show unHex (s.data.toList.take (j + 2)) = some (Y ++ [UInt8.ofNat (16 * x + y)]) by
            rw [HT2.out]; exact unHex_snoc k _ _ _ _ _ _ HTL.out HY.out hua hub)
          clear hua hub
          obtain ⟨z, hz⟩ : ∃ z, 16 * x + y = z := ⟨_, rfl⟩
          have hz2' : z < 256 := by omega
          have hor : bits BinOp.or IntKind.i64 ((x : Int) * 16) (y : Int) = (z : Int) := by rw [← hz]; exact or_dig ⟨x, hx16⟩ ⟨y, hy16⟩
          have HZ := Lib.hid hz
          clear hz
          have HNY := Lib.hid (show numsL (Y ++ [UInt8.ofNat z]) = numsL Y ++ [(z : Int)] by
            unfold numsL
            rw [List.map_append]
            congr 1
            simp
            omega)
          have hkm : k ≤ 1048576 := by omega
          have HO0 := Lib.hid HS.out.own
          have HSZ := Lib.hid HB.out.size
          go_wp2_with (at_builtin; (refine wpList_append_own _ rfl _ _ 22 rfl w.heap.size 5 i0 _ 1 1 Tryd.underlying22 hi hz0 hz1 hz2 rfl (by decide) _ _ _ rfl (HO0.out.alloc _) ⟨wr.heap.size, 0, none⟩ 1 1 [.int .u8 (z : Int)] rfl rfl (one_newD wr _ _) (by intro u hu; simp at hu; subst hu; rfl) (by unfold maxLen; omega) (by omega) (Nat.le_trans HSZ.out (by simp)) ?_); intro v' w3 hown1 hgrow hnil; have HO1 := Lib.hid hown1; have HG := Lib.hid hgrow; clear hown1 hgrow hnil)
          have HB3 := Lib.hid ((below_alloc HB.out _).grown HG.out (below_alloc HB.out _).size (fun j hj => (HO0.out.lt j hj).1))
          obtain ⟨q1, cp1, rfl⟩ := own_form HO1.out
          have HN9 := Lib.hid (show HexSt w w3 (.slice q1 (k + 1) cp1) (k + 1) (numsL (Y ++ [UInt8.ofNat z])) by
            rw [HNY.out]
            exact HS.out.add (Y := [(z : Int)]) HO1.out HB3.out)
          have HJ2 := Lib.hid (show 2 * (k + 1) = j + 2 by have := HJ.out; omega)
          rw [HZ.out] at HYN
          go_wp2
          go_roundw
          case rel =>
            refine ⟨k + 1, Y ++ [UInt8.ofNat z], q1, cp1, by omega, ?_, rfl, HN9, ?_⟩
            · rw [HJ2.out]; go_num
            · rw [HJ2.out]; exact HYN
          case measure => simp [intOf]; omega
    · obtain rfl : k = n := by omega
      have hjn : j = s.size := by omega
      have HR := Lib.hid (show readD s.data.toList = some Y by
        rw [HRD.out]
        have h1 := HY.out
        rw [List.take_of_length_le (by rw [hlen]; omega)] at h1
        exact h1)
      clear hj
      have hcv := HS.out.text (by omega)
      rw [nums_back] at hcv
      go_wp2
      go_ret2
      exact rd_some HR.out HS.out.below
end Go.Proofs.YtcmbaclkfnecbaaDoor
