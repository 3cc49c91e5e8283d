
/- Which texts are those of a command: by their pieces, and by writing the command again. No model in this text. -/
import Derived.Test.YtcmbaclkfnecbaaDoorCmdTx
import Derived.Test.YtcmbaclkfnecbaaDoorRClaimM
namespace Go.Proofs.YtcmbaclkfnecbaaDoor
open Go.ChangeShapes Go.WideShapes Go.ChangeAt Go.RowKit
set_option linter.unusedVariables false
set_option maxRecDepth 100000

/-! ### Digits -/
def unD (c : UInt8) : Option Nat := if 48 ≤ c.toNat ∧ c.toNat ≤ 57 then some (c.toNat - 48) else if 97 ≤ c.toNat ∧ c.toNat ≤ 102 then some (c.toNat - 87) else none
def dgD (c : UInt8) : Nat := (unD c).getD 0
def dig (n : Nat) : UInt8 := UInt8.ofNat (hexD n).toNat
theorem unD_dig : ∀ n : Fin 16, unD (dig n.val) = some n.val := by decide
def digOk (c : UInt8) : Bool := match unD c with
  | some n => decide (dig n = c ∧ n < 16)
  | none => true
theorem digOk_all : ∀ c : Fin 256, digOk (UInt8.ofNat c.val) = true := by decide +kernel
theorem dig_unD : ∀ c : Fin 256, ∀ n, unD (UInt8.ofNat c.val) = some n → dig n = UInt8.ofNat c.val ∧ n < 16 := by
  intro c n h
  have := digOk_all c
  unfold digOk at this
  rw [h] at this
  exact of_decide_eq_true this
theorem dig_of {c : UInt8} {n : Nat} (h : unD c = some n) : dig n = c ∧ n < 16 := by
  have e : UInt8.ofNat c.toNat = c := by simp
  have := dig_unD ⟨c.toNat, c.toNat_lt⟩ n (by simp only; rw [e]; exact h)
  simp only at this
  rwa [e] at this
theorem dgD_lt (c : UInt8) : dgD c < 16 := by
  unfold dgD
  cases h : unD c with
  | none => decide
  | some n => exact (dig_of h).2
def hexL : List UInt8 → List UInt8
  | [] => []
  | c :: t => dig (c.toNat / 16) :: dig (c.toNat % 16) :: hexL t
def unHex : List UInt8 → Option (List UInt8)
  | [] => some []
  | [_] => none
  | a :: b :: t => match unD a, unD b, unHex t with
    | some x, some y, some r => some (UInt8.ofNat (16 * x + y) :: r)
    | _, _, _ => none
def mHex : List UInt8 → List UInt8
  | a :: b :: t => UInt8.ofNat (16 * dgD a + dgD b) :: mHex t
  | _ => []
theorem unHex_hex : ∀ l, unHex (hexL l) = some l
  | [] => rfl
  | c :: t => by
    have hc := c.toNat_lt
    show (match unD (dig (c.toNat / 16)), unD (dig (c.toNat % 16)), unHex (hexL t) with
      | some x, some y, some r => some (UInt8.ofNat (16 * x + y) :: r)
      | _, _, _ => none) = _
    rw [unD_dig ⟨c.toNat / 16, by omega⟩, unD_dig ⟨c.toNat % 16, by omega⟩, unHex_hex t]
    have e : 16 * (c.toNat / 16) + c.toNat % 16 = c.toNat := by omega
    simp only [e]
    simp
theorem unHex_cons {a b : UInt8} {t r : List UInt8} (h : unHex (a :: b :: t) = some r) : ∃ x y r', unD a = some x ∧ unD b = some y ∧ unHex t = some r' ∧ r = UInt8.ofNat (16 * x + y) :: r' := by
  unfold unHex at h
  split at h
  · rename_i x y r' h1 h2 h3
    injection h with h
    exact ⟨x, y, r', h1, h2, h3, h.symm⟩
  · cases h
theorem hex_unHex : ∀ (l r : List UInt8), unHex l = some r → hexL r = l
  | [], r, h => by injection h with h; subst h; rfl
  | [_], r, h => by cases h
  | a :: b :: t, r, h => by
    obtain ⟨x, y, r', h1, h2, h3, rfl⟩ := unHex_cons h
    have hx := dig_of h1
    have hy := dig_of h2
    have e : (UInt8.ofNat (16 * x + y)).toNat = 16 * x + y := by
      rw [UInt8.toNat_ofNat']
      omega
    unfold hexL
    rw [e, hex_unHex t r' h3]
    have e1 : (16 * x + y) / 16 = x := by omega
    have e2 : (16 * x + y) % 16 = y := by omega
    rw [e1, e2, hx.1, hy.1]
theorem mHex_un : ∀ (l r : List UInt8), unHex l = some r → mHex l = r
  | [], r, h => by injection h
  | [_], r, h => by cases h
  | a :: b :: t, r, h => by
    obtain ⟨x, y, r', h1, h2, h3, rfl⟩ := unHex_cons h
    unfold mHex dgD
    rw [h1, h2, mHex_un t r' h3]; rfl
/-- The text of data. -/
def dataL (l : List UInt8) : List UInt8 := if l = [] then [45] else hexL l
def readD (l : List UInt8) : Option (List UInt8) := if l = [45] then some [] else if l = [] then none else unHex l
theorem hexL_len : ∀ l, (hexL l).length = 2 * l.length
  | [] => rfl
  | c :: t => by simp [hexL, hexL_len t]; omega
theorem readD_data (l : List UInt8) : readD (dataL l) = some l := by
  unfold dataL
  split
  · rename_i h; subst h; rfl
  · rename_i h
    have hl := hexL_len l
    have h0 : 0 < l.length := List.length_pos_iff.2 h
    unfold readD
    rw [if_neg (fun e => by rw [e] at hl; simp at hl; omega), if_neg (fun e => by rw [e] at hl; simp at hl; omega), unHex_hex]
theorem data_readD {l r : List UInt8} (h : readD l = some r) : dataL r = l := by
  unfold readD at h
  split at h
  · rename_i hl; injection h with h; subst h; exact hl.symm
  · split at h
    · cases h
    · rename_i h1 h2
      have := hex_unHex l r h
      unfold dataL
      rw [if_neg (fun e => by rw [e] at this; exact h2 this.symm), this]
theorem mHex_read {l r : List UInt8} (h : readD l = some r) : mHex l = r := by
  unfold readD at h
  split at h
  · rename_i hl; injection h with h; subst h; subst hl; rfl
  · split at h
    · cases h
    · exact mHex_un l r h
theorem hexTo_list (s : ByteArray) : ∀ k, k ≤ s.size → (strOfNums (hexTo s k)).data.toList = hexL (s.data.toList.take k)
  | 0, _ => by simp [hexTo, strOfNums, hexL]
  | k + 1, h => by
    have ih := hexTo_list s k (by omega)
    have ht : s.data.toList.take (k + 1) = s.data.toList.take k ++ [s[k]] := by rw [List.take_succ_eq_append_getElem (by simp; omega)]; rfl
    have hA : ∀ (l : List UInt8) (c : UInt8), hexL (l ++ [c]) = hexL l ++ [dig (c.toNat / 16), dig (c.toNat % 16)] := by
      intro l c
      induction l with
      | nil => rfl
      | cons a t ih => simp [hexL, ih]
    rw [ht, hA, ← ih]
    show (strOfNums (hexTo s k ++ [hexD (byteN s k / 16), hexD (byteN s k % 16)])).data.toList = _
    rw [byteN_at h]
    simp [strOfNums, dig]
theorem dataB_list (s : ByteArray) : (dataB s).data.toList = dataL s.data.toList := by
  unfold dataB dataL
  by_cases h : s.size = 0
  · have e : s.data.toList = [] := List.eq_nil_of_length_eq_zero (by simpa using h)
    rw [if_pos h, if_pos e]
  · rw [if_neg h, if_neg (fun e => h (by have := congrArg List.length e; simpa using this)), hexTo_list s s.size (Nat.le_refl _), List.take_of_length_le (by simp)]
theorem dig_no : ∀ n : Fin 16, dig n.val ≠ 32 := by decide
theorem hexL_noC : ∀ l, noC 32 (hexL l)
  | [] => fun x h => by cases h
  | c :: t => by
    have hc := c.toNat_lt
    intro x hx
    rcases List.mem_cons.1 hx with e | hx
    · rw [e]; exact dig_no ⟨c.toNat / 16, by omega⟩
    rcases List.mem_cons.1 hx with e | hx
    · rw [e]; exact dig_no ⟨c.toNat % 16, by omega⟩
    exact hexL_noC t x hx
theorem dataL_noC (l : List UInt8) : noC 32 (dataL l) := by
  unfold dataL
  split
  · intro x hx; simp at hx; rw [hx]; decide
  · exact hexL_noC l
theorem key_noC {s : ByteArray} (h : keyB s = true) : noC 32 s.data.toList := by
  unfold keyB at h
  rw [Bool.and_eq_true, List.all_eq_true] at h
  intro x hx e
  have := h.2 x hx
  rw [e] at this
  exact absurd this (by decide)

/-! ### Commands -/
def wC : List UInt8 := [99, 114, 101, 97, 116, 101]
def wP : List UInt8 := [112, 117, 116]
def wD : List UInt8 := [100, 101, 108]
/-- What is read of pieces as a command, valid or not. -/
def rpieces (W : List (List UInt8)) : Option (Int × List UInt8 × Int × List UInt8) :=
  match W with
  | [a, b, c] => if a = wC then (readD c).map fun d => (1, b, 0, d) else if a = wD then (numD c).map fun v => (3, b, v, []) else none
  | [a, b, c, d] => if a = wP then (match numD c, readD d with | some v, some x => some (2, b, v, x) | _, _ => none) else none
  | _ => none
def ba (l : List UInt8) : ByteArray := ⟨l.toArray⟩
theorem ba_list (l : List UInt8) : (ba l).data.toList = l := by simp [ba]
theorem ba_back (s : ByteArray) : ba s.data.toList = s := by unfold ba; simp
def rcmd (s : List UInt8) : Option (Int × List UInt8 × Int × List UInt8) :=
  match rpieces (splitL 32 s) with
  | some (k, b, v, d) => if cmdB k (ba b) v (ba d) then some (k, b, v, d) else none
  | none => none
theorem to1 (b d : ByteArray) (v : Int) : (cmdTo 1 b v d).data.toList = wC ++ 32 :: (b.data.toList ++ 32 :: dataL d.data.toList) := by
  unfold cmdTo; rw [if_pos rfl]; simp [dataB_list, wC]
theorem to2 (b d : ByteArray) (v : Int) : (cmdTo 2 b v d).data.toList = wP ++ 32 :: (b.data.toList ++ 32 :: (Lib.itoa v ++ 32 :: dataL d.data.toList)) := by
  unfold cmdTo; rw [if_neg (by decide), if_pos rfl]; simp [dataB_list, wP, decB]
theorem to3 (b d : ByteArray) (v : Int) : (cmdTo 3 b v d).data.toList = wD ++ 32 :: (b.data.toList ++ 32 :: Lib.itoa v) := by
  unfold cmdTo; rw [if_neg (by decide), if_neg (by decide)]; simp [wD, decB]
theorem key_of {k : Int} {b d : ByteArray} {v : Int} (h : cmdB k b v d = true) : keyB b = true := by
  cases hk : keyB b with
  | true => rfl
  | false => rw [cmd_key hk] at h; cases h
theorem nov_of {b d : ByteArray} {v : Int} (h : cmdB 1 b v d = true) : v = 0 := by
  rw [cmd_1 (key_of h)] at h
  simp only [Bool.and_eq_true, decide_eq_true_eq] at h
  exact h.1
theorem nod_of {b d : ByteArray} {v : Int} (h : cmdB 3 b v d = true) : d = ByteArray.empty := by
  rw [cmd_3 (key_of h)] at h
  simp only [Bool.and_eq_true] at h
  have := h.2
  rw [ByteArray.toList_eq] at this
  have h9 : d.data.toList = [] := by simpa using this
  exact ba_eq (by rw [h9]; rfl)
theorem wC_no : noC 32 wC := by unfold noC wC; decide
theorem wP_no : noC 32 wP := by unfold noC wP; decide
theorem wD_no : noC 32 wD := by unfold noC wD; decide
theorem split4 {c : UInt8} {a b d e : List UInt8} (ha : noC c a) (hb : noC c b) (hd : noC c d) (he : noC c e) : splitL c (a ++ c :: (b ++ c :: (d ++ c :: e))) = [a, b, d, e] := by
  rw [splitL_at c _ _ ha, splitL_at c _ _ hb, splitL_at c _ _ hd, splitL_no c _ he]
/-- A valid command's text is read as that command. -/
theorem to_read {k : Int} {b d : ByteArray} {v : Int} (h : cmdB k b v d = true) : rpieces (splitL 32 (cmdTo k b v d).data.toList) = some (k, b.data.toList, v, d.data.toList) := by
  obtain ⟨hk, _, hv0, hv1, _⟩ := cmd_bd h
  have hkn := key_noC (key_of h)
  have hnum : numD (Lib.itoa v) = some v := numD_itoa (by omega) (by omega)
  rcases hk with rfl | rfl | rfl
  · rw [to1, split3 wC_no hkn (dataL_noC _), nov_of h]
    unfold rpieces
    simp only [if_true, readD_data, Option.map_some]
  · rw [to2, split4 wP_no hkn (blank_no v) (dataL_noC _)]
    unfold rpieces
    simp only [if_true, hnum, readD_data]
  · rw [to3, split3 wD_no hkn (blank_no v), nod_of h]
    unfold rpieces
    simp only [if_true, hnum, Option.map_some]
    rw [if_neg (by decide)]; rfl
theorem rcmd_to {s : ByteArray} {k : Int} {b d : ByteArray} {v : Int} (h : cmdB k b v d = true) (hs : cmdTo k b v d = s) : rcmd s.data.toList = some (k, b.data.toList, v, d.data.toList) := by
  unfold rcmd
  rw [← hs, to_read h]
  simp only
  rw [ba_back, ba_back, if_pos h]
theorem join4 (c : UInt8) (l a b d e : List UInt8) (h : splitL c l = [a, b, d, e]) : l = a ++ c :: (b ++ c :: (d ++ c :: e)) := by
  rcases splitL_form c l with h1 | ⟨x, y, rfl, h1⟩
  · rw [splitL_no c l h1] at h; simp at h
  · rw [splitL_at c x y h1] at h
    injection h with e1 e2
    subst e1
    rw [joinL_of c _ y (Nat.le_refl _) b d e e2]
/-- What is read of pieces is written again as it was. -/
theorem pieces_to {s : List UInt8} {k : Int} {b d : List UInt8} {v : Int} (h : rpieces (splitL 32 s) = some (k, b, v, d)) : (cmdTo k (ba b) v (ba d)).data.toList = s := by
  unfold rpieces at h
  split at h
  · rename_i x y z hs
    have hj := joinL_of 32 _ s (Nat.le_refl _) x y z hs
    split at h
    · rename_i hx
      cases hr : readD z with
      | none => rw [hr] at h; cases h
      | some r =>
        rw [hr] at h
        simp only [Option.map_some, Option.some.injEq, Prod.mk.injEq] at h
        obtain ⟨rfl, rfl, rfl, rfl⟩ := h
        rw [to1, ba_list, ba_list, data_readD hr, hj, hx]
    · split at h
      · rename_i hx
        cases hr : numD z with
        | none => rw [hr] at h; cases h
        | some r =>
          rw [hr] at h
          simp only [Option.map_some, Option.some.injEq, Prod.mk.injEq] at h
          obtain ⟨rfl, rfl, rfl, rfl⟩ := h
          rw [to3, ba_list, (numD_iff.1 hr).1, hj, hx]
      · cases h
  · rename_i x y z u hs
    have hj := join4 32 s x y z u hs
    split at h
    · rename_i hx
      split at h
      · rename_i v' d' h1 h2
        simp only [Option.some.injEq, Prod.mk.injEq] at h
        obtain ⟨rfl, rfl, rfl, rfl⟩ := h
        rw [to2, ba_list, ba_list, (numD_iff.1 h1).1, data_readD h2, hj, hx]
      · cases h
    · cases h
  · cases h
/-- What the model makes of pieces. -/
def mKind (a : List UInt8) : Int := if a = wC then 1 else if a = wP then 2 else if a = wD then 3 else 0
def mpieces (W : List (List UInt8)) : Option (Int × List UInt8 × Int × List UInt8) :=
  match W with
  | [a, b, c] => some (mKind a, b, if mKind a = 1 then 0 else (numD c).getD 0, if mKind a = 3 then [] else mHex c)
  | [a, b, c, d] => some (mKind a, b, if mKind a = 1 then 0 else (numD c).getD 0, if mKind a = 3 then [] else mHex d)
  | _ => none
theorem pieces_m {W : List (List UInt8)} {k : Int} {b d : List UInt8} {v : Int} (h : rpieces W = some (k, b, v, d)) : mpieces W = some (k, b, v, d) := by
  unfold rpieces at h
  split at h
  · rename_i x y z
    split at h
    · rename_i hx
      cases hr : readD z with
      | none => rw [hr] at h; cases h
      | some r =>
        rw [hr] at h
        simp only [Option.map_some, Option.some.injEq, Prod.mk.injEq] at h
        obtain ⟨rfl, rfl, rfl, rfl⟩ := h
        subst hx
        show some (mKind wC, y, if mKind wC = 1 then 0 else (numD z).getD 0, if mKind wC = 3 then [] else mHex z) = _
        rw [show mKind wC = 1 by rfl, if_pos rfl, if_neg (by decide), mHex_read hr]
    · split at h
      · rename_i hx
        cases hr : numD z with
        | none => rw [hr] at h; cases h
        | some r =>
          rw [hr] at h
          simp only [Option.map_some, Option.some.injEq, Prod.mk.injEq] at h
          obtain ⟨rfl, rfl, rfl, rfl⟩ := h
          subst hx
          show some (mKind wD, y, if mKind wD = 1 then 0 else (numD z).getD 0, if mKind wD = 3 then [] else mHex z) = _
          rw [show mKind wD = 3 by rfl, if_neg (by decide), if_pos rfl, hr]; rfl
      · cases h
  · rename_i x y z u
    split at h
    · rename_i hx
      split at h
      · rename_i v' d' h1 h2
        simp only [Option.some.injEq, Prod.mk.injEq] at h
        obtain ⟨rfl, rfl, rfl, rfl⟩ := h
        subst hx
        show some (mKind wP, y, if mKind wP = 1 then 0 else (numD z).getD 0, if mKind wP = 3 then [] else mHex u) = _
        rw [show mKind wP = 2 by rfl, if_neg (by decide), if_neg (by decide), h1, mHex_read h2]; rfl
      · cases h
    · cases h
  · cases h
/-- How the model decides. -/
theorem rcmd_model {s : ByteArray} {k : Int} {b d : List UInt8} {v : Int} (hm : mpieces (splitL 32 s.data.toList) = some (k, b, v, d)) : rcmd s.data.toList = if cmdTx k (ba b) v (ba d) = s then some (k, b, v, d) else none := by
  by_cases hc : cmdB k (ba b) v (ba d) = true
  · by_cases he : cmdTo k (ba b) v (ba d) = s
    · have := rcmd_to hc he
      rw [ba_list, ba_list] at this
      rw [this, if_pos (by unfold cmdTx; rw [if_pos hc]; exact he)]
    · rw [if_neg (by unfold cmdTx; rw [if_pos hc]; exact he)]
      unfold rcmd
      cases hr : rpieces (splitL 32 s.data.toList) with
      | none => rfl
      | some t =>
        obtain ⟨k1, b1, v1, d1⟩ := t
        have h1 := pieces_m hr
        rw [hm] at h1
        simp only [Option.some.injEq, Prod.mk.injEq] at h1
        obtain ⟨rfl, rfl, rfl, rfl⟩ := h1
        exact absurd (ba_eq (pieces_to hr)) he
  · have hc2 : cmdB k (ba b) v (ba d) = false := by simpa using hc
    have hn : rcmd s.data.toList = none := by
      unfold rcmd
      cases hr : rpieces (splitL 32 s.data.toList) with
      | none => rfl
      | some t =>
        obtain ⟨k1, b1, v1, d1⟩ := t
        have h1 := pieces_m hr
        rw [hm] at h1
        simp only [Option.some.injEq, Prod.mk.injEq] at h1
        obtain ⟨rfl, rfl, rfl, rfl⟩ := h1
        simp only
        rw [if_neg hc]
    rw [hn, if_neg]
    intro e
    unfold cmdTx at e
    rw [if_neg hc] at e
    have e2 : s.data.toList = [] := by rw [← e]; rfl
    rw [e2] at hm
    cases hm
theorem rcmd_count {s : List UInt8} (h : (splitL 32 s).length ≠ 3 ∧ (splitL 32 s).length ≠ 4) : rcmd s = none := by
  unfold rcmd rpieces
  split
  · rename_i h1
    split at h1
    · rename_i hs; rw [hs] at h; simp at h
    · rename_i hs; rw [hs] at h; simp at h
    · cases h1
  · rfl
theorem cmdTo_size {k : Int} {b d : ByteArray} {v : Int} (h : cmdB k b v d = true) : (cmdTo k b v d).size ≤ 60100 := by
  obtain ⟨hk, h40, hv0, hv1, hd⟩ := cmd_bd h
  have hdz := dataB_size d hd
  have hdec : (decB v).size ≤ 20 := decB_size (by omega) (by omega)
  have z1 : (⟨#[32]⟩ : ByteArray).size = 1 := rfl
  rcases hk with rfl | rfl | rfl
  · unfold cmdTo
    rw [if_pos rfl, ByteArray.size_append, ByteArray.size_append, ByteArray.size_append]
    show 7 + _ + 1 + _ ≤ _
    omega
  · unfold cmdTo
    rw [if_neg (by decide), if_pos rfl, ByteArray.size_append, ByteArray.size_append, ByteArray.size_append, ByteArray.size_append, ByteArray.size_append]
    show 4 + _ + 1 + _ + 1 + _ ≤ _
    omega
  · unfold cmdTo
    rw [if_neg (by decide), if_neg (by decide), ByteArray.size_append, ByteArray.size_append, ByteArray.size_append]
    show 4 + _ + 1 + _ ≤ _
    omega
theorem rcmd_long {s : ByteArray} (h : 70000 < s.size) : rcmd s.data.toList = none := by
  cases hr : rcmd s.data.toList with
  | none => rfl
  | some t =>
    obtain ⟨k, b, v, d⟩ := t
    exfalso
    unfold rcmd at hr
    cases hp : rpieces (splitL 32 s.data.toList) with
    | none => rw [hp] at hr; cases hr
    | some u =>
      obtain ⟨k1, b1, v1, d1⟩ := u
      rw [hp] at hr
      simp only at hr
      split at hr
      · rename_i hc
        have h1 := cmdTo_size hc
        have h2 := ba_eq (pieces_to hp)
        rw [h2] at h1
        omega
      · cases hr
end Go.Proofs.YtcmbaclkfnecbaaDoor
