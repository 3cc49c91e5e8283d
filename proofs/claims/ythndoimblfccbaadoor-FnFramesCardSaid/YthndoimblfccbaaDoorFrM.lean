
/- The frames that a text begins with, as plain mathematics. -/
import Derived.Test.YthndoimblfccbaaDoorCrcS
import Derived.Test.YthndoimblfccbaaDoorFrameOf
import Derived.Laws.BitsLemmas
namespace Go.Proofs.YthndoimblfccbaaDoor
open Go.ChangeShapes Go.WideShapes Go.ChangeAt Go.RowKit
set_option linter.unusedVariables false
set_option maxRecDepth 100000

def byN (s : ByteArray) (i : Nat) : Nat := (s.data.toList.getD i 0).toNat
theorem byN_at {s : ByteArray} {i : Nat} (h : i < s.size) : byN s i = s[i].toNat := by
  unfold byN
  rw [List.getD_eq_getElem?_getD, List.getElem?_eq_getElem (by simpa using h)]
  rfl
theorem byN_lt (s : ByteArray) (i : Nat) : byN s i < 256 := by unfold byN; exact UInt8.toNat_lt _
/-- The number that the four bytes at e say. -/
def szN (s : ByteArray) (e : Nat) : Nat := byN s e * 16777216 + byN s (e + 1) * 65536 + byN s (e + 2) * 256 + byN s (e + 3)
/-- Whether the four bytes behind them are the sum of the n bytes behind those. -/
def okN (s : ByteArray) (e n : Nat) : Bool := (strOfNums (smN (crcZ (s.extract (e + 8) (e + 8 + n))))).toList == (s.extract (e + 4) (e + 8)).toList
/-- The data of the frame at e. -/
def frA (s : ByteArray) (e : Nat) : Option ByteArray :=
  if e + 8 ≤ s.size ∧ szN s e ≤ 100000 ∧ e + 8 + szN s e ≤ s.size ∧ okN s e (szN s e) = true then some (s.extract (e + 8) (e + 8 + szN s e)) else none
theorem frA_some {s : ByteArray} {e : Nat} {d : ByteArray} (h : frA s e = some d) : e + 8 ≤ s.size ∧ szN s e ≤ 100000 ∧ e + 8 + szN s e ≤ s.size ∧ d = s.extract (e + 8) (e + 8 + szN s e) ∧ d.size = szN s e := by
  unfold frA at h
  split at h
  · rename_i hc
    simp only [Option.some.injEq] at h
    refine ⟨hc.1, hc.2.1, hc.2.2.1, h.symm, ?_⟩
    rw [← h, ByteArray.size_extract]; omega
  · cases h
theorem frA_go {s : ByteArray} {e n : Nat} (hn : szN s e = n) (h1 : e + 8 ≤ s.size) (h2 : n ≤ 100000) (h3 : e + 8 + n ≤ s.size) (h4 : okN s e n = true) : frA s e = some (s.extract (e + 8) (e + 8 + n)) := by
  subst hn; unfold frA; rw [if_pos ⟨h1, h2, h3, h4⟩]
theorem frA_no {s : ByteArray} {e n : Nat} (hn : szN s e = n) (h : ¬ (e + 8 ≤ s.size ∧ n ≤ 100000 ∧ e + 8 + n ≤ s.size ∧ okN s e n = true)) : frA s e = none := by
  subst hn; unfold frA; rw [if_neg h]
def allF (s : ByteArray) : Nat → Nat → List ByteArray
  | 0, _ => []
  | f + 1, e => match frA s e with
    | none => []
    | some d => d :: allF s f (e + 8 + d.size)
def offs : List ByteArray → Nat
  | [] => 0
  | d :: t => 8 + d.size + offs t
theorem allF_at (s : ByteArray) : ∀ (f e k : Nat) (h : k < (allF s f e).length), frA s (e + offs ((allF s f e).take k)) = some (allF s f e)[k]
  | 0, e, k, h => absurd h (by simp [allF])
  | f + 1, e, k, h => by
    cases hf : frA s e with
    | none => exact absurd h (by simp [allF, hf])
    | some d =>
      have ha : allF s (f + 1) e = d :: allF s f (e + 8 + d.size) := by simp [allF, hf]
      cases k with
      | zero =>
        simp only [ha, List.take_zero, offs, Nat.add_zero, List.getElem_cons_zero]
        exact hf
      | succ k =>
        have hk : k < (allF s f (e + 8 + d.size)).length := by rw [ha] at h; simpa using h
        have ih := allF_at s f (e + 8 + d.size) k hk
        simp only [ha, List.take_succ_cons, offs, List.getElem_cons_succ]
        rw [← ih]
        congr 1
        omega
theorem allF_end (s : ByteArray) : ∀ (f e : Nat), s.size < 8 * f + e → frA s (e + offs (allF s f e)) = none
  | 0, e, h => by
    cases hf : frA s e with
    | none => show frA s (e + 0) = none; rw [Nat.add_zero]; exact hf
    | some d => have := (frA_some hf).1; omega
  | f + 1, e, h => by
    cases hf : frA s e with
    | none => simp [allF, hf, offs]
    | some d =>
      have ha : allF s (f + 1) e = d :: allF s f (e + 8 + d.size) := by simp [allF, hf]
      have ih := allF_end s f (e + 8 + d.size) (by omega)
      rw [ha, offs, ← ih]
      congr 1
      omega
/-- The frames of a text. -/
def frL (s : ByteArray) : List ByteArray := allF s (s.size + 1) 0
/-- The place behind the first k of them. -/
def endK (s : ByteArray) (k : Nat) : Nat := offs ((frL s).take k)
theorem endK_zero (s : ByteArray) : endK s 0 = 0 := by simp [endK, offs]
theorem frL_next {s : ByteArray} {k : Nat} (h : k < (frL s).length) : frA s (endK s k) = some (frL s)[k] := by
  have := allF_at s (s.size + 1) 0 k h
  rw [Nat.zero_add] at this
  exact this
theorem frL_stop {s : ByteArray} : frA s (endK s (frL s).length) = none := by
  have := allF_end s (s.size + 1) 0 (by omega)
  rw [Nat.zero_add] at this
  unfold endK
  rw [List.take_length]
  exact this
theorem offs_snoc : ∀ (L : List ByteArray) (d : ByteArray), offs (L ++ [d]) = offs L + 8 + d.size
  | [], d => by simp [offs]
  | x :: t, d => by simp only [List.cons_append, offs, offs_snoc t d]; omega
theorem endK_succ {s : ByteArray} {k : Nat} (h : k < (frL s).length) : endK s (k + 1) = endK s k + 8 + ((frL s)[k]).size := by
  unfold endK
  rw [List.take_succ_eq_append_getElem h, offs_snoc]
theorem endK_le (s : ByteArray) : ∀ k, k ≤ (frL s).length → endK s k ≤ s.size
  | 0, _ => by rw [endK_zero]; omega
  | k + 1, h => by
    have hf := frA_some (frL_next (show k < (frL s).length by omega))
    rw [endK_succ (by omega)]
    have := hf.2.2.1
    have := hf.2.2.2.2
    omega
theorem frL_none {s : ByteArray} {k : Nat} (hk : k ≤ (frL s).length) (h : frA s (endK s k) = none) : k = (frL s).length := by
  rcases Nat.lt_or_ge k (frL s).length with hlt | hge
  · rw [frL_next hlt] at h; cases h
  · omega
theorem frL_some {s : ByteArray} {k : Nat} {d : ByteArray} (hk : k ≤ (frL s).length) (h : frA s (endK s k) = some d) : k < (frL s).length ∧ (frL s)[k]? = some d := by
  rcases Nat.lt_or_ge k (frL s).length with hlt | hge
  · refine ⟨hlt, ?_⟩
    rw [frL_next hlt] at h
    rw [List.getElem?_eq_getElem hlt]; exact h
  · obtain rfl : k = (frL s).length := by omega
    rw [frL_stop] at h; cases h
theorem frL_few (s : ByteArray) : 8 * (frL s).length ≤ s.size := by
  have h : ∀ k, k ≤ (frL s).length → 8 * k ≤ endK s k := fun k => by
    induction k with
    | zero => intro _; omega
    | succ k ih => intro hk; rw [endK_succ (by omega)]; have := ih (by omega); omega
  exact Nat.le_trans (h _ (Nat.le_refl _)) (endK_le s _ (Nat.le_refl _))
theorem byN_ext (s : ByteArray) (e i : Nat) : byN (s.extract e s.size) i = byN s (e + i) := by
  have h : (s.extract e s.size).data.toList = s.data.toList.drop e := by
    simp only [ByteArray.data_extract, Array.toList_extract]
    rw [List.extract_eq_take_drop]
    apply List.take_of_length_le
    simp
  unfold byN
  rw [h, List.getD_eq_getElem?_getD, List.getElem?_drop, ← List.getD_eq_getElem?_getD]
theorem ext_ext (s : ByteArray) {e i j : Nat} (h : e + j ≤ s.size) : (s.extract e s.size).extract i j = s.extract (e + i) (e + j) := by
  rw [ByteArray.extract_extract]
  congr 1
  omega
/-- The frame at the start of what stands behind e. -/
theorem frA_ext {s : ByteArray} {e : Nat} (he : e ≤ s.size) : frA (s.extract e s.size) 0 = frA s e := by
  have hs : (s.extract e s.size).size = s.size - e := by rw [ByteArray.size_extract]; omega
  have hn : szN (s.extract e s.size) 0 = szN s e := by unfold szN; simp only [byN_ext, Nat.zero_add, Nat.add_zero]
  obtain ⟨n, hnn⟩ : ∃ n, szN s e = n := ⟨_, rfl⟩
  rw [hnn] at hn
  by_cases h1 : e + 8 ≤ s.size
  · by_cases h2 : e + 8 + n ≤ s.size
    · have hok : okN (s.extract e s.size) 0 n = okN s e n := by
        unfold okN
        rw [ext_ext s (by omega), ext_ext s (by omega)]
        simp only [Nat.zero_add, Nat.add_assoc]
      by_cases h3 : n ≤ 100000 ∧ okN s e n = true
      · rw [frA_go hnn h1 h3.1 h2 h3.2, frA_go hn (by omega) h3.1 (by omega) (by rw [hok]; exact h3.2), ext_ext s (by omega)]
        simp only [Nat.zero_add, Nat.add_assoc]
      · rw [frA_no hnn (fun h => h3 ⟨h.2.1, h.2.2.2⟩), frA_no hn (fun h => h3 ⟨h.2.1, by rw [← hok]; exact h.2.2.2⟩)]
    · rw [frA_no hnn (fun h => h2 h.2.2.1), frA_no hn (fun h => by omega)]
  · rw [frA_no hnn (fun h => h1 h.1), frA_no hn (fun h => by omega)]
theorem take4 : ∀ (L : List UInt8), 4 ≤ L.length → L.take 4 = [L.getD 0 0, L.getD 1 0, L.getD 2 0, L.getD 3 0]
  | a :: b :: c :: d :: r, _ => rfl
  | [], h => absurd h (by simp)
  | [_], h => absurd h (by simp)
  | [_, _], h => absurd h (by simp)
  | [_, _, _], h => absurd h (by simp)
theorem nums_map (l : List UInt8) : strOfNums (l.map fun b => (b.toNat : Int)) = ⟨l.toArray⟩ := by
  unfold strOfNums
  apply ByteArray.ext
  simp
  conv => rhs; rw [← List.map_id l]
  apply List.map_congr_left
  intro b _
  simp
/-- The four bytes at the start say their number. -/
theorem head4 {t : ByteArray} (h : 4 ≤ t.size) : t.extract 0 4 = strOfNums (hdN ((szN t 0 : Nat) : Int)) := by
  have h0 := byN_lt t 0
  have h1 := byN_lt t 1
  have h2 := byN_lt t 2
  have h3 := byN_lt t 3
  have e : hdN ((szN t 0 : Nat) : Int) = ([t.data.toList.getD 0 0, t.data.toList.getD 1 0, t.data.toList.getD 2 0, t.data.toList.getD 3 0]).map fun b => (b.toNat : Int) := by
    show [_, _, _, _] = [((byN t 0 : Nat) : Int), ((byN t 1 : Nat) : Int), ((byN t 2 : Nat) : Int), ((byN t 3 : Nat) : Int)]
    unfold szN
    simp only [Nat.zero_add, List.cons.injEq, and_true]
    omega
  rw [e, nums_map, ← take4 _ (by simpa using h)]
  apply ByteArray.ext
  apply Array.toList_inj.1
  simp
theorem ext_join (t : ByteArray) {a b c : Nat} (h1 : a ≤ b) (h2 : b ≤ c) (h3 : c ≤ t.size) : t.extract a c = t.extract a b ++ t.extract b c := by
  rw [ByteArray.extract_append_extract]
  congr 1 <;> omega
theorem app_beq (x y z : List UInt8) : (x ++ y == x ++ z) = (y == z) := by
  rw [Bool.eq_iff_iff]
  simp
/-- The header of the data is what stands there just if the sum is. -/
theorem head_eq {t : ByteArray} {n : Nat} (h : 8 ≤ t.size) (hn : szN t 0 = n) (c : Nat) : ((strOfNums (hdN (n : Int) ++ smN (c : Int))).toList == (t.extract 0 8).toList) = ((strOfNums (smN (c : Int))).toList == (t.extract 4 8).toList) := by
  rw [ext_join t (show 0 ≤ 4 by omega) (show 4 ≤ 8 by omega) h, head4 (by omega), hn, nums_app]
  simp only [ByteArray.toList_eq, ByteArray.data_append, Array.toList_append]
  exact app_beq _ _ _
end Go.Proofs.YthndoimblfccbaaDoor
