
/- The programs of two laws, run: the sums, the texts. No code. -/
import Derived.Test.YthnlllbanfemaaaGreatDoorMg26
import Derived.Test.YthnlllbanfemaaaGreatDoorRProgM
namespace Go.Proofs.YthnlllbanfemaaaGreatDoor
open Go.ChangeShapes Go.WideShapes Go.ChangeAt Go.RowKit
set_option linter.unusedVariables false
set_option maxRecDepth 100000

def five (a b : Int) (op : Int) : Instrs := [(2, 0, ⟨#[107]⟩), (3, a, ByteArray.empty), (3, b, ByteArray.empty), (op, 0, ByteArray.empty), (13, 0, ByteArray.empty)]
def sumsK (a b : Int) : Nat → Instrs
  | 0 => []
  | k + 1 => sumsK a b k ++ five a b (8 + k)
theorem sums_prog (a b : Int) : progB (sumsK a b 4) = true := by kernel_rfl
theorem sums_run (a b : Int) : evK (sumsK a b 4) [] 20 = some ([], [(⟨#[107]⟩, wrap64 (a + b)), (⟨#[107]⟩, wrap64 (a - b)), (⟨#[107]⟩, wrap64 (a * b)), (⟨#[107]⟩, truthI (decide (a < b)))]) := by kernel_rfl
theorem sums_eval (a b : Int) : evalR (sumsK a b 4) [] = ([(⟨#[107]⟩, wrap64 (a + b)), (⟨#[107]⟩, wrap64 (a - b)), (⟨#[107]⟩, wrap64 (a * b)), (⟨#[107]⟩, truthI (decide (a < b)))], 0) :=
  evalR_good (x := ([], _)) (sums_prog a b) (Nat.zero_le _) (sums_run a b)

def textsT : ByteArray := ⟨#[116, 58, 97, 32, 110, 55, 32, 115, 116, 114, 32, 105, 110, 116, 32, 101, 109, 105, 116, 32, 102, 48, 32, 102, 49, 32, 99, 97, 116, 32, 102, 48, 32, 102, 49, 32, 99, 97, 116, 32, 108, 101, 110, 32, 101, 109, 105, 116, 32, 102, 48, 32, 102, 49, 32, 115, 97, 109, 101, 32, 102, 49, 32, 102, 48, 32, 115, 97, 109, 101, 32, 109, 117, 108, 32, 110, 49, 32, 115, 116, 114, 32, 108, 101, 110, 32, 97, 100, 100, 32, 115, 116, 114, 32, 110, 51, 32, 101, 109, 105, 116]⟩
def textsP (n : Int) : Instrs := [(2, 0, ⟨#[97]⟩), (3, n, ByteArray.empty), (7, 0, ByteArray.empty), (6, 0, ByteArray.empty), (13, 0, ByteArray.empty), (1, 0, ByteArray.empty), (1, 1, ByteArray.empty), (4, 0, ByteArray.empty), (1, 0, ByteArray.empty), (1, 1, ByteArray.empty), (4, 0, ByteArray.empty), (5, 0, ByteArray.empty), (13, 0, ByteArray.empty), (1, 0, ByteArray.empty), (1, 1, ByteArray.empty), (12, 0, ByteArray.empty), (1, 1, ByteArray.empty), (1, 0, ByteArray.empty), (12, 0, ByteArray.empty), (10, 0, ByteArray.empty), (3, 1, ByteArray.empty), (7, 0, ByteArray.empty), (5, 0, ByteArray.empty), (8, 0, ByteArray.empty), (7, 0, ByteArray.empty), (3, 3, ByteArray.empty), (13, 0, ByteArray.empty)]
theorem texts_prog (n : Int) : progB (textsP n) = true := by kernel_rfl
theorem texts_read : readP textsT.data.toList = some (textsP 7) := by kernel_rfl
theorem ev_put {l : Instrs} {ws : Strs} {k op : Nat} {B A : EVs} {O : Recs} {n : Int} {s : ByteArray} (v : EV) (h : evK l ws k = some (B ++ A, O)) (h0 : (ins0 l k).toNat = op) (h1 : ins1 l k = n) (h2 : ins2 l k = s) (ht : (takesB op).size = A.length) (hg : (givesB op).size ≠ 0) (hv : putV op n s A ws = v) (hs : v.1.size ≤ 40) : evK l ws (k + 1) = some (B ++ [v], O) := by
  rw [evK_step h, h0, h1, h2]
  unfold evStep
  rw [if_neg hg]
  have e1 : (B ++ A).length - (takesB op).size = B.length := by rw [ht, List.length_append]; omega
  simp only [e1, List.take_left, List.drop_left, hv]
  rw [if_pos hs]
theorem ev_emit {l : Instrs} {ws : Strs} {k : Nat} {B : EVs} {O : Recs} {u v : EV} (h : evK l ws k = some (B ++ [u, v], O)) (h0 : (ins0 l k).toNat = 13) : evK l ws (k + 1) = some (B, O ++ [(u.1, v.2)]) := by
  rw [evK_step h, h0]
  unfold evStep
  rw [if_pos (by rfl)]
  have e1 : (B ++ [u, v]).length - (takesB 13).size = B.length := by
    have : (takesB 13).size = 2 := rfl
    rw [this, List.length_append]; simp
  simp only [e1, List.take_left, List.drop_left]
  rw [if_pos (.inl trivial)]
  rfl
theorem dec1 : decB 1 = ⟨#[49]⟩ := by kernel_rfl
theorem dec2 : decB 2 = ⟨#[50]⟩ := by kernel_rfl
theorem numI_decB {n : Int} (h : In64 n) : numI (decB n) = n := by
  have h1 : numD (decB n).data.toList = some n := by
    have := numD_itoa (v := n) h.1 (by have := h.2; omega)
    unfold decB
    simpa using this
  unfold numI
  rw [h1]; rfl
theorem texts_run {n : Int} {s t : ByteArray} {x y : Int} (hn : In64 n) (hs1 : s.size ≤ 40) (ht1 : t.size ≤ 40) (hst : (s ++ t).size ≤ 40) (hdn : (decB n).size ≤ 40) (hdy : (decB y).size ≤ 40)
    (hx1 : (ByteArray.empty, truthI (decide (s = t))) = (ByteArray.empty, x)) (hx2 : (ByteArray.empty, truthI (decide (t = s))) = (ByteArray.empty, x)) (hxx : wrap64 (x * x) = x) (hxy : wrap64 (x + 1) = y) :
    evK (textsP n) [s, t] 27 = some ([], [(⟨#[97]⟩, n), (s ++ t, ((s ++ t).size : Int)), (decB y, 3)]) := by
  have h0 : evK (textsP n) [s, t] 0 = some ([], []) := rfl
  have h1 : evK (textsP n) [s, t] 1 = some ([(⟨#[97]⟩, 0)], []) := ev_put (op := 2) (B := []) (A := []) (⟨#[97]⟩, 0) h0 rfl rfl rfl rfl (by decide) (rfl) (by decide)
  have h2 : evK (textsP n) [s, t] 2 = some ([(⟨#[97]⟩, 0), (ByteArray.empty, n)], []) := ev_put (op := 3) (B := [(⟨#[97]⟩, 0)]) (A := []) (ByteArray.empty, n) h1 rfl rfl rfl rfl (by decide) (rfl) (Nat.zero_le _)
  have h3 : evK (textsP n) [s, t] 3 = some ([(⟨#[97]⟩, 0), (decB n, 0)], []) := ev_put (op := 7) (B := [(⟨#[97]⟩, 0)]) (A := [(ByteArray.empty, n)]) (decB n, 0) h2 rfl rfl rfl rfl (by decide) (rfl) (hdn)
  have h4 : evK (textsP n) [s, t] 4 = some ([(⟨#[97]⟩, 0), (ByteArray.empty, n)], []) := ev_put (op := 6) (B := [(⟨#[97]⟩, 0)]) (A := [(decB n, 0)]) (ByteArray.empty, n) h3 rfl rfl rfl rfl (by decide) (by show (ByteArray.empty, numI (decB n)) = _; rw [numI_decB hn]) (Nat.zero_le _)
  have h5 : evK (textsP n) [s, t] 5 = some ([], [(⟨#[97]⟩, n)]) := ev_emit (B := []) (u := (⟨#[97]⟩, 0)) (v := (ByteArray.empty, n)) h4 rfl
  have h6 : evK (textsP n) [s, t] 6 = some ([(s, 0)], [(⟨#[97]⟩, n)]) := ev_put (op := 1) (B := []) (A := []) (s, 0) h5 rfl rfl rfl rfl (by decide) (rfl) (hs1)
  have h7 : evK (textsP n) [s, t] 7 = some ([(s, 0), (t, 0)], [(⟨#[97]⟩, n)]) := ev_put (op := 1) (B := [(s, 0)]) (A := []) (t, 0) h6 rfl rfl rfl rfl (by decide) (rfl) (ht1)
  have h8 : evK (textsP n) [s, t] 8 = some ([(s ++ t, 0)], [(⟨#[97]⟩, n)]) := ev_put (op := 4) (B := []) (A := [(s, 0), (t, 0)]) (s ++ t, 0) h7 rfl rfl rfl rfl (by decide) (rfl) (hst)
  have h9 : evK (textsP n) [s, t] 9 = some ([(s ++ t, 0), (s, 0)], [(⟨#[97]⟩, n)]) := ev_put (op := 1) (B := [(s ++ t, 0)]) (A := []) (s, 0) h8 rfl rfl rfl rfl (by decide) (rfl) (hs1)
  have h10 : evK (textsP n) [s, t] 10 = some ([(s ++ t, 0), (s, 0), (t, 0)], [(⟨#[97]⟩, n)]) := ev_put (op := 1) (B := [(s ++ t, 0), (s, 0)]) (A := []) (t, 0) h9 rfl rfl rfl rfl (by decide) (rfl) (ht1)
  have h11 : evK (textsP n) [s, t] 11 = some ([(s ++ t, 0), (s ++ t, 0)], [(⟨#[97]⟩, n)]) := ev_put (op := 4) (B := [(s ++ t, 0)]) (A := [(s, 0), (t, 0)]) (s ++ t, 0) h10 rfl rfl rfl rfl (by decide) (rfl) (hst)
  have h12 : evK (textsP n) [s, t] 12 = some ([(s ++ t, 0), (ByteArray.empty, ((s ++ t).size : Int))], [(⟨#[97]⟩, n)]) := ev_put (op := 5) (B := [(s ++ t, 0)]) (A := [(s ++ t, 0)]) (ByteArray.empty, ((s ++ t).size : Int)) h11 rfl rfl rfl rfl (by decide) (rfl) (Nat.zero_le _)
  have h13 : evK (textsP n) [s, t] 13 = some ([], [(⟨#[97]⟩, n), (s ++ t, ((s ++ t).size : Int))]) := ev_emit (B := []) (u := (s ++ t, 0)) (v := (ByteArray.empty, ((s ++ t).size : Int))) h12 rfl
  have h14 : evK (textsP n) [s, t] 14 = some ([(s, 0)], [(⟨#[97]⟩, n), (s ++ t, ((s ++ t).size : Int))]) := ev_put (op := 1) (B := []) (A := []) (s, 0) h13 rfl rfl rfl rfl (by decide) (rfl) (hs1)
  have h15 : evK (textsP n) [s, t] 15 = some ([(s, 0), (t, 0)], [(⟨#[97]⟩, n), (s ++ t, ((s ++ t).size : Int))]) := ev_put (op := 1) (B := [(s, 0)]) (A := []) (t, 0) h14 rfl rfl rfl rfl (by decide) (rfl) (ht1)
  have h16 : evK (textsP n) [s, t] 16 = some ([(ByteArray.empty, x)], [(⟨#[97]⟩, n), (s ++ t, ((s ++ t).size : Int))]) := ev_put (op := 12) (B := []) (A := [(s, 0), (t, 0)]) (ByteArray.empty, x) h15 rfl rfl rfl rfl (by decide) (hx1) (Nat.zero_le _)
  have h17 : evK (textsP n) [s, t] 17 = some ([(ByteArray.empty, x), (t, 0)], [(⟨#[97]⟩, n), (s ++ t, ((s ++ t).size : Int))]) := ev_put (op := 1) (B := [(ByteArray.empty, x)]) (A := []) (t, 0) h16 rfl rfl rfl rfl (by decide) (rfl) (ht1)
  have h18 : evK (textsP n) [s, t] 18 = some ([(ByteArray.empty, x), (t, 0), (s, 0)], [(⟨#[97]⟩, n), (s ++ t, ((s ++ t).size : Int))]) := ev_put (op := 1) (B := [(ByteArray.empty, x), (t, 0)]) (A := []) (s, 0) h17 rfl rfl rfl rfl (by decide) (rfl) (hs1)
  have h19 : evK (textsP n) [s, t] 19 = some ([(ByteArray.empty, x), (ByteArray.empty, x)], [(⟨#[97]⟩, n), (s ++ t, ((s ++ t).size : Int))]) := ev_put (op := 12) (B := [(ByteArray.empty, x)]) (A := [(t, 0), (s, 0)]) (ByteArray.empty, x) h18 rfl rfl rfl rfl (by decide) (hx2) (Nat.zero_le _)
  have h20 : evK (textsP n) [s, t] 20 = some ([(ByteArray.empty, x)], [(⟨#[97]⟩, n), (s ++ t, ((s ++ t).size : Int))]) := ev_put (op := 10) (B := []) (A := [(ByteArray.empty, x), (ByteArray.empty, x)]) (ByteArray.empty, x) h19 rfl rfl rfl rfl (by decide) (by show (ByteArray.empty, wrap64 (x * x)) = _; rw [hxx]) (Nat.zero_le _)
  have h21 : evK (textsP n) [s, t] 21 = some ([(ByteArray.empty, x), (ByteArray.empty, 1)], [(⟨#[97]⟩, n), (s ++ t, ((s ++ t).size : Int))]) := ev_put (op := 3) (B := [(ByteArray.empty, x)]) (A := []) (ByteArray.empty, 1) h20 rfl rfl rfl rfl (by decide) (rfl) (Nat.zero_le _)
  have h22 : evK (textsP n) [s, t] 22 = some ([(ByteArray.empty, x), (decB 1, 0)], [(⟨#[97]⟩, n), (s ++ t, ((s ++ t).size : Int))]) := ev_put (op := 7) (B := [(ByteArray.empty, x)]) (A := [(ByteArray.empty, 1)]) (decB 1, 0) h21 rfl rfl rfl rfl (by decide) (rfl) (by show (decB 1).size ≤ 40; rw [dec1]; decide)
  have h23 : evK (textsP n) [s, t] 23 = some ([(ByteArray.empty, x), (ByteArray.empty, 1)], [(⟨#[97]⟩, n), (s ++ t, ((s ++ t).size : Int))]) := ev_put (op := 5) (B := [(ByteArray.empty, x)]) (A := [(decB 1, 0)]) (ByteArray.empty, 1) h22 rfl rfl rfl rfl (by decide) (by show (ByteArray.empty, ((decB 1).size : Int)) = _; rw [dec1]; rfl) (Nat.zero_le _)
  have h24 : evK (textsP n) [s, t] 24 = some ([(ByteArray.empty, y)], [(⟨#[97]⟩, n), (s ++ t, ((s ++ t).size : Int))]) := ev_put (op := 8) (B := []) (A := [(ByteArray.empty, x), (ByteArray.empty, 1)]) (ByteArray.empty, y) h23 rfl rfl rfl rfl (by decide) (by show (ByteArray.empty, wrap64 (x + 1)) = _; rw [hxy]) (Nat.zero_le _)
  have h25 : evK (textsP n) [s, t] 25 = some ([(decB y, 0)], [(⟨#[97]⟩, n), (s ++ t, ((s ++ t).size : Int))]) := ev_put (op := 7) (B := []) (A := [(ByteArray.empty, y)]) (decB y, 0) h24 rfl rfl rfl rfl (by decide) (rfl) (hdy)
  have h26 : evK (textsP n) [s, t] 26 = some ([(decB y, 0), (ByteArray.empty, 3)], [(⟨#[97]⟩, n), (s ++ t, ((s ++ t).size : Int))]) := ev_put (op := 3) (B := [(decB y, 0)]) (A := []) (ByteArray.empty, 3) h25 rfl rfl rfl rfl (by decide) (rfl) (Nat.zero_le _)
  have h27 : evK (textsP n) [s, t] 27 = some ([], [(⟨#[97]⟩, n), (s ++ t, ((s ++ t).size : Int)), (decB y, 3)]) := ev_emit (B := []) (u := (decB y, 0)) (v := (ByteArray.empty, 3)) h26 rfl
  exact h27
theorem texts_eval {n : Int} {s t : ByteArray} (hn : In64 n) (hst : (s ++ t).size ≤ 40) :
    evalR (textsP n) [s, t] = ([(⟨#[97]⟩, n), (s ++ t, ((s ++ t).size : Int)), (if s = t then ⟨#[50]⟩ else ⟨#[49]⟩, 3)], 0) := by
  have h2 := hst
  rw [ByteArray.size_append] at h2
  have hd : (decB n).size ≤ 40 := Nat.le_trans (decB_size hn.1 (by have := hn.2; omega)) (by omega)
  by_cases e : s = t
  · rw [if_pos e, ← dec2]
    exact evalR_good (x := ([], _)) (texts_prog n) (by simp) (texts_run (x := 1) (y := 2) hn (by omega) (by omega) hst hd (by rw [dec2]; decide) (by rw [decide_eq_true e]; rfl) (by rw [decide_eq_true e.symm]; rfl) (by kernel_rfl) (by kernel_rfl))
  · rw [if_neg e, ← dec1]
    exact evalR_good (x := ([], _)) (texts_prog n) (by simp) (texts_run (x := 0) (y := 1) hn (by omega) (by omega) hst hd (by rw [dec1]; decide) (by rw [decide_eq_false e]; rfl) (by rw [decide_eq_false (fun h => e h.symm)]; rfl) (by kernel_rfl) (by kernel_rfl))
end Go.Proofs.YthnlllbanfemaaaGreatDoor
