/- Texts put together, as a claim holds at most sixty files. -/
import Derived.Test.YthnlllbanfemaaaGreatDoorMg16
import Derived.Test.YthnlllbanfemaaaGreatDoorMg12
import Derived.Test.YthnlllbanfemaaaGreatDoorMg15
import Derived.Test.YthnlllbanfemaaaGreatDoorMg14
import Derived.Test.YthnlllbanfemaaaGreatDoorMg13
import Derived.Test.YthnlllbanfemaaaGreatDoorMg1
import Derived.Test.YthnlllbanfemaaaGreatDoorMg4
import Derived.Laws.AppendOwnNone
namespace Go.Proofs.YthnlllbanfemaaaGreatDoor
open Go.ChangeShapes Go.WideShapes Go.ChangeAt Go.RowKit
set_option linter.unusedVariables false
set_option maxRecDepth 100000

theorem ops14 {op : Nat} (h1 : 1 ≤ op) (h2 : op ≤ 14) : op = 1 ∨ op = 2 ∨ op = 3 ∨ op = 4 ∨ op = 5 ∨ op = 6 ∨ op = 7 ∨ op = 8 ∨ op = 9 ∨ op = 10 ∨ op = 11 ∨ op = 12 ∨ op = 13 ∨ op = 14 := by omega
theorem gives_kinds {op : Nat} (h1 : 1 ≤ op) (h2 : op ≤ 14) : givesB op = ⟨#[84]⟩ ∨ givesB op = ⟨#[78]⟩ ∨ givesB op = ⟨#[]⟩ := by
  rcases ops14 h1 h2 with rfl | rfl | rfl | rfl | rfl | rfl | rfl | rfl | rfl | rfl | rfl | rfl | rfl | rfl
  · exact .inl rfl
  · exact .inl rfl
  · exact .inr (.inl rfl)
  · exact .inl rfl
  · exact .inr (.inl rfl)
  · exact .inr (.inl rfl)
  · exact .inl rfl
  · exact .inr (.inl rfl)
  · exact .inr (.inl rfl)
  · exact .inr (.inl rfl)
  · exact .inr (.inl rfl)
  · exact .inr (.inl rfl)
  · exact .inr (.inr rfl)
  · exact .inr (.inr rfl)
theorem putN_none {op : Nat} {n : Int} {s : ByteArray} {av : EVs} {ws : Strs} (h1 : 1 ≤ op) (h2 : op ≤ 14) (h : givesB op = ⟨#[78]⟩) : (putV op n s av ws).1 = ByteArray.empty := by
  rcases ops14 h1 h2 with rfl | rfl | rfl | rfl | rfl | rfl | rfl | rfl | rfl | rfl | rfl | rfl | rfl | rfl
  all_goals first | rfl | (exfalso; revert h; decide)
theorem evStep_some {op : Nat} {n : Int} {s : ByteArray} {ws : Strs} {S S0 av : EVs} {O : Recs} {y : EVs × Recs} {st0 : ByteArray} (h1 : 1 ≤ op) (h2 : op ≤ 14)
    (e1 : S.take (S.length - (takesB op).size) = S0) (e2 : S.drop (S.length - (takesB op).size) = av) (hs : st0.size = S0.length) (hall : ∀ v ∈ S0, v.1.size ≤ 40) (h : evStep op n s ws (S, O) = some y) :
    y.2 = stO op av O ∧ txs (st0 ++ givesB op).data.toList y.1 = stT op n s ws av (txs st0.data.toList S0) ∧ nms (st0 ++ givesB op).data.toList y.1 = stN op n s ws av (nms st0.data.toList S0) ∧ ∀ t ∈ stT op n s ws av (txs st0.data.toList S0), t.size ≤ 40 := by
  have hl : st0.data.toList.length = S0.length := by rw [← hs]; rfl
  have hT0 : ∀ t ∈ txs st0.data.toList S0, t.size ≤ 40 := fun t ht => by
    obtain ⟨v, hv, rfl⟩ := txs_mem _ _ _ ht
    exact hall v hv
  unfold evStep at h
  simp only [e1, e2] at h
  by_cases hg : (givesB op).size = 0
  · rw [if_pos hg] at h
    have h := (Option.some.inj h).symm
    subst h
    have hge : (givesB op).data.toList = [] := List.eq_nil_of_length_eq_zero (by simpa using hg)
    refine ⟨by unfold stO; rw [if_pos hg], ?_, ?_, ?_⟩
    · unfold stT; rw [if_pos hg]; simp [hge]
    · unfold stN; rw [if_pos hg]; simp [hge]
    · unfold stT; rw [if_pos hg]; exact hT0
  · rw [if_neg hg] at h
    by_cases h40 : (putV op n s av ws).1.size ≤ 40
    · rw [if_pos h40] at h
      have h := (Option.some.inj h).symm
      subst h
      refine ⟨by unfold stO; rw [if_neg hg], ?_, ?_, ?_⟩
      · unfold stT; rw [if_neg hg]; simp only [ByteArray.data_append, Array.toList_append]; exact txs_app _ _ _ _ hl
      · unfold stN; rw [if_neg hg]; simp only [ByteArray.data_append, Array.toList_append]; exact nms_app _ _ _ _ hl
      · unfold stT; rw [if_neg hg]
        intro t ht
        rcases List.mem_append.1 ht with ht | ht
        · exact hT0 t ht
        · obtain ⟨v, hv, rfl⟩ := txs_mem _ _ _ ht
          simp at hv
          subst hv
          exact h40
    · rw [if_neg h40] at h; cases h
theorem evStep_none {op : Nat} {n : Int} {s : ByteArray} {ws : Strs} {S S0 av : EVs} {O : Recs} {T0 : Strs} (h1 : 1 ≤ op) (h2 : op ≤ 14)
    (e1 : S.take (S.length - (takesB op).size) = S0) (e2 : S.drop (S.length - (takesB op).size) = av) (h : evStep op n s ws (S, O) = none) : ∃ x, stT op n s ws av T0 = T0 ++ [x] ∧ 40 < x.size := by
  unfold evStep at h
  simp only [e1, e2] at h
  by_cases hg : (givesB op).size = 0
  · rw [if_pos hg] at h; cases h
  · rw [if_neg hg] at h
    by_cases h40 : (putV op n s av ws).1.size ≤ 40
    · rw [if_pos h40] at h; cases h
    · rcases gives_kinds h1 h2 with hk | hk | hk
      · refine ⟨(putV op n s av ws).1, ?_, by omega⟩
        unfold stT
        rw [if_neg hg, hk]
        rfl
      · rw [putN_none h1 h2 hk] at h40
        exact absurd (by decide) h40
      · rw [hk] at hg; exact absurd rfl hg
end Go.Proofs.YthnlllbanfemaaaGreatDoor
namespace Go.Proofs.YthnlllbanfemaaaGreatDoor
open Go.ChangeShapes Go.WideShapes Go.ChangeAt Go.RowKit
set_option linter.unusedVariables false
set_option maxRecDepth 100000

theorem l3truth_any (b : Bool) (w : World) : Calls Tryz.prog 65 #[.bool b] w fun e w' => e = .returned (.int .i64 (truthI b)) ∧ w' = w := by
  cases b
  · go_enter Tryz.func65, Tryz.ntmps65
    go_wp2
    go_ret
    exact ⟨rfl, rfl⟩
  · go_enter Tryz.func65, Tryz.ntmps65
    go_wp2
    go_ret
    exact ⟨rfl, rfl⟩
def twoI : Nat → Int → Int → Int
  | 8, a, b => wrap64 (a + b)
  | 9, a, b => wrap64 (a - b)
  | 10, a, b => wrap64 (a * b)
  | _, a, b => truthI (decide (a < b))
theorem l3two_any (op : Nat) (a b : Int) (w : World) (h : 8 ≤ op ∧ op ≤ 11) : Calls Tryz.prog 66 #[.int .i64 op, .int .i64 a, .int .i64 b] w fun e w' => e = .returned (.int .i64 (twoI op a b)) ∧ w' = w := by
  obtain rfl | rfl | rfl | rfl : op = 8 ∨ op = 9 ∨ op = 10 ∨ op = 11 := by omega
  · go_enter Tryz.func66, Tryz.ntmps66
    go_wp2
    go_ret
    exact ⟨rfl, rfl⟩
  · go_enter Tryz.func66, Tryz.ntmps66
    go_wp2
    go_ret
    exact ⟨rfl, rfl⟩
  · go_enter Tryz.func66, Tryz.ntmps66
    go_wp2
    go_ret
    exact ⟨rfl, rfl⟩
  · obtain ⟨z, hz⟩ : ∃ z, decide (a < b) = z := ⟨_, rfl⟩
    have HT := Lib.hid (show twoI 11 a b = truthI z by show truthI _ = _; rw [hz])
    go_enter Tryz.func66, Tryz.ntmps66
    go_wp2_with fail
    refine (l3truth_any z _).mono ?_
    rintro e w1 ⟨rfl, rfl⟩
    go_wp2
    go_ret
    rw [HT.out]
    exact ⟨rfl, rfl⟩

/-- What l3Put hands back. -/
def MadeEV (v : EV) (w : World) (e : Ending) (w' : World) : Prop := e = .returned (.agg #[.string v.1, .int .i64 v.2]) ∧ Below w.heap.size w w'
/-- The cells of a slice of values, in a later world. -/
theorem evs_cells {w w1 : World} {q : Option Addr} {m : Nat} {a : Recs} (h : RecsAt w q m a) (hB : Below w.heap.size w w1) (h0 : 0 < m) :
    ∃ b off, q = some ⟨b, off, none⟩ ∧ ∀ i, i < m → w1.cell? ⟨b, off + i * 2, none⟩ = some (.string (keyAt a i)) ∧ w1.cell? ⟨b, off + i * 2 + 1, none⟩ = some (.int .i64 (numAt a i)) := by
  rcases (h.keep hB).src with h1 | ⟨b, off, ha, _, hc⟩
  · omega
  · exact ⟨b, off, ha, hc⟩
theorem evs_key (a : Recs) (i : Nat) : keyAt a i = (evAt a i).1 := rfl
theorem evs_num (a : Recs) (i : Nat) : numAt a i = (evAt a i).2 := rfl
theorem words_cell {w w1 : World} {q : Option Addr} {m : Nat} {a : Strs} (h : StrsAt w q m a) (hB : Below w.heap.size w w1) {i : Nat} (h0 : i < m) :
    ∃ b off, q = some ⟨b, off, none⟩ ∧ w1.cell? ⟨b, off + i, none⟩ = some (.string (strAt a i)) := by
  rcases (h.keep hB).src with h1 | ⟨b, off, ha, _, hc⟩
  · omega
  · exact ⟨b, off, ha, hc i h0⟩
theorem ev_is {v : EV} {s : ByteArray} {n : Int} {w w' : World} (h : v = (s, n)) (hB : Below w.heap.size w w') : MadeEV v w (.returned (.agg #[.string s, .int .i64 n])) w' := ⟨by rw [h], hB⟩

set_option maxHeartbeats 4000000 in
theorem l3put_1 (n : Int) (s : ByteArray) (q : Option Addr) (m c : Nat) (a : Recs) (wq : Option Addr) (wn wc : Nat) (ws : Strs) (w : World) (h : RecsAt w q m a) (hm : m = (takesB 1).size) (hw : StrsAt w wq wn ws) (hs : s.size ≤ maxLen) (hn : 0 ≤ n) :
    Calls Tryz.prog 39 #[.agg #[.int .i64 1, .int .i64 n, .string s], .slice q m c, .slice wq wn wc] w (MadeEV (putV 1 n s a ws) w) := by
  have HB := Lib.hid (show Below w.heap.size w ((w.alloc (.cells #[.int .i64 1, .int .i64 n, .string s] 52)).alloc (.cells #[.string ⟨#[]⟩, .int .i64 0] 66)) from below_alloc (below_alloc (Below.refl _ _) _) _)
  have hl := hw.length
  by_cases hlt : n < (wn : Int)
  · obtain ⟨i, rfl⟩ : ∃ i : Nat, n = i := ⟨n.toNat, by omega⟩
    obtain ⟨b, off, rfl, cw⟩ := words_cell hw HB.out (i := i) (by omega)
    obtain ⟨x, hx⟩ : ∃ x, strAt ws i = x := ⟨_, rfl⟩
    have HR := Lib.hid (show putV 1 i s a ws = (x, 0) by
      show (wordAt ws i, (0 : Int)) = _
      unfold wordAt
      rw [if_pos (by omega), ← hx]; rfl)
    rw [hx] at cw
    clear hx h hw hm HB
    go_enter Tryz.func39, Tryz.ntmps39
    go_wp2
    refine bodyPost_ret (v := .agg #[.string x, .int .i64 0]) ?h1 rfl ?h2
    case h1 => simp [results, Tryz.results39, go_sem]
    case h2 => exact ev_is HR.out (below_alloc (below_alloc (Below.refl _ _) _) _)
  · have HR := Lib.hid (show putV 1 n s a ws = (ByteArray.empty, 0) by
      show (wordAt ws n, (0 : Int)) = _
      unfold wordAt
      rw [if_neg (by omega)])
    clear h hw hm HB
    go_enter Tryz.func39, Tryz.ntmps39
    go_wp2
    refine bodyPost_ret (v := .agg #[.string ⟨#[]⟩, .int .i64 0]) ?h1 rfl ?h2
    case h1 => simp [results, Tryz.results39, go_sem]
    case h2 => exact ev_is HR.out (below_alloc (below_alloc (Below.refl _ _) _) _)

set_option maxHeartbeats 4000000 in
theorem l3put_2 (n : Int) (s : ByteArray) (q : Option Addr) (m c : Nat) (a : Recs) (wq : Option Addr) (wn wc : Nat) (ws : Strs) (w : World) (h : RecsAt w q m a) (hm : m = (takesB 2).size) (hw : StrsAt w wq wn ws) (hs : s.size ≤ maxLen) (hn : True) :
    Calls Tryz.prog 39 #[.agg #[.int .i64 2, .int .i64 n, .string s], .slice q m c, .slice wq wn wc] w (MadeEV (putV 2 n s a ws) w) := by
  have HR := Lib.hid (show putV 2 n s a ws = (s, 0) from rfl)
  clear h hw hm
  go_enter Tryz.func39, Tryz.ntmps39
  go_wp2
  refine bodyPost_ret (v := .agg #[.string s, .int .i64 0]) ?h1 rfl ?h2
  case h1 => simp [results, Tryz.results39, go_sem]
  case h2 => exact ev_is HR.out (below_alloc (below_alloc (Below.refl _ _) _) _)

set_option maxHeartbeats 4000000 in
theorem l3put_3 (n : Int) (s : ByteArray) (q : Option Addr) (m c : Nat) (a : Recs) (wq : Option Addr) (wn wc : Nat) (ws : Strs) (w : World) (h : RecsAt w q m a) (hm : m = (takesB 3).size) (hw : StrsAt w wq wn ws) (hs : s.size ≤ maxLen) (hn : True) :
    Calls Tryz.prog 39 #[.agg #[.int .i64 3, .int .i64 n, .string s], .slice q m c, .slice wq wn wc] w (MadeEV (putV 3 n s a ws) w) := by
  have HR := Lib.hid (show putV 3 n s a ws = (ByteArray.empty, n) from rfl)
  clear h hw hm
  go_enter Tryz.func39, Tryz.ntmps39
  go_wp2
  refine bodyPost_ret (v := .agg #[.string ⟨#[]⟩, .int .i64 n]) ?h1 rfl ?h2
  case h1 => simp [results, Tryz.results39, go_sem]
  case h2 => exact ev_is HR.out (below_alloc (below_alloc (Below.refl _ _) _) _)

set_option maxHeartbeats 4000000 in
theorem l3put_4 (n : Int) (s : ByteArray) (q : Option Addr) (m c : Nat) (a : Recs) (wq : Option Addr) (wn wc : Nat) (ws : Strs) (w : World) (h : RecsAt w q m a) (hm : m = (takesB 4).size) (hw : StrsAt w wq wn ws) (hs : s.size ≤ maxLen) (hn : True) (ha : ∀ v ∈ a, v.1.size ≤ 40 ∧ In64 v.2) :
    Calls Tryz.prog 39 #[.agg #[.int .i64 4, .int .i64 n, .string s], .slice q m c, .slice wq wn wc] w (MadeEV (putV 4 n s a ws) w) := by
  obtain rfl : m = 2 := hm
  have HB := Lib.hid (show Below w.heap.size w ((w.alloc (.cells #[.int .i64 4, .int .i64 n, .string s] 52)).alloc (.cells #[.string ⟨#[]⟩, .int .i64 0] 66)) from below_alloc (below_alloc (Below.refl _ _) _) _)
  obtain ⟨b, off, rfl, cs⟩ := evs_cells h HB.out (by decide)
  obtain ⟨x0, hx0⟩ : ∃ x, keyAt a 0 = x := ⟨_, rfl⟩
  have k0 := (cs 0 (by decide)).1
  rw [hx0] at k0
  obtain ⟨x1, hx1⟩ : ∃ x, keyAt a 1 = x := ⟨_, rfl⟩
  have k1 := (cs 1 (by decide)).1
  rw [hx1] at k1
  simp at k0 k1
  have HR := Lib.hid (show putV 4 n s a ws = (x0 ++ x1, 0) by rw [← hx0, ← hx1]; rfl)
  have s0 : x0.size ≤ 40 := by rw [← hx0]; exact (ev0_le ha 0).1
  have s1 : x1.size ≤ 40 := by rw [← hx1]; exact (ev0_le ha 1).1
  clear cs h hw HB hx0 hx1
  go_enter Tryz.func39, Tryz.ntmps39
  go_wp2_with fail
  go_region_with (fail)
  all_goals (
    go_wp2
    refine bodyPost_ret (v := .agg #[.string (x0 ++ x1), .int .i64 0]) ?h1 rfl ?h2
    case h1 => simp [results, Tryz.results39, go_sem]
    case h2 => exact ev_is HR.out (below_alloc (below_alloc (Below.refl _ _) _) _).drew)

set_option maxHeartbeats 4000000 in
theorem l3put_5 (n : Int) (s : ByteArray) (q : Option Addr) (m c : Nat) (a : Recs) (wq : Option Addr) (wn wc : Nat) (ws : Strs) (w : World) (h : RecsAt w q m a) (hm : m = (takesB 5).size) (hw : StrsAt w wq wn ws) (hs : s.size ≤ maxLen) (hn : True) (ha : ∀ v ∈ a, v.1.size ≤ 40 ∧ In64 v.2) :
    Calls Tryz.prog 39 #[.agg #[.int .i64 5, .int .i64 n, .string s], .slice q m c, .slice wq wn wc] w (MadeEV (putV 5 n s a ws) w) := by
  obtain rfl : m = 1 := hm
  have HB := Lib.hid (show Below w.heap.size w ((w.alloc (.cells #[.int .i64 5, .int .i64 n, .string s] 52)).alloc (.cells #[.string ⟨#[]⟩, .int .i64 0] 66)) from below_alloc (below_alloc (Below.refl _ _) _) _)
  obtain ⟨b, off, rfl, cs⟩ := evs_cells h HB.out (by decide)
  obtain ⟨x0, hx0⟩ : ∃ x, keyAt a 0 = x := ⟨_, rfl⟩
  have k0 := (cs 0 (by decide)).1
  rw [hx0] at k0
  simp at k0
  have HR := Lib.hid (show putV 5 n s a ws = (ByteArray.empty, (x0.size : Int)) by rw [← hx0]; rfl)
  have s0 : x0.size ≤ 40 := by rw [← hx0]; exact (ev0_le ha 0).1
  clear cs h hw HB hx0
  go_enter Tryz.func39, Tryz.ntmps39
  go_wp2
  refine bodyPost_ret (v := .agg #[.string ⟨#[]⟩, .int .i64 (x0.size : Int)]) ?h1 rfl ?h2
  case h1 => simp [results, Tryz.results39, go_sem]
  case h2 => exact ev_is HR.out (below_alloc (below_alloc (Below.refl _ _) _) _)

set_option maxHeartbeats 4000000 in
theorem l3put_6 (n : Int) (s : ByteArray) (q : Option Addr) (m c : Nat) (a : Recs) (wq : Option Addr) (wn wc : Nat) (ws : Strs) (w : World) (h : RecsAt w q m a) (hm : m = (takesB 6).size) (hw : StrsAt w wq wn ws) (hs : s.size ≤ maxLen) (hn : True) (ha : ∀ v ∈ a, v.1.size ≤ 40 ∧ In64 v.2) :
    Calls Tryz.prog 39 #[.agg #[.int .i64 6, .int .i64 n, .string s], .slice q m c, .slice wq wn wc] w (MadeEV (putV 6 n s a ws) w) := by
  obtain rfl : m = 1 := hm
  have HB := Lib.hid (show Below w.heap.size w ((w.alloc (.cells #[.int .i64 6, .int .i64 n, .string s] 52)).alloc (.cells #[.string ⟨#[]⟩, .int .i64 0] 66)) from below_alloc (below_alloc (Below.refl _ _) _) _)
  obtain ⟨b, off, rfl, cs⟩ := evs_cells h HB.out (by decide)
  obtain ⟨x0, hx0⟩ : ∃ x, keyAt a 0 = x := ⟨_, rfl⟩
  have k0 := (cs 0 (by decide)).1
  rw [hx0] at k0
  simp at k0
  have HX := Lib.hid (show Row ((w.alloc (.cells #[.int .i64 6, .int .i64 n, .string s] 52)).alloc (.cells #[.string ⟨#[]⟩, .int .i64 0] 66)) (w.heap.size + 1) 66 #[.string ⟨#[]⟩, .int .i64 0] from by
    have := Row.new (w.alloc (.cells #[.int .i64 6, .int .i64 n, .string s] 52)) 66 #[.string ⟨#[]⟩, .int .i64 0]
    simpa using this)
  have HR := Lib.hid (show putV 6 n s a ws = (ByteArray.empty, numI x0) by rw [← hx0]; rfl)
  have s0 : x0.size ≤ maxLen := by rw [← hx0]; have := (ev0_le ha 0).1; unfold evAt at this; unfold keyAt maxLen; omega
  obtain ⟨z, hz⟩ : ∃ z, numI x0 = z := ⟨_, rfl⟩
  have HZ := Lib.hid (show (numD x0.data.toList).getD 0 = z from hz)
  rw [hz] at HR
  clear cs h hw hx0 hz
  go_enter Tryz.func39, Tryz.ntmps39
  go_wp2_with fail
  refine (l1num_any x0 _ s0).mono ?_
  rintro e w2 ⟨rfl, hB2⟩
  rw [HZ.out]
  have HX := Lib.hid (HX.out.keep hB2)
  have HB := Lib.hid (below_via HB.out hB2)
  have y0 := HX.out.cell (j := 0) (by simp)
  have y1 := HX.out.cell (j := 1) (by simp)
  have f0 := HX.out.free 0
  have f1 := HX.out.free 1
  simp at y0 y1
  clear hB2
  go_wp2
  have hbF := (HX.out.set 0 (.string ⟨#[]⟩)).set 1 (.int .i64 z)
  unfold Row at hbF
  refine bodyPost_ret (v := .agg #[.string ⟨#[]⟩, .int .i64 z]) ?h1 rfl ?h2
  case h1 => simp [results, Tryz.results39, go_sem, World.cell?, hbF]
  case h2 => exact ev_is HR.out ((HB.out.setCell (by simp) _).setCell (by simp) _)

set_option maxHeartbeats 4000000 in
theorem l3put_7 (n : Int) (s : ByteArray) (q : Option Addr) (m c : Nat) (a : Recs) (wq : Option Addr) (wn wc : Nat) (ws : Strs) (w : World) (h : RecsAt w q m a) (hm : m = (takesB 7).size) (hw : StrsAt w wq wn ws) (hs : s.size ≤ maxLen) (hn : True) (ha : ∀ v ∈ a, v.1.size ≤ 40 ∧ In64 v.2) :
    Calls Tryz.prog 39 #[.agg #[.int .i64 7, .int .i64 n, .string s], .slice q m c, .slice wq wn wc] w (MadeEV (putV 7 n s a ws) w) := by
  obtain rfl : m = 1 := hm
  have HB := Lib.hid (show Below w.heap.size w ((w.alloc (.cells #[.int .i64 7, .int .i64 n, .string s] 52)).alloc (.cells #[.string ⟨#[]⟩, .int .i64 0] 66)) from below_alloc (below_alloc (Below.refl _ _) _) _)
  obtain ⟨b, off, rfl, cs⟩ := evs_cells h HB.out (by decide)
  obtain ⟨x0, hx0⟩ : ∃ x, numAt a 0 = x := ⟨_, rfl⟩
  have k0 := (cs 0 (by decide)).2
  rw [hx0] at k0
  simp at k0
  have HX := Lib.hid (show Row ((w.alloc (.cells #[.int .i64 7, .int .i64 n, .string s] 52)).alloc (.cells #[.string ⟨#[]⟩, .int .i64 0] 66)) (w.heap.size + 1) 66 #[.string ⟨#[]⟩, .int .i64 0] from by
    have := Row.new (w.alloc (.cells #[.int .i64 7, .int .i64 n, .string s] 52)) 66 #[.string ⟨#[]⟩, .int .i64 0]
    simpa using this)
  have HR := Lib.hid (show putV 7 n s a ws = (decB x0, 0) by rw [← hx0]; rfl)
  have s0 : In64 x0 := by rw [← hx0]; exact (ev0_le ha 0).2
  obtain ⟨z, hz⟩ : ∃ z, decB x0 = z := ⟨_, rfl⟩
  have HZ := Lib.hid hz
  rw [hz] at HR
  unfold In64 at s0
  clear cs h hw hx0 hz
  go_enter Tryz.func39, Tryz.ntmps39
  go_wp2_with fail
  refine (l1dec_any x0 s0.1 (by omega) _).mono ?_
  rintro e w2 ⟨rfl, hB2⟩
  rw [HZ.out]
  have HX := Lib.hid (HX.out.keep hB2)
  have HB := Lib.hid (below_via HB.out hB2)
  have y0 := HX.out.cell (j := 0) (by simp)
  have y1 := HX.out.cell (j := 1) (by simp)
  have f0 := HX.out.free 0
  have f1 := HX.out.free 1
  simp at y0 y1
  clear hB2
  go_wp2
  have hbF := (HX.out.set 0 (.string z)).set 1 (.int .i64 0)
  unfold Row at hbF
  refine bodyPost_ret (v := .agg #[.string z, .int .i64 0]) ?h1 rfl ?h2
  case h1 => simp [results, Tryz.results39, go_sem, World.cell?, hbF]
  case h2 => exact ev_is HR.out ((HB.out.setCell (by simp) _).setCell (by simp) _)

set_option maxHeartbeats 4000000 in
theorem l3put_12 (n : Int) (s : ByteArray) (q : Option Addr) (m c : Nat) (a : Recs) (wq : Option Addr) (wn wc : Nat) (ws : Strs) (w : World) (h : RecsAt w q m a) (hm : m = (takesB 12).size) (hw : StrsAt w wq wn ws) (hs : s.size ≤ maxLen) (hn : True) (ha : ∀ v ∈ a, v.1.size ≤ 40 ∧ In64 v.2) :
    Calls Tryz.prog 39 #[.agg #[.int .i64 12, .int .i64 n, .string s], .slice q m c, .slice wq wn wc] w (MadeEV (putV 12 n s a ws) w) := by
  obtain rfl : m = 2 := hm
  have HB := Lib.hid (show Below w.heap.size w ((w.alloc (.cells #[.int .i64 12, .int .i64 n, .string s] 52)).alloc (.cells #[.string ⟨#[]⟩, .int .i64 0] 66)) from below_alloc (below_alloc (Below.refl _ _) _) _)
  obtain ⟨b, off, rfl, cs⟩ := evs_cells h HB.out (by decide)
  obtain ⟨x0, hx0⟩ : ∃ x, keyAt a 0 = x := ⟨_, rfl⟩
  have k0 := (cs 0 (by decide)).1
  rw [hx0] at k0
  obtain ⟨x1, hx1⟩ : ∃ x, keyAt a 1 = x := ⟨_, rfl⟩
  have k1 := (cs 1 (by decide)).1
  rw [hx1] at k1
  simp at k0 k1
  have s0 : x0.size ≤ 40 := by rw [← hx0]; exact (ev0_le ha 0).1
  have s1 : x1.size ≤ 40 := by rw [← hx1]; exact (ev0_le ha 1).1
  by_cases hq : x0 = x1
  · have HR := Lib.hid (show putV 12 n s a ws = (ByteArray.empty, truthI true) by
      show (ByteArray.empty, truthI (decide (keyAt a 0 = keyAt a 1))) = _
      rw [hx0, hx1, decide_eq_true hq])
    have hq2 : (x0.toList == x1.toList) = true := ba_eqv hq
    clear cs h hw HB hx0 hx1 hq
    go_enter Tryz.func39, Tryz.ntmps39
    go_wp2_with fail
    go_region_with (go_at_call 65; refine (l3truth_any true _).mono ?_; rintro e w1 ⟨rfl, rfl⟩)
    all_goals (
      go_wp2
      refine bodyPost_ret (v := .agg #[.string ⟨#[]⟩, .int .i64 (truthI true)]) ?h1 rfl ?h2
      case h1 => simp [results, Tryz.results39, go_sem]
      case h2 => exact ev_is HR.out (below_alloc (below_alloc (Below.refl _ _) _) _).drew)
  · have HR := Lib.hid (show putV 12 n s a ws = (ByteArray.empty, truthI false) by
      show (ByteArray.empty, truthI (decide (keyAt a 0 = keyAt a 1))) = _
      rw [hx0, hx1, decide_eq_false hq])
    have hq2 : (x0.toList == x1.toList) = false := ba_nev hq
    clear cs h hw HB hx0 hx1 hq
    go_enter Tryz.func39, Tryz.ntmps39
    go_wp2_with fail
    go_region_with (go_at_call 65; refine (l3truth_any false _).mono ?_; rintro e w1 ⟨rfl, rfl⟩)
    all_goals (
      go_wp2
      refine bodyPost_ret (v := .agg #[.string ⟨#[]⟩, .int .i64 (truthI false)]) ?h1 rfl ?h2
      case h1 => simp [results, Tryz.results39, go_sem]
      case h2 => exact ev_is HR.out (below_alloc (below_alloc (Below.refl _ _) _) _).drew)

set_option maxHeartbeats 4000000 in
theorem l3put_8 (n : Int) (s : ByteArray) (q : Option Addr) (m c : Nat) (a : Recs) (wq : Option Addr) (wn wc : Nat) (ws : Strs) (w : World) (h : RecsAt w q m a) (hm : m = (takesB 8).size) (hw : StrsAt w wq wn ws) (hs : s.size ≤ maxLen) (hn : True) (ha : ∀ v ∈ a, v.1.size ≤ 40 ∧ In64 v.2) :
    Calls Tryz.prog 39 #[.agg #[.int .i64 8, .int .i64 n, .string s], .slice q m c, .slice wq wn wc] w (MadeEV (putV 8 n s a ws) w) := by
  obtain rfl : m = 2 := hm
  have HB := Lib.hid (show Below w.heap.size w ((w.alloc (.cells #[.int .i64 8, .int .i64 n, .string s] 52)).alloc (.cells #[.string ⟨#[]⟩, .int .i64 0] 66)) from below_alloc (below_alloc (Below.refl _ _) _) _)
  obtain ⟨b, off, rfl, cs⟩ := evs_cells h HB.out (by decide)
  obtain ⟨x0, hx0⟩ : ∃ x, numAt a 0 = x := ⟨_, rfl⟩
  have k0 := (cs 0 (by decide)).2
  rw [hx0] at k0
  obtain ⟨x1, hx1⟩ : ∃ x, numAt a 1 = x := ⟨_, rfl⟩
  have k1 := (cs 1 (by decide)).2
  rw [hx1] at k1
  simp at k0 k1
  obtain ⟨z, hz⟩ : ∃ z, twoI 8 x0 x1 = z := ⟨_, rfl⟩
  have HR := Lib.hid (show putV 8 n s a ws = (ByteArray.empty, z) by rw [← hz, ← hx0, ← hx1]; rfl)
  have HT := Lib.hid (show ∀ w, Calls Tryz.prog 66 #[.int .i64 8, .int .i64 x0, .int .i64 x1] w (fun e w' => e = .returned (.int .i64 z) ∧ w' = w) from fun w => by
    have := l3two_any 8 x0 x1 w (by omega)
    rw [hz] at this
    exact this)
  clear cs h hw HB hx0 hx1 hz
  go_enter Tryz.func39, Tryz.ntmps39
  go_wp2_with fail
  go_region_with (go_at_call 66; refine (HT.out _).mono ?_; rintro e w1 ⟨rfl, rfl⟩)
  all_goals (
    go_wp2
    refine bodyPost_ret (v := .agg #[.string ⟨#[]⟩, .int .i64 z]) ?h1 rfl ?h2
    case h1 => simp [results, Tryz.results39, go_sem]
    case h2 => exact ev_is HR.out (below_alloc (below_alloc (Below.refl _ _) _) _).drew)

set_option maxHeartbeats 4000000 in
theorem l3put_9 (n : Int) (s : ByteArray) (q : Option Addr) (m c : Nat) (a : Recs) (wq : Option Addr) (wn wc : Nat) (ws : Strs) (w : World) (h : RecsAt w q m a) (hm : m = (takesB 9).size) (hw : StrsAt w wq wn ws) (hs : s.size ≤ maxLen) (hn : True) (ha : ∀ v ∈ a, v.1.size ≤ 40 ∧ In64 v.2) :
    Calls Tryz.prog 39 #[.agg #[.int .i64 9, .int .i64 n, .string s], .slice q m c, .slice wq wn wc] w (MadeEV (putV 9 n s a ws) w) := by
  obtain rfl : m = 2 := hm
  have HB := Lib.hid (show Below w.heap.size w ((w.alloc (.cells #[.int .i64 9, .int .i64 n, .string s] 52)).alloc (.cells #[.string ⟨#[]⟩, .int .i64 0] 66)) from below_alloc (below_alloc (Below.refl _ _) _) _)
  obtain ⟨b, off, rfl, cs⟩ := evs_cells h HB.out (by decide)
  obtain ⟨x0, hx0⟩ : ∃ x, numAt a 0 = x := ⟨_, rfl⟩
  have k0 := (cs 0 (by decide)).2
  rw [hx0] at k0
  obtain ⟨x1, hx1⟩ : ∃ x, numAt a 1 = x := ⟨_, rfl⟩
  have k1 := (cs 1 (by decide)).2
  rw [hx1] at k1
  simp at k0 k1
  obtain ⟨z, hz⟩ : ∃ z, twoI 9 x0 x1 = z := ⟨_, rfl⟩
  have HR := Lib.hid (show putV 9 n s a ws = (ByteArray.empty, z) by rw [← hz, ← hx0, ← hx1]; rfl)
  have HT := Lib.hid (show ∀ w, Calls Tryz.prog 66 #[.int .i64 9, .int .i64 x0, .int .i64 x1] w (fun e w' => e = .returned (.int .i64 z) ∧ w' = w) from fun w => by
    have := l3two_any 9 x0 x1 w (by omega)
    rw [hz] at this
    exact this)
  clear cs h hw HB hx0 hx1 hz
  go_enter Tryz.func39, Tryz.ntmps39
  go_wp2_with fail
  go_region_with (go_at_call 66; refine (HT.out _).mono ?_; rintro e w1 ⟨rfl, rfl⟩)
  all_goals (
    go_wp2
    refine bodyPost_ret (v := .agg #[.string ⟨#[]⟩, .int .i64 z]) ?h1 rfl ?h2
    case h1 => simp [results, Tryz.results39, go_sem]
    case h2 => exact ev_is HR.out (below_alloc (below_alloc (Below.refl _ _) _) _).drew)

set_option maxHeartbeats 4000000 in
theorem l3put_10 (n : Int) (s : ByteArray) (q : Option Addr) (m c : Nat) (a : Recs) (wq : Option Addr) (wn wc : Nat) (ws : Strs) (w : World) (h : RecsAt w q m a) (hm : m = (takesB 10).size) (hw : StrsAt w wq wn ws) (hs : s.size ≤ maxLen) (hn : True) (ha : ∀ v ∈ a, v.1.size ≤ 40 ∧ In64 v.2) :
    Calls Tryz.prog 39 #[.agg #[.int .i64 10, .int .i64 n, .string s], .slice q m c, .slice wq wn wc] w (MadeEV (putV 10 n s a ws) w) := by
  obtain rfl : m = 2 := hm
  have HB := Lib.hid (show Below w.heap.size w ((w.alloc (.cells #[.int .i64 10, .int .i64 n, .string s] 52)).alloc (.cells #[.string ⟨#[]⟩, .int .i64 0] 66)) from below_alloc (below_alloc (Below.refl _ _) _) _)
  obtain ⟨b, off, rfl, cs⟩ := evs_cells h HB.out (by decide)
  obtain ⟨x0, hx0⟩ : ∃ x, numAt a 0 = x := ⟨_, rfl⟩
  have k0 := (cs 0 (by decide)).2
  rw [hx0] at k0
  obtain ⟨x1, hx1⟩ : ∃ x, numAt a 1 = x := ⟨_, rfl⟩
  have k1 := (cs 1 (by decide)).2
  rw [hx1] at k1
  simp at k0 k1
  obtain ⟨z, hz⟩ : ∃ z, twoI 10 x0 x1 = z := ⟨_, rfl⟩
  have HR := Lib.hid (show putV 10 n s a ws = (ByteArray.empty, z) by rw [← hz, ← hx0, ← hx1]; rfl)
  have HT := Lib.hid (show ∀ w, Calls Tryz.prog 66 #[.int .i64 10, .int .i64 x0, .int .i64 x1] w (fun e w' => e = .returned (.int .i64 z) ∧ w' = w) from fun w => by
    have := l3two_any 10 x0 x1 w (by omega)
    rw [hz] at this
    exact this)
  clear cs h hw HB hx0 hx1 hz
  go_enter Tryz.func39, Tryz.ntmps39
  go_wp2_with fail
  go_region_with (go_at_call 66; refine (HT.out _).mono ?_; rintro e w1 ⟨rfl, rfl⟩)
  all_goals (
    go_wp2
    refine bodyPost_ret (v := .agg #[.string ⟨#[]⟩, .int .i64 z]) ?h1 rfl ?h2
    case h1 => simp [results, Tryz.results39, go_sem]
    case h2 => exact ev_is HR.out (below_alloc (below_alloc (Below.refl _ _) _) _).drew)

set_option maxHeartbeats 4000000 in
theorem l3put_11 (n : Int) (s : ByteArray) (q : Option Addr) (m c : Nat) (a : Recs) (wq : Option Addr) (wn wc : Nat) (ws : Strs) (w : World) (h : RecsAt w q m a) (hm : m = (takesB 11).size) (hw : StrsAt w wq wn ws) (hs : s.size ≤ maxLen) (hn : True) (ha : ∀ v ∈ a, v.1.size ≤ 40 ∧ In64 v.2) :
    Calls Tryz.prog 39 #[.agg #[.int .i64 11, .int .i64 n, .string s], .slice q m c, .slice wq wn wc] w (MadeEV (putV 11 n s a ws) w) := by
  obtain rfl : m = 2 := hm
  have HB := Lib.hid (show Below w.heap.size w ((w.alloc (.cells #[.int .i64 11, .int .i64 n, .string s] 52)).alloc (.cells #[.string ⟨#[]⟩, .int .i64 0] 66)) from below_alloc (below_alloc (Below.refl _ _) _) _)
  obtain ⟨b, off, rfl, cs⟩ := evs_cells h HB.out (by decide)
  obtain ⟨x0, hx0⟩ : ∃ x, numAt a 0 = x := ⟨_, rfl⟩
  have k0 := (cs 0 (by decide)).2
  rw [hx0] at k0
  obtain ⟨x1, hx1⟩ : ∃ x, numAt a 1 = x := ⟨_, rfl⟩
  have k1 := (cs 1 (by decide)).2
  rw [hx1] at k1
  simp at k0 k1
  obtain ⟨z, hz⟩ : ∃ z, twoI 11 x0 x1 = z := ⟨_, rfl⟩
  have HR := Lib.hid (show putV 11 n s a ws = (ByteArray.empty, z) by rw [← hz, ← hx0, ← hx1]; rfl)
  have HT := Lib.hid (show ∀ w, Calls Tryz.prog 66 #[.int .i64 11, .int .i64 x0, .int .i64 x1] w (fun e w' => e = .returned (.int .i64 z) ∧ w' = w) from fun w => by
    have := l3two_any 11 x0 x1 w (by omega)
    rw [hz] at this
    exact this)
  clear cs h hw HB hx0 hx1 hz
  go_enter Tryz.func39, Tryz.ntmps39
  go_wp2_with fail
  go_region_with (go_at_call 66; refine (HT.out _).mono ?_; rintro e w1 ⟨rfl, rfl⟩)
  all_goals (
    go_wp2
    refine bodyPost_ret (v := .agg #[.string ⟨#[]⟩, .int .i64 z]) ?h1 rfl ?h2
    case h1 => simp [results, Tryz.results39, go_sem]
    case h2 => exact ev_is HR.out (below_alloc (below_alloc (Below.refl _ _) _) _).drew)

/-- Every instruction that puts something. -/
theorem l3put_any (op : Nat) (n : Int) (s : ByteArray) (q : Option Addr) (m c : Nat) (a : Recs) (wq : Option Addr) (wn wc : Nat) (ws : Strs) (w : World) (h1 : 1 ≤ op) (h2 : op ≤ 12) (h : RecsAt w q m a) (hm : m = (takesB op).size) (hw : StrsAt w wq wn ws) (hs : s.size ≤ maxLen) (hn : op = 1 → 0 ≤ n) (ha : ∀ v ∈ a, v.1.size ≤ 40 ∧ In64 v.2) :
    Calls Tryz.prog 39 #[.agg #[.int .i64 op, .int .i64 n, .string s], .slice q m c, .slice wq wn wc] w (MadeEV (putV op n s a ws) w) := by
  obtain rfl | rfl | rfl | rfl | rfl | rfl | rfl | rfl | rfl | rfl | rfl | rfl : op = 1 ∨ op = 2 ∨ op = 3 ∨ op = 4 ∨ op = 5 ∨ op = 6 ∨ op = 7 ∨ op = 8 ∨ op = 9 ∨ op = 10 ∨ op = 11 ∨ op = 12 := by omega
  · exact l3put_1 n s q m c a wq wn wc ws w h hm hw hs (hn rfl)
  · exact l3put_2 n s q m c a wq wn wc ws w h hm hw hs trivial
  · exact l3put_3 n s q m c a wq wn wc ws w h hm hw hs trivial
  · exact l3put_4 n s q m c a wq wn wc ws w h hm hw hs trivial ha
  · exact l3put_5 n s q m c a wq wn wc ws w h hm hw hs trivial ha
  · exact l3put_6 n s q m c a wq wn wc ws w h hm hw hs trivial ha
  · exact l3put_7 n s q m c a wq wn wc ws w h hm hw hs trivial ha
  · exact l3put_8 n s q m c a wq wn wc ws w h hm hw hs trivial ha
  · exact l3put_9 n s q m c a wq wn wc ws w h hm hw hs trivial ha
  · exact l3put_10 n s q m c a wq wn wc ws w h hm hw hs trivial ha
  · exact l3put_11 n s q m c a wq wn wc ws w h hm hw hs trivial ha
  · exact l3put_12 n s q m c a wq wn wc ws w h hm hw hs trivial ha
end Go.Proofs.YthnlllbanfemaaaGreatDoor
namespace Go.Proofs.YthnlllbanfemaaaGreatDoor
open Go.ChangeShapes Go.WideShapes Go.ChangeAt Go.RowKit
set_option linter.unusedVariables false
set_option maxRecDepth 100000

theorem infoV3 : (Tryz.prog.info? 66).map (fun i => (i.zero, i.size, i.bytes)) = some (some (.agg #[.string ByteArray.empty, .int .i64 0]), 2, 24) := by kernel_rfl
def V3Laid (cur : Array Value) (l : Recs) (k : Nat) : Prop := ∀ j, j < k → cur[j * 2]? = some (.string (keyAt l j)) ∧ cur[j * 2 + 1]? = some (.int .i64 (numAt l j))
def cellsV3 (W : Recs) : List Value := W.flatMap fun r => [Value.string r.1, Value.int .i64 r.2]
theorem cellsV3_nil : cellsV3 [] = [] := rfl
theorem cellsV3_snoc (W : Recs) (x0 : ByteArray) (x1 : Int) : cellsV3 (W ++ [(x0, x1)]) = cellsV3 W ++ [.string x0, .int .i64 x1] := by simp [cellsV3]
theorem cellsV3_append (W V : Recs) : cellsV3 (W ++ V) = cellsV3 W ++ cellsV3 V := by simp [cellsV3]
theorem cellsV3_one_row (x0 : ByteArray) (x1 : Int) : cellsV3 [(x0, x1)] = [.string x0, .int .i64 x1] := by simp [cellsV3]
theorem cellsV3_len : ∀ W : Recs, (cellsV3 W).length = W.length * 2
  | [] => rfl
  | r :: t => by
    have := cellsV3_len t
    simp only [cellsV3] at this
    simp [cellsV3, List.flatMap_cons, this]; omega
theorem cellsV3_get : ∀ (W : Recs) (j : Nat), j < W.length → (cellsV3 W)[j * 2]? = some (.string (keyAt W j)) ∧ (cellsV3 W)[j * 2 + 1]? = some (.int .i64 (numAt W j))
  | [], j, h => by simp at h
  | r :: t, 0, h => by simp [cellsV3, keyAt, numAt]
  | r :: t, j + 1, h => by
    have := cellsV3_get t j (by simpa using h)
    have e : (j + 1) * 2 = j * 2 + 2 := by omega
    simp only [cellsV3] at this
    rw [e]
    have e0 : j * 2 + 2 = j * 2 + 1 + 1 := by omega
    have e1 : j * 2 + 2 + 1 = j * 2 + 1 + 1 + 1 := by omega
    rw [e1, e0]
    simp only [cellsV3, List.flatMap_cons, List.cons_append, List.nil_append, List.getElem?_cons_succ]
    simpa [keyAt, numAt] using this
theorem vt_cells1 : ∀ W : Recs, ∀ u ∈ cellsV3 W, u.oneCell' = true := by
  intro W u hu
  unfold cellsV3 at hu
  rw [List.mem_flatMap] at hu
  obtain ⟨r, _, hr⟩ := hu
  simp only [List.mem_cons, or_false, List.not_mem_nil] at hr
  rcases hr with rfl | rfl
  all_goals rfl
theorem vt_new (w : World) (x0 : ByteArray) (x1 : Int) (t : TypeId) : ∀ j u, [Value.string x0, Value.int .i64 x1][j]? = some u → (w.alloc (.cells #[.string x0, .int .i64 x1] t)).cell? ((⟨w.heap.size, 0, none⟩ : Addr).add j) = some u := by
  intro j u hj
  match j, hj with
  | 0, hj => simp at hj; subst hj; simp [Addr.add]
  | 1, hj => simp at hj; subst hj; simp [Addr.add]
theorem vt_at_row {w : World} {B : Nat} (x0 : ByteArray) (x1 : Int) {t : TypeId} (h : Row w B t #[.string x0, .int .i64 x1]) : ∀ j u, [Value.string x0, Value.int .i64 x1][j]? = some u → w.cell? ((⟨B, 0, none⟩ : Addr).add j) = some u := by
  intro j u hj
  unfold Row at h
  match j, hj with
  | 0, hj => simp at hj; subst hj; simp [Addr.add, World.cell?, h]
  | 1, hj => simp at hj; subst hj; simp [Addr.add, World.cell?, h]

/-- The slice (q, length of W) holds the values W in a row from block 'base' on. -/
def V3K (base : Nat) (w : World) (q : Option Addr) (W : Recs) : Prop :=
  W.length = 0 ∨ ∃ g cur, q = some ⟨g, 0, none⟩ ∧ base ≤ g ∧ Row w g 66 cur ∧ W.length * 2 ≤ cur.size ∧ V3Laid cur W W.length
theorem vtk_of_own {base : Nat} {w : World} {q : Option Addr} {m cp : Nat} {W : Recs} (h : w.ownsRow base 66 2 (.slice q m cp) W.length (cellsV3 W)) : V3K base w q W := by
  rcases h.2 with ⟨h1, h2⟩ | ⟨g, cap, cur, hv, hb, hh, h1, _, h3, h4⟩
  · exact .inl h2
  · simp only [Value.slice.injEq] at hv
    obtain ⟨rfl, _, rfl⟩ := hv
    refine .inr ⟨g, cur, rfl, hb, hh, by omega, fun j hj => ?_⟩
    obtain ⟨e0, e1⟩ := cellsV3_get W j hj
    rw [← h4, List.getElem?_take_of_lt (by omega)] at e0 e1
    exact ⟨by simpa using e0, by simpa using e1⟩
theorem vtk_keep {base : Nat} {w w1 : World} {q : Option Addr} {W : Recs} (h : V3K base w q W) (hB : Below w.heap.size w w1) : V3K base w1 q W := by
  rcases h with h0 | ⟨g, cur, rfl, hb, hr, h1, h2⟩
  · exact .inl h0
  · exact .inr ⟨g, cur, rfl, hb, hr.keep hB, h1, h2⟩
theorem vtk_low {base B : Nat} {w : World} {q : Option Addr} {W : Recs} (h : V3K B w q W) (hb : base ≤ B) : V3K base w q W := by
  rcases h with h0 | ⟨g, cur, rfl, h1, hr, h2, h3⟩
  · exact .inl h0
  · exact .inr ⟨g, cur, rfl, Nat.le_trans hb h1, hr, h2, h3⟩
theorem vtk_lt {base : Nat} {w : World} {q : Option Addr} {W : Recs} (h : V3K base w q W) (hn : 0 < W.length) : ∀ g, q = some ⟨g, 0, none⟩ → base ≤ g ∧ g < w.heap.size := by
  intro g hg
  rcases h with h0 | ⟨g', cur, rfl, hb, hr, h1, h2⟩
  · omega
  · simp only [Option.some.injEq, Addr.mk.injEq, and_true] at hg
    rw [← hg]; exact ⟨hb, hr.lt⟩
theorem vtk_grown {base : Nat} {w w1 : World} {q : Option Addr} {W : Recs} {row : Option Nat} (h : V3K base w q W) (hg : w.grownBy w1 row) (hne : ∀ g, q = some ⟨g, 0, none⟩ → some g ≠ row) : V3K base w1 q W := by
  rcases h with h0 | ⟨g', cur, rfl, hb, hr, h1, h2⟩
  · exact .inl h0
  · exact .inr ⟨g', cur, rfl, hb, (hg.block g' hr.lt (hne g' rfl)).trans hr, h1, h2⟩
theorem vtk_put {base : Nat} {w : World} {q : Option Addr} {W : Recs} (h : V3K base w q W) {X : Nat} (hne : ∀ g, q = some ⟨g, 0, none⟩ → g ≠ X) (j : Nat) (v : Value) : V3K base (w.setCell ⟨X, j, none⟩ v) q W := by
  rcases h with h0 | ⟨g', cur, rfl, hb, hr, h1, h2⟩
  · exact .inl h0
  · exact .inr ⟨g', cur, rfl, hb, hr.other (hne g' rfl) j v, h1, h2⟩
theorem vts_of_k {base n : Nat} {w : World} {q : Option Addr} {W : Recs} (h : V3K base w q W) (hn : W.length = n) (hm : n ≤ maxLen) (hs : ∀ i, i < n → (keyAt W i).size ≤ maxLen) : RecsAt w q n W := by
  subst hn
  refine ⟨rfl, hm, hs, ?_⟩
  rcases h with h0 | ⟨g, cur, rfl, _, hr, _, hc⟩
  · exact .inl h0
  · refine .inr ⟨g, 0, rfl, hr.lt, fun i hi => ?_⟩
    obtain ⟨e0, e1⟩ := hc i hi
    unfold Row at hr
    simp [World.cell?, hr, e0, e1]

/-! ### pieces of a slice that may be read, and appends of them -/
theorem vt_at_take (l : Recs) (k i : Nat) (h : i < k) : keyAt (l.take k) i = keyAt l i ∧ numAt (l.take k) i = numAt l i := by
  refine ⟨?_, ?_⟩ <;> simp [keyAt, numAt, List.getElem?_take_of_lt h]
theorem vt_at_drop (l : Recs) (k i : Nat) : keyAt (l.drop k) i = keyAt l (k + i) ∧ numAt (l.drop k) i = numAt l (k + i) := by
  refine ⟨?_, ?_⟩ <;> simp [keyAt, numAt]
theorem vts_take {w : World} {a : Option Addr} {len : Nat} {l : Recs} (h : RecsAt w a len l) {k : Nat} (hk : k ≤ len) : RecsAt w a k (l.take k) := by
  have hl := h.length
  refine ⟨by rw [List.length_take]; omega, Nat.le_trans hk h.max, fun i hi => ?_, ?_⟩
  · obtain ⟨e0, e1⟩ := vt_at_take l k i hi
    have := h.keys i (by omega)
    simpa only [e0, e1] using this
  · rcases h.src with h0 | ⟨b, off, ha, hb, hc⟩
    · exact .inl (by omega)
    · refine .inr ⟨b, off, ha, hb, fun i hi => ?_⟩
      obtain ⟨e0, e1⟩ := vt_at_take l k i hi
      have := hc i (by omega)
      simpa only [e0, e1] using this
theorem vts_drop {w : World} {b off : Nat} {len : Nat} {l : Recs} (h : RecsAt w (some ⟨b, off, none⟩) len l) {k : Nat} (hk : k ≤ len) : RecsAt w (some ⟨b, off + k * 2, none⟩) (len - k) (l.drop k) := by
  have hl := h.length
  have hm := h.max
  refine ⟨by rw [List.length_drop]; omega, by omega, fun i hi => ?_, ?_⟩
  · obtain ⟨e0, e1⟩ := vt_at_drop l k i
    have := h.keys (k + i) (by omega)
    simpa only [e0, e1] using this
  · rcases h.src with h0 | ⟨b', off', ha, hb, hc⟩
    · exact .inl (by omega)
    · simp only [Option.some.injEq, Addr.mk.injEq, and_true] at ha
      obtain ⟨rfl, rfl⟩ := ha
      refine .inr ⟨b, off + k * 2, rfl, hb, fun i hi => ?_⟩
      obtain ⟨e0, e1⟩ := vt_at_drop l k i
      have := hc (k + i) (by omega)
      rw [show off + (k + i) * 2 = off + k * 2 + i * 2 by rw [Nat.add_mul]; omega] at this
      simpa only [e0, e1] using this
theorem vts_none {w : World} {a a' : Option Addr} {len : Nat} {l : Recs} (h : RecsAt w a len l) (hn : len = 0) : RecsAt w a' 0 [] := ⟨rfl, Nat.zero_le _, fun i hi => by omega, .inl rfl⟩
theorem vt_cells_at {w : World} {q : Addr} {len : Nat} {l : Recs} (h : RecsAt w (some q) len l) : ∀ j u, (cellsV3 l)[j]? = some u → w.cell? (q.add j) = some u := by
  intro j u hj
  have hl := h.length
  have hjl : j < l.length * 2 := by
    obtain ⟨h1, _⟩ := List.getElem?_eq_some_iff.1 hj
    rw [cellsV3_len] at h1; exact h1
  rcases h.src with h0 | ⟨b, off, ha, hb, hc⟩
  · omega
  · simp only [Option.some.injEq] at ha
    subst ha
    have hi : j / 2 < len := by omega
    obtain ⟨c0, c1⟩ := hc (j / 2) hi
    obtain ⟨e0, e1⟩ := cellsV3_get l (j / 2) (by omega)
    have hadd : (⟨b, off, none⟩ : Addr).add j = ⟨b, off + j, none⟩ := by
      unfold Addr.add
      split
      · rename_i h0; subst h0; rfl
      · rfl
    rw [hadd]
    have hr : j % 2 < 2 := Nat.mod_lt _ (by decide)
    have hd : 2 * (j / 2) + j % 2 = j := Nat.div_add_mod j 2
    rcases (show j % 2 = 0 ∨ j % 2 = 1 by omega) with hr0 | hr1
    · have ej : j = j / 2 * 2 := by omega
      have e := e0
      rw [← ej] at e
      rw [e] at hj
      rw [← hj, show off + j = off + j / 2 * 2 by omega]
      exact c0
    · have ej : j = j / 2 * 2 + 1 := by omega
      have e := e1
      rw [← ej] at e
      rw [e] at hj
      rw [← hj, show off + j = off + j / 2 * 2 + 1 by omega]
      exact c1

theorem own_cellsV3 {w : World} {base : Nat} {v : Value} {W : Recs} {xs : List Value} {m k : Nat} (h : w.ownsRow base 66 2 v m xs) (hm : m = k) (hx : xs = cellsV3 W) : w.ownsRow base 66 2 v k (cellsV3 W) := by rw [← hm, ← hx]; exact h
/-- append of values that may be read, nil or not, to a row of the call's own. -/
theorem wp_append_vt {o : Oper} {a : Act} {K : Act → World → Prop} {Q : Exit → Act → World → Prop} {w : World} (s x : Operand)
    (ho : o.op = .call { callee := .builtin .append, args := #[s, x], argTypes := #[62, 62] })
    (base : Nat) (v : Value) (n : Nat) (W : Recs) (hs : a.eval s = v) (hown : w.ownsRow base 66 2 v n (cellsV3 W))
    (q : Option Addr) (m c : Nat) (V : Recs) (hx : a.eval x = .slice q m c) (hrec : RecsAt w q m V) (hnone : q = none → c = 0) (h6 : n + m ≤ 2097152) (hbase : base ≤ w.heap.size)
    (h : ∀ q' c' w', w'.ownsRow base 66 2 (.slice q' (n + m) c') (n + m) (cellsV3 (W ++ V)) → w.grownBy w' v.ownBlock → K (a.put o.dst (.slice q' (n + m) c')) w') : o.wp Tryz.prog a w K Q := by
  obtain ⟨i0, hi, hz0, hz1, hz2⟩ := info_parts infoV3
  cases q with
  | none =>
    have hc := hnone rfl
    have hm : m = 0 := by
      rcases hrec.src with h0 | ⟨b, off, ha, _⟩
      · exact h0
      · cases ha
    subst hm hc
    obtain rfl : V = [] := List.eq_nil_of_length_eq_zero hrec.length
    obtain ⟨q', c', rfl⟩ := own_form hown
    have h0 := h q' c' w (by simpa using hown) (World.grownBy.refl _ _)
    have hrun := run_append_owned_none (P := Tryz.prog) (w := w) base 62 o.type 66 i0 2 Tryz.underlying62 hi _ n _ hown
    unfold Oper.wp
    simp [execOp, ho, resolve, invoke, builtin, hs, hx, hrun, Result.andThen]
    exact h0
  | some p =>
    exact wp_append_own w s x 62 ho base 66 i0 _ 2 24 Tryz.underlying62 hi hz0 hz1 hz2 rfl (by decide) v n _ hs hown p m c (cellsV3 V) hx (by rw [cellsV3_len, hrec.length]) (vt_cells_at hrec) (vt_cells1 _) (by unfold maxLen; omega) (by omega) hbase fun v' w' h2 h3 h4 => by
      obtain ⟨q', c', rfl⟩ := own_form h2
      exact h q' c' w' (by rw [cellsV3_append]; exact h2) h3
theorem append_vt {ops : Array Oper} {rest : List Oper} {o : Oper} {a : Act} {Q : Exit → Act → World → Prop} {w : World} (hg : o.guard = none) (s x : Operand)
    (ho : o.op = .call { callee := .builtin .append, args := #[s, x], argTypes := #[62, 62] })
    (base : Nat) (v : Value) (n : Nat) (W : Recs) (hs : a.eval s = v) (hown : w.ownsRow base 66 2 v n (cellsV3 W))
    (q : Option Addr) (m c : Nat) (V : Recs) (hx : a.eval x = .slice q m c) (hrec : RecsAt w q m V) (hnone : q = none → c = 0) (h6 : n + m ≤ 2097152) (hbase : base ≤ w.heap.size)
    (h : ∀ q' c' w', w'.ownsRow base 66 2 (.slice q' (n + m) c') (n + m) (cellsV3 (W ++ V)) → w.grownBy w' v.ownBlock → wpList Tryz.prog ops Q rest (a.put o.dst (.slice q' (n + m) c')) w') : wpList Tryz.prog ops Q (o :: rest) a w :=
  wpList_plain hg fun _ hK => wp_append_vt s x ho base v n W hs hown q m c V hx hrec hnone h6 hbase fun q' c' w' h2 h3 => hK _ _ (h q' c' w' h2 h3)
/-- At a step of a region that draws its order. -/
theorem step_append_vt {ops : Array Oper} {o : Oper} {a : Act} {K : Act → World → Prop} {Q : Exit → Act → World → Prop} {Ee : Prop} {w : World} (hg : o.guard = none) (s x : Operand)
    (ho : o.op = .call { callee := .builtin .append, args := #[s, x], argTypes := #[62, 62] })
    (base : Nat) (v : Value) (n : Nat) (W : Recs) (hs : a.eval s = v) (hown : w.ownsRow base 66 2 v n (cellsV3 W))
    (q : Option Addr) (m c : Nat) (V : Recs) (hx : a.eval x = .slice q m c) (hrec : RecsAt w q m V) (hnone : q = none → c = 0) (h6 : n + m ≤ 2097152) (hbase : base ≤ w.heap.size)
    (h : ∀ q' c' w', w'.ownsRow base 66 2 (.slice q' (n + m) c') (n + m) (cellsV3 (W ++ V)) → w.grownBy w' v.ownBlock → K (a.put o.dst (.slice q' (n + m) c')) w') :
    if Region.wanted o (yielded ops a.tmps) = true then Oper.wp Tryz.prog o a w K Q else Ee := by
  have hw : Region.wanted o (yielded ops a.tmps) = true := by simp [Region.wanted, hg]
  rw [if_pos hw]
  exact wp_append_vt s x ho base v n W hs hown q m c V hx hrec hnone h6 hbase h
/-- append of one value that has just been laid in a block of its own. -/
theorem wp_append1_vt {o : Oper} {a : Act} {K : Act → World → Prop} {Q : Exit → Act → World → Prop} {w : World} (s x : Operand)
    (ho : o.op = .call { callee := .builtin .append, args := #[s, x], argTypes := #[62, 62] })
    (base : Nat) (v : Value) (n : Nat) (W : Recs) (hs : a.eval s = v) (hown : w.ownsRow base 66 2 v n (cellsV3 W))
    (B c : Nat) (x0 : ByteArray) (x1 : Int) (hx : a.eval x = .slice (some ⟨B, 0, none⟩) 1 c) (hrow : ∀ j u, [Value.string x0, Value.int .i64 x1][j]? = some u → w.cell? ((⟨B, 0, none⟩ : Addr).add j) = some u) (h6 : n + 1 ≤ 2097152) (hbase : base ≤ w.heap.size)
    (h : ∀ q' c' w', w'.ownsRow base 66 2 (.slice q' (n + 1) c') (n + 1) (cellsV3 (W ++ [(x0, x1)])) → w.grownBy w' v.ownBlock → K (a.put o.dst (.slice q' (n + 1) c')) w') : o.wp Tryz.prog a w K Q := by
  obtain ⟨i0, hi, hz0, hz1, hz2⟩ := info_parts infoV3
  exact wp_append_own w s x 62 ho base 66 i0 _ 2 24 Tryz.underlying62 hi hz0 hz1 hz2 rfl (by decide) v n _ hs hown ⟨B, 0, none⟩ 1 c [Value.string x0, Value.int .i64 x1] hx rfl hrow (fun u hu => vt_cells1 [(x0, x1)] u (by rw [cellsV3_one_row]; exact hu)) (by unfold maxLen; omega) (by omega) hbase fun v' w' h2 h3 h4 => by
    obtain ⟨q', c', rfl⟩ := own_form h2
    exact h q' c' w' (by rw [cellsV3_snoc]; exact h2) h3
theorem step_append1_vt {ops : Array Oper} {Ee : Prop} {o : Oper} {a : Act} {K : Act → World → Prop} {Q : Exit → Act → World → Prop} {w : World} (hg : o.guard = none) (s x : Operand)
    (ho : o.op = .call { callee := .builtin .append, args := #[s, x], argTypes := #[62, 62] })
    (base : Nat) (v : Value) (n : Nat) (W : Recs) (hs : a.eval s = v) (hown : w.ownsRow base 66 2 v n (cellsV3 W))
    (B c : Nat) (x0 : ByteArray) (x1 : Int) (hx : a.eval x = .slice (some ⟨B, 0, none⟩) 1 c) (hrow : ∀ j u, [Value.string x0, Value.int .i64 x1][j]? = some u → w.cell? ((⟨B, 0, none⟩ : Addr).add j) = some u) (h6 : n + 1 ≤ 2097152) (hbase : base ≤ w.heap.size)
    (h : ∀ q' c' w', w'.ownsRow base 66 2 (.slice q' (n + 1) c') (n + 1) (cellsV3 (W ++ [(x0, x1)])) → w.grownBy w' v.ownBlock → K (a.put o.dst (.slice q' (n + 1) c')) w') :
    if Region.wanted o (yielded ops a.tmps) = true then Oper.wp Tryz.prog o a w K Q else Ee := by
  have hw : Region.wanted o (yielded ops a.tmps) = true := by simp [Region.wanted, hg]
  rw [if_pos hw]
  exact wp_append1_vt s x ho base v n W hs hown B c x0 x1 hx hrow h6 hbase h
theorem append1_vt {ops : Array Oper} {rest : List Oper} {o : Oper} {a : Act} {Q : Exit → Act → World → Prop} {w : World} (hg : o.guard = none) (s x : Operand)
    (ho : o.op = .call { callee := .builtin .append, args := #[s, x], argTypes := #[62, 62] })
    (base : Nat) (v : Value) (n : Nat) (W : Recs) (hs : a.eval s = v) (hown : w.ownsRow base 66 2 v n (cellsV3 W))
    (B c : Nat) (x0 : ByteArray) (x1 : Int) (hx : a.eval x = .slice (some ⟨B, 0, none⟩) 1 c) (hrow : ∀ j u, [Value.string x0, Value.int .i64 x1][j]? = some u → w.cell? ((⟨B, 0, none⟩ : Addr).add j) = some u) (h6 : n + 1 ≤ 2097152) (hbase : base ≤ w.heap.size)
    (h : ∀ q' c' w', w'.ownsRow base 66 2 (.slice q' (n + 1) c') (n + 1) (cellsV3 (W ++ [(x0, x1)])) → w.grownBy w' v.ownBlock → wpList Tryz.prog ops Q rest (a.put o.dst (.slice q' (n + 1) c')) w') : wpList Tryz.prog ops Q (o :: rest) a w :=
  wpList_plain hg fun _ hK => wp_append1_vt s x ho base v n W hs hown B c x0 x1 hx hrow h6 hbase fun q' c' w' h2 h3 => hK _ _ (h q' c' w' h2 h3)
theorem own_nilV3 (w : World) (base : Nat) : w.ownsRow base 66 2 (.slice none 0 0) 0 (cellsV3 []) := ⟨rfl, .inl ⟨rfl, rfl⟩⟩
/-- An array of no length that has just been made. -/
theorem own_zeroV3 {w : World} {base B : Nat} (h : Row w B 66 #[]) (hb : base ≤ B) : w.ownsRow base 66 2 (.slice (some ⟨B, 0, none⟩) 0 0) 0 (cellsV3 []) := ⟨rfl, .inr ⟨B, 0, #[], rfl, hb, h, Nat.le_refl _, Nat.zero_le _, rfl, rfl⟩⟩

/-- The row of a slice that is not empty. -/
theorem own_rowV3 {w : World} {base : Nat} {q : Option Addr} {n m c : Nat} {xs : List Value} (h : w.ownsRow base 66 2 (.slice q m c) n xs) (hn : 0 < n) : ∃ g cur, q = some ⟨g, 0, none⟩ ∧ m = n ∧ base ≤ g ∧ Row w g 66 cur ∧ n ≤ c ∧ c ≤ maxLen ∧ cur.size = c * 2 ∧ cur.toList.take (n * 2) = xs := by
  rcases h.2 with ⟨_, h0⟩ | ⟨g, cap, cur, hv, hb, hh, h1, h2, h3, h4⟩
  · omega
  · simp only [Value.slice.injEq] at hv
    obtain ⟨rfl, rfl, rfl⟩ := hv
    exact ⟨g, cur, rfl, rfl, hb, hh, h1, h2, h3, h4⟩
theorem cellsV3_set : ∀ (W : Recs) (p : Nat) (x0 : ByteArray) (x1 : Int), p < W.length → cellsV3 (W.set p (x0, x1)) = (((cellsV3 W).set (p * 2) (.string x0)).set (p * 2 + 1) (.int .i64 x1))
  | [], p, x0, x1, h => by simp at h
  | r :: t, 0, x0, x1, h => by simp [cellsV3]
  | r :: t, p + 1, x0, x1, h => by
    have ih := cellsV3_set t p x0 x1 (by simpa using h)
    rw [List.set_cons_succ]
    have e : ∀ W : Recs, ∀ r, cellsV3 (r :: W) = [Value.string r.1, Value.int .i64 r.2] ++ cellsV3 W := fun W r => rfl
    rw [e, e, ih]
    have f0 : (p + 1) * 2 = p * 2 + 1 + 1 := by omega
    have f1 : (p + 1) * 2 + 1 = p * 2 + 1 + 1 + 1 := by omega
    rw [f1, f0]
    simp only [List.cons_append, List.nil_append, List.set_cons_succ]
/-- One value of an own row laid anew. -/
theorem own_setV3 {w : World} {base g n c : Nat} {W : Recs} (h : w.ownsRow base 66 2 (.slice (some ⟨g, 0, none⟩) n c) n (cellsV3 W)) {p : Nat} (hp : p < n) (x0 : ByteArray) (x1 : Int) :
    ((w.setCell ⟨g, p * 2, none⟩ (.string x0)).setCell ⟨g, p * 2 + 1, none⟩ (.int .i64 x1)).ownsRow base 66 2 (.slice (some ⟨g, 0, none⟩) n c) n (cellsV3 (W.set p (x0, x1))) := by
  have hl := h.1
  rw [cellsV3_len] at hl
  have hl2 : W.length = n := by omega
  obtain ⟨g', cur, hq, _, hb, hr, h1, h2, h3, h4⟩ := own_rowV3 h (by omega)
  simp only [Option.some.injEq, Addr.mk.injEq, and_true] at hq
  subst hq
  refine ⟨by rw [cellsV3_len, List.length_set, hl2], .inr ⟨g, c, ((cur.setIfInBounds (p * 2) (.string x0)).setIfInBounds (p * 2 + 1) (.int .i64 x1)), rfl, hb, (hr.set _ _).set _ _, h1, h2, by simpa using h3, ?_⟩⟩
  rw [cellsV3_set W p x0 x1 (by omega), ← h4]
  simp only [Array.toList_setIfInBounds, List.take_set]
end Go.Proofs.YthnlllbanfemaaaGreatDoor
