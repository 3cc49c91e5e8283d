/- Texts put together, as a claim holds at most sixty files. -/
import Derived.Test.YtjofbeokkainlaaDoorMg8
import Derived.Test.YtjofbeokkainlaaDoorMg5
import Derived.Test.YtjofbeokkainlaaDoorMg12
import Derived.Test.YtjofbeokkainlaaDoorMg1
import Derived.Test.YtjofbeokkainlaaDoorMg3
import Derived.Test.YtjofbeokkainlaaDoorMg2
namespace Go.Proofs.YtjofbeokkainlaaDoor
open Go.ChangeShapes Go.WideShapes Go.ChangeAt Go.RowKit
set_option linter.unusedVariables false
set_option maxRecDepth 100000

theorem l3truth_any (b : Bool) (w : World) : Calls Tryd.prog 76 #[.bool b] w fun e w' => e = .returned (.int .i64 (truthI b)) ∧ w' = w := by
  cases b
  · go_enter Tryd.func76, Tryd.ntmps76
    go_wp2
    go_ret
    exact ⟨rfl, rfl⟩
  · go_enter Tryd.func76, Tryd.ntmps76
    go_wp2
    go_ret
    exact ⟨rfl, rfl⟩
def twoI : Nat → Int → Int → Int
  | 8, a, b => wrap64 (a + b)
  | 9, a, b => wrap64 (a - b)
  | 10, a, b => wrap64 (a * b)
  | _, a, b => truthI (decide (a < b))
theorem l3two_any (op : Nat) (a b : Int) (w : World) (h : 8 ≤ op ∧ op ≤ 11) : Calls Tryd.prog 77 #[.int .i64 op, .int .i64 a, .int .i64 b] w fun e w' => e = .returned (.int .i64 (twoI op a b)) ∧ w' = w := by
  obtain rfl | rfl | rfl | rfl : op = 8 ∨ op = 9 ∨ op = 10 ∨ op = 11 := by omega
  · go_enter Tryd.func77, Tryd.ntmps77
    go_wp2
    go_ret
    exact ⟨rfl, rfl⟩
  · go_enter Tryd.func77, Tryd.ntmps77
    go_wp2
    go_ret
    exact ⟨rfl, rfl⟩
  · go_enter Tryd.func77, Tryd.ntmps77
    go_wp2
    go_ret
    exact ⟨rfl, rfl⟩
  · obtain ⟨z, hz⟩ : ∃ z, decide (a < b) = z := ⟨_, rfl⟩
    have HT := Lib.hid (show twoI 11 a b = truthI z by show truthI _ = _; rw [hz])
    go_enter Tryd.func77, Tryd.ntmps77
    go_wp2_with fail
    refine (l3truth_any z _).mono ?_
    rintro e w1 ⟨rfl, rfl⟩
    go_wp2
    go_ret
    rw [HT.out]
    exact ⟨rfl, rfl⟩

/-- What l3Put hands back. -/
def MadeEV (v : EV) (w : World) (e : Ending) (w' : World) : Prop := e = .returned (.agg #[.string v.1, .int .i64 v.2]) ∧ Below w.heap.size w w'
/-- The cells of a slice of values, in a later world. -/
theorem evs_cells {w w1 : World} {q : Option Addr} {m : Nat} {a : Recs} (h : RecsAt w q m a) (hB : Below w.heap.size w w1) (h0 : 0 < m) :
    ∃ b off, q = some ⟨b, off, none⟩ ∧ ∀ i, i < m → w1.cell? ⟨b, off + i * 2, none⟩ = some (.string (keyAt a i)) ∧ w1.cell? ⟨b, off + i * 2 + 1, none⟩ = some (.int .i64 (numAt a i)) := by
  rcases (h.keep hB).src with h1 | ⟨b, off, ha, _, hc⟩
  · omega
  · exact ⟨b, off, ha, hc⟩
theorem evs_key (a : Recs) (i : Nat) : keyAt a i = (evAt a i).1 := rfl
theorem evs_num (a : Recs) (i : Nat) : numAt a i = (evAt a i).2 := rfl
theorem words_cell {w w1 : World} {q : Option Addr} {m : Nat} {a : Strs} (h : StrsAt w q m a) (hB : Below w.heap.size w w1) {i : Nat} (h0 : i < m) :
    ∃ b off, q = some ⟨b, off, none⟩ ∧ w1.cell? ⟨b, off + i, none⟩ = some (.string (strAt a i)) := by
  rcases (h.keep hB).src with h1 | ⟨b, off, ha, _, hc⟩
  · omega
  · exact ⟨b, off, ha, hc i h0⟩
theorem ev_is {v : EV} {s : ByteArray} {n : Int} {w w' : World} (h : v = (s, n)) (hB : Below w.heap.size w w') : MadeEV v w (.returned (.agg #[.string s, .int .i64 n])) w' := ⟨by rw [h], hB⟩

set_option maxHeartbeats 4000000 in
theorem l3put_1 (n : Int) (s : ByteArray) (q : Option Addr) (m c : Nat) (a : Recs) (wq : Option Addr) (wn wc : Nat) (ws : Strs) (w : World) (h : RecsAt w q m a) (hm : m = (takesB 1).size) (hw : StrsAt w wq wn ws) (hs : s.size ≤ maxLen) (hn : 0 ≤ n) :
    Calls Tryd.prog 64 #[.agg #[.int .i64 1, .int .i64 n, .string s], .slice q m c, .slice wq wn wc] w (MadeEV (putV 1 n s a ws) w) := by
  have HB := Lib.hid (show Below w.heap.size w ((w.alloc (.cells #[.int .i64 1, .int .i64 n, .string s] 80)).alloc (.cells #[.string ⟨#[]⟩, .int .i64 0] 108)) from below_alloc (below_alloc (Below.refl _ _) _) _)
  have hl := hw.length
  by_cases hlt : n < (wn : Int)
  · obtain ⟨i, rfl⟩ : ∃ i : Nat, n = i := ⟨n.toNat, by omega⟩
    obtain ⟨b, off, rfl, cw⟩ := words_cell hw HB.out (i := i) (by omega)
    obtain ⟨x, hx⟩ : ∃ x, strAt ws i = x := ⟨_, rfl⟩
    have HR := Lib.hid (show putV 1 i s a ws = (x, 0) by
      show (wordAt ws i, (0 : Int)) = _
      unfold wordAt
      rw [if_pos (by omega), ← hx]; rfl)
    rw [hx] at cw
    clear hx h hw hm HB
    go_enter Tryd.func64, Tryd.ntmps64
    go_wp2
    refine bodyPost_ret (v := .agg #[.string x, .int .i64 0]) ?h1 rfl ?h2
    case h1 => simp [results, Tryd.results64, go_sem]
    case h2 => exact ev_is HR.out (below_alloc (below_alloc (Below.refl _ _) _) _)
  · have HR := Lib.hid (show putV 1 n s a ws = (ByteArray.empty, 0) by
      show (wordAt ws n, (0 : Int)) = _
      unfold wordAt
      rw [if_neg (by omega)])
    clear h hw hm HB
    go_enter Tryd.func64, Tryd.ntmps64
    go_wp2
    refine bodyPost_ret (v := .agg #[.string ⟨#[]⟩, .int .i64 0]) ?h1 rfl ?h2
    case h1 => simp [results, Tryd.results64, go_sem]
    case h2 => exact ev_is HR.out (below_alloc (below_alloc (Below.refl _ _) _) _)

set_option maxHeartbeats 4000000 in
theorem l3put_2 (n : Int) (s : ByteArray) (q : Option Addr) (m c : Nat) (a : Recs) (wq : Option Addr) (wn wc : Nat) (ws : Strs) (w : World) (h : RecsAt w q m a) (hm : m = (takesB 2).size) (hw : StrsAt w wq wn ws) (hs : s.size ≤ maxLen) (hn : True) :
    Calls Tryd.prog 64 #[.agg #[.int .i64 2, .int .i64 n, .string s], .slice q m c, .slice wq wn wc] w (MadeEV (putV 2 n s a ws) w) := by
  have HR := Lib.hid (show putV 2 n s a ws = (s, 0) from rfl)
  clear h hw hm
  go_enter Tryd.func64, Tryd.ntmps64
  go_wp2
  refine bodyPost_ret (v := .agg #[.string s, .int .i64 0]) ?h1 rfl ?h2
  case h1 => simp [results, Tryd.results64, go_sem]
  case h2 => exact ev_is HR.out (below_alloc (below_alloc (Below.refl _ _) _) _)

set_option maxHeartbeats 4000000 in
theorem l3put_3 (n : Int) (s : ByteArray) (q : Option Addr) (m c : Nat) (a : Recs) (wq : Option Addr) (wn wc : Nat) (ws : Strs) (w : World) (h : RecsAt w q m a) (hm : m = (takesB 3).size) (hw : StrsAt w wq wn ws) (hs : s.size ≤ maxLen) (hn : True) :
    Calls Tryd.prog 64 #[.agg #[.int .i64 3, .int .i64 n, .string s], .slice q m c, .slice wq wn wc] w (MadeEV (putV 3 n s a ws) w) := by
  have HR := Lib.hid (show putV 3 n s a ws = (ByteArray.empty, n) from rfl)
  clear h hw hm
  go_enter Tryd.func64, Tryd.ntmps64
  go_wp2
  refine bodyPost_ret (v := .agg #[.string ⟨#[]⟩, .int .i64 n]) ?h1 rfl ?h2
  case h1 => simp [results, Tryd.results64, go_sem]
  case h2 => exact ev_is HR.out (below_alloc (below_alloc (Below.refl _ _) _) _)

set_option maxHeartbeats 4000000 in
theorem l3put_4 (n : Int) (s : ByteArray) (q : Option Addr) (m c : Nat) (a : Recs) (wq : Option Addr) (wn wc : Nat) (ws : Strs) (w : World) (h : RecsAt w q m a) (hm : m = (takesB 4).size) (hw : StrsAt w wq wn ws) (hs : s.size ≤ maxLen) (hn : True) (ha : ∀ v ∈ a, v.1.size ≤ 40 ∧ In64 v.2) :
    Calls Tryd.prog 64 #[.agg #[.int .i64 4, .int .i64 n, .string s], .slice q m c, .slice wq wn wc] w (MadeEV (putV 4 n s a ws) w) := by
  obtain rfl : m = 2 := hm
  have HB := Lib.hid (show Below w.heap.size w ((w.alloc (.cells #[.int .i64 4, .int .i64 n, .string s] 80)).alloc (.cells #[.string ⟨#[]⟩, .int .i64 0] 108)) from below_alloc (below_alloc (Below.refl _ _) _) _)
  obtain ⟨b, off, rfl, cs⟩ := evs_cells h HB.out (by decide)
  obtain ⟨x0, hx0⟩ : ∃ x, keyAt a 0 = x := ⟨_, rfl⟩
  have k0 := (cs 0 (by decide)).1
  rw [hx0] at k0
  obtain ⟨x1, hx1⟩ : ∃ x, keyAt a 1 = x := ⟨_, rfl⟩
  have k1 := (cs 1 (by decide)).1
  rw [hx1] at k1
  simp at k0 k1
  have HR := Lib.hid (show putV 4 n s a ws = (x0 ++ x1, 0) by rw [← hx0, ← hx1]; rfl)
  have s0 : x0.size ≤ 40 := by rw [← hx0]; exact (ev0_le ha 0).1
  have s1 : x1.size ≤ 40 := by rw [← hx1]; exact (ev0_le ha 1).1
  clear cs h hw HB hx0 hx1
  go_enter Tryd.func64, Tryd.ntmps64
  go_wp2_with fail
  go_region_with (fail)
  all_goals (
    go_wp2
    refine bodyPost_ret (v := .agg #[.string (x0 ++ x1), .int .i64 0]) ?h1 rfl ?h2
    case h1 => simp [results, Tryd.results64, go_sem]
    case h2 => exact ev_is HR.out (below_alloc (below_alloc (Below.refl _ _) _) _).drew)

set_option maxHeartbeats 4000000 in
theorem l3put_5 (n : Int) (s : ByteArray) (q : Option Addr) (m c : Nat) (a : Recs) (wq : Option Addr) (wn wc : Nat) (ws : Strs) (w : World) (h : RecsAt w q m a) (hm : m = (takesB 5).size) (hw : StrsAt w wq wn ws) (hs : s.size ≤ maxLen) (hn : True) (ha : ∀ v ∈ a, v.1.size ≤ 40 ∧ In64 v.2) :
    Calls Tryd.prog 64 #[.agg #[.int .i64 5, .int .i64 n, .string s], .slice q m c, .slice wq wn wc] w (MadeEV (putV 5 n s a ws) w) := by
  obtain rfl : m = 1 := hm
  have HB := Lib.hid (show Below w.heap.size w ((w.alloc (.cells #[.int .i64 5, .int .i64 n, .string s] 80)).alloc (.cells #[.string ⟨#[]⟩, .int .i64 0] 108)) from below_alloc (below_alloc (Below.refl _ _) _) _)
  obtain ⟨b, off, rfl, cs⟩ := evs_cells h HB.out (by decide)
  obtain ⟨x0, hx0⟩ : ∃ x, keyAt a 0 = x := ⟨_, rfl⟩
  have k0 := (cs 0 (by decide)).1
  rw [hx0] at k0
  simp at k0
  have HR := Lib.hid (show putV 5 n s a ws = (ByteArray.empty, (x0.size : Int)) by rw [← hx0]; rfl)
  have s0 : x0.size ≤ 40 := by rw [← hx0]; exact (ev0_le ha 0).1
  clear cs h hw HB hx0
  go_enter Tryd.func64, Tryd.ntmps64
  go_wp2
  refine bodyPost_ret (v := .agg #[.string ⟨#[]⟩, .int .i64 (x0.size : Int)]) ?h1 rfl ?h2
  case h1 => simp [results, Tryd.results64, go_sem]
  case h2 => exact ev_is HR.out (below_alloc (below_alloc (Below.refl _ _) _) _)

set_option maxHeartbeats 4000000 in
theorem l3put_6 (n : Int) (s : ByteArray) (q : Option Addr) (m c : Nat) (a : Recs) (wq : Option Addr) (wn wc : Nat) (ws : Strs) (w : World) (h : RecsAt w q m a) (hm : m = (takesB 6).size) (hw : StrsAt w wq wn ws) (hs : s.size ≤ maxLen) (hn : True) (ha : ∀ v ∈ a, v.1.size ≤ 40 ∧ In64 v.2) :
    Calls Tryd.prog 64 #[.agg #[.int .i64 6, .int .i64 n, .string s], .slice q m c, .slice wq wn wc] w (MadeEV (putV 6 n s a ws) w) := by
  obtain rfl : m = 1 := hm
  have HB := Lib.hid (show Below w.heap.size w ((w.alloc (.cells #[.int .i64 6, .int .i64 n, .string s] 80)).alloc (.cells #[.string ⟨#[]⟩, .int .i64 0] 108)) from below_alloc (below_alloc (Below.refl _ _) _) _)
  obtain ⟨b, off, rfl, cs⟩ := evs_cells h HB.out (by decide)
  obtain ⟨x0, hx0⟩ : ∃ x, keyAt a 0 = x := ⟨_, rfl⟩
  have k0 := (cs 0 (by decide)).1
  rw [hx0] at k0
  simp at k0
  have HX := Lib.hid (show Row ((w.alloc (.cells #[.int .i64 6, .int .i64 n, .string s] 80)).alloc (.cells #[.string ⟨#[]⟩, .int .i64 0] 108)) (w.heap.size + 1) 108 #[.string ⟨#[]⟩, .int .i64 0] from by
    have := Row.new (w.alloc (.cells #[.int .i64 6, .int .i64 n, .string s] 80)) 108 #[.string ⟨#[]⟩, .int .i64 0]
    simpa using this)
  have HR := Lib.hid (show putV 6 n s a ws = (ByteArray.empty, numI x0) by rw [← hx0]; rfl)
  have s0 : x0.size ≤ maxLen := by rw [← hx0]; have := (ev0_le ha 0).1; unfold evAt at this; unfold keyAt maxLen; omega
  obtain ⟨z, hz⟩ : ∃ z, numI x0 = z := ⟨_, rfl⟩
  have HZ := Lib.hid (show (numD x0.data.toList).getD 0 = z from hz)
  rw [hz] at HR
  clear cs h hw hx0 hz
  go_enter Tryd.func64, Tryd.ntmps64
  go_wp2_with fail
  refine (l1num_any x0 _ s0).mono ?_
  rintro e w2 ⟨rfl, hB2⟩
  rw [HZ.out]
  have HX := Lib.hid (HX.out.keep hB2)
  have HB := Lib.hid (below_via HB.out hB2)
  have y0 := HX.out.cell (j := 0) (by simp)
  have y1 := HX.out.cell (j := 1) (by simp)
  have f0 := HX.out.free 0
  have f1 := HX.out.free 1
  simp at y0 y1
  clear hB2
  go_wp2
  have hbF := (HX.out.set 0 (.string ⟨#[]⟩)).set 1 (.int .i64 z)
  unfold Row at hbF
  refine bodyPost_ret (v := .agg #[.string ⟨#[]⟩, .int .i64 z]) ?h1 rfl ?h2
  case h1 => simp [results, Tryd.results64, go_sem, World.cell?, hbF]
  case h2 => exact ev_is HR.out ((HB.out.setCell (by simp) _).setCell (by simp) _)

set_option maxHeartbeats 4000000 in
theorem l3put_7 (n : Int) (s : ByteArray) (q : Option Addr) (m c : Nat) (a : Recs) (wq : Option Addr) (wn wc : Nat) (ws : Strs) (w : World) (h : RecsAt w q m a) (hm : m = (takesB 7).size) (hw : StrsAt w wq wn ws) (hs : s.size ≤ maxLen) (hn : True) (ha : ∀ v ∈ a, v.1.size ≤ 40 ∧ In64 v.2) :
    Calls Tryd.prog 64 #[.agg #[.int .i64 7, .int .i64 n, .string s], .slice q m c, .slice wq wn wc] w (MadeEV (putV 7 n s a ws) w) := by
  obtain rfl : m = 1 := hm
  have HB := Lib.hid (show Below w.heap.size w ((w.alloc (.cells #[.int .i64 7, .int .i64 n, .string s] 80)).alloc (.cells #[.string ⟨#[]⟩, .int .i64 0] 108)) from below_alloc (below_alloc (Below.refl _ _) _) _)
  obtain ⟨b, off, rfl, cs⟩ := evs_cells h HB.out (by decide)
  obtain ⟨x0, hx0⟩ : ∃ x, numAt a 0 = x := ⟨_, rfl⟩
  have k0 := (cs 0 (by decide)).2
  rw [hx0] at k0
  simp at k0
  have HX := Lib.hid (show Row ((w.alloc (.cells #[.int .i64 7, .int .i64 n, .string s] 80)).alloc (.cells #[.string ⟨#[]⟩, .int .i64 0] 108)) (w.heap.size + 1) 108 #[.string ⟨#[]⟩, .int .i64 0] from by
    have := Row.new (w.alloc (.cells #[.int .i64 7, .int .i64 n, .string s] 80)) 108 #[.string ⟨#[]⟩, .int .i64 0]
    simpa using this)
  have HR := Lib.hid (show putV 7 n s a ws = (decB x0, 0) by rw [← hx0]; rfl)
  have s0 : In64 x0 := by rw [← hx0]; exact (ev0_le ha 0).2
  obtain ⟨z, hz⟩ : ∃ z, decB x0 = z := ⟨_, rfl⟩
  have HZ := Lib.hid hz
  rw [hz] at HR
  unfold In64 at s0
  clear cs h hw hx0 hz
  go_enter Tryd.func64, Tryd.ntmps64
  go_wp2_with fail
  refine (l1dec_any x0 s0.1 (by omega) _).mono ?_
  rintro e w2 ⟨rfl, hB2⟩
  rw [HZ.out]
  have HX := Lib.hid (HX.out.keep hB2)
  have HB := Lib.hid (below_via HB.out hB2)
  have y0 := HX.out.cell (j := 0) (by simp)
  have y1 := HX.out.cell (j := 1) (by simp)
  have f0 := HX.out.free 0
  have f1 := HX.out.free 1
  simp at y0 y1
  clear hB2
  go_wp2
  have hbF := (HX.out.set 0 (.string z)).set 1 (.int .i64 0)
  unfold Row at hbF
  refine bodyPost_ret (v := .agg #[.string z, .int .i64 0]) ?h1 rfl ?h2
  case h1 => simp [results, Tryd.results64, go_sem, World.cell?, hbF]
  case h2 => exact ev_is HR.out ((HB.out.setCell (by simp) _).setCell (by simp) _)

set_option maxHeartbeats 4000000 in
theorem l3put_12 (n : Int) (s : ByteArray) (q : Option Addr) (m c : Nat) (a : Recs) (wq : Option Addr) (wn wc : Nat) (ws : Strs) (w : World) (h : RecsAt w q m a) (hm : m = (takesB 12).size) (hw : StrsAt w wq wn ws) (hs : s.size ≤ maxLen) (hn : True) (ha : ∀ v ∈ a, v.1.size ≤ 40 ∧ In64 v.2) :
    Calls Tryd.prog 64 #[.agg #[.int .i64 12, .int .i64 n, .string s], .slice q m c, .slice wq wn wc] w (MadeEV (putV 12 n s a ws) w) := by
  obtain rfl : m = 2 := hm
  have HB := Lib.hid (show Below w.heap.size w ((w.alloc (.cells #[.int .i64 12, .int .i64 n, .string s] 80)).alloc (.cells #[.string ⟨#[]⟩, .int .i64 0] 108)) from below_alloc (below_alloc (Below.refl _ _) _) _)
  obtain ⟨b, off, rfl, cs⟩ := evs_cells h HB.out (by decide)
  obtain ⟨x0, hx0⟩ : ∃ x, keyAt a 0 = x := ⟨_, rfl⟩
  have k0 := (cs 0 (by decide)).1
  rw [hx0] at k0
  obtain ⟨x1, hx1⟩ : ∃ x, keyAt a 1 = x := ⟨_, rfl⟩
  have k1 := (cs 1 (by decide)).1
  rw [hx1] at k1
  simp at k0 k1
  have s0 : x0.size ≤ 40 := by rw [← hx0]; exact (ev0_le ha 0).1
  have s1 : x1.size ≤ 40 := by rw [← hx1]; exact (ev0_le ha 1).1
  by_cases hq : x0 = x1
  · have HR := Lib.hid (show putV 12 n s a ws = (ByteArray.empty, truthI true) by
      show (ByteArray.empty, truthI (decide (keyAt a 0 = keyAt a 1))) = _
      rw [hx0, hx1, decide_eq_true hq])
    have hq2 : (x0.toList == x1.toList) = true := ba_eqv hq
    clear cs h hw HB hx0 hx1 hq
    go_enter Tryd.func64, Tryd.ntmps64
    go_wp2_with fail
    go_region_with (go_at_call 76; refine (l3truth_any true _).mono ?_; rintro e w1 ⟨rfl, rfl⟩)
    all_goals (
      go_wp2
      refine bodyPost_ret (v := .agg #[.string ⟨#[]⟩, .int .i64 (truthI true)]) ?h1 rfl ?h2
      case h1 => simp [results, Tryd.results64, go_sem]
      case h2 => exact ev_is HR.out (below_alloc (below_alloc (Below.refl _ _) _) _).drew)
  · have HR := Lib.hid (show putV 12 n s a ws = (ByteArray.empty, truthI false) by
      show (ByteArray.empty, truthI (decide (keyAt a 0 = keyAt a 1))) = _
      rw [hx0, hx1, decide_eq_false hq])
    have hq2 : (x0.toList == x1.toList) = false := ba_nev hq
    clear cs h hw HB hx0 hx1 hq
    go_enter Tryd.func64, Tryd.ntmps64
    go_wp2_with fail
    go_region_with (go_at_call 76; refine (l3truth_any false _).mono ?_; rintro e w1 ⟨rfl, rfl⟩)
    all_goals (
      go_wp2
      refine bodyPost_ret (v := .agg #[.string ⟨#[]⟩, .int .i64 (truthI false)]) ?h1 rfl ?h2
      case h1 => simp [results, Tryd.results64, go_sem]
      case h2 => exact ev_is HR.out (below_alloc (below_alloc (Below.refl _ _) _) _).drew)

set_option maxHeartbeats 4000000 in
theorem l3put_8 (n : Int) (s : ByteArray) (q : Option Addr) (m c : Nat) (a : Recs) (wq : Option Addr) (wn wc : Nat) (ws : Strs) (w : World) (h : RecsAt w q m a) (hm : m = (takesB 8).size) (hw : StrsAt w wq wn ws) (hs : s.size ≤ maxLen) (hn : True) (ha : ∀ v ∈ a, v.1.size ≤ 40 ∧ In64 v.2) :
    Calls Tryd.prog 64 #[.agg #[.int .i64 8, .int .i64 n, .string s], .slice q m c, .slice wq wn wc] w (MadeEV (putV 8 n s a ws) w) := by
  obtain rfl : m = 2 := hm
  have HB := Lib.hid (show Below w.heap.size w ((w.alloc (.cells #[.int .i64 8, .int .i64 n, .string s] 80)).alloc (.cells #[.string ⟨#[]⟩, .int .i64 0] 108)) from below_alloc (below_alloc (Below.refl _ _) _) _)
  obtain ⟨b, off, rfl, cs⟩ := evs_cells h HB.out (by decide)
  obtain ⟨x0, hx0⟩ : ∃ x, numAt a 0 = x := ⟨_, rfl⟩
  have k0 := (cs 0 (by decide)).2
  rw [hx0] at k0
  obtain ⟨x1, hx1⟩ : ∃ x, numAt a 1 = x := ⟨_, rfl⟩
  have k1 := (cs 1 (by decide)).2
  rw [hx1] at k1
  simp at k0 k1
  obtain ⟨z, hz⟩ : ∃ z, twoI 8 x0 x1 = z := ⟨_, rfl⟩
  have HR := Lib.hid (show putV 8 n s a ws = (ByteArray.empty, z) by rw [← hz, ← hx0, ← hx1]; rfl)
  have HT := Lib.hid (show ∀ w, Calls Tryd.prog 77 #[.int .i64 8, .int .i64 x0, .int .i64 x1] w (fun e w' => e = .returned (.int .i64 z) ∧ w' = w) from fun w => by
    have := l3two_any 8 x0 x1 w (by omega)
    rw [hz] at this
    exact this)
  clear cs h hw HB hx0 hx1 hz
  go_enter Tryd.func64, Tryd.ntmps64
  go_wp2_with fail
  go_region_with (go_at_call 77; refine (HT.out _).mono ?_; rintro e w1 ⟨rfl, rfl⟩)
  all_goals (
    go_wp2
    refine bodyPost_ret (v := .agg #[.string ⟨#[]⟩, .int .i64 z]) ?h1 rfl ?h2
    case h1 => simp [results, Tryd.results64, go_sem]
    case h2 => exact ev_is HR.out (below_alloc (below_alloc (Below.refl _ _) _) _).drew)

set_option maxHeartbeats 4000000 in
theorem l3put_9 (n : Int) (s : ByteArray) (q : Option Addr) (m c : Nat) (a : Recs) (wq : Option Addr) (wn wc : Nat) (ws : Strs) (w : World) (h : RecsAt w q m a) (hm : m = (takesB 9).size) (hw : StrsAt w wq wn ws) (hs : s.size ≤ maxLen) (hn : True) (ha : ∀ v ∈ a, v.1.size ≤ 40 ∧ In64 v.2) :
    Calls Tryd.prog 64 #[.agg #[.int .i64 9, .int .i64 n, .string s], .slice q m c, .slice wq wn wc] w (MadeEV (putV 9 n s a ws) w) := by
  obtain rfl : m = 2 := hm
  have HB := Lib.hid (show Below w.heap.size w ((w.alloc (.cells #[.int .i64 9, .int .i64 n, .string s] 80)).alloc (.cells #[.string ⟨#[]⟩, .int .i64 0] 108)) from below_alloc (below_alloc (Below.refl _ _) _) _)
  obtain ⟨b, off, rfl, cs⟩ := evs_cells h HB.out (by decide)
  obtain ⟨x0, hx0⟩ : ∃ x, numAt a 0 = x := ⟨_, rfl⟩
  have k0 := (cs 0 (by decide)).2
  rw [hx0] at k0
  obtain ⟨x1, hx1⟩ : ∃ x, numAt a 1 = x := ⟨_, rfl⟩
  have k1 := (cs 1 (by decide)).2
  rw [hx1] at k1
  simp at k0 k1
  obtain ⟨z, hz⟩ : ∃ z, twoI 9 x0 x1 = z := ⟨_, rfl⟩
  have HR := Lib.hid (show putV 9 n s a ws = (ByteArray.empty, z) by rw [← hz, ← hx0, ← hx1]; rfl)
  have HT := Lib.hid (show ∀ w, Calls Tryd.prog 77 #[.int .i64 9, .int .i64 x0, .int .i64 x1] w (fun e w' => e = .returned (.int .i64 z) ∧ w' = w) from fun w => by
    have := l3two_any 9 x0 x1 w (by omega)
    rw [hz] at this
    exact this)
  clear cs h hw HB hx0 hx1 hz
  go_enter Tryd.func64, Tryd.ntmps64
  go_wp2_with fail
  go_region_with (go_at_call 77; refine (HT.out _).mono ?_; rintro e w1 ⟨rfl, rfl⟩)
  all_goals (
    go_wp2
    refine bodyPost_ret (v := .agg #[.string ⟨#[]⟩, .int .i64 z]) ?h1 rfl ?h2
    case h1 => simp [results, Tryd.results64, go_sem]
    case h2 => exact ev_is HR.out (below_alloc (below_alloc (Below.refl _ _) _) _).drew)

set_option maxHeartbeats 4000000 in
theorem l3put_10 (n : Int) (s : ByteArray) (q : Option Addr) (m c : Nat) (a : Recs) (wq : Option Addr) (wn wc : Nat) (ws : Strs) (w : World) (h : RecsAt w q m a) (hm : m = (takesB 10).size) (hw : StrsAt w wq wn ws) (hs : s.size ≤ maxLen) (hn : True) (ha : ∀ v ∈ a, v.1.size ≤ 40 ∧ In64 v.2) :
    Calls Tryd.prog 64 #[.agg #[.int .i64 10, .int .i64 n, .string s], .slice q m c, .slice wq wn wc] w (MadeEV (putV 10 n s a ws) w) := by
  obtain rfl : m = 2 := hm
  have HB := Lib.hid (show Below w.heap.size w ((w.alloc (.cells #[.int .i64 10, .int .i64 n, .string s] 80)).alloc (.cells #[.string ⟨#[]⟩, .int .i64 0] 108)) from below_alloc (below_alloc (Below.refl _ _) _) _)
  obtain ⟨b, off, rfl, cs⟩ := evs_cells h HB.out (by decide)
  obtain ⟨x0, hx0⟩ : ∃ x, numAt a 0 = x := ⟨_, rfl⟩
  have k0 := (cs 0 (by decide)).2
  rw [hx0] at k0
  obtain ⟨x1, hx1⟩ : ∃ x, numAt a 1 = x := ⟨_, rfl⟩
  have k1 := (cs 1 (by decide)).2
  rw [hx1] at k1
  simp at k0 k1
  obtain ⟨z, hz⟩ : ∃ z, twoI 10 x0 x1 = z := ⟨_, rfl⟩
  have HR := Lib.hid (show putV 10 n s a ws = (ByteArray.empty, z) by rw [← hz, ← hx0, ← hx1]; rfl)
  have HT := Lib.hid (show ∀ w, Calls Tryd.prog 77 #[.int .i64 10, .int .i64 x0, .int .i64 x1] w (fun e w' => e = .returned (.int .i64 z) ∧ w' = w) from fun w => by
    have := l3two_any 10 x0 x1 w (by omega)
    rw [hz] at this
    exact this)
  clear cs h hw HB hx0 hx1 hz
  go_enter Tryd.func64, Tryd.ntmps64
  go_wp2_with fail
  go_region_with (go_at_call 77; refine (HT.out _).mono ?_; rintro e w1 ⟨rfl, rfl⟩)
  all_goals (
    go_wp2
    refine bodyPost_ret (v := .agg #[.string ⟨#[]⟩, .int .i64 z]) ?h1 rfl ?h2
    case h1 => simp [results, Tryd.results64, go_sem]
    case h2 => exact ev_is HR.out (below_alloc (below_alloc (Below.refl _ _) _) _).drew)

set_option maxHeartbeats 4000000 in
theorem l3put_11 (n : Int) (s : ByteArray) (q : Option Addr) (m c : Nat) (a : Recs) (wq : Option Addr) (wn wc : Nat) (ws : Strs) (w : World) (h : RecsAt w q m a) (hm : m = (takesB 11).size) (hw : StrsAt w wq wn ws) (hs : s.size ≤ maxLen) (hn : True) (ha : ∀ v ∈ a, v.1.size ≤ 40 ∧ In64 v.2) :
    Calls Tryd.prog 64 #[.agg #[.int .i64 11, .int .i64 n, .string s], .slice q m c, .slice wq wn wc] w (MadeEV (putV 11 n s a ws) w) := by
  obtain rfl : m = 2 := hm
  have HB := Lib.hid (show Below w.heap.size w ((w.alloc (.cells #[.int .i64 11, .int .i64 n, .string s] 80)).alloc (.cells #[.string ⟨#[]⟩, .int .i64 0] 108)) from below_alloc (below_alloc (Below.refl _ _) _) _)
  obtain ⟨b, off, rfl, cs⟩ := evs_cells h HB.out (by decide)
  obtain ⟨x0, hx0⟩ : ∃ x, numAt a 0 = x := ⟨_, rfl⟩
  have k0 := (cs 0 (by decide)).2
  rw [hx0] at k0
  obtain ⟨x1, hx1⟩ : ∃ x, numAt a 1 = x := ⟨_, rfl⟩
  have k1 := (cs 1 (by decide)).2
  rw [hx1] at k1
  simp at k0 k1
  obtain ⟨z, hz⟩ : ∃ z, twoI 11 x0 x1 = z := ⟨_, rfl⟩
  have HR := Lib.hid (show putV 11 n s a ws = (ByteArray.empty, z) by rw [← hz, ← hx0, ← hx1]; rfl)
  have HT := Lib.hid (show ∀ w, Calls Tryd.prog 77 #[.int .i64 11, .int .i64 x0, .int .i64 x1] w (fun e w' => e = .returned (.int .i64 z) ∧ w' = w) from fun w => by
    have := l3two_any 11 x0 x1 w (by omega)
    rw [hz] at this
    exact this)
  clear cs h hw HB hx0 hx1 hz
  go_enter Tryd.func64, Tryd.ntmps64
  go_wp2_with fail
  go_region_with (go_at_call 77; refine (HT.out _).mono ?_; rintro e w1 ⟨rfl, rfl⟩)
  all_goals (
    go_wp2
    refine bodyPost_ret (v := .agg #[.string ⟨#[]⟩, .int .i64 z]) ?h1 rfl ?h2
    case h1 => simp [results, Tryd.results64, go_sem]
    case h2 => exact ev_is HR.out (below_alloc (below_alloc (Below.refl _ _) _) _).drew)

/-- Every instruction that puts something. -/
theorem l3put_any (op : Nat) (n : Int) (s : ByteArray) (q : Option Addr) (m c : Nat) (a : Recs) (wq : Option Addr) (wn wc : Nat) (ws : Strs) (w : World) (h1 : 1 ≤ op) (h2 : op ≤ 12) (h : RecsAt w q m a) (hm : m = (takesB op).size) (hw : StrsAt w wq wn ws) (hs : s.size ≤ maxLen) (hn : op = 1 → 0 ≤ n) (ha : ∀ v ∈ a, v.1.size ≤ 40 ∧ In64 v.2) :
    Calls Tryd.prog 64 #[.agg #[.int .i64 op, .int .i64 n, .string s], .slice q m c, .slice wq wn wc] w (MadeEV (putV op n s a ws) w) := by
  obtain rfl | rfl | rfl | rfl | rfl | rfl | rfl | rfl | rfl | rfl | rfl | rfl : op = 1 ∨ op = 2 ∨ op = 3 ∨ op = 4 ∨ op = 5 ∨ op = 6 ∨ op = 7 ∨ op = 8 ∨ op = 9 ∨ op = 10 ∨ op = 11 ∨ op = 12 := by omega
  · exact l3put_1 n s q m c a wq wn wc ws w h hm hw hs (hn rfl)
  · exact l3put_2 n s q m c a wq wn wc ws w h hm hw hs trivial
  · exact l3put_3 n s q m c a wq wn wc ws w h hm hw hs trivial
  · exact l3put_4 n s q m c a wq wn wc ws w h hm hw hs trivial ha
  · exact l3put_5 n s q m c a wq wn wc ws w h hm hw hs trivial ha
  · exact l3put_6 n s q m c a wq wn wc ws w h hm hw hs trivial ha
  · exact l3put_7 n s q m c a wq wn wc ws w h hm hw hs trivial ha
  · exact l3put_8 n s q m c a wq wn wc ws w h hm hw hs trivial ha
  · exact l3put_9 n s q m c a wq wn wc ws w h hm hw hs trivial ha
  · exact l3put_10 n s q m c a wq wn wc ws w h hm hw hs trivial ha
  · exact l3put_11 n s q m c a wq wn wc ws w h hm hw hs trivial ha
  · exact l3put_12 n s q m c a wq wn wc ws w h hm hw hs trivial ha
end Go.Proofs.YtjofbeokkainlaaDoor
namespace Go.Proofs.YtjofbeokkainlaaDoor
open Go.ChangeShapes Go.WideShapes Go.ChangeAt Go.RowKit
set_option linter.unusedVariables false
set_option maxRecDepth 100000

def FineI (l : Instrs) : Prop := ∀ x ∈ l, In64 x.2.1 ∧ x.2.2.size ≤ 25
theorem fine_app {l m : Instrs} (h : FineI l) (k : FineI m) : FineI (l ++ m) := fun x hx => by
  rcases List.mem_append.1 hx with e | e
  · exact h x e
  · exact k x e
theorem fine_nil : FineI [] := fun x hx => by cases hx
theorem fine_cons {x : Int × Int × ByteArray} {l : Instrs} (h1 : In64 x.2.1) (h2 : x.2.2.size ≤ 25) (h : FineI l) : FineI (x :: l) := fun y hy => by
  rcases List.mem_cons.1 hy with e | e
  · subst e; exact ⟨h1, h2⟩
  · exact h y e
theorem wf_in64 {n : Int} (h : (Lit.int .i64 n).wf = true) : In64 n := by
  exact bounds_i64 h
theorem fine_num {op n : Int} {l : Instrs} (h1 : In64 n) (h : FineI l) : FineI ((op, n, ByteArray.empty) :: l) := fine_cons h1 (Nat.zero_le _) h
theorem fine_txt {op : Int} {s : ByteArray} {l : Instrs} (h1 : s.size ≤ 25) (h : FineI l) : FineI ((op, 0, s) :: l) := fine_cons (show In64 0 from ⟨by decide, by decide⟩) h1 h
structure DrawnI (w wr : World) (r : Nat) (a : Option Addr) (len cap : Nat) (v : Value) (n : Nat) (W : Instrs) : Prop where
  own : wr.ownsRow w.heap.size 80 3 v n (cellsI W)
  size : W.length = n
  went : Went w r a len cap wr
  fine : FineI W
theorem went_row {w w1 w2 : World} {r : Nat} {a : Option Addr} {len cap : Nat} {row : Option Nat} (h : Went w r a len cap w1) (hg : w1.grownBy w2 row) (hr : r < w.heap.size) (hrow : ∀ k, row = some k → w.heap.size ≤ k) : Went w r a len cap w2 := by
  have hne : ∀ i, i < w.heap.size → some i ≠ row := fun i hi e => by have := hrow i e.symm; omega
  refine ⟨⟨hg.os.trans h.grown.os, hg.tape.trans h.grown.tape, hg.output.trans h.grown.output, Nat.le_trans h.grown.size hg.size, fun i hi hn => ?_⟩, ?_⟩
  · exact (hg.block i (Nat.lt_of_lt_of_le hi h.grown.size) (hne i hi)).trans (h.grown.block i hi hn)
  · refine h.rdr.below ⟨hg.os, hg.tape, hg.output, hg.size, fun k hk => ?_⟩
    exact hg.block k (Nat.lt_of_lt_of_le (by omega) h.grown.size) (hne k (by omega))
theorem own_wentI {w w1 : World} {base r : Nat} {a : Option Addr} {len cap : Nat} {e : TypeId} {size : Nat} {v : Value} {n : Nat} {xs : List Value} (h : w.ownsRow base e size v n xs) (hw : Went w r a len cap w1) (hr : r < base) : w1.ownsRow base e size v n xs :=
  h.kept hw.grown (by
    by_cases hv : v.ownBlock = none
    · exact .inl hv
    · refine .inr fun he => ?_
      have := (h.lt r he).1
      omega)
theorem DrawnI.trans {w wr w1 : World} {r : Nat} {a : Option Addr} {len cap : Nat} {v : Value} {n : Nat} {W : Instrs} (h : DrawnI w wr r a len cap v n W) (hr : r < w.heap.size) (hw : Went wr r a len cap w1) : DrawnI w w1 r a len cap v n W :=
  ⟨own_wentI h.own hw hr, h.size, h.went.trans hw, h.fine⟩
theorem DrawnI.alloc {w wr : World} {r : Nat} {a : Option Addr} {len cap : Nat} {v : Value} {n : Nat} {W : Instrs} (h : DrawnI w wr r a len cap v n W) (o : Obj) : DrawnI w (wr.alloc o) r a len cap v n W :=
  ⟨h.own.alloc o, h.size, h.went.alloc o, h.fine⟩
theorem DrawnI.add {w wr w1 : World} {r : Nat} {a : Option Addr} {len cap : Nat} {v v' : Value} {n m : Nat} {W L : Instrs} (h : DrawnI w wr r a len cap v n W) (hr : r < w.heap.size) (hL : FineI L) (hm : L.length = m)
    (hown : w1.ownsRow w.heap.size 80 3 v' (n + m) (cellsI W ++ cellsI L)) (hg : wr.grownBy w1 v.ownBlock) : DrawnI w w1 r a len cap v' (n + m) (W ++ L) :=
  ⟨by rw [cellsI_app]; exact hown, by rw [List.length_append, h.size, hm], went_row h.went hg hr (fun k hk => (h.own.lt k hk).1), fine_app h.fine hL⟩
theorem own_src {w : World} {base n cp : Nat} {q : Option Addr} {l : Instrs} (h : w.ownsRow base 80 3 (.slice q n cp) n (cellsI l)) (h0 : 0 < n) (hn : l.length = n) :
    ∃ g, q = some ⟨g, 0, none⟩ ∧ base ≤ g ∧ ∀ j u, (cellsI l)[j]? = some u → w.cell? ((⟨g, 0, none⟩ : Addr).add j) = some u := by
  obtain ⟨g, cur, rfl, hb, hr, hs⟩ := own_insrow h h0
  refine ⟨g, rfl, hb, fun j u hj => ?_⟩
  have hlt : j < n * 3 := by
    have := (List.getElem?_eq_some_iff.1 hj).1
    rw [cellsI_len, hn] at this
    exact this
  have := h.cellAt j hlt
  rw [hj] at this
  have e : ((⟨g, 0, none⟩ : Addr).add j) = ⟨g, j, none⟩ := by simp [Addr.add]; omega
  rw [e]; exact this
theorem cellsI_one : ∀ l : Instrs, ∀ u ∈ cellsI l, u.oneCell' = true
  | [], u, hu => by cases hu
  | x :: t, u, hu => by
    rcases List.mem_cons.1 hu with e | hu
    · subst e; rfl
    rcases List.mem_cons.1 hu with e | hu
    · subst e; rfl
    rcases List.mem_cons.1 hu with e | hu
    · subst e; rfl
    exact cellsI_one t u hu
theorem lit_new (w : World) (cs : Array Value) (t : TypeId) : ∀ j u, cs.toList[j]? = some u → (w.alloc (.cells cs t)).cell? ((⟨w.heap.size, 0, none⟩ : Addr).add j) = some u := by
  intro j u hj
  have e : ((⟨w.heap.size, 0, none⟩ : Addr).add j) = ⟨w.heap.size, j, none⟩ := by simp [Addr.add]; omega
  rw [e]
  have h := Row.new w t cs
  unfold Row at h
  unfold World.cell?
  rw [h]
  simpa using hj
/-- The end of a method that draws instructions into a row of its own. -/
def RdIns (lo hi : Nat) (w : World) (r : Nat) (a : Option Addr) (len cap : Nat) (e : Ending) (w' : World) : Prop :=
  ∃ (q : Option Addr) (n cp : Nat) (W : Instrs), e = .returned (.slice q n cp) ∧ lo ≤ n ∧ n ≤ hi ∧ DrawnI w w' r a len cap (.slice q n cp) n W
theorem RdIns.lit {lo hi : Nat} {w w1 : World} {r : Nat} {a : Option Addr} {len cap : Nat} (hw : Went w r a len cap w1) (cs : Array Value) (n : Nat) (W : Instrs) (hl : lo ≤ n) (hh : n ≤ hi) (h4 : n ≤ 4) (hc : cs.toList = cellsI W) (hn : W.length = n) (hf : FineI W) :
    RdIns lo hi w r a len cap (.returned (.slice (some ⟨w1.heap.size, 0, none⟩) n n)) (w1.alloc (.cells cs 80)) := by
  refine ⟨_, _, _, W, rfl, hl, hh, ?_, hn, hw.alloc _, hf⟩
  have := World.ownsRow_lit (base := w.heap.size) (e := 80) (size := 3) w1 cs n hw.size (by unfold maxLen; omega) (by
    have := congrArg List.length hc
    rw [cellsI_len, hn] at this
    simpa using this)
  rw [hc] at this
  exact this
end Go.Proofs.YtjofbeokkainlaaDoor
namespace Go.Proofs.YtjofbeokkainlaaDoor
open Go.ChangeShapes Go.WideShapes Go.ChangeAt Go.RowKit
set_option linter.unusedVariables false
set_option maxRecDepth 100000

theorem in_small {n : Int} (h0 : -1000 ≤ n) (h1 : n ≤ 1000) : In64 n := ⟨by omega, by omega⟩
set_option maxHeartbeats 4000000 in
theorem textof_any (w : World) (r : Nat) (a : Option Addr) (len cap : Nat) (h : Rdr w r a len cap) :
    Calls Tryd.prog 36 #[.pointer (some ⟨r, 0, none⟩)] w (RdIns 1 4 w r a len cap) := by
  have HG := Lib.hid (Went.refl h)
  clear h
  go_enter Tryd.func36, Tryd.ntmps36
  go_wp2_with fail
  refine (below_any _ _ _ _ _ _ HG.out.rdr (by decide) (by decide)).mono ?_
  rintro e w1 ⟨⟨x, hx1, hx2, rfl⟩, hw⟩
  have HG := Lib.hid (HG.out.trans hw)
  clear hw
  by_cases h0 : x = 0
  · subst h0
    go_wp2_with fail
    refine (word1_any _ _ _ _ _ HG.out.rdr).mono ?_
    rintro e w2 ⟨⟨s, hs, rfl⟩, hw⟩
    have HG := Lib.hid (HG.out.trans hw)
    have HS := Lib.hid hs
    clear hw hs
    go_wp2
    go_ret
    exact RdIns.lit HG.out _ 1 [(2, 0, s)] (by decide) (by decide) (by decide) rfl rfl (fine_txt (Nat.le_trans HS.out (by decide)) fine_nil)
  have e0 : ((x : Int) == 0) = false := by rw [beq_eq_false_iff_ne]; exact h0
  by_cases h1 : x = 1
  · subst h1
    clear e0 h0
    go_wp2_with fail
    refine (below_any _ _ _ _ _ _ HG.out.rdr (by decide) (by decide)).mono ?_
    rintro e w2 ⟨⟨y, hy1, hy2, rfl⟩, hw⟩
    have HG := Lib.hid (HG.out.trans hw)
    have HY := Lib.hid (in_small (n := y) (by omega) (by omega))
    clear hw
    go_wp2
    go_ret
    exact RdIns.lit HG.out _ 3 [(2, 0, ⟨#[107]⟩), (1, y, ByteArray.empty), (4, 0, ByteArray.empty)] (by decide) (by decide) (by decide) rfl rfl (fine_txt (by decide) (fine_num HY.out (fine_num (in_small (by decide) (by decide)) fine_nil)))
  have e1 : ((x : Int) == 1) = false := by rw [beq_eq_false_iff_ne]; exact h1
  by_cases h2 : x = 2
  · subst h2
    clear e0 h0 e1 h1
    go_wp2_with fail
    refine (below_any _ _ _ _ _ _ HG.out.rdr (by decide) (by decide)).mono ?_
    rintro e w2 ⟨⟨y, hy1, hy2, rfl⟩, hw⟩
    have HG := Lib.hid (HG.out.trans hw)
    have HY := Lib.hid (in_small (n := y) (by omega) (by omega))
    clear hw
    go_wp2
    go_ret
    exact RdIns.lit HG.out _ 3 [(1, y, ByteArray.empty), (5, 0, ByteArray.empty), (7, 0, ByteArray.empty)] (by decide) (by decide) (by decide) rfl rfl (fine_num HY.out (fine_num (in_small (by decide) (by decide)) (fine_num (in_small (by decide) (by decide)) fine_nil)))
  have e2 : ((x : Int) == 2) = false := by rw [beq_eq_false_iff_ne]; exact h2
  clear h0 h1 h2
  go_wp2_with fail
  refine (below_any _ _ _ _ _ _ HG.out.rdr (by decide) (by decide)).mono ?_
  rintro e w2 ⟨⟨y, hy1, hy2, rfl⟩, hw⟩
  have HG := Lib.hid (HG.out.trans hw)
  have HY := Lib.hid (in_small (n := y) (by omega) (by omega))
  clear hw
  go_wp2
  go_ret
  exact RdIns.lit HG.out _ 1 [(1, y, ByteArray.empty)] (by decide) (by decide) (by decide) rfl rfl (fine_num HY.out fine_nil)

set_option maxHeartbeats 4000000 in
theorem numof_any (w : World) (r : Nat) (a : Option Addr) (len cap : Nat) (h : Rdr w r a len cap) :
    Calls Tryd.prog 37 #[.pointer (some ⟨r, 0, none⟩)] w (RdIns 1 4 w r a len cap) := by
  have HG := Lib.hid (Went.refl h)
  clear h
  go_enter Tryd.func37, Tryd.ntmps37
  go_wp2_with fail
  refine (below_any _ _ _ _ _ _ HG.out.rdr (by decide) (by decide)).mono ?_
  rintro e w1 ⟨⟨x, hx1, hx2, rfl⟩, hw⟩
  have HG := Lib.hid (HG.out.trans hw)
  clear hw
  by_cases h0 : x = 0
  · subst h0
    go_wp2_with fail
    refine (num_any _ _ _ _ _ HG.out.rdr).mono ?_
    rintro e w2 ⟨⟨y, hy, rfl⟩, hw⟩
    have HG := Lib.hid (HG.out.trans hw)
    have HY := Lib.hid (wf_in64 hy)
    clear hw hy
    go_wp2
    go_ret
    exact RdIns.lit HG.out _ 1 [(3, y, ByteArray.empty)] (by decide) (by decide) (by decide) rfl rfl (fine_num HY.out fine_nil)
  have e0 : ((x : Int) == 0) = false := by rw [beq_eq_false_iff_ne]; exact h0
  by_cases h1 : x = 1
  · subst h1
    clear e0 h0
    go_wp2_with fail
    refine (num_any _ _ _ _ _ HG.out.rdr).mono ?_
    rintro e w2 ⟨⟨y, hy, rfl⟩, hw⟩
    have HG := Lib.hid (HG.out.trans hw)
    have HY := Lib.hid (wf_in64 hy)
    clear hw hy
    go_wp2
    go_ret
    exact RdIns.lit HG.out _ 1 [(3, y, ByteArray.empty)] (by decide) (by decide) (by decide) rfl rfl (fine_num HY.out fine_nil)
  have e1 : ((x : Int) == 1) = false := by rw [beq_eq_false_iff_ne]; exact h1
  by_cases h2 : x = 2
  · subst h2
    clear e0 h0 e1 h1
    go_wp2_with fail
    refine (below_any _ _ _ _ _ _ HG.out.rdr (by decide) (by decide)).mono ?_
    rintro e w2 ⟨⟨y, hy1, hy2, rfl⟩, hw⟩
    have HG := Lib.hid (HG.out.trans hw)
    have HY := Lib.hid (in_small (n := y) (by omega) (by omega))
    clear hw
    go_wp2
    go_ret
    exact RdIns.lit HG.out _ 2 [(1, y, ByteArray.empty), (6, 0, ByteArray.empty)] (by decide) (by decide) (by decide) rfl rfl (fine_num HY.out (fine_num (in_small (by decide) (by decide)) fine_nil))
  have e2 : ((x : Int) == 2) = false := by rw [beq_eq_false_iff_ne]; exact h2
  by_cases h3 : x = 3
  · subst h3
    clear e0 h0 e1 h1 e2 h2
    go_wp2_with fail
    refine (below_any _ _ _ _ _ _ HG.out.rdr (by decide) (by decide)).mono ?_
    rintro e w2 ⟨⟨y, hy1, hy2, rfl⟩, hw⟩
    have HG := Lib.hid (HG.out.trans hw)
    have HY := Lib.hid (in_small (n := y) (by omega) (by omega))
    clear hw
    go_wp2_with fail
    refine (below_any _ _ _ _ _ _ HG.out.rdr (by decide) (by decide)).mono ?_
    rintro e w3 ⟨⟨z, hz1, hz2, rfl⟩, hw⟩
    have HG := Lib.hid (HG.out.trans hw)
    clear hw
    go_wp2
    go_ret
    exact RdIns.lit HG.out _ 4 [(1, 1, ByteArray.empty), (6, 0, ByteArray.empty), (3, y, ByteArray.empty), (8 + z, 0, ByteArray.empty)] (by decide) (by decide) (by decide) rfl rfl (fine_num (in_small (by decide) (by decide)) (fine_num (in_small (by decide) (by decide)) (fine_num HY.out (fine_num (in_small (by decide) (by decide)) fine_nil))))
  have e3 : ((x : Int) == 3) = false := by rw [beq_eq_false_iff_ne]; exact h3
  by_cases h4 : x = 4
  · subst h4
    clear e0 h0 e1 h1 e2 h2 e3 h3
    go_wp2
    go_ret
    exact RdIns.lit HG.out _ 3 [(1, 0, ByteArray.empty), (1, 1, ByteArray.empty), (12, 0, ByteArray.empty)] (by decide) (by decide) (by decide) rfl rfl (fine_num (in_small (by decide) (by decide)) (fine_num (in_small (by decide) (by decide)) (fine_num (in_small (by decide) (by decide)) fine_nil)))
  have e4 : ((x : Int) == 4) = false := by rw [beq_eq_false_iff_ne]; exact h4
  by_cases h5 : x = 5
  · subst h5
    clear e0 h0 e1 h1 e2 h2 e3 h3 e4 h4
    go_wp2
    go_ret
    exact RdIns.lit HG.out _ 2 [(1, 0, ByteArray.empty), (5, 0, ByteArray.empty)] (by decide) (by decide) (by decide) rfl rfl (fine_num (in_small (by decide) (by decide)) (fine_num (in_small (by decide) (by decide)) fine_nil))
  have e5 : ((x : Int) == 5) = false := by rw [beq_eq_false_iff_ne]; exact h5
  clear h0 h1 h2 h3 h4 h5
  go_wp2
  go_ret
  exact RdIns.lit HG.out _ 1 [(3, 1, ByteArray.empty)] (by decide) (by decide) (by decide) rfl rfl (fine_num (in_small (by decide) (by decide)) fine_nil)
end Go.Proofs.YtjofbeokkainlaaDoor
namespace Go.Proofs.YtjofbeokkainlaaDoor
open Go.ChangeShapes Go.WideShapes Go.ChangeAt Go.RowKit
set_option linter.unusedVariables false
set_option maxRecDepth 100000

set_option maxHeartbeats 8000000 in
theorem rprog_any (w : World) (r : Nat) (a : Option Addr) (len cap : Nat) (h : Rdr w r a len cap) :
    Calls Tryd.prog 19 #[.pointer (some ⟨r, 0, none⟩)] w (RdIns 0 26 w r a len cap) := by
  obtain ⟨i0, hi, hz0, hz1, hz2⟩ := info_parts infoInstr
  have HRL := Lib.hid h.lt
  have H0 := Lib.hid (show DrawnI w (w.alloc (.cells #[] 80)) r a len cap (.slice (some ⟨w.heap.size, 0, none⟩) 0 0) 0 [] from ⟨World.ownsRow_lit w #[] 0 (Nat.le_refl _) (Nat.zero_le _) rfl, rfl, (Went.refl h).alloc _, fine_nil⟩)
  clear h
  go_enter Tryd.func19, Tryd.ntmps19
  go_wp2_with fail
  refine (below_any _ _ _ _ _ _ H0.out.went.rdr (by decide) (by decide)).mono ?_
  rintro e w1 ⟨⟨x, hx1, hx2, rfl⟩, hw⟩
  have HD := Lib.hid (H0.out.trans HRL.out hw)
  clear hw H0
  go_wp2_with fail
  go_loopw [3, 4] (fun v i wr => ∃ (k n : Nat) (q : Option Addr) (cp : Nat) (W : Instrs), i = .int .i64 k ∧ v = .slice q n cp ∧ n + 13 * k ≤ 26 ∧ Hid (DrawnI w wr r a len cap (.slice q n cp) n W)) (fun _ i _ => (intOf i).toNat)
  case atStart => exact ⟨(1 + x).toNat, 0, _, _, [], by rw [Int.toNat_of_nonneg (by omega)], rfl, by omega, HD⟩
  case round =>
    obtain ⟨k, n, q, cp, W, rfl, rfl, hk, HS⟩ := hrel
    clear HD
    by_cases hk0 : 0 < k
    · obtain ⟨m, rfl⟩ : ∃ m, k = m + 1 := ⟨k - 1, by omega⟩
      go_wp2_with fail
      refine (textof_any _ _ _ _ _ HS.out.went.rdr).mono ?_
      rintro e wa ⟨qa, na, ca, La, rfl, hla, hha, hd⟩
      have HF := Lib.hid hd.fine
      have HZ := Lib.hid hd.size
      obtain ⟨ga, rfl, hga, hce⟩ := own_src hd.own (by omega) hd.size
      have HCE := Lib.hid hce
      have HS := Lib.hid (HS.out.trans HRL.out hd.went)
      have HO := Lib.hid HS.out.own
      clear hd hce hga
      go_wp2_with (at_builtin; (refine wpList_append_own _ rfl _ _ 35 rfl w.heap.size 80 i0 _ 3 32 Tryd.underlying35 hi hz0 hz1 hz2 rfl (by decide) _ _ _ rfl HO.out ⟨ga, 0, none⟩ na ca (cellsI La) rfl (by rw [cellsI_len, HZ.out]) HCE.out (cellsI_one _) (by unfold maxLen; omega) (by omega) HS.out.went.size ?_); intro v' w3 hown1 hgrow hnil; have HO1 := Lib.hid hown1; have HG := Lib.hid hgrow; clear hown1 hgrow hnil)
      obtain ⟨q1, cp1, rfl⟩ := own_form HO1.out
      have HS := Lib.hid (HS.out.add HRL.out HF.out HZ.out HO1.out HG.out)
      clear HO HO1 HG HCE HF HZ
      go_wp2_with fail
      refine (numof_any _ _ _ _ _ HS.out.went.rdr).mono ?_
      rintro e wb ⟨qb, nb, cb, Lb, rfl, hlb, hhb, hd⟩
      have HF := Lib.hid hd.fine
      have HZ := Lib.hid hd.size
      obtain ⟨gb, rfl, hga, hce⟩ := own_src hd.own (by omega) hd.size
      have HCE := Lib.hid hce
      have HS := Lib.hid (HS.out.trans HRL.out hd.went)
      have HO := Lib.hid HS.out.own
      clear hd hce hga
      go_wp2_with (at_builtin; (refine wpList_append_own _ rfl _ _ 35 rfl w.heap.size 80 i0 _ 3 32 Tryd.underlying35 hi hz0 hz1 hz2 rfl (by decide) _ _ _ rfl HO.out ⟨gb, 0, none⟩ nb cb (cellsI Lb) rfl (by rw [cellsI_len, HZ.out]) HCE.out (cellsI_one _) (by unfold maxLen; omega) (by omega) HS.out.went.size ?_); intro v' w3 hown1 hgrow hnil; have HO1 := Lib.hid hown1; have HG := Lib.hid hgrow; clear hown1 hgrow hnil)
      obtain ⟨q1, cp1, rfl⟩ := own_form HO1.out
      have HS := Lib.hid (HS.out.add HRL.out HF.out HZ.out HO1.out HG.out)
      clear HO HO1 HG HCE HF HZ
      go_wp2_with fail
      refine (once_any _ _ _ _ _ _ HS.out.went.rdr (by decide) (by decide)).mono ?_
      rintro e w5 ⟨⟨y, rfl⟩, hw⟩
      have HS := Lib.hid (HS.out.trans HRL.out hw)
      clear hw
      cases y
      · have HO := Lib.hid HS.out.own
        go_wp2_with (at_builtin; (refine wpList_append_own _ rfl _ _ 35 rfl w.heap.size 80 i0 _ 3 32 Tryd.underlying35 hi hz0 hz1 hz2 rfl (by decide) _ _ _ rfl (HO.out.alloc _) ⟨w5.heap.size, 0, none⟩ 1 1 [.int .i64 13, .int .i64 0, .string ⟨#[]⟩] rfl rfl (three_new _ _ _ _ _) (three_cells _ _ _) (by unfold maxLen; omega) (by omega) (Nat.le_trans HS.out.went.size (by simp)) ?_); intro v' w3 hown1 hgrow hnil; have HO1 := Lib.hid hown1; have HG := Lib.hid hgrow; clear hown1 hgrow hnil)
        obtain ⟨q1, cp1, rfl⟩ := own_form HO1.out
        have HS := Lib.hid ((HS.out.alloc _).add (L := [(13, 0, ByteArray.empty)]) HRL.out (fine_num (in_small (by decide) (by decide)) fine_nil) rfl HO1.out HG.out)
        clear HO HO1 HG
        go_roundw
        case rel => exact ⟨m, _, q1, cp1, _, by go_num, rfl, by omega, HS⟩
        case measure => simp [intOf]
      · go_wp2_with fail
        refine (numof_any _ _ _ _ _ HS.out.went.rdr).mono ?_
        rintro e wc ⟨qc, nc, cc, Lc, rfl, hlc, hhc, hd⟩
        have HF := Lib.hid hd.fine
        have HZ := Lib.hid hd.size
        obtain ⟨gc, rfl, hga, hce⟩ := own_src hd.own (by omega) hd.size
        have HCE := Lib.hid hce
        have HS := Lib.hid (HS.out.trans HRL.out hd.went)
        have HO := Lib.hid HS.out.own
        clear hd hce hga
        go_wp2_with (first | (at_builtin; (refine wpList_append_own _ rfl _ _ 35 rfl w.heap.size 80 i0 _ 3 32 Tryd.underlying35 hi hz0 hz1 hz2 rfl (by decide) _ _ _ rfl HO.out ⟨gc, 0, none⟩ nc cc (cellsI Lc) rfl (by rw [cellsI_len, HZ.out]) HCE.out (cellsI_one _) (by unfold maxLen; omega) (by omega) HS.out.went.size ?_); intro v' w3 hown1 hgrow hnil; obtain ⟨q1, cp1, rfl⟩ := own_form hown1; have HS2 := Lib.hid (HS.out.add HRL.out HF.out HZ.out hown1 hgrow); have HO2 := Lib.hid HS2.out.own; clear hown1 hgrow hnil) | (at_builtin; (refine wpList_append_own _ rfl _ _ 35 rfl w.heap.size 80 i0 _ 3 32 Tryd.underlying35 hi hz0 hz1 hz2 rfl (by decide) _ _ _ rfl (HO2.out.alloc _) ⟨w3.heap.size, 0, none⟩ 1 1 [.int .i64 14, .int .i64 0, .string ⟨#[]⟩] rfl rfl (three_new _ _ _ _ _) (three_cells _ _ _) (by unfold maxLen; omega) (by omega) (Nat.le_trans HS2.out.went.size (by simp)) ?_); intro v' w4 hown1 hgrow hnil; have HO1 := Lib.hid hown1; have HG := Lib.hid hgrow; clear hown1 hgrow hnil))
        obtain ⟨q1, cp1, rfl⟩ := own_form HO1.out
        have HS := Lib.hid ((HS2.out.alloc _).add (L := [(14, 0, ByteArray.empty)]) HRL.out (fine_num (in_small (by decide) (by decide)) fine_nil) rfl HO1.out HG.out)
        clear HO HO1 HG HO2 HS2 HF HZ HCE
        go_roundw
        case rel => exact ⟨m, _, q1, cp1, _, by go_num, rfl, by omega, HS⟩
        case measure => simp [intOf]
    · obtain rfl : k = 0 := by omega
      go_wp2
      go_ret
      exact ⟨q, n, cp, W, rfl, Nat.zero_le _, by omega, HS.out⟩
end Go.Proofs.YtjofbeokkainlaaDoor
namespace Go.Proofs.YtjofbeokkainlaaDoor
open Go.ChangeShapes Go.WideShapes Go.ChangeAt Go.RowKit
set_option linter.unusedVariables false
set_option maxRecDepth 100000

def tabNm : Array Value := #[.string ⟨#[99, 97, 116]⟩, .string ⟨#[108, 101, 110]⟩, .string ⟨#[105, 110, 116]⟩, .string ⟨#[115, 116, 114]⟩, .string ⟨#[97, 100, 100]⟩, .string ⟨#[115, 117, 98]⟩, .string ⟨#[109, 117, 108]⟩, .string ⟨#[108, 101, 115, 115]⟩, .string ⟨#[115, 97, 109, 101]⟩, .string ⟨#[101, 109, 105, 116]⟩, .string ⟨#[101, 109, 105, 116, 105, 102]⟩]
theorem tabNm_at (x : Nat) (h : x < 11) : tabNm[x]? = some (.string (textB (x + 4))) := by
  rcases (by omega : x = 0 ∨ x = 1 ∨ x = 2 ∨ x = 3 ∨ x = 4 ∨ x = 5 ∨ x = 6 ∨ x = 7 ∨ x = 8 ∨ x = 9 ∨ x = 10) with rfl | rfl | rfl | rfl | rfl | rfl | rfl | rfl | rfl | rfl | rfl <;> rfl
def MadeNames (w : World) (e : Ending) (w' : World) : Prop := e = .returned (.slice (some ⟨w.heap.size, 0, none⟩) 11 11) ∧ (∀ x, x < 11 → w'.cell? ⟨w.heap.size, x, none⟩ = some (.string (textB (x + 4)))) ∧ Below w.heap.size w w'
theorem empty_app (s : ByteArray) : ByteArray.empty ++ s = s := by
  apply ByteArray.ext
  simp
theorem app_empty {s t : ByteArray} (h : t.size = 0) : s ++ t = s := by
  have : t = ByteArray.empty := ByteArray.ext (Array.eq_empty_of_size_eq_zero h)
  rw [this]
  apply ByteArray.ext
  simp

def MadeTxtP (s : ByteArray) (w : World) (e : Ending) (w' : World) : Prop := e = .returned (.string s) ∧ Below w.heap.size w w'

end Go.Proofs.YtjofbeokkainlaaDoor
namespace Go.Proofs.YtjofbeokkainlaaDoor
open Go.ChangeShapes Go.WideShapes Go.ChangeAt Go.RowKit
set_option linter.unusedVariables false
set_option maxRecDepth 100000

theorem progTo_step (l : Instrs) (k : Nat) (h : 0 < k) : progTo l (k + 1) = progTo l k ++ ⟨#[32]⟩ ++ txAt l k := by
  show (if 0 < k then progTo l k ++ ⟨#[32]⟩ else progTo l k) ++ txAt l k = _
  rw [if_pos h]

theorem field_num (y : Nat) (h : y = 1 ∨ y = 3) : fieldB y = ⟨#[78]⟩ := by rcases h with rfl | rfl <;> rfl
theorem field_other {y : Nat} (h0 : y < 15) (h1 : y ≠ 1) (h3 : y ≠ 3) : ¬ fieldB y = ⟨#[78]⟩ := by
  rcases (by omega : y = 0 ∨ y = 2 ∨ y = 4 ∨ y = 5 ∨ y = 6 ∨ y = 7 ∨ y = 8 ∨ y = 9 ∨ y = 10 ∨ y = 11 ∨ y = 12 ∨ y = 13 ∨ y = 14) with rfl | rfl | rfl | rfl | rfl | rfl | rfl | rfl | rfl | rfl | rfl | rfl | rfl <;> decide

end Go.Proofs.YtjofbeokkainlaaDoor
namespace Go.Proofs.YtjofbeokkainlaaDoor
open Go.ChangeShapes Go.WideShapes Go.ChangeAt Go.RowKit
set_option linter.unusedVariables false
set_option maxRecDepth 100000

theorem Went.more {w w1 w2 : World} {r : Nat} {a : Option Addr} {len cap : Nat} {row : Option Nat} (h : Went w r a len cap w1) (hg : w1.grownBy w2 row) (hr : r < w.heap.size) (hrow : ∀ k, row = some k → w.heap.size ≤ k) : Went w r a len cap w2 :=
  ⟨⟨hg.os.trans h.grown.os, hg.tape.trans h.grown.tape, hg.output.trans h.grown.output, Nat.le_trans h.size hg.size, fun i hi hn => (hg.block i (Nat.lt_of_lt_of_le hi h.size) (fun e => by have := hrow i e.symm; omega)).trans (h.grown.block i hi hn)⟩,
   h.rdr.below ⟨hg.os, hg.tape, hg.output, hg.size, fun k hk => hg.block k (by have := h.rdr.lt; omega) (fun e => by have := hrow k e.symm; omega)⟩⟩
theorem own_went {w w1 : World} {base r : Nat} {a : Option Addr} {len cap : Nat} {e : TypeId} {size : Nat} {v : Value} {n : Nat} {xs : List Value} (h : w.ownsRow base e size v n xs) (hw : Went w r a len cap w1) (hr : r < base) : w1.ownsRow base e size v n xs :=
  h.kept hw.grown (by
    by_cases hv : v.ownBlock = none
    · exact .inl hv
    · refine .inr fun he => ?_
      have := (h.lt r he).1
      omega)
end Go.Proofs.YtjofbeokkainlaaDoor
