
/- What an instruction puts: the model's l3Put. Only new blocks are made. -/
import Derived.Test.YtjofbeokkainlaaMg8
import Derived.Test.YtjofbeokkainlaaMg4
import Derived.Test.YtjofbeokkainlaaMg12
import Derived.Test.YtjofbeokkainlaaMg1
namespace Go.Proofs.Ytjofbeokkainlaa
open Go.ChangeShapes Go.WideShapes Go.ChangeAt Go.RowKit
set_option linter.unusedVariables false
set_option maxRecDepth 100000

theorem l3truth_any (b : Bool) (w : World) : Calls Try.prog 62 #[.bool b] w fun e w' => e = .returned (.int .i64 (truthI b)) ∧ w' = w := by
  cases b
  · go_enter Try.func62, Try.ntmps62
    go_wp2
    go_ret
    exact ⟨rfl, rfl⟩
  · go_enter Try.func62, Try.ntmps62
    go_wp2
    go_ret
    exact ⟨rfl, rfl⟩
def twoI : Nat → Int → Int → Int
  | 8, a, b => wrap64 (a + b)
  | 9, a, b => wrap64 (a - b)
  | 10, a, b => wrap64 (a * b)
  | _, a, b => truthI (decide (a < b))
theorem l3two_any (op : Nat) (a b : Int) (w : World) (h : 8 ≤ op ∧ op ≤ 11) : Calls Try.prog 63 #[.int .i64 op, .int .i64 a, .int .i64 b] w fun e w' => e = .returned (.int .i64 (twoI op a b)) ∧ w' = w := by
  obtain rfl | rfl | rfl | rfl : op = 8 ∨ op = 9 ∨ op = 10 ∨ op = 11 := by omega
  · go_enter Try.func63, Try.ntmps63
    go_wp2
    go_ret
    exact ⟨rfl, rfl⟩
  · go_enter Try.func63, Try.ntmps63
    go_wp2
    go_ret
    exact ⟨rfl, rfl⟩
  · go_enter Try.func63, Try.ntmps63
    go_wp2
    go_ret
    exact ⟨rfl, rfl⟩
  · obtain ⟨z, hz⟩ : ∃ z, decide (a < b) = z := ⟨_, rfl⟩
    have HT := Lib.hid (show twoI 11 a b = truthI z by show truthI _ = _; rw [hz])
    go_enter Try.func63, Try.ntmps63
    go_wp2_with fail
    refine (l3truth_any z _).mono ?_
    rintro e w1 ⟨rfl, rfl⟩
    go_wp2
    go_ret
    rw [HT.out]
    exact ⟨rfl, rfl⟩

/-- What l3Put hands back. -/
def MadeEV (v : EV) (w : World) (e : Ending) (w' : World) : Prop := e = .returned (.agg #[.string v.1, .int .i64 v.2]) ∧ Below w.heap.size w w'
/-- The cells of a slice of values, in a later world. -/
theorem evs_cells {w w1 : World} {q : Option Addr} {m : Nat} {a : Recs} (h : RecsAt w q m a) (hB : Below w.heap.size w w1) (h0 : 0 < m) :
    ∃ b off, q = some ⟨b, off, none⟩ ∧ ∀ i, i < m → w1.cell? ⟨b, off + i * 2, none⟩ = some (.string (keyAt a i)) ∧ w1.cell? ⟨b, off + i * 2 + 1, none⟩ = some (.int .i64 (numAt a i)) := by
  rcases (h.keep hB).src with h1 | ⟨b, off, ha, _, hc⟩
  · omega
  · exact ⟨b, off, ha, hc⟩
theorem evs_key (a : Recs) (i : Nat) : keyAt a i = (evAt a i).1 := rfl
theorem evs_num (a : Recs) (i : Nat) : numAt a i = (evAt a i).2 := rfl
theorem words_cell {w w1 : World} {q : Option Addr} {m : Nat} {a : Strs} (h : StrsAt w q m a) (hB : Below w.heap.size w w1) {i : Nat} (h0 : i < m) :
    ∃ b off, q = some ⟨b, off, none⟩ ∧ w1.cell? ⟨b, off + i, none⟩ = some (.string (strAt a i)) := by
  rcases (h.keep hB).src with h1 | ⟨b, off, ha, _, hc⟩
  · omega
  · exact ⟨b, off, ha, hc i h0⟩
theorem ev_is {v : EV} {s : ByteArray} {n : Int} {w w' : World} (h : v = (s, n)) (hB : Below w.heap.size w w') : MadeEV v w (.returned (.agg #[.string s, .int .i64 n])) w' := ⟨by rw [h], hB⟩

set_option maxHeartbeats 4000000 in
theorem l3put_1 (n : Int) (s : ByteArray) (q : Option Addr) (m c : Nat) (a : Recs) (wq : Option Addr) (wn wc : Nat) (ws : Strs) (w : World) (h : RecsAt w q m a) (hm : m = (takesB 1).size) (hw : StrsAt w wq wn ws) (hs : s.size ≤ maxLen) (hn : 0 ≤ n) :
    Calls Try.prog 55 #[.agg #[.int .i64 1, .int .i64 n, .string s], .slice q m c, .slice wq wn wc] w (MadeEV (putV 1 n s a ws) w) := by
  have HB := Lib.hid (show Below w.heap.size w ((w.alloc (.cells #[.int .i64 1, .int .i64 n, .string s] 73)).alloc (.cells #[.string ⟨#[]⟩, .int .i64 0] 94)) from below_alloc (below_alloc (Below.refl _ _) _) _)
  have hl := hw.length
  by_cases hlt : n < (wn : Int)
  · obtain ⟨i, rfl⟩ : ∃ i : Nat, n = i := ⟨n.toNat, by omega⟩
    obtain ⟨b, off, rfl, cw⟩ := words_cell hw HB.out (i := i) (by omega)
    obtain ⟨x, hx⟩ : ∃ x, strAt ws i = x := ⟨_, rfl⟩
    have HR := Lib.hid (show putV 1 i s a ws = (x, 0) by
      show (wordAt ws i, (0 : Int)) = _
      unfold wordAt
      rw [if_pos (by omega), ← hx]; rfl)
    rw [hx] at cw
    clear hx h hw hm HB
    go_enter Try.func55, Try.ntmps55
    go_wp2
    refine bodyPost_ret (v := .agg #[.string x, .int .i64 0]) ?h1 rfl ?h2
    case h1 => simp [results, Try.results55, go_sem]
    case h2 => exact ev_is HR.out (below_alloc (below_alloc (Below.refl _ _) _) _)
  · have HR := Lib.hid (show putV 1 n s a ws = (ByteArray.empty, 0) by
      show (wordAt ws n, (0 : Int)) = _
      unfold wordAt
      rw [if_neg (by omega)])
    clear h hw hm HB
    go_enter Try.func55, Try.ntmps55
    go_wp2
    refine bodyPost_ret (v := .agg #[.string ⟨#[]⟩, .int .i64 0]) ?h1 rfl ?h2
    case h1 => simp [results, Try.results55, go_sem]
    case h2 => exact ev_is HR.out (below_alloc (below_alloc (Below.refl _ _) _) _)

set_option maxHeartbeats 4000000 in
theorem l3put_2 (n : Int) (s : ByteArray) (q : Option Addr) (m c : Nat) (a : Recs) (wq : Option Addr) (wn wc : Nat) (ws : Strs) (w : World) (h : RecsAt w q m a) (hm : m = (takesB 2).size) (hw : StrsAt w wq wn ws) (hs : s.size ≤ maxLen) (hn : True) :
    Calls Try.prog 55 #[.agg #[.int .i64 2, .int .i64 n, .string s], .slice q m c, .slice wq wn wc] w (MadeEV (putV 2 n s a ws) w) := by
  have HR := Lib.hid (show putV 2 n s a ws = (s, 0) from rfl)
  clear h hw hm
  go_enter Try.func55, Try.ntmps55
  go_wp2
  refine bodyPost_ret (v := .agg #[.string s, .int .i64 0]) ?h1 rfl ?h2
  case h1 => simp [results, Try.results55, go_sem]
  case h2 => exact ev_is HR.out (below_alloc (below_alloc (Below.refl _ _) _) _)

set_option maxHeartbeats 4000000 in
theorem l3put_3 (n : Int) (s : ByteArray) (q : Option Addr) (m c : Nat) (a : Recs) (wq : Option Addr) (wn wc : Nat) (ws : Strs) (w : World) (h : RecsAt w q m a) (hm : m = (takesB 3).size) (hw : StrsAt w wq wn ws) (hs : s.size ≤ maxLen) (hn : True) :
    Calls Try.prog 55 #[.agg #[.int .i64 3, .int .i64 n, .string s], .slice q m c, .slice wq wn wc] w (MadeEV (putV 3 n s a ws) w) := by
  have HR := Lib.hid (show putV 3 n s a ws = (ByteArray.empty, n) from rfl)
  clear h hw hm
  go_enter Try.func55, Try.ntmps55
  go_wp2
  refine bodyPost_ret (v := .agg #[.string ⟨#[]⟩, .int .i64 n]) ?h1 rfl ?h2
  case h1 => simp [results, Try.results55, go_sem]
  case h2 => exact ev_is HR.out (below_alloc (below_alloc (Below.refl _ _) _) _)

set_option maxHeartbeats 4000000 in
theorem l3put_4 (n : Int) (s : ByteArray) (q : Option Addr) (m c : Nat) (a : Recs) (wq : Option Addr) (wn wc : Nat) (ws : Strs) (w : World) (h : RecsAt w q m a) (hm : m = (takesB 4).size) (hw : StrsAt w wq wn ws) (hs : s.size ≤ maxLen) (hn : True) (ha : ∀ v ∈ a, v.1.size ≤ 40 ∧ In64 v.2) :
    Calls Try.prog 55 #[.agg #[.int .i64 4, .int .i64 n, .string s], .slice q m c, .slice wq wn wc] w (MadeEV (putV 4 n s a ws) w) := by
  obtain rfl : m = 2 := hm
  have HB := Lib.hid (show Below w.heap.size w ((w.alloc (.cells #[.int .i64 4, .int .i64 n, .string s] 73)).alloc (.cells #[.string ⟨#[]⟩, .int .i64 0] 94)) from below_alloc (below_alloc (Below.refl _ _) _) _)
  obtain ⟨b, off, rfl, cs⟩ := evs_cells h HB.out (by decide)
  obtain ⟨x0, hx0⟩ : ∃ x, keyAt a 0 = x := ⟨_, rfl⟩
  have k0 := (cs 0 (by decide)).1
  rw [hx0] at k0
  obtain ⟨x1, hx1⟩ : ∃ x, keyAt a 1 = x := ⟨_, rfl⟩
  have k1 := (cs 1 (by decide)).1
  rw [hx1] at k1
  simp at k0 k1
  have HR := Lib.hid (show putV 4 n s a ws = (x0 ++ x1, 0) by rw [← hx0, ← hx1]; rfl)
  have s0 : x0.size ≤ 40 := by rw [← hx0]; exact (ev0_le ha 0).1
  have s1 : x1.size ≤ 40 := by rw [← hx1]; exact (ev0_le ha 1).1
  clear cs h hw HB hx0 hx1
  go_enter Try.func55, Try.ntmps55
  go_wp2_with fail
  go_region_with (fail)
  all_goals (
    go_wp2
    refine bodyPost_ret (v := .agg #[.string (x0 ++ x1), .int .i64 0]) ?h1 rfl ?h2
    case h1 => simp [results, Try.results55, go_sem]
    case h2 => exact ev_is HR.out (below_alloc (below_alloc (Below.refl _ _) _) _).drew)

set_option maxHeartbeats 4000000 in
theorem l3put_5 (n : Int) (s : ByteArray) (q : Option Addr) (m c : Nat) (a : Recs) (wq : Option Addr) (wn wc : Nat) (ws : Strs) (w : World) (h : RecsAt w q m a) (hm : m = (takesB 5).size) (hw : StrsAt w wq wn ws) (hs : s.size ≤ maxLen) (hn : True) (ha : ∀ v ∈ a, v.1.size ≤ 40 ∧ In64 v.2) :
    Calls Try.prog 55 #[.agg #[.int .i64 5, .int .i64 n, .string s], .slice q m c, .slice wq wn wc] w (MadeEV (putV 5 n s a ws) w) := by
  obtain rfl : m = 1 := hm
  have HB := Lib.hid (show Below w.heap.size w ((w.alloc (.cells #[.int .i64 5, .int .i64 n, .string s] 73)).alloc (.cells #[.string ⟨#[]⟩, .int .i64 0] 94)) from below_alloc (below_alloc (Below.refl _ _) _) _)
  obtain ⟨b, off, rfl, cs⟩ := evs_cells h HB.out (by decide)
  obtain ⟨x0, hx0⟩ : ∃ x, keyAt a 0 = x := ⟨_, rfl⟩
  have k0 := (cs 0 (by decide)).1
  rw [hx0] at k0
  simp at k0
  have HR := Lib.hid (show putV 5 n s a ws = (ByteArray.empty, (x0.size : Int)) by rw [← hx0]; rfl)
  have s0 : x0.size ≤ 40 := by rw [← hx0]; exact (ev0_le ha 0).1
  clear cs h hw HB hx0
  go_enter Try.func55, Try.ntmps55
  go_wp2
  refine bodyPost_ret (v := .agg #[.string ⟨#[]⟩, .int .i64 (x0.size : Int)]) ?h1 rfl ?h2
  case h1 => simp [results, Try.results55, go_sem]
  case h2 => exact ev_is HR.out (below_alloc (below_alloc (Below.refl _ _) _) _)

set_option maxHeartbeats 4000000 in
theorem l3put_6 (n : Int) (s : ByteArray) (q : Option Addr) (m c : Nat) (a : Recs) (wq : Option Addr) (wn wc : Nat) (ws : Strs) (w : World) (h : RecsAt w q m a) (hm : m = (takesB 6).size) (hw : StrsAt w wq wn ws) (hs : s.size ≤ maxLen) (hn : True) (ha : ∀ v ∈ a, v.1.size ≤ 40 ∧ In64 v.2) :
    Calls Try.prog 55 #[.agg #[.int .i64 6, .int .i64 n, .string s], .slice q m c, .slice wq wn wc] w (MadeEV (putV 6 n s a ws) w) := by
  obtain rfl : m = 1 := hm
  have HB := Lib.hid (show Below w.heap.size w ((w.alloc (.cells #[.int .i64 6, .int .i64 n, .string s] 73)).alloc (.cells #[.string ⟨#[]⟩, .int .i64 0] 94)) from below_alloc (below_alloc (Below.refl _ _) _) _)
  obtain ⟨b, off, rfl, cs⟩ := evs_cells h HB.out (by decide)
  obtain ⟨x0, hx0⟩ : ∃ x, keyAt a 0 = x := ⟨_, rfl⟩
  have k0 := (cs 0 (by decide)).1
  rw [hx0] at k0
  simp at k0
  have HX := Lib.hid (show Row ((w.alloc (.cells #[.int .i64 6, .int .i64 n, .string s] 73)).alloc (.cells #[.string ⟨#[]⟩, .int .i64 0] 94)) (w.heap.size + 1) 94 #[.string ⟨#[]⟩, .int .i64 0] from by
    have := Row.new (w.alloc (.cells #[.int .i64 6, .int .i64 n, .string s] 73)) 94 #[.string ⟨#[]⟩, .int .i64 0]
    simpa using this)
  have HR := Lib.hid (show putV 6 n s a ws = (ByteArray.empty, numI x0) by rw [← hx0]; rfl)
  have s0 : x0.size ≤ maxLen := by rw [← hx0]; have := (ev0_le ha 0).1; unfold evAt at this; unfold keyAt maxLen; omega
  obtain ⟨z, hz⟩ : ∃ z, numI x0 = z := ⟨_, rfl⟩
  have HZ := Lib.hid (show (numD x0.data.toList).getD 0 = z from hz)
  rw [hz] at HR
  clear cs h hw hx0 hz
  go_enter Try.func55, Try.ntmps55
  go_wp2_with fail
  refine (l1num_any x0 _ s0).mono ?_
  rintro e w2 ⟨rfl, hB2⟩
  rw [HZ.out]
  have HX := Lib.hid (HX.out.keep hB2)
  have HB := Lib.hid (below_via HB.out hB2)
  have y0 := HX.out.cell (j := 0) (by simp)
  have y1 := HX.out.cell (j := 1) (by simp)
  have f0 := HX.out.free 0
  have f1 := HX.out.free 1
  simp at y0 y1
  clear hB2
  go_wp2
  have hbF := (HX.out.set 0 (.string ⟨#[]⟩)).set 1 (.int .i64 z)
  unfold Row at hbF
  refine bodyPost_ret (v := .agg #[.string ⟨#[]⟩, .int .i64 z]) ?h1 rfl ?h2
  case h1 => simp [results, Try.results55, go_sem, World.cell?, hbF]
  case h2 => exact ev_is HR.out ((HB.out.setCell (by simp) _).setCell (by simp) _)

set_option maxHeartbeats 4000000 in
theorem l3put_7 (n : Int) (s : ByteArray) (q : Option Addr) (m c : Nat) (a : Recs) (wq : Option Addr) (wn wc : Nat) (ws : Strs) (w : World) (h : RecsAt w q m a) (hm : m = (takesB 7).size) (hw : StrsAt w wq wn ws) (hs : s.size ≤ maxLen) (hn : True) (ha : ∀ v ∈ a, v.1.size ≤ 40 ∧ In64 v.2) :
    Calls Try.prog 55 #[.agg #[.int .i64 7, .int .i64 n, .string s], .slice q m c, .slice wq wn wc] w (MadeEV (putV 7 n s a ws) w) := by
  obtain rfl : m = 1 := hm
  have HB := Lib.hid (show Below w.heap.size w ((w.alloc (.cells #[.int .i64 7, .int .i64 n, .string s] 73)).alloc (.cells #[.string ⟨#[]⟩, .int .i64 0] 94)) from below_alloc (below_alloc (Below.refl _ _) _) _)
  obtain ⟨b, off, rfl, cs⟩ := evs_cells h HB.out (by decide)
  obtain ⟨x0, hx0⟩ : ∃ x, numAt a 0 = x := ⟨_, rfl⟩
  have k0 := (cs 0 (by decide)).2
  rw [hx0] at k0
  simp at k0
  have HX := Lib.hid (show Row ((w.alloc (.cells #[.int .i64 7, .int .i64 n, .string s] 73)).alloc (.cells #[.string ⟨#[]⟩, .int .i64 0] 94)) (w.heap.size + 1) 94 #[.string ⟨#[]⟩, .int .i64 0] from by
    have := Row.new (w.alloc (.cells #[.int .i64 7, .int .i64 n, .string s] 73)) 94 #[.string ⟨#[]⟩, .int .i64 0]
    simpa using this)
  have HR := Lib.hid (show putV 7 n s a ws = (decB x0, 0) by rw [← hx0]; rfl)
  have s0 : In64 x0 := by rw [← hx0]; exact (ev0_le ha 0).2
  obtain ⟨z, hz⟩ : ∃ z, decB x0 = z := ⟨_, rfl⟩
  have HZ := Lib.hid hz
  rw [hz] at HR
  unfold In64 at s0
  clear cs h hw hx0 hz
  go_enter Try.func55, Try.ntmps55
  go_wp2_with fail
  refine (l1dec_any x0 s0.1 (by omega) _).mono ?_
  rintro e w2 ⟨rfl, hB2⟩
  rw [HZ.out]
  have HX := Lib.hid (HX.out.keep hB2)
  have HB := Lib.hid (below_via HB.out hB2)
  have y0 := HX.out.cell (j := 0) (by simp)
  have y1 := HX.out.cell (j := 1) (by simp)
  have f0 := HX.out.free 0
  have f1 := HX.out.free 1
  simp at y0 y1
  clear hB2
  go_wp2
  have hbF := (HX.out.set 0 (.string z)).set 1 (.int .i64 0)
  unfold Row at hbF
  refine bodyPost_ret (v := .agg #[.string z, .int .i64 0]) ?h1 rfl ?h2
  case h1 => simp [results, Try.results55, go_sem, World.cell?, hbF]
  case h2 => exact ev_is HR.out ((HB.out.setCell (by simp) _).setCell (by simp) _)

set_option maxHeartbeats 4000000 in
theorem l3put_12 (n : Int) (s : ByteArray) (q : Option Addr) (m c : Nat) (a : Recs) (wq : Option Addr) (wn wc : Nat) (ws : Strs) (w : World) (h : RecsAt w q m a) (hm : m = (takesB 12).size) (hw : StrsAt w wq wn ws) (hs : s.size ≤ maxLen) (hn : True) (ha : ∀ v ∈ a, v.1.size ≤ 40 ∧ In64 v.2) :
    Calls Try.prog 55 #[.agg #[.int .i64 12, .int .i64 n, .string s], .slice q m c, .slice wq wn wc] w (MadeEV (putV 12 n s a ws) w) := by
  obtain rfl : m = 2 := hm
  have HB := Lib.hid (show Below w.heap.size w ((w.alloc (.cells #[.int .i64 12, .int .i64 n, .string s] 73)).alloc (.cells #[.string ⟨#[]⟩, .int .i64 0] 94)) from below_alloc (below_alloc (Below.refl _ _) _) _)
  obtain ⟨b, off, rfl, cs⟩ := evs_cells h HB.out (by decide)
  obtain ⟨x0, hx0⟩ : ∃ x, keyAt a 0 = x := ⟨_, rfl⟩
  have k0 := (cs 0 (by decide)).1
  rw [hx0] at k0
  obtain ⟨x1, hx1⟩ : ∃ x, keyAt a 1 = x := ⟨_, rfl⟩
  have k1 := (cs 1 (by decide)).1
  rw [hx1] at k1
  simp at k0 k1
  have s0 : x0.size ≤ 40 := by rw [← hx0]; exact (ev0_le ha 0).1
  have s1 : x1.size ≤ 40 := by rw [← hx1]; exact (ev0_le ha 1).1
  by_cases hq : x0 = x1
  · have HR := Lib.hid (show putV 12 n s a ws = (ByteArray.empty, truthI true) by
      show (ByteArray.empty, truthI (decide (keyAt a 0 = keyAt a 1))) = _
      rw [hx0, hx1, decide_eq_true hq])
    have hq2 : (x0.toList == x1.toList) = true := ba_eqv hq
    clear cs h hw HB hx0 hx1 hq
    go_enter Try.func55, Try.ntmps55
    go_wp2_with fail
    go_region_with (go_at_call 62; refine (l3truth_any true _).mono ?_; rintro e w1 ⟨rfl, rfl⟩)
    all_goals (
      go_wp2
      refine bodyPost_ret (v := .agg #[.string ⟨#[]⟩, .int .i64 (truthI true)]) ?h1 rfl ?h2
      case h1 => simp [results, Try.results55, go_sem]
      case h2 => exact ev_is HR.out (below_alloc (below_alloc (Below.refl _ _) _) _).drew)
  · have HR := Lib.hid (show putV 12 n s a ws = (ByteArray.empty, truthI false) by
      show (ByteArray.empty, truthI (decide (keyAt a 0 = keyAt a 1))) = _
      rw [hx0, hx1, decide_eq_false hq])
    have hq2 : (x0.toList == x1.toList) = false := ba_nev hq
    clear cs h hw HB hx0 hx1 hq
    go_enter Try.func55, Try.ntmps55
    go_wp2_with fail
    go_region_with (go_at_call 62; refine (l3truth_any false _).mono ?_; rintro e w1 ⟨rfl, rfl⟩)
    all_goals (
      go_wp2
      refine bodyPost_ret (v := .agg #[.string ⟨#[]⟩, .int .i64 (truthI false)]) ?h1 rfl ?h2
      case h1 => simp [results, Try.results55, go_sem]
      case h2 => exact ev_is HR.out (below_alloc (below_alloc (Below.refl _ _) _) _).drew)

set_option maxHeartbeats 4000000 in
theorem l3put_8 (n : Int) (s : ByteArray) (q : Option Addr) (m c : Nat) (a : Recs) (wq : Option Addr) (wn wc : Nat) (ws : Strs) (w : World) (h : RecsAt w q m a) (hm : m = (takesB 8).size) (hw : StrsAt w wq wn ws) (hs : s.size ≤ maxLen) (hn : True) (ha : ∀ v ∈ a, v.1.size ≤ 40 ∧ In64 v.2) :
    Calls Try.prog 55 #[.agg #[.int .i64 8, .int .i64 n, .string s], .slice q m c, .slice wq wn wc] w (MadeEV (putV 8 n s a ws) w) := by
  obtain rfl : m = 2 := hm
  have HB := Lib.hid (show Below w.heap.size w ((w.alloc (.cells #[.int .i64 8, .int .i64 n, .string s] 73)).alloc (.cells #[.string ⟨#[]⟩, .int .i64 0] 94)) from below_alloc (below_alloc (Below.refl _ _) _) _)
  obtain ⟨b, off, rfl, cs⟩ := evs_cells h HB.out (by decide)
  obtain ⟨x0, hx0⟩ : ∃ x, numAt a 0 = x := ⟨_, rfl⟩
  have k0 := (cs 0 (by decide)).2
  rw [hx0] at k0
  obtain ⟨x1, hx1⟩ : ∃ x, numAt a 1 = x := ⟨_, rfl⟩
  have k1 := (cs 1 (by decide)).2
  rw [hx1] at k1
  simp at k0 k1
  obtain ⟨z, hz⟩ : ∃ z, twoI 8 x0 x1 = z := ⟨_, rfl⟩
  have HR := Lib.hid (show putV 8 n s a ws = (ByteArray.empty, z) by rw [← hz, ← hx0, ← hx1]; rfl)
  have HT := Lib.hid (show ∀ w, Calls Try.prog 63 #[.int .i64 8, .int .i64 x0, .int .i64 x1] w (fun e w' => e = .returned (.int .i64 z) ∧ w' = w) from fun w => by
    have := l3two_any 8 x0 x1 w (by omega)
    rw [hz] at this
    exact this)
  clear cs h hw HB hx0 hx1 hz
  go_enter Try.func55, Try.ntmps55
  go_wp2_with fail
  go_region_with (go_at_call 63; refine (HT.out _).mono ?_; rintro e w1 ⟨rfl, rfl⟩)
  all_goals (
    go_wp2
    refine bodyPost_ret (v := .agg #[.string ⟨#[]⟩, .int .i64 z]) ?h1 rfl ?h2
    case h1 => simp [results, Try.results55, go_sem]
    case h2 => exact ev_is HR.out (below_alloc (below_alloc (Below.refl _ _) _) _).drew)

set_option maxHeartbeats 4000000 in
theorem l3put_9 (n : Int) (s : ByteArray) (q : Option Addr) (m c : Nat) (a : Recs) (wq : Option Addr) (wn wc : Nat) (ws : Strs) (w : World) (h : RecsAt w q m a) (hm : m = (takesB 9).size) (hw : StrsAt w wq wn ws) (hs : s.size ≤ maxLen) (hn : True) (ha : ∀ v ∈ a, v.1.size ≤ 40 ∧ In64 v.2) :
    Calls Try.prog 55 #[.agg #[.int .i64 9, .int .i64 n, .string s], .slice q m c, .slice wq wn wc] w (MadeEV (putV 9 n s a ws) w) := by
  obtain rfl : m = 2 := hm
  have HB := Lib.hid (show Below w.heap.size w ((w.alloc (.cells #[.int .i64 9, .int .i64 n, .string s] 73)).alloc (.cells #[.string ⟨#[]⟩, .int .i64 0] 94)) from below_alloc (below_alloc (Below.refl _ _) _) _)
  obtain ⟨b, off, rfl, cs⟩ := evs_cells h HB.out (by decide)
  obtain ⟨x0, hx0⟩ : ∃ x, numAt a 0 = x := ⟨_, rfl⟩
  have k0 := (cs 0 (by decide)).2
  rw [hx0] at k0
  obtain ⟨x1, hx1⟩ : ∃ x, numAt a 1 = x := ⟨_, rfl⟩
  have k1 := (cs 1 (by decide)).2
  rw [hx1] at k1
  simp at k0 k1
  obtain ⟨z, hz⟩ : ∃ z, twoI 9 x0 x1 = z := ⟨_, rfl⟩
  have HR := Lib.hid (show putV 9 n s a ws = (ByteArray.empty, z) by rw [← hz, ← hx0, ← hx1]; rfl)
  have HT := Lib.hid (show ∀ w, Calls Try.prog 63 #[.int .i64 9, .int .i64 x0, .int .i64 x1] w (fun e w' => e = .returned (.int .i64 z) ∧ w' = w) from fun w => by
    have := l3two_any 9 x0 x1 w (by omega)
    rw [hz] at this
    exact this)
  clear cs h hw HB hx0 hx1 hz
  go_enter Try.func55, Try.ntmps55
  go_wp2_with fail
  go_region_with (go_at_call 63; refine (HT.out _).mono ?_; rintro e w1 ⟨rfl, rfl⟩)
  all_goals (
    go_wp2
    refine bodyPost_ret (v := .agg #[.string ⟨#[]⟩, .int .i64 z]) ?h1 rfl ?h2
    case h1 => simp [results, Try.results55, go_sem]
    case h2 => exact ev_is HR.out (below_alloc (below_alloc (Below.refl _ _) _) _).drew)

set_option maxHeartbeats 4000000 in
theorem l3put_10 (n : Int) (s : ByteArray) (q : Option Addr) (m c : Nat) (a : Recs) (wq : Option Addr) (wn wc : Nat) (ws : Strs) (w : World) (h : RecsAt w q m a) (hm : m = (takesB 10).size) (hw : StrsAt w wq wn ws) (hs : s.size ≤ maxLen) (hn : True) (ha : ∀ v ∈ a, v.1.size ≤ 40 ∧ In64 v.2) :
    Calls Try.prog 55 #[.agg #[.int .i64 10, .int .i64 n, .string s], .slice q m c, .slice wq wn wc] w (MadeEV (putV 10 n s a ws) w) := by
  obtain rfl : m = 2 := hm
  have HB := Lib.hid (show Below w.heap.size w ((w.alloc (.cells #[.int .i64 10, .int .i64 n, .string s] 73)).alloc (.cells #[.string ⟨#[]⟩, .int .i64 0] 94)) from below_alloc (below_alloc (Below.refl _ _) _) _)
  obtain ⟨b, off, rfl, cs⟩ := evs_cells h HB.out (by decide)
  obtain ⟨x0, hx0⟩ : ∃ x, numAt a 0 = x := ⟨_, rfl⟩
  have k0 := (cs 0 (by decide)).2
  rw [hx0] at k0
  obtain ⟨x1, hx1⟩ : ∃ x, numAt a 1 = x := ⟨_, rfl⟩
  have k1 := (cs 1 (by decide)).2
  rw [hx1] at k1
  simp at k0 k1
  obtain ⟨z, hz⟩ : ∃ z, twoI 10 x0 x1 = z := ⟨_, rfl⟩
  have HR := Lib.hid (show putV 10 n s a ws = (ByteArray.empty, z) by rw [← hz, ← hx0, ← hx1]; rfl)
  have HT := Lib.hid (show ∀ w, Calls Try.prog 63 #[.int .i64 10, .int .i64 x0, .int .i64 x1] w (fun e w' => e = .returned (.int .i64 z) ∧ w' = w) from fun w => by
    have := l3two_any 10 x0 x1 w (by omega)
    rw [hz] at this
    exact this)
  clear cs h hw HB hx0 hx1 hz
  go_enter Try.func55, Try.ntmps55
  go_wp2_with fail
  go_region_with (go_at_call 63; refine (HT.out _).mono ?_; rintro e w1 ⟨rfl, rfl⟩)
  all_goals (
    go_wp2
    refine bodyPost_ret (v := .agg #[.string ⟨#[]⟩, .int .i64 z]) ?h1 rfl ?h2
    case h1 => simp [results, Try.results55, go_sem]
    case h2 => exact ev_is HR.out (below_alloc (below_alloc (Below.refl _ _) _) _).drew)

set_option maxHeartbeats 4000000 in
theorem l3put_11 (n : Int) (s : ByteArray) (q : Option Addr) (m c : Nat) (a : Recs) (wq : Option Addr) (wn wc : Nat) (ws : Strs) (w : World) (h : RecsAt w q m a) (hm : m = (takesB 11).size) (hw : StrsAt w wq wn ws) (hs : s.size ≤ maxLen) (hn : True) (ha : ∀ v ∈ a, v.1.size ≤ 40 ∧ In64 v.2) :
    Calls Try.prog 55 #[.agg #[.int .i64 11, .int .i64 n, .string s], .slice q m c, .slice wq wn wc] w (MadeEV (putV 11 n s a ws) w) := by
  obtain rfl : m = 2 := hm
  have HB := Lib.hid (show Below w.heap.size w ((w.alloc (.cells #[.int .i64 11, .int .i64 n, .string s] 73)).alloc (.cells #[.string ⟨#[]⟩, .int .i64 0] 94)) from below_alloc (below_alloc (Below.refl _ _) _) _)
  obtain ⟨b, off, rfl, cs⟩ := evs_cells h HB.out (by decide)
  obtain ⟨x0, hx0⟩ : ∃ x, numAt a 0 = x := ⟨_, rfl⟩
  have k0 := (cs 0 (by decide)).2
  rw [hx0] at k0
  obtain ⟨x1, hx1⟩ : ∃ x, numAt a 1 = x := ⟨_, rfl⟩
  have k1 := (cs 1 (by decide)).2
  rw [hx1] at k1
  simp at k0 k1
  obtain ⟨z, hz⟩ : ∃ z, twoI 11 x0 x1 = z := ⟨_, rfl⟩
  have HR := Lib.hid (show putV 11 n s a ws = (ByteArray.empty, z) by rw [← hz, ← hx0, ← hx1]; rfl)
  have HT := Lib.hid (show ∀ w, Calls Try.prog 63 #[.int .i64 11, .int .i64 x0, .int .i64 x1] w (fun e w' => e = .returned (.int .i64 z) ∧ w' = w) from fun w => by
    have := l3two_any 11 x0 x1 w (by omega)
    rw [hz] at this
    exact this)
  clear cs h hw HB hx0 hx1 hz
  go_enter Try.func55, Try.ntmps55
  go_wp2_with fail
  go_region_with (go_at_call 63; refine (HT.out _).mono ?_; rintro e w1 ⟨rfl, rfl⟩)
  all_goals (
    go_wp2
    refine bodyPost_ret (v := .agg #[.string ⟨#[]⟩, .int .i64 z]) ?h1 rfl ?h2
    case h1 => simp [results, Try.results55, go_sem]
    case h2 => exact ev_is HR.out (below_alloc (below_alloc (Below.refl _ _) _) _).drew)

/-- Every instruction that puts something. -/
theorem l3put_any (op : Nat) (n : Int) (s : ByteArray) (q : Option Addr) (m c : Nat) (a : Recs) (wq : Option Addr) (wn wc : Nat) (ws : Strs) (w : World) (h1 : 1 ≤ op) (h2 : op ≤ 12) (h : RecsAt w q m a) (hm : m = (takesB op).size) (hw : StrsAt w wq wn ws) (hs : s.size ≤ maxLen) (hn : op = 1 → 0 ≤ n) (ha : ∀ v ∈ a, v.1.size ≤ 40 ∧ In64 v.2) :
    Calls Try.prog 55 #[.agg #[.int .i64 op, .int .i64 n, .string s], .slice q m c, .slice wq wn wc] w (MadeEV (putV op n s a ws) w) := by
  obtain rfl | rfl | rfl | rfl | rfl | rfl | rfl | rfl | rfl | rfl | rfl | rfl : op = 1 ∨ op = 2 ∨ op = 3 ∨ op = 4 ∨ op = 5 ∨ op = 6 ∨ op = 7 ∨ op = 8 ∨ op = 9 ∨ op = 10 ∨ op = 11 ∨ op = 12 := by omega
  · exact l3put_1 n s q m c a wq wn wc ws w h hm hw hs (hn rfl)
  · exact l3put_2 n s q m c a wq wn wc ws w h hm hw hs trivial
  · exact l3put_3 n s q m c a wq wn wc ws w h hm hw hs trivial
  · exact l3put_4 n s q m c a wq wn wc ws w h hm hw hs trivial ha
  · exact l3put_5 n s q m c a wq wn wc ws w h hm hw hs trivial ha
  · exact l3put_6 n s q m c a wq wn wc ws w h hm hw hs trivial ha
  · exact l3put_7 n s q m c a wq wn wc ws w h hm hw hs trivial ha
  · exact l3put_8 n s q m c a wq wn wc ws w h hm hw hs trivial ha
  · exact l3put_9 n s q m c a wq wn wc ws w h hm hw hs trivial ha
  · exact l3put_10 n s q m c a wq wn wc ws w h hm hw hs trivial ha
  · exact l3put_11 n s q m c a wq wn wc ws w h hm hw hs trivial ha
  · exact l3put_12 n s q m c a wq wn wc ws w h hm hw hs trivial ha
end Go.Proofs.Ytjofbeokkainlaa
