/- Texts put together, as a claim holds at most sixty files. -/
import Derived.Test.YtjofbeokkainlaaGreatDoorMg18
import Derived.Test.YtjofbeokkainlaaGreatDoorMg1
import Derived.Test.YtjofbeokkainlaaGreatDoorMg2
namespace Go.Proofs.YtjofbeokkainlaaGreatDoor
open Go.ChangeShapes Go.WideShapes Go.ChangeAt Go.RowKit
set_option linter.unusedVariables false
set_option maxRecDepth 100000

theorem own_cap {w : World} {base : Nat} {e : TypeId} {size : Nat} {q : Option Addr} {n cp : Nat} {xs : List Value} (h : w.ownsRow base e size (.slice q n cp) n xs) : n ≤ cp ∧ cp ≤ maxLen ∧ (q = none → cp = 0) := by
  rcases h.2 with ⟨h1, h2⟩ | ⟨g, cap, cur, hv, _, _, h1, h2, _⟩
  · simp only [Value.slice.injEq] at h1; exact ⟨by omega, by unfold maxLen; omega, fun _ => h1.2.2⟩
  · simp only [Value.slice.injEq] at hv
    obtain ⟨rfl, _, rfl⟩ := hv
    exact ⟨h1, h2, fun h => by cases h⟩
/-- The end of a function that returns records in a row of its own. -/
def MadeRs (W : Recs) (w : World) (e : Ending) (w' : World) : Prop :=
  ∃ q cp, e = .returned (.slice q W.length cp) ∧ Rs w.heap.size w' q W ∧ Below w.heap.size w w' ∧ W.length ≤ cp ∧ cp ≤ maxLen ∧ (q = none → cp = 0)

theorem laid_take {cur : Array Value} {V : Recs} {n : Nat} (h : Laid cur V n) (hn : V.length = n) (hs : n * 2 ≤ cur.size) : cur.toList.take (n * 2) = cellsL V := by
  subst hn
  refine List.ext_getElem? fun i => ?_
  by_cases hi : i < V.length * 2
  · rw [List.getElem?_take_of_lt hi]
    obtain ⟨h1, h2⟩ := h (i / 2) (by omega)
    obtain ⟨e1, e2⟩ := cellsL_get V (i / 2) (by omega)
    rcases Nat.mod_two_eq_zero_or_one i with hm | hm
    · have e : i / 2 * 2 = i := by omega
      rw [e] at h1 e1
      rw [e1]; simpa using h1
    · have e : i / 2 * 2 + 1 = i := by omega
      rw [e] at h2 e2
      rw [e2]; simpa using h2
  · rw [List.getElem?_eq_none (by simp; omega), List.getElem?_eq_none (by rw [cellsL_len]; omega)]
theorem own_of_laid {w : World} {base g n cap : Nat} {cur : Array Value} {V : Recs} (hr : Row w g 37 cur) (hb : base ≤ g) (hn : V.length = n) (h1 : n ≤ cap) (h2 : cap ≤ maxLen) (h3 : cur.size = cap * 2) (hl : Laid cur V n) :
    w.ownsRow base 37 2 (.slice (some ⟨g, 0, none⟩) n cap) n (cellsL V) :=
  ⟨by rw [cellsL_len, hn], .inr ⟨g, cap, cur, rfl, hb, hr, h1, h2, h3, laid_take hl hn (by omega)⟩⟩
theorem laid_of_take {cur : Array Value} {V : Recs} {n : Nat} (hn : V.length = n) (h : cur.toList.take (n * 2) = cellsL V) : Laid cur V n := by
  intro j hj
  obtain ⟨e1, e2⟩ := cellsL_get V j (by omega)
  rw [← h, List.getElem?_take_of_lt (by omega)] at e1 e2
  exact ⟨by simpa using e1, by simpa using e2⟩

/-- The row while x looks for its place j: the records ahead of j, and those behind it, one place further. -/
def Gap (cur : Array Value) (V : Recs) (j k : Nat) : Prop :=
  (∀ i, i < j → cur[i * 2]? = some (.string (keyAt V i)) ∧ cur[i * 2 + 1]? = some (.int .i64 (numAt V i))) ∧
  (∀ i, j ≤ i → i < k → cur[(i + 1) * 2]? = some (.string (keyAt V i)) ∧ cur[(i + 1) * 2 + 1]? = some (.int .i64 (numAt V i)))
theorem gap_start {cur : Array Value} {V : Recs} {x : ByteArray × Int} {k : Nat} (h : Laid cur (V ++ [x]) (k + 1)) (hk : V.length = k) : Gap cur V k k := by
  refine ⟨fun i hi => ?_, fun i h1 h2 => by omega⟩
  have := h i (by omega)
  unfold keyAt numAt at this ⊢
  rw [List.getD_eq_getElem?_getD, List.getElem?_append_left (by omega)] at this
  rw [List.getD_eq_getElem?_getD]
  exact this
theorem gap_shift {cur : Array Value} {V : Recs} {j k : Nat} (h : Gap cur V (j + 1) k) (hj : j < k) (hs : (k + 1) * 2 ≤ cur.size) :
    Gap ((cur.setIfInBounds ((j + 1) * 2) (.string (keyAt V j))).setIfInBounds ((j + 1) * 2 + 1) (.int .i64 (numAt V j))) V j k := by
  have h1 : (j + 1) * 2 < cur.size := by omega
  have h2 : (j + 1) * 2 + 1 < cur.size := by omega
  refine ⟨fun i hi => ?_, fun i hi hik => ?_⟩
  · obtain ⟨e1, e2⟩ := h.1 i (by omega)
    constructor
    · rw [Array.getElem?_setIfInBounds_ne (by omega), Array.getElem?_setIfInBounds_ne (by omega)]; exact e1
    · rw [Array.getElem?_setIfInBounds_ne (by omega), Array.getElem?_setIfInBounds_ne (by omega)]; exact e2
  · rcases Nat.lt_or_ge j i with hl | hl
    · obtain ⟨e1, e2⟩ := h.2 i (by omega) hik
      constructor
      · rw [Array.getElem?_setIfInBounds_ne (by omega), Array.getElem?_setIfInBounds_ne (by omega)]; exact e1
      · rw [Array.getElem?_setIfInBounds_ne (by omega), Array.getElem?_setIfInBounds_ne (by omega)]; exact e2
    · obtain rfl : i = j := by omega
      constructor
      · rw [Array.getElem?_setIfInBounds_ne (by omega)]; simp [h1]
      · simp [h2]
theorem gap_end {cur : Array Value} {V : Recs} {s : ByteArray} {n : Int} {j k : Nat} (h : Gap cur V j k) (hk : V.length = k) (hj : j ≤ k) (hs : (k + 1) * 2 ≤ cur.size) :
    Laid ((cur.setIfInBounds (j * 2) (.string s)).setIfInBounds (j * 2 + 1) (.int .i64 n)) (V.take j ++ (s, n) :: V.drop j) (k + 1) := by
  have h1 : j * 2 < cur.size := by omega
  have h2 : j * 2 + 1 < cur.size := by omega
  intro i hi
  have htl : (V.take j).length = j := by simp; omega
  rcases Nat.lt_trichotomy i j with hl | hl | hl
  · obtain ⟨e1, e2⟩ := h.1 i hl
    have hg : (V.take j ++ (s, n) :: V.drop j)[i]? = V[i]? := by
      rw [List.getElem?_append_left (by omega), List.getElem?_take_of_lt hl]
    unfold keyAt numAt
    rw [List.getD_eq_getElem?_getD, hg, ← List.getD_eq_getElem?_getD]
    constructor
    · rw [Array.getElem?_setIfInBounds_ne (by omega), Array.getElem?_setIfInBounds_ne (by omega)]; exact e1
    · rw [Array.getElem?_setIfInBounds_ne (by omega), Array.getElem?_setIfInBounds_ne (by omega)]; exact e2
  · subst hl
    have hg : (V.take i ++ (s, n) :: V.drop i)[i]? = some (s, n) := by
      rw [List.getElem?_append_right (by omega), htl, Nat.sub_self]; rfl
    unfold keyAt numAt
    rw [List.getD_eq_getElem?_getD, hg]
    constructor
    · rw [Array.getElem?_setIfInBounds_ne (by omega)]; simp [h1]
    · simp [h2]
  · obtain ⟨m, rfl⟩ : ∃ m, i = m + 1 := ⟨i - 1, by omega⟩
    obtain ⟨e1, e2⟩ := h.2 m (by omega) (by omega)
    have hg : (V.take j ++ (s, n) :: V.drop j)[m + 1]? = V[m]? := by
      rw [List.getElem?_append_right (by omega), htl, show m + 1 - j = (m - j) + 1 by omega, List.getElem?_cons_succ, List.getElem?_drop]
      congr 1; omega
    unfold keyAt numAt
    rw [List.getD_eq_getElem?_getD, hg, ← List.getD_eq_getElem?_getD]
    constructor
    · rw [Array.getElem?_setIfInBounds_ne (by omega), Array.getElem?_setIfInBounds_ne (by omega)]; exact e1
    · rw [Array.getElem?_setIfInBounds_ne (by omega), Array.getElem?_setIfInBounds_ne (by omega)]; exact e2

/-- The records so far, in order. -/
structure SortSt (l : Recs) (w wr : World) (v : Value) (V : Recs) (k : Nat) : Prop where
  own : wr.ownsRow w.heap.size 37 2 v k (cellsL V)
  below : Below w.heap.size w wr
  length : V.length = k
  perm : V.Perm (l.take k)
  order : InOrder V
  ok : ∀ j, j < k → okAt l j = true

theorem sort_stop {l : Recs} {k : Nat} (hk : k < l.length) (h : okAt l k = false) : sortedB l = [] := by
  unfold sortedB
  rw [recsOk_inv hk h]; rfl
theorem sort_long {l : Recs} (h : ¬ l.length ≤ 600) : sortedB l = [] := by
  unfold sortedB
  rw [recsOk_long h]; rfl
theorem sort_end {l : Recs} {w wr : World} {v : Value} {V : Recs} {k : Nat} (h : SortSt l w wr v V k) (hk : l.length = k) (h600 : k ≤ 600) : sortedB l = V := by
  unfold sortedB
  rw [recsOk_good (by omega) (by rw [hk]; exact h.ok), if_pos rfl]
  have hp := h.perm
  rw [← hk, List.take_length] at hp
  exact sortL_of h.order hp

/-- While record k looks for its place. -/
structure PutSt (l : Recs) (w wr : World) (g cap : Nat) (V : Recs) (k j : Nat) : Prop where
  below : Below w.heap.size w wr
  row : ∃ cur, Row wr g 37 cur ∧ cur.size = cap * 2 ∧ Gap cur V j k
  behind : ∀ y ∈ V.drop j, leR (keyAt l k, numAt l k) y = true

theorem row_cell {w : World} {B : Nat} {E : TypeId} {cur : Array Value} {j : Nat} {v : Value} (h : Row w B E cur) (e : cur[j]? = some v) : w.cell? ⟨B, j, none⟩ = some v := by
  unfold Row at h; simp [World.cell?, h, e]
theorem row_some {w : World} {B : Nat} {E : TypeId} {cur : Array Value} {j : Nat} (h : Row w B E cur) (hj : j < cur.size) : ∃ v, w.cell? ⟨B, j, none⟩ = some v := ⟨_, h.cell hj⟩
theorem less_leR {s u : ByteArray} {n m : Int} (h : lessB s n u m = true) : leR (s, n) (u, m) = true := by
  rw [leR_iff']
  rcases (less_iff s u n m).1 h with h | ⟨h, h2⟩
  · exact .inl h
  · exact .inr ⟨h, Int.le_of_lt h2⟩
theorem PutSt.keep {l : Recs} {w wr w1 : World} {g cap : Nat} {V : Recs} {k j : Nat} (h : PutSt l w wr g cap V k j) (hB : Below wr.heap.size wr w1) : PutSt l w w1 g cap V k j :=
  ⟨below_via h.below hB, by obtain ⟨cur, h1, h2, h3⟩ := h.row; exact ⟨cur, h1.keep hB, h2, h3⟩, h.behind⟩
theorem PutSt.shift {l : Recs} {w wr : World} {g cap : Nat} {V : Recs} {k m : Nat} (h : PutSt l w wr g cap V k (m + 1)) (hV : V.length = k) (hm : m < k) (hbg : w.heap.size ≤ g) (hk1 : k + 1 ≤ cap) (hls : lessB (keyAt l k) (numAt l k) (keyAt V m) (numAt V m) = true) :
    PutSt l w ((wr.setCell ⟨g, (m + 1) * 2, none⟩ (.string (keyAt V m))).setCell ⟨g, (m + 1) * 2 + 1, none⟩ (.int .i64 (numAt V m))) g cap V k m := by
  obtain ⟨cur, h1, h2, h3⟩ := h.row
  refine ⟨(h.below.setCell hbg _).setCell hbg _, ⟨_, (h1.set _ _).set _ _, by simpa using h2, gap_shift h3 hm (by omega)⟩, fun y hy => ?_⟩
  rw [List.drop_eq_getElem_cons (by omega)] at hy
  rcases List.mem_cons.1 hy with rfl | hy
  · rw [at_get V m (by omega)]; exact less_leR hls
  · exact h.behind y hy
theorem PutSt.done {l : Recs} {w wr wx : World} {v : Value} {g cap : Nat} {V : Recs} {k j : Nat} (h : PutSt l w wx g cap V k j) (hS : SortSt l w wr v V k) (hj : j ≤ k) (hbg : w.heap.size ≤ g) (hk1 : k + 1 ≤ cap) (hmx : cap ≤ maxLen)
    (hkl : k < l.length) (hok : okAt l k = true) (hahead : ∀ y ∈ V.take j, leR y (keyAt l k, numAt l k) = true) :
    SortSt l w ((wx.setCell ⟨g, j * 2, none⟩ (.string (keyAt l k))).setCell ⟨g, j * 2 + 1, none⟩ (.int .i64 (numAt l k))) (.slice (some ⟨g, 0, none⟩) (k + 1) cap) (V.take j ++ (keyAt l k, numAt l k) :: V.drop j) (k + 1) := by
  obtain ⟨cur, h1, h2, h3⟩ := h.row
  have hlen : (V.take j ++ (keyAt l k, numAt l k) :: V.drop j).length = k + 1 := by have := hS.length; simp; omega
  refine ⟨own_of_laid ((h1.set _ _).set _ _) hbg hlen hk1 hmx (by simpa using h2) (gap_end h3 hS.length hj (by omega)), (h.below.setCell hbg _).setCell hbg _, hlen, ?_, insert_order hS.order h.behind hahead, fun i hi => ?_⟩
  · rw [List.take_succ_eq_append_getElem hkl, at_get l k hkl]
    exact (insert_perm V _ j).trans (hS.perm.append_right _)
  · rcases Nat.lt_or_ge i k with hl | hl
    · exact hS.ok i hl
    · obtain rfl : i = k := by omega
      exact hok

set_option maxHeartbeats 8000000 in
theorem ssorted_any (a : Option Addr) (len cap : Nat) (l : Recs) (w : World) (h : RecsAt w a len l) :
    Calls Tryz.prog 59 #[.slice a len cap] w (MadeRs (sortedB l) w) := by
  obtain ⟨i0, hi, hz0, hz1, hz2⟩ := info_parts infoRec
  have hm := h.max
  unfold maxLen at hm
  have HR := Lib.hid h
  have HL := Lib.hid h.length
  clear h
  by_cases hlong : 600 < len
  · have HQ := Lib.hid (sort_long (l := l) (by rw [HL.out]; omega))
    have hd : (600 : Int) < (len : Int) := by omega
    go_enter Tryz.func59, Tryz.ntmps59
    go_wp2
    go_ret
    rw [HQ.out]
    exact ⟨_, _, rfl, .inl rfl, below_alloc (Below.refl _ _) _, Nat.le_refl _, Nat.zero_le _, fun _ => rfl⟩
  · have hd : ¬ (600 : Int) < (len : Int) := by omega
    go_enter Tryz.func59, Tryz.ntmps59
    go_wp2
    go_loopw [3, 4] (fun v t wr => ∃ (k : Nat) (q : Option Addr) (cp : Nat) (V : Recs), k ≤ len ∧ v = .slice q k cp ∧ t = .int .i64 k ∧ Hid (SortSt l w wr v V k)) (fun _ t _ => len - (intOf t).toNat)
    case atStart => exact ⟨0, _, _, [], Nat.zero_le _, rfl, rfl, World.ownsRow_lit w #[] 0 (Nat.le_refl _) (Nat.zero_le _) rfl, below_alloc (Below.refl _ _) _, rfl, by simp, List.Pairwise.nil, fun j hj => by omega⟩
    case round =>
      obtain ⟨k, q, cp, V, hk, rfl, rfl, HS⟩ := hrel
      by_cases hlt : k < len
      · rcases HR.out.src with hz | ⟨b, off, rfl, hb, hc⟩
        · omega
        · have HC := Lib.hid hc
          have HBL := Lib.hid hb
          have c0 := (HS.out.below.cell (p := ⟨b, off + k * 2, none⟩) hb).trans (hc k hlt).1
          have c1 := (HS.out.below.cell (p := ⟨b, off + k * 2 + 1, none⟩) hb).trans (hc k hlt).2
          clear hc hb
          cases hok : okB (keyAt l k) with
          | false =>
            have HQ := Lib.hid (sort_stop (l := l) (k := k) (by rw [HL.out]; exact hlt) hok)
            have HOK := Lib.hid hok
            clear hok
            go_wp2_with (go_at_call 85; refine (srecok_any _ _ _).mono ?_; rw [HOK.out]; rintro e w2 ⟨rfl, hB⟩; have HB := Lib.hid (below_via HS.out.below hB); clear hB)
            go_ret
            rw [HQ.out]
            exact ⟨none, 0, rfl, .inl rfl, HB.out, Nat.le_refl _, Nat.zero_le _, fun _ => rfl⟩
          | true =>
            have HOK := Lib.hid hok
            have HO := Lib.hid HS.out.own
            clear hok
            go_wp2_with fail
            refine (srecok_any _ _ _).mono ?_
            rw [HOK.out]
            rintro e w2 ⟨rfl, hB⟩
            have HO := Lib.hid (own_below HO.out hB)
            have HB := Lib.hid (below_via HS.out.below hB)
            have c0 := (hB.cell (p := ⟨b, off + k * 2, none⟩) (World.block_lt_of_cell? _ _ c0)).trans c0
            have c1 := (hB.cell (p := ⟨b, off + k * 2 + 1, none⟩) (World.block_lt_of_cell? _ _ c1)).trans c1
            clear hB
            go_wp2_with (at_builtin; (refine wpList_append_own _ rfl _ _ 34 rfl w.heap.size 37 i0 _ 2 24 Tryz.underlying34 hi hz0 hz1 hz2 rfl (by decide) _ _ _ rfl (HO.out.alloc _) ⟨w2.heap.size, 0, none⟩ 1 1 [.string (keyAt l k), .int .i64 (numAt l k)] rfl rfl (two_new _ _ _ _) (two_cells _ _) (by unfold maxLen; omega) (by omega) (Nat.le_trans HB.out.size (below_alloc (Below.refl _ _) _).size) ?_); intro v' w3 hown1 hgrow hnil; have HO1 := Lib.hid hown1; have HG := Lib.hid hgrow; clear hown1 hgrow hnil)
            have hb3 : Below w.heap.size w w3 := (below_alloc HB.out _).grown HG.out (below_alloc HB.out _).size (fun j hj => (HO.out.lt j hj).1)
            obtain ⟨g, cap1, rfl, hbg, hk1, hmx, P0⟩ : ∃ g cap1, v' = .slice (some ⟨g, 0, none⟩) (k + 1) cap1 ∧ w.heap.size ≤ g ∧ k + 1 ≤ cap1 ∧ cap1 ≤ maxLen ∧ PutSt l w w3 g cap1 V k k := by
              have ho := HO1.out
              rw [← cellsL_snoc] at ho
              rcases ho.2 with ⟨_, h2⟩ | ⟨g, cap1, cur, rfl, hb, hh, h1, h2, h3, h4⟩
              · omega
              · refine ⟨g, cap1, rfl, hb, h1, h2, hb3, ⟨cur, hh, h3, gap_start (laid_of_take (by simp [HS.out.length]) h4) HS.out.length⟩, ?_⟩
                rw [← HS.out.length, List.drop_length]
                intro y hy; simp at hy
            have HP0 := Lib.hid P0
            have HBG := Lib.hid hbg
            have HMX := Lib.hid hmx
            have hcap : cap1 ≤ 9223372036854775807 := hmx
            clear c0 c1 hb3 P0 hbg hmx HO1 HG
            go_loopw [5] (fun t wr => ∃ (j : Nat), j ≤ k ∧ t = .int .i64 j ∧ Hid (PutSt l w wr g cap1 V k j)) (fun t _ => (intOf t).toNat)
            case atStart => exact ⟨k, Nat.le_refl _, rfl, HP0.out⟩
            case round =>
              obtain ⟨j, hj, rfl, HP⟩ := hrel
              clear HP0
              have c0 := (HP.out.below.cell (p := ⟨b, off + k * 2, none⟩) HBL.out).trans (HC.out k hlt).1
              have c1 := (HP.out.below.cell (p := ⟨b, off + k * 2 + 1, none⟩) HBL.out).trans (HC.out k hlt).2
              obtain ⟨cur, hrow, hcs, hgap⟩ := HP.out.row
              have HCS := Lib.hid hcs
              have HGAP := Lib.hid hgap
              have HROW := Lib.hid hrow
              clear hrow hcs hgap
              by_cases h0 : 0 < j
              · obtain ⟨m, hm1, hm2⟩ : ∃ m : Nat, (j : Int) - 1 = (m : Int) ∧ m + 1 = j := ⟨j - 1, by omega, by omega⟩
                have hmk : m < k := by omega
                have hmv : m < V.length := by rw [HS.out.length]; omega
                have d0 := row_cell HROW.out (HGAP.out.1 m (by omega)).1
                have d1 := row_cell HROW.out (HGAP.out.1 m (by omega)).2
                have HBB := Lib.hid ((Below.refl wr.heap.size wr).drew)
                have HM2 := Lib.hid hm2
                obtain ⟨ls, hls⟩ : ∃ ls, lessB (keyAt l k) (numAt l k) (keyAt V m) (numAt V m) = ls := ⟨_, rfl⟩
                have HLS := Lib.hid hls
                have hjl : (j : Int) < (k : Int) + 1 := by omega
                have hml : (m : Int) < (k : Int) + 1 := by omega
                have hml' : (m : Int) < ((k + 1 : Nat) : Int) := by omega
                have hm0 : (0 : Int) ≤ (m : Int) := by omega
                clear hls hm2
                cases ls with
                | true =>
                  go_wp2_with fail
                  have hw1 : IntKind.i64.wrap (m : Int) = (m : Int) := IntWalk.i64_in _ (by omega)
                  go_region_held3 (fun w' => Hid (Below wr.heap.size wr w') ∧ w'.cell? ⟨b, off + k * 2, none⟩ = some (.string (keyAt l k)) ∧ w'.cell? ⟨b, off + k * 2 + 1, none⟩ = some (.int .i64 (numAt l k)) ∧ w'.cell? ⟨g, m * 2, none⟩ = some (.string (keyAt V m)) ∧ w'.cell? ⟨g, m * 2 + 1, none⟩ = some (.int .i64 (numAt V m)))
                    (first | exact ⟨HBB, c0, c1, d0, d1⟩ | exact ⟨HBB, e0, e1, f0, f1⟩)
                    (first | (go_at_call 86; refine (l2less_any _ _ _ _ _).mono ?_; rw [HLS.out]; rintro e w5 ⟨rfl, hB⟩; have e0 := (hB.cell (p := ⟨b, off + k * 2, none⟩) (World.block_lt_of_cell? _ _ c0)).trans c0; have e1 := (hB.cell (p := ⟨b, off + k * 2 + 1, none⟩) (World.block_lt_of_cell? _ _ c1)).trans c1; have f0 := (hB.cell (p := ⟨g, m * 2, none⟩) (World.block_lt_of_cell? _ _ d0)).trans d0; have f1 := (hB.cell (p := ⟨g, m * 2 + 1, none⟩) (World.block_lt_of_cell? _ _ d1)).trans d1; have HBB := Lib.hid (below_via HBB.out hB); clear hB))
                  clear hw1
                  obtain ⟨y0, x0⟩ := row_some (j := j * 2) (HROW.out.keep HBB.out) (by have := HCS.out; omega)
                  obtain ⟨y1, x1⟩ := row_some (j := j * 2 + 1) (HROW.out.keep HBB.out) (by have := HCS.out; omega)
                  have z0 := (HROW.out.keep HBB.out).free (j * 2)
                  have z1 := (HROW.out.keep HBB.out).free (j * 2 + 1)
                  go_wp2
                  go_roundw
                  case rel =>
                    have hp := (HP.out.keep HBB.out)
                    rw [← HM2.out] at hp
                    have := hp.shift HS.out.length hmk HBG.out hk1 HLS.out
                    rw [HM2.out] at this
                    exact ⟨m, by omega, rfl, this⟩
                  case measure => simp [intOf]; omega
                | false =>
                  go_wp2_with fail
                  have hw1 : IntKind.i64.wrap (m : Int) = (m : Int) := IntWalk.i64_in _ (by omega)
                  go_region_held3 (fun w' => Hid (Below wr.heap.size wr w') ∧ w'.cell? ⟨b, off + k * 2, none⟩ = some (.string (keyAt l k)) ∧ w'.cell? ⟨b, off + k * 2 + 1, none⟩ = some (.int .i64 (numAt l k)) ∧ w'.cell? ⟨g, m * 2, none⟩ = some (.string (keyAt V m)) ∧ w'.cell? ⟨g, m * 2 + 1, none⟩ = some (.int .i64 (numAt V m)))
                    (first | exact ⟨HBB, c0, c1, d0, d1⟩ | exact ⟨HBB, e0, e1, f0, f1⟩)
                    (first | (go_at_call 86; refine (l2less_any _ _ _ _ _).mono ?_; rw [HLS.out]; rintro e w5 ⟨rfl, hB⟩; have e0 := (hB.cell (p := ⟨b, off + k * 2, none⟩) (World.block_lt_of_cell? _ _ c0)).trans c0; have e1 := (hB.cell (p := ⟨b, off + k * 2 + 1, none⟩) (World.block_lt_of_cell? _ _ c1)).trans c1; have f0 := (hB.cell (p := ⟨g, m * 2, none⟩) (World.block_lt_of_cell? _ _ d0)).trans d0; have f1 := (hB.cell (p := ⟨g, m * 2 + 1, none⟩) (World.block_lt_of_cell? _ _ d1)).trans d1; have HBB := Lib.hid (below_via HBB.out hB); clear hB))
                  clear hw1
                  obtain ⟨y0, x0⟩ := row_some (j := j * 2) (HROW.out.keep HBB.out) (by have := HCS.out; omega)
                  obtain ⟨y1, x1⟩ := row_some (j := j * 2 + 1) (HROW.out.keep HBB.out) (by have := HCS.out; omega)
                  have z0 := (HROW.out.keep HBB.out).free (j * 2)
                  have z1 := (HROW.out.keep HBB.out).free (j * 2 + 1)
                  have hah : ∀ y ∈ V.take j, leR y (keyAt l k, numAt l k) = true := by
                    rw [← HM2.out]
                    refine ahead_all HS.out.order hmv ?_
                    rw [at_get V m hmv]
                    unfold leR
                    rw [HLS.out]; rfl
                  have HD := Lib.hid ((HP.out.keep HBB.out).done HS.out hj HBG.out hk1 HMX.out (by rw [HL.out]; exact hlt) HOK.out hah)
                  clear hah
                  go_wp2
                  go_roundw
                  case rel => exact ⟨k + 1, _, _, _, by omega, rfl, by go_num, HD.out⟩
                  case measure => simp [intOf]; omega
              · obtain rfl : j = 0 := by omega
                rw [show (((0 : Nat)) : Int) = 0 from rfl]
                have HBB := Lib.hid ((Below.refl wr.heap.size wr).drew)
                go_wp2_with fail
                refine wp_region_noPanic ?_
                refine wp_region_any (by kernel_rfl) ?_
                change wpAny _ _ _ _ _ _ _ (World.drew _)
                refine hand_take (i := 0) (d := 32) (v := .int .i64 0) rfl rfl (by kernel_rfl) (by kernel_rfl) (by kernel_rfl) (by kernel_rfl) (fun wx => by go_simp) ?_
                refine hand_take (i := 1) (d := 33) (v := .bool false) rfl rfl (by kernel_rfl) (by kernel_rfl) (by kernel_rfl) (by kernel_rfl) (fun wx => by go_simp) ?_
                refine hand_take (i := 2) (d := 34) (v := .bool false) rfl rfl (by kernel_rfl) (by kernel_rfl) (by kernel_rfl) (by kernel_rfl) (fun wx => by go_simp) ?_
                refine hand_skip (i := 3) (d := 35) rfl rfl (by kernel_rfl) (by kernel_rfl) (by kernel_rfl) (by kernel_rfl) ?_
                refine hand_skip (i := 4) (d := 36) rfl rfl (by kernel_rfl) (by kernel_rfl) (by kernel_rfl) (by kernel_rfl) ?_
                refine hand_skip (i := 5) (d := 37) rfl rfl (by kernel_rfl) (by kernel_rfl) (by kernel_rfl) (by kernel_rfl) ?_
                refine hand_skip (i := 6) (d := 38) rfl rfl (by kernel_rfl) (by kernel_rfl) (by kernel_rfl) (by kernel_rfl) ?_
                refine hand_skip (i := 7) (d := 39) rfl rfl (by kernel_rfl) (by kernel_rfl) (by kernel_rfl) (by kernel_rfl) ?_
                refine hand_skip (i := 8) (d := 40) rfl rfl (by kernel_rfl) (by kernel_rfl) (by kernel_rfl) (by kernel_rfl) ?_
                refine hand_skip (i := 9) (d := 41) rfl rfl (by kernel_rfl) (by kernel_rfl) (by kernel_rfl) (by kernel_rfl) ?_
                refine hand_skip (i := 10) (d := 42) rfl rfl (by kernel_rfl) (by kernel_rfl) (by kernel_rfl) (by kernel_rfl) ?_
                refine hand_skip (i := 11) (d := 43) rfl rfl (by kernel_rfl) (by kernel_rfl) (by kernel_rfl) (by kernel_rfl) ?_
                refine hand_skip (i := 12) (d := 44) rfl rfl (by kernel_rfl) (by kernel_rfl) (by kernel_rfl) (by kernel_rfl) ?_
                refine hand_take (i := 13) (d := 45) (v := .bool false) rfl rfl (by kernel_rfl) (by kernel_rfl) (by kernel_rfl) (by kernel_rfl) (fun wx => by go_simp) ?_
                refine wpAny_done (by kernel_rfl) (NoPanic.normal ?_) _
                simp only [List.setIfInBounds_toArray, List.set_cons_zero, List.set_cons_succ]
                obtain ⟨y0, x0⟩ := row_some (j := 0) HROW.out (by have := HCS.out; omega)
                obtain ⟨y1, x1⟩ := row_some (j := 1) HROW.out (by have := HCS.out; omega)
                have z0 := HROW.out.free 0
                have z1 := HROW.out.free 1
                have HD := Lib.hid ((HP.out.keep HBB.out).done HS.out hj HBG.out hk1 HMX.out (by rw [HL.out]; exact hlt) HOK.out (by simp))
                go_wp2
                go_roundw
                case rel => exact ⟨k + 1, _, _, _, by omega, rfl, by go_num, HD.out⟩
                case measure => simp [intOf]; omega
      · obtain rfl : k = len := by omega
        have HQ := Lib.hid (sort_end HS.out HL.out (by omega))
        go_wp2
        go_ret
        rw [HQ.out]
        exact ⟨q, cp, by rw [HS.out.length]; rfl, rs_of_own (by rw [HS.out.length]; exact HS.out.own), HS.out.below, by rw [HS.out.length]; exact (own_cap HS.out.own).1, (own_cap HS.out.own).2⟩
end Go.Proofs.YtjofbeokkainlaaGreatDoor
namespace Go.Proofs.YtjofbeokkainlaaGreatDoor
open Go.ChangeShapes Go.WideShapes Go.ChangeAt Go.RowKit
set_option linter.unusedVariables false
set_option maxRecDepth 100000

theorem recs_cells {w : World} {b off n : Nat} {l : Recs} (h : RecsAt w (some ⟨b, off, none⟩) n l) : ∀ j u, (cellsL l)[j]? = some u → w.cell? ((⟨b, off, none⟩ : Addr).add j) = some u := by
  intro j u hj
  have hl := h.length
  have hjl : j < l.length * 2 := by
    obtain ⟨h1, _⟩ := List.getElem?_eq_some_iff.1 hj
    rw [cellsL_len] at h1; exact h1
  rcases h.src with h0 | ⟨b', off', hq, hb, hc⟩
  · omega
  · simp only [Option.some.injEq, Addr.mk.injEq, and_true] at hq
    obtain ⟨rfl, rfl⟩ := hq
    obtain ⟨e1, e2⟩ := cellsL_get l (j / 2) (by omega)
    obtain ⟨c1, c2⟩ := hc (j / 2) (by omega)
    have ead : ((⟨b, off, none⟩ : Addr).add j) = ⟨b, off + j, none⟩ := by simp [Addr.add]
    rw [ead]
    rcases Nat.mod_two_eq_zero_or_one j with hm | hm
    · have e : j / 2 * 2 = j := by omega
      rw [e] at e1 c1
      rw [c1, ← hj, e1]
    · have e : j / 2 * 2 + 1 = j := by omega
      have e' : off + j / 2 * 2 + 1 = off + j := by omega
      rw [e] at e2
      rw [e'] at c2
      rw [c2, ← hj, e2]
theorem recs_cellsO {w : World} {ad : Addr} {n : Nat} {l : Recs} (h : RecsAt w (some ad) n l) : ∀ j u, (cellsL l)[j]? = some u → w.cell? (ad.add j) = some u := by
  rcases h.src with h0 | ⟨b, off, hq, _, _⟩
  · have : l = [] := List.length_eq_zero_iff.1 (h.length.trans h0)
    subst this
    intro j u hj
    simp [cellsL] at hj
  · simp only [Option.some.injEq] at hq
    subst hq
    exact recs_cells h
theorem cellsL_one (l : Recs) : ∀ u ∈ cellsL l, u.oneCell' = true := by
  intro u hu
  unfold cellsL at hu
  obtain ⟨r, _, hr⟩ := List.mem_flatMap.1 hu
  simp at hr
  rcases hr with rfl | rfl <;> rfl
theorem recs_tail {w : World} {b off n : Nat} {p : ByteArray × Int} {l : Recs} (h : RecsAt w (some ⟨b, off, none⟩) n (p :: l)) : RecsAt w (some ⟨b, off + 2, none⟩) (n - 1) l := by
  have hl := h.length
  have hm := h.max
  rw [List.length_cons] at hl
  have hat : ∀ i, keyAt l i = keyAt (p :: l) (i + 1) ∧ numAt l i = numAt (p :: l) (i + 1) := by
    intro i
    unfold keyAt numAt
    rw [List.getD_cons_succ]
    exact ⟨rfl, rfl⟩
  refine ⟨by omega, by omega, fun i hi => ?_, ?_⟩
  · rw [(hat i).1]; exact h.keys (i + 1) (by omega)
  · rcases h.src with h0 | ⟨b', off', hq, hb, hc⟩
    · omega
    · simp only [Option.some.injEq, Addr.mk.injEq, and_true] at hq
      obtain ⟨rfl, rfl⟩ := hq
      refine .inr ⟨b, off + 2, rfl, hb, fun i hi => ?_⟩
      rw [(hat i).1, (hat i).2]
      have := hc (i + 1) (by omega)
      rw [show off + (i + 1) * 2 = off + 2 + i * 2 by omega] at this
      exact this
theorem recs_one_left {w : World} {q q' : Option Addr} {n : Nat} {p : ByteArray × Int} {l : Recs} (h : RecsAt w q n (p :: l)) (hn : n ≤ 1) : RecsAt w q' (n - 1) l := by
  have hl := h.length
  rw [List.length_cons] at hl
  have h0 : n - 1 = 0 := by omega
  rw [h0]
  exact ⟨by omega, Nat.zero_le _, fun i hi => by omega, .inl rfl⟩

theorem recless_val {s u : ByteArray} {n m : Int} {x : Bool} (w : World) (h : (okB s && okB u && lessB s n u m) = x) : Calls Tryz.prog 222 #[.agg #[.string s, .int .i64 n], .agg #[.string u, .int .i64 m]] w (MadeBool x w) := h ▸ recless_any s n u m w

/-- Both lists as they are left, and what has been put out. -/
structure MgSt (w wr : World) (qa : Option Addr) (x : Nat) (A : Recs) (qb : Option Addr) (y : Nat) (B : Recs) (v : Value) (n : Nat) (W T : Recs) : Prop where
  ra : RecsAt w qa x A
  rb : RecsAt w qb y B
  own : wr.ownsRow w.heap.size 37 2 v n (cellsL W)
  length : W.length = n
  below : Below w.heap.size w wr
  sum : W ++ mergeL A B = T
  ka : ∀ r ∈ A, r.1.size ≤ 40
  kb : ∀ r ∈ B, r.1.size ≤ 40

theorem MgSt.stepB {w wr w3 : World} {qa qb qb' : Option Addr} {x y n : Nat} {A B W T : Recs} {v v' : Value} {s u : ByteArray} {m z : Int} (h : MgSt w wr qa x ((s, m) :: A) qb y ((u, z) :: B) v n W T) (hle : leR (s, m) (u, z) = false)
    (hb : RecsAt w qb' (y - 1) B) (hown : w3.ownsRow w.heap.size 37 2 v' (n + 1) (cellsL W ++ [.string u, .int .i64 z])) (hB : Below w.heap.size w w3) : MgSt w w3 qa x ((s, m) :: A) qb' (y - 1) B v' (n + 1) (W ++ [(u, z)]) T :=
  ⟨h.ra, hb, by rw [cellsL_snoc]; exact hown, by simp [h.length], hB, by rw [← h.sum, mergeL_b hle], h.ka, fun r hr => h.kb r (List.mem_cons_of_mem _ hr)⟩
theorem MgSt.stepA {w wr w3 : World} {qa qa' qb : Option Addr} {x y n : Nat} {A B W T : Recs} {v v' : Value} {s u : ByteArray} {m z : Int} (h : MgSt w wr qa x ((s, m) :: A) qb y ((u, z) :: B) v n W T) (hle : leR (s, m) (u, z) = true)
    (ha : RecsAt w qa' (x - 1) A) (hown : w3.ownsRow w.heap.size 37 2 v' (n + 1) (cellsL W ++ [.string s, .int .i64 m])) (hB : Below w.heap.size w w3) : MgSt w w3 qa' (x - 1) A qb y ((u, z) :: B) v' (n + 1) (W ++ [(s, m)]) T :=
  ⟨ha, h.rb, by rw [cellsL_snoc]; exact hown, by simp [h.length], hB, by rw [← h.sum, mergeL_a hle], fun r hr => h.ka r (List.mem_cons_of_mem _ hr), h.kb⟩

def lenOfS : Value → Nat | .slice _ n _ => n | _ => 0

end Go.Proofs.YtjofbeokkainlaaGreatDoor
namespace Go.Proofs.YtjofbeokkainlaaGreatDoor
open Go.ChangeShapes Go.WideShapes Go.ChangeAt Go.RowKit
set_option linter.unusedVariables false
set_option maxRecDepth 100000

theorem bltIff (x y : List UInt8) : Op.bytesLess x y = true ↔ x < y := by
  induction x generalizing y with
  | nil => cases y <;> simp [Op.bytesLess]
  | cons a x ih =>
    cases y with
    | nil => simp [Op.bytesLess]
    | cons b y =>
      rw [List.cons_lt_cons_iff, ← ih y]
      rw [show Op.bytesLess (a :: x) (b :: y) = (decide (a < b) || a == b && Op.bytesLess x y) from rfl]
      by_cases h1 : a < b
      · simp [h1]
      · by_cases h2 : a = b
        · subst h2; simp
        · simp [h1, h2]

abbrev Txts := List ByteArray
def ltT (s u : ByteArray) : Bool := Op.bytesLess s.toList u.toList
theorem ltT_iff {s u : ByteArray} : ltT s u = true ↔ s.toList < u.toList := bltIff _ _
def leT (a b : ByteArray) : Bool := !ltT b a
theorem leT_iff {a b : ByteArray} : leT a b = true ↔ ¬ b.toList < a.toList := by unfold leT; rw [Bool.not_eq_true', ← Bool.not_eq_true, ltT_iff]
def mergeT (l k : Txts) : Txts := List.merge l k leT
theorem mergeT_b {W A B : Txts} {x y : ByteArray} (h : ltT y x = true) : W ++ mergeT (x :: A) (y :: B) = (W ++ [y]) ++ mergeT (x :: A) B := by
  have h' : leT x y = false := by unfold leT; rw [h]; rfl
  unfold mergeT
  rw [List.cons_merge_cons, h', if_neg (by simp), List.append_assoc]; rfl
theorem mergeT_a {W A B : Txts} {x y : ByteArray} (h : ltT y x = false) : W ++ mergeT (x :: A) (y :: B) = (W ++ [x]) ++ mergeT A (y :: B) := by
  have h' : leT x y = true := by unfold leT; rw [h]; rfl
  unfold mergeT
  rw [List.cons_merge_cons, h', if_pos rfl, List.append_assoc]; rfl
theorem mergeT_nil {A B : Txts} (h : A = [] ∨ B = []) : mergeT A B = A ++ B := by
  unfold mergeT
  rcases h with rfl | rfl
  · rw [List.nil_merge]; rfl
  · rw [List.merge_right, List.append_nil]
theorem mergeT_len (l k : Txts) : (mergeT l k).length = l.length + k.length := by
  have := (List.merge_perm_append leT (xs := l) (ys := k)).length_eq
  rw [List.length_append] at this
  exact this
theorem mergeT_mem (l k : Txts) (x : ByteArray) : x ∈ mergeT l k ↔ x ∈ l ∨ x ∈ k := by
  show x ∈ List.merge l k leT ↔ _
  rw [(List.merge_perm_append leT (xs := l) (ys := k)).mem_iff, List.mem_append]

/-- Strictly increasing. -/
def IncT (l : Txts) : Prop := l.Pairwise (fun a b => a.toList < b.toList)
theorem inc_cons {x : ByteArray} {l : Txts} : IncT (x :: l) ↔ (∀ y ∈ l, x.toList < y.toList) ∧ IncT l := List.pairwise_cons
theorem inc_merge : ∀ (n : Nat) (l k : Txts), l.length + k.length ≤ n → (IncT (mergeT l k) ↔ IncT l ∧ IncT k ∧ ∀ a ∈ l, ∀ b ∈ k, a.toList ≠ b.toList) := by
  intro n
  induction n with
  | zero =>
    intro l k h
    obtain rfl : l = [] := List.length_eq_zero_iff.1 (by omega)
    obtain rfl : k = [] := List.length_eq_zero_iff.1 (by omega)
    rw [mergeT_nil (.inl rfl)]
    simp [IncT]
  | succ n ih =>
    intro l k h
    cases l with
    | nil =>
      rw [mergeT_nil (.inl rfl)]
      simp [IncT]
    | cons x A =>
      cases k with
      | nil =>
        rw [mergeT_nil (.inr rfl), List.append_nil]
        simp [IncT]
      | cons y B =>
        simp only [List.length_cons] at h
        cases hxy : ltT y x with
        | true =>
          have e := mergeT_b (W := []) (A := A) (B := B) hxy
          simp only [List.nil_append, List.singleton_append] at e
          rw [e, inc_cons, ih _ _ (by simp only [List.length_cons]; omega), inc_cons, inc_cons]
          have hyx := ltT_iff.1 hxy
          constructor
          · rintro ⟨h1, ⟨h2, h3⟩, h4, h5⟩
            refine ⟨⟨h2, h3⟩, ⟨fun b hb => h1 b ((mergeT_mem _ _ _).2 (.inr hb)), h4⟩, ?_⟩
            intro a ha b hb
            rcases List.mem_cons.1 hb with rfl | hb
            · have := h1 a ((mergeT_mem _ _ _).2 (.inl ha))
              intro he
              rw [he] at this
              exact List.lt_irrefl _ this
            · exact h5 a ha b hb
          · rintro ⟨⟨h2, h3⟩, ⟨h4, h5⟩, h6⟩
            refine ⟨?_, ⟨h2, h3⟩, h5, fun a ha b hb => h6 a ha b (List.mem_cons_of_mem _ hb)⟩
            intro b hb
            rcases (mergeT_mem _ _ _).1 hb with hb | hb
            · rcases List.mem_cons.1 hb with rfl | hb
              · exact hyx
              · exact List.lt_trans hyx (h2 b hb)
            · exact h4 b hb
        | false =>
          have e := mergeT_a (W := []) (A := A) (B := B) hxy
          simp only [List.nil_append, List.singleton_append] at e
          rw [e, inc_cons, ih _ _ (by simp only [List.length_cons]; omega), inc_cons, inc_cons]
          have hyx : ¬ y.toList < x.toList := by rw [← ltT_iff, hxy]; simp
          constructor
          · rintro ⟨h1, h2, ⟨h3, h4⟩, h5⟩
            refine ⟨⟨fun a ha => h1 a ((mergeT_mem _ _ _).2 (.inl ha)), h2⟩, ⟨h3, h4⟩, ?_⟩
            intro a ha b hb
            rcases List.mem_cons.1 ha with rfl | ha
            · have := h1 b ((mergeT_mem _ _ _).2 (.inr hb))
              intro he
              rw [he] at this
              exact List.lt_irrefl _ this
            · exact h5 a ha b hb
          · rintro ⟨⟨h1, h2⟩, ⟨h3, h4⟩, h5⟩
            have hlt : x.toList < y.toList := by
              by_cases hl : x.toList < y.toList
              · exact hl
              · exact absurd (List.le_antisymm hyx hl) (h5 x (List.mem_cons_self ..) y (List.mem_cons_self ..))
            refine ⟨?_, h2, ⟨h3, h4⟩, fun a ha b hb => h5 a (List.mem_cons_of_mem _ ha) b hb⟩
            intro b hb
            rcases (mergeT_mem _ _ _).1 hb with hb | hb
            · exact h1 b hb
            · rcases List.mem_cons.1 hb with rfl | hb
              · exact hlt
              · exact List.lt_trans hlt (h3 b hb)

def txt (l : Txts) (i : Nat) : ByteArray := l.getD i ByteArray.empty
theorem txt_get (l : Txts) (i : Nat) (h : i < l.length) : l[i] = txt l i := by unfold txt; rw [List.getD_eq_getElem?_getD, List.getElem?_eq_getElem h]; rfl
/-- Neighbours in order: all in order. -/
theorem inc_adj : ∀ {l : Txts}, (∀ i, i + 1 < l.length → (txt l i).toList < (txt l (i + 1)).toList) → IncT l
  | [], _ => List.Pairwise.nil
  | [x], _ => List.pairwise_singleton _ _
  | x :: y :: t, h => by
    have ih : IncT (y :: t) := inc_adj (fun i hi => by
      have := h (i + 1) (by simpa using hi)
      simpa [txt] using this)
    have h0 : x.toList < y.toList := by
      have := h 0 (by simp)
      simpa [txt] using this
    refine inc_cons.2 ⟨fun z hz => ?_, ih⟩
    rcases List.mem_cons.1 hz with rfl | hz
    · exact h0
    · exact List.lt_trans h0 ((inc_cons.1 ih).1 z hz)
theorem inc_at {l : Txts} (h : IncT l) {i j : Nat} (hij : i < j) (hj : j < l.length) : (txt l i).toList < (txt l j).toList := by
  have := List.pairwise_iff_getElem.1 h i j (by omega) hj hij
  rw [txt_get _ _ (by omega), txt_get _ _ hj] at this
  exact this
theorem inc_not {l : Txts} {i : Nat} (hi : i + 1 < l.length) (h : ltT (txt l i) (txt l (i + 1)) = false) : ¬ IncT l := fun hl => by
  have := inc_at hl (Nat.lt_succ_self i) hi
  rw [← ltT_iff, h] at this
  cases this

/-- Where a text stands in a list that is in order, or would stand. -/
def posT (l : Txts) (key : ByteArray) : Nat := (l.takeWhile (ltT · key)).length
def isT (l : Txts) (key : ByteArray) : Bool := decide (posT l key < l.length) && (txt l (posT l key)).toList == key.toList
theorem posT_le (l : Txts) (key : ByteArray) : posT l key ≤ l.length := (List.takeWhile_prefix _).length_le
theorem posT_eq : ∀ {l : Txts} {key : ByteArray} {k : Nat}, k ≤ l.length → (∀ j, j < k → ltT (txt l j) key = true) → (k < l.length → ltT (txt l k) key = false) → posT l key = k
  | [], key, k, hk, _, _ => by
    have : k = 0 := by simpa using hk
    subst this; rfl
  | x :: t, key, 0, hk, _, h2 => by
    have : ltT x key = false := h2 (by simp)
    unfold posT
    rw [List.takeWhile_cons, this]; rfl
  | x :: t, key, k + 1, hk, h1, h2 => by
    have h0 : ltT x key = true := h1 0 (by omega)
    have ih := posT_eq (l := t) (key := key) (k := k) (by simpa using hk) (fun j hj => h1 (j + 1) (by omega)) (fun hl => h2 (by simpa using hl))
    unfold posT at ih ⊢
    rw [List.takeWhile_cons, h0]
    simp [ih]
theorem posT_before : ∀ {l : Txts} {key : ByteArray} {j : Nat}, j < posT l key → ltT (txt l j) key = true
  | [], key, j, h => by simp [posT] at h
  | x :: t, key, j, h => by
    unfold posT at h
    rw [List.takeWhile_cons] at h
    cases hx : ltT x key with
    | false => rw [hx] at h; simp at h
    | true =>
      rw [hx] at h
      simp at h
      cases j with
      | zero => exact hx
      | succ j => exact posT_before (l := t) (by unfold posT; omega)
theorem posT_at : ∀ {l : Txts} {key : ByteArray}, posT l key < l.length → ltT (txt l (posT l key)) key = false
  | [], key, h => by simp at h
  | x :: t, key, h => by
    cases hx : ltT x key with
    | false =>
      have : posT (x :: t) key = 0 := by unfold posT; rw [List.takeWhile_cons, hx]; rfl
      rw [this]; exact hx
    | true =>
      have e : posT (x :: t) key = posT t key + 1 := by unfold posT; rw [List.takeWhile_cons, hx]; rfl
      rw [e] at h ⊢
      exact posT_at (l := t) (by simpa using h)
theorem isT_iff {l : Txts} {key : ByteArray} (h : IncT l) : isT l key = true ↔ ∃ s ∈ l, s.toList = key.toList := by
  unfold isT
  rw [Bool.and_eq_true, decide_eq_true_eq, beq_iff_eq]
  constructor
  · rintro ⟨h1, h2⟩
    refine ⟨txt l (posT l key), ?_, h2⟩
    rw [← txt_get l _ h1]
    exact List.getElem_mem _
  · rintro ⟨s, hs, he⟩
    obtain ⟨i, hi, rfl⟩ := List.getElem_of_mem hs
    rw [txt_get _ _ hi] at he
    have hp : posT l key = i := posT_eq (by omega) (fun j hj => by rw [ltT_iff, ← he]; exact inc_at h hj hi) (fun _ => by
      rw [← Bool.not_eq_true, ltT_iff, he]; exact List.lt_irrefl _)
    rw [hp]
    exact ⟨hi, he⟩

def okeys (l : Objs) : Txts := l.map (·.1)
def gkeys (m : Gones) : Txts := m.map (·.1)
theorem okeys_len (l : Objs) : (okeys l).length = l.length := by unfold okeys; simp
theorem gkeys_len (m : Gones) : (gkeys m).length = m.length := by unfold gkeys; simp
theorem okeys_at (l : Objs) (i : Nat) : txt (okeys l) i = obj0 l i := by
  unfold txt okeys obj0
  rw [List.getD_eq_getElem?_getD, List.getD_eq_getElem?_getD, List.getElem?_map]
  cases l[i]? <;> rfl
theorem gkeys_at (m : Gones) (i : Nat) : txt (gkeys m) i = gone0 m i := by
  unfold txt gkeys gone0
  rw [List.getD_eq_getElem?_getD, List.getD_eq_getElem?_getD, List.getElem?_map]
  cases m[i]? <;> rfl

def objOk (l : Objs) (i : Nat) : Prop := keyB (obj0 l i) = true ∧ inB (obj1 l i) 1 1000000 = true ∧ (obj2 l i).size ≤ 30000
def gonOk (m : Gones) (i : Nat) : Prop := keyB (gone0 m i) = true ∧ inB (gone1 m i) 1 1000000 = true
/-- A valid store. -/
structure StoP (l : Objs) (m : Gones) : Prop where
  few : l.length + m.length ≤ 1100
  objs : ∀ i, i < l.length → objOk l i
  gons : ∀ i, i < m.length → gonOk m i
  oinc : IncT (okeys l)
  ginc : IncT (gkeys m)
  apart : ∀ a ∈ okeys l, ∀ b ∈ gkeys m, a.toList ≠ b.toList
/-- A bool that says whether p. -/
def SaysB (p : Prop) (w : World) (e : Ending) (w' : World) : Prop := ∃ b : Bool, e = .returned (.bool b) ∧ (b = true ↔ p) ∧ Below w.heap.size w w'
end Go.Proofs.YtjofbeokkainlaaGreatDoor
