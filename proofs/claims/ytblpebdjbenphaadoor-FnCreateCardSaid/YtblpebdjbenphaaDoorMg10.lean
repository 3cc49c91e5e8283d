/- Texts put together, as a claim holds at most sixty files. -/
import Derived.Test.YtblpebdjbenphaaDoorMg7
import Derived.Test.YtblpebdjbenphaaDoorMg9
import Derived.Test.YtblpebdjbenphaaDoorMg2
import Derived.Test.YtblpebdjbenphaaDoorMg8
namespace Go.Proofs.YtblpebdjbenphaaDoor
open Go.ChangeShapes Go.WideShapes Go.ChangeAt Go.RowKit
set_option linter.unusedVariables false
set_option maxRecDepth 100000

theorem isnan_str (s : ByteArray) (w : World) : Calls Tryd.prog 70 #[.string s] w (SameBool false w) := by
  go_enter Tryd.func70, Tryd.ntmps70
  go_wp2
  go_ret
  exact ⟨ret_bool (by simp), rfl⟩
theorem less_str (s u : ByteArray) (w : World) : Calls Tryd.prog 55 #[.string s, .string u] w (SameBool (ltT s u) w) := by
  go_enter Tryd.func55, Tryd.ntmps55
  go_wp2_with (go_at_call 70; refine (isnan_str _ _).mono ?_; rintro e w' ⟨rfl, rfl⟩)
  go_ret
  exact ⟨rfl, rfl⟩
theorem same_quietT {f : FuncId} {args : Array Value} {w : World} {n : Nat} {b c : Bool} (h : Calls Tryd.prog f args (w.drewN n) (SameBool b (w.drewN n))) (hb : b = c) :
    Calls Tryd.prog f args (w.drewN n) fun e w'' => e = .returned (.bool c) ∧ ∃ m, w'' = w.drewN m := h.mono fun _ _ ⟨he, hw⟩ => ⟨by rw [he, hb], n, hw.symm⟩

theorem strs_cells {w : World} {b off n : Nat} {l : Strs} (h : StrsAt w (some ⟨b, off, none⟩) n l) : ∀ j u, (l.map Value.string)[j]? = some u → w.cell? ((⟨b, off, none⟩ : Addr).add j) = some u := by
  intro j u hj
  have hl := h.length
  have hjl : j < l.length := by
    obtain ⟨h1, _⟩ := List.getElem?_eq_some_iff.1 hj
    simpa using h1
  rcases h.src with h0 | ⟨b', off', hq, hb, hc⟩
  · omega
  · simp only [Option.some.injEq, Addr.mk.injEq, and_true] at hq
    obtain ⟨rfl, rfl⟩ := hq
    have e : (l.map Value.string)[j]? = some (.string (strAt l j)) := by
      unfold strAt
      rw [List.getElem?_map, List.getD_eq_getElem?_getD, List.getElem?_eq_getElem hjl]; rfl
    rw [e] at hj
    rw [← hj]
    have := hc j (by omega)
    by_cases hj0 : j = 0
    · subst hj0
      simpa [Addr.add] using this
    · simpa [Addr.add, hj0] using this
theorem strs_one (l : Strs) : ∀ u ∈ l.map Value.string, u.oneCell' = true := by
  intro u hu
  obtain ⟨s, _, rfl⟩ := List.mem_map.1 hu
  rfl
theorem strs_tail {w : World} {b off n : Nat} {p : ByteArray} {l : Strs} (h : StrsAt w (some ⟨b, off, none⟩) n (p :: l)) : StrsAt w (some ⟨b, off + 1, none⟩) (n - 1) l := by
  have hl := h.length
  have hm := h.max
  rw [List.length_cons] at hl
  have hat : ∀ i, strAt l i = strAt (p :: l) (i + 1) := by
    intro i
    unfold strAt
    rw [List.getD_cons_succ]
  refine ⟨by omega, by omega, fun i hi => ?_, ?_⟩
  · rw [hat i]; exact h.sizes (i + 1) (by omega)
  · rcases h.src with h0 | ⟨b', off', hq, hb, hc⟩
    · omega
    · simp only [Option.some.injEq, Addr.mk.injEq, and_true] at hq
      obtain ⟨rfl, rfl⟩ := hq
      refine .inr ⟨b, off + 1, rfl, hb, fun i hi => ?_⟩
      rw [hat i]
      have := hc (i + 1) (by omega)
      rw [show off + (i + 1) = off + 1 + i by omega] at this
      exact this
theorem strs_one_left {w : World} {q q' : Option Addr} {n : Nat} {p : ByteArray} {l : Strs} (h : StrsAt w q n (p :: l)) (hn : n ≤ 1) : StrsAt w q' (n - 1) l := by
  have hl := h.length
  rw [List.length_cons] at hl
  have h0 : n - 1 = 0 := by omega
  rw [h0]
  exact ⟨by omega, Nat.zero_le _, fun i hi => by omega, .inl rfl⟩

/-- Both lists as they are left, and what has been put out. -/
structure MTt (w wr : World) (qa : Option Addr) (x : Nat) (A : Strs) (qb : Option Addr) (y : Nat) (B : Strs) (v : Value) (n : Nat) (W T : Strs) : Prop where
  ra : StrsAt w qa x A
  rb : StrsAt w qb y B
  own : wr.ownsRow w.heap.size 9 1 v n (W.map Value.string)
  length : W.length = n
  below : Below w.heap.size w wr
  sum : W ++ mergeT A B = T
theorem map_snoc (W : Strs) (s : ByteArray) : (W ++ [s]).map Value.string = W.map Value.string ++ [.string s] := by simp
theorem MTt.stepB {w wr w3 : World} {qa qb qb' : Option Addr} {x y n : Nat} {A B W T : Strs} {v v' : Value} {s u : ByteArray} (h : MTt w wr qa x (s :: A) qb y (u :: B) v n W T) (hle : ltT u s = true)
    (hb : StrsAt w qb' (y - 1) B) (hown : w3.ownsRow w.heap.size 9 1 v' (n + 1) (W.map Value.string ++ [.string u])) (hB : Below w.heap.size w w3) : MTt w w3 qa x (s :: A) qb' (y - 1) B v' (n + 1) (W ++ [u]) T :=
  ⟨h.ra, hb, by rw [map_snoc]; exact hown, by simp [h.length], hB, by rw [← h.sum, mergeT_b hle]⟩
theorem MTt.stepA {w wr w3 : World} {qa qa' qb : Option Addr} {x y n : Nat} {A B W T : Strs} {v v' : Value} {s u : ByteArray} (h : MTt w wr qa x (s :: A) qb y (u :: B) v n W T) (hle : ltT u s = false)
    (ha : StrsAt w qa' (x - 1) A) (hown : w3.ownsRow w.heap.size 9 1 v' (n + 1) (W.map Value.string ++ [.string s])) (hB : Below w.heap.size w w3) : MTt w w3 qa' (x - 1) A qb y (u :: B) v' (n + 1) (W ++ [s]) T :=
  ⟨ha, h.rb, by rw [map_snoc]; exact hown, by simp [h.length], hB, by rw [← h.sum, mergeT_a hle]⟩

def lenOfT : Value → Nat | .slice _ n _ => n | _ => 0
def MadeKs (W : Strs) (w : World) (e : Ending) (w' : World) : Prop := ∃ q cp, e = .returned (.slice q W.length cp) ∧ Ks w.heap.size w' q W ∧ Below w.heap.size w w'
/-- .. in a row of its own that may grow. -/
def MadeKo (W : Strs) (w : World) (e : Ending) (w' : World) : Prop := ∃ q cp, e = .returned (.slice q W.length cp) ∧ w'.ownsRow w.heap.size 9 1 (.slice q W.length cp) W.length (W.map Value.string) ∧ Below w.heap.size w w'
theorem ko_ks {W : Strs} {w : World} {e : Ending} {w' : World} (h : MadeKo W w e w') : MadeKs W w e w' := by
  obtain ⟨q, cp, he, ho, hB⟩ := h
  exact ⟨q, cp, he, ks_of_own ho, hB⟩
theorem strs_own_low {w : World} {base b2 : Nat} {e : TypeId} {size n : Nat} {v : Value} {xs : List Value} (h : w.ownsRow base e size v n xs) (hb : b2 ≤ base) : w.ownsRow b2 e size v n xs := by
  refine ⟨h.1, ?_⟩
  rcases h.2 with h2 | ⟨g, cap, cur, hv, h1, r⟩
  · exact .inl h2
  · exact .inr ⟨g, cap, cur, hv, Nat.le_trans hb h1, r⟩

set_option maxHeartbeats 8000000 in
theorem mergedTo_any (ba oa la ca bb ob lb cb : Nat) (l k : Strs) (w : World) (ha : StrsAt w (some ⟨ba, oa, none⟩) la l) (hb : StrsAt w (some ⟨bb, ob, none⟩) lb k) (hca : la ≤ ca) (hcb : lb ≤ cb) (hcam : ca ≤ maxLen) (hcbm : cb ≤ maxLen) (h6 : la + lb ≤ 1048576) :
    Calls Tryd.prog 54 #[.slice (some ⟨ba, oa, none⟩) la ca, .slice (some ⟨bb, ob, none⟩) lb cb, .func (Fn.func 55) #[] #[]] w (MadeKo (mergeT l k) w) := by
  obtain ⟨i0, hi, hz0, hz1, hz2⟩ := info_parts infoStr
  have HA := Lib.hid ha
  have HB := Lib.hid hb
  have HCM := Lib.hid (And.intro hcam hcbm)
  clear ha hb hcam hcbm
  go_enter Tryd.func54, Tryd.ntmps54
  go_wp2_with (at_make; (refine wpList_make_own _ rfl _ _ 65 rfl w.heap.size 9 i0 _ 1 Tryd.underlying65 hi hz0 hz1 .i64 .i64 _ (la + lb) rfl rfl (by omega) (by rw [hz2]; omega) (by unfold maxLen; omega) (Nat.le_refl _) ?_); intro w1 hown hgrow; have HO := Lib.hid hown; have HG := Lib.hid ((Below.refl w.heap.size w).grown hgrow (Nat.le_refl _) (fun k hk => by cases hk)); clear hown hgrow)
  go_loopw [0, 1, 7] (fun sa sb v wr => ∃ (oa x ca ob y cb n : Nat) (q : Option Addr) (cp : Nat) (A B W : Strs), sa = .slice (some ⟨ba, oa, none⟩) x ca ∧ sb = .slice (some ⟨bb, ob, none⟩) y cb ∧ v = .slice q n cp ∧ x ≤ ca ∧ y ≤ cb ∧ n + x + y = la + lb ∧ Hid (MTt w wr (some ⟨ba, oa, none⟩) x A (some ⟨bb, ob, none⟩) y B v n W (mergeT l k) ∧ ca ≤ maxLen ∧ cb ≤ maxLen)) (fun sa sb _ _ => lenOfT sa + lenOfT sb)
  case atStart => exact ⟨oa, la, ca, ob, lb, cb, 0, _, _, l, k, [], rfl, rfl, rfl, hca, hcb, by omega, Lib.hid ⟨⟨HA.out, HB.out, HO.out, rfl, HG.out, rfl⟩, HCM.out⟩⟩
  case round =>
    obtain ⟨oa, x, ca, ob, y, cb, n, q, cp, A, B, W, rfl, rfl, rfl, hx, hy, hn, HS⟩ := hrel
    clear HO HG HA HB HCM
    by_cases hx0 : 0 < x
    · by_cases hy0 : 0 < y
      · obtain ⟨s, A, rfl⟩ : ∃ p A', A = p :: A' := by
          cases A with
          | nil => have := HS.out.1.ra.length; simp at this; omega
          | cons p A' => exact ⟨p, A', rfl⟩
        obtain ⟨u, B, rfl⟩ : ∃ p B', B = p :: B' := by
          cases B with
          | nil => have := HS.out.1.rb.length; simp at this; omega
          | cons p B' => exact ⟨p, B', rfl⟩
        have ra := HS.out.1.ra.keep HS.out.1.below
        have rb := HS.out.1.rb.keep HS.out.1.below
        have c0 : wr.cell? ⟨ba, oa, none⟩ = some (.string s) := strs_cells ra 0 _ rfl
        have d0 : wr.cell? ⟨bb, ob, none⟩ = some (.string u) := strs_cells rb 0 _ rfl
        have HO := Lib.hid HS.out.1.own
        have hi1 : (0 : Int) < (x : Int) := by omega
        have hi2 : (0 : Int) < (y : Int) := by omega
        have hxc : ca ≤ 9223372036854775807 := HS.out.2.1
        have hyc : cb ≤ 9223372036854775807 := HS.out.2.2
        clear ra rb
        cases hle : ltT u s with
        | true =>
          have HLE := Lib.hid hle
          clear hle
          go_wp2_with fail
          go_quiet ((go_at_call 55; exact same_quietT (less_str _ _ _) HLE.out))
          go_wp2_with (at_builtin; (refine wpList_append_own _ rfl _ _ 65 rfl w.heap.size 9 i0 _ 1 16 Tryd.underlying65 hi hz0 hz1 hz2 rfl (by decide) _ _ _ rfl ((own_below HO.out (below_drewN (Below.refl _ _) _)).alloc _) ⟨wr.heap.size, 0, none⟩ 1 1 [.string u] rfl rfl (one_new _ _ _) (fun u hu => by simp at hu; subst hu; rfl) (by unfold maxLen; omega) (by omega) (Nat.le_trans HS.out.1.below.size (by simp)) ?_); intro v' w3 hown1 hgrow hnil; have HO1 := Lib.hid hown1; have HB3 := Lib.hid ((below_alloc (below_drewN HS.out.1.below _) _).grown hgrow (below_alloc (below_drewN HS.out.1.below _) _).size (fun j hj => (HO.out.lt j hj).1)); clear hown1 hgrow hnil)
          obtain ⟨q1, cp1, rfl⟩ := own_form HO1.out
          go_roundw
          case rel =>
            by_cases hc1 : cb = 1
            · rw [if_pos hc1]
              exact ⟨oa, x, ca, ob, y - 1, cb - 1, n + 1, q1, cp1, _, B, _, rfl, rfl, rfl, hx, by omega, by omega, HS.out.1.stepB HLE.out (strs_one_left HS.out.1.rb (by omega)) HO1.out HB3.out, HS.out.2.1, Nat.le_trans (Nat.sub_le _ _) HS.out.2.2⟩
            · rw [if_neg hc1]
              exact ⟨oa, x, ca, ob + 1, y - 1, cb - 1, n + 1, q1, cp1, _, B, _, rfl, rfl, rfl, hx, by omega, by omega, HS.out.1.stepB HLE.out (strs_tail HS.out.1.rb) HO1.out HB3.out, HS.out.2.1, Nat.le_trans (Nat.sub_le _ _) HS.out.2.2⟩
          case measure => simp [lenOfT]; omega
        | false =>
          have HLE := Lib.hid hle
          clear hle
          go_wp2_with fail
          go_quiet ((go_at_call 55; exact same_quietT (less_str _ _ _) HLE.out))
          go_wp2_with (at_builtin; (refine wpList_append_own _ rfl _ _ 65 rfl w.heap.size 9 i0 _ 1 16 Tryd.underlying65 hi hz0 hz1 hz2 rfl (by decide) _ _ _ rfl ((own_below HO.out (below_drewN (Below.refl _ _) _)).alloc _) ⟨wr.heap.size, 0, none⟩ 1 1 [.string s] rfl rfl (one_new _ _ _) (fun u hu => by simp at hu; subst hu; rfl) (by unfold maxLen; omega) (by omega) (Nat.le_trans HS.out.1.below.size (by simp)) ?_); intro v' w3 hown1 hgrow hnil; have HO1 := Lib.hid hown1; have HB3 := Lib.hid ((below_alloc (below_drewN HS.out.1.below _) _).grown hgrow (below_alloc (below_drewN HS.out.1.below _) _).size (fun j hj => (HO.out.lt j hj).1)); clear hown1 hgrow hnil)
          obtain ⟨q1, cp1, rfl⟩ := own_form HO1.out
          go_roundw
          case rel =>
            by_cases hc1 : ca = 1
            · rw [if_pos hc1]
              exact ⟨oa, x - 1, ca - 1, ob, y, cb, n + 1, q1, cp1, A, _, _, rfl, rfl, rfl, by omega, hy, by omega, HS.out.1.stepA HLE.out (strs_one_left HS.out.1.ra (by omega)) HO1.out HB3.out, Nat.le_trans (Nat.sub_le _ _) HS.out.2.1, HS.out.2.2⟩
            · rw [if_neg hc1]
              exact ⟨oa + 1, x - 1, ca - 1, ob, y, cb, n + 1, q1, cp1, A, _, _, rfl, rfl, rfl, by omega, hy, by omega, HS.out.1.stepA HLE.out (strs_tail HS.out.1.ra) HO1.out HB3.out, Nat.le_trans (Nat.sub_le _ _) HS.out.2.1, HS.out.2.2⟩
          case measure => simp [lenOfT]; omega
      · obtain rfl : y = 0 := by omega
        have HE := Lib.hid (show W ++ A ++ B = mergeT l k by
          rw [← HS.out.1.sum, mergeT_nil (.inr (List.length_eq_zero_iff.1 HS.out.1.rb.length)), List.append_assoc])
        have HO := Lib.hid HS.out.1.own
        have HBW := Lib.hid HS.out.1.below
        have RA := Lib.hid (HS.out.1.ra.keep HS.out.1.below)
        have hLA := Lib.hid HS.out.1.ra.length
        go_wp2_with (first | (at_builtin; (refine wpList_append_own _ rfl _ _ 65 rfl w.heap.size 9 i0 _ 1 16 Tryd.underlying65 hi hz0 hz1 hz2 rfl (by decide) _ _ _ rfl HO1.out ⟨bb, ob, none⟩ 0 cb (B.map Value.string) rfl (by rw [List.length_map, RB.out.length, Nat.mul_one]) (strs_cells RB.out) (strs_one _) (by unfold maxLen; omega) (by omega) HB1.out.size ?_); intro v' w5 hown1 hgrow hnil; have HO2 := Lib.hid hown1; have HB2 := Lib.hid (HB1.out.grown hgrow HB1.out.size (fun j hj => (HO1.out.lt j hj).1)); have RB := Lib.hid (HS.out.1.rb.keep HB2.out); clear hown1 hgrow hnil) | (at_builtin; (refine wpList_append_own _ rfl _ _ 65 rfl w.heap.size 9 i0 _ 1 16 Tryd.underlying65 hi hz0 hz1 hz2 rfl (by decide) _ _ _ rfl HO.out ⟨ba, oa, none⟩ x ca (A.map Value.string) rfl (by rw [List.length_map, RA.out.length, Nat.mul_one]) (strs_cells RA.out) (strs_one _) (by unfold maxLen; omega) (by omega) HBW.out.size ?_); intro v' w4 hown1 hgrow hnil; have HO1 := Lib.hid hown1; have HB1 := Lib.hid (HBW.out.grown hgrow HBW.out.size (fun j hj => (HO.out.lt j hj).1)); have RB := Lib.hid (HS.out.1.rb.keep HB1.out); clear hown1 hgrow hnil))
        obtain ⟨q1, cp1, rfl⟩ := own_form HO2.out
        have hlT : (mergeT l k).length = n + x + 0 := by rw [← HE.out, List.length_append, List.length_append, HS.out.1.length, HS.out.1.ra.length, HS.out.1.rb.length]
        have HF := Lib.hid (show w5.ownsRow w.heap.size 9 1 (.slice q1 (mergeT l k).length cp1) (mergeT l k).length ((mergeT l k).map Value.string) by
          rw [hlT, ← HE.out, List.map_append, List.map_append]; exact HO2.out)
        go_ret
        exact ⟨q1, cp1, by rw [hlT]; rfl, HF.out, HB2.out⟩
    · have hx1 : x = 0 := by omega
      have HE := Lib.hid (show W ++ A ++ B = mergeT l k by
        rw [← HS.out.1.sum, mergeT_nil (.inl (List.length_eq_zero_iff.1 (by rw [HS.out.1.ra.length]; omega))), List.append_assoc])
      have HO := Lib.hid HS.out.1.own
      have HBW := Lib.hid HS.out.1.below
      have RA := Lib.hid (HS.out.1.ra.keep HS.out.1.below)
      have hLA := Lib.hid HS.out.1.ra.length
      go_wp2_with (first | (at_builtin; (refine wpList_append_own _ rfl _ _ 65 rfl w.heap.size 9 i0 _ 1 16 Tryd.underlying65 hi hz0 hz1 hz2 rfl (by decide) _ _ _ rfl HO1.out ⟨bb, ob, none⟩ y cb (B.map Value.string) rfl (by rw [List.length_map, RB.out.length, Nat.mul_one]) (strs_cells RB.out) (strs_one _) (by unfold maxLen; omega) (by omega) HB1.out.size ?_); intro v' w5 hown1 hgrow hnil; have HO2 := Lib.hid hown1; have HB2 := Lib.hid (HB1.out.grown hgrow HB1.out.size (fun j hj => (HO1.out.lt j hj).1)); have RB := Lib.hid (HS.out.1.rb.keep HB2.out); clear hown1 hgrow hnil) | (at_builtin; (refine wpList_append_own _ rfl _ _ 65 rfl w.heap.size 9 i0 _ 1 16 Tryd.underlying65 hi hz0 hz1 hz2 rfl (by decide) _ _ _ rfl HO.out ⟨ba, oa, none⟩ x ca (A.map Value.string) rfl (by rw [List.length_map, RA.out.length, Nat.mul_one]) (strs_cells RA.out) (strs_one _) (by unfold maxLen; omega) (by omega) HBW.out.size ?_); intro v' w4 hown1 hgrow hnil; have HO1 := Lib.hid hown1; have HB1 := Lib.hid (HBW.out.grown hgrow HBW.out.size (fun j hj => (HO.out.lt j hj).1)); have RB := Lib.hid (HS.out.1.rb.keep HB1.out); clear hown1 hgrow hnil))
      obtain ⟨q1, cp1, rfl⟩ := own_form HO2.out
      have hlT : (mergeT l k).length = n + x + y := by rw [← HE.out, List.length_append, List.length_append, HS.out.1.length, HS.out.1.ra.length, HS.out.1.rb.length]
      have HF := Lib.hid (show w5.ownsRow w.heap.size 9 1 (.slice q1 (mergeT l k).length cp1) (mergeT l k).length ((mergeT l k).map Value.string) by
        rw [hlT, ← HE.out, List.map_append, List.map_append]; exact HO2.out)
      go_ret
      exact ⟨q1, cp1, by rw [hlT]; rfl, HF.out, HB2.out⟩
theorem mergedT_any (ba oa la ca bb ob lb cb : Nat) (l k : Strs) (w : World) (ha : StrsAt w (some ⟨ba, oa, none⟩) la l) (hb : StrsAt w (some ⟨bb, ob, none⟩) lb k) (hca : la ≤ ca) (hcb : lb ≤ cb) (hcam : ca ≤ maxLen) (hcbm : cb ≤ maxLen) (h6 : la + lb ≤ 1048576) :
    Calls Tryd.prog 54 #[.slice (some ⟨ba, oa, none⟩) la ca, .slice (some ⟨bb, ob, none⟩) lb cb, .func (Fn.func 55) #[] #[]] w (MadeKs (mergeT l k) w) :=
  (mergedTo_any ba oa la ca bb ob lb cb l k w ha hb hca hcb hcam hcbm h6).mono fun _ _ h => ko_ks h
end Go.Proofs.YtblpebdjbenphaaDoor
namespace Go.Proofs.YtblpebdjbenphaaDoor
open Go.ChangeShapes Go.WideShapes Go.ChangeAt Go.RowKit
set_option linter.unusedVariables false
set_option maxRecDepth 100000

/-- The bytes of the first k texts. -/
def sumTo (l : Strs) : Nat → Nat
  | 0 => 0
  | k + 1 => sumTo l k + (strAt l k).size

/-- The end of the laws' measure of texts: below 0 (too much), or what is left. -/
def SizedStrs (len : Nat) (l : Strs) (left : Int) (w : World) (e : Ending) (w' : World) : Prop :=
  ∃ x : Int, -1 ≤ x ∧ x ≤ 1048576 ∧ e = .returned (.int .i64 x) ∧ w = w' ∧ (0 ≤ x → x = left - len - sumTo l len)

/-- The first k texts of l lie at the head of the row. -/
def LaidS (cur : Array Value) (l : Strs) (k : Nat) : Prop := ∀ j, j < k → cur[j]? = some (.string (strAt l j))
theorem LaidS.step {cur : Array Value} {l : Strs} {k len : Nat} (h : LaidS cur l k) (hs : cur.size = len) (hk : k < len) :
    LaidS (cur.setIfInBounds k (.string (strAt l k))) l (k + 1) := by
  intro j hj
  rcases Nat.lt_or_ge j k with hlt | hge
  · rw [Array.getElem?_setIfInBounds_ne (by omega)]; exact h j hlt
  · obtain rfl : j = k := by omega
    have h1 : j < cur.size := by omega
    simp [h1]
theorem StrsAt.ofRow {w : World} {B len : Nat} {E : TypeId} {cur : Array Value} {l : Strs} (h : Row w B E cur) (hl : l.length = len) (hm : len ≤ maxLen) (hk : ∀ i, i < len → (strAt l i).size ≤ maxLen) (hlaid : LaidS cur l len) : StrsAt w (some ⟨B, 0, none⟩) len l := by
  refine ⟨hl, hm, hk, .inr ⟨B, 0, rfl, h.lt, fun i hi => ?_⟩⟩
  have e1 := hlaid i hi
  unfold Row at h
  simp [World.cell?, h, e1]

/-- The end of the laws' copy of texts: a new slice of the same texts. -/
def MadeStrs (len : Nat) (l : Strs) (w : World) (e : Ending) (w' : World) : Prop :=
  e = .returned (.slice (some ⟨w.heap.size, 0, none⟩) len len) ∧ StrsAt w' (some ⟨w.heap.size, 0, none⟩) len l ∧ Below w.heap.size w w' ∧ ∃ cur, Row w' w.heap.size 9 cur ∧ cur.size = len

theorem strs_of_is {w : World} {a : Option Addr} {len cap : Nat} {ss : List ByteArray}
    (h : (a = none ∧ len = 0 ∧ cap = 0 ∧ ss = []) ∨ ∃ x, a = some x ∧ len ≤ cap ∧ cap ≤ maxLen ∧ ss.length = cap ∧ (∀ i, i < ss.length → w.cell? (x.add i) = some (.string (ss.getD i ByteArray.empty))) ∧ ∀ s ∈ ss, s.size ≤ maxLen) : StrsAt w a len (ss.take len) := by
  rcases h with ⟨rfl, rfl, _, rfl⟩ | ⟨x, rfl, hl, hm, hz, hc, hw⟩
  · exact ⟨rfl, Nat.zero_le _, fun i hi => by omega, .inl rfl⟩
  · have hget : ∀ i, i < len → strAt (ss.take len) i = ss.getD i ByteArray.empty := by
      intro i hi
      unfold strAt
      rw [List.getD_eq_getElem?_getD, List.getD_eq_getElem?_getD, List.getElem?_take_of_lt hi]
    refine ⟨by simp; omega, by omega, fun i hi => ?_, ?_⟩
    · rw [hget i hi, List.getD_eq_getElem?_getD, List.getElem?_eq_getElem (by omega)]
      exact hw _ (List.getElem_mem _)
    · by_cases h0 : len = 0
      · exact .inl h0
      · obtain ⟨b, off, spot⟩ := x
        have hc0 := hc 0 (by omega)
        have hspot : spot = none := by simpa [Addr.add] using World.cell?_spot hc0
        subst hspot
        refine .inr ⟨b, off, rfl, ?_, fun i hi => ?_⟩
        · have := World.block_lt_of_cell? _ _ hc0
          simpa [Addr.add] using this
        · have h1 := hc i (by omega)
          rw [hget i hi]
          by_cases hi0 : i = 0
          · subst hi0
            simpa [Addr.add] using h1
          · simpa [Addr.add, hi0] using h1
end Go.Proofs.YtblpebdjbenphaaDoor
namespace Go.Proofs.YtblpebdjbenphaaDoor
open Go.ChangeShapes Go.WideShapes Go.ChangeAt Go.RowKit
set_option linter.unusedVariables false
set_option maxRecDepth 100000

structure ElemP (l : Objs) (m : Gones) : Prop where
  objs : ∀ i, i < l.length → objOk l i
  gons : ∀ i, i < m.length → gonOk m i

set_option maxHeartbeats 4000000 in
theorem elementsok_any (a g : Option Addr) (la ca lg cg : Nat) (l : Objs) (m : Gones) (w : World) (h : StoAt w a la l g lg m) :
    Calls Tryd.prog 33 #[.agg #[.slice a la ca, .slice g lg cg]] w (SaysB (ElemP l m) w) := by
  have hm := h.o.max
  have hm2 := h.d.max
  unfold maxLen at hm hm2
  have HS := Lib.hid h
  have HL := Lib.hid h.o.length
  have HLG := Lib.hid h.d.length
  clear h
  go_enter Tryd.func33, Tryd.ntmps33
  go_wp2
  go_loopw [10] (fun i wr => ∃ k : Nat, k ≤ la ∧ i = .int .i64 k ∧ Hid (GD w #[.slice a la ca, .slice g lg cg] wr ∧ ∀ j, j < k → objOk l j)) (fun i _ => la - (intOf i).toNat)
  case atStart => exact ⟨0, Nat.zero_le _, rfl, ⟨below_alloc (Below.refl _ _) _, row_new _ _ _⟩, fun j hj => by omega⟩
  case round =>
    obtain ⟨k, hk, rfl, HW⟩ := hrel
    by_cases hlt : k < la
    · rcases HS.out.o.src with hz | ⟨b, off, rfl, hb, hc⟩
      · omega
      · have c0 := (HW.out.1.below.cell (p := ⟨b, off + k * 3, none⟩) hb).trans (hc k hlt).1
        have c1 := (HW.out.1.below.cell (p := ⟨b, off + k * 3 + 1, none⟩) hb).trans (hc k hlt).2.1
        have c2 := (HW.out.1.below.cell (p := ⟨b, off + k * 3 + 2, none⟩) hb).trans (hc k hlt).2.2
        have hi1 : (k : Int) < (la : Int) := by omega
        have hi0 : (0 : Int) ≤ (k : Int) := by omega
        have hsz : (obj0 l k).size ≤ maxLen ∧ (obj2 l k).size ≤ maxLen := HS.out.o.keys k hlt
        have HSZ := Lib.hid hsz.1
        clear hsz
        have hkl : k < l.length := by rw [HL.out]; exact hlt
        have HBK := Lib.hid (below_alloc HW.out.1.below (.cells #[.string (obj0 l k), .int .i64 (obj1 l k), .string (obj2 l k)] 35))
        clear hc hb
        cases hkey : keyB (obj0 l k) with
        | false =>
          have HN := Lib.hid (show ¬ ElemP l m from fun h => by rw [(h.objs k hkl).1] at hkey; cases hkey)
          have HK := Lib.hid hkey
          clear hkey
          go_wp2_with (first | (go_at_call 51; refine (keyok_any _ _ HSZ.out).mono ?_; rw [HK.out]; rintro e w1 ⟨rfl, rfl⟩))
          go_ret
          exact says_no HN.out HBK.out
        | true =>
          have HK := Lib.hid hkey
          cases hver : inB (obj1 l k) 1 1000000 with
          | false =>
            have HN := Lib.hid (show ¬ ElemP l m from fun h => by rw [(h.objs k hkl).2.1] at hver; cases hver)
            have HV := Lib.hid hver
            clear hkey hver
            go_wp2_with (first | (go_at_call 51; refine (keyok_any _ _ HSZ.out).mono ?_; rw [HK.out]; rintro e w1 ⟨rfl, rfl⟩) | (go_at_call 52; refine (verok_any _ _).mono ?_; rw [HV.out]; rintro e w1 ⟨rfl, rfl⟩))
            go_ret
            exact says_no HN.out HBK.out
          | true =>
            have HV := Lib.hid hver
            cases hd : decide (((obj2 l k).size : Int) ≤ 30000) with
            | false =>
              have HN := Lib.hid (show ¬ ElemP l m from fun h => by have := (h.objs k hkl).2.2; rw [decide_eq_false_iff_not] at hd; omega)
              have HD := Lib.hid hd
              clear hkey hver hd
              go_wp2_with (first | (go_at_call 51; refine (keyok_any _ _ HSZ.out).mono ?_; rw [HK.out]; rintro e w1 ⟨rfl, rfl⟩) | (go_at_call 52; refine (verok_any _ _).mono ?_; rw [HV.out]; rintro e w1 ⟨rfl, rfl⟩) | (go_at_call 53; refine (dataok_any _ _).mono ?_; rw [HD.out]; rintro e w1 ⟨rfl, rfl⟩))
              go_ret
              exact says_no HN.out HBK.out
            | true =>
              have HSN := Lib.hid (show ∀ j, j < k + 1 → objOk l j from fun j hj => by
                rcases Nat.lt_or_ge j k with h | h
                · exact HW.out.2 j h
                · obtain rfl : j = k := by omega
                  exact ⟨hkey, hver, by rw [decide_eq_true_eq] at hd; omega⟩)
              have HD := Lib.hid hd
              clear hkey hver hd
              go_wp2_with (first | (go_at_call 51; refine (keyok_any _ _ HSZ.out).mono ?_; rw [HK.out]; rintro e w1 ⟨rfl, rfl⟩) | (go_at_call 52; refine (verok_any _ _).mono ?_; rw [HV.out]; rintro e w1 ⟨rfl, rfl⟩) | (go_at_call 53; refine (dataok_any _ _).mono ?_; rw [HD.out]; rintro e w1 ⟨rfl, rfl⟩))
              go_roundw
              case rel => exact ⟨k + 1, by omega, by go_num, ⟨HBK.out, HW.out.1.box.al _⟩, HSN.out⟩
              case measure => simp [intOf]; omega
    · obtain rfl : k = la := by omega
      have HSO := Lib.hid (show ∀ i, i < l.length → objOk l i by rw [HL.out]; exact HW.out.2)
      have b1 := HW.out.1.box.cell (j := 1) (by simp)
      simp at b1
      go_wp2
      have HWB := Lib.hid HW.out.1
      clear HW b1
      go_loopw [34] (fun i wr => ∃ j : Nat, j ≤ lg ∧ i = .int .i64 j ∧ Hid (Below w.heap.size w wr ∧ ∀ i, i < j → gonOk m i)) (fun i _ => lg - (intOf i).toNat)
      case atStart => exact ⟨0, Nat.zero_le _, rfl, HWB.out.below, fun j hj => by omega⟩
      case round =>
        obtain ⟨j, hj, rfl, HW⟩ := hrel
        clear HWB
        by_cases hlt : j < lg
        · rcases HS.out.d.src with hz | ⟨b, off, rfl, hb, hc⟩
          · omega
          · have c0 := (HW.out.1.cell (p := ⟨b, off + j * 2, none⟩) hb).trans (hc j hlt).1
            have c1 := (HW.out.1.cell (p := ⟨b, off + j * 2 + 1, none⟩) hb).trans (hc j hlt).2
            have hi1 : (j : Int) < (lg : Int) := by omega
            have hi0 : (0 : Int) ≤ (j : Int) := by omega
            have HSZ := Lib.hid (HS.out.d.keys j hlt)
            have hkl : j < m.length := by rw [HLG.out]; exact hlt
            have HBK := Lib.hid (below_alloc HW.out.1 (.cells #[.string (gone0 m j), .int .i64 (gone1 m j)] 57))
            clear hc hb
            cases hkey : keyB (gone0 m j) with
            | false =>
              have HN := Lib.hid (show ¬ ElemP l m from fun h => by rw [(h.gons j hkl).1] at hkey; cases hkey)
              have HK := Lib.hid hkey
              clear hkey
              go_wp2_with (first | (go_at_call 51; refine (keyok_any _ _ HSZ.out).mono ?_; rw [HK.out]; rintro e w1 ⟨rfl, rfl⟩))
              go_ret
              exact says_no HN.out HBK.out
            | true =>
              have HK := Lib.hid hkey
              cases hver : inB (gone1 m j) 1 1000000 with
              | false =>
                have HN := Lib.hid (show ¬ ElemP l m from fun h => by rw [(h.gons j hkl).2] at hver; cases hver)
                have HV := Lib.hid hver
                clear hkey hver
                go_wp2_with (first | (go_at_call 51; refine (keyok_any _ _ HSZ.out).mono ?_; rw [HK.out]; rintro e w1 ⟨rfl, rfl⟩) | (go_at_call 52; refine (verok_any _ _).mono ?_; rw [HV.out]; rintro e w1 ⟨rfl, rfl⟩))
                go_ret
                exact says_no HN.out HBK.out
              | true =>
                have HV := Lib.hid hver
                have HSN := Lib.hid (show ∀ i, i < j + 1 → gonOk m i from fun i hi => by
                  rcases Nat.lt_or_ge i j with h | h
                  · exact HW.out.2 i h
                  · obtain rfl : i = j := by omega
                    exact ⟨hkey, hver⟩)
                clear hkey hver
                go_wp2_with (first | (go_at_call 51; refine (keyok_any _ _ HSZ.out).mono ?_; rw [HK.out]; rintro e w1 ⟨rfl, rfl⟩) | (go_at_call 52; refine (verok_any _ _).mono ?_; rw [HV.out]; rintro e w1 ⟨rfl, rfl⟩))
                go_roundw
                case rel => exact ⟨j + 1, by omega, by go_num, HBK.out, HSN.out⟩
                case measure => simp [intOf]; omega
        · obtain rfl : j = lg := by omega
          have HY := Lib.hid (show ElemP l m from ⟨HSO.out, by rw [HLG.out]; exact HW.out.2⟩)
          go_wp2
          go_ret
          exact says_yes HY.out HW.out.1

set_option maxHeartbeats 2000000 in
theorem strict_any (a : Option Addr) (n cap : Nat) (l : Strs) (w : World) (h : StrsAt w a n l) :
    Calls Tryd.prog 34 #[.slice a n cap] w (SaysB (IncT l) w) := by
  have hm := h.max
  unfold maxLen at hm
  have HR := Lib.hid h
  clear h
  go_enter Tryd.func34, Tryd.ntmps34
  go_wp2
  go_loopw [3] (fun i wr => ∃ k : Nat, k ≤ n ∧ i = .int .i64 ((k : Int) + 1) ∧ Hid (Below w.heap.size w wr ∧ ∀ j, j < k → j + 1 < n → (txt l j).toList < (txt l (j + 1)).toList)) (fun i _ => n + 1 - (intOf i).toNat)
  case atStart => exact ⟨0, Nat.zero_le _, rfl, Below.refl _ _, fun j hj => by omega⟩
  case round =>
    obtain ⟨k, hk, rfl, HW⟩ := hrel
    by_cases hlt : k + 1 < n
    · rcases HR.out.src with hz | ⟨b, off, rfl, hb, hc⟩
      · omega
      · have c0 := (HW.out.1.cell (p := ⟨b, off + k, none⟩) hb).trans (hc k (by omega))
        have c1 := (HW.out.1.cell (p := ⟨b, off + (k + 1), none⟩) hb).trans (hc (k + 1) hlt)
        have hi1 : (k : Int) + 1 < (n : Int) := by omega
        have hi2 : (k : Int) < (n : Int) := by omega
        have hi0 : (0 : Int) ≤ (k : Int) := by omega
        have hi3 : (0 : Int) ≤ (k : Int) + 1 := by omega
        clear hc hb
        cases hsk : Op.bytesLess (strAt l k).toList (strAt l (k + 1)).toList with
        | false =>
          have HN := Lib.hid (inc_not (l := l) (i := k) (by rw [HR.out.length]; exact hlt) hsk)
          go_wp2_with fail
          have hw1 : IntKind.i64.wrap ((k : Int) + 1) = (k : Int) + 1 := IntWalk.i64_in _ (by omega)
          have hw2 : IntKind.i64.wrap (k : Int) = (k : Int) := IntWalk.i64_in _ (by omega)
          have hw3 : (k : Int) + 1 - 1 = (k : Int) := by omega
          have hw4 : ((k : Int) + 1).toNat = k + 1 := by omega
          go_quiet (fail)
          clear hw1 hw2 hw3 hw4
          go_wp2
          go_ret
          exact says_no HN.out (below_drewN HW.out.1 _)
        | true =>
          have HSN := Lib.hid (show ∀ j, j < k + 1 → j + 1 < n → (txt l j).toList < (txt l (j + 1)).toList from fun j hj h1 => by
            rcases Nat.lt_or_ge j k with h | h
            · exact HW.out.2 j h h1
            · obtain rfl : j = k := by omega
              exact (bltIff _ _).1 hsk)
          go_wp2_with fail
          have hw1 : IntKind.i64.wrap ((k : Int) + 1) = (k : Int) + 1 := IntWalk.i64_in _ (by omega)
          have hw2 : IntKind.i64.wrap (k : Int) = (k : Int) := IntWalk.i64_in _ (by omega)
          have hw3 : (k : Int) + 1 - 1 = (k : Int) := by omega
          have hw4 : ((k : Int) + 1).toNat = k + 1 := by omega
          go_quiet (fail)
          clear hw1 hw2 hw3 hw4
          go_wp2
          go_roundw
          case rel => exact ⟨k + 1, by omega, by go_num, below_drewN HW.out.1 _, HSN.out⟩
          case measure => simp [intOf]; omega
    · have HY := Lib.hid (show IncT l from inc_adj (fun j hj => HW.out.2 j (by rw [HR.out.length] at hj; omega) (by rw [HR.out.length] at hj; exact hj)))
      have hi1 : ¬ (k : Int) + 1 < (n : Int) := by omega
      go_wp2
      go_ret
      exact says_yes HY.out HW.out.1

theorem row_made {w1 : World} {base B len : Nat} {xs : List Value} (h : w1.ownsRow base 9 1 (.slice (some ⟨B, 0, none⟩) len len) len xs) : ∃ cur, Row w1 B 9 cur ∧ cur.size = len := by
  rcases h.2 with ⟨h, _⟩ | ⟨g, cp, cur, hv, _, hh, _, _, hs, _⟩
  · simp at h
  · simp only [Value.slice.injEq, Option.some.injEq, Addr.mk.injEq, true_and, and_true] at hv
    obtain ⟨rfl, rfl⟩ := hv
    exact ⟨cur, hh, by omega⟩

theorem ks_low {base B : Nat} {w : World} {q : Option Addr} {W : Strs} (h : Ks B w q W) (hb : base ≤ B) : Ks base w q W := by
  rcases h with h0 | ⟨g, cur, rfl, h1, hr, h2, h3⟩
  · exact .inl h0
  · exact .inr ⟨g, cur, rfl, Nat.le_trans hb h1, hr, h2, h3⟩

set_option maxHeartbeats 4000000 in
theorem allkeysO_any (a g : Option Addr) (la ca lg cg : Nat) (l : Objs) (m : Gones) (w : World) (h : StoAt w a la l g lg m) (hfew : la + lg ≤ 1048576) :
    Calls Tryd.prog 35 #[.agg #[.slice a la ca, .slice g lg cg]] w (MadeKo (mergeT (okeys l) (gkeys m)) w) := by
  obtain ⟨i0, hi, hz0, hz1, hz2⟩ := info_parts infoStr
  have hm := h.o.max
  have hm2 := h.d.max
  unfold maxLen at hm hm2
  have HS := Lib.hid h
  have HL := Lib.hid h.o.length
  have HLG := Lib.hid h.d.length
  have HB0 := Lib.hid (below_alloc (Below.refl w.heap.size w) (.cells #[.slice a la ca, .slice g lg cg] 27))
  have HX0 := Lib.hid (row_new w #[.slice a la ca, .slice g lg cg] 27)
  clear h
  go_enter Tryd.func35, Tryd.ntmps35
  go_wp2_with (at_make; refine wpList_make_full _ rfl _ _ 65 rfl (w.heap.size + 1) 9 i0 _ 1 Tryd.underlying65 hi hz0 hz1 .i64 .i64 _ _ la rfl rfl rfl rfl (by rw [hz2]; omega) (by unfold maxLen; omega) (by simp) ?_; intro w1 hown hgrow; have HX1 := Lib.hid (HX0.out.grown hgrow (by simp)); have HB1 := Lib.hid (HB0.out.grown hgrow HB0.out.size (by simp)); have HR1 := Lib.hid (row_made hown); have b0 := HX1.out.cell (j := 0) (by simp); have b1 := HX1.out.cell (j := 1) (by simp); simp at b0 b1; clear hown hgrow)
  obtain ⟨cur0, hrow0, hsz0⟩ := HR1.out
  have hB1e : (w.alloc (.cells #[.slice a la ca, .slice g lg cg] 27)).heap.size = w.heap.size + 1 := by simp
  rw [hB1e] at hrow0
  have HRW := Lib.hid (show Row w1 (w.heap.size + 1) 9 cur0 ∧ cur0.size = la ∧ LaidS cur0 (okeys l) 0 from ⟨hrow0, hsz0, fun j hj => by omega⟩)
  clear hrow0 hsz0 hB1e HR1
  go_loopw [16] (fun i wr => ∃ k : Nat, k ≤ la ∧ i = .int .i64 k ∧ Hid (GD w #[.slice a la ca, .slice g lg cg] wr ∧ ∃ cur, Row wr (w.heap.size + 1) 9 cur ∧ cur.size = la ∧ LaidS cur (okeys l) k)) (fun i _ => la - (intOf i).toNat)
  case atStart => exact ⟨0, Nat.zero_le _, rfl, ⟨HB1.out, HX1.out⟩, cur0, HRW.out⟩
  case round =>
    obtain ⟨k, hk, rfl, HW⟩ := hrel
    clear HB1 HX1 HRW
    by_cases hlt : k < la
    · rcases HS.out.o.src with hz | ⟨b, off, rfl, hb, hc⟩
      · omega
      · have c0 := (HW.out.1.below.cell (p := ⟨b, off + k * 3, none⟩) hb).trans (hc k hlt).1
        have c1 := (HW.out.1.below.cell (p := ⟨b, off + k * 3 + 1, none⟩) hb).trans (hc k hlt).2.1
        have c2 := (HW.out.1.below.cell (p := ⟨b, off + k * 3 + 2, none⟩) hb).trans (hc k hlt).2.2
        clear hc hb
        obtain ⟨hgd, cur, hr, hs, hla⟩ := HW.out
        have hr2 := hr.al (.cells #[.string (obj0 l k), .int .i64 (obj1 l k), .string (obj2 l k)] 35)
        have hA0 := hr2.cell (j := k) (by omega)
        have hf0 := hr2.free k
        have hBz := hr.lt
        have HGD := Lib.hid hgd
        have HR2 := Lib.hid hr
        have HSZ := Lib.hid hs
        have HLA := Lib.hid hla
        generalize cur[k] = x0 at hA0
        have hi0 : (0 : Int) ≤ (k : Int) := by omega
        have hi1 : (k : Int) < (la : Int) := by omega
        clear hr hr2 hs hla hgd HW
        go_wp2_with fail
        go_roundw
        case rel =>
          have h1 := HLA.out.step HSZ.out hlt
          have e : strAt (okeys l) k = obj0 l k := okeys_at l k
          rw [e] at h1
          exact ⟨k + 1, by omega, by go_num, ⟨below_alloc (HGD.out.below.setCell (show w.heap.size ≤ w.heap.size + 1 by omega) _) _, (HGD.out.box.put (show w.heap.size ≠ w.heap.size + 1 by omega) _ _).al _⟩, _, (HR2.out.set _ _).al _, by simpa using HSZ.out, h1⟩
        case measure => simp [intOf]; omega
    · obtain rfl : k = la := by omega
      obtain ⟨wo, rfl⟩ : ∃ wo : World, wo = wr := ⟨_, rfl⟩
      obtain ⟨hgd, curO, hrO, hsO, hlaO⟩ := HW.out
      have d1 := hgd.box.cell (j := 1) (by simp)
      simp at d1
      have HGD := Lib.hid hgd
      have HO := Lib.hid (And.intro hrO (And.intro hsO hlaO))
      have hBz := hrO.lt
      clear hgd hrO hsO hlaO HW b0 b1
      go_wp2_with (at_make; refine wpList_make_full _ rfl _ _ 65 rfl wo.heap.size 9 i0 _ 1 Tryd.underlying65 hi hz0 hz1 .i64 .i64 _ _ lg rfl rfl rfl rfl (by rw [hz2]; omega) (by unfold maxLen; omega) (Nat.le_refl _) ?_; intro w2 hown hgrow; have HX2 := Lib.hid (HGD.out.box.grown hgrow (by simp)); have HB2 := Lib.hid (HGD.out.below.grown hgrow HGD.out.below.size (by simp)); have HO2 := Lib.hid (HO.out.1.grown hgrow (by simp)); have HR2 := Lib.hid (row_made hown); have e1 := HX2.out.cell (j := 1) (by simp); simp at e1; clear hown hgrow)
      obtain ⟨cur2, hrow2, hsz2⟩ := HR2.out
      have HRW := Lib.hid (show Row w2 (w.heap.size + 1) 9 curO ∧ Row w2 wo.heap.size 9 cur2 ∧ cur2.size = lg ∧ LaidS cur2 (gkeys m) 0 from ⟨HO2.out, hrow2, hsz2, fun j hj => by omega⟩)
      clear hrow2 hsz2 HR2 HO2
      go_loopw [34] (fun i wr => ∃ j : Nat, j ≤ lg ∧ i = .int .i64 j ∧ Hid (Below w.heap.size w wr ∧ Row wr (w.heap.size + 1) 9 curO ∧ ∃ cur, Row wr wo.heap.size 9 cur ∧ cur.size = lg ∧ LaidS cur (gkeys m) j)) (fun i _ => lg - (intOf i).toNat)
      case atStart => exact ⟨0, Nat.zero_le _, rfl, HB2.out, HRW.out.1, cur2, HRW.out.2⟩
      case round =>
        obtain ⟨j, hj, rfl, HW⟩ := hrel
        clear HB2 HX2 HRW e1
        by_cases hlt : j < lg
        · rcases HS.out.d.src with hz | ⟨b, off, rfl, hb, hc⟩
          · omega
          · have c0 := (HW.out.1.cell (p := ⟨b, off + j * 2, none⟩) hb).trans (hc j hlt).1
            have c1 := (HW.out.1.cell (p := ⟨b, off + j * 2 + 1, none⟩) hb).trans (hc j hlt).2
            clear hc hb
            obtain ⟨hbl, hro, cur, hr, hs, hla⟩ := HW.out
            have hr2 := hr.al (.cells #[.string (gone0 m j), .int .i64 (gone1 m j)] 57)
            have hA0 := hr2.cell (j := j) (by omega)
            have hf0 := hr2.free j
            have hBz2 := hr.lt
            have HBL := Lib.hid hbl
            have HRO := Lib.hid hro
            have HR2 := Lib.hid hr
            have HSZ := Lib.hid hs
            have HLA := Lib.hid hla
            generalize cur[j] = x0 at hA0
            have hi0 : (0 : Int) ≤ (j : Int) := by omega
            have hi1 : (j : Int) < (lg : Int) := by omega
            clear hr hr2 hs hla hbl hro HW
            go_wp2_with fail
            go_roundw
            case rel =>
              have h1 := HLA.out.step HSZ.out hlt
              have e : strAt (gkeys m) j = gone0 m j := gkeys_at m j
              rw [e] at h1
              exact ⟨j + 1, by omega, by go_num, below_alloc (HBL.out.setCell (show w.heap.size ≤ wo.heap.size from HGD.out.below.size) _) _, (HRO.out.put (show w.heap.size + 1 ≠ wo.heap.size from Nat.ne_of_lt hBz) _ _).al _, _, (HR2.out.set _ _).al _, by simpa using HSZ.out, h1⟩
            case measure => simp [intOf]; omega
        · obtain rfl : j = lg := by omega
          obtain ⟨hbl, hro, cur, hr, hs, hla⟩ := HW.out
          have HBL := Lib.hid hbl
          have RO := Lib.hid (StrsAt.ofRow hro ((okeys_len l).trans HL.out) hm (fun i hi => by rw [show strAt (okeys l) i = obj0 l i from okeys_at l i]; exact (HS.out.o.keys i hi).1) HO.out.2.2)
          have RG := Lib.hid (StrsAt.ofRow hr ((gkeys_len m).trans HLG.out) hm2 (fun i hi => by rw [show strAt (gkeys m) i = gone0 m i from gkeys_at m i]; exact HS.out.d.keys i hi) hla)
          clear hr hs hla hbl hro HW
          go_wp2_with fail
          refine (mergedTo_any _ _ _ _ _ _ _ _ _ _ _ RO.out RG.out (Nat.le_refl _) (Nat.le_refl _) hm hm2 hfew).mono ?_
          rintro e w5 ⟨q, cp, rfl, hks, hB⟩
          have HK := Lib.hid hks
          have HB5 := Lib.hid (below_via HBL.out hB)
          have HZ := Lib.hid HBL.out.size
          clear hks hB
          go_wp2
          go_ret
          exact ⟨q, cp, rfl, strs_own_low HK.out HZ.out, HB5.out⟩

theorem allkeys_any (a g : Option Addr) (la ca lg cg : Nat) (l : Objs) (m : Gones) (w : World) (h : StoAt w a la l g lg m) (hfew : la + lg ≤ 1048576) :
    Calls Tryd.prog 35 #[.agg #[.slice a la ca, .slice g lg cg]] w (MadeKs (mergeT (okeys l) (gkeys m)) w) := (allkeysO_any a g la ca lg cg l m w h hfew).mono fun _ _ h => ko_ks h

set_option maxHeartbeats 4000000 in
theorem storeok_any (a g : Option Addr) (la ca lg cg : Nat) (l : Objs) (m : Gones) (w : World) (h : StoAt w a la l g lg m) (hla : la ≤ 1048576) (hlg : lg ≤ 1048576) :
    Calls Tryd.prog 12 #[.agg #[.slice a la ca, .slice g lg cg]] w (SaysB (StoP l m) w) := by
  have HS := Lib.hid h
  have HL := Lib.hid h.o.length
  have HLG := Lib.hid h.d.length
  have HB := Lib.hid (below_alloc (Below.refl w.heap.size w) (.cells #[.slice a la ca, .slice g lg cg] 27))
  have HX := Lib.hid (row_new w #[.slice a la ca, .slice g lg cg] 27)
  clear h
  by_cases hfew : 1100 < la + lg
  · have HN := Lib.hid (show ¬ StoP l m from fun hs => by have := hs.few; rw [HL.out, HLG.out] at this; omega)
    have hf : (1100 : Int) < (la : Int) + (lg : Int) := by omega
    go_enter Tryd.func12, Tryd.ntmps12
    go_wp2
    go_ret
    exact says_no HN.out HB.out
  have hf : ¬ (1100 : Int) < (la : Int) + (lg : Int) := by omega
  go_enter Tryd.func12, Tryd.ntmps12
  go_wp2_with fail
  refine (elementsok_any _ _ _ _ _ _ l m _ (HS.out.keep HB.out)).mono ?_
  rintro e w1 ⟨b1, rfl, hb1, hB⟩
  have HB1 := Lib.hid (below_via HB.out hB)
  have HX1 := Lib.hid (HX.out.keep hB)
  have y0 := HX1.out.cell (j := 0) (by simp)
  have y1 := HX1.out.cell (j := 1) (by simp)
  simp at y0 y1
  clear hB
  cases b1 with
  | false =>
    have HN := Lib.hid (show ¬ StoP l m from fun hs => by have := hb1.2 ⟨hs.objs, hs.gons⟩; cases this)
    clear hb1
    go_wp2
    go_ret
    exact says_no HN.out HB1.out
  | true =>
    have HE := Lib.hid (hb1.1 rfl)
    clear hb1
    go_wp2_with fail
    refine (allkeys_any _ _ _ _ _ _ l m _ (HS.out.keep HB1.out) (by omega)).mono ?_
    rintro e w2 ⟨q, cp, rfl, hks, hB⟩
    have HB2 := Lib.hid (below_via HB1.out hB)
    have HKS := Lib.hid (strs_of_ks hks rfl (by rw [mergeT_len, okeys_len, gkeys_len, HL.out, HLG.out]; unfold maxLen; omega) (fun x hx => by
      rcases (mergeT_mem _ _ _).1 hx with h | h
      · obtain ⟨i, hi, rfl⟩ := mem_txt h
        rw [okeys_at]; rw [okeys_len, HL.out] at hi; exact (HS.out.o.keys i hi).1
      · obtain ⟨i, hi, rfl⟩ := mem_txt h
        rw [gkeys_at]; rw [gkeys_len, HLG.out] at hi; exact HS.out.d.keys i hi))
    clear hks hB
    go_wp2_with fail
    refine (strict_any _ _ _ _ _ HKS.out).mono ?_
    rintro e w3 ⟨b2, rfl, hb2, hB⟩
    have HB3 := Lib.hid (below_via HB2.out hB)
    have HY := Lib.hid (show b2 = true ↔ StoP l m by
      rw [hb2, inc_merge _ _ _ (Nat.le_refl _)]
      exact ⟨fun h => ⟨by rw [HL.out, HLG.out]; omega, HE.out.objs, HE.out.gons, h.1, h.2.1, h.2.2⟩, fun h => ⟨h.oinc, h.ginc, h.apart⟩⟩)
    clear hb2 hB
    go_wp2
    go_ret
    exact ⟨b2, rfl, HY.out, HB3.out⟩
end Go.Proofs.YtblpebdjbenphaaDoor
