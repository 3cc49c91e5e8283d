
/- Two lists of texts merged by the program, in a row of its own. Only new blocks are made. -/
import Derived.Test.YtblpebdjbenphaaGreatDoorMg8
import Derived.Test.YtblpebdjbenphaaGreatDoorKs
namespace Go.Proofs.YtblpebdjbenphaaGreatDoor
open Go.ChangeShapes Go.WideShapes Go.ChangeAt Go.RowKit
set_option linter.unusedVariables false
set_option maxRecDepth 100000

theorem isnan_str (s : ByteArray) (w : World) : Calls Tryz.prog 65 #[.string s] w (SameBool false w) := by
  go_enter Tryz.func65, Tryz.ntmps65
  go_wp2
  go_ret
  exact ⟨ret_bool (by simp), rfl⟩
theorem less_str (s u : ByteArray) (w : World) : Calls Tryz.prog 47 #[.string s, .string u] w (SameBool (ltT s u) w) := by
  go_enter Tryz.func47, Tryz.ntmps47
  go_wp2_with (go_at_call 65; refine (isnan_str _ _).mono ?_; rintro e w' ⟨rfl, rfl⟩)
  go_ret
  exact ⟨rfl, rfl⟩
theorem same_quietT {f : FuncId} {args : Array Value} {w : World} {n : Nat} {b c : Bool} (h : Calls Tryz.prog f args (w.drewN n) (SameBool b (w.drewN n))) (hb : b = c) :
    Calls Tryz.prog f args (w.drewN n) fun e w'' => e = .returned (.bool c) ∧ ∃ m, w'' = w.drewN m := h.mono fun _ _ ⟨he, hw⟩ => ⟨by rw [he, hb], n, hw.symm⟩

theorem strs_cells {w : World} {b off n : Nat} {l : Strs} (h : StrsAt w (some ⟨b, off, none⟩) n l) : ∀ j u, (l.map Value.string)[j]? = some u → w.cell? ((⟨b, off, none⟩ : Addr).add j) = some u := by
  intro j u hj
  have hl := h.length
  have hjl : j < l.length := by
    obtain ⟨h1, _⟩ := List.getElem?_eq_some_iff.1 hj
    simpa using h1
  rcases h.src with h0 | ⟨b', off', hq, hb, hc⟩
  · omega
  · simp only [Option.some.injEq, Addr.mk.injEq, and_true] at hq
    obtain ⟨rfl, rfl⟩ := hq
    have e : (l.map Value.string)[j]? = some (.string (strAt l j)) := by
      unfold strAt
      rw [List.getElem?_map, List.getD_eq_getElem?_getD, List.getElem?_eq_getElem hjl]; rfl
    rw [e] at hj
    rw [← hj]
    have := hc j (by omega)
    by_cases hj0 : j = 0
    · subst hj0
      first | (simp [Addr.add]; done) | simpa [Addr.add] using this
    · first | (simp [Addr.add, hj0]; done) | simpa [Addr.add, hj0] using this
theorem strs_one (l : Strs) : ∀ u ∈ l.map Value.string, u.oneCell' = true := by
  intro u hu
  obtain ⟨s, _, rfl⟩ := List.mem_map.1 hu
  rfl
theorem strs_tail {w : World} {b off n : Nat} {p : ByteArray} {l : Strs} (h : StrsAt w (some ⟨b, off, none⟩) n (p :: l)) : StrsAt w (some ⟨b, off + 1, none⟩) (n - 1) l := by
  have hl := h.length
  have hm := h.max
  rw [List.length_cons] at hl
  have hat : ∀ i, strAt l i = strAt (p :: l) (i + 1) := by
    intro i
    unfold strAt
    rw [List.getD_cons_succ]
  refine ⟨by omega, by omega, fun i hi => ?_, ?_⟩
  · rw [hat i]; exact h.sizes (i + 1) (by omega)
  · rcases h.src with h0 | ⟨b', off', hq, hb, hc⟩
    · omega
    · simp only [Option.some.injEq, Addr.mk.injEq, and_true] at hq
      obtain ⟨rfl, rfl⟩ := hq
      refine .inr ⟨b, off + 1, rfl, hb, fun i hi => ?_⟩
      rw [hat i]
      have := hc (i + 1) (by omega)
      rw [show off + (i + 1) = off + 1 + i by omega] at this
      exact this
theorem strs_one_left {w : World} {q q' : Option Addr} {n : Nat} {p : ByteArray} {l : Strs} (h : StrsAt w q n (p :: l)) (hn : n ≤ 1) : StrsAt w q' (n - 1) l := by
  have hl := h.length
  rw [List.length_cons] at hl
  have h0 : n - 1 = 0 := by omega
  rw [h0]
  exact ⟨by omega, Nat.zero_le _, fun i hi => by omega, .inl rfl⟩

/-- Both lists as they are left, and what has been put out. -/
structure MTt (w wr : World) (qa : Option Addr) (x : Nat) (A : Strs) (qb : Option Addr) (y : Nat) (B : Strs) (v : Value) (n : Nat) (W T : Strs) : Prop where
  ra : StrsAt w qa x A
  rb : StrsAt w qb y B
  own : wr.ownsRow w.heap.size 9 1 v n (W.map Value.string)
  length : W.length = n
  below : Below w.heap.size w wr
  sum : W ++ mergeT A B = T
theorem map_snoc (W : Strs) (s : ByteArray) : (W ++ [s]).map Value.string = W.map Value.string ++ [.string s] := by simp
theorem MTt.stepB {w wr w3 : World} {qa qb qb' : Option Addr} {x y n : Nat} {A B W T : Strs} {v v' : Value} {s u : ByteArray} (h : MTt w wr qa x (s :: A) qb y (u :: B) v n W T) (hle : ltT u s = true)
    (hb : StrsAt w qb' (y - 1) B) (hown : w3.ownsRow w.heap.size 9 1 v' (n + 1) (W.map Value.string ++ [.string u])) (hB : Below w.heap.size w w3) : MTt w w3 qa x (s :: A) qb' (y - 1) B v' (n + 1) (W ++ [u]) T :=
  ⟨h.ra, hb, by rw [map_snoc]; exact hown, by simp [h.length], hB, by rw [← h.sum, mergeT_b hle]⟩
theorem MTt.stepA {w wr w3 : World} {qa qa' qb : Option Addr} {x y n : Nat} {A B W T : Strs} {v v' : Value} {s u : ByteArray} (h : MTt w wr qa x (s :: A) qb y (u :: B) v n W T) (hle : ltT u s = false)
    (ha : StrsAt w qa' (x - 1) A) (hown : w3.ownsRow w.heap.size 9 1 v' (n + 1) (W.map Value.string ++ [.string s])) (hB : Below w.heap.size w w3) : MTt w w3 qa' (x - 1) A qb y (u :: B) v' (n + 1) (W ++ [s]) T :=
  ⟨ha, h.rb, by rw [map_snoc]; exact hown, by simp [h.length], hB, by rw [← h.sum, mergeT_a hle]⟩

def lenOfT : Value → Nat | .slice _ n _ => n | _ => 0
def MadeKs (W : Strs) (w : World) (e : Ending) (w' : World) : Prop := ∃ q cp, e = .returned (.slice q W.length cp) ∧ Ks w.heap.size w' q W ∧ Below w.heap.size w w'
/-- .. in a row of its own that may grow. -/
def MadeKo (W : Strs) (w : World) (e : Ending) (w' : World) : Prop := ∃ q cp, e = .returned (.slice q W.length cp) ∧ w'.ownsRow w.heap.size 9 1 (.slice q W.length cp) W.length (W.map Value.string) ∧ Below w.heap.size w w'
theorem ko_ks {W : Strs} {w : World} {e : Ending} {w' : World} (h : MadeKo W w e w') : MadeKs W w e w' := by
  obtain ⟨q, cp, he, ho, hB⟩ := h
  exact ⟨q, cp, he, ks_of_own ho, hB⟩
theorem strs_own_low {w : World} {base b2 : Nat} {e : TypeId} {size n : Nat} {v : Value} {xs : List Value} (h : w.ownsRow base e size v n xs) (hb : b2 ≤ base) : w.ownsRow b2 e size v n xs := by
  refine ⟨h.1, ?_⟩
  rcases h.2 with h2 | ⟨g, cap, cur, hv, h1, r⟩
  · exact .inl h2
  · exact .inr ⟨g, cap, cur, hv, Nat.le_trans hb h1, r⟩

set_option maxHeartbeats 8000000 in
theorem mergedTo_any (ba oa la ca bb ob lb cb : Nat) (l k : Strs) (w : World) (ha : StrsAt w (some ⟨ba, oa, none⟩) la l) (hb : StrsAt w (some ⟨bb, ob, none⟩) lb k) (hca : la ≤ ca) (hcb : lb ≤ cb) (hcam : ca ≤ maxLen) (hcbm : cb ≤ maxLen) (h6 : la + lb ≤ 1048576) :
    Calls Tryz.prog 46 #[.slice (some ⟨ba, oa, none⟩) la ca, .slice (some ⟨bb, ob, none⟩) lb cb, .func (Fn.func 47) #[] #[]] w (MadeKo (mergeT l k) w) := by
  obtain ⟨i0, hi, hz0, hz1, hz2⟩ := info_parts infoStr
  have HA := Lib.hid ha
  have HB := Lib.hid hb
  have HCM := Lib.hid (And.intro hcam hcbm)
  clear ha hb hcam hcbm
  go_enter Tryz.func46, Tryz.ntmps46
  go_wp2_with (at_make; (refine wpList_make_own _ rfl _ _ 59 rfl w.heap.size 9 i0 _ 1 Tryz.underlying59 hi hz0 hz1 .i64 .i64 _ (la + lb) rfl rfl (by omega) (by rw [hz2]; omega) (by unfold maxLen; omega) (Nat.le_refl _) ?_); intro w1 hown hgrow; have HO := Lib.hid hown; have HG := Lib.hid ((Below.refl w.heap.size w).grown hgrow (Nat.le_refl _) (fun k hk => by cases hk)); clear hown hgrow)
  go_loopw [0, 1, 7] (fun sa sb v wr => ∃ (oa x ca ob y cb n : Nat) (q : Option Addr) (cp : Nat) (A B W : Strs), sa = .slice (some ⟨ba, oa, none⟩) x ca ∧ sb = .slice (some ⟨bb, ob, none⟩) y cb ∧ v = .slice q n cp ∧ x ≤ ca ∧ y ≤ cb ∧ n + x + y = la + lb ∧ Hid (MTt w wr (some ⟨ba, oa, none⟩) x A (some ⟨bb, ob, none⟩) y B v n W (mergeT l k) ∧ ca ≤ maxLen ∧ cb ≤ maxLen)) (fun sa sb _ _ => lenOfT sa + lenOfT sb)
  case atStart => exact ⟨oa, la, ca, ob, lb, cb, 0, _, _, l, k, [], rfl, rfl, rfl, hca, hcb, by omega, Lib.hid ⟨⟨HA.out, HB.out, HO.out, rfl, HG.out, rfl⟩, HCM.out⟩⟩
  case round =>
    obtain ⟨oa, x, ca, ob, y, cb, n, q, cp, A, B, W, rfl, rfl, rfl, hx, hy, hn, HS⟩ := hrel
    clear HO HG HA HB HCM
    by_cases hx0 : 0 < x
    · by_cases hy0 : 0 < y
      · obtain ⟨s, A, rfl⟩ : ∃ p A', A = p :: A' := by
          cases A with
          | nil => have := HS.out.1.ra.length; simp at this; omega
          | cons p A' => exact ⟨p, A', rfl⟩
        obtain ⟨u, B, rfl⟩ : ∃ p B', B = p :: B' := by
          cases B with
          | nil => have := HS.out.1.rb.length; simp at this; omega
          | cons p B' => exact ⟨p, B', rfl⟩
        have ra := HS.out.1.ra.keep HS.out.1.below
        have rb := HS.out.1.rb.keep HS.out.1.below
        have c0 : wr.cell? ⟨ba, oa, none⟩ = some (.string s) := strs_cells ra 0 _ rfl
        have d0 : wr.cell? ⟨bb, ob, none⟩ = some (.string u) := strs_cells rb 0 _ rfl
        have HO := Lib.hid HS.out.1.own
        have hi1 : (0 : Int) < (x : Int) := by omega
        have hi2 : (0 : Int) < (y : Int) := by omega
        have hxc : ca ≤ 9223372036854775807 := HS.out.2.1
        have hyc : cb ≤ 9223372036854775807 := HS.out.2.2
        clear ra rb
        cases hle : ltT u s with
        | true =>
          have HLE := Lib.hid hle
          clear hle
          go_wp2_with fail
          go_quiet ((go_at_call 47; exact same_quietT (less_str _ _ _) HLE.out))
          go_wp2_with (at_builtin; (refine wpList_append_own _ rfl _ _ 59 rfl w.heap.size 9 i0 _ 1 16 Tryz.underlying59 hi hz0 hz1 hz2 rfl (by decide) _ _ _ rfl ((own_below HO.out (below_drewN (Below.refl _ _) _)).alloc _) ⟨wr.heap.size, 0, none⟩ 1 1 [.string u] rfl rfl (one_new _ _ _) (fun u hu => by simp at hu; subst hu; rfl) (by unfold maxLen; omega) (by omega) (Nat.le_trans HS.out.1.below.size (by simp)) ?_); intro v' w3 hown1 hgrow hnil; have HO1 := Lib.hid hown1; have HB3 := Lib.hid ((below_alloc (below_drewN HS.out.1.below _) _).grown hgrow (below_alloc (below_drewN HS.out.1.below _) _).size (fun j hj => (HO.out.lt j hj).1)); clear hown1 hgrow hnil)
          obtain ⟨q1, cp1, rfl⟩ := own_form HO1.out
          go_roundw
          case rel =>
            by_cases hc1 : cb = 1
            · rw [if_pos hc1]
              exact ⟨oa, x, ca, ob, y - 1, cb - 1, n + 1, q1, cp1, _, B, _, rfl, rfl, rfl, hx, by omega, by omega, HS.out.1.stepB HLE.out (strs_one_left HS.out.1.rb (by omega)) HO1.out HB3.out, HS.out.2.1, Nat.le_trans (Nat.sub_le _ _) HS.out.2.2⟩
            · rw [if_neg hc1]
              exact ⟨oa, x, ca, ob + 1, y - 1, cb - 1, n + 1, q1, cp1, _, B, _, rfl, rfl, rfl, hx, by omega, by omega, HS.out.1.stepB HLE.out (strs_tail HS.out.1.rb) HO1.out HB3.out, HS.out.2.1, Nat.le_trans (Nat.sub_le _ _) HS.out.2.2⟩
          case measure => simp [lenOfT]; omega
        | false =>
          have HLE := Lib.hid hle
          clear hle
          go_wp2_with fail
          go_quiet ((go_at_call 47; exact same_quietT (less_str _ _ _) HLE.out))
          go_wp2_with (at_builtin; (refine wpList_append_own _ rfl _ _ 59 rfl w.heap.size 9 i0 _ 1 16 Tryz.underlying59 hi hz0 hz1 hz2 rfl (by decide) _ _ _ rfl ((own_below HO.out (below_drewN (Below.refl _ _) _)).alloc _) ⟨wr.heap.size, 0, none⟩ 1 1 [.string s] rfl rfl (one_new _ _ _) (fun u hu => by simp at hu; subst hu; rfl) (by unfold maxLen; omega) (by omega) (Nat.le_trans HS.out.1.below.size (by simp)) ?_); intro v' w3 hown1 hgrow hnil; have HO1 := Lib.hid hown1; have HB3 := Lib.hid ((below_alloc (below_drewN HS.out.1.below _) _).grown hgrow (below_alloc (below_drewN HS.out.1.below _) _).size (fun j hj => (HO.out.lt j hj).1)); clear hown1 hgrow hnil)
          obtain ⟨q1, cp1, rfl⟩ := own_form HO1.out
          go_roundw
          case rel =>
            by_cases hc1 : ca = 1
            · rw [if_pos hc1]
              exact ⟨oa, x - 1, ca - 1, ob, y, cb, n + 1, q1, cp1, A, _, _, rfl, rfl, rfl, by omega, hy, by omega, HS.out.1.stepA HLE.out (strs_one_left HS.out.1.ra (by omega)) HO1.out HB3.out, Nat.le_trans (Nat.sub_le _ _) HS.out.2.1, HS.out.2.2⟩
            · rw [if_neg hc1]
              exact ⟨oa + 1, x - 1, ca - 1, ob, y, cb, n + 1, q1, cp1, A, _, _, rfl, rfl, rfl, by omega, hy, by omega, HS.out.1.stepA HLE.out (strs_tail HS.out.1.ra) HO1.out HB3.out, Nat.le_trans (Nat.sub_le _ _) HS.out.2.1, HS.out.2.2⟩
          case measure => simp [lenOfT]; omega
      · obtain rfl : y = 0 := by omega
        have HE := Lib.hid (show W ++ A ++ B = mergeT l k by
          rw [← HS.out.1.sum, mergeT_nil (.inr (List.length_eq_zero_iff.1 HS.out.1.rb.length)), List.append_assoc])
        have HO := Lib.hid HS.out.1.own
        have HBW := Lib.hid HS.out.1.below
        have RA := Lib.hid (HS.out.1.ra.keep HS.out.1.below)
        have hLA := Lib.hid HS.out.1.ra.length
        go_wp2_with (first | (at_builtin; (refine wpList_append_own _ rfl _ _ 59 rfl w.heap.size 9 i0 _ 1 16 Tryz.underlying59 hi hz0 hz1 hz2 rfl (by decide) _ _ _ rfl HO1.out ⟨bb, ob, none⟩ 0 cb (B.map Value.string) rfl (by rw [List.length_map, RB.out.length, Nat.mul_one]) (strs_cells RB.out) (strs_one _) (by unfold maxLen; omega) (by omega) HB1.out.size ?_); intro v' w5 hown1 hgrow hnil; have HO2 := Lib.hid hown1; have HB2 := Lib.hid (HB1.out.grown hgrow HB1.out.size (fun j hj => (HO1.out.lt j hj).1)); have RB := Lib.hid (HS.out.1.rb.keep HB2.out); clear hown1 hgrow hnil) | (at_builtin; (refine wpList_append_own _ rfl _ _ 59 rfl w.heap.size 9 i0 _ 1 16 Tryz.underlying59 hi hz0 hz1 hz2 rfl (by decide) _ _ _ rfl HO.out ⟨ba, oa, none⟩ x ca (A.map Value.string) rfl (by rw [List.length_map, RA.out.length, Nat.mul_one]) (strs_cells RA.out) (strs_one _) (by unfold maxLen; omega) (by omega) HBW.out.size ?_); intro v' w4 hown1 hgrow hnil; have HO1 := Lib.hid hown1; have HB1 := Lib.hid (HBW.out.grown hgrow HBW.out.size (fun j hj => (HO.out.lt j hj).1)); have RB := Lib.hid (HS.out.1.rb.keep HB1.out); clear hown1 hgrow hnil))
        obtain ⟨q1, cp1, rfl⟩ := own_form HO2.out
        have hlT : (mergeT l k).length = n + x + 0 := by rw [← HE.out, List.length_append, List.length_append, HS.out.1.length, HS.out.1.ra.length, HS.out.1.rb.length]
        have HF := Lib.hid (show w5.ownsRow w.heap.size 9 1 (.slice q1 (mergeT l k).length cp1) (mergeT l k).length ((mergeT l k).map Value.string) by
          rw [hlT, ← HE.out, List.map_append, List.map_append]; exact HO2.out)
        go_ret
        exact ⟨q1, cp1, by rw [hlT]; rfl, HF.out, HB2.out⟩
    · have hx1 : x = 0 := by omega
      have HE := Lib.hid (show W ++ A ++ B = mergeT l k by
        rw [← HS.out.1.sum, mergeT_nil (.inl (List.length_eq_zero_iff.1 (by rw [HS.out.1.ra.length]; omega))), List.append_assoc])
      have HO := Lib.hid HS.out.1.own
      have HBW := Lib.hid HS.out.1.below
      have RA := Lib.hid (HS.out.1.ra.keep HS.out.1.below)
      have hLA := Lib.hid HS.out.1.ra.length
      go_wp2_with (first | (at_builtin; (refine wpList_append_own _ rfl _ _ 59 rfl w.heap.size 9 i0 _ 1 16 Tryz.underlying59 hi hz0 hz1 hz2 rfl (by decide) _ _ _ rfl HO1.out ⟨bb, ob, none⟩ y cb (B.map Value.string) rfl (by rw [List.length_map, RB.out.length, Nat.mul_one]) (strs_cells RB.out) (strs_one _) (by unfold maxLen; omega) (by omega) HB1.out.size ?_); intro v' w5 hown1 hgrow hnil; have HO2 := Lib.hid hown1; have HB2 := Lib.hid (HB1.out.grown hgrow HB1.out.size (fun j hj => (HO1.out.lt j hj).1)); have RB := Lib.hid (HS.out.1.rb.keep HB2.out); clear hown1 hgrow hnil) | (at_builtin; (refine wpList_append_own _ rfl _ _ 59 rfl w.heap.size 9 i0 _ 1 16 Tryz.underlying59 hi hz0 hz1 hz2 rfl (by decide) _ _ _ rfl HO.out ⟨ba, oa, none⟩ x ca (A.map Value.string) rfl (by rw [List.length_map, RA.out.length, Nat.mul_one]) (strs_cells RA.out) (strs_one _) (by unfold maxLen; omega) (by omega) HBW.out.size ?_); intro v' w4 hown1 hgrow hnil; have HO1 := Lib.hid hown1; have HB1 := Lib.hid (HBW.out.grown hgrow HBW.out.size (fun j hj => (HO.out.lt j hj).1)); have RB := Lib.hid (HS.out.1.rb.keep HB1.out); clear hown1 hgrow hnil))
      obtain ⟨q1, cp1, rfl⟩ := own_form HO2.out
      have hlT : (mergeT l k).length = n + x + y := by rw [← HE.out, List.length_append, List.length_append, HS.out.1.length, HS.out.1.ra.length, HS.out.1.rb.length]
      have HF := Lib.hid (show w5.ownsRow w.heap.size 9 1 (.slice q1 (mergeT l k).length cp1) (mergeT l k).length ((mergeT l k).map Value.string) by
        rw [hlT, ← HE.out, List.map_append, List.map_append]; exact HO2.out)
      go_ret
      exact ⟨q1, cp1, by rw [hlT]; rfl, HF.out, HB2.out⟩
theorem mergedT_any (ba oa la ca bb ob lb cb : Nat) (l k : Strs) (w : World) (ha : StrsAt w (some ⟨ba, oa, none⟩) la l) (hb : StrsAt w (some ⟨bb, ob, none⟩) lb k) (hca : la ≤ ca) (hcb : lb ≤ cb) (hcam : ca ≤ maxLen) (hcbm : cb ≤ maxLen) (h6 : la + lb ≤ 1048576) :
    Calls Tryz.prog 46 #[.slice (some ⟨ba, oa, none⟩) la ca, .slice (some ⟨bb, ob, none⟩) lb cb, .func (Fn.func 47) #[] #[]] w (MadeKs (mergeT l k) w) :=
  (mergedTo_any ba oa la ca bb ob lb cb l k w ha hb hca hcb hcam hcbm h6).mono fun _ _ h => ko_ks h
end Go.Proofs.YtblpebdjbenphaaGreatDoor
