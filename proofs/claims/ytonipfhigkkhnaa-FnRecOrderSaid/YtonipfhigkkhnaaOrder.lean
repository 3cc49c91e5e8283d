
/- The law on the order of records, walked: of two unlike records just one is less, and less goes on. Only new blocks are made. -/
import Derived.Test.YtonipfhigkkhnaaDrawRec
import Derived.Test.YtonipfhigkkhnaaRecS
import Derived.Test.YtonipfhigkkhnaaSortM
import Derived.Test.YtonipfhigkkhnaaHeld
namespace Go.Proofs.Ytonipfhigkkhnaa
open Go.ChangeShapes Go.WideShapes Go.ChangeAt Go.RowKit
set_option linter.unusedVariables false
set_option maxRecDepth 100000

/-- Whether the record (s, n) is less than (u, m), as RecLess says. -/
def lessR (s : ByteArray) (n : Int) (u : ByteArray) (m : Int) : Bool := okB s && okB u && lessB s n u m
theorem recless_as {s u : ByteArray} {n m : Int} {x : Bool} (w : World) (h : lessR s n u m = x) : Calls Try.prog 24 #[.agg #[.string s, .int .i64 n], .agg #[.string u, .int .i64 m]] w (MadeBool x w) := h ▸ recless_any s n u m w
theorem srecless_as {s u : ByteArray} {n m : Int} {x : Bool} (w : World) (h : lessR s n u m = x) : Calls Try.prog 25 #[.agg #[.string s, .int .i64 n], .agg #[.string u, .int .i64 m]] w (MadeBool x w) := h ▸ srecless_any s n u m w
theorem recok_as {s : ByteArray} {o : Bool} (n : Int) (w : World) (h : okB s = o) : Calls Try.prog 26 #[.agg #[.string s, .int .i64 n]] w (MadeBool o w) := h ▸ recok_any s n w
theorem srecok_as {s : ByteArray} {o : Bool} (n : Int) (w : World) (h : okB s = o) : Calls Try.prog 27 #[.agg #[.string s, .int .i64 n]] w (MadeBool o w) := h ▸ srecok_any s n w

theorem lessR_self (s : ByteArray) (n : Int) : lessR s n s n = false := by
  unfold lessR
  rw [Bool.and_eq_false_iff]
  right
  rw [← Bool.not_eq_true, less_iff]
  rintro (h | ⟨_, h⟩)
  · exact List.lt_irrefl _ h
  · omega
theorem lessR_one {s u : ByteArray} {n m : Int} (h1 : okB s = true) (h2 : okB u = true) (hne : ¬ (s = u ∧ n = m)) : lessR s n u m = !lessR u m s n := by
  unfold lessR
  rw [h1, h2, Bool.and_true, Bool.true_and, Bool.true_and]
  cases hx : lessB s n u m with
  | true =>
    cases hy : lessB u m s n with
    | false => rfl
    | true =>
      exfalso
      rw [less_iff] at hx hy
      rcases hx with hx | ⟨hx, hx2⟩ <;> rcases hy with hy | ⟨hy, hy2⟩
      · exact List.lt_irrefl _ (List.lt_trans hx hy)
      · rw [hy] at hx; exact List.lt_irrefl _ hx
      · rw [hx] at hy; exact List.lt_irrefl _ hy
      · omega
  | false =>
    cases hy : lessB u m s n with
    | true => rfl
    | false =>
      exfalso
      have e1 : leR (s, n) (u, m) = true := by unfold leR; rw [hy]; rfl
      have e2 : leR (u, m) (s, n) = true := by unfold leR; rw [hx]; rfl
      have := leR_antisymm _ _ e1 e2
      exact hne ⟨(Prod.ext_iff.1 this).1, (Prod.ext_iff.1 this).2⟩
theorem lessR_trans {s u t : ByteArray} {n m p : Int} (h : lessR s n u m = true) (k : lessR u m t p = true) : lessR s n t p = true := by
  unfold lessR at h k ⊢
  rw [Bool.and_eq_true, Bool.and_eq_true, less_iff] at h k ⊢
  refine ⟨⟨h.1.1, k.1.2⟩, ?_⟩
  rcases h.2 with hx | ⟨hx, hx2⟩ <;> rcases k.2 with hy | ⟨hy, hy2⟩
  · exact .inl (List.lt_trans hx hy)
  · exact .inl (hy ▸ hx)
  · exact .inl (hx ▸ hy)
  · exact .inr ⟨hx.trans hy, by omega⟩

/-- Three boxes of two cells. -/
structure Box6 (w : World) (b c : Nat) (s u t : ByteArray) (n m p : Int) : Prop where
  c0 : w.cell? ⟨b, 0, none⟩ = some (.string s)
  c1 : w.cell? ⟨b, 1, none⟩ = some (.int .i64 n)
  d0 : w.cell? ⟨b + 1, 0, none⟩ = some (.string u)
  d1 : w.cell? ⟨b + 1, 1, none⟩ = some (.int .i64 m)
  f0 : w.cell? ⟨c, 0, none⟩ = some (.string t)
  f1 : w.cell? ⟨c, 1, none⟩ = some (.int .i64 p)
theorem Box6.keep {w w1 : World} {b c : Nat} {s u t : ByteArray} {n m p : Int} (h : Box6 w b c s u t n m p) (hB : Below w.heap.size w w1) : Box6 w1 b c s u t n m p :=
  ⟨(hB.cell (p := ⟨b, 0, none⟩) (World.block_lt_of_cell? _ _ h.c0)).trans h.c0, (hB.cell (p := ⟨b, 1, none⟩) (World.block_lt_of_cell? _ _ h.c1)).trans h.c1, (hB.cell (p := ⟨b + 1, 0, none⟩) (World.block_lt_of_cell? _ _ h.d0)).trans h.d0, (hB.cell (p := ⟨b + 1, 1, none⟩) (World.block_lt_of_cell? _ _ h.d1)).trans h.d1, (hB.cell (p := ⟨c, 0, none⟩) (World.block_lt_of_cell? _ _ h.f0)).trans h.f0, (hB.cell (p := ⟨c, 1, none⟩) (World.block_lt_of_cell? _ _ h.f1)).trans h.f1⟩

set_option maxHeartbeats 8000000 in
theorem fnRecOrder_walk (w : World) (a : Option Addr) (len cap : Nat) (h : Src w a len) (a2 : Option Addr) (len2 cap2 : Nat) (h2 : Src w a2 len2) :
    Calls Try.prog 4 #[.slice a len cap, .slice a2 len2 cap2] w fun e w' => e = .returned (.bool true) ∧ Below w.heap.size w w' := by
  have S := Lib.hid h
  have S2 := Lib.hid h2
  clear h h2
  by_cases hb : 1048576 < len
  · go_enter Try.func4, Try.ntmps4
    go_wp2_with (go_at_call 15; refine (big_yes _ _ _ _ hb).mono ?_; rintro e w' ⟨rfl, rfl⟩)
    go_ret
    exact ⟨rfl, Below.refl _ _⟩
  · by_cases hb2 : 1048576 < len2
    · go_enter Try.func4, Try.ntmps4
      go_wp2_with (first | (go_at_call 15; (with_reducible refine (big_no _ _ _ _ hb).mono ?_); rintro e w' ⟨rfl, rfl⟩) | (go_at_call 15; (with_reducible refine (big_yes _ _ _ _ hb2).mono ?_); rintro e w' ⟨rfl, rfl⟩))
      go_ret
      exact ⟨rfl, Below.refl _ _⟩
    · go_enter Try.func4, Try.ntmps4
      go_wp2_with (first | (go_at_call 15; (with_reducible refine (big_no _ _ _ _ hb).mono ?_); rintro e w' ⟨rfl, rfl⟩) | (go_at_call 15; (with_reducible refine (big_no _ _ _ _ hb2).mono ?_); rintro e w' ⟨rfl, rfl⟩))
      refine (drawrecless_any _ _ _ _ S.out).mono ?_
      rintro e w1 ⟨s, u, n, m, hs, hu, hn, hm, rfl, hB⟩
      have HB := Lib.hid hB
      clear hB hn hm
      unfold recV
      go_wp2_with fail
      obtain ⟨b1, hb1⟩ : ∃ b1, w1.heap.size = b1 := ⟨_, rfl⟩
      have HX0 := Lib.hid (show Row ((w1.alloc (.cells #[.string s, .int .i64 n] 33)).alloc (.cells #[.string u, .int .i64 m] 33)) b1 33 #[.string s, .int .i64 n] from hb1 ▸ (Row.new w1 _ _).alloc _)
      have HX1 := Lib.hid (show Row ((w1.alloc (.cells #[.string s, .int .i64 n] 33)).alloc (.cells #[.string u, .int .i64 m] 33)) (b1 + 1) 33 #[.string u, .int .i64 m] from by
        have := Row.new (w1.alloc (.cells #[.string s, .int .i64 n] 33)) 33 #[.string u, .int .i64 m]
        rw [show (w1.alloc (.cells #[.string s, .int .i64 n] 33)).heap.size = b1 + 1 by rw [← hb1]; simp] at this
        exact this)
      have HB := Lib.hid (below_alloc (below_alloc HB.out (.cells #[.string s, .int .i64 n] 33)) (.cells #[.string u, .int .i64 m] 33))
      rw [hb1]
      clear hb1
      refine (drawrecless_any _ _ _ _ (S2.out.below HB.out)).mono ?_
      rintro e w2 ⟨t, t', p, p', ht, ht', hp, hp', rfl, hB⟩
      have HX0 := Lib.hid (HX0.out.keep hB)
      have HX1 := Lib.hid (HX1.out.keep hB)
      have HB := Lib.hid (below_via HB.out hB)
      clear hB hp hp'
      have hx0 := (HX0.out.alloc (.cells #[.string t, .int .i64 p] 33)).alloc (.cells #[.string t', .int .i64 p'] 33)
      have hx1 := (HX1.out.alloc (.cells #[.string t, .int .i64 p] 33)).alloc (.cells #[.string t', .int .i64 p'] 33)
      have c0 : ((w2.alloc (.cells #[.string t, .int .i64 p] 33)).alloc (.cells #[.string t', .int .i64 p'] 33)).cell? ⟨b1, 0, none⟩ = some (.string s) := hx0.cell (j := 0) (by simp)
      have c1 : ((w2.alloc (.cells #[.string t, .int .i64 p] 33)).alloc (.cells #[.string t', .int .i64 p'] 33)).cell? ⟨b1, 1, none⟩ = some (.int .i64 n) := hx0.cell (j := 1) (by simp)
      have d0 : ((w2.alloc (.cells #[.string t, .int .i64 p] 33)).alloc (.cells #[.string t', .int .i64 p'] 33)).cell? ⟨b1 + 1, 0, none⟩ = some (.string u) := hx1.cell (j := 0) (by simp)
      have d1 : ((w2.alloc (.cells #[.string t, .int .i64 p] 33)).alloc (.cells #[.string t', .int .i64 p'] 33)).cell? ⟨b1 + 1, 1, none⟩ = some (.int .i64 m) := hx1.cell (j := 1) (by simp)
      clear hx0 hx1
      unfold recV
      go_wp2_with fail
      obtain ⟨b2, hb2⟩ : ∃ b2, w2.heap.size = b2 := ⟨_, rfl⟩
      obtain ⟨w3, hw3⟩ : ∃ w3, (w2.alloc (.cells #[.string t, .int .i64 p] 33)).alloc (.cells #[.string t', .int .i64 p'] 33) = w3 := ⟨_, rfl⟩
      have hX : Box6 w3 b1 b2 s u t n m p := by
        have h0 := (HX0.out.alloc (.cells #[.string t, .int .i64 p] 33)).alloc (.cells #[.string t', .int .i64 p'] 33)
        have h1 := (HX1.out.alloc (.cells #[.string t, .int .i64 p] 33)).alloc (.cells #[.string t', .int .i64 p'] 33)
        have h2 := (Row.new w2 33 #[.string t, .int .i64 p]).alloc (.cells #[.string t', .int .i64 p'] 33)
        rw [hw3] at h0 h1 h2
        rw [hb2] at h2
        exact ⟨h0.cell (j := 0) (by simp), h0.cell (j := 1) (by simp), h1.cell (j := 0) (by simp), h1.cell (j := 1) (by simp), h2.cell (j := 0) (by simp), h2.cell (j := 1) (by simp)⟩
      have HB := Lib.hid (show Below w.heap.size w w3 from hw3 ▸ below_alloc (below_alloc HB.out _) _)
      have HX := Lib.hid hX
      have HW3 := Lib.hid hw3
      have HB2 := Lib.hid hb2
      clear hX hw3 hb2 HX0 HX1
      rw [HW3.out, HB2.out]
      clear c0 c1 d0 d1
      obtain ⟨o1, ho1⟩ : ∃ o, okB s = o := ⟨_, rfl⟩
      obtain ⟨o2, ho2⟩ : ∃ o, okB u = o := ⟨_, rfl⟩
      obtain ⟨x, hx⟩ : ∃ x, lessR s n u m = x := ⟨_, rfl⟩
      obtain ⟨y, hy⟩ : ∃ x, lessR u m s n = x := ⟨_, rfl⟩
      obtain ⟨z, hz⟩ : ∃ x, lessR u m t p = x := ⟨_, rfl⟩
      obtain ⟨v, hv⟩ : ∃ x, lessR s n t p = x := ⟨_, rfl⟩
      have HO1 := Lib.hid ho1
      have HO2 := Lib.hid ho2
      have HXV := Lib.hid hx
      have HYV := Lib.hid hy
      have HZV := Lib.hid hz
      have HVV := Lib.hid hv
      have HF3 := Lib.hid (show x = true → z = true → v = true from fun h k => by rw [← hv]; exact lessR_trans (hx.trans h) (hz.trans k))
      clear ho1 ho2 hx hy hz hv
      refine (recless_as _ HXV.out).mono ?_
      rintro e w4 ⟨rfl, hB⟩
      have HB := Lib.hid (below_via HB.out hB)
      have HX := Lib.hid (HX.out.keep hB)
      have c0 := HX.out.c0
      have c1 := HX.out.c1
      have d0 := HX.out.d0
      have d1 := HX.out.d1
      have f0 := HX.out.f0
      have f1 := HX.out.f1
      clear hB
      go_wp2_with fail
      refine (recless_as _ HYV.out).mono ?_
      rintro e w5 ⟨rfl, hB⟩
      have HB := Lib.hid (below_via HB.out hB)
      have HX := Lib.hid (HX.out.keep hB)
      have c0 := HX.out.c0
      have c1 := HX.out.c1
      have d0 := HX.out.d0
      have d1 := HX.out.d1
      have f0 := HX.out.f0
      have f1 := HX.out.f1
      clear hB
      by_cases hgood : o1 = true ∧ o2 = true
      · obtain ⟨rfl, rfl⟩ := hgood
        cases x with
        | false =>
          go_wp2_with fail
          have HB := Lib.hid HB.out.drew
          have HX := Lib.hid (HX.out.keep (Below.refl _ _).drew)
          go_region_held3 (fun w' => Hid (Below w.heap.size w w') ∧ Hid (Box6 w' b1 b2 s u t n m p) ∧ w'.cell? ⟨b1, 0, none⟩ = some (.string s) ∧ w'.cell? ⟨b1, 1, none⟩ = some (.int .i64 n) ∧ w'.cell? ⟨b1 + 1, 0, none⟩ = some (.string u) ∧ w'.cell? ⟨b1 + 1, 1, none⟩ = some (.int .i64 m) ∧ w'.cell? ⟨b2, 0, none⟩ = some (.string t) ∧ w'.cell? ⟨b2, 1, none⟩ = some (.int .i64 p))
            (first | exact ⟨HB, HX, c0, c1, d0, d1, f0, f1⟩ | exact ⟨Lib.hid HB.out.drew, Lib.hid (HX.out.keep (Below.refl _ _).drew), c0, c1, d0, d1, f0, f1⟩)
            (first | (go_at_call 25; (with_reducible refine (srecless_as _ HXV.out).mono ?_); rintro e w5 ⟨rfl, hB⟩; have HB := Lib.hid (below_via HB.out hB); have HX := Lib.hid (HX.out.keep hB); have c0 := HX.out.c0; have c1 := HX.out.c1; have d0 := HX.out.d0; have d1 := HX.out.d1; have f0 := HX.out.f0; have f1 := HX.out.f1; clear hB) | (go_at_call 26; (with_reducible refine (recok_as n _ HO1.out).mono ?_); rintro e w5 ⟨rfl, hB⟩; have HB := Lib.hid (below_via HB.out hB); have HX := Lib.hid (HX.out.keep hB); have c0 := HX.out.c0; have c1 := HX.out.c1; have d0 := HX.out.d0; have d1 := HX.out.d1; have f0 := HX.out.f0; have f1 := HX.out.f1; clear hB) | (go_at_call 27; (with_reducible refine (srecok_as n _ HO1.out).mono ?_); rintro e w5 ⟨rfl, hB⟩; have HB := Lib.hid (below_via HB.out hB); have HX := Lib.hid (HX.out.keep hB); have c0 := HX.out.c0; have c1 := HX.out.c1; have d0 := HX.out.d0; have d1 := HX.out.d1; have f0 := HX.out.f0; have f1 := HX.out.f1; clear hB) | (go_at_call 27; (with_reducible refine (srecok_as m _ HO2.out).mono ?_); rintro e w5 ⟨rfl, hB⟩; have HB := Lib.hid (below_via HB.out hB); have HX := Lib.hid (HX.out.keep hB); have c0 := HX.out.c0; have c1 := HX.out.c1; have d0 := HX.out.d0; have d1 := HX.out.d1; have f0 := HX.out.f0; have f1 := HX.out.f1; clear hB))
          by_cases e1 : s.toList = u.toList
          · by_cases e2 : n = m
            · obtain rfl : y = false := by rw [← HYV.out, ← toList_inj e1, e2]; exact lessR_self _ _
              go_wp2_with fail
              go_ret
              exact ⟨rfl, HB.out⟩
            · obtain rfl : y = true := by have := lessR_one (n := n) (m := m) HO1.out HO2.out (fun h => e2 h.2); rw [HXV.out, HYV.out] at this; simpa using this.symm
              go_wp2_with fail
              go_ret
              exact ⟨rfl, HB.out⟩
          · obtain rfl : y = true := by have := lessR_one (n := n) (m := m) HO1.out HO2.out (fun h => e1 (by rw [h.1])); rw [HXV.out, HYV.out] at this; simpa using this.symm
            go_wp2_with fail
            go_ret
            exact ⟨rfl, HB.out⟩
        | true =>
          obtain rfl : y = false := by
            by_cases e : s = u ∧ n = m
            · have := HXV.out
              rw [e.1, e.2, lessR_self] at this
              exact absurd this (by simp)
            · have := lessR_one (n := n) (m := m) HO1.out HO2.out e; rw [HXV.out, HYV.out] at this; simpa using this.symm
          go_wp2_with fail
          have HB := Lib.hid HB.out.drew
          have HX := Lib.hid (HX.out.keep (Below.refl _ _).drew)
          go_region_held3 (fun w' => Hid (Below w.heap.size w w') ∧ Hid (Box6 w' b1 b2 s u t n m p) ∧ w'.cell? ⟨b1, 0, none⟩ = some (.string s) ∧ w'.cell? ⟨b1, 1, none⟩ = some (.int .i64 n) ∧ w'.cell? ⟨b1 + 1, 0, none⟩ = some (.string u) ∧ w'.cell? ⟨b1 + 1, 1, none⟩ = some (.int .i64 m) ∧ w'.cell? ⟨b2, 0, none⟩ = some (.string t) ∧ w'.cell? ⟨b2, 1, none⟩ = some (.int .i64 p))
            (first | exact ⟨HB, HX, c0, c1, d0, d1, f0, f1⟩ | exact ⟨Lib.hid HB.out.drew, Lib.hid (HX.out.keep (Below.refl _ _).drew), c0, c1, d0, d1, f0, f1⟩)
            (first | (go_at_call 25; (with_reducible refine (srecless_as _ HXV.out).mono ?_); rintro e w5 ⟨rfl, hB⟩; have HB := Lib.hid (below_via HB.out hB); have HX := Lib.hid (HX.out.keep hB); have c0 := HX.out.c0; have c1 := HX.out.c1; have d0 := HX.out.d0; have d1 := HX.out.d1; have f0 := HX.out.f0; have f1 := HX.out.f1; clear hB) | (go_at_call 26; (with_reducible refine (recok_as n _ HO1.out).mono ?_); rintro e w5 ⟨rfl, hB⟩; have HB := Lib.hid (below_via HB.out hB); have HX := Lib.hid (HX.out.keep hB); have c0 := HX.out.c0; have c1 := HX.out.c1; have d0 := HX.out.d0; have d1 := HX.out.d1; have f0 := HX.out.f0; have f1 := HX.out.f1; clear hB) | (go_at_call 27; (with_reducible refine (srecok_as n _ HO1.out).mono ?_); rintro e w5 ⟨rfl, hB⟩; have HB := Lib.hid (below_via HB.out hB); have HX := Lib.hid (HX.out.keep hB); have c0 := HX.out.c0; have c1 := HX.out.c1; have d0 := HX.out.d0; have d1 := HX.out.d1; have f0 := HX.out.f0; have f1 := HX.out.f1; clear hB) | (go_at_call 27; (with_reducible refine (srecok_as m _ HO2.out).mono ?_); rintro e w5 ⟨rfl, hB⟩; have HB := Lib.hid (below_via HB.out hB); have HX := Lib.hid (HX.out.keep hB); have c0 := HX.out.c0; have c1 := HX.out.c1; have d0 := HX.out.d0; have d1 := HX.out.d1; have f0 := HX.out.f0; have f1 := HX.out.f1; clear hB))
          cases z with
          | true =>
            obtain rfl : v = true := HF3.out (by simp) (by simp)
            by_cases e1 : s.toList = u.toList
            · by_cases e2 : n = m
              · exfalso
                have := HXV.out
                rw [toList_inj e1, e2, lessR_self] at this
                exact absurd this (by simp)
              · go_wp2_with (first | (go_at_call 24; (with_reducible refine (recless_as _ HZV.out).mono ?_); rintro e w5 ⟨rfl, hB⟩; have HB := Lib.hid (below_via HB.out hB); have HX := Lib.hid (HX.out.keep hB); have c0 := HX.out.c0; have c1 := HX.out.c1; have d0 := HX.out.d0; have d1 := HX.out.d1; have f0 := HX.out.f0; have f1 := HX.out.f1; clear hB) | (go_at_call 24; (with_reducible refine (recless_as _ HVV.out).mono ?_); rintro e w5 ⟨rfl, hB⟩; have HB := Lib.hid (below_via HB.out hB); have HX := Lib.hid (HX.out.keep hB); have c0 := HX.out.c0; have c1 := HX.out.c1; have d0 := HX.out.d0; have d1 := HX.out.d1; have f0 := HX.out.f0; have f1 := HX.out.f1; clear hB))
                go_ret
                exact ⟨rfl, HB.out⟩
            · go_wp2_with (first | (go_at_call 24; (with_reducible refine (recless_as _ HZV.out).mono ?_); rintro e w5 ⟨rfl, hB⟩; have HB := Lib.hid (below_via HB.out hB); have HX := Lib.hid (HX.out.keep hB); have c0 := HX.out.c0; have c1 := HX.out.c1; have d0 := HX.out.d0; have d1 := HX.out.d1; have f0 := HX.out.f0; have f1 := HX.out.f1; clear hB) | (go_at_call 24; (with_reducible refine (recless_as _ HVV.out).mono ?_); rintro e w5 ⟨rfl, hB⟩; have HB := Lib.hid (below_via HB.out hB); have HX := Lib.hid (HX.out.keep hB); have c0 := HX.out.c0; have c1 := HX.out.c1; have d0 := HX.out.d0; have d1 := HX.out.d1; have f0 := HX.out.f0; have f1 := HX.out.f1; clear hB))
              go_ret
              exact ⟨rfl, HB.out⟩
          | false =>
            by_cases e1 : s.toList = u.toList
            · by_cases e2 : n = m
              · exfalso
                have := HXV.out
                rw [toList_inj e1, e2, lessR_self] at this
                exact absurd this (by simp)
              · go_wp2_with (first | (go_at_call 24; (with_reducible refine (recless_as _ HZV.out).mono ?_); rintro e w5 ⟨rfl, hB⟩; have HB := Lib.hid (below_via HB.out hB); have HX := Lib.hid (HX.out.keep hB); have c0 := HX.out.c0; have c1 := HX.out.c1; have d0 := HX.out.d0; have d1 := HX.out.d1; have f0 := HX.out.f0; have f1 := HX.out.f1; clear hB) | (go_at_call 24; (with_reducible refine (recless_as _ HVV.out).mono ?_); rintro e w5 ⟨rfl, hB⟩; have HB := Lib.hid (below_via HB.out hB); have HX := Lib.hid (HX.out.keep hB); have c0 := HX.out.c0; have c1 := HX.out.c1; have d0 := HX.out.d0; have d1 := HX.out.d1; have f0 := HX.out.f0; have f1 := HX.out.f1; clear hB))
                go_ret
                exact ⟨rfl, HB.out⟩
            · go_wp2_with (first | (go_at_call 24; (with_reducible refine (recless_as _ HZV.out).mono ?_); rintro e w5 ⟨rfl, hB⟩; have HB := Lib.hid (below_via HB.out hB); have HX := Lib.hid (HX.out.keep hB); have c0 := HX.out.c0; have c1 := HX.out.c1; have d0 := HX.out.d0; have d1 := HX.out.d1; have f0 := HX.out.f0; have f1 := HX.out.f1; clear hB) | (go_at_call 24; (with_reducible refine (recless_as _ HVV.out).mono ?_); rintro e w5 ⟨rfl, hB⟩; have HB := Lib.hid (below_via HB.out hB); have HX := Lib.hid (HX.out.keep hB); have c0 := HX.out.c0; have c1 := HX.out.c1; have d0 := HX.out.d0; have d1 := HX.out.d1; have f0 := HX.out.f0; have f1 := HX.out.f1; clear hB))
              go_ret
              exact ⟨rfl, HB.out⟩
      · cases o1 with
        | false =>
          cases x with
          | false =>
            go_wp2_with fail
            refine wp_region_noPanic ?_
            refine wp_region_held_drew (S := (fun w' => Hid (Below w.heap.size w w' ∧ Box6 w' b1 b2 s u t n m p))) (by kernel_rfl) (Lib.hid ⟨HB.out.drew, HX.out.keep (Below.refl _ _).drew⟩) (fun HS => ?_)
            refine held_take (i := 0) (d := 33) (v := .bool false) rfl rfl (by kernel_rfl) (by kernel_rfl) (by kernel_rfl) (by kernel_rfl) (fun wx hS => by go_simp) HS ?_
            refine held_take (i := 1) (d := 34) (v := .agg #[.string s, .int .i64 n]) rfl rfl (by kernel_rfl) (by kernel_rfl) (by kernel_rfl) (by kernel_rfl) (fun wx hS => by have k0 := hS.out.2.c0; have k1 := hS.out.2.c1; go_simp) HS ?_
            refine held_take (i := 2) (d := 35) (v := .agg #[.string u, .int .i64 m]) rfl rfl (by kernel_rfl) (by kernel_rfl) (by kernel_rfl) (by kernel_rfl) (fun wx hS => by have k0 := hS.out.2.d0; have k1 := hS.out.2.d1; go_simp) HS ?_
            refine wpAnyH_ready (rs := [3]) (by kernel_rfl) (by simp) (AllReadyH.cons rfl (fun K hK => ?_) AllReadyH.nil)
            go_simp
            refine (srecless_as _ HXV.out).mono ?_
            rintro e w6 ⟨rfl, hB⟩
            have HS := Lib.hid (And.intro (below_via HS.out.1 hB) (HS.out.2.keep hB))
            clear hB
            refine hK.out _ _ HS (fun _ => ?_)
            clear hK K
            refine held_take (i := 4) (d := 37) (v := .bool false) rfl rfl (by kernel_rfl) (by kernel_rfl) (by kernel_rfl) (by kernel_rfl) (fun wx hS => by go_simp) HS ?_
            refine held_take (i := 5) (d := 38) (v := .bool false) rfl rfl (by kernel_rfl) (by kernel_rfl) (by kernel_rfl) (by kernel_rfl) (fun wx hS => by go_simp) HS ?_
            refine held_take (i := 6) (d := 39) (v := .agg #[.string s, .int .i64 n]) rfl rfl (by kernel_rfl) (by kernel_rfl) (by kernel_rfl) (by kernel_rfl) (fun wx hS => by have k0 := hS.out.2.c0; have k1 := hS.out.2.c1; go_simp) HS ?_
            refine held_take (i := 8) (d := 41) (v := .agg #[.string s, .int .i64 n]) rfl rfl (by kernel_rfl) (by kernel_rfl) (by kernel_rfl) (by kernel_rfl) (fun wx hS => by have k0 := hS.out.2.c0; have k1 := hS.out.2.c1; go_simp) HS ?_
            refine wpAnyH_ready (rs := [7]) (by kernel_rfl) (by simp) (AllReadyH.cons rfl (fun K hK => ?_) AllReadyH.nil)
            go_simp
            refine (recok_as n _ HO1.out).mono ?_
            rintro e w6 ⟨rfl, hB⟩
            have HS := Lib.hid (And.intro (below_via HS.out.1 hB) (HS.out.2.keep hB))
            clear hB
            refine hK.out _ _ HS (fun _ => ?_)
            clear hK K
            refine wpAnyH_ready (rs := [9]) (by kernel_rfl) (by simp) (AllReadyH.cons rfl (fun K hK => ?_) AllReadyH.nil)
            go_simp
            refine (srecok_as n _ HO1.out).mono ?_
            rintro e w6 ⟨rfl, hB⟩
            have HS := Lib.hid (And.intro (below_via HS.out.1 hB) (HS.out.2.keep hB))
            clear hB
            refine hK.out _ _ HS (fun _ => ?_)
            clear hK K
            refine held_take (i := 10) (d := 43) (v := .bool false) rfl rfl (by kernel_rfl) (by kernel_rfl) (by kernel_rfl) (by kernel_rfl) (fun wx hS => by go_simp) HS ?_
            refine held_take (i := 11) (d := 44) (v := .bool false) rfl rfl (by kernel_rfl) (by kernel_rfl) (by kernel_rfl) (by kernel_rfl) (fun wx hS => by go_simp) HS ?_
            refine held_take (i := 12) (d := 45) (v := .bool false) rfl rfl (by kernel_rfl) (by kernel_rfl) (by kernel_rfl) (by kernel_rfl) (fun wx hS => by go_simp) HS ?_
            refine held_take (i := 13) (d := 46) (v := .agg #[.string s, .int .i64 n]) rfl rfl (by kernel_rfl) (by kernel_rfl) (by kernel_rfl) (by kernel_rfl) (fun wx hS => by have k0 := hS.out.2.c0; have k1 := hS.out.2.c1; go_simp) HS ?_
            refine wpAnyH_ready (rs := [14]) (by kernel_rfl) (by simp) (AllReadyH.cons rfl (fun K hK => ?_) AllReadyH.nil)
            go_simp
            refine (srecok_as n _ HO1.out).mono ?_
            rintro e w6 ⟨rfl, hB⟩
            have HS := Lib.hid (And.intro (below_via HS.out.1 hB) (HS.out.2.keep hB))
            clear hB
            refine hK.out _ _ HS (fun _ => ?_)
            clear hK K
            refine held_take (i := 15) (d := 48) (v := .bool true) rfl rfl (by kernel_rfl) (by kernel_rfl) (by kernel_rfl) (by kernel_rfl) (fun wx hS => by go_simp) HS ?_
            refine held_take (i := 16) (d := 49) (v := .bool true) rfl rfl (by kernel_rfl) (by kernel_rfl) (by kernel_rfl) (by kernel_rfl) (fun wx hS => by go_simp) HS ?_
            refine held_take (i := 17) (d := 50) (v := .bool true) rfl rfl (by kernel_rfl) (by kernel_rfl) (by kernel_rfl) (by kernel_rfl) (fun wx hS => by go_simp) HS ?_
            refine held_skip (i := 18) (d := 51) rfl rfl (by kernel_rfl) (by kernel_rfl) (by kernel_rfl) (by kernel_rfl) HS ?_
            refine held_skip (i := 19) (d := 52) rfl rfl (by kernel_rfl) (by kernel_rfl) (by kernel_rfl) (by kernel_rfl) HS ?_
            refine held_skip (i := 20) (d := 53) rfl rfl (by kernel_rfl) (by kernel_rfl) (by kernel_rfl) (by kernel_rfl) HS ?_
            refine held_take (i := 21) (d := 54) (v := .bool true) rfl rfl (by kernel_rfl) (by kernel_rfl) (by kernel_rfl) (by kernel_rfl) (fun wx hS => by go_simp) HS ?_
            refine wpAnyH_done (by kernel_rfl) (NoPanic.normal ?_) _
            simp only [List.setIfInBounds_toArray, List.set_cons_zero, List.set_cons_succ]
            have HB := Lib.hid HS.out.1
            have HX := Lib.hid HS.out.2
            have c0 := HX.out.c0
            have c1 := HX.out.c1
            have d0 := HX.out.d0
            have d1 := HX.out.d1
            have f0 := HX.out.f0
            have f1 := HX.out.f1
            go_wp2_with fail
            have HB := Lib.hid HB.out.drew
            have HX := Lib.hid (HX.out.keep (Below.refl _ _).drew)
            go_region_held3 (fun w' => Hid (Below w.heap.size w w') ∧ Hid (Box6 w' b1 b2 s u t n m p) ∧ w'.cell? ⟨b1, 0, none⟩ = some (.string s) ∧ w'.cell? ⟨b1, 1, none⟩ = some (.int .i64 n) ∧ w'.cell? ⟨b1 + 1, 0, none⟩ = some (.string u) ∧ w'.cell? ⟨b1 + 1, 1, none⟩ = some (.int .i64 m) ∧ w'.cell? ⟨b2, 0, none⟩ = some (.string t) ∧ w'.cell? ⟨b2, 1, none⟩ = some (.int .i64 p))
              (first | exact ⟨HB, HX, c0, c1, d0, d1, f0, f1⟩ | exact ⟨Lib.hid HB.out.drew, Lib.hid (HX.out.keep (Below.refl _ _).drew), c0, c1, d0, d1, f0, f1⟩)
              (first | (go_at_call 25; (with_reducible refine (srecless_as _ HXV.out).mono ?_); rintro e w5 ⟨rfl, hB⟩; have HB := Lib.hid (below_via HB.out hB); have HX := Lib.hid (HX.out.keep hB); have c0 := HX.out.c0; have c1 := HX.out.c1; have d0 := HX.out.d0; have d1 := HX.out.d1; have f0 := HX.out.f0; have f1 := HX.out.f1; clear hB) | (go_at_call 26; (with_reducible refine (recok_as n _ HO1.out).mono ?_); rintro e w5 ⟨rfl, hB⟩; have HB := Lib.hid (below_via HB.out hB); have HX := Lib.hid (HX.out.keep hB); have c0 := HX.out.c0; have c1 := HX.out.c1; have d0 := HX.out.d0; have d1 := HX.out.d1; have f0 := HX.out.f0; have f1 := HX.out.f1; clear hB) | (go_at_call 27; (with_reducible refine (srecok_as n _ HO1.out).mono ?_); rintro e w5 ⟨rfl, hB⟩; have HB := Lib.hid (below_via HB.out hB); have HX := Lib.hid (HX.out.keep hB); have c0 := HX.out.c0; have c1 := HX.out.c1; have d0 := HX.out.d0; have d1 := HX.out.d1; have f0 := HX.out.f0; have f1 := HX.out.f1; clear hB) | (go_at_call 27; (with_reducible refine (srecok_as m _ HO2.out).mono ?_); rintro e w5 ⟨rfl, hB⟩; have HB := Lib.hid (below_via HB.out hB); have HX := Lib.hid (HX.out.keep hB); have c0 := HX.out.c0; have c1 := HX.out.c1; have d0 := HX.out.d0; have d1 := HX.out.d1; have f0 := HX.out.f0; have f1 := HX.out.f1; clear hB))
            go_wp2
            go_ret
            exact ⟨rfl, HB.out⟩
          | true =>
            exfalso
            have := HXV.out
            unfold lessR at this
            rw [HO1.out] at this
            simp at this
        | true =>
          obtain rfl : o2 = false := by cases o2 with
            | false => rfl
            | true => exact absurd ⟨rfl, rfl⟩ hgood
          cases x with
          | false =>
            go_wp2_with fail
            have HB := Lib.hid HB.out.drew
            have HX := Lib.hid (HX.out.keep (Below.refl _ _).drew)
            go_region_held3 (fun w' => Hid (Below w.heap.size w w') ∧ Hid (Box6 w' b1 b2 s u t n m p) ∧ w'.cell? ⟨b1, 0, none⟩ = some (.string s) ∧ w'.cell? ⟨b1, 1, none⟩ = some (.int .i64 n) ∧ w'.cell? ⟨b1 + 1, 0, none⟩ = some (.string u) ∧ w'.cell? ⟨b1 + 1, 1, none⟩ = some (.int .i64 m) ∧ w'.cell? ⟨b2, 0, none⟩ = some (.string t) ∧ w'.cell? ⟨b2, 1, none⟩ = some (.int .i64 p))
              (first | exact ⟨HB, HX, c0, c1, d0, d1, f0, f1⟩ | exact ⟨Lib.hid HB.out.drew, Lib.hid (HX.out.keep (Below.refl _ _).drew), c0, c1, d0, d1, f0, f1⟩)
              (first | (go_at_call 25; (with_reducible refine (srecless_as _ HXV.out).mono ?_); rintro e w5 ⟨rfl, hB⟩; have HB := Lib.hid (below_via HB.out hB); have HX := Lib.hid (HX.out.keep hB); have c0 := HX.out.c0; have c1 := HX.out.c1; have d0 := HX.out.d0; have d1 := HX.out.d1; have f0 := HX.out.f0; have f1 := HX.out.f1; clear hB) | (go_at_call 26; (with_reducible refine (recok_as n _ HO1.out).mono ?_); rintro e w5 ⟨rfl, hB⟩; have HB := Lib.hid (below_via HB.out hB); have HX := Lib.hid (HX.out.keep hB); have c0 := HX.out.c0; have c1 := HX.out.c1; have d0 := HX.out.d0; have d1 := HX.out.d1; have f0 := HX.out.f0; have f1 := HX.out.f1; clear hB) | (go_at_call 27; (with_reducible refine (srecok_as n _ HO1.out).mono ?_); rintro e w5 ⟨rfl, hB⟩; have HB := Lib.hid (below_via HB.out hB); have HX := Lib.hid (HX.out.keep hB); have c0 := HX.out.c0; have c1 := HX.out.c1; have d0 := HX.out.d0; have d1 := HX.out.d1; have f0 := HX.out.f0; have f1 := HX.out.f1; clear hB) | (go_at_call 27; (with_reducible refine (srecok_as m _ HO2.out).mono ?_); rintro e w5 ⟨rfl, hB⟩; have HB := Lib.hid (below_via HB.out hB); have HX := Lib.hid (HX.out.keep hB); have c0 := HX.out.c0; have c1 := HX.out.c1; have d0 := HX.out.d0; have d1 := HX.out.d1; have f0 := HX.out.f0; have f1 := HX.out.f1; clear hB))
            go_wp2_with fail
            have HB := Lib.hid HB.out.drew
            have HX := Lib.hid (HX.out.keep (Below.refl _ _).drew)
            go_region_held3 (fun w' => Hid (Below w.heap.size w w') ∧ Hid (Box6 w' b1 b2 s u t n m p) ∧ w'.cell? ⟨b1, 0, none⟩ = some (.string s) ∧ w'.cell? ⟨b1, 1, none⟩ = some (.int .i64 n) ∧ w'.cell? ⟨b1 + 1, 0, none⟩ = some (.string u) ∧ w'.cell? ⟨b1 + 1, 1, none⟩ = some (.int .i64 m) ∧ w'.cell? ⟨b2, 0, none⟩ = some (.string t) ∧ w'.cell? ⟨b2, 1, none⟩ = some (.int .i64 p))
              (first | exact ⟨HB, HX, c0, c1, d0, d1, f0, f1⟩ | exact ⟨Lib.hid HB.out.drew, Lib.hid (HX.out.keep (Below.refl _ _).drew), c0, c1, d0, d1, f0, f1⟩)
              (first | (go_at_call 25; (with_reducible refine (srecless_as _ HXV.out).mono ?_); rintro e w5 ⟨rfl, hB⟩; have HB := Lib.hid (below_via HB.out hB); have HX := Lib.hid (HX.out.keep hB); have c0 := HX.out.c0; have c1 := HX.out.c1; have d0 := HX.out.d0; have d1 := HX.out.d1; have f0 := HX.out.f0; have f1 := HX.out.f1; clear hB) | (go_at_call 26; (with_reducible refine (recok_as n _ HO1.out).mono ?_); rintro e w5 ⟨rfl, hB⟩; have HB := Lib.hid (below_via HB.out hB); have HX := Lib.hid (HX.out.keep hB); have c0 := HX.out.c0; have c1 := HX.out.c1; have d0 := HX.out.d0; have d1 := HX.out.d1; have f0 := HX.out.f0; have f1 := HX.out.f1; clear hB) | (go_at_call 27; (with_reducible refine (srecok_as n _ HO1.out).mono ?_); rintro e w5 ⟨rfl, hB⟩; have HB := Lib.hid (below_via HB.out hB); have HX := Lib.hid (HX.out.keep hB); have c0 := HX.out.c0; have c1 := HX.out.c1; have d0 := HX.out.d0; have d1 := HX.out.d1; have f0 := HX.out.f0; have f1 := HX.out.f1; clear hB) | (go_at_call 27; (with_reducible refine (srecok_as m _ HO2.out).mono ?_); rintro e w5 ⟨rfl, hB⟩; have HB := Lib.hid (below_via HB.out hB); have HX := Lib.hid (HX.out.keep hB); have c0 := HX.out.c0; have c1 := HX.out.c1; have d0 := HX.out.d0; have d1 := HX.out.d1; have f0 := HX.out.f0; have f1 := HX.out.f1; clear hB))
            go_wp2
            go_ret
            exact ⟨rfl, HB.out⟩
          | true =>
            exfalso
            have := HXV.out
            unfold lessR at this
            rw [HO2.out] at this
            simp at this
end Go.Proofs.Ytonipfhigkkhnaa
