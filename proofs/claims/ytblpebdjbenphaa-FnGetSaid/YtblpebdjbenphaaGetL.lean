
/- The law on Get, walked: drawn stores and keys. -/
import Derived.Test.YtblpebdjbenphaaDrawPu
import Derived.Test.YtblpebdjbenphaaCount
import Derived.Test.YtblpebdjbenphaaHeld
namespace Go.Proofs.Ytblpebdjbenphaa
open Go.ChangeShapes Go.WideShapes Go.ChangeAt Go.RowKit
set_option linter.unusedVariables false
set_option maxRecDepth 100000

theorem objs_ne_row {w : World} {q : Option Addr} {n : Nat} {l : Objs} {X : Nat} {a1 : Option Addr} {l1 c1 : Nat} {g1 : Option Addr} {m1 d1 : Nat} (h : ObjsAt w q n l) (r : Row w X 27 #[.slice a1 l1 c1, .slice g1 m1 d1]) : n = 0 ∨ ∀ b off, q = some ⟨b, off, none⟩ → b ≠ X := by
  rcases h.src with h0 | ⟨b, off, hq, hb, hc⟩
  · exact .inl h0
  · by_cases h0 : n = 0
    · exact .inl h0
    refine .inr fun b' off' hq' he => ?_
    rw [hq] at hq'
    simp only [Option.some.injEq, Addr.mk.injEq, and_true] at hq'
    obtain ⟨rfl, rfl⟩ := hq'
    subst he
    have h1 := (hc 0 (by omega)).1
    unfold Row at r
    simp only [World.cell?, r, Nat.zero_mul, Nat.add_zero] at h1
    rcases off with _ | _ | off
    · simp at h1
    · simp at h1
    · simp at h1
theorem gones_ne_row {w : World} {q : Option Addr} {n : Nat} {l : Gones} {X : Nat} {a1 : Option Addr} {l1 c1 : Nat} {g1 : Option Addr} {m1 d1 : Nat} (h : GonesAt w q n l) (r : Row w X 27 #[.slice a1 l1 c1, .slice g1 m1 d1]) : n = 0 ∨ ∀ b off, q = some ⟨b, off, none⟩ → b ≠ X := by
  rcases h.src with h0 | ⟨b, off, hq, hb, hc⟩
  · exact .inl h0
  · by_cases h0 : n = 0
    · exact .inl h0
    refine .inr fun b' off' hq' he => ?_
    rw [hq] at hq'
    simp only [Option.some.injEq, Addr.mk.injEq, and_true] at hq'
    obtain ⟨rfl, rfl⟩ := hq'
    subst he
    have h1 := (hc 0 (by omega)).1
    unfold Row at r
    simp only [World.cell?, r, Nat.zero_mul, Nat.add_zero] at h1
    rcases off with _ | _ | off
    · simp at h1
    · simp at h1
    · simp at h1
theorem objs_put0 {w : World} {q : Option Addr} {n : Nat} {l : Objs} (h : ObjsAt w q n l) (h0 : n = 0) (w' : World) : ObjsAt w' q n l := ⟨h.length, h.max, h.keys, .inl h0⟩
theorem gones_put0 {w : World} {q : Option Addr} {n : Nat} {l : Gones} (h : GonesAt w q n l) (h0 : n = 0) (w' : World) : GonesAt w' q n l := ⟨h.length, h.max, h.keys, .inl h0⟩
/-- A store into a block that holds a store's two slices leaves a drawn store as it was. -/
theorem StoD.put {w : World} {q1 : Option Addr} {n1 c1 : Nat} {q2 : Option Addr} {n2 c2 : Nat} {l : Objs} {m : Gones} {X : Nat} {a1 : Option Addr} {l1 d1 : Nat} {g1 : Option Addr} {m1 e1 : Nat} (h : StoD w q1 n1 c1 q2 n2 c2 l m) (r : Row w X 27 #[.slice a1 l1 d1, .slice g1 m1 e1]) (j : Nat) (v : Value) : StoD (w.setCell ⟨X, j, none⟩ v) q1 n1 c1 q2 n2 c2 l m := by
  refine ⟨⟨⟨?_, ?_⟩, h.at_.capo, h.at_.capg, h.at_.nilo, h.at_.nilg⟩, h.few1, h.few2, h.short⟩
  · rcases objs_ne_row h.at_.at_.o r with h0 | hne
    · exact objs_put0 h.at_.at_.o h0 _
    · exact h.at_.at_.o.put hne j v
  · rcases gones_ne_row h.at_.at_.d r with h0 | hne
    · exact gones_put0 h.at_.at_.d h0 _
    · exact h.at_.at_.d.put hne j v

def DrewGet (w : World) (e : Ending) (w' : World) : Prop :=
  ∃ (q1 : Option Addr) (n1 c1 : Nat) (q2 : Option Addr) (n2 c2 : Nat) (l : Objs) (m : Gones) (key : ByteArray), e = .returned (.tuple #[.agg #[.slice q1 n1 c1, .slice q2 n2 c2], .string key]) ∧ StoD w' q1 n1 c1 q2 n2 c2 l m ∧ key.size ≤ 41 ∧ Below w.heap.size w w'
set_option maxHeartbeats 2000000 in
theorem drawget_any (w : World) (a : Option Addr) (len cap : Nat) (h : Src w a len) :
    Calls Try.prog 6 #[.slice a len cap] w (DrewGet w) := by
  have H := Lib.hid (h.below ((Below.refl w.heap.size w).alloc (Nat.le_refl _) (.cells #[.slice none 0 0, .slice none 0 0] 27)))
  have HR := Lib.hid (Row.new w 27 #[.slice none 0 0, .slice none 0 0])
  have HB := Lib.hid (below_alloc (Below.refl w.heap.size w) (.cells #[.slice none 0 0, .slice none 0 0] 27))
  clear h
  go_enter Try.func6, Try.ntmps6
  go_wp2_with fail
  refine (drawput_any _ _ _ _ H.out).mono ?_
  rintro e w1 ⟨q1, n1, c1, q2, n2, c2, l, m, key, ver, data, rfl, hS, hk, hd, hB⟩
  have HR := Lib.hid ((HR.out.keep hB).alloc (.cells #[.slice q1 n1 c1, .slice q2 n2 c2] 27))
  have HX := Lib.hid (Row.new w1 27 #[.slice q1 n1 c1, .slice q2 n2 c2])
  have HS := Lib.hid (hS.keep (below_alloc (Below.refl _ _) (.cells #[.slice q1 n1 c1, .slice q2 n2 c2] 27)))
  have HB := Lib.hid (below_alloc (below_via HB.out hB) (.cells #[.slice q1 n1 c1, .slice q2 n2 c2] 27))
  have HK := Lib.hid hk
  clear hS hB hk hd
  obtain ⟨X, hX⟩ : ∃ x, w1.heap.size = x := ⟨_, rfl⟩
  obtain ⟨w2, hw2⟩ : ∃ x, w1.alloc (.cells #[.slice q1 n1 c1, .slice q2 n2 c2] 27) = x := ⟨_, rfl⟩
  rw [hw2] at HR HX HS HB
  rw [hX] at HX
  have x0 := HX.out.cell (j := 0) (by simp)
  have x1 := HX.out.cell (j := 1) (by simp)
  have r0 := HR.out.cell (j := 0) (by simp)
  have r1 := HR.out.cell (j := 1) (by simp)
  have f0 := HR.out.free 0
  have f1 := HR.out.free 1
  simp at x0 x1 r0 r1
  have HB3 := Lib.hid ((HB.out.setCell (p := ⟨w.heap.size, 0, none⟩) (Nat.le_refl _) (.slice q1 n1 c1)).setCell (p := ⟨w.heap.size, 1, none⟩) (Nat.le_refl _) (.slice q2 n2 c2))
  have HR2 := Lib.hid (HR.out.set 0 (.slice q1 n1 c1))
  simp only [List.setIfInBounds_toArray, List.set_cons_zero] at HR2
  have HS2 := Lib.hid ((HS.out.put HR.out 0 (.slice q1 n1 c1)).put HR2.out 1 (.slice q2 n2 c2))
  have hbF := (HR.out.set 0 (.slice q1 n1 c1)).set 1 (.slice q2 n2 c2)
  simp only [List.setIfInBounds_toArray, List.set_cons_zero, List.set_cons_succ] at hbF
  have HBF := Lib.hid hbF
  clear hbF
  go_wp2
  have hbF := HBF.out
  unfold Row at hbF
  exact bodyPost_ret (v := .tuple #[.agg #[.slice q1 n1 c1, .slice q2 n2 c2], .string key]) (by simp [results, Try.results6, go_sem, World.cell?, hbF]) rfl ⟨q1, n1, c1, q2, n2, c2, l, m, key, rfl, HS2.out, HK.out, HB3.out⟩

theorem get_true {key : ByteArray} {l : Objs} {m : Gones} {s d : ByteArray} {v : Int} : ∀ {n : Nat}, l.length = n → getAux key l = ((s, v, d), true) → s = key ∧ verB key l m = v := by
  intro n hn h
  refine ⟨?_, by unfold verB; rw [h]; rfl⟩
  clear hn
  induction l with
  | nil => simp [getAux] at h
  | cons r t ih =>
    unfold getAux at h
    by_cases hs : sameT r.1 key = true
    · rw [if_pos hs] at h
      simp only [Prod.mk.injEq, and_true] at h
      have e : r.1.toList = key.toList := by unfold sameT at hs; simpa using hs
      have : r.1 = key := by
        have e2 : ∀ x : ByteArray, x.toList = x.data.toList := fun x => Lib.toList_data x
        rw [e2, e2] at e
        cases hr : r.1; cases hk : key
        rw [hr, hk] at e
        simp only [ByteArray.mk.injEq]
        exact Array.ext' e
      rw [← this, h]
    · rw [if_neg hs] at h; exact ih h
theorem get_false {key : ByteArray} {l : Objs} {s d : ByteArray} {v : Int} (h : getAux key l = ((s, v, d), false)) : s = ⟨#[]⟩ ∧ v = 0 ∧ d = ⟨#[]⟩ := by
  induction l with
  | nil => simp only [getAux, Prod.mk.injEq, and_true] at h; exact ⟨h.1.symm, h.2.1.symm, h.2.2.symm⟩
  | cons r t ih =>
    unfold getAux at h
    by_cases hs : sameT r.1 key = true
    · rw [if_pos hs] at h; simp at h
    · rw [if_neg hs] at h; exact ih h
theorem hp_self (s : ByteArray) : hpB s s = true := by
  rw [hp_long (Nat.le_refl _)]
  have : (s.extract 0 s.size) = s := by simp
  rw [this]; simp
theorem cnt_le (p : ByteArray) (l : Objs) : ∀ (k j : Nat), k ≤ j → cntTo p l k ≤ cntTo p l j
  | k, 0, h => by obtain rfl : k = 0 := by omega
                  exact Int.le_refl _
  | k, j + 1, h => by
    by_cases he : k = j + 1
    · subst he; exact Int.le_refl _
    · have := cnt_le p l k j (by omega)
      have e : cntTo p l (j + 1) = if hpB (obj0 l j) p then cntTo p l j + 1 else cntTo p l j := rfl
      rw [e]
      split <;> omega
theorem get_cnt {key : ByteArray} {l : Objs} {s d : ByteArray} {v : Int} {n : Nat} (hn : l.length = n) (h : getAux key l = ((s, v, d), true)) : 1 ≤ cntTo key l n := by
  by_cases hx : ∃ k, k < n ∧ sameT (obj0 l k) key = true
  · obtain ⟨k, hk, hs⟩ := hx
    have e : (obj0 l k).toList = key.toList := by unfold sameT at hs; simpa using hs
    have e2 : ∀ x : ByteArray, x.toList = x.data.toList := fun x => Lib.toList_data x
    have e3 : obj0 l k = key := by
      rw [e2, e2] at e
      cases hr : obj0 l k; cases hk : key
      rw [hr, hk] at e
      simp only [ByteArray.mk.injEq]
      exact Array.ext' e
    have h1 := cnt_yes (p := key) (l := l) (k := k) (by rw [e3]; exact hp_self _)
    have h2 := cnt_le key l (k + 1) n (by omega)
    have h3 := (cnt_bd key l k).1
    omega
  · have : getAux key l = ((⟨#[]⟩, 0, ⟨#[]⟩), false) := getAux_none key l (fun j hj => by
      cases hs : sameT (obj0 l j) key with
      | false => rfl
      | true => exact absurd ⟨j, by omega, hs⟩ hx)
    rw [this] at h; simp at h

structure LG (w : World) (S O U : Nat) (q1 : Option Addr) (n1 c1 : Nat) (q2 : Option Addr) (n2 c2 : Nat) (l : Objs) (m : Gones) (s : ByteArray) (v : Int) (d : ByteArray) (wr : World) : Prop where
  below : Below w.heap.size w wr
  rs : Row wr S 27 #[.slice q1 n1 c1, .slice q2 n2 c2]
  ro : Row wr O 31 #[.string s, .int .i64 v, .string d]
  ru : Row wr U 31 #[.string s, .int .i64 v, .string d]
  s : StoD wr q1 n1 c1 q2 n2 c2 l m
theorem LG.keep {w : World} {S O U : Nat} {q1 : Option Addr} {n1 c1 : Nat} {q2 : Option Addr} {n2 c2 : Nat} {l : Objs} {m : Gones} {s : ByteArray} {v : Int} {d : ByteArray} {wr w2 : World} (h : LG w S O U q1 n1 c1 q2 n2 c2 l m s v d wr) (hB : Below wr.heap.size wr w2) : LG w S O U q1 n1 c1 q2 n2 c2 l m s v d w2 :=
  ⟨below_via h.below hB, h.rs.keep hB, h.ro.keep hB, h.ru.keep hB, h.s.keep hB⟩
theorem row3 {w : World} {X : Nat} {T : TypeId} {x y z : Value} (h : Row w X T #[x, y, z]) : w.cell? ⟨X, 0, none⟩ = some x ∧ w.cell? ⟨X, 1, none⟩ = some y ∧ w.cell? ⟨X, 2, none⟩ = some z :=
  ⟨by simpa using h.cell (j := 0) (by simp), by simpa using h.cell (j := 1) (by simp), by simpa using h.cell (j := 2) (by simp)⟩
theorem row2 {w : World} {X : Nat} {T : TypeId} {x y : Value} (h : Row w X T #[x, y]) : w.cell? ⟨X, 0, none⟩ = some x ∧ w.cell? ⟨X, 1, none⟩ = some y :=
  ⟨by simpa using h.cell (j := 0) (by simp), by simpa using h.cell (j := 1) (by simp)⟩

set_option maxHeartbeats 8000000 in
theorem fnGet_walk (w : World) (a : Option Addr) (len cap : Nat) (h : Src w a len) :
    Calls Try.prog 3 #[.slice a len cap] w fun e w' => e = .returned (.bool true) ∧ Below w.heap.size w w' := by
  have H := Lib.hid h
  clear h
  by_cases hbig : 1048576 < len
  · go_enter Try.func3, Try.ntmps3
    go_wp2_with (go_at_call 5; refine (big_yes _ _ _ _ hbig).mono ?_; rintro e w' ⟨rfl, rfl⟩)
    go_ret
    exact ⟨rfl, Below.refl _ _⟩
  go_enter Try.func3, Try.ntmps3
  go_wp2_with (go_at_call 5; refine (big_no _ _ _ _ hbig).mono ?_; rintro e w' ⟨rfl, rfl⟩)
  refine (drawget_any _ _ _ _ H.out).mono ?_
  rintro e w1 ⟨q1, n1, c1, q2, n2, c2, l, m, key, rfl, hS, hk, hB⟩
  have HKS := Lib.hid (show key.size ≤ maxLen by unfold maxLen; omega)
  have hf1 := hS.few1
  have HLL := Lib.hid hS.at_.at_.o.length
  have HX := Lib.hid (Row.new w1 27 #[.slice q1 n1 c1, .slice q2 n2 c2])
  have HS := Lib.hid (hS.keep (below_alloc (Below.refl _ _) (.cells #[.slice q1 n1 c1, .slice q2 n2 c2] 27)))
  have HB := Lib.hid (below_alloc hB (.cells #[.slice q1 n1 c1, .slice q2 n2 c2] 27))
  clear hS hB hk
  obtain ⟨⟨⟨s, v, d⟩, b⟩, hq⟩ : ∃ q, getAux key l = q := ⟨_, rfl⟩
  have HQ := Lib.hid hq
  clear hq
  obtain ⟨S, hSS⟩ : ∃ x, w1.heap.size = x := ⟨_, rfl⟩
  obtain ⟨w2, hw2⟩ : ∃ x, w1.alloc (.cells #[.slice q1 n1 c1, .slice q2 n2 c2] 27) = x := ⟨_, rfl⟩
  rw [hw2] at HX HS HB
  rw [hSS] at HX
  obtain ⟨s0, s1⟩ := row2 HX.out
  go_wp2_with fail
  clear hw2 hSS s0 s1
  refine (get_any _ _ _ _ _ _ l m key _ HS.out.at_.at_).mono ?_
  rw [HQ.out]
  rintro e w3 ⟨rfl, hB⟩
  have HX := Lib.hid ((HX.out.keep hB).alloc (.cells #[.string s, .int .i64 v, .string d] 31))
  have HO := Lib.hid (Row.new w3 31 #[.string s, .int .i64 v, .string d])
  have HS := Lib.hid ((HS.out.keep hB).keep (below_alloc (Below.refl _ _) (.cells #[.string s, .int .i64 v, .string d] 31)))
  have HB := Lib.hid (below_alloc (below_via HB.out hB) (.cells #[.string s, .int .i64 v, .string d] 31))
  clear hB
  obtain ⟨O, hO⟩ : ∃ x, w3.heap.size = x := ⟨_, rfl⟩
  obtain ⟨w4, hw4⟩ : ∃ x, w3.alloc (.cells #[.string s, .int .i64 v, .string d] 31) = x := ⟨_, rfl⟩
  rw [hw4] at HX HO HS HB
  rw [hO] at HO
  obtain ⟨s0, s1⟩ := row2 HX.out
  go_wp2_with fail
  clear hw4 hO s0 s1
  refine (sget_any _ _ _ _ _ _ l m key _ HS.out.at_.at_).mono ?_
  rw [HQ.out]
  rintro e w5 ⟨rfl, hB⟩
  obtain ⟨U, hU⟩ : ∃ x, w5.heap.size = x := ⟨_, rfl⟩
  obtain ⟨w6, hw6⟩ : ∃ x, w5.alloc (.cells #[.string s, .int .i64 v, .string d] 31) = x := ⟨_, rfl⟩
  have hal : Below w5.heap.size w5 w6 := by rw [← hw6]; exact below_alloc (Below.refl _ _) _
  have HP : Hid (LG w S O U q1 n1 c1 q2 n2 c2 l m s v d w6) := Lib.hid ⟨below_via (below_via HB.out hB) hal, (HX.out.keep hB).keep hal, (HO.out.keep hB).keep hal, by rw [← hw6, ← hU]; exact Row.new _ _ _, (HS.out.keep hB).keep hal⟩
  clear hB hal HX HO HS HB
  obtain ⟨s0, s1⟩ := row2 HP.out.rs
  obtain ⟨o0, o1, o2⟩ := row3 HP.out.ro
  obtain ⟨u0, u1, u2⟩ := row3 HP.out.ru
  go_wp2_with fail
  clear hw6 hU s0 s1 o0 o1 o2 u0 u1 u2
  have HP := Lib.hid (HP.out.keep (below_drewN (Below.refl _ _) 1))
  go_region_held3 (fun w' => w'.cell? ⟨S, 0, none⟩ = some (.slice q1 n1 c1) ∧ w'.cell? ⟨S, 1, none⟩ = some (.slice q2 n2 c2) ∧ w'.cell? ⟨O, 0, none⟩ = some (.string s) ∧ w'.cell? ⟨O, 1, none⟩ = some (.int .i64 v) ∧ w'.cell? ⟨O, 2, none⟩ = some (.string d) ∧ w'.cell? ⟨U, 0, none⟩ = some (.string s) ∧ w'.cell? ⟨U, 1, none⟩ = some (.int .i64 v) ∧ w'.cell? ⟨U, 2, none⟩ = some (.string d))
    (exact ⟨(row2 HP.out.rs).1, (row2 HP.out.rs).2, (row3 HP.out.ro).1, (row3 HP.out.ro).2.1, (row3 HP.out.ro).2.2, (row3 HP.out.ru).1, (row3 HP.out.ru).2.1, (row3 HP.out.ru).2.2⟩)
    (first
      | (go_at_call 9; refine (count_any _ _ _ _ _ _ l m key _ HP.out.s.at_.at_ HKS.out).mono ?_; rintro e wa ⟨rfl, hB⟩; have HP := Lib.hid (HP.out.keep hB); clear hB)
      | (go_at_call 10; refine (scount_any _ _ _ _ _ _ l m key _ HP.out.s.at_.at_ HKS.out).mono ?_; rintro e wa ⟨rfl, hB⟩; have HP := Lib.hid (HP.out.keep hB); clear hB)
      | (go_at_call 11; refine (ver_any _ _ _ _ _ _ l m key _ HP.out.s.at_.at_).mono ?_; rintro e wa ⟨rfl, hB⟩; have HP := Lib.hid (HP.out.keep hB); clear hB)
      | (go_at_call 12; refine (sver_any _ _ _ _ _ _ l m key _ HP.out.s.at_.at_).mono ?_; rintro e wa ⟨rfl, hB⟩; have HP := Lib.hid (HP.out.keep hB); clear hB))
  go_wp2_with fail
  cases b with
  | false =>
    obtain ⟨rfl, rfl, rfl⟩ := get_false HQ.out
    obtain ⟨o0, o1, o2⟩ := row3 HP.out.ro
    go_quiet (fail)
    have HB := Lib.hid (below_drewN HP.out.below nq)
    clear o0 o1 o2
    go_wp2
    go_ret
    exact ⟨rfl, HB.out⟩
  | true =>
    obtain ⟨hsk, hvb⟩ := get_true (m := m) HLL.out HQ.out
    subst hsk
    have hcn := get_cnt HLL.out HQ.out
    obtain ⟨N, hN⟩ : ∃ N, cntTo s l n1 = N := ⟨_, rfl⟩
    rw [hN] at hcn
    have HN := Lib.hid hN
    have HV := Lib.hid hvb
    clear hN hvb
    refine wp_region_noPanic ?_
    have HP := Lib.hid (HP.out.keep (below_drewN (Below.refl _ _) 1))
    refine wp_region_held_drew (S := (fun w' => (w'.cell? ⟨S, 0, none⟩ = some (.slice q1 n1 c1) ∧ w'.cell? ⟨S, 1, none⟩ = some (.slice q2 n2 c2)) ∧ w'.cell? ⟨O, 0, none⟩ = some (.string s) ∧ w'.cell? ⟨O, 1, none⟩ = some (.int .i64 v))) (by kernel_rfl) ⟨row2 HP.out.rs, (row3 HP.out.ro).1, (row3 HP.out.ro).2.1⟩ (fun HS => ?_)
    refine held_take (i := 0) (d := 54) (v := .bool true) rfl rfl (by kernel_rfl) (by kernel_rfl) (by kernel_rfl) (by kernel_rfl) (fun wx hS => by go_simp) HS ?_
    refine held_take (i := 1) (d := 55) (v := .bool false) rfl rfl (by kernel_rfl) (by kernel_rfl) (by kernel_rfl) (by kernel_rfl) (fun wx hS => by go_simp) HS ?_
    refine held_take (i := 2) (d := 56) (v := .bool false) rfl rfl (by kernel_rfl) (by kernel_rfl) (by kernel_rfl) (by kernel_rfl) (fun wx hS => by go_simp) HS ?_
    refine held_skip (i := 3) (d := 57) rfl rfl (by kernel_rfl) (by kernel_rfl) (by kernel_rfl) (by kernel_rfl) HS ?_
    refine held_skip (i := 4) (d := 58) rfl rfl (by kernel_rfl) (by kernel_rfl) (by kernel_rfl) (by kernel_rfl) HS ?_
    refine held_skip (i := 5) (d := 59) rfl rfl (by kernel_rfl) (by kernel_rfl) (by kernel_rfl) (by kernel_rfl) HS ?_
    refine held_take (i := 6) (d := 60) (v := .bool false) rfl rfl (by kernel_rfl) (by kernel_rfl) (by kernel_rfl) (by kernel_rfl) (fun wx hS => by go_simp) HS ?_
    refine held_take (i := 7) (d := 61) (v := .bool false) rfl rfl (by kernel_rfl) (by kernel_rfl) (by kernel_rfl) (by kernel_rfl) (fun wx hS => by go_simp) HS ?_
    refine held_take (i := 8) (d := 62) (v := .bool true) rfl rfl (by kernel_rfl) (by kernel_rfl) (by kernel_rfl) (by kernel_rfl) (fun wx hS => by go_simp) HS ?_
    refine held_take (i := 9) (d := 63) (v := .bool true) rfl rfl (by kernel_rfl) (by kernel_rfl) (by kernel_rfl) (by kernel_rfl) (fun wx hS => by go_simp) HS ?_
    refine held_take (i := 10) (d := 64) (v := .pointer (some ⟨O, 0, none⟩)) rfl rfl (by kernel_rfl) (by kernel_rfl) (by kernel_rfl) (by kernel_rfl) (fun wx hS => by go_simp) HS ?_
    refine held_take (i := 11) (d := 65) (v := .string s) rfl rfl (by kernel_rfl) (by kernel_rfl) (by kernel_rfl) (by kernel_rfl) (fun wx hS => by have e0 := hS.2.1; go_simp) HS ?_
    refine held_take (i := 12) (d := 66) (v := .string s) rfl rfl (by kernel_rfl) (by kernel_rfl) (by kernel_rfl) (by kernel_rfl) (fun wx hS => by go_simp) HS ?_
    refine held_take (i := 13) (d := 67) (v := .bool true) rfl rfl (by kernel_rfl) (by kernel_rfl) (by kernel_rfl) (by kernel_rfl) (fun wx hS => by go_simp) HS ?_
    refine held_take (i := 14) (d := 68) (v := .bool true) rfl rfl (by kernel_rfl) (by kernel_rfl) (by kernel_rfl) (by kernel_rfl) (fun wx hS => by go_simp) HS ?_
    refine held_take (i := 15) (d := 69) (v := .bool true) rfl rfl (by kernel_rfl) (by kernel_rfl) (by kernel_rfl) (by kernel_rfl) (fun wx hS => by go_simp) HS ?_
    refine held_take (i := 16) (d := 70) (v := .agg #[.slice q1 n1 c1, .slice q2 n2 c2]) rfl rfl (by kernel_rfl) (by kernel_rfl) (by kernel_rfl) (by kernel_rfl) (fun wx hS => by have e0 := hS.1.1; have e1 := hS.1.2; go_simp) HS ?_
    refine held_take (i := 17) (d := 71) (v := .string s) rfl rfl (by kernel_rfl) (by kernel_rfl) (by kernel_rfl) (by kernel_rfl) (fun wx hS => by go_simp) HS ?_
    refine wpAnyH_ready (rs := [18]) (by kernel_rfl) (by simp) (AllReadyH.cons rfl (fun K hK => ?_) AllReadyH.nil)
    go_simp
    refine (count_any _ _ _ _ _ _ l m s _ HP.out.s.at_.at_ HKS.out).mono ?_
    rw [HN.out]
    rintro e v1 ⟨rfl, hB⟩
    have HP := Lib.hid (HP.out.keep hB)
    clear hB
    refine hK.out _ _ (⟨row2 HP.out.rs, (row3 HP.out.ro).1, (row3 HP.out.ro).2.1⟩) (fun HS => ?_)
    clear hK K
    refine held_take (i := 19) (d := 73) (v := .bool true) rfl rfl (by kernel_rfl) (by kernel_rfl) (by kernel_rfl) (by kernel_rfl) (fun wx hS => by go_simp) HS ?_
    refine held_take (i := 20) (d := 74) (v := .bool true) rfl rfl (by kernel_rfl) (by kernel_rfl) (by kernel_rfl) (by kernel_rfl) (fun wx hS => by go_simp) HS ?_
    refine held_take (i := 21) (d := 75) (v := .bool true) rfl rfl (by kernel_rfl) (by kernel_rfl) (by kernel_rfl) (by kernel_rfl) (fun wx hS => by go_simp) HS ?_
    refine held_take (i := 22) (d := 76) (v := .agg #[.slice q1 n1 c1, .slice q2 n2 c2]) rfl rfl (by kernel_rfl) (by kernel_rfl) (by kernel_rfl) (by kernel_rfl) (fun wx hS => by have e0 := hS.1.1; have e1 := hS.1.2; go_simp) HS ?_
    refine held_take (i := 23) (d := 77) (v := .string s) rfl rfl (by kernel_rfl) (by kernel_rfl) (by kernel_rfl) (by kernel_rfl) (fun wx hS => by go_simp) HS ?_
    refine held_take (i := 25) (d := 79) (v := .pointer (some ⟨O, 1, none⟩)) rfl rfl (by kernel_rfl) (by kernel_rfl) (by kernel_rfl) (by kernel_rfl) (fun wx hS => by go_simp) HS ?_
    refine held_take (i := 26) (d := 80) (v := .int .i64 v) rfl rfl (by kernel_rfl) (by kernel_rfl) (by kernel_rfl) (by kernel_rfl) (fun wx hS => by have e0 := hS.2.2; go_simp) HS ?_
    refine wpAnyH_ready (rs := [24]) (by kernel_rfl) (by simp) (AllReadyH.cons rfl (fun K hK => ?_) AllReadyH.nil)
    go_simp
    refine (ver_any _ _ _ _ _ _ l m s _ HP.out.s.at_.at_).mono ?_
    rw [HV.out]
    rintro e v2 ⟨rfl, hB⟩
    have HP := Lib.hid (HP.out.keep hB)
    clear hB
    refine hK.out _ _ (⟨row2 HP.out.rs, (row3 HP.out.ro).1, (row3 HP.out.ro).2.1⟩) (fun HS => ?_)
    clear hK K
    refine held_take (i := 27) (d := 81) (v := .bool true) rfl rfl (by kernel_rfl) (by kernel_rfl) (by kernel_rfl) (by kernel_rfl) (fun wx hS => by go_simp) HS ?_
    refine held_take (i := 28) (d := 82) (v := .bool true) rfl rfl (by kernel_rfl) (by kernel_rfl) (by kernel_rfl) (by kernel_rfl) (fun wx hS => by go_simp) HS ?_
    refine held_take (i := 29) (d := 83) (v := .bool true) rfl rfl (by kernel_rfl) (by kernel_rfl) (by kernel_rfl) (by kernel_rfl) (fun wx hS => by go_simp) HS ?_
    refine held_take (i := 30) (d := 2) (v := .bool true) rfl rfl (by kernel_rfl) (by kernel_rfl) (by kernel_rfl) (by kernel_rfl) (fun wx hS => by go_simp) HS ?_
    refine wpAnyH_done (by kernel_rfl) (NoPanic.normal ?_) _
    go_wp2
    go_ret
    exact ⟨rfl, HP.out.below⟩
end Go.Proofs.Ytblpebdjbenphaa
