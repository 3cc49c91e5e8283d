
/- Stores as lists of elements: what Get, VerOf and the numbers of objects come to after a command. Plain mathematics. -/
import Derived.Test.YtblpebdjbenphaaGreatDoorMg14
namespace Go.Proofs.YtblpebdjbenphaaGreatDoor
open Go.ChangeShapes Go.WideShapes Go.ChangeAt Go.RowKit
set_option linter.unusedVariables false
set_option maxRecDepth 100000

def getE (key : ByteArray) : Option ElV → (ByteArray × Int × ByteArray) × Bool
  | some e => if e.2.2 = true then ((⟨#[]⟩, 0, ⟨#[]⟩), false) else ((key, e.1, e.2.1), true)
  | none => ((⟨#[]⟩, 0, ⟨#[]⟩), false)
def verE : Option ElV → Int
  | some e => e.1
  | none => 0
theorem getAux_cons (key : ByteArray) (r : ByteArray × Int × ByteArray) (t : Objs) : getAux key (r :: t) = if sameT r.1 key then (r, true) else getAux key t := rfl
theorem goneAux_cons (key : ByteArray) (r : ByteArray × Int) (t : Gones) : goneAux key (r :: t) = if sameT r.1 key then r.2 else goneAux key t := rfl
theorem getAux_nokey {key : ByteArray} : ∀ {l : Objs}, (∀ y ∈ okeys l, y ≠ key) → getAux key l = ((⟨#[]⟩, 0, ⟨#[]⟩), false)
  | [], _ => rfl
  | r :: t, h => by
    rw [getAux_cons, if_neg (fun hs => h r.1 (List.mem_cons_self ..) (sameT_eq hs))]
    exact getAux_nokey (fun y hy => h y (List.mem_cons_of_mem _ hy))
theorem goneAux_nokey {key : ByteArray} : ∀ {l : Gones}, (∀ y ∈ gkeys l, y ≠ key) → goneAux key l = 0
  | [], _ => rfl
  | r :: t, h => by
    rw [goneAux_cons, if_neg (fun hs => h r.1 (List.mem_cons_self ..) (sameT_eq hs))]
    exact goneAux_nokey (fun y hy => h y (List.mem_cons_of_mem _ hy))
theorem lookE_cons (key : ByteArray) (x : ByteArray × ElV) (t : Els) : lookE key (x :: t) = if sameT x.1 key = true then some x.2 else lookE key t := rfl
theorem get_look {key : ByteArray} : ∀ {E : Els}, IncT (ekeys E) → getAux key (objsOf E) = getE key (lookE key E)
  | [], _ => rfl
  | x :: t, h => by
    have ih := get_look (key := key) (inc_tail h)
    have hd := inc_head h
    by_cases hs : sameT x.1 key = true
    · have hk := sameT_eq hs
      rw [lookE_cons, if_pos hs]
      cases hg : x.2.2.2 with
      | true =>
        rw [objsOf_yes hg]
        unfold getE
        simp only [hg, if_true]
        exact getAux_nokey (fun y hy he => by have := hd y (okeys_mem hy); rw [he, hk] at this; exact lt_irr _ this)
      | false =>
        rw [objsOf_no hg, getAux_cons, if_pos hs]
        unfold getE
        simp only [hg, Bool.false_eq_true, if_false]
        rw [hk]
    · rw [lookE_cons, if_neg hs]
      cases hg : x.2.2.2 with
      | true => rw [objsOf_yes hg]; exact ih
      | false => rw [objsOf_no hg, getAux_cons, if_neg hs]; exact ih
theorem gone_look {key : ByteArray} : ∀ {E : Els}, IncT (ekeys E) → goneAux key (gonsOf E) = if goIs (lookE key E) = true then verE (lookE key E) else 0
  | [], _ => rfl
  | x :: t, h => by
    have ih := gone_look (key := key) (inc_tail h)
    have hd := inc_head h
    by_cases hs : sameT x.1 key = true
    · have hk := sameT_eq hs
      rw [lookE_cons, if_pos hs]
      cases hg : x.2.2.2 with
      | false =>
        rw [gonsOf_no hg]
        simp only [goIs, hg, Bool.false_eq_true, if_false]
        exact goneAux_nokey (fun y hy he => by have := hd y (gkeys_mem hy); rw [he, hk] at this; exact lt_irr _ this)
      | true =>
        rw [gonsOf_yes hg, goneAux_cons, if_pos hs]
        simp only [goIs, hg, if_true, verE]
    · rw [lookE_cons, if_neg hs]
      cases hg : x.2.2.2 with
      | false => rw [gonsOf_no hg]; exact ih
      | true => rw [gonsOf_yes hg, goneAux_cons, if_neg hs]; exact ih
theorem ver_look {key : ByteArray} {E : Els} (h : IncT (ekeys E)) : verB key (objsOf E) (gonsOf E) = verE (lookE key E) := by
  unfold verB
  rw [get_look h, gone_look h]
  cases hl : lookE key E with
  | none => rfl
  | some e =>
    cases hg : e.2.2 with
    | true => simp [getE, goIs, verE, hg]
    | false => simp [getE, verE, hg]
theorem merge_head (b : ByteArray × ElV) (r : Els) : ∀ l : Els, (∀ a ∈ l, leT a.1 b.1 = false) → List.merge l (b :: r) (fun a b => leT a.1 b.1) = b :: List.merge l r (fun a b => leT a.1 b.1)
  | [], _ => by simp
  | a :: l, h => by
    rw [List.cons_merge_cons, if_neg (by rw [h a (List.mem_cons_self ..)]; simp)]
theorem merge_headL (a : ByteArray × ElV) (l : Els) : ∀ r : Els, (∀ b ∈ r, leT a.1 b.1 = true) → List.merge (a :: l) r (fun a b => leT a.1 b.1) = a :: List.merge l r (fun a b => leT a.1 b.1)
  | [], _ => by simp
  | b :: r, h => by
    rw [List.cons_merge_cons, if_pos (h b (List.mem_cons_self ..))]
/-- A store told by its two lists is told by its elements. -/
theorem els_forth : ∀ {E : Els}, IncT (ekeys E) → (∀ x ∈ E, x.2.2.2 = true → x.2.2.1 = ⟨#[]⟩) → elsOf (objsOf E) (gonsOf E) = E
  | [], _, _ => by unfold elsOf; simp [objsOf, gonsOf]
  | x :: t, h, hd => by
    have ih := els_forth (inc_tail h) (fun y hy => hd y (List.mem_cons_of_mem _ hy))
    have hh := inc_head h
    unfold elsOf at ih ⊢
    cases hg : x.2.2.2 with
    | true =>
      rw [objsOf_yes hg, gonsOf_yes hg, List.map_cons, merge_head, ih]
      · have := hd x (List.mem_cons_self ..) hg
        show (x.1, x.2.1, (⟨#[]⟩ : ByteArray), true) :: t = x :: t
        rw [← this, ← hg]
      · intro a ha
        obtain ⟨o, ho, rfl⟩ := List.mem_map.1 ha
        have := hh o.1 (okeys_mem (List.mem_map.2 ⟨o, ho, rfl⟩))
        show leT o.1 x.1 = false
        rw [← Bool.not_eq_true, leT_iff]
        exact fun hn => hn this
    | false =>
      rw [objsOf_no hg, gonsOf_no hg, List.map_cons, merge_headL, ih]
      · show (x.1, x.2.1, x.2.2.1, false) :: t = x :: t
        rw [← hg]
      · intro b hb
        obtain ⟨o, ho, rfl⟩ := List.mem_map.1 hb
        have := hh o.1 (gkeys_mem (List.mem_map.2 ⟨o, ho, rfl⟩))
        show leT x.1 o.1 = true
        rw [leT_iff]
        exact fun hn => lt_irr _ (List.lt_trans this hn)
theorem ep_back {E : Els} (h : EP E) : elsOf (objsOf E) (gonsOf E) = E := els_forth h.inc (fun x hx => (h.ok x hx).2.2.2)
/-- The numbers of objects and of gone ones after an element has been put. -/
def bn (b : Bool) : Nat := if b then 1 else 0
theorem objs_len_put {key : ByteArray} {e : ElV} : ∀ {E : Els}, IncT (ekeys E) → (objsOf (putE key e E)).length + bn (obIs (lookE key E)) = (objsOf E).length + bn (!e.2.2)
  | [], _ => by cases hg : e.2.2 <;> simp [putE, lookE, objsOf, obIs, bn, hg]
  | x :: t, h => by
    have ih := objs_len_put (key := key) (e := e) (inc_tail h)
    rcases three x.1 key with hl | hl | hl
    · rw [putE_lt hl, lookE_lt h hl]
      cases hg : e.2.2 <;> cases hx : x.2.2.2 <;> simp [objsOf, hg, hx, obIs, bn]
    · rw [putE_at hl, lookE_at hl]
      cases hg : e.2.2 <;> cases hx : x.2.2.2 <;> simp [objsOf, hg, hx, obIs, bn]
    · rw [putE_gt hl, lookE_gt hl]
      cases hx : x.2.2.2 with
      | true => rw [objsOf_yes hx, objsOf_yes hx]; exact ih
      | false => rw [objsOf_no hx, objsOf_no hx]; simp only [List.length_cons]; omega
theorem gons_len_put {key : ByteArray} {e : ElV} : ∀ {E : Els}, IncT (ekeys E) → (gonsOf (putE key e E)).length + bn (goIs (lookE key E)) = (gonsOf E).length + bn e.2.2
  | [], _ => by cases hg : e.2.2 <;> simp [putE, lookE, gonsOf, goIs, bn, hg]
  | x :: t, h => by
    have ih := gons_len_put (key := key) (e := e) (inc_tail h)
    rcases three x.1 key with hl | hl | hl
    · rw [putE_lt hl, lookE_lt h hl]
      cases hg : e.2.2 <;> cases hx : x.2.2.2 <;> simp [gonsOf, hg, hx, goIs, bn]
    · rw [putE_at hl, lookE_at hl]
      cases hg : e.2.2 <;> cases hx : x.2.2.2 <;> simp [gonsOf, hg, hx, goIs, bn]
    · rw [putE_gt hl, lookE_gt hl]
      cases hx : x.2.2.2 with
      | false => rw [gonsOf_no hx, gonsOf_no hx]; exact ih
      | true => rw [gonsOf_yes hx, gonsOf_yes hx]; simp only [List.length_cons]; omega
theorem look_put_same {key : ByteArray} {e : ElV} {E : Els} : lookE key (putE key e E) = some e := by rw [lookE_put, if_pos (sameT_refl _)]
theorem look_put_other {key k2 : ByteArray} {e : ElV} {E : Els} (h : k2 ≠ key) : lookE k2 (putE key e E) = lookE k2 E := by rw [lookE_put, if_neg (fun hs => h (sameT_eq hs).symm)]

/-! ### what a command that is done comes to -/
/-- .. Put -/
theorem put_done {l : Objs} {m : Gones} {key : ByteArray} {ver : Int} {data : ByteArray} {R : Els × Int × Int} (h : IsPut l m key ver data R) (h0 : R.2.2 = 0) :
    ∃ E E', elsOf l m = E ∧ EP E ∧ EP E' ∧ R = (E', ver + 1, 0) ∧ E' = putE key (ver + 1, data, false) E ∧ keyB key = true ∧ data.size ≤ 30000 ∧ 1 ≤ ver ∧ ver < 1000000 ∧ ∃ d, lookE key E = some (ver, d, false) := by
  by_cases hc : StoP l m ∧ keyB key = true ∧ inB ver 1 1000000 = true ∧ data.size ≤ 30000
  · have hR := h.1 hc
    have hE := ep_of hc.1
    obtain ⟨E, hEE⟩ : ∃ E, elsOf l m = E := ⟨_, rfl⟩
    rw [hEE] at hR hE
    have hv : 1 ≤ ver ∧ ver ≤ 1000000 := by have := hc.2.2.1; unfold inB at this; simpa using this
    have hne : ver ≠ 1000000 → ∀ e, lookE key E = some e → e.2.2 = false → e.1 = ver → EP (putE key (ver + 1, data, false) E) := fun hm e hl _ _ => by
      refine ep_put hE hc.2.1 (by unfold inB; simp; omega) hc.2.2.2 (by simp) (fun hn => by rw [hn] at hl; cases hl)
    cases hl : lookE key E with
    | none => rw [hR, repl_none (by rw [hl]; rfl)] at h0; simp at h0
    | some e =>
      cases hg : e.2.2 with
      | true => rw [hR, repl_none (by rw [hl]; simp [obIs, hg])] at h0; simp at h0
      | false =>
        by_cases hev : e.1 = ver
        · by_cases hf : ver = 1000000
          · rw [hR, repl_full hl hg hev hf] at h0; simp at h0
          · refine ⟨E, _, hEE, hE, hne hf e hl hg hev, by rw [hR, repl_ok hl hg hev hf], rfl, hc.2.1, hc.2.2.2, hv.1, by omega, e.2.1, ?_⟩
            rw [← hev, ← hg]; exact hl
        · rw [hR, repl_ver hl hg hev] at h0; simp at h0
  · rw [h.2 hc] at h0; simp at h0
/-- .. Create -/
theorem cre_done {l : Objs} {m : Gones} {key : ByteArray} {data : ByteArray} {R : Els × Int × Int} (h : IsCreate l m key data R) (h0 : R.2.2 = 0) :
    ∃ E E', elsOf l m = E ∧ EP E ∧ EP E' ∧ R = (E', verE (lookE key E) + 1, 0) ∧ E' = putE key (verE (lookE key E) + 1, data, false) E ∧ keyB key = true ∧ data.size ≤ 30000 ∧ obIs (lookE key E) = false ∧ 0 ≤ verE (lookE key E) ∧ verE (lookE key E) < 1000000 := by
  by_cases hc : StoP l m ∧ keyB key = true ∧ data.size ≤ 30000
  · have hR := h.1 hc
    have hE := ep_of hc.1
    obtain ⟨E, hEE⟩ : ∃ E, elsOf l m = E := ⟨_, rfl⟩
    rw [hEE] at hR hE
    have hce := ep_create hE hc.2.1 hc.2.2
    cases hl : lookE key E with
    | none =>
      by_cases hf : E.length = 1100
      · rw [hR, create_room hl hf] at h0; simp at h0
      · have hr := create_new (data := data) hl hf
        refine ⟨E, _, hEE, hE, by rw [hr] at hce; exact hce, by rw [hR, hr, hl]; rfl, by rw [hl]; rfl, hc.2.1, hc.2.2, by rw [hl]; rfl, by rw [hl]; simp [verE], by rw [hl]; simp [verE]⟩
    | some e =>
      have hb := ep_look hE hl
      cases hg : e.2.2 with
      | false => rw [hR, create_there hl hg] at h0; simp at h0
      | true =>
        by_cases hf : e.1 = 1000000
        · rw [hR, create_full hl hg hf] at h0; simp at h0
        · have hr := create_again (data := data) hl hg hf
          refine ⟨E, _, hEE, hE, by rw [hr] at hce; exact hce, by rw [hR, hr, hl]; rfl, by rw [hl]; rfl, hc.2.1, hc.2.2, by rw [hl]; simp [obIs, hg], by rw [hl]; show 0 ≤ e.1; omega, by rw [hl]; show e.1 < _; omega⟩
  · rw [h.2 hc] at h0; simp at h0
/-- .. Del -/
theorem del_done {l : Objs} {m : Gones} {key : ByteArray} {ver : Int} {R : Els × Int × Int} (h : IsDel l m key ver R) (h0 : R.2.2 = 0) :
    ∃ E E', elsOf l m = E ∧ EP E ∧ EP E' ∧ R = (E', 0, 0) ∧ E' = putE key (ver, ⟨#[]⟩, true) E ∧ keyB key = true ∧ 1 ≤ ver ∧ ver ≤ 1000000 ∧ ∃ d, lookE key E = some (ver, d, false) := by
  by_cases hc : StoP l m ∧ keyB key = true ∧ inB ver 1 1000000 = true
  · have hR := h.1 hc
    have hE := ep_of hc.1
    obtain ⟨E, hEE⟩ : ∃ E, elsOf l m = E := ⟨_, rfl⟩
    rw [hEE] at hR hE
    have hv : 1 ≤ ver ∧ ver ≤ 1000000 := by have := hc.2.2; unfold inB at this; simpa using this
    have hde := ep_del (ver := ver) hE hc.2.1
    cases hl : lookE key E with
    | none => rw [hR, del_none (by rw [hl]; rfl)] at h0; simp at h0
    | some e =>
      cases hg : e.2.2 with
      | true => rw [hR, del_none (by rw [hl]; simp [obIs, hg])] at h0; simp at h0
      | false =>
        by_cases hev : e.1 = ver
        · have hr := del_ok hl hg hev
          refine ⟨E, _, hEE, hE, by rw [hr] at hde; exact hde, by rw [hR, hr], rfl, hc.2.1, hv.1, hv.2, e.2.1, ?_⟩
          rw [← hev, ← hg]; exact hl
        · rw [hR, del_ver hl hg hev] at h0; simp at h0
  · rw [h.2 hc] at h0; simp at h0
end Go.Proofs.YtblpebdjbenphaaGreatDoor
