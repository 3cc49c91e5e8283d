
/- What create, put and del make of a store's list of elements. Plain mathematics. -/
import Derived.Test.YtblpebdjbenphaaElM
namespace Go.Proofs.Ytblpebdjbenphaa
open Go.ChangeShapes Go.WideShapes Go.ChangeAt Go.RowKit
set_option linter.unusedVariables false
set_option maxRecDepth 100000

def createE (key data : ByteArray) (E : Els) : Els × Int × Int :=
  match lookE key E with
  | some e => if e.2.2 = true then (if e.1 = 1000000 then (E, 0, 3) else (putE key (e.1 + 1, data, false) E, e.1 + 1, 0)) else (E, 0, 2)
  | none => if E.length = 1100 then (E, 0, 3) else (putE key (1, data, false) E, 1, 0)
def replE (key : ByteArray) (ver : Int) (data : ByteArray) (E : Els) : Els × Int × Int :=
  match lookE key E with
  | some e => if e.2.2 = true then (E, 0, 4) else if e.1 = ver then (if ver = 1000000 then (E, 0, 3) else (putE key (ver + 1, data, false) E, ver + 1, 0)) else (E, 0, 5)
  | none => (E, 0, 4)
def delE (key : ByteArray) (ver : Int) (E : Els) : Els × Int × Int :=
  match lookE key E with
  | some e => if e.2.2 = true then (E, 0, 4) else if e.1 = ver then (putE key (ver, ⟨#[]⟩, true) E, 0, 0) else (E, 0, 5)
  | none => (E, 0, 4)
/-- The store that is handed back: nothing where the command was rejected. -/
def resO (R : Els × Int × Int) : Objs := if R.2.2 = 0 then objsOf R.1 else []
def resG (R : Els × Int × Int) : Gones := if R.2.2 = 0 then gonsOf R.1 else []

theorem create_there {key data : ByteArray} {E : Els} {e : ElV} (h : lookE key E = some e) (hg : e.2.2 = false) : createE key data E = (E, 0, 2) := by unfold createE; rw [h]; simp [hg]
theorem create_full {key data : ByteArray} {E : Els} {e : ElV} (h : lookE key E = some e) (hg : e.2.2 = true) (hv : e.1 = 1000000) : createE key data E = (E, 0, 3) := by unfold createE; rw [h]; simp [hg, hv]
theorem create_again {key data : ByteArray} {E : Els} {e : ElV} (h : lookE key E = some e) (hg : e.2.2 = true) (hv : e.1 ≠ 1000000) : createE key data E = (putE key (e.1 + 1, data, false) E, e.1 + 1, 0) := by unfold createE; rw [h]; simp [hg, hv]
theorem create_room {key data : ByteArray} {E : Els} (h : lookE key E = none) (hv : E.length = 1100) : createE key data E = (E, 0, 3) := by unfold createE; rw [h]; simp [hv]
theorem create_new {key data : ByteArray} {E : Els} (h : lookE key E = none) (hv : E.length ≠ 1100) : createE key data E = (putE key (1, data, false) E, 1, 0) := by unfold createE; rw [h]; simp [hv]
theorem repl_none {key data : ByteArray} {ver : Int} {E : Els} (h : obIs (lookE key E) = false) : replE key ver data E = (E, 0, 4) := by
  unfold replE
  cases hl : lookE key E with
  | none => rfl
  | some e => rw [hl] at h; simp only [obIs, Bool.not_eq_false'] at h; simp [h]
theorem repl_ver {key data : ByteArray} {ver : Int} {E : Els} {e : ElV} (h : lookE key E = some e) (hg : e.2.2 = false) (hv : e.1 ≠ ver) : replE key ver data E = (E, 0, 5) := by unfold replE; rw [h]; simp [hg, hv]
theorem repl_full {key data : ByteArray} {ver : Int} {E : Els} {e : ElV} (h : lookE key E = some e) (hg : e.2.2 = false) (hv : e.1 = ver) (hf : ver = 1000000) : replE key ver data E = (E, 0, 3) := by unfold replE; rw [h]; simp [hg, hv, hf]
theorem repl_ok {key data : ByteArray} {ver : Int} {E : Els} {e : ElV} (h : lookE key E = some e) (hg : e.2.2 = false) (hv : e.1 = ver) (hf : ver ≠ 1000000) : replE key ver data E = (putE key (ver + 1, data, false) E, ver + 1, 0) := by unfold replE; rw [h]; simp [hg, hv, hf]
theorem del_none {key : ByteArray} {ver : Int} {E : Els} (h : obIs (lookE key E) = false) : delE key ver E = (E, 0, 4) := by
  unfold delE
  cases hl : lookE key E with
  | none => rfl
  | some e => rw [hl] at h; simp only [obIs, Bool.not_eq_false'] at h; simp [h]
theorem del_ver {key : ByteArray} {ver : Int} {E : Els} {e : ElV} (h : lookE key E = some e) (hg : e.2.2 = false) (hv : e.1 ≠ ver) : delE key ver E = (E, 0, 5) := by unfold delE; rw [h]; simp [hg, hv]
theorem del_ok {key : ByteArray} {ver : Int} {E : Els} {e : ElV} (h : lookE key E = some e) (hg : e.2.2 = false) (hv : e.1 = ver) : delE key ver E = (putE key (ver, ⟨#[]⟩, true) E, 0, 0) := by unfold delE; rw [h]; simp [hg, hv]

theorem putE_in {key : ByteArray} {e : ElV} : ∀ {E : Els} {x : ByteArray × ElV}, x ∈ putE key e E → x = (key, e) ∨ x ∈ E
  | [], x, h => by simp [putE] at h; exact .inl h
  | y :: t, x, h => by
    rcases three y.1 key with hl | hl | hl
    · rw [putE_lt hl] at h
      rcases List.mem_cons.1 h with h | h
      · exact .inl h
      · exact .inr h
    · rw [putE_at hl] at h
      rcases List.mem_cons.1 h with h | h
      · exact .inl h
      · exact .inr (List.mem_cons_of_mem _ h)
    · rw [putE_gt hl] at h
      rcases List.mem_cons.1 h with h | h
      · exact .inr (h ▸ List.mem_cons_self ..)
      · rcases putE_in h with h | h
        · exact .inl h
        · exact .inr (List.mem_cons_of_mem _ h)
theorem ekeys_len (E : Els) : (ekeys E).length = E.length := by unfold ekeys; simp
theorem putE_len_new {key : ByteArray} {e : ElV} {E : Els} (hE : IncT (ekeys E)) (h : lookE key E = none) : (putE key e E).length = E.length + 1 := by
  have h1 := congrArg List.length (ekeys_new (e := e) hE h)
  have h2 := posT_le (ekeys E) key
  rw [ekeys_len] at h1 h2
  simp only [List.length_append, List.length_cons, List.length_take, List.length_drop, ekeys_len] at h1
  omega
theorem putE_len_old {key : ByteArray} {e : ElV} {E : Els} (hE : IncT (ekeys E)) (h : lookE key E ≠ none) : (putE key e E).length = E.length := by
  have h1 := congrArg List.length (ekeys_old (e := e) hE h)
  rwa [ekeys_len, ekeys_len] at h1
theorem ep_put {key : ByteArray} {v : Int} {d : ByteArray} {g : Bool} {E : Els} (h : EP E) (hk : keyB key = true) (hv : inB v 1 1000000 = true) (hd : d.size ≤ 30000) (hg : g = true → d = ⟨#[]⟩) (hn : lookE key E = none → E.length ≠ 1100) : EP (putE key (v, d, g) E) := by
  refine ⟨?_, inc_put h.inc, fun x hx => ?_⟩
  · have hf := h.few
    cases hl : lookE key E with
    | none => have := hn hl; rw [putE_len_new h.inc hl]; omega
    | some e => rw [putE_len_old h.inc (by rw [hl]; simp)]; exact hf
  · rcases putE_in hx with rfl | hx
    · exact ⟨hk, hv, hd, hg⟩
    · exact h.ok x hx
theorem ep_look {key : ByteArray} {e : ElV} {E : Els} (h : EP E) (hl : lookE key E = some e) : 1 ≤ e.1 ∧ e.1 ≤ 1000000 ∧ e.2.1.size ≤ 30000 ∧ (e.2.2 = true → e.2.1 = ⟨#[]⟩) := by
  have := h.ok _ (lookE_mem hl)
  obtain ⟨h1, h2, h3, h4⟩ := this
  obtain ⟨h5, h6⟩ := inB_iff.1 h2
  exact ⟨h5, h6, h3, h4⟩
theorem ep_create {key data : ByteArray} {E : Els} (h : EP E) (hk : keyB key = true) (hd : data.size ≤ 30000) : EP (createE key data E).1 := by
  cases hl : lookE key E with
  | none =>
    by_cases hf : E.length = 1100
    · rw [create_room hl hf]; exact h
    · rw [create_new hl hf]; exact ep_put h hk (by decide) hd (fun h => by cases h) (fun _ => hf)
  | some e =>
    cases hg : e.2.2 with
    | false => rw [create_there hl hg]; exact h
    | true =>
      by_cases hv : e.1 = 1000000
      · rw [create_full hl hg hv]; exact h
      · rw [create_again hl hg hv]
        obtain ⟨h1, h2, _⟩ := ep_look h hl
        exact ep_put h hk (inB_iff.2 ⟨by omega, by omega⟩) hd (fun h => by cases h) (fun h => by rw [hl] at h; cases h)
theorem ep_repl {key data : ByteArray} {ver : Int} {E : Els} (h : EP E) (hk : keyB key = true) (hd : data.size ≤ 30000) : EP (replE key ver data E).1 := by
  cases hb : obIs (lookE key E) with
  | false => rw [repl_none hb]; exact h
  | true =>
    cases hl : lookE key E with
    | none => rw [hl] at hb; cases hb
    | some e =>
      rw [hl] at hb
      simp only [obIs, Bool.not_eq_true'] at hb
      by_cases hv : e.1 = ver
      · by_cases hf : ver = 1000000
        · rw [repl_full hl hb hv hf]; exact h
        · rw [repl_ok hl hb hv hf]
          obtain ⟨h1, h2, _⟩ := ep_look h hl
          exact ep_put h hk (inB_iff.2 ⟨by omega, by omega⟩) hd (fun h => by cases h) (fun h => by rw [hl] at h; cases h)
      · rw [repl_ver hl hb hv]; exact h
theorem ep_del {key : ByteArray} {ver : Int} {E : Els} (h : EP E) (hk : keyB key = true) : EP (delE key ver E).1 := by
  cases hb : obIs (lookE key E) with
  | false => rw [del_none hb]; exact h
  | true =>
    cases hl : lookE key E with
    | none => rw [hl] at hb; cases hb
    | some e =>
      rw [hl] at hb
      simp only [obIs, Bool.not_eq_true'] at hb
      by_cases hv : e.1 = ver
      · rw [del_ok hl hb hv]
        obtain ⟨h1, h2, _⟩ := ep_look h hl
        exact ep_put h hk (inB_iff.2 ⟨by omega, by omega⟩) (Nat.zero_le _) (fun _ => rfl) (fun h => by rw [hl] at h; cases h)
      · rw [del_ver hl hb hv]; exact h

/-- The lists of a valid list of elements are a valid store. -/
theorem objs_of_mem : ∀ {E : Els} {y : ByteArray × Int × ByteArray}, y ∈ objsOf E → (y.1, y.2.1, y.2.2, false) ∈ E
  | [], y, h => by simp [objsOf] at h
  | x :: t, y, h => by
    cases hx : x.2.2.2 with
    | true => rw [objsOf_yes hx] at h; exact List.mem_cons_of_mem _ (objs_of_mem h)
    | false =>
      rw [objsOf_no hx] at h
      rcases List.mem_cons.1 h with rfl | h
      · rw [← hx]; exact List.mem_cons_self ..
      · exact List.mem_cons_of_mem _ (objs_of_mem h)
theorem gons_of_mem : ∀ {E : Els} {y : ByteArray × Int}, y ∈ gonsOf E → ∃ d, (y.1, y.2, d, true) ∈ E
  | [], y, h => by simp [gonsOf] at h
  | x :: t, y, h => by
    cases hx : x.2.2.2 with
    | false =>
      rw [gonsOf_no hx] at h
      obtain ⟨d, hd⟩ := gons_of_mem h
      exact ⟨d, List.mem_cons_of_mem _ hd⟩
    | true =>
      rw [gonsOf_yes hx] at h
      rcases List.mem_cons.1 h with rfl | h
      · refine ⟨x.2.2.1, ?_⟩
        rw [← hx]; exact List.mem_cons_self ..
      · obtain ⟨d, hd⟩ := gons_of_mem h
        exact ⟨d, List.mem_cons_of_mem _ hd⟩
theorem stop_of_ep {E : Els} (h : EP E) : StoP (objsOf E) (gonsOf E) := by
  refine ⟨by rw [objs_gons_len]; exact h.few, fun i hi => ?_, fun i hi => ?_, objs_inc h.inc, gons_inc h.inc, fun a ha b hb he => ?_⟩
  · have hm := objs_of_mem (List.getElem_mem hi)
    obtain ⟨h1, h2, h3, _⟩ := h.ok _ hm
    unfold objOk obj0 obj1 obj2
    rw [List.getD_eq_getElem?_getD, List.getElem?_eq_getElem hi]
    exact ⟨h1, h2, h3⟩
  · obtain ⟨d, hm⟩ := gons_of_mem (List.getElem_mem hi)
    obtain ⟨h1, h2, _, _⟩ := h.ok _ hm
    unfold gonOk gone0 gone1
    rw [List.getD_eq_getElem?_getD, List.getElem?_eq_getElem hi]
    exact ⟨h1, h2⟩
  · have h1 := (isT_iff (objs_inc h.inc) (key := a)).2 ⟨a, ha, rfl⟩
    have h2 := (isT_iff (gons_inc h.inc) (key := a)).2 ⟨b, hb, he.symm⟩
    rw [isO_look h.inc] at h1
    rw [isG_look h.inc] at h2
    cases hl : lookE a E with
    | none => rw [hl] at h1; cases h1
    | some e => rw [hl] at h1 h2; simp only [obIs, goIs] at h1 h2; rw [h2] at h1; cases h1
theorem els_back {l : Objs} {m : Gones} : objsOf (elsOf l m) = l ∧ gonsOf (elsOf l m) = m := ⟨(els_parts _ l m (Nat.le_refl _)).1, (els_parts _ l m (Nat.le_refl _)).2.1⟩
/-- What the program's map holds once both lists have been laid. -/
theorem look_tags {l : Objs} {m : Gones} (h : IncT (ekeys (elsOf l m))) (key : ByteArray) : lookE key (l.map tagO ++ m.map tagG) = lookE key (elsOf l m) :=
  (lookE_perm (els_perm l m) (apart_inc h) key).symm
theorem lookE_snoc {A : Els} {x : ByteArray × ElV} {key : ByteArray} (h : ∀ y ∈ A, y.1 ≠ x.1) : lookE key (A ++ [x]) = if sameT x.1 key = true then some x.2 else lookE key A := by
  induction A with
  | nil => rfl
  | cons y t ih =>
    rw [List.cons_append]
    unfold lookE
    rw [ih (fun z hz => h z (List.mem_cons_of_mem _ hz))]
    by_cases h1 : sameT y.1 key = true
    · rw [if_pos h1, if_pos h1]
      have h2 : ¬ sameT x.1 key = true := fun h2 => h y (List.mem_cons_self ..) (by rw [sameT_eq h1, sameT_eq h2])
      rw [if_neg h2]
    · rw [if_neg h1, if_neg h1]
theorem take_snoc {α : Type} (l : List α) (k : Nat) (h : k < l.length) : l.take (k + 1) = l.take k ++ [l[k]] := by rw [List.take_add_one, List.getElem?_eq_getElem h]; rfl
theorem objsOf_take {E : Els} {k : Nat} (h : k < E.length) : objsOf (E.take (k + 1)) = objsOf (E.take k) ++ (if E[k].2.2.2 = true then [] else [(E[k].1, E[k].2.1, E[k].2.2.1)]) := by
  rw [take_snoc E k h]
  generalize E.take k = A
  induction A with
  | nil => cases hx : E[k].2.2.2 <;> simp [objsOf, hx]
  | cons y t ih =>
    rw [List.cons_append]
    cases hy : y.2.2.2 with
    | true => rw [objsOf_yes hy, objsOf_yes hy, ih]
    | false => rw [objsOf_no hy, objsOf_no hy, ih, List.cons_append]
theorem gonsOf_take {E : Els} {k : Nat} (h : k < E.length) : gonsOf (E.take (k + 1)) = gonsOf (E.take k) ++ (if E[k].2.2.2 = true then [(E[k].1, E[k].2.1)] else []) := by
  rw [take_snoc E k h]
  generalize E.take k = A
  induction A with
  | nil => cases hx : E[k].2.2.2 <;> simp [gonsOf, hx]
  | cons y t ih =>
    rw [List.cons_append]
    cases hy : y.2.2.2 with
    | false => rw [gonsOf_no hy, gonsOf_no hy, ih]
    | true => rw [gonsOf_yes hy, gonsOf_yes hy, ih, List.cons_append]
theorem look_at {E : Els} (h : IncT (ekeys E)) {k : Nat} (hk : k < E.length) : lookE E[k].1 E = some E[k].2 := lookE_of (apart_inc h) (List.getElem_mem hk)
end Go.Proofs.Ytblpebdjbenphaa
