/- Texts put together, as a claim holds at most sixty files. -/
import Derived.Test.YtblpebdjbenphaaDoorMg7
import Derived.Maps.OwnSet
namespace Go.Proofs.YtblpebdjbenphaaDoor
open Go.ChangeShapes Go.WideShapes Go.ChangeAt Go.RowKit
set_option linter.unusedVariables false
set_option maxRecDepth 100000

def createE (key data : ByteArray) (E : Els) : Els × Int × Int :=
  match lookE key E with
  | some e => if e.2.2 = true then (if e.1 = 1000000 then (E, 0, 3) else (putE key (e.1 + 1, data, false) E, e.1 + 1, 0)) else (E, 0, 2)
  | none => if E.length = 1100 then (E, 0, 3) else (putE key (1, data, false) E, 1, 0)
def replE (key : ByteArray) (ver : Int) (data : ByteArray) (E : Els) : Els × Int × Int :=
  match lookE key E with
  | some e => if e.2.2 = true then (E, 0, 4) else if e.1 = ver then (if ver = 1000000 then (E, 0, 3) else (putE key (ver + 1, data, false) E, ver + 1, 0)) else (E, 0, 5)
  | none => (E, 0, 4)
def delE (key : ByteArray) (ver : Int) (E : Els) : Els × Int × Int :=
  match lookE key E with
  | some e => if e.2.2 = true then (E, 0, 4) else if e.1 = ver then (putE key (ver, ⟨#[]⟩, true) E, 0, 0) else (E, 0, 5)
  | none => (E, 0, 4)
/-- The store that is handed back: nothing where the command was rejected. -/
def resO (R : Els × Int × Int) : Objs := if R.2.2 = 0 then objsOf R.1 else []
def resG (R : Els × Int × Int) : Gones := if R.2.2 = 0 then gonsOf R.1 else []

theorem create_there {key data : ByteArray} {E : Els} {e : ElV} (h : lookE key E = some e) (hg : e.2.2 = false) : createE key data E = (E, 0, 2) := by unfold createE; rw [h]; simp [hg]
theorem create_full {key data : ByteArray} {E : Els} {e : ElV} (h : lookE key E = some e) (hg : e.2.2 = true) (hv : e.1 = 1000000) : createE key data E = (E, 0, 3) := by unfold createE; rw [h]; simp [hg, hv]
theorem create_again {key data : ByteArray} {E : Els} {e : ElV} (h : lookE key E = some e) (hg : e.2.2 = true) (hv : e.1 ≠ 1000000) : createE key data E = (putE key (e.1 + 1, data, false) E, e.1 + 1, 0) := by unfold createE; rw [h]; simp [hg, hv]
theorem create_room {key data : ByteArray} {E : Els} (h : lookE key E = none) (hv : E.length = 1100) : createE key data E = (E, 0, 3) := by unfold createE; rw [h]; simp [hv]
theorem create_new {key data : ByteArray} {E : Els} (h : lookE key E = none) (hv : E.length ≠ 1100) : createE key data E = (putE key (1, data, false) E, 1, 0) := by unfold createE; rw [h]; simp [hv]
theorem repl_none {key data : ByteArray} {ver : Int} {E : Els} (h : obIs (lookE key E) = false) : replE key ver data E = (E, 0, 4) := by
  unfold replE
  cases hl : lookE key E with
  | none => rfl
  | some e => rw [hl] at h; simp only [obIs, Bool.not_eq_false'] at h; simp [h]
theorem repl_ver {key data : ByteArray} {ver : Int} {E : Els} {e : ElV} (h : lookE key E = some e) (hg : e.2.2 = false) (hv : e.1 ≠ ver) : replE key ver data E = (E, 0, 5) := by unfold replE; rw [h]; simp [hg, hv]
theorem repl_full {key data : ByteArray} {ver : Int} {E : Els} {e : ElV} (h : lookE key E = some e) (hg : e.2.2 = false) (hv : e.1 = ver) (hf : ver = 1000000) : replE key ver data E = (E, 0, 3) := by unfold replE; rw [h]; simp [hg, hv, hf]
theorem repl_ok {key data : ByteArray} {ver : Int} {E : Els} {e : ElV} (h : lookE key E = some e) (hg : e.2.2 = false) (hv : e.1 = ver) (hf : ver ≠ 1000000) : replE key ver data E = (putE key (ver + 1, data, false) E, ver + 1, 0) := by unfold replE; rw [h]; simp [hg, hv, hf]
theorem del_none {key : ByteArray} {ver : Int} {E : Els} (h : obIs (lookE key E) = false) : delE key ver E = (E, 0, 4) := by
  unfold delE
  cases hl : lookE key E with
  | none => rfl
  | some e => rw [hl] at h; simp only [obIs, Bool.not_eq_false'] at h; simp [h]
theorem del_ver {key : ByteArray} {ver : Int} {E : Els} {e : ElV} (h : lookE key E = some e) (hg : e.2.2 = false) (hv : e.1 ≠ ver) : delE key ver E = (E, 0, 5) := by unfold delE; rw [h]; simp [hg, hv]
theorem del_ok {key : ByteArray} {ver : Int} {E : Els} {e : ElV} (h : lookE key E = some e) (hg : e.2.2 = false) (hv : e.1 = ver) : delE key ver E = (putE key (ver, ⟨#[]⟩, true) E, 0, 0) := by unfold delE; rw [h]; simp [hg, hv]

theorem putE_in {key : ByteArray} {e : ElV} : ∀ {E : Els} {x : ByteArray × ElV}, x ∈ putE key e E → x = (key, e) ∨ x ∈ E
  | [], x, h => by simp [putE] at h; exact .inl h
  | y :: t, x, h => by
    rcases three y.1 key with hl | hl | hl
    · rw [putE_lt hl] at h
      rcases List.mem_cons.1 h with h | h
      · exact .inl h
      · exact .inr h
    · rw [putE_at hl] at h
      rcases List.mem_cons.1 h with h | h
      · exact .inl h
      · exact .inr (List.mem_cons_of_mem _ h)
    · rw [putE_gt hl] at h
      rcases List.mem_cons.1 h with h | h
      · exact .inr (h ▸ List.mem_cons_self ..)
      · rcases putE_in h with h | h
        · exact .inl h
        · exact .inr (List.mem_cons_of_mem _ h)
theorem ekeys_len (E : Els) : (ekeys E).length = E.length := by unfold ekeys; simp
theorem putE_len_new {key : ByteArray} {e : ElV} {E : Els} (hE : IncT (ekeys E)) (h : lookE key E = none) : (putE key e E).length = E.length + 1 := by
  have h1 := congrArg List.length (ekeys_new (e := e) hE h)
  have h2 := posT_le (ekeys E) key
  rw [ekeys_len] at h1 h2
  simp only [List.length_append, List.length_cons, List.length_take, List.length_drop, ekeys_len] at h1
  omega
theorem putE_len_old {key : ByteArray} {e : ElV} {E : Els} (hE : IncT (ekeys E)) (h : lookE key E ≠ none) : (putE key e E).length = E.length := by
  have h1 := congrArg List.length (ekeys_old (e := e) hE h)
  rwa [ekeys_len, ekeys_len] at h1
theorem ep_put {key : ByteArray} {v : Int} {d : ByteArray} {g : Bool} {E : Els} (h : EP E) (hk : keyB key = true) (hv : inB v 1 1000000 = true) (hd : d.size ≤ 30000) (hg : g = true → d = ⟨#[]⟩) (hn : lookE key E = none → E.length ≠ 1100) : EP (putE key (v, d, g) E) := by
  refine ⟨?_, inc_put h.inc, fun x hx => ?_⟩
  · have hf := h.few
    cases hl : lookE key E with
    | none => have := hn hl; rw [putE_len_new h.inc hl]; omega
    | some e => rw [putE_len_old h.inc (by rw [hl]; simp)]; exact hf
  · rcases putE_in hx with rfl | hx
    · exact ⟨hk, hv, hd, hg⟩
    · exact h.ok x hx
theorem ep_look {key : ByteArray} {e : ElV} {E : Els} (h : EP E) (hl : lookE key E = some e) : 1 ≤ e.1 ∧ e.1 ≤ 1000000 ∧ e.2.1.size ≤ 30000 ∧ (e.2.2 = true → e.2.1 = ⟨#[]⟩) := by
  have := h.ok _ (lookE_mem hl)
  obtain ⟨h1, h2, h3, h4⟩ := this
  obtain ⟨h5, h6⟩ := inB_iff.1 h2
  exact ⟨h5, h6, h3, h4⟩
theorem ep_create {key data : ByteArray} {E : Els} (h : EP E) (hk : keyB key = true) (hd : data.size ≤ 30000) : EP (createE key data E).1 := by
  cases hl : lookE key E with
  | none =>
    by_cases hf : E.length = 1100
    · rw [create_room hl hf]; exact h
    · rw [create_new hl hf]; exact ep_put h hk (by decide) hd (fun h => by cases h) (fun _ => hf)
  | some e =>
    cases hg : e.2.2 with
    | false => rw [create_there hl hg]; exact h
    | true =>
      by_cases hv : e.1 = 1000000
      · rw [create_full hl hg hv]; exact h
      · rw [create_again hl hg hv]
        obtain ⟨h1, h2, _⟩ := ep_look h hl
        exact ep_put h hk (inB_iff.2 ⟨by omega, by omega⟩) hd (fun h => by cases h) (fun h => by rw [hl] at h; cases h)
theorem ep_repl {key data : ByteArray} {ver : Int} {E : Els} (h : EP E) (hk : keyB key = true) (hd : data.size ≤ 30000) : EP (replE key ver data E).1 := by
  cases hb : obIs (lookE key E) with
  | false => rw [repl_none hb]; exact h
  | true =>
    cases hl : lookE key E with
    | none => rw [hl] at hb; cases hb
    | some e =>
      rw [hl] at hb
      simp only [obIs, Bool.not_eq_true'] at hb
      by_cases hv : e.1 = ver
      · by_cases hf : ver = 1000000
        · rw [repl_full hl hb hv hf]; exact h
        · rw [repl_ok hl hb hv hf]
          obtain ⟨h1, h2, _⟩ := ep_look h hl
          exact ep_put h hk (inB_iff.2 ⟨by omega, by omega⟩) hd (fun h => by cases h) (fun h => by rw [hl] at h; cases h)
      · rw [repl_ver hl hb hv]; exact h
theorem ep_del {key : ByteArray} {ver : Int} {E : Els} (h : EP E) (hk : keyB key = true) : EP (delE key ver E).1 := by
  cases hb : obIs (lookE key E) with
  | false => rw [del_none hb]; exact h
  | true =>
    cases hl : lookE key E with
    | none => rw [hl] at hb; cases hb
    | some e =>
      rw [hl] at hb
      simp only [obIs, Bool.not_eq_true'] at hb
      by_cases hv : e.1 = ver
      · rw [del_ok hl hb hv]
        obtain ⟨h1, h2, _⟩ := ep_look h hl
        exact ep_put h hk (inB_iff.2 ⟨by omega, by omega⟩) (Nat.zero_le _) (fun _ => rfl) (fun h => by rw [hl] at h; cases h)
      · rw [del_ver hl hb hv]; exact h

/-- The lists of a valid list of elements are a valid store. -/
theorem objs_of_mem : ∀ {E : Els} {y : ByteArray × Int × ByteArray}, y ∈ objsOf E → (y.1, y.2.1, y.2.2, false) ∈ E
  | [], y, h => by simp [objsOf] at h
  | x :: t, y, h => by
    cases hx : x.2.2.2 with
    | true => rw [objsOf_yes hx] at h; exact List.mem_cons_of_mem _ (objs_of_mem h)
    | false =>
      rw [objsOf_no hx] at h
      rcases List.mem_cons.1 h with rfl | h
      · rw [← hx]; exact List.mem_cons_self ..
      · exact List.mem_cons_of_mem _ (objs_of_mem h)
theorem gons_of_mem : ∀ {E : Els} {y : ByteArray × Int}, y ∈ gonsOf E → ∃ d, (y.1, y.2, d, true) ∈ E
  | [], y, h => by simp [gonsOf] at h
  | x :: t, y, h => by
    cases hx : x.2.2.2 with
    | false =>
      rw [gonsOf_no hx] at h
      obtain ⟨d, hd⟩ := gons_of_mem h
      exact ⟨d, List.mem_cons_of_mem _ hd⟩
    | true =>
      rw [gonsOf_yes hx] at h
      rcases List.mem_cons.1 h with rfl | h
      · refine ⟨x.2.2.1, ?_⟩
        rw [← hx]; exact List.mem_cons_self ..
      · obtain ⟨d, hd⟩ := gons_of_mem h
        exact ⟨d, List.mem_cons_of_mem _ hd⟩
theorem stop_of_ep {E : Els} (h : EP E) : StoP (objsOf E) (gonsOf E) := by
  refine ⟨by rw [objs_gons_len]; exact h.few, fun i hi => ?_, fun i hi => ?_, objs_inc h.inc, gons_inc h.inc, fun a ha b hb he => ?_⟩
  · have hm := objs_of_mem (List.getElem_mem hi)
    obtain ⟨h1, h2, h3, _⟩ := h.ok _ hm
    unfold objOk obj0 obj1 obj2
    rw [List.getD_eq_getElem?_getD, List.getElem?_eq_getElem hi]
    exact ⟨h1, h2, h3⟩
  · obtain ⟨d, hm⟩ := gons_of_mem (List.getElem_mem hi)
    obtain ⟨h1, h2, _, _⟩ := h.ok _ hm
    unfold gonOk gone0 gone1
    rw [List.getD_eq_getElem?_getD, List.getElem?_eq_getElem hi]
    exact ⟨h1, h2⟩
  · have h1 := (isT_iff (objs_inc h.inc) (key := a)).2 ⟨a, ha, rfl⟩
    have h2 := (isT_iff (gons_inc h.inc) (key := a)).2 ⟨b, hb, he.symm⟩
    rw [isO_look h.inc] at h1
    rw [isG_look h.inc] at h2
    cases hl : lookE a E with
    | none => rw [hl] at h1; cases h1
    | some e => rw [hl] at h1 h2; simp only [obIs, goIs] at h1 h2; rw [h2] at h1; cases h1
theorem els_back {l : Objs} {m : Gones} : objsOf (elsOf l m) = l ∧ gonsOf (elsOf l m) = m := ⟨(els_parts _ l m (Nat.le_refl _)).1, (els_parts _ l m (Nat.le_refl _)).2.1⟩
/-- What the program's map holds once both lists have been laid. -/
theorem look_tags {l : Objs} {m : Gones} (h : IncT (ekeys (elsOf l m))) (key : ByteArray) : lookE key (l.map tagO ++ m.map tagG) = lookE key (elsOf l m) :=
  (lookE_perm (els_perm l m) (apart_inc h) key).symm
theorem lookE_snoc {A : Els} {x : ByteArray × ElV} {key : ByteArray} (h : ∀ y ∈ A, y.1 ≠ x.1) : lookE key (A ++ [x]) = if sameT x.1 key = true then some x.2 else lookE key A := by
  induction A with
  | nil => rfl
  | cons y t ih =>
    rw [List.cons_append]
    unfold lookE
    rw [ih (fun z hz => h z (List.mem_cons_of_mem _ hz))]
    by_cases h1 : sameT y.1 key = true
    · rw [if_pos h1, if_pos h1]
      have h2 : ¬ sameT x.1 key = true := fun h2 => h y (List.mem_cons_self ..) (by rw [sameT_eq h1, sameT_eq h2])
      rw [if_neg h2]
    · rw [if_neg h1, if_neg h1]
theorem take_snoc {α : Type} (l : List α) (k : Nat) (h : k < l.length) : l.take (k + 1) = l.take k ++ [l[k]] := by rw [List.take_add_one, List.getElem?_eq_getElem h]; rfl
theorem objsOf_take {E : Els} {k : Nat} (h : k < E.length) : objsOf (E.take (k + 1)) = objsOf (E.take k) ++ (if E[k].2.2.2 = true then [] else [(E[k].1, E[k].2.1, E[k].2.2.1)]) := by
  rw [take_snoc E k h]
  generalize E.take k = A
  induction A with
  | nil => cases hx : E[k].2.2.2 <;> simp [objsOf, hx]
  | cons y t ih =>
    rw [List.cons_append]
    cases hy : y.2.2.2 with
    | true => rw [objsOf_yes hy, objsOf_yes hy, ih]
    | false => rw [objsOf_no hy, objsOf_no hy, ih, List.cons_append]
theorem gonsOf_take {E : Els} {k : Nat} (h : k < E.length) : gonsOf (E.take (k + 1)) = gonsOf (E.take k) ++ (if E[k].2.2.2 = true then [(E[k].1, E[k].2.1)] else []) := by
  rw [take_snoc E k h]
  generalize E.take k = A
  induction A with
  | nil => cases hx : E[k].2.2.2 <;> simp [gonsOf, hx]
  | cons y t ih =>
    rw [List.cons_append]
    cases hy : y.2.2.2 with
    | false => rw [gonsOf_no hy, gonsOf_no hy, ih]
    | true => rw [gonsOf_yes hy, gonsOf_yes hy, ih, List.cons_append]
theorem look_at {E : Els} (h : IncT (ekeys E)) {k : Nat} (hk : k < E.length) : lookE E[k].1 E = some E[k].2 := lookE_of (apart_inc h) (List.getElem_mem hk)
end Go.Proofs.YtblpebdjbenphaaDoor
namespace Go.Proofs.YtblpebdjbenphaaDoor
open Go.ChangeShapes Go.WideShapes Go.ChangeAt Go.RowKit
set_option linter.unusedVariables false
set_option maxRecDepth 100000

def RU (_ : Value) : Option (DataW Unit × List MemPlace) := some (.lit (.bool true), [])
def elV (e : ElV) : Value := .agg #[.int .i64 e.1, .string e.2.1, .bool e.2.2]
def el0 : ElV := (0, ⟨#[]⟩, false)
theorem keyT : Maps.Keyed Tryd.prog 9 := Maps.string_keyed Tryd.underlying9
theorem keyS {s : ByteArray} (h : s.size ≤ maxLen) : keyOf Tryd.prog 9 (.string s) = some (.string s.data.toList) := WideMaps.keyOf_string_mk Tryd.underlying9 h
theorem zeroEl (w : World) : (zeroValue 90).run Tryd.prog w = .ok (elV el0) w := by kernel_rfl

/-- Block b is a map of at most n entries that holds just what g says. -/
def MapIs (w : World) (b n : Nat) (g : ByteArray → Option ElV) : Prop :=
  ∃ es clock, w.heap[b]? = some (.map es clock) ∧ WideElems.Fit Tryd.prog 9 RU es clock ∧ es.size ≤ n ∧
    (∀ x ∈ es.toList, ∃ s e, x.key = .string s ∧ s.size ≤ maxLen ∧ x.val = elV e ∧ g s = some e) ∧ ∀ s e, g s = some e → ∃ x ∈ es.toList, x.key = .string s
theorem MapIs.made (w : World) : MapIs (w.alloc (.map #[] 0)) w.heap.size 0 (fun _ => none) :=
  ⟨#[], 0, (MapKept.heap_alloc w _).1, ⟨by simp, MapKept.stamped_empty 0, by simp⟩, Nat.le_refl _, by simp, by simp⟩
theorem MapIs.lt {w : World} {b n : Nat} {g : ByteArray → Option ElV} (h : MapIs w b n g) : b < w.heap.size := by
  obtain ⟨es, clock, hb, _⟩ := h
  exact (Array.getElem?_eq_some_iff.1 hb).1
theorem MapIs.grown {w w1 : World} {b n : Nat} {g : ByteArray → Option ElV} {row : Option Nat} (h : MapIs w b n g) (hg : w.grownBy w1 row) (hne : some b ≠ row) : MapIs w1 b n g := by
  have hlt := h.lt
  obtain ⟨es, clock, hb, r⟩ := h
  exact ⟨es, clock, (hg.block b hlt hne).trans hb, r⟩
theorem MapIs.keep {w w1 : World} {b n : Nat} {g : ByteArray → Option ElV} (h : MapIs w b n g) (hB : Below w.heap.size w w1) : MapIs w1 b n g := by
  have hlt := h.lt
  obtain ⟨es, clock, hb, r⟩ := h
  exact ⟨es, clock, (hB.block b hlt).trans hb, r⟩
theorem MapIs.put {w : World} {b n : Nat} {g : ByteArray → Option ElV} (h : MapIs w b n g) {X : Nat} (hne : b ≠ X) (j : Nat) (v : Value) : MapIs (w.setCell ⟨X, j, none⟩ v) b n g := by
  obtain ⟨es, clock, hb, r⟩ := h
  exact ⟨es, clock, (Below.heap_setCell w ⟨X, j, none⟩ v b hne).trans hb, r⟩
theorem MapIs.as {w : World} {b n : Nat} {g g' : ByteArray → Option ElV} (h : MapIs w b n g) (hg : ∀ s, g s = g' s) {n' : Nat} (hn : n ≤ n') : MapIs w b n' g' := by
  obtain ⟨es, clock, hb, F, hs, h1, h2⟩ := h
  obtain rfl : g = g' := funext hg
  exact ⟨es, clock, hb, F, Nat.le_trans hs hn, h1, h2⟩
theorem str_inj {s u : ByteArray} (h : Value.string s = Value.string u) : s = u := by cases h; rfl
theorem MapIs.look {w : World} {b n : Nat} {g : ByteArray → Option ElV} (h : MapIs w b n g) {s : ByteArray} (hs : s.size ≤ maxLen) (c : Bool) :
    (Instr.lookup 88 (.map (some b)) (.string s) c).run Tryd.prog w = .ok (if c then .tuple #[elV ((g s).getD el0), .bool (g s).isSome] else elV ((g s).getD el0)) w := by
  obtain ⟨es, clock, hb, F, _, h1, h2⟩ := h
  rcases Maps.fit_look c keyT Tryd.underlying88 (zeroEl w) hb F (keyS hs) with ⟨hrun, hno, _⟩ | ⟨e0, y, hm, hk, hrun, _, _, _⟩
  · have hg : g s = none := by
      cases hgs : g s with
      | none => rfl
      | some e =>
        obtain ⟨x, hx, hxk⟩ := h2 s e hgs
        exact absurd hxk (hno x hx)
    rw [hrun, hg]; rfl
  · obtain ⟨s', e, hk', _, hv, hg⟩ := h1 e0 hm
    rw [hk] at hk'
    have := str_inj hk'
    subst this
    rw [hrun, hg, hv]; rfl
theorem MapIs.store {w : World} {b n : Nat} {g : ByteArray → Option ElV} (h : MapIs w b n g) {s : ByteArray} (hs : s.size ≤ maxLen) (hn : n < maxLen) (e : ElV) :
    ∃ w', (Instr.mapUpdate 88 (.map (some b)) (.string s) (elV e)).run Tryd.prog w = .ok () w' ∧ MapIs w' b (n + 1) (fun k => if sameT s k = true then some e else g k) ∧ w.grownBy w' (some b) := by
  obtain ⟨es, clock, hb, F, hz, h1, h2⟩ := h
  obtain ⟨es', clock', hrun, F', hput, _, _, hwho⟩ := Maps.fit_store (R' := RU) keyT Tryd.underlying88 hb F (Nat.lt_of_le_of_lt hz hn) (fun _ _ _ _ hz => hz) (keyS hs) (val := elV e) (yv := (.lit (.bool true), [])) rfl
  have hsize : es'.size ≤ n + 1 := by
    have e1 : es'.size = ((es'.toList.map (WideElems.rg Tryd.prog 9 RU)).foldr DataW.insert []).length := by rw [length_sorted]; simp
    rw [e1, hput]
    unfold ChangeMaps.putKey
    rw [length_insert]
    have e2 := List.length_filter_le (ChangeMaps.notKey (.string s.data.toList)) ((es.toList.map (WideElems.rg Tryd.prog 9 RU)).foldr DataW.insert [])
    rw [length_sorted] at e2
    simp at e2
    omega
  have hin : ∀ p : Lit × DataW Unit, p ∈ es'.toList.map (WideElems.rg Tryd.prog 9 RU) ↔ p = (.string s.data.toList, .lit (.bool true)) ∨ (p ∈ es.toList.map (WideElems.rg Tryd.prog 9 RU) ∧ ChangeMaps.notKey (.string s.data.toList) p = true) := by
    intro p
    rw [← (sorted_perm (es'.toList.map (WideElems.rg Tryd.prog 9 RU))).mem_iff, hput]
    unfold ChangeMaps.putKey
    rw [ChangeMaps.mem_insert_iff, List.mem_filter, (sorted_perm (es.toList.map (WideElems.rg Tryd.prog 9 RU))).mem_iff]
  have hrg : ∀ (ds : Array MapEntry) (cl : Nat), WideElems.Fit Tryd.prog 9 RU ds cl → ∀ x ∈ ds.toList, ∀ u : ByteArray, u.size ≤ maxLen → x.key = .string u → WideElems.rg Tryd.prog 9 RU x = (.string u.data.toList, .lit (.bool true)) := by
    intro ds cl Fd x hx u hu hk
    obtain ⟨y, hy⟩ := Fd.reads x hx
    rw [WideElems.rg_of hy]
    have m1 := WideElems.rd_key hy
    rw [hk, keyS hu] at m1
    obtain ⟨z, hz, he⟩ := WideElems.rd_val hy
    simp only [Option.some.injEq] at m1
    unfold RU at hz
    simp only [Option.some.injEq] at hz
    have : y.2 = .lit (.bool true) := by rw [he, ← hz]
    cases y
    simp at m1 this
    rw [← m1, this]
  have hlit : ∀ u : ByteArray, (Lit.string u.data.toList = Lit.string s.data.toList) → u = s := by
    intro u hu
    simp only [Lit.string.injEq] at hu
    exact bytesInj (by rw [Lib.toList_data, Lib.toList_data, hu])
  have hnk : ∀ u : ByteArray, u ≠ s → ChangeMaps.notKey (.string s.data.toList) ((.string u.data.toList, .lit (.bool true)) : Lit × DataW Unit) = true := by
    intro u hu
    exact (ChangeMaps.notKey_iff ⟨_, rfl⟩ ⟨_, rfl⟩).2 (fun he => hu (hlit u he))
  refine ⟨_, hrun, ⟨es', clock', ChangeMaps.heap_setBlock_same hb _, F', hsize, ?_, ?_⟩, ⟨rfl, rfl, rfl, by simp [ChangeMaps.setBlock], fun i _ hi => ChangeMaps.heap_setBlock_other hb _ (fun e => hi (by rw [e]))⟩⟩
  · intro x hx
    rcases hwho x hx with ⟨hx0, hk⟩ | ⟨hk, hv⟩
    · obtain ⟨u, e', hk', hu, hv, hg⟩ := h1 x hx0
      refine ⟨u, e', hk', hu, hv, ?_⟩
      have : ¬ sameT s u = true := fun h => hk (by rw [hk', sameT_eq h])
      simp only [if_neg this]; exact hg
    · exact ⟨s, e, hk, hs, hv, by simp [sameT_refl]⟩
  · intro u e' hg
    have key : ∀ u' : ByteArray, u'.size ≤ maxLen → (.string u'.data.toList, .lit (.bool true)) ∈ es'.toList.map (WideElems.rg Tryd.prog 9 RU) → ∃ x ∈ es'.toList, x.key = .string u' := by
      intro u' hu' hm
      obtain ⟨x, hx, hxe⟩ := List.mem_map.1 hm
      refine ⟨x, hx, ?_⟩
      obtain ⟨y, hy⟩ := F'.reads x hx
      rw [WideElems.rg_of hy] at hxe
      have m1 := WideElems.rd_key hy
      rw [hxe] at m1
      exact keyT.inj m1 (keyS hu')
    by_cases hu : sameT s u = true
    · rw [← sameT_eq hu]
      exact key s hs ((hin _).2 (.inl rfl))
    · simp only [if_neg hu] at hg
      obtain ⟨x, hx, hxk⟩ := h2 u e' hg
      obtain ⟨u', _, hk', hu', _, _⟩ := h1 x hx
      rw [hxk] at hk'
      have := str_inj hk'
      subst this
      refine key u hu' ((hin _).2 (.inr ⟨?_, hnk u (fun h => hu (by rw [h]; exact sameT_refl _))⟩))
      rw [← hrg es clock F x hx u hu' hxk]
      exact List.mem_map.2 ⟨x, hx, rfl⟩

theorem wpList_look_el (w : World) {ops : Array Oper} {rest : List Oper} {o : Oper} {a : Act} {Q : Exit → Act → World → Prop}
    (hg : o.guard = none) (m x : Operand) (c : Bool) (hop : o.op = Op.lookup 88 m x c) (b n : Nat) (g : ByteArray → Option ElV) (hm : a.eval m = .map (some b)) (hown : MapIs w b n g)
    (s : ByteArray) (hx : a.eval x = .string s) (hs : s.size ≤ maxLen) (r : Option ElV) (hr : g s = r)
    (hK : wpList Tryd.prog ops Q rest (a.put o.dst (if c then .tuple #[elV (r.getD el0), .bool r.isSome] else elV (r.getD el0))) w) :
    wpList Tryd.prog ops Q (o :: rest) a w := by
  refine wpList_plain hg fun K' hK' => ?_
  have hrun := hown.look hs c
  rw [hr] at hrun
  cases c with
  | true =>
    unfold Oper.wp
    simp [execOp, hop, hm, hx, hrun, Result.andThen]
    exact hK' _ _ hK
  | false =>
    unfold Oper.wp
    simp [execOp, hop, hm, hx, hrun, Result.andThen]
    exact hK' _ _ hK
theorem wpList_store_el (w : World) {ops : Array Oper} {rest : List Oper} {o : Oper} {a : Act} {Q : Exit → Act → World → Prop}
    (hg : o.guard = none) (m x v : Operand) (hop : o.op = Op.mapUpdate 88 m x v) (b n : Nat) (g : ByteArray → Option ElV) (hm : a.eval m = .map (some b)) (hown : MapIs w b n g) (hn : n < maxLen)
    (s : ByteArray) (hx : a.eval x = .string s) (hs : s.size ≤ maxLen) (e : ElV) (hv : a.eval v = elV e)
    (hK : ∀ w', MapIs w' b (n + 1) (fun k => if sameT s k = true then some e else g k) → w.grownBy w' (some b) → wpList Tryd.prog ops Q rest (a.put o.dst undef) w') :
    wpList Tryd.prog ops Q (o :: rest) a w := by
  refine wpList_plain hg fun K' hK' => ?_
  obtain ⟨w', hrun, r1, r2⟩ := hown.store hs hn e
  unfold Oper.wp
  simp [execOp, hop, hm, hx, hv, hrun, Result.andThen]
  exact hK' _ _ (hK w' r1 r2)
end Go.Proofs.YtblpebdjbenphaaDoor
namespace Go.Proofs.YtblpebdjbenphaaDoor
open Go.ChangeShapes Go.WideShapes Go.ChangeAt Go.RowKit
set_option linter.unusedVariables false
set_option maxRecDepth 100000

/-- What the model has seen of the objects. -/
def SeenO (l : Objs) (k : Nat) : Prop := ∀ j, j < k → objOk l j ∧ (0 < j → (obj0 l (j - 1)).toList < (obj0 l j).toList)
def SeenG (l : Objs) (m : Gones) (k : Nat) : Prop := ∀ j, j < k → gonOk m j ∧ (0 < j → (gone0 m (j - 1)).toList < (gone0 m j).toList) ∧ isT (okeys l) (gone0 m j) = false
theorem seenO_inc {l : Objs} (h : SeenO l l.length) : IncT (okeys l) := inc_adj (fun i hi => by
  rw [okeys_at, okeys_at]
  rw [okeys_len] at hi
  exact (h (i + 1) hi).2 (by omega))
theorem seenG_inc {l : Objs} {m : Gones} (h : SeenG l m m.length) : IncT (gkeys m) := inc_adj (fun i hi => by
  rw [gkeys_at, gkeys_at]
  rw [gkeys_len] at hi
  exact (h (i + 1) hi).2.1 (by omega))
theorem mem_txt {l : Txts} {s : ByteArray} (h : s ∈ l) : ∃ i, i < l.length ∧ s = txt l i := by
  obtain ⟨i, hi, rfl⟩ := List.getElem_of_mem h
  exact ⟨i, hi, txt_get _ _ hi⟩
theorem txt_mem {l : Txts} {i : Nat} (h : i < l.length) : txt l i ∈ l := by rw [← txt_get l i h]; exact List.getElem_mem _
theorem sto_seen {l : Objs} {m : Gones} (h0 : l.length + m.length ≤ 1100) (h1 : SeenO l l.length) (h2 : SeenG l m m.length) : StoP l m := by
  refine ⟨h0, fun i hi => (h1 i hi).1, fun i hi => (h2 i hi).1, seenO_inc h1, seenG_inc h2, ?_⟩
  intro a ha b hb he
  obtain ⟨i, hi, rfl⟩ := mem_txt hb
  have := (h2 i (by rw [gkeys_len] at hi; exact hi)).2.2
  rw [gkeys_at] at he
  rw [← Bool.not_eq_true, isT_iff (seenO_inc h1)] at this
  exact this ⟨a, ha, he⟩
theorem sto_not_obj {l : Objs} {m : Gones} {k : Nat} (hk : k < l.length) (h : ¬ objOk l k) : ¬ StoP l m := fun hs => h (hs.objs k hk)
theorem sto_not_gon {l : Objs} {m : Gones} {k : Nat} (hk : k < m.length) (h : ¬ gonOk m k) : ¬ StoP l m := fun hs => h (hs.gons k hk)
theorem sto_not_oinc {l : Objs} {m : Gones} {k : Nat} (hk : k + 1 < l.length) (h : ltT (obj0 l k) (obj0 l (k + 1)) = false) : ¬ StoP l m := fun hs =>
  inc_not (l := okeys l) (i := k) (by rw [okeys_len]; exact hk) (by rw [okeys_at, okeys_at]; exact h) hs.oinc
theorem sto_not_ginc {l : Objs} {m : Gones} {k : Nat} (hk : k + 1 < m.length) (h : ltT (gone0 m k) (gone0 m (k + 1)) = false) : ¬ StoP l m := fun hs =>
  inc_not (l := gkeys m) (i := k) (by rw [gkeys_len]; exact hk) (by rw [gkeys_at, gkeys_at]; exact h) hs.ginc
theorem sto_not_apart {l : Objs} {m : Gones} {k : Nat} (hk : k < m.length) (h : isT (okeys l) (gone0 m k) = true) : ¬ StoP l m := fun hs => by
  obtain ⟨s, h1, h2⟩ := (isT_iff hs.oinc).1 h
  exact hs.apart s h1 _ (txt_mem (l := gkeys m) (i := k) (by rw [gkeys_len]; exact hk)) (by rw [gkeys_at]; exact h2)
theorem l7find_is {a g : Option Addr} {la ca lg cg : Nat} {l : Objs} {m : Gones} {key : ByteArray} {w : World} {b : Bool} (h : StoAt w a la l g lg m) (hb : isT (okeys l) key = b) :
    Calls Tryd.prog 37 #[.agg #[.slice a la ca, .slice g lg cg], .string key] w fun e w' => e = .returned (.tuple #[.int .i64 (posT (okeys l) key : Nat), .bool b]) ∧ Below w.heap.size w w' := by
  have := l7find_any a g la ca lg cg l m key w h
  unfold MadeFound at this
  rw [hb] at this
  exact this
theorem says_no {p : Prop} {w w' : World} (h : ¬ p) (hB : Below w.heap.size w w') : SaysB p w (.returned (.bool false)) w' := ⟨false, rfl, by simp [h], hB⟩
theorem says_yes {p : Prop} {w w' : World} (h : p) (hB : Below w.heap.size w w') : SaysB p w (.returned (.bool true)) w' := ⟨true, rfl, by simp [h], hB⟩

theorem same_quiet {f : FuncId} {args : Array Value} {w : World} {n : Nat} {b c : Bool} (h : Calls Tryd.prog f args (w.drewN n) (SameBool b (w.drewN n))) (hb : b = c) :
    Calls Tryd.prog f args (w.drewN n) fun e w'' => e = .returned (.bool c) ∧ ∃ m, w'' = w.drewN m := h.mono fun _ _ ⟨he, hw⟩ => ⟨by rw [he, hb], n, hw.symm⟩

set_option maxHeartbeats 4000000 in
theorem sstoreok_any (a g : Option Addr) (la ca lg cg : Nat) (l : Objs) (m : Gones) (w : World) (h : StoAt w a la l g lg m) (hla : la ≤ 1048576) (hlg : lg ≤ 1048576) :
    Calls Tryd.prog 13 #[.agg #[.slice a la ca, .slice g lg cg]] w (SaysB (StoP l m) w) := by
  have hm := h.o.max
  have hm2 := h.d.max
  unfold maxLen at hm hm2
  have HS := Lib.hid h
  have HL := Lib.hid h.o.length
  have HLG := Lib.hid h.d.length
  clear h
  by_cases hfew : 1100 < la + lg
  · have HN := Lib.hid (show ¬ StoP l m from fun hs => by have := hs.few; rw [HL.out, HLG.out] at this; omega)
    have hf : (1100 : Int) < (la : Int) + (lg : Int) := by omega
    go_enter Tryd.func13, Tryd.ntmps13
    go_wp2
    go_ret
    exact says_no HN.out (below_alloc (Below.refl _ _) _)
  have hf : ¬ (1100 : Int) < (la : Int) + (lg : Int) := by omega
  go_enter Tryd.func13, Tryd.ntmps13
  go_wp2
  go_loopw [3, 4] (fun i o wr => ∃ k : Nat, k ≤ la ∧ i = .int .i64 k ∧ Hid (GD w #[.slice a la ca, .slice g lg cg] wr ∧ SeenO l k)) (fun i _ _ => la - (intOf i).toNat)
  case atStart => exact ⟨0, Nat.zero_le _, rfl, ⟨below_alloc (Below.refl _ _) _, row_new _ _ _⟩, fun j hj => by omega⟩
  case round =>
    obtain ⟨k, hk, rfl, HW⟩ := hrel
    have b0 := HW.out.1.box.cell (j := 0) (by simp)
    have b1 := HW.out.1.box.cell (j := 1) (by simp)
    simp at b0 b1
    by_cases hlt : k < la
    · rcases HS.out.o.src with hz | ⟨b, off, rfl, hb, hc⟩
      · omega
      · have c0 := (HW.out.1.below.cell (p := ⟨b, off + k * 3, none⟩) hb).trans (hc k hlt).1
        have c1 := (HW.out.1.below.cell (p := ⟨b, off + k * 3 + 1, none⟩) hb).trans (hc k hlt).2.1
        have c2 := (HW.out.1.below.cell (p := ⟨b, off + k * 3 + 2, none⟩) hb).trans (hc k hlt).2.2
        have hi1 : (k : Int) < (la : Int) := by omega
        have hi0 : (0 : Int) ≤ (k : Int) := by omega
        have hsz : (obj0 l k).size ≤ maxLen ∧ (obj2 l k).size ≤ maxLen := HS.out.o.keys k hlt
        have HSZ := Lib.hid hsz.1
        have hd0 := hsz.2
        unfold maxLen at hd0
        clear hsz
        have hkl : k < l.length := by rw [HL.out]; exact hlt
        have HBK := Lib.hid (below_alloc HW.out.1.below (.cells #[.string (obj0 l k), .int .i64 (obj1 l k), .string (obj2 l k)] 35))
        have HC := Lib.hid hc
        have HBB := Lib.hid hb
        clear hc hb
        cases hkey : keyB (obj0 l k) with
        | false =>
          have HN := Lib.hid (sto_not_obj (m := m) hkl (fun h => by rw [h.1] at hkey; cases hkey))
          have HK := Lib.hid hkey
          clear hkey
          go_wp2_with fail
          go_quiet ((go_at_call 31; exact same_quiet (l7key_any _ _ HSZ.out) HK.out))
          go_wp2
          go_ret
          exact says_no HN.out (below_drewN HBK.out _)
        | true =>
          have HK := Lib.hid hkey
          cases hver : inB (obj1 l k) 1 1000000 with
          | false =>
            have HN := Lib.hid (sto_not_obj (m := m) hkl (fun h => by rw [h.2.1] at hver; cases hver))
            have HV := Lib.hid hver
            clear hkey hver
            go_wp2_with fail
            go_quiet ((first | (go_at_call 31; exact same_quiet (l7key_any _ _ HSZ.out) HK.out) | (go_at_call 36; exact same_quiet (l7ver_any _ _) HV.out)))
            go_wp2
            go_ret
            exact says_no HN.out (below_drewN HBK.out _)
          | true =>
            have HV := Lib.hid hver
            by_cases hd : (30000 : Int) < ((obj2 l k).size : Int)
            · have HN := Lib.hid (sto_not_obj (m := m) hkl (fun h => by have := h.2.2; omega))
              clear hkey hver
              go_wp2_with fail
              go_quiet ((first | (go_at_call 31; exact same_quiet (l7key_any _ _ HSZ.out) HK.out) | (go_at_call 36; exact same_quiet (l7ver_any _ _) HV.out)))
              go_wp2
              go_ret
              exact says_no HN.out (below_drewN HBK.out _)
            · have HOK := Lib.hid (show objOk l k from ⟨hkey, hver, by omega⟩)
              clear hkey hver
              have hd2 : decide ((30000 : Int) < ((obj2 l k).size : Int)) = false := by simpa using hd
              by_cases hk0 : 0 < k
              · obtain ⟨p, hp1, hp2⟩ : ∃ p : Nat, (k : Int) - 1 = (p : Int) ∧ p + 1 = k := ⟨k - 1, by omega, by omega⟩
                have d0 := (HBK.out.cell (p := ⟨b, off + p * 3, none⟩) HBB.out).trans (HC.out p (by omega)).1
                have e0 := (HW.out.1.box.al (.cells #[.string (obj0 l k), .int .i64 (obj1 l k), .string (obj2 l k)] 35)).cell (j := 0) (by simp)
                simp at e0
                have hm0 : (0 : Int) ≤ (p : Int) := by omega
                have hmn : (p : Int) < (la : Int) := by omega
                have hg1 : decide ((0 : Int) < (k : Int)) = true := by simp; omega
                cases hlt2 : Op.bytesLess (obj0 l p).toList (obj0 l k).toList with
                | false =>
                  have HN := Lib.hid (sto_not_oinc (m := m) (k := p) (by rw [hp2]; exact hkl) (by rw [hp2]; exact hlt2))
                  go_wp2_with fail
                  have hw1 : IntKind.i64.wrap (p : Int) = (p : Int) := IntWalk.i64_in _ (by omega)
                  have HP2 := Lib.hid hp2
                  clear hp2
                  go_quiet ((first | (go_at_call 31; exact same_quiet (l7key_any _ _ HSZ.out) HK.out) | (go_at_call 36; exact same_quiet (l7ver_any _ _) HV.out)))
                  clear hw1
                  go_wp2
                  go_ret
                  exact says_no HN.out (below_drewN HBK.out _)
                | true =>
                  have HSN := Lib.hid (show SeenO l (k + 1) from fun j hj => by
                    rcases Nat.lt_or_ge j k with h | h
                    · exact HW.out.2 j h
                    · obtain rfl : j = k := by omega
                      exact ⟨HOK.out, fun _ => by rw [show j - 1 = p by omega]; exact (bltIff _ _).1 hlt2⟩)
                  go_wp2_with fail
                  have hw1 : IntKind.i64.wrap (p : Int) = (p : Int) := IntWalk.i64_in _ (by omega)
                  have HP2 := Lib.hid hp2
                  clear hp2
                  go_quiet ((first | (go_at_call 31; exact same_quiet (l7key_any _ _ HSZ.out) HK.out) | (go_at_call 36; exact same_quiet (l7ver_any _ _) HV.out)))
                  clear hw1
                  go_wp2
                  go_roundw
                  case rel => exact ⟨k + 1, by omega, by go_num, ⟨below_drewN HBK.out _, (HW.out.1.box.al _).keep (below_drewN (Below.refl _ _) _)⟩, HSN.out⟩
                  case measure => simp [intOf]; omega
              · have HSN := Lib.hid (show SeenO l (k + 1) from fun j hj => by
                  rcases Nat.lt_or_ge j k with h | h
                  · exact HW.out.2 j h
                  · obtain rfl : j = k := by omega
                    exact ⟨HOK.out, fun h => by omega⟩)
                have hg1 : decide ((0 : Int) < (k : Int)) = false := by simp; omega
                have hg2 : decide (0 < k) = false := by simp; omega
                go_wp2_with fail
                go_quiet ((first | (go_at_call 31; exact same_quiet (l7key_any _ _ HSZ.out) HK.out) | (go_at_call 36; exact same_quiet (l7ver_any _ _) HV.out)))
                go_wp2
                go_roundw
                case rel => exact ⟨k + 1, by omega, by go_num, ⟨below_drewN HBK.out _, (HW.out.1.box.al _).keep (below_drewN (Below.refl _ _) _)⟩, HSN.out⟩
                case measure => simp [intOf]; omega
    · obtain rfl : k = la := by omega
      have HSO := Lib.hid (show SeenO l l.length by rw [HL.out]; exact HW.out.2)
      go_wp2
      have HWB := Lib.hid HW.out.1
      clear HW b0 b1
      go_loopw [5, 6, 7, 8] (fun i o x y wr => ∃ j : Nat, j ≤ lg ∧ i = .int .i64 j ∧ Hid (GD w #[.slice a k ca, .slice g lg cg] wr ∧ SeenG l m j)) (fun i _ _ _ _ => lg - (intOf i).toNat)
      case atStart => exact ⟨0, Nat.zero_le _, rfl, HWB.out, fun j hj => by omega⟩
      case round =>
        obtain ⟨j, hj, rfl, HW⟩ := hrel
        clear HWB
        have b0 := HW.out.1.box.cell (j := 0) (by simp)
        have b1 := HW.out.1.box.cell (j := 1) (by simp)
        simp at b0 b1
        by_cases hlt : j < lg
        · rcases HS.out.d.src with hz | ⟨b, off, rfl, hb, hc⟩
          · omega
          · have c0 := (HW.out.1.below.cell (p := ⟨b, off + j * 2, none⟩) hb).trans (hc j hlt).1
            have c1 := (HW.out.1.below.cell (p := ⟨b, off + j * 2 + 1, none⟩) hb).trans (hc j hlt).2
            have hi1 : (j : Int) < (lg : Int) := by omega
            have hi0 : (0 : Int) ≤ (j : Int) := by omega
            have HSZ := Lib.hid (HS.out.d.keys j hlt)
            have hkl : j < m.length := by rw [HLG.out]; exact hlt
            have HBK := Lib.hid (below_alloc HW.out.1.below (.cells #[.string (gone0 m j), .int .i64 (gone1 m j)] 57))
            have HC := Lib.hid hc
            have HBB := Lib.hid hb
            clear hc hb
            cases hkey : keyB (gone0 m j) with
            | false =>
              have HN := Lib.hid (sto_not_gon (l := l) hkl (fun h => by rw [h.1] at hkey; cases hkey))
              have HK := Lib.hid hkey
              clear hkey
              go_wp2_with fail
              go_quiet ((go_at_call 31; exact same_quiet (l7key_any _ _ HSZ.out) HK.out))
              go_wp2
              go_ret
              exact says_no HN.out (below_drewN HBK.out _)
            | true =>
              have HK := Lib.hid hkey
              cases hver : inB (gone1 m j) 1 1000000 with
              | false =>
                have HN := Lib.hid (sto_not_gon (l := l) hkl (fun h => by rw [h.2] at hver; cases hver))
                have HV := Lib.hid hver
                clear hkey hver
                go_wp2_with fail
                go_quiet ((first | (go_at_call 31; exact same_quiet (l7key_any _ _ HSZ.out) HK.out) | (go_at_call 36; exact same_quiet (l7ver_any _ _) HV.out)))
                go_wp2
                go_ret
                exact says_no HN.out (below_drewN HBK.out _)
              | true =>
                have HV := Lib.hid hver
                have HOK := Lib.hid (show gonOk m j from ⟨hkey, hver⟩)
                clear hkey hver
                have e0 := (HW.out.1.box.al (.cells #[.string (gone0 m j), .int .i64 (gone1 m j)] 57)).cell (j := 0) (by simp)
                have e1 := (HW.out.1.box.al (.cells #[.string (gone0 m j), .int .i64 (gone1 m j)] 57)).cell (j := 1) (by simp)
                simp at e0 e1
                by_cases hk0 : 0 < j
                · obtain ⟨p, hp1, hp2⟩ : ∃ p : Nat, (j : Int) - 1 = (p : Int) ∧ p + 1 = j := ⟨j - 1, by omega, by omega⟩
                  have d0 := (HBK.out.cell (p := ⟨b, off + p * 2, none⟩) HBB.out).trans (HC.out p (by omega)).1
                  have hm0 : (0 : Int) ≤ (p : Int) := by omega
                  have hmn : (p : Int) < (lg : Int) := by omega
                  have hg1 : decide ((0 : Int) < (j : Int)) = true := by simp; omega
                  cases hlt2 : Op.bytesLess (gone0 m p).toList (gone0 m j).toList with
                  | false =>
                    have HN := Lib.hid (sto_not_ginc (l := l) (k := p) (by rw [hp2]; exact hkl) (by rw [hp2]; exact hlt2))
                    go_wp2_with fail
                    have hw1 : IntKind.i64.wrap (p : Int) = (p : Int) := IntWalk.i64_in _ (by omega)
                    have HP2 := Lib.hid hp2
                    clear hp2
                    go_quiet ((first | (go_at_call 31; exact same_quiet (l7key_any _ _ HSZ.out) HK.out) | (go_at_call 36; exact same_quiet (l7ver_any _ _) HV.out)))
                    clear hw1
                    go_wp2
                    go_ret
                    exact says_no HN.out (below_drewN HBK.out _)
                  | true =>
                    have HLT := Lib.hid (show 0 < j → (gone0 m (j - 1)).toList < (gone0 m j).toList from fun _ => by rw [show j - 1 = p by omega]; exact (bltIff _ _).1 hlt2)
                    cases his : isT (okeys l) (gone0 m j) with
                    | true =>
                      have HN := Lib.hid (sto_not_apart hkl his)
                      have HIS := Lib.hid his
                      clear his
                      go_wp2_with fail
                      have hw1 : IntKind.i64.wrap (p : Int) = (p : Int) := IntWalk.i64_in _ (by omega)
                      have HP2 := Lib.hid hp2
                      clear hp2
                      go_quiet ((first | (go_at_call 31; exact same_quiet (l7key_any _ _ HSZ.out) HK.out) | (go_at_call 36; exact same_quiet (l7ver_any _ _) HV.out)))
                      clear hw1 hp1 hlt2
                      go_wp2_with (go_at_call 37; refine (l7find_is (g := some ⟨b, off, none⟩) (HS.out.keep (below_drewN HBK.out _)) HIS.out).mono ?_; rintro e w3 ⟨rfl, hB⟩; have HB3 := Lib.hid (below_via (below_drewN HBK.out _) hB); clear hB)
                      go_ret
                      exact says_no HN.out HB3.out
                    | false =>
                      have HSN := Lib.hid (show SeenG l m (j + 1) from fun i hi => by
                        rcases Nat.lt_or_ge i j with h | h
                        · exact HW.out.2 i h
                        · obtain rfl : i = j := by omega
                          exact ⟨HOK.out, HLT.out, his⟩)
                      have HIS := Lib.hid his
                      clear his
                      go_wp2_with fail
                      have hw1 : IntKind.i64.wrap (p : Int) = (p : Int) := IntWalk.i64_in _ (by omega)
                      have HP2 := Lib.hid hp2
                      clear hp2
                      go_quiet ((first | (go_at_call 31; exact same_quiet (l7key_any _ _ HSZ.out) HK.out) | (go_at_call 36; exact same_quiet (l7ver_any _ _) HV.out)))
                      clear hw1 hp1 hlt2
                      go_wp2_with (go_at_call 37; refine (l7find_is (g := some ⟨b, off, none⟩) (HS.out.keep (below_drewN HBK.out _)) HIS.out).mono ?_; rintro e w3 ⟨rfl, hB⟩; have HB3 := Lib.hid (below_via (below_drewN HBK.out _) hB); have HX3 := Lib.hid (((HW.out.1.box.al (.cells #[.string (gone0 m j), .int .i64 (gone1 m j)] 57)).keep (below_drewN (Below.refl _ _) _)).keep hB); clear hB)
                      go_roundw
                      case rel => exact ⟨j + 1, by omega, by go_num, ⟨HB3.out, HX3.out⟩, HSN.out⟩
                      case measure => simp [intOf]; omega
                · have hg1 : decide ((0 : Int) < (j : Int)) = false := by simp; omega
                  have hg2 : decide (0 < j) = false := by simp; omega
                  cases his : isT (okeys l) (gone0 m j) with
                  | true =>
                    have HN := Lib.hid (sto_not_apart hkl his)
                    have HIS := Lib.hid his
                    clear his
                    go_wp2_with fail
                    go_quiet ((first | (go_at_call 31; exact same_quiet (l7key_any _ _ HSZ.out) HK.out) | (go_at_call 36; exact same_quiet (l7ver_any _ _) HV.out)))
                    go_wp2_with (go_at_call 37; refine (l7find_is (g := some ⟨b, off, none⟩) (HS.out.keep (below_drewN HBK.out _)) HIS.out).mono ?_; rintro e w3 ⟨rfl, hB⟩; have HB3 := Lib.hid (below_via (below_drewN HBK.out _) hB); clear hB)
                    go_ret
                    exact says_no HN.out HB3.out
                  | false =>
                    have HSN := Lib.hid (show SeenG l m (j + 1) from fun i hi => by
                      rcases Nat.lt_or_ge i j with h | h
                      · exact HW.out.2 i h
                      · obtain rfl : i = j := by omega
                        exact ⟨HOK.out, fun h => absurd h hk0, his⟩)
                    have HIS := Lib.hid his
                    clear his
                    go_wp2_with fail
                    go_quiet ((first | (go_at_call 31; exact same_quiet (l7key_any _ _ HSZ.out) HK.out) | (go_at_call 36; exact same_quiet (l7ver_any _ _) HV.out)))
                    go_wp2_with (go_at_call 37; refine (l7find_is (g := some ⟨b, off, none⟩) (HS.out.keep (below_drewN HBK.out _)) HIS.out).mono ?_; rintro e w3 ⟨rfl, hB⟩; have HB3 := Lib.hid (below_via (below_drewN HBK.out _) hB); have HX3 := Lib.hid (((HW.out.1.box.al (.cells #[.string (gone0 m j), .int .i64 (gone1 m j)] 57)).keep (below_drewN (Below.refl _ _) _)).keep hB); clear hB)
                    go_roundw
                    case rel => exact ⟨j + 1, by omega, by go_num, ⟨HB3.out, HX3.out⟩, HSN.out⟩
                    case measure => simp [intOf]; omega
        · obtain rfl : j = lg := by omega
          have HY := Lib.hid (show StoP l m from sto_seen (by rw [HL.out, HLG.out]; omega) HSO.out (by rw [HLG.out]; exact HW.out.2))
          go_wp2
          go_ret
          exact says_yes HY.out HW.out.1.below
end Go.Proofs.YtblpebdjbenphaaDoor
