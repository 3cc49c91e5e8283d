/- Texts put together, as a claim holds at most sixty files. -/
import Derived.Test.YtblpebdjbenphaaGreatDoorMg7
import Derived.Test.YtblpebdjbenphaaGreatDoorMg2
namespace Go.Proofs.YtblpebdjbenphaaGreatDoor
open Go.ChangeShapes Go.WideShapes Go.ChangeAt Go.RowKit
set_option linter.unusedVariables false
set_option maxRecDepth 100000

theorem bltIff (x y : List UInt8) : Op.bytesLess x y = true ↔ x < y := by
  induction x generalizing y with
  | nil => cases y <;> simp [Op.bytesLess]
  | cons a x ih =>
    cases y with
    | nil => simp [Op.bytesLess]
    | cons b y =>
      rw [List.cons_lt_cons_iff, ← ih y]
      rw [show Op.bytesLess (a :: x) (b :: y) = (decide (a < b) || a == b && Op.bytesLess x y) from rfl]
      by_cases h1 : a < b
      · simp [h1]
      · by_cases h2 : a = b
        · subst h2; simp
        · simp [h1, h2]

abbrev Txts := List ByteArray
def ltT (s u : ByteArray) : Bool := Op.bytesLess s.toList u.toList
theorem ltT_iff {s u : ByteArray} : ltT s u = true ↔ s.toList < u.toList := bltIff _ _
def leT (a b : ByteArray) : Bool := !ltT b a
theorem leT_iff {a b : ByteArray} : leT a b = true ↔ ¬ b.toList < a.toList := by unfold leT; rw [Bool.not_eq_true', ← Bool.not_eq_true, ltT_iff]
def mergeT (l k : Txts) : Txts := List.merge l k leT
theorem mergeT_b {W A B : Txts} {x y : ByteArray} (h : ltT y x = true) : W ++ mergeT (x :: A) (y :: B) = (W ++ [y]) ++ mergeT (x :: A) B := by
  have h' : leT x y = false := by unfold leT; rw [h]; rfl
  unfold mergeT
  rw [List.cons_merge_cons, h', if_neg (by simp), List.append_assoc]; rfl
theorem mergeT_a {W A B : Txts} {x y : ByteArray} (h : ltT y x = false) : W ++ mergeT (x :: A) (y :: B) = (W ++ [x]) ++ mergeT A (y :: B) := by
  have h' : leT x y = true := by unfold leT; rw [h]; rfl
  unfold mergeT
  rw [List.cons_merge_cons, h', if_pos rfl, List.append_assoc]; rfl
theorem mergeT_nil {A B : Txts} (h : A = [] ∨ B = []) : mergeT A B = A ++ B := by
  unfold mergeT
  rcases h with rfl | rfl
  · rw [List.nil_merge]; rfl
  · rw [List.merge_right, List.append_nil]
theorem mergeT_len (l k : Txts) : (mergeT l k).length = l.length + k.length := by
  have := (List.merge_perm_append leT (xs := l) (ys := k)).length_eq
  rw [List.length_append] at this
  exact this
theorem mergeT_mem (l k : Txts) (x : ByteArray) : x ∈ mergeT l k ↔ x ∈ l ∨ x ∈ k := by
  show x ∈ List.merge l k leT ↔ _
  rw [(List.merge_perm_append leT (xs := l) (ys := k)).mem_iff, List.mem_append]

/-- Strictly increasing. -/
def IncT (l : Txts) : Prop := l.Pairwise (fun a b => a.toList < b.toList)
theorem inc_cons {x : ByteArray} {l : Txts} : IncT (x :: l) ↔ (∀ y ∈ l, x.toList < y.toList) ∧ IncT l := List.pairwise_cons
theorem inc_merge : ∀ (n : Nat) (l k : Txts), l.length + k.length ≤ n → (IncT (mergeT l k) ↔ IncT l ∧ IncT k ∧ ∀ a ∈ l, ∀ b ∈ k, a.toList ≠ b.toList) := by
  intro n
  induction n with
  | zero =>
    intro l k h
    obtain rfl : l = [] := List.length_eq_zero_iff.1 (by omega)
    obtain rfl : k = [] := List.length_eq_zero_iff.1 (by omega)
    rw [mergeT_nil (.inl rfl)]
    simp [IncT]
  | succ n ih =>
    intro l k h
    cases l with
    | nil =>
      rw [mergeT_nil (.inl rfl)]
      simp [IncT]
    | cons x A =>
      cases k with
      | nil =>
        rw [mergeT_nil (.inr rfl), List.append_nil]
        simp [IncT]
      | cons y B =>
        simp only [List.length_cons] at h
        cases hxy : ltT y x with
        | true =>
          have e := mergeT_b (W := []) (A := A) (B := B) hxy
          simp only [List.nil_append, List.singleton_append] at e
          rw [e, inc_cons, ih _ _ (by simp only [List.length_cons]; omega), inc_cons, inc_cons]
          have hyx := ltT_iff.1 hxy
          constructor
          · rintro ⟨h1, ⟨h2, h3⟩, h4, h5⟩
            refine ⟨⟨h2, h3⟩, ⟨fun b hb => h1 b ((mergeT_mem _ _ _).2 (.inr hb)), h4⟩, ?_⟩
            intro a ha b hb
            rcases List.mem_cons.1 hb with rfl | hb
            · have := h1 a ((mergeT_mem _ _ _).2 (.inl ha))
              intro he
              rw [he] at this
              exact List.lt_irrefl _ this
            · exact h5 a ha b hb
          · rintro ⟨⟨h2, h3⟩, ⟨h4, h5⟩, h6⟩
            refine ⟨?_, ⟨h2, h3⟩, h5, fun a ha b hb => h6 a ha b (List.mem_cons_of_mem _ hb)⟩
            intro b hb
            rcases (mergeT_mem _ _ _).1 hb with hb | hb
            · rcases List.mem_cons.1 hb with rfl | hb
              · exact hyx
              · exact List.lt_trans hyx (h2 b hb)
            · exact h4 b hb
        | false =>
          have e := mergeT_a (W := []) (A := A) (B := B) hxy
          simp only [List.nil_append, List.singleton_append] at e
          rw [e, inc_cons, ih _ _ (by simp only [List.length_cons]; omega), inc_cons, inc_cons]
          have hyx : ¬ y.toList < x.toList := by rw [← ltT_iff, hxy]; simp
          constructor
          · rintro ⟨h1, h2, ⟨h3, h4⟩, h5⟩
            refine ⟨⟨fun a ha => h1 a ((mergeT_mem _ _ _).2 (.inl ha)), h2⟩, ⟨h3, h4⟩, ?_⟩
            intro a ha b hb
            rcases List.mem_cons.1 ha with rfl | ha
            · have := h1 b ((mergeT_mem _ _ _).2 (.inr hb))
              intro he
              rw [he] at this
              exact List.lt_irrefl _ this
            · exact h5 a ha b hb
          · rintro ⟨⟨h1, h2⟩, ⟨h3, h4⟩, h5⟩
            have hlt : x.toList < y.toList := by
              by_cases hl : x.toList < y.toList
              · exact hl
              · exact absurd (List.le_antisymm hyx hl) (h5 x (List.mem_cons_self ..) y (List.mem_cons_self ..))
            refine ⟨?_, h2, ⟨h3, h4⟩, fun a ha b hb => h5 a (List.mem_cons_of_mem _ ha) b hb⟩
            intro b hb
            rcases (mergeT_mem _ _ _).1 hb with hb | hb
            · exact h1 b hb
            · rcases List.mem_cons.1 hb with rfl | hb
              · exact hlt
              · exact List.lt_trans hlt (h3 b hb)

def txt (l : Txts) (i : Nat) : ByteArray := l.getD i ByteArray.empty
theorem txt_get (l : Txts) (i : Nat) (h : i < l.length) : l[i] = txt l i := by unfold txt; rw [List.getD_eq_getElem?_getD, List.getElem?_eq_getElem h]; rfl
/-- Neighbours in order: all in order. -/
theorem inc_adj : ∀ {l : Txts}, (∀ i, i + 1 < l.length → (txt l i).toList < (txt l (i + 1)).toList) → IncT l
  | [], _ => List.Pairwise.nil
  | [x], _ => List.pairwise_singleton _ _
  | x :: y :: t, h => by
    have ih : IncT (y :: t) := inc_adj (fun i hi => by
      have := h (i + 1) (by simpa using hi)
      simpa [txt] using this)
    have h0 : x.toList < y.toList := by
      have := h 0 (by simp)
      simpa [txt] using this
    refine inc_cons.2 ⟨fun z hz => ?_, ih⟩
    rcases List.mem_cons.1 hz with rfl | hz
    · exact h0
    · exact List.lt_trans h0 ((inc_cons.1 ih).1 z hz)
theorem inc_at {l : Txts} (h : IncT l) {i j : Nat} (hij : i < j) (hj : j < l.length) : (txt l i).toList < (txt l j).toList := by
  have := List.pairwise_iff_getElem.1 h i j (by omega) hj hij
  rw [txt_get _ _ (by omega), txt_get _ _ hj] at this
  exact this
theorem inc_not {l : Txts} {i : Nat} (hi : i + 1 < l.length) (h : ltT (txt l i) (txt l (i + 1)) = false) : ¬ IncT l := fun hl => by
  have := inc_at hl (Nat.lt_succ_self i) hi
  rw [← ltT_iff, h] at this
  cases this

/-- Where a text stands in a list that is in order, or would stand. -/
def posT (l : Txts) (key : ByteArray) : Nat := (l.takeWhile (ltT · key)).length
def isT (l : Txts) (key : ByteArray) : Bool := decide (posT l key < l.length) && (txt l (posT l key)).toList == key.toList
theorem posT_le (l : Txts) (key : ByteArray) : posT l key ≤ l.length := (List.takeWhile_prefix _).length_le
theorem posT_eq : ∀ {l : Txts} {key : ByteArray} {k : Nat}, k ≤ l.length → (∀ j, j < k → ltT (txt l j) key = true) → (k < l.length → ltT (txt l k) key = false) → posT l key = k
  | [], key, k, hk, _, _ => by
    have : k = 0 := by simpa using hk
    subst this; rfl
  | x :: t, key, 0, hk, _, h2 => by
    have : ltT x key = false := h2 (by simp)
    unfold posT
    rw [List.takeWhile_cons, this]; rfl
  | x :: t, key, k + 1, hk, h1, h2 => by
    have h0 : ltT x key = true := h1 0 (by omega)
    have ih := posT_eq (l := t) (key := key) (k := k) (by simpa using hk) (fun j hj => h1 (j + 1) (by omega)) (fun hl => h2 (by simpa using hl))
    unfold posT at ih ⊢
    rw [List.takeWhile_cons, h0]
    simp [ih]
theorem posT_before : ∀ {l : Txts} {key : ByteArray} {j : Nat}, j < posT l key → ltT (txt l j) key = true
  | [], key, j, h => by simp [posT] at h
  | x :: t, key, j, h => by
    unfold posT at h
    rw [List.takeWhile_cons] at h
    cases hx : ltT x key with
    | false => rw [hx] at h; simp at h
    | true =>
      rw [hx] at h
      simp at h
      cases j with
      | zero => exact hx
      | succ j => exact posT_before (l := t) (by unfold posT; omega)
theorem posT_at : ∀ {l : Txts} {key : ByteArray}, posT l key < l.length → ltT (txt l (posT l key)) key = false
  | [], key, h => by simp at h
  | x :: t, key, h => by
    cases hx : ltT x key with
    | false =>
      have : posT (x :: t) key = 0 := by unfold posT; rw [List.takeWhile_cons, hx]; rfl
      rw [this]; exact hx
    | true =>
      have e : posT (x :: t) key = posT t key + 1 := by unfold posT; rw [List.takeWhile_cons, hx]; rfl
      rw [e] at h ⊢
      exact posT_at (l := t) (by simpa using h)
theorem isT_iff {l : Txts} {key : ByteArray} (h : IncT l) : isT l key = true ↔ ∃ s ∈ l, s.toList = key.toList := by
  unfold isT
  rw [Bool.and_eq_true, decide_eq_true_eq, beq_iff_eq]
  constructor
  · rintro ⟨h1, h2⟩
    refine ⟨txt l (posT l key), ?_, h2⟩
    rw [← txt_get l _ h1]
    exact List.getElem_mem _
  · rintro ⟨s, hs, he⟩
    obtain ⟨i, hi, rfl⟩ := List.getElem_of_mem hs
    rw [txt_get _ _ hi] at he
    have hp : posT l key = i := posT_eq (by omega) (fun j hj => by rw [ltT_iff, ← he]; exact inc_at h hj hi) (fun _ => by
      rw [← Bool.not_eq_true, ltT_iff, he]; exact List.lt_irrefl _)
    rw [hp]
    exact ⟨hi, he⟩

def okeys (l : Objs) : Txts := l.map (·.1)
def gkeys (m : Gones) : Txts := m.map (·.1)
theorem okeys_len (l : Objs) : (okeys l).length = l.length := by unfold okeys; simp
theorem gkeys_len (m : Gones) : (gkeys m).length = m.length := by unfold gkeys; simp
theorem okeys_at (l : Objs) (i : Nat) : txt (okeys l) i = obj0 l i := by
  unfold txt okeys obj0
  rw [List.getD_eq_getElem?_getD, List.getD_eq_getElem?_getD, List.getElem?_map]
  cases l[i]? <;> rfl
theorem gkeys_at (m : Gones) (i : Nat) : txt (gkeys m) i = gone0 m i := by
  unfold txt gkeys gone0
  rw [List.getD_eq_getElem?_getD, List.getD_eq_getElem?_getD, List.getElem?_map]
  cases m[i]? <;> rfl

def objOk (l : Objs) (i : Nat) : Prop := keyB (obj0 l i) = true ∧ inB (obj1 l i) 1 1000000 = true ∧ (obj2 l i).size ≤ 30000
def gonOk (m : Gones) (i : Nat) : Prop := keyB (gone0 m i) = true ∧ inB (gone1 m i) 1 1000000 = true
/-- A valid store. -/
structure StoP (l : Objs) (m : Gones) : Prop where
  few : l.length + m.length ≤ 1100
  objs : ∀ i, i < l.length → objOk l i
  gons : ∀ i, i < m.length → gonOk m i
  oinc : IncT (okeys l)
  ginc : IncT (gkeys m)
  apart : ∀ a ∈ okeys l, ∀ b ∈ gkeys m, a.toList ≠ b.toList
/-- A bool that says whether p. -/
def SaysB (p : Prop) (w : World) (e : Ending) (w' : World) : Prop := ∃ b : Bool, e = .returned (.bool b) ∧ (b = true ↔ p) ∧ Below w.heap.size w w'
end Go.Proofs.YtblpebdjbenphaaGreatDoor
namespace Go.Proofs.YtblpebdjbenphaaGreatDoor
open Go.ChangeShapes Go.WideShapes Go.ChangeAt Go.RowKit
set_option linter.unusedVariables false
set_option maxRecDepth 100000

def sameT (s u : ByteArray) : Bool := s.toList == u.toList
def getAux (key : ByteArray) : Objs → (ByteArray × Int × ByteArray) × Bool
  | [] => ((⟨#[]⟩, 0, ⟨#[]⟩), false)
  | r :: t => if sameT r.1 key then (r, true) else getAux key t
theorem getAux_hit (key : ByteArray) : ∀ (l : Objs) (k : Nat), k < l.length → (∀ j, j < k → sameT (obj0 l j) key = false) → sameT (obj0 l k) key = true → getAux key l = ((obj0 l k, obj1 l k, obj2 l k), true)
  | [], k, hk, _, _ => by simp at hk
  | r :: t, 0, _, _, h => by
    have h' : sameT r.1 key = true := h
    unfold getAux; rw [if_pos h']; rfl
  | r :: t, k + 1, hk, hb, h => by
    have h' : sameT r.1 key = false := hb 0 (by omega)
    unfold getAux
    rw [if_neg (by rw [h']; simp)]
    exact getAux_hit key t k (by simpa using hk) (fun j hj => hb (j + 1) (by omega)) h
theorem getAux_none (key : ByteArray) : ∀ (l : Objs), (∀ j, j < l.length → sameT (obj0 l j) key = false) → getAux key l = ((⟨#[]⟩, 0, ⟨#[]⟩), false)
  | [], _ => rfl
  | r :: t, hb => by
    have h' : sameT r.1 key = false := hb 0 (by simp)
    unfold getAux
    rw [if_neg (by rw [h']; simp)]
    exact getAux_none key t (fun j hj => hb (j + 1) (by simpa using hj))
def goneAux (key : ByteArray) : Gones → Int
  | [] => 0
  | r :: t => if sameT r.1 key then r.2 else goneAux key t
theorem goneAux_hit (key : ByteArray) : ∀ (l : Gones) (k : Nat), k < l.length → (∀ j, j < k → sameT (gone0 l j) key = false) → sameT (gone0 l k) key = true → goneAux key l = gone1 l k
  | [], k, hk, _, _ => by simp at hk
  | r :: t, 0, _, _, h => by
    have h' : sameT r.1 key = true := h
    unfold goneAux; rw [if_pos h']; rfl
  | r :: t, k + 1, hk, hb, h => by
    have h' : sameT r.1 key = false := hb 0 (by omega)
    unfold goneAux
    rw [if_neg (by rw [h']; simp)]
    exact goneAux_hit key t k (by simpa using hk) (fun j hj => hb (j + 1) (by omega)) h
theorem goneAux_none (key : ByteArray) : ∀ (l : Gones), (∀ j, j < l.length → sameT (gone0 l j) key = false) → goneAux key l = 0
  | [], _ => rfl
  | r :: t, hb => by
    have h' : sameT r.1 key = false := hb 0 (by simp)
    unfold goneAux
    rw [if_neg (by rw [h']; simp)]
    exact goneAux_none key t (fun j hj => hb (j + 1) (by simpa using hj))
def verB (key : ByteArray) (l : Objs) (m : Gones) : Int := if (getAux key l).2 then (getAux key l).1.2.1 else goneAux key m

theorem row_new (w : World) (cur : Array Value) (T : TypeId) : Row (w.alloc (.cells cur T)) w.heap.size T cur := by
  have := heap_alloc_new w (.cells cur T)
  simpa [Row] using this
theorem row_new1 (w : World) (o : Obj) (cur : Array Value) (T : TypeId) : Row ((w.alloc o).alloc (.cells cur T)) (w.heap.size + 1) T cur := by
  have := row_new (w.alloc o) cur T
  simpa using this
theorem Row.al {w : World} {B : Nat} {E : TypeId} {cur : Array Value} (h : Row w B E cur) (o : Obj) : Row (w.alloc o) B E cur := h.keep (below_alloc (Below.refl _ _) _)

def MadeGet (p : (ByteArray × Int × ByteArray) × Bool) (w : World) (e : Ending) (w' : World) : Prop := e = .returned (.tuple #[.agg #[.string p.1.1, .int .i64 p.1.2.1, .string p.1.2.2], .bool p.2]) ∧ Below w.heap.size w w'
structure GC (w : World) (bx rs : Array Value) (wr : World) : Prop where
  below : Below w.heap.size w wr
  box : Row wr w.heap.size 27 bx
  res : Row wr (w.heap.size + 1) 34 rs
theorem GC.al {w wr : World} {bx rs : Array Value} (h : GC w bx rs wr) (o : Obj) : GC w bx rs (wr.alloc o) := ⟨below_alloc h.below _, h.box.al o, h.res.al o⟩
theorem ret_get {s d : ByteArray} {v : Int} {b : Bool} {p : (ByteArray × Int × ByteArray) × Bool} (h : p = ((s, v, d), b)) : Ending.returned (.tuple #[.agg #[.string s, .int .i64 v, .string d], .bool b]) = .returned (.tuple #[.agg #[.string p.1.1, .int .i64 p.1.2.1, .string p.1.2.2], .bool p.2]) := by rw [h]

set_option maxHeartbeats 1000000 in
theorem get_any (a g : Option Addr) (la ca lg cg : Nat) (l : Objs) (m : Gones) (key : ByteArray) (w : World) (h : StoAt w a la l g lg m) :
    Calls Tryz.prog 10 #[.agg #[.slice a la ca, .slice g lg cg], .string key] w (MadeGet (getAux key l) w) := by
  have hm := h.o.max
  unfold maxLen at hm
  have HS := Lib.hid h
  have HL := Lib.hid h.o.length
  clear h
  go_enter Tryz.func10, Tryz.ntmps10
  go_wp2
  go_loopw [11] (fun i wr => ∃ k : Nat, k ≤ la ∧ i = .int .i64 k ∧ Hid (GC w #[.slice a la ca, .slice g lg cg] #[.string ByteArray.empty, .int .i64 0, .string ByteArray.empty] wr ∧ ∀ j, j < k → sameT (obj0 l j) key = false)) (fun i _ => la - (intOf i).toNat)
  case atStart => exact ⟨0, Nat.zero_le _, rfl, ⟨below_alloc (below_alloc (Below.refl _ _) _) _, (row_new _ _ _).al _, row_new1 _ _ _ _⟩, fun j hj => by omega⟩
  case round =>
    obtain ⟨k, hk, rfl, HW⟩ := hrel
    have r0 := HW.out.1.res.cell (j := 0) (by simp)
    have r1 := HW.out.1.res.cell (j := 1) (by simp)
    have r2 := HW.out.1.res.cell (j := 2) (by simp)
    have f0 := HW.out.1.res.free 0
    have f1 := HW.out.1.res.free 1
    have f2 := HW.out.1.res.free 2
    have hz := HW.out.1.res.lt
    simp at r0 r1 r2
    by_cases hlt : k < la
    · rcases HS.out.o.src with hz | ⟨b, off, rfl, hb, hc⟩
      · omega
      · have c0 := (HW.out.1.below.cell (p := ⟨b, off + k * 3, none⟩) hb).trans (hc k hlt).1
        have c1 := (HW.out.1.below.cell (p := ⟨b, off + k * 3 + 1, none⟩) hb).trans (hc k hlt).2.1
        have c2 := (HW.out.1.below.cell (p := ⟨b, off + k * 3 + 2, none⟩) hb).trans (hc k hlt).2.2
        clear hc hb
        cases hsk : sameT (obj0 l k) key with
        | true =>
          have HQ := Lib.hid (getAux_hit key l k (by rw [HL.out]; exact hlt) HW.out.2 hsk)
          have hs2 : ((obj0 l k).toList == key.toList) = true := hsk
          clear hsk
          go_wp2
          have hb := (((HW.out.1.res.set 0 (.string (obj0 l k))).set 1 (.int .i64 (obj1 l k))).set 2 (.string (obj2 l k))).al (.cells #[.string (obj0 l k), .int .i64 (obj1 l k), .string (obj2 l k)] 34)
          unfold Row at hb
          exact bodyPost_ret (v := .tuple #[.agg #[.string (obj0 l k), .int .i64 (obj1 l k), .string (obj2 l k)], .bool true]) (by simp [results, Tryz.results10, go_sem, World.cell?, hb]) rfl ⟨ret_get HQ.out, below_alloc (((HW.out.1.below.setCell (by show w.heap.size ≤ w.heap.size + 1; omega) _).setCell (by show w.heap.size ≤ w.heap.size + 1; omega) _).setCell (by show w.heap.size ≤ w.heap.size + 1; omega) _) _⟩
        | false =>
          have HQ := Lib.hid hsk
          have hs2 : ((obj0 l k).toList == key.toList) = false := hsk
          clear hsk
          go_wp2
          go_roundw
          case rel => exact ⟨k + 1, by omega, by go_num, HW.out.1.al _, fun j hj => by
            rcases Nat.lt_or_ge j k with h | h
            · exact HW.out.2 j h
            · obtain rfl : j = k := by omega
              exact HQ.out⟩
          case measure => simp [intOf]; omega
    · obtain rfl : k = la := by omega
      have HQ := Lib.hid (getAux_none key l (by rw [HL.out]; exact HW.out.2))
      go_wp2
      have hb := ((HW.out.1.res.set 0 (.string ⟨#[]⟩)).set 1 (.int .i64 0)).set 2 (.string ⟨#[]⟩)
      unfold Row at hb
      exact bodyPost_ret (v := .tuple #[.agg #[.string ⟨#[]⟩, .int .i64 0, .string ⟨#[]⟩], .bool false]) (by simp [results, Tryz.results10, go_sem, World.cell?, hb]) rfl ⟨ret_get HQ.out, ((HW.out.1.below.setCell (by show w.heap.size ≤ w.heap.size + 1; omega) _).setCell (by show w.heap.size ≤ w.heap.size + 1; omega) _).setCell (by show w.heap.size ≤ w.heap.size + 1; omega) _⟩

structure GD (w : World) (bx : Array Value) (wr : World) : Prop where
  below : Below w.heap.size w wr
  box : Row wr w.heap.size 27 bx

theorem ver_yes {key : ByteArray} {l : Objs} {m : Gones} {q : (ByteArray × Int × ByteArray) × Bool} (h : getAux key l = q) (hb : q.2 = true) : verB key l m = q.1.2.1 := by unfold verB; rw [h, hb]; rfl
theorem ver_no {key : ByteArray} {l : Objs} {m : Gones} {q : (ByteArray × Int × ByteArray) × Bool} (h : getAux key l = q) (hb : q.2 = false) : verB key l m = goneAux key m := by unfold verB; rw [h, hb]; rfl

set_option maxHeartbeats 1000000 in
theorem ver_any (a g : Option Addr) (la ca lg cg : Nat) (l : Objs) (m : Gones) (key : ByteArray) (w : World) (h : StoAt w a la l g lg m) :
    Calls Tryz.prog 12 #[.agg #[.slice a la ca, .slice g lg cg], .string key] w (MadeInt (verB key l m) w) := by
  have hm := h.d.max
  unfold maxLen at hm
  have HB := Lib.hid (below_alloc (Below.refl w.heap.size w) (.cells #[.slice a la ca, .slice g lg cg] 27))
  have HX := Lib.hid (row_new w #[.slice a la ca, .slice g lg cg] 27)
  have HS := Lib.hid h
  have HL := Lib.hid h.d.length
  clear h
  obtain ⟨⟨⟨s, v, d⟩, b⟩, hq⟩ : ∃ q, getAux key l = q := ⟨_, rfl⟩
  have HQ := Lib.hid hq
  clear hq
  go_enter Tryz.func12, Tryz.ntmps12
  go_wp2_with fail
  refine (get_any _ _ _ _ _ _ l m _ _ (HS.out.keep HB.out)).mono ?_
  rw [HQ.out]
  rintro e w1 ⟨rfl, hB⟩
  have HX := Lib.hid (HX.out.keep hB)
  have HB := Lib.hid (below_via HB.out hB)
  clear hB
  cases b with
  | true =>
    have HV := Lib.hid (ver_yes (m := m) HQ.out rfl)
    go_wp2
    go_ret
    exact ⟨ret_int' HV.out.symm, below_alloc HB.out _⟩
  | false =>
    have HV := Lib.hid (ver_no (m := m) HQ.out rfl)
    have HX := Lib.hid (HX.out.al (.cells #[.string s, .int .i64 v, .string d] 34))
    have HB := Lib.hid (below_alloc HB.out (.cells #[.string s, .int .i64 v, .string d] 34))
    have x1 := HX.out.cell (j := 1) (by simp)
    simp at x1
    go_wp2
    go_loopw [21] (fun i wr => ∃ k : Nat, k ≤ lg ∧ i = .int .i64 k ∧ Hid (Below w.heap.size w wr ∧ ∀ j, j < k → sameT (gone0 m j) key = false)) (fun i _ => lg - (intOf i).toNat)
    case atStart => exact ⟨0, Nat.zero_le _, rfl, HB.out, fun j hj => by omega⟩
    case round =>
      obtain ⟨k, hk, rfl, HW⟩ := hrel
      by_cases hlt : k < lg
      · rcases HS.out.d.src with hz | ⟨bk, off, rfl, hb, hc⟩
        · omega
        · have c0 := (HW.out.1.cell (p := ⟨bk, off + k * 2, none⟩) hb).trans (hc k hlt).1
          have c1 := (HW.out.1.cell (p := ⟨bk, off + k * 2 + 1, none⟩) hb).trans (hc k hlt).2
          clear hc hb
          cases hsk : sameT (gone0 m k) key with
          | true =>
            have HG := Lib.hid (goneAux_hit key m k (by rw [HL.out]; exact hlt) HW.out.2 hsk)
            have hs2 : ((gone0 m k).toList == key.toList) = true := hsk
            clear hsk
            go_wp2
            go_ret
            exact ⟨ret_int' (HV.out.trans HG.out).symm, below_alloc HW.out.1 _⟩
          | false =>
            have HG := Lib.hid hsk
            have hs2 : ((gone0 m k).toList == key.toList) = false := hsk
            clear hsk
            go_wp2
            go_roundw
            case rel => exact ⟨k + 1, by omega, by go_num, below_alloc HW.out.1 _, fun j hj => by
              rcases Nat.lt_or_ge j k with h | h
              · exact HW.out.2 j h
              · obtain rfl : j = k := by omega
                exact HG.out⟩
            case measure => simp [intOf]; omega
      · obtain rfl : k = lg := by omega
        have HG := Lib.hid (goneAux_none key m (by rw [HL.out]; exact HW.out.2))
        go_wp2
        go_ret
        exact ⟨ret_int' (HV.out.trans HG.out).symm, HW.out.1⟩
end Go.Proofs.YtblpebdjbenphaaGreatDoor
namespace Go.Proofs.YtblpebdjbenphaaGreatDoor
open Go.ChangeShapes Go.WideShapes Go.ChangeAt Go.RowKit
set_option linter.unusedVariables false
set_option maxRecDepth 100000

def MadeFound (l : Txts) (key : ByteArray) (w : World) (e : Ending) (w' : World) : Prop := e = .returned (.tuple #[.int .i64 (posT l key : Nat), .bool (isT l key)]) ∧ Below w.heap.size w w'
theorem isT_end {l : Txts} {key : ByteArray} {k : Nat} (h : posT l key = k) (hk : ¬ k < l.length) : isT l key = false := by unfold isT; rw [h, decide_eq_false hk]; rfl
theorem isT_at {l : Txts} {key : ByteArray} {k : Nat} (h : posT l key = k) (hk : k < l.length) : isT l key = ((txt l k).toList == key.toList) := by unfold isT; rw [h, decide_eq_true hk]; rfl
theorem ret_found {a b : Int} {c d : Bool} (h : a = b) (g : c = d) : Ending.returned (.tuple #[.int .i64 a, .bool c]) = .returned (.tuple #[.int .i64 b, .bool d]) := by rw [h, g]

set_option maxHeartbeats 2000000 in
theorem l7find_any (a g : Option Addr) (la ca lg cg : Nat) (l : Objs) (m : Gones) (key : ByteArray) (w : World) (h : StoAt w a la l g lg m) :
    Calls Tryz.prog 41 #[.agg #[.slice a la ca, .slice g lg cg], .string key] w (MadeFound (okeys l) key w) := by
  have hm := h.o.max
  unfold maxLen at hm
  have HS := Lib.hid h
  have HL := Lib.hid h.o.length
  clear h
  go_enter Tryz.func41, Tryz.ntmps41
  go_wp2
  go_loopw [6] (fun i wr => ∃ k : Nat, k ≤ la ∧ i = .int .i64 k ∧ Hid (GD w #[.slice a la ca, .slice g lg cg] wr ∧ ∀ j, j < k → ltT (txt (okeys l) j) key = true)) (fun i _ => la - (intOf i).toNat)
  case atStart => exact ⟨0, Nat.zero_le _, rfl, ⟨below_alloc (Below.refl _ _) _, row_new _ _ _⟩, fun j hj => by omega⟩
  case round =>
    obtain ⟨k, hk, rfl, HW⟩ := hrel
    have b0 := HW.out.1.box.cell (j := 0) (by simp)
    simp at b0
    by_cases hlt : k < la
    · rcases HS.out.o.src with hz | ⟨b, off, rfl, hb, hc⟩
      · omega
      · have c0 := (HW.out.1.below.cell (p := ⟨b, off + k * 3, none⟩) hb).trans (hc k hlt).1
        have hi1 : (k : Int) < (la : Int) := by omega
        have hi0 : (0 : Int) ≤ (k : Int) := by omega
        clear hc hb
        cases hsk : ltT (txt (okeys l) k) key with
        | true =>
          have HQ := Lib.hid hsk
          have hs2 : Op.bytesLess (obj0 l k).toList key.toList = true := by rw [okeys_at] at hsk; exact hsk
          clear hsk
          go_wp2
          go_roundw
          case rel => exact ⟨k + 1, by omega, by go_num, HW.out.1, fun j hj => by
            rcases Nat.lt_or_ge j k with h | h
            · exact HW.out.2 j h
            · obtain rfl : j = k := by omega
              exact HQ.out⟩
          case measure => simp [intOf]; omega
        | false =>
          have HP := Lib.hid (posT_eq (l := okeys l) (key := key) (k := k) (by rw [okeys_len, HL.out]; omega) HW.out.2 (fun _ => hsk))
          have hs2 : Op.bytesLess (obj0 l k).toList key.toList = false := by rw [okeys_at] at hsk; exact hsk
          have HI := Lib.hid ((isT_at HP.out (by rw [okeys_len, HL.out]; omega)).trans (by rw [okeys_at]))
          clear hsk
          go_wp2_with fail
          go_quiet (fail)
          go_wp2
          go_ret2
          exact ⟨ret_found (by rw [HP.out]) HI.out.symm, below_drewN HW.out.1.below _⟩
    · obtain rfl : k = la := by omega
      have HP := Lib.hid (posT_eq (l := okeys l) (key := key) (k := k) (by rw [okeys_len, HL.out]; omega) HW.out.2 (fun h => absurd h (by rw [okeys_len, HL.out]; omega)))
      have HI := Lib.hid (isT_end HP.out (by rw [okeys_len, HL.out]; omega))
      have hf : decide ((k : Int) < (k : Int)) = false := by simp
      go_wp2_with fail
      go_quiet (fail)
      go_wp2
      go_ret2
      exact ⟨ret_found (by rw [HP.out]) HI.out.symm, below_drewN HW.out.1.below _⟩

set_option maxHeartbeats 2000000 in
theorem l7gone_any (a g : Option Addr) (la ca lg cg : Nat) (l : Objs) (m : Gones) (key : ByteArray) (w : World) (h : StoAt w a la l g lg m) :
    Calls Tryz.prog 42 #[.agg #[.slice a la ca, .slice g lg cg], .string key] w (MadeFound (gkeys m) key w) := by
  have hm := h.d.max
  unfold maxLen at hm
  have HS := Lib.hid h
  have HL := Lib.hid h.d.length
  clear h
  go_enter Tryz.func42, Tryz.ntmps42
  go_wp2
  go_loopw [6] (fun i wr => ∃ k : Nat, k ≤ lg ∧ i = .int .i64 k ∧ Hid (GD w #[.slice a la ca, .slice g lg cg] wr ∧ ∀ j, j < k → ltT (txt (gkeys m) j) key = true)) (fun i _ => lg - (intOf i).toNat)
  case atStart => exact ⟨0, Nat.zero_le _, rfl, ⟨below_alloc (Below.refl _ _) _, row_new _ _ _⟩, fun j hj => by omega⟩
  case round =>
    obtain ⟨k, hk, rfl, HW⟩ := hrel
    have b1 := HW.out.1.box.cell (j := 1) (by simp)
    simp at b1
    by_cases hlt : k < lg
    · rcases HS.out.d.src with hz | ⟨b, off, rfl, hb, hc⟩
      · omega
      · have c0 := (HW.out.1.below.cell (p := ⟨b, off + k * 2, none⟩) hb).trans (hc k hlt).1
        have hi1 : (k : Int) < (lg : Int) := by omega
        have hi0 : (0 : Int) ≤ (k : Int) := by omega
        clear hc hb
        cases hsk : ltT (txt (gkeys m) k) key with
        | true =>
          have HQ := Lib.hid hsk
          have hs2 : Op.bytesLess (gone0 m k).toList key.toList = true := by rw [gkeys_at] at hsk; exact hsk
          clear hsk
          go_wp2
          go_roundw
          case rel => exact ⟨k + 1, by omega, by go_num, HW.out.1, fun j hj => by
            rcases Nat.lt_or_ge j k with h | h
            · exact HW.out.2 j h
            · obtain rfl : j = k := by omega
              exact HQ.out⟩
          case measure => simp [intOf]; omega
        | false =>
          have HP := Lib.hid (posT_eq (l := gkeys m) (key := key) (k := k) (by rw [gkeys_len, HL.out]; omega) HW.out.2 (fun _ => hsk))
          have hs2 : Op.bytesLess (gone0 m k).toList key.toList = false := by rw [gkeys_at] at hsk; exact hsk
          have HI := Lib.hid ((isT_at HP.out (by rw [gkeys_len, HL.out]; omega)).trans (by rw [gkeys_at]))
          clear hsk
          go_wp2_with fail
          go_quiet (fail)
          go_wp2
          go_ret2
          exact ⟨ret_found (by rw [HP.out]) HI.out.symm, below_drewN HW.out.1.below _⟩
    · obtain rfl : k = lg := by omega
      have HP := Lib.hid (posT_eq (l := gkeys m) (key := key) (k := k) (by rw [gkeys_len, HL.out]; omega) HW.out.2 (fun h => absurd h (by rw [gkeys_len, HL.out]; omega)))
      have HI := Lib.hid (isT_end HP.out (by rw [gkeys_len, HL.out]; omega))
      have hf : decide ((k : Int) < (k : Int)) = false := by simp
      go_wp2_with fail
      go_quiet (fail)
      go_wp2
      go_ret2
      exact ⟨ret_found (by rw [HP.out]) HI.out.symm, below_drewN HW.out.1.below _⟩
end Go.Proofs.YtblpebdjbenphaaGreatDoor
