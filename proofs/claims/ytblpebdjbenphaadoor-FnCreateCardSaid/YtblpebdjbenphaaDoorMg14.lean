/- Texts put together, as a claim holds at most sixty files. -/
import Derived.Test.YtblpebdjbenphaaDoorMg13
import Derived.Test.YtblpebdjbenphaaDoorMg7
import Derived.Test.YtblpebdjbenphaaDoorMg2
import Derived.Test.YtblpebdjbenphaaDoorShelfI
import Derived.Test.YtblpebdjbenphaaDoorMg8
import Derived.Test.YtblpebdjbenphaaDoorMg0
namespace Go.Proofs.YtblpebdjbenphaaDoor
open Go.ChangeShapes Go.WideShapes Go.ChangeAt Go.RowKit
set_option linter.unusedVariables false
set_option maxRecDepth 100000

theorem splice_list {α : Type} (v : α) : ∀ (r l : List α) (o : Nat), o < l.length → (l.set o v).take (o + 1) ++ r ++ (l.set o v).drop (o + 1 + r.length) = l.take o ++ (v :: r) ++ l.drop (o + (v :: r).length)
  | r, [], o, h => by simp at h
  | r, x :: l, 0, h => by simp [Nat.add_comm]
  | r, x :: l, o + 1, h => by
    have ih := splice_list v r l o (by simpa using h)
    have e1 : o + 1 + 1 + r.length = (o + 1 + r.length) + 1 := by omega
    have e2 : o + 1 + (v :: r).length = (o + (v :: r).length) + 1 := by simp only [List.length_cons]; omega
    rw [List.set_cons_succ, List.take_succ_cons, e1, List.drop_succ_cons, List.take_succ_cons, e2, List.drop_succ_cons]
    simp only [List.cons_append]
    rw [ih]
theorem row_sets {E : TypeId} {g : Nat} : ∀ (vs : List Value) (o : Nat) (w : World) (cur : Array Value), Row w g E cur → o + vs.length ≤ cur.size →
    ∃ cur', Row (w.setCells g o vs) g E cur' ∧ cur'.size = cur.size ∧ cur'.toList = cur.toList.take o ++ vs ++ cur.toList.drop (o + vs.length)
  | [], o, w, cur, h, hs => ⟨cur, h, rfl, by simp⟩
  | v :: r, o, w, cur, h, hs => by
    simp only [List.length_cons] at hs
    obtain ⟨c2, h1, h2, h3⟩ := row_sets r (o + 1) (w.setCell ⟨g, o, none⟩ v) _ (h.set o v) (by simp; omega)
    refine ⟨c2, h1, by rw [h2]; simp, ?_⟩
    rw [h3]
    simp only [Array.toList_setIfInBounds]
    exact splice_list v r cur.toList o (by simp; omega)
theorem grow_sets (g : Nat) : ∀ (vs : List Value) (o : Nat) (w a : World), w.grownBy a (some g) → w.grownBy (a.setCells g o vs) (some g)
  | [], _, _, _, h => h
  | v :: r, o, w, a, h => grow_sets g r (o + 1) w _ (growS h o v)
theorem sets_new {g : Nat} {w : World} (hg : w.heap.size ≤ g) {row : Option Nat} : ∀ (vs : List Value) (o : Nat) (a : World), w.grownBy a row → w.grownBy (a.setCells g o vs) row
  | [], _, _, h => h
  | v :: r, o, a, h => sets_new hg r (o + 1) _ (growP h hg o v)
theorem growDr {a b : World} {row : Option Nat} (h : a.grownBy b row) : a.grownBy b.drew row := ⟨h.os, h.tape, h.output, h.size, h.block⟩
theorem row_cells_at {w : World} {g : Nat} {T : TypeId} {cur : Array Value} (r : Row w g T cur) {j : Nat} {v : Value} (h : cur.toList[j]? = some v) : w.cell? ⟨g, 0 + j, none⟩ = some v := by
  unfold Row at r
  have : cur[j]? = some v := by simpa using h
  simp [World.cell?, r, this]
theorem str_one (K : Strs) : ∀ v ∈ K.map Value.string, v.oneCell' = true := by
  intro v hv
  obtain ⟨s, _, rfl⟩ := List.mem_map.1 hv
  rfl
theorem ins_grow {α : Type} (B0 A D : List α) (x : α) (i n : Nat) (hA : B0.take i = A) (hl : A.length = i) (hD : D.length = n - i) (hi : i ≤ n) :
    (((B0.take i ++ [x] ++ B0.drop (i + [x].length)).take (i + 1)) ++ D ++ (B0.take i ++ [x] ++ B0.drop (i + [x].length)).drop (i + 1 + D.length)).take ((n + 1) * 1) = A ++ x :: D := by
  rw [hA]
  have e : (A ++ [x] ++ B0.drop (i + [x].length)).take (i + 1) = A ++ [x] := by
    rw [List.take_append_of_le_length (by simp [hl]), List.take_of_length_le (by simp [hl])]
  rw [e, List.take_append_of_le_length (by simp [hl, hD]; omega), List.take_of_length_le (by simp [hl, hD]; omega)]
  simp
theorem ins_shift {α : Type} (C K : List α) (x : α) (i n : Nat) (hK : C.take n = K) (hl : K.length = n) (hc : n + 1 ≤ C.length) (hi : i < n) :
    (((C.take (i + 1) ++ K.drop i ++ C.drop (i + 1 + (K.drop i).length)).take i) ++ [x] ++ (C.take (i + 1) ++ K.drop i ++ C.drop (i + 1 + (K.drop i).length)).drop (i + [x].length)).take ((n + 1) * 1) = K.take i ++ x :: K.drop i := by
  have e0 : (C.take (i + 1)).length = i + 1 := by rw [List.length_take]; omega
  have e1 : (C.take (i + 1) ++ K.drop i ++ C.drop (i + 1 + (K.drop i).length)).take i = K.take i := by
    rw [List.append_assoc, List.take_append_of_le_length (by rw [e0]; omega), List.take_take, Nat.min_eq_left (by omega), ← hK, List.take_take, Nat.min_eq_left (by omega)]
  have e2 : (C.take (i + 1) ++ K.drop i ++ C.drop (i + 1 + (K.drop i).length)).drop (i + [x].length) = K.drop i ++ C.drop (i + 1 + (K.drop i).length) := by
    rw [List.append_assoc, List.drop_append_of_le_length (by rw [e0]; simp), List.drop_of_length_le (by rw [e0]; simp), List.nil_append]
  rw [e1, e2, ← List.append_assoc]
  have e3 : (K.take i ++ [x] ++ K.drop i).length = n + 1 := by simp [hl]; omega
  rw [List.take_append_of_le_length (by rw [e3]; omega), List.take_of_length_le (by rw [e3]; omega)]
  simp

def MadeIns (base : Nat) (q : Option Addr) (K : Strs) (w : World) (e : Ending) (w' : World) : Prop :=
  ∃ q' cp', e = .returned (.slice q' K.length cp') ∧ w'.ownsRow base 9 1 (.slice q' K.length cp') K.length (K.map Value.string) ∧ w.grownBy w' (Value.slice q 0 0).ownBlock

set_option maxHeartbeats 4000000 in
theorem insert_any (base n cp i vb vc : Nat) (q : Option Addr) (K : Strs) (key : ByteArray) (w : World) (h : w.ownsRow base 9 1 (.slice q n cp) n (K.map Value.string)) (hv : Row w vb 9 #[.string key]) (hne : ∀ g, q = some ⟨g, 0, none⟩ → vb ≠ g) (hi : i ≤ n) (hn : n ≤ 2000) (hb : base ≤ w.heap.size) :
    Calls Tryd.prog 74 #[.slice q n cp, .int .i64 i, .slice (some ⟨vb, 0, none⟩) 1 vc] w (MadeIns base q (K.take i ++ key :: K.drop i) w) := by
  have hl : K.length = n := by have := h.1; simpa using this
  have hLL : (K.take i ++ key :: K.drop i).length = n + 1 := by
    simp only [List.length_append, List.length_take, List.length_cons, List.length_drop, hl]; omega
  have hvs : ∀ j v, [Value.string key][j]? = some v → w.cell? ⟨vb, 0 + j, none⟩ = some v := fun j v hj => row_cells_at hv (by simpa using hj)
  have h1v : ∀ v ∈ [Value.string key], v.oneCell' = true := by intro v hv; simp at hv; subst hv; rfl
  have hbase : (∀ g cur cap, q = some ⟨g, 0, none⟩ → base ≤ g → Row w g 9 cur → n ≤ cap → cap = cp → cap ≤ maxLen → cur.size = cap → cur.toList.take n = K.map Value.string →
      Calls Tryd.prog 74 #[.slice q n cp, .int .i64 i, .slice (some ⟨vb, 0, none⟩) 1 vc] w (MadeIns base q (K.take i ++ key :: K.drop i) w)) := by
    intro g cur cap hq hg hr hc1 hcp hc2 hcs htk
    subst hq hcp
    have hcells : ∀ j v, (K.map Value.string)[j]? = some v → w.cell? ⟨g, 0 + j, none⟩ = some v := fun j v hj => row_cells_at hr (by
      rw [← htk] at hj
      rw [List.getElem?_take] at hj
      split at hj
      · exact hj
      · cases hj)
    have hsome : ∀ j, j < cap → (w.cell? ⟨g, 0 + j, none⟩).isSome = true := fun j hj => by
      have := hr.cell (j := j) (by omega)
      rw [Nat.zero_add, this]; rfl
    have hfz : ∀ j, w.frozen? ⟨g, 0 + j, none⟩ = false := fun j => hr.free _
    have hgt : vb ≠ g := hne g rfl
    have hmx : cap ≤ 9223372036854775807 := hc2
    rcases Nat.lt_or_ge i n with hin | hin
    · rcases Nat.lt_or_ge cap (n + 1) with hroom | hroom
      · -- a new row
        have hcon := Any2.slices_Insert_string_grow Tryd.laysNm222 g 0 n cap i vb 0 1 vc (K.map Value.string) [.string key] w hin (by decide) hc1 hroom (by omega) (by simpa using hl) rfl hcells hvs (str_one K) h1v
        change Calls Tryd.prog 74 _ _ _ at hcon
        refine hcon.mono ?_
        rintro e w' ⟨rfl, rfl⟩
        rw [show Tryd.laysNm222_ren.t 9 = 9 from rfl]
        obtain ⟨G, hG⟩ : ∃ G, grownCap w (n + 1) cap 9 = G := ⟨_, rfl⟩
        have hG1 : n + 1 ≤ G := by rw [← hG]; exact grownCap_ge _ _ _ _
        have hG2 : G ≤ maxLen := by rw [← hG]; exact grownCap_le_maxLen _ _ _ _ (by unfold maxLen; omega)
        have hr0 := row_new w ((((K.map Value.string).take i).toArray ++ Builtin.zeroCells (Value.string ⟨#[]⟩).cells (n + 1 - i)) ++ Builtin.zeroCells (Value.string ⟨#[]⟩).cells (G - (n + 1))) 9
        rw [hG]
        have hz : (Value.string ⟨#[]⟩).cells.size = 1 := rfl
        have hs0 : ((((K.map Value.string).take i).toArray ++ Builtin.zeroCells (Value.string ⟨#[]⟩).cells (n + 1 - i)) ++ Builtin.zeroCells (Value.string ⟨#[]⟩).cells (G - (n + 1))).size = G := by
          simp only [Array.size_append, size_zeroCells, hz, List.size_toArray, List.length_take, List.length_map, hl]; omega
        have hr1 : Row (w.alloc (.cells ((((K.map Value.string).take i).toArray ++ Builtin.zeroCells (Value.string ⟨#[]⟩).cells (n + 1 - i)) ++ Builtin.zeroCells (Value.string ⟨#[]⟩).cells (G - (n + 1))) 9)).drew w.heap.size 9 _ := hr0
        obtain ⟨c1, r1, s1, l1⟩ := row_sets [.string key] i _ _ hr1 (by rw [hs0]; simp; omega)
        have r1' : Row ((w.alloc (.cells ((((K.map Value.string).take i).toArray ++ Builtin.zeroCells (Value.string ⟨#[]⟩).cells (n + 1 - i)) ++ Builtin.zeroCells (Value.string ⟨#[]⟩).cells (G - (n + 1))) 9)).drew.setCells w.heap.size i [.string key]).drew w.heap.size 9 c1 := r1
        obtain ⟨c2, r2, s2, l2⟩ := row_sets ((K.map Value.string).drop i) (i + 1) _ _ r1' (by rw [s1, hs0]; simp [hl]; omega)
        refine ⟨_, _, by rw [hLL], ⟨by simp only [List.length_map, hLL]; omega, .inr ⟨w.heap.size, G, c2, by rw [hLL], hb, r2, by rw [hLL]; exact hG1, hG2, by rw [s2, s1, hs0]; omega, ?_⟩⟩, ?_⟩
        · rw [hLL, l2, l1]
          have ht : ((((K.map Value.string).take i).toArray ++ Builtin.zeroCells (Value.string ⟨#[]⟩).cells (n + 1 - i)) ++ Builtin.zeroCells (Value.string ⟨#[]⟩).cells (G - (n + 1))).toList.take i = (K.map Value.string).take i := by
            simp only [Array.toList_append, List.append_assoc]
            rw [List.take_append_of_le_length (by simp [hl]; omega)]
            rw [List.take_of_length_le (by simp; omega)]
          rw [ins_grow _ _ _ _ i n ht (by simp [hl]; omega) (by simp [hl]) hi]
          simp
        · exact sets_new (Nat.le_refl _) _ _ _ (growDr (sets_new (Nat.le_refl _) _ _ _ (growDr (World.grownBy_alloc _ _ _))))
      · -- in place
        have hcon := Any2.slices_Insert_string_shift Tryd.laysNm222 g 0 n cap i vb 0 1 vc (K.map Value.string) [.string key] w hin (by decide) hroom hmx hgt (by simpa using hl) rfl hcells (fun j hj => hsome j (by omega)) (fun j hj => hfz j) hvs (str_one K) h1v 9 9 1 cur.size
          (by unfold World.shape?; unfold Row at hv; rw [hv]; rfl) (by unfold World.shape?; unfold Row at hr; rw [hr]) (by omega) (hv.free _) (hv.free _)
        change Calls Tryd.prog 74 _ _ _ at hcon
        refine hcon.mono ?_
        rintro e w' ⟨rfl, rfl⟩
        have hr0 : Row w.drew g 9 cur := hr
        simp only [Nat.zero_add]
        obtain ⟨c1, r1, s1, l1⟩ := row_sets ((K.map Value.string).drop i) (i + 1) _ _ hr0 (by rw [hcs]; simp [hl]; omega)
        obtain ⟨c2, r2, s2, l2⟩ := row_sets [.string key] i _ _ r1 (by rw [s1, hcs]; simp; omega)
        refine ⟨_, _, by rw [hLL], ⟨by simp only [List.length_map, hLL]; omega, .inr ⟨g, cap, c2, by rw [hLL], hg, r2, by rw [hLL]; exact hroom, hc2, by rw [s2, s1, hcs]; omega, ?_⟩⟩, ?_⟩
        · rw [hLL, l2, l1]
          rw [ins_shift cur.toList (K.map Value.string) _ i n htk (by simp [hl]) (by simp; omega) hin]
          simp
        · exact grow_sets g _ _ _ _ (grow_sets g _ _ _ _ (growDr (World.grownBy.refl _ _)))
    · obtain rfl : i = n := by omega
      have htn : K.take i = K := List.take_of_length_le (by omega)
      have hdn : K.drop i = [] := List.drop_of_length_le (by omega)
      rcases Nat.lt_or_ge cap (i + 1) with hroom | hroom
      · have hcon := Any2.slices_Insert_string_end_grow Tryd.laysNm222 (some ⟨g, 0, none⟩) i cap vb 0 1 vc (K.map Value.string) [.string key] w (by decide) hc1 hroom (by omega) (by simpa using hl) rfl (fun e => by cases e)
          (fun a ha j v hj => by
            simp only [Option.some.injEq] at ha
            subst ha
            rw [addr_add]; exact hcells j v hj) hvs h1v
        change Calls Tryd.prog 74 _ _ _ at hcon
        refine hcon.mono ?_
        rintro e w' ⟨rfl, rfl⟩
        rw [htn, hdn]
        rw [htn, hdn] at hLL
        obtain ⟨G, hG⟩ : ∃ G, grownCap w (i + 1) cap 9 = G := ⟨_, rfl⟩
        have hG1 : i + 1 ≤ G := by rw [← hG]; exact grownCap_ge _ _ _ _
        have hG2 : G ≤ maxLen := by rw [← hG]; exact grownCap_le_maxLen _ _ _ _ (by unfold maxLen; omega)
        have hz : (Value.string ⟨#[]⟩).cells.size = 1 := rfl
        change MadeIns base (some ⟨g, 0, none⟩) (K ++ [key]) w (.returned (.slice (some ⟨w.heap.size, 0, none⟩) (i + 1) (grownCap w (i + 1) cap 9))) (w.drew.alloc (.cells (((K.map Value.string) ++ [Value.string key]).toArray ++ Builtin.zeroCells (Value.string ⟨#[]⟩).cells (grownCap w (i + 1) cap 9 - (i + 1))) 9))
        rw [hG]
        refine ⟨_, _, by rw [hLL], ⟨by simp [hl], .inr ⟨w.heap.size, G, _, by rw [hLL], hb, row_new w.drew _ _, by rw [hLL]; exact hG1, hG2, by simp only [Array.size_append, size_zeroCells, hz, List.size_toArray, List.length_append, List.length_map, hl, List.length_cons, List.length_nil]; omega, ?_⟩⟩, ?_⟩
        · rw [hLL]
          simp only [Array.toList_append]
          rw [List.take_append_of_le_length (by simp [hl]), List.take_of_length_le (by simp [hl])]
          simp
        · exact growA (growDr (World.grownBy.refl _ _)) _
      · have hcon := Any2.slices_Insert_string_end_room Tryd.laysNm222 g 0 i cap vb 0 1 vc [.string key] w (by decide) hroom hmx rfl (fun j hj => by rw [Nat.zero_add]; have := hsome (i + j) (by omega); rwa [Nat.zero_add] at this) (fun j hj => hr.free _) hvs h1v
        change Calls Tryd.prog 74 _ _ _ at hcon
        refine hcon.mono ?_
        rintro e w' ⟨rfl, rfl⟩
        rw [htn, hdn]
        rw [htn, hdn] at hLL
        simp only [Nat.zero_add]
        obtain ⟨c2, r2, s2, l2⟩ := row_sets [.string key] i _ _ hr (by rw [hcs]; simp; omega)
        refine ⟨_, _, by rw [hLL], ⟨by simp [hl], .inr ⟨g, cap, c2, by rw [hLL], hg, r2, by rw [hLL]; exact hroom, hc2, by rw [s2, hcs]; omega, ?_⟩⟩, ?_⟩
        · rw [hLL, l2, htk]
          rw [List.take_append_of_le_length (by simp [hl]), List.take_of_length_le (by simp [hl])]
          simp
        · exact grow_sets g _ _ _ _ (World.grownBy.refl _ _)
  rcases h.2 with ⟨hq, h0⟩ | ⟨g, cap, cur, hv2, hg, hr, hc1, hc2, hs, htk⟩
  · simp only [Value.slice.injEq] at hq
    obtain ⟨rfl, h00, rfl⟩ := hq
    subst h0
    obtain rfl : i = 0 := by omega
    obtain rfl : K = [] := List.length_eq_zero_iff.1 hl
    have hcon := Any2.slices_Insert_string_end_grow Tryd.laysNm222 none 0 0 vb 0 1 vc [] [.string key] w (by decide) (Nat.le_refl _) (by decide) (by decide) rfl rfl (fun _ => rfl) (fun a ha => by cases ha) hvs h1v
    change Calls Tryd.prog 74 _ _ _ at hcon
    refine hcon.mono ?_
    rintro e w' ⟨rfl, rfl⟩
    obtain ⟨G, hG⟩ : ∃ G, grownCap w (0 + 1) 0 9 = G := ⟨_, rfl⟩
    have hG1 : 0 + 1 ≤ G := by rw [← hG]; exact grownCap_ge _ _ _ _
    have hG2 : G ≤ maxLen := by rw [← hG]; exact grownCap_le_maxLen _ _ _ _ (by unfold maxLen; omega)
    have hz : (Value.string ⟨#[]⟩).cells.size = 1 := rfl
    change MadeIns base none [key] w (.returned (.slice (some ⟨w.heap.size, 0, none⟩) (0 + 1) (grownCap w (0 + 1) 0 9))) (w.drew.alloc (.cells (([] ++ [Value.string key]).toArray ++ Builtin.zeroCells (Value.string ⟨#[]⟩).cells (grownCap w (0 + 1) 0 9 - (0 + 1))) 9))
    rw [hG]
    refine ⟨_, _, rfl, ⟨by simp, .inr ⟨w.heap.size, G, _, rfl, hb, row_new w.drew _ _, hG1, hG2, by simp only [Array.size_append, size_zeroCells, hz, List.size_toArray, List.length_append, List.length_cons, List.length_nil]; omega, ?_⟩⟩, ?_⟩
    · simp
    · exact growA (growDr (World.grownBy.refl _ _)) _
  · simp only [Value.slice.injEq, true_and] at hv2
    obtain ⟨hq, hcp⟩ := hv2
    exact hbase g cur cap hq hg hr hc1 hcp.symm hc2 (by omega) (by simpa using htk)
end Go.Proofs.YtblpebdjbenphaaDoor
namespace Go.Proofs.YtblpebdjbenphaaDoor
open Go.ChangeShapes Go.WideShapes Go.ChangeAt Go.RowKit
set_option linter.unusedVariables false
set_option maxRecDepth 100000

theorem pos_below {K : Txts} {key : ByteArray} : ∀ {t : Nat}, t < posT K key → ltT (K.getD t key) key = true := by
  induction K with
  | nil => intro t h; simp [posT] at h
  | cons x r ih =>
    intro t h
    unfold posT at h ih
    rw [List.takeWhile_cons] at h
    cases hx : ltT x key with
    | false => rw [hx] at h; simp at h
    | true =>
      rw [hx] at h
      cases t with
      | zero => exact hx
      | succ t => exact ih (by simpa using h)
theorem pos_above {K : Txts} (hi : IncT K) {key : ByteArray} : ∀ {t : Nat}, posT K key ≤ t → ltT (K.getD t key) key = false := by
  induction K with
  | nil => intro t h; rw [List.getD_nil, ← Bool.not_eq_true, ltT_iff]; exact lt_irr _
  | cons x r ih =>
    intro t h
    have hi2 := inc_cons.1 hi
    cases hx : ltT x key with
    | true =>
      rw [pos_succ (ltT_iff.1 hx)] at h
      cases t with
      | zero => omega
      | succ t => exact ih hi2.2 (by omega)
    | false =>
      cases t with
      | zero => exact hx
      | succ t =>
        rw [List.getD_cons_succ, ← Bool.not_eq_true, ltT_iff]
        rw [← Bool.not_eq_true, ltT_iff] at hx
        intro hl
        rcases Nat.lt_or_ge t r.length with hr | hr
        · rw [List.getD_eq_getElem?_getD, List.getElem?_eq_getElem hr] at hl
          exact hx (List.lt_trans (hi2.1 _ (List.getElem_mem hr)) hl)
        · rw [List.getD_eq_getElem?_getD, List.getElem?_eq_none hr] at hl
          exact lt_irr _ hl

set_option maxHeartbeats 2000000 in
theorem search_any (base n cp : Nat) (q : Option Addr) (K : Txts) (key : ByteArray) (w : World) (h : w.ownsRow base 9 1 (.slice q n cp) n (K.map Value.string)) (hi : IncT K) (hn : n ≤ 2000) :
    Calls Tryd.prog 73 #[.slice q n cp, .string key] w fun e w' => ∃ b, e = .returned (.tuple #[.int .i64 (posT K key : Nat), .bool b]) ∧ ∃ k, w' = w.drewN k := by
  have hl : K.length = n := by have := h.1; simpa using this
  have hz : n = 0 → Calls Tryd.prog 73 #[.slice q n cp, .string key] w fun e w' => ∃ b, e = .returned (.tuple #[.int .i64 (posT K key : Nat), .bool b]) ∧ ∃ k, w' = w.drewN k := by
    rintro rfl
    have hcon := Any2.slices_BinarySearch_string_empty Tryd.laysNm226 q cp key w
    change Calls Tryd.prog 73 _ _ _ at hcon
    refine hcon.mono ?_
    rintro e w' ⟨rfl, rfl⟩
    have : K = [] := List.length_eq_zero_iff.1 hl
    subst this
    exact ⟨false, rfl, 0, rfl⟩
  rcases h.2 with ⟨h2, h3⟩ | ⟨g, cap, cur, hv, hg, hr, hc1, hc2, hcs, htk⟩
  · exact hz h3
  · simp only [Value.slice.injEq] at hv
    obtain ⟨rfl, -, rfl⟩ := hv
    have hrow : Row w g 9 cur := hr
    have hcell : ∀ j, j < n → w.cell? ⟨g, 0 + j, none⟩ = some (.string (K.getD j key)) := fun j hj => row_cells_at hrow (by
      have : (K.map Value.string)[j]? = some (.string (K.getD j key)) := by
        rw [List.getElem?_map, List.getD_eq_getElem?_getD, List.getElem?_eq_getElem (by omega)]; rfl
      rw [Nat.mul_one] at htk
      rw [← htk, List.getElem?_take, if_pos hj] at this
      exact this)
    have hcon := Any2.slices_BinarySearch_string Tryd.laysNm226 g 0 n cp (fun j => K.getD j key) key w (by omega) hcell
    change Calls Tryd.prog 73 _ _ _ at hcon
    refine hcon.mono ?_
    rintro e w' ⟨rfl, hq⟩
    have hpos : Lib.bsGo (fun t => Op.bytesLess (K.getD t key).toList key.toList) n 0 n = posT K key :=
      Lib.bsGo_spec _ (posT K key) (fun t ht => pos_below ht) (fun t ht => pos_above hi ht) n 0 n (by omega) (Nat.zero_le _) (by rw [← hl]; exact posT_le K key)
    rw [hpos]
    exact ⟨_, rfl, hq⟩
end Go.Proofs.YtblpebdjbenphaaDoor
namespace Go.Proofs.YtblpebdjbenphaaDoor
open Go.ChangeShapes Go.WideShapes Go.ChangeAt Go.RowKit
set_option linter.unusedVariables false
set_option maxRecDepth 100000

/-- Only blocks B, b, that of the keys, and new ones. -/
structure Turn (B b : Nat) (q : Option Addr) (w w' : World) : Prop where
  os : w'.os = w.os
  tape : w'.tape = w.tape
  output : w'.output = w.output
  size : w.heap.size ≤ w'.heap.size
  block : ∀ i, i < w.heap.size → i ≠ B → i ≠ b → (∀ a, q = some a → a.block ≠ i) → w'.heap[i]? = w.heap[i]?
theorem Turn.refl (B b : Nat) (q : Option Addr) (w : World) : Turn B b q w w := ⟨rfl, rfl, rfl, Nat.le_refl _, fun _ _ _ _ _ => rfl⟩
theorem Turn.below {B b : Nat} {q : Option Addr} {w w1 w2 : World} (h : Turn B b q w w1) (k : Below w1.heap.size w1 w2) : Turn B b q w w2 :=
  ⟨k.os.trans h.os, k.tape.trans h.tape, k.output.trans h.output, Nat.le_trans h.size k.size, fun i hi h1 h2 h3 => (k.block i (Nat.lt_of_lt_of_le hi h.size)).trans (h.block i hi h1 h2 h3)⟩
theorem Turn.drew {B b : Nat} {q : Option Addr} {w w1 : World} (h : Turn B b q w w1) : Turn B b q w w1.drew := ⟨h.os, h.tape, h.output, h.size, h.block⟩
theorem Turn.al {B b : Nat} {q : Option Addr} {w w1 : World} (h : Turn B b q w w1) (o : Obj) : Turn B b q w (w1.alloc o) := h.below (below_alloc (Below.refl _ _) o)
theorem Turn.grownMap {B b : Nat} {q : Option Addr} {w w1 w2 : World} (h : Turn B b q w w1) (k : w1.grownBy w2 (some b)) : Turn B b q w w2 :=
  ⟨k.os.trans h.os, k.tape.trans h.tape, k.output.trans h.output, Nat.le_trans h.size k.size, fun i hi h1 h2 h3 => (k.block i (Nat.lt_of_lt_of_le hi h.size) (fun he => h2 (Option.some.inj he))).trans (h.block i hi h1 h2 h3)⟩
theorem Turn.grownKeys {B b n c : Nat} {q : Option Addr} {w w1 w2 : World} (h : Turn B b q w w1) (k : w1.grownBy w2 (Value.slice q n c).ownBlock) : Turn B b q w w2 :=
  ⟨k.os.trans h.os, k.tape.trans h.tape, k.output.trans h.output, Nat.le_trans h.size k.size, fun i hi h1 h2 h3 => (k.block i (Nat.lt_of_lt_of_le hi h.size) (fun he => by
    cases q with
    | none => cases he
    | some a => simp only [Value.ownBlock, Option.some.injEq] at he; exact h3 a rfl he.symm)).trans (h.block i hi h1 h2 h3)⟩
theorem Turn.set {B b : Nat} {q : Option Addr} {w w1 : World} (h : Turn B b q w w1) (j : Nat) (v : Value) : Turn B b q w (w1.setCell ⟨B, j, none⟩ v) :=
  ⟨h.os, h.tape, h.output, by have := h.size; simpa [World.setCell] using this, fun i hi h1 h2 h3 => (Below.heap_setCell _ _ _ _ h1).trans (h.block i hi h1 h2 h3)⟩
/-- Two commands, one after another: the keys may have moved to a block that was not there. -/
theorem Turn.trans {B b : Nat} {q q2 : Option Addr} {w w1 w2 : World} (h : Turn B b q w w1) (k : Turn B b q2 w1 w2) (hq : ∀ a, q2 = some a → q = some a ∨ w.heap.size ≤ a.block) : Turn B b q w w2 :=
  ⟨k.os.trans h.os, k.tape.trans h.tape, k.output.trans h.output, Nat.le_trans h.size k.size, fun i hi h1 h2 h3 => (k.block i (Nat.lt_of_lt_of_le hi h.size) h1 h2 (fun a ha => by
    rcases hq a ha with h | h
    · exact h3 a h
    · omega)).trans (h.block i hi h1 h2 h3)⟩
theorem Turn.low {B b base : Nat} {q : Option Addr} {w0 w w1 : World} (h : Turn B b q w w1) (k : Below base w0 w) (hw : base ≤ w.heap.size) (hB : base ≤ B) (hb : base ≤ b) (hq : ∀ a, q = some a → base ≤ a.block) : Below base w0 w1 :=
  k.trans ⟨h.os, h.tape, h.output, h.size, fun i hi => h.block i (by omega) (by omega) (by omega) (fun a ha => by have := hq a ha; omega)⟩
theorem Turn.row {B b X : Nat} {q : Option Addr} {w w1 : World} {T : TypeId} {cur : Array Value} (h : Turn B b q w w1) (r : Row w X T cur) (h1 : X ≠ B) (h2 : X ≠ b) (h3 : ∀ a, q = some a → a.block ≠ X) : Row w1 X T cur := by
  unfold Row at r ⊢
  rw [← r]; exact h.block X (Array.getElem?_eq_some_iff.1 r).1 h1 h2 h3
theorem keys_ge {base : Nat} {w : World} {q : Option Addr} {n c : Nat} {e : TypeId} {sz : Nat} {xs : List Value} (h : w.ownsRow base e sz (.slice q n c) n xs) : ∀ a, q = some a → base ≤ a.block ∧ a.block < w.heap.size := by
  intro a ha
  subst ha
  exact h.lt a.block rfl
/-- The addresses of the errors lie below the law's start. -/
structure Low (base : Nat) (A : ErrA) (w : World) : Prop where
  tab : TabsEA A w
  g0 : 0 < base
  g1 : 1 < base
  g2 : 2 < base
  g3 : 3 < base
  g4 : 4 < base
  a0 : A.form.block < base
  a1 : A.there.block < base
  a2 : A.full.block < base
  a3 : A.missing.block < base
  a4 : A.ver.block < base
theorem ErrAt.keepB {base : Nat} {w w1 : World} {a : Addr} (h : ErrAt w a) (ha : a.block < base) (hB : Below base w w1) : ErrAt w1 a := by
  obtain ⟨c, t, h⟩ := h
  exact ⟨c, t, (hB.block _ ha).trans h⟩
theorem Low.keep {base : Nat} {A : ErrA} {w w1 : World} (h : Low base A w) (hB : Below base w w1) : Low base A w1 := by
  refine ⟨⟨(hB.cell h.g0).trans h.tab.c0, (hB.cell h.g1).trans h.tab.c1, (hB.cell h.g2).trans h.tab.c2, (hB.cell h.g3).trans h.tab.c3, (hB.cell h.g4).trans h.tab.c4,
    h.tab.e0.keepB h.a0 hB, h.tab.e1.keepB h.a1 hB, h.tab.e2.keepB h.a2 hB, h.tab.e3.keepB h.a3 hB, h.tab.e4.keepB h.a4 hB, h.tab.n01, h.tab.n02, h.tab.n03, h.tab.n04, h.tab.n12, h.tab.n13, h.tab.n14, h.tab.n23, h.tab.n24, h.tab.n34⟩, h.g0, h.g1, h.g2, h.g3, h.g4, h.a0, h.a1, h.a2, h.a3, h.a4⟩
theorem Low.turn {base B b : Nat} {q : Option Addr} {A : ErrA} {w w1 : World} (h : Low base A w) (t : Turn B b q w w1) (hw : base ≤ w.heap.size) (hB : base ≤ B) (hb : base ≤ b) (hq : ∀ a, q = some a → base ≤ a.block) : Low base A w1 :=
  h.keep (t.low (Below.refl _ _) hw hB hb hq)
theorem Low.of {A : ErrA} {w : World} (h : TabsEA A w) : Low w.heap.size A w :=
  ⟨h, World.block_lt_of_cell? _ _ h.c0, World.block_lt_of_cell? _ _ h.c1, World.block_lt_of_cell? _ _ h.c2, World.block_lt_of_cell? _ _ h.c3, World.block_lt_of_cell? _ _ h.c4, h.e0.lt, h.e1.lt, h.e2.lt, h.e3.lt, h.e4.lt⟩
end Go.Proofs.YtblpebdjbenphaaDoor
