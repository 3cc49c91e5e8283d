
/- A key inserted into a row of texts of the call's own (slices.Insert), and where it belongs (slices.BinarySearch). -/
import Derived.Test.YtblpebdjbenphaaGreatDoorL7K
import Derived.Test.YtblpebdjbenphaaGreatDoorMg8
import Derived.Test.YtblpebdjbenphaaGreatDoorMg1
import Derived.Test.YtblpebdjbenphaaGreatDoorShelfI
namespace Go.Proofs.YtblpebdjbenphaaGreatDoor
open Go.ChangeShapes Go.WideShapes Go.ChangeAt Go.RowKit
set_option linter.unusedVariables false
set_option maxRecDepth 100000

theorem splice_list {α : Type} (v : α) : ∀ (r l : List α) (o : Nat), o < l.length → (l.set o v).take (o + 1) ++ r ++ (l.set o v).drop (o + 1 + r.length) = l.take o ++ (v :: r) ++ l.drop (o + (v :: r).length)
  | r, [], o, h => by simp at h
  | r, x :: l, 0, h => by simp [Nat.add_comm]
  | r, x :: l, o + 1, h => by
    have ih := splice_list v r l o (by simpa using h)
    have e1 : o + 1 + 1 + r.length = (o + 1 + r.length) + 1 := by omega
    have e2 : o + 1 + (v :: r).length = (o + (v :: r).length) + 1 := by simp only [List.length_cons]; omega
    rw [List.set_cons_succ, List.take_succ_cons, e1, List.drop_succ_cons, List.take_succ_cons, e2, List.drop_succ_cons]
    simp only [List.cons_append]
    rw [ih]
theorem row_sets {E : TypeId} {g : Nat} : ∀ (vs : List Value) (o : Nat) (w : World) (cur : Array Value), Row w g E cur → o + vs.length ≤ cur.size →
    ∃ cur', Row (w.setCells g o vs) g E cur' ∧ cur'.size = cur.size ∧ cur'.toList = cur.toList.take o ++ vs ++ cur.toList.drop (o + vs.length)
  | [], o, w, cur, h, hs => ⟨cur, h, rfl, by simp⟩
  | v :: r, o, w, cur, h, hs => by
    simp only [List.length_cons] at hs
    obtain ⟨c2, h1, h2, h3⟩ := row_sets r (o + 1) (w.setCell ⟨g, o, none⟩ v) _ (h.set o v) (by simp; omega)
    refine ⟨c2, h1, by rw [h2]; simp, ?_⟩
    rw [h3]
    simp only [Array.toList_setIfInBounds]
    exact splice_list v r cur.toList o (by simp; omega)
theorem grow_sets (g : Nat) : ∀ (vs : List Value) (o : Nat) (w a : World), w.grownBy a (some g) → w.grownBy (a.setCells g o vs) (some g)
  | [], _, _, _, h => h
  | v :: r, o, w, a, h => grow_sets g r (o + 1) w _ (growS h o v)
theorem sets_new {g : Nat} {w : World} (hg : w.heap.size ≤ g) {row : Option Nat} : ∀ (vs : List Value) (o : Nat) (a : World), w.grownBy a row → w.grownBy (a.setCells g o vs) row
  | [], _, _, h => h
  | v :: r, o, a, h => sets_new hg r (o + 1) _ (growP h hg o v)
theorem growDr {a b : World} {row : Option Nat} (h : a.grownBy b row) : a.grownBy b.drew row := ⟨h.os, h.tape, h.output, h.size, h.block⟩
theorem row_cells_at {w : World} {g : Nat} {T : TypeId} {cur : Array Value} (r : Row w g T cur) {j : Nat} {v : Value} (h : cur.toList[j]? = some v) : w.cell? ⟨g, 0 + j, none⟩ = some v := by
  unfold Row at r
  have : cur[j]? = some v := by simpa using h
  simp [World.cell?, r, this]
theorem str_one (K : Strs) : ∀ v ∈ K.map Value.string, v.oneCell' = true := by
  intro v hv
  obtain ⟨s, _, rfl⟩ := List.mem_map.1 hv
  rfl
theorem ins_grow {α : Type} (B0 A D : List α) (x : α) (i n : Nat) (hA : B0.take i = A) (hl : A.length = i) (hD : D.length = n - i) (hi : i ≤ n) :
    (((B0.take i ++ [x] ++ B0.drop (i + [x].length)).take (i + 1)) ++ D ++ (B0.take i ++ [x] ++ B0.drop (i + [x].length)).drop (i + 1 + D.length)).take ((n + 1) * 1) = A ++ x :: D := by
  rw [hA]
  have e : (A ++ [x] ++ B0.drop (i + [x].length)).take (i + 1) = A ++ [x] := by
    rw [List.take_append_of_le_length (by simp [hl]), List.take_of_length_le (by simp [hl])]
  rw [e, List.take_append_of_le_length (by simp [hl, hD]; omega), List.take_of_length_le (by simp [hl, hD]; omega)]
  simp
theorem ins_shift {α : Type} (C K : List α) (x : α) (i n : Nat) (hK : C.take n = K) (hl : K.length = n) (hc : n + 1 ≤ C.length) (hi : i < n) :
    (((C.take (i + 1) ++ K.drop i ++ C.drop (i + 1 + (K.drop i).length)).take i) ++ [x] ++ (C.take (i + 1) ++ K.drop i ++ C.drop (i + 1 + (K.drop i).length)).drop (i + [x].length)).take ((n + 1) * 1) = K.take i ++ x :: K.drop i := by
  have e0 : (C.take (i + 1)).length = i + 1 := by rw [List.length_take]; omega
  have e1 : (C.take (i + 1) ++ K.drop i ++ C.drop (i + 1 + (K.drop i).length)).take i = K.take i := by
    rw [List.append_assoc, List.take_append_of_le_length (by rw [e0]; omega), List.take_take, Nat.min_eq_left (by omega), ← hK, List.take_take, Nat.min_eq_left (by omega)]
  have e2 : (C.take (i + 1) ++ K.drop i ++ C.drop (i + 1 + (K.drop i).length)).drop (i + [x].length) = K.drop i ++ C.drop (i + 1 + (K.drop i).length) := by
    rw [List.append_assoc, List.drop_append_of_le_length (by rw [e0]; simp), List.drop_of_length_le (by rw [e0]; simp), List.nil_append]
  rw [e1, e2, ← List.append_assoc]
  have e3 : (K.take i ++ [x] ++ K.drop i).length = n + 1 := by simp [hl]; omega
  rw [List.take_append_of_le_length (by rw [e3]; omega), List.take_of_length_le (by rw [e3]; omega)]
  simp

def MadeIns (base : Nat) (q : Option Addr) (K : Strs) (w : World) (e : Ending) (w' : World) : Prop :=
  ∃ q' cp', e = .returned (.slice q' K.length cp') ∧ w'.ownsRow base 9 1 (.slice q' K.length cp') K.length (K.map Value.string) ∧ w.grownBy w' (Value.slice q 0 0).ownBlock

set_option maxHeartbeats 4000000 in
theorem insert_any (base n cp i vb vc : Nat) (q : Option Addr) (K : Strs) (key : ByteArray) (w : World) (h : w.ownsRow base 9 1 (.slice q n cp) n (K.map Value.string)) (hv : Row w vb 9 #[.string key]) (hne : ∀ g, q = some ⟨g, 0, none⟩ → vb ≠ g) (hi : i ≤ n) (hn : n ≤ 2000) (hb : base ≤ w.heap.size) :
    Calls Tryz.prog 73 #[.slice q n cp, .int .i64 i, .slice (some ⟨vb, 0, none⟩) 1 vc] w (MadeIns base q (K.take i ++ key :: K.drop i) w) := by
  have hl : K.length = n := by have := h.1; simpa using this
  have hLL : (K.take i ++ key :: K.drop i).length = n + 1 := by
    simp only [List.length_append, List.length_take, List.length_cons, List.length_drop, hl]; omega
  have hvs : ∀ j v, [Value.string key][j]? = some v → w.cell? ⟨vb, 0 + j, none⟩ = some v := fun j v hj => row_cells_at hv (by simpa using hj)
  have h1v : ∀ v ∈ [Value.string key], v.oneCell' = true := by intro v hv; simp at hv; subst hv; rfl
  have hbase : (∀ g cur cap, q = some ⟨g, 0, none⟩ → base ≤ g → Row w g 9 cur → n ≤ cap → cap = cp → cap ≤ maxLen → cur.size = cap → cur.toList.take n = K.map Value.string →
      Calls Tryz.prog 73 #[.slice q n cp, .int .i64 i, .slice (some ⟨vb, 0, none⟩) 1 vc] w (MadeIns base q (K.take i ++ key :: K.drop i) w)) := by
    intro g cur cap hq hg hr hc1 hcp hc2 hcs htk
    subst hq hcp
    have hcells : ∀ j v, (K.map Value.string)[j]? = some v → w.cell? ⟨g, 0 + j, none⟩ = some v := fun j v hj => row_cells_at hr (by
      rw [← htk] at hj
      rw [List.getElem?_take] at hj
      split at hj
      · exact hj
      · cases hj)
    have hsome : ∀ j, j < cap → (w.cell? ⟨g, 0 + j, none⟩).isSome = true := fun j hj => by
      have := hr.cell (j := j) (by omega)
      rw [Nat.zero_add, this]; rfl
    have hfz : ∀ j, w.frozen? ⟨g, 0 + j, none⟩ = false := fun j => hr.free _
    have hgt : vb ≠ g := hne g rfl
    have hmx : cap ≤ 9223372036854775807 := hc2
    rcases Nat.lt_or_ge i n with hin | hin
    · rcases Nat.lt_or_ge cap (n + 1) with hroom | hroom
      · -- a new row
        have hcon := Any2.slices_Insert_string_grow Tryz.laysNm222 g 0 n cap i vb 0 1 vc (K.map Value.string) [.string key] w hin (by decide) hc1 hroom (by omega) (by simpa using hl) rfl hcells hvs (str_one K) h1v
        change Calls Tryz.prog 73 _ _ _ at hcon
        refine hcon.mono ?_
        rintro e w' ⟨rfl, rfl⟩
        rw [show Tryz.laysNm222_ren.t 9 = 9 from rfl]
        obtain ⟨G, hG⟩ : ∃ G, grownCap w (n + 1) cap 9 = G := ⟨_, rfl⟩
        have hG1 : n + 1 ≤ G := by rw [← hG]; exact grownCap_ge _ _ _ _
        have hG2 : G ≤ maxLen := by rw [← hG]; exact grownCap_le_maxLen _ _ _ _ (by unfold maxLen; omega)
        have hr0 := row_new w ((((K.map Value.string).take i).toArray ++ Builtin.zeroCells (Value.string ⟨#[]⟩).cells (n + 1 - i)) ++ Builtin.zeroCells (Value.string ⟨#[]⟩).cells (G - (n + 1))) 9
        rw [hG]
        have hz : (Value.string ⟨#[]⟩).cells.size = 1 := rfl
        have hs0 : ((((K.map Value.string).take i).toArray ++ Builtin.zeroCells (Value.string ⟨#[]⟩).cells (n + 1 - i)) ++ Builtin.zeroCells (Value.string ⟨#[]⟩).cells (G - (n + 1))).size = G := by
          simp only [Array.size_append, size_zeroCells, hz, List.size_toArray, List.length_take, List.length_map, hl]; omega
        have hr1 : Row (w.alloc (.cells ((((K.map Value.string).take i).toArray ++ Builtin.zeroCells (Value.string ⟨#[]⟩).cells (n + 1 - i)) ++ Builtin.zeroCells (Value.string ⟨#[]⟩).cells (G - (n + 1))) 9)).drew w.heap.size 9 _ := hr0
        obtain ⟨c1, r1, s1, l1⟩ := row_sets [.string key] i _ _ hr1 (by rw [hs0]; simp; omega)
        have r1' : Row ((w.alloc (.cells ((((K.map Value.string).take i).toArray ++ Builtin.zeroCells (Value.string ⟨#[]⟩).cells (n + 1 - i)) ++ Builtin.zeroCells (Value.string ⟨#[]⟩).cells (G - (n + 1))) 9)).drew.setCells w.heap.size i [.string key]).drew w.heap.size 9 c1 := r1
        obtain ⟨c2, r2, s2, l2⟩ := row_sets ((K.map Value.string).drop i) (i + 1) _ _ r1' (by rw [s1, hs0]; simp [hl]; omega)
        refine ⟨_, _, by rw [hLL], ⟨by simp only [List.length_map, hLL]; omega, .inr ⟨w.heap.size, G, c2, by rw [hLL], hb, r2, by rw [hLL]; exact hG1, hG2, by rw [s2, s1, hs0]; omega, ?_⟩⟩, ?_⟩
        · rw [hLL, l2, l1]
          have ht : ((((K.map Value.string).take i).toArray ++ Builtin.zeroCells (Value.string ⟨#[]⟩).cells (n + 1 - i)) ++ Builtin.zeroCells (Value.string ⟨#[]⟩).cells (G - (n + 1))).toList.take i = (K.map Value.string).take i := by
            simp only [Array.toList_append, List.append_assoc]
            rw [List.take_append_of_le_length (by simp [hl]; omega)]
            rw [List.take_of_length_le (by simp; omega)]
          rw [ins_grow _ _ _ _ i n ht (by simp [hl]; omega) (by simp [hl]) hi]
          simp
        · exact sets_new (Nat.le_refl _) _ _ _ (growDr (sets_new (Nat.le_refl _) _ _ _ (growDr (World.grownBy_alloc _ _ _))))
      · -- in place
        have hcon := Any2.slices_Insert_string_shift Tryz.laysNm222 g 0 n cap i vb 0 1 vc (K.map Value.string) [.string key] w hin (by decide) hroom hmx hgt (by simpa using hl) rfl hcells (fun j hj => hsome j (by omega)) (fun j hj => hfz j) hvs (str_one K) h1v 9 9 1 cur.size
          (by unfold World.shape?; unfold Row at hv; rw [hv]; rfl) (by unfold World.shape?; unfold Row at hr; rw [hr]) (by omega) (hv.free _) (hv.free _)
        change Calls Tryz.prog 73 _ _ _ at hcon
        refine hcon.mono ?_
        rintro e w' ⟨rfl, rfl⟩
        have hr0 : Row w.drew g 9 cur := hr
        simp only [Nat.zero_add]
        obtain ⟨c1, r1, s1, l1⟩ := row_sets ((K.map Value.string).drop i) (i + 1) _ _ hr0 (by rw [hcs]; simp [hl]; omega)
        obtain ⟨c2, r2, s2, l2⟩ := row_sets [.string key] i _ _ r1 (by rw [s1, hcs]; simp; omega)
        refine ⟨_, _, by rw [hLL], ⟨by simp only [List.length_map, hLL]; omega, .inr ⟨g, cap, c2, by rw [hLL], hg, r2, by rw [hLL]; exact hroom, hc2, by rw [s2, s1, hcs]; omega, ?_⟩⟩, ?_⟩
        · rw [hLL, l2, l1]
          rw [ins_shift cur.toList (K.map Value.string) _ i n htk (by simp [hl]) (by simp; omega) hin]
          simp
        · exact grow_sets g _ _ _ _ (grow_sets g _ _ _ _ (growDr (World.grownBy.refl _ _)))
    · obtain rfl : i = n := by omega
      have htn : K.take i = K := List.take_of_length_le (by omega)
      have hdn : K.drop i = [] := List.drop_of_length_le (by omega)
      rcases Nat.lt_or_ge cap (i + 1) with hroom | hroom
      · have hcon := Any2.slices_Insert_string_end_grow Tryz.laysNm222 (some ⟨g, 0, none⟩) i cap vb 0 1 vc (K.map Value.string) [.string key] w (by decide) hc1 hroom (by omega) (by simpa using hl) rfl (fun e => by cases e)
          (fun a ha j v hj => by
            simp only [Option.some.injEq] at ha
            subst ha
            rw [addr_add]; exact hcells j v hj) hvs h1v
        change Calls Tryz.prog 73 _ _ _ at hcon
        refine hcon.mono ?_
        rintro e w' ⟨rfl, rfl⟩
        rw [htn, hdn]
        rw [htn, hdn] at hLL
        obtain ⟨G, hG⟩ : ∃ G, grownCap w (i + 1) cap 9 = G := ⟨_, rfl⟩
        have hG1 : i + 1 ≤ G := by rw [← hG]; exact grownCap_ge _ _ _ _
        have hG2 : G ≤ maxLen := by rw [← hG]; exact grownCap_le_maxLen _ _ _ _ (by unfold maxLen; omega)
        have hz : (Value.string ⟨#[]⟩).cells.size = 1 := rfl
        change MadeIns base (some ⟨g, 0, none⟩) (K ++ [key]) w (.returned (.slice (some ⟨w.heap.size, 0, none⟩) (i + 1) (grownCap w (i + 1) cap 9))) (w.drew.alloc (.cells (((K.map Value.string) ++ [Value.string key]).toArray ++ Builtin.zeroCells (Value.string ⟨#[]⟩).cells (grownCap w (i + 1) cap 9 - (i + 1))) 9))
        rw [hG]
        refine ⟨_, _, by rw [hLL], ⟨by simp [hl], .inr ⟨w.heap.size, G, _, by rw [hLL], hb, row_new w.drew _ _, by rw [hLL]; exact hG1, hG2, by simp only [Array.size_append, size_zeroCells, hz, List.size_toArray, List.length_append, List.length_map, hl, List.length_cons, List.length_nil]; omega, ?_⟩⟩, ?_⟩
        · rw [hLL]
          simp only [Array.toList_append]
          rw [List.take_append_of_le_length (by simp [hl]), List.take_of_length_le (by simp [hl])]
          simp
        · exact growA (growDr (World.grownBy.refl _ _)) _
      · have hcon := Any2.slices_Insert_string_end_room Tryz.laysNm222 g 0 i cap vb 0 1 vc [.string key] w (by decide) hroom hmx rfl (fun j hj => by rw [Nat.zero_add]; have := hsome (i + j) (by omega); rwa [Nat.zero_add] at this) (fun j hj => hr.free _) hvs h1v
        change Calls Tryz.prog 73 _ _ _ at hcon
        refine hcon.mono ?_
        rintro e w' ⟨rfl, rfl⟩
        rw [htn, hdn]
        rw [htn, hdn] at hLL
        simp only [Nat.zero_add]
        obtain ⟨c2, r2, s2, l2⟩ := row_sets [.string key] i _ _ hr (by rw [hcs]; simp; omega)
        refine ⟨_, _, by rw [hLL], ⟨by simp [hl], .inr ⟨g, cap, c2, by rw [hLL], hg, r2, by rw [hLL]; exact hroom, hc2, by rw [s2, hcs]; omega, ?_⟩⟩, ?_⟩
        · rw [hLL, l2, htk]
          rw [List.take_append_of_le_length (by simp [hl]), List.take_of_length_le (by simp [hl])]
          simp
        · exact grow_sets g _ _ _ _ (World.grownBy.refl _ _)
  rcases h.2 with ⟨hq, h0⟩ | ⟨g, cap, cur, hv2, hg, hr, hc1, hc2, hs, htk⟩
  · simp only [Value.slice.injEq] at hq
    obtain ⟨rfl, h00, rfl⟩ := hq
    subst h0
    obtain rfl : i = 0 := by omega
    obtain rfl : K = [] := List.length_eq_zero_iff.1 hl
    have hcon := Any2.slices_Insert_string_end_grow Tryz.laysNm222 none 0 0 vb 0 1 vc [] [.string key] w (by decide) (Nat.le_refl _) (by decide) (by decide) rfl rfl (fun _ => rfl) (fun a ha => by cases ha) hvs h1v
    change Calls Tryz.prog 73 _ _ _ at hcon
    refine hcon.mono ?_
    rintro e w' ⟨rfl, rfl⟩
    obtain ⟨G, hG⟩ : ∃ G, grownCap w (0 + 1) 0 9 = G := ⟨_, rfl⟩
    have hG1 : 0 + 1 ≤ G := by rw [← hG]; exact grownCap_ge _ _ _ _
    have hG2 : G ≤ maxLen := by rw [← hG]; exact grownCap_le_maxLen _ _ _ _ (by unfold maxLen; omega)
    have hz : (Value.string ⟨#[]⟩).cells.size = 1 := rfl
    change MadeIns base none [key] w (.returned (.slice (some ⟨w.heap.size, 0, none⟩) (0 + 1) (grownCap w (0 + 1) 0 9))) (w.drew.alloc (.cells (([] ++ [Value.string key]).toArray ++ Builtin.zeroCells (Value.string ⟨#[]⟩).cells (grownCap w (0 + 1) 0 9 - (0 + 1))) 9))
    rw [hG]
    refine ⟨_, _, rfl, ⟨by simp, .inr ⟨w.heap.size, G, _, rfl, hb, row_new w.drew _ _, hG1, hG2, by simp only [Array.size_append, size_zeroCells, hz, List.size_toArray, List.length_append, List.length_cons, List.length_nil]; omega, ?_⟩⟩, ?_⟩
    · simp
    · exact growA (growDr (World.grownBy.refl _ _)) _
  · simp only [Value.slice.injEq, true_and] at hv2
    obtain ⟨hq, hcp⟩ := hv2
    exact hbase g cur cap hq hg hr hc1 hcp.symm hc2 (by omega) (by simpa using htk)
end Go.Proofs.YtblpebdjbenphaaGreatDoor
