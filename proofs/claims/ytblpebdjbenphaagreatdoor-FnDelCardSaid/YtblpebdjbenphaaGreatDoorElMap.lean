
/- The program's map of a store's elements, under a reading of its own: look-ups and stores. -/
import Derived.Test.YtblpebdjbenphaaGreatDoorMg8
import Derived.Maps.OwnSet
namespace Go.Proofs.YtblpebdjbenphaaGreatDoor
open Go.ChangeShapes Go.WideShapes Go.ChangeAt Go.RowKit
set_option linter.unusedVariables false
set_option maxRecDepth 100000

def RU (_ : Value) : Option (DataW Unit × List MemPlace) := some (.lit (.bool true), [])
def elV (e : ElV) : Value := .agg #[.int .i64 e.1, .string e.2.1, .bool e.2.2]
def el0 : ElV := (0, ⟨#[]⟩, false)
theorem keyT : Maps.Keyed Tryz.prog 9 := Maps.string_keyed Tryz.underlying9
theorem keyS {s : ByteArray} (h : s.size ≤ maxLen) : keyOf Tryz.prog 9 (.string s) = some (.string s.data.toList) := WideMaps.keyOf_string_mk Tryz.underlying9 h
theorem zeroEl (w : World) : (zeroValue 94).run Tryz.prog w = .ok (elV el0) w := by kernel_rfl

/-- Block b is a map of at most n entries that holds just what g says. -/
def MapIs (w : World) (b n : Nat) (g : ByteArray → Option ElV) : Prop :=
  ∃ es clock, w.heap[b]? = some (.map es clock) ∧ WideElems.Fit Tryz.prog 9 RU es clock ∧ es.size ≤ n ∧
    (∀ x ∈ es.toList, ∃ s e, x.key = .string s ∧ s.size ≤ maxLen ∧ x.val = elV e ∧ g s = some e) ∧ ∀ s e, g s = some e → ∃ x ∈ es.toList, x.key = .string s
theorem MapIs.made (w : World) : MapIs (w.alloc (.map #[] 0)) w.heap.size 0 (fun _ => none) :=
  ⟨#[], 0, (MapKept.heap_alloc w _).1, ⟨by simp, MapKept.stamped_empty 0, by simp⟩, Nat.le_refl _, by simp, by simp⟩
theorem MapIs.lt {w : World} {b n : Nat} {g : ByteArray → Option ElV} (h : MapIs w b n g) : b < w.heap.size := by
  obtain ⟨es, clock, hb, _⟩ := h
  exact (Array.getElem?_eq_some_iff.1 hb).1
theorem MapIs.grown {w w1 : World} {b n : Nat} {g : ByteArray → Option ElV} {row : Option Nat} (h : MapIs w b n g) (hg : w.grownBy w1 row) (hne : some b ≠ row) : MapIs w1 b n g := by
  have hlt := h.lt
  obtain ⟨es, clock, hb, r⟩ := h
  exact ⟨es, clock, (hg.block b hlt hne).trans hb, r⟩
theorem MapIs.keep {w w1 : World} {b n : Nat} {g : ByteArray → Option ElV} (h : MapIs w b n g) (hB : Below w.heap.size w w1) : MapIs w1 b n g := by
  have hlt := h.lt
  obtain ⟨es, clock, hb, r⟩ := h
  exact ⟨es, clock, (hB.block b hlt).trans hb, r⟩
theorem MapIs.put {w : World} {b n : Nat} {g : ByteArray → Option ElV} (h : MapIs w b n g) {X : Nat} (hne : b ≠ X) (j : Nat) (v : Value) : MapIs (w.setCell ⟨X, j, none⟩ v) b n g := by
  obtain ⟨es, clock, hb, r⟩ := h
  exact ⟨es, clock, (Below.heap_setCell w ⟨X, j, none⟩ v b hne).trans hb, r⟩
theorem MapIs.as {w : World} {b n : Nat} {g g' : ByteArray → Option ElV} (h : MapIs w b n g) (hg : ∀ s, g s = g' s) {n' : Nat} (hn : n ≤ n') : MapIs w b n' g' := by
  obtain ⟨es, clock, hb, F, hs, h1, h2⟩ := h
  obtain rfl : g = g' := funext hg
  exact ⟨es, clock, hb, F, Nat.le_trans hs hn, h1, h2⟩
theorem str_inj {s u : ByteArray} (h : Value.string s = Value.string u) : s = u := by cases h; rfl
theorem MapIs.look {w : World} {b n : Nat} {g : ByteArray → Option ElV} (h : MapIs w b n g) {s : ByteArray} (hs : s.size ≤ maxLen) (c : Bool) :
    (Instr.lookup 92 (.map (some b)) (.string s) c).run Tryz.prog w = .ok (if c then .tuple #[elV ((g s).getD el0), .bool (g s).isSome] else elV ((g s).getD el0)) w := by
  obtain ⟨es, clock, hb, F, _, h1, h2⟩ := h
  rcases Maps.fit_look c keyT Tryz.underlying92 (zeroEl w) hb F (keyS hs) with ⟨hrun, hno, _⟩ | ⟨e0, y, hm, hk, hrun, _, _, _⟩
  · have hg : g s = none := by
      cases hgs : g s with
      | none => rfl
      | some e =>
        obtain ⟨x, hx, hxk⟩ := h2 s e hgs
        exact absurd hxk (hno x hx)
    rw [hrun, hg]; rfl
  · obtain ⟨s', e, hk', _, hv, hg⟩ := h1 e0 hm
    rw [hk] at hk'
    have := str_inj hk'
    subst this
    rw [hrun, hg, hv]; rfl
theorem MapIs.store {w : World} {b n : Nat} {g : ByteArray → Option ElV} (h : MapIs w b n g) {s : ByteArray} (hs : s.size ≤ maxLen) (hn : n < maxLen) (e : ElV) :
    ∃ w', (Instr.mapUpdate 92 (.map (some b)) (.string s) (elV e)).run Tryz.prog w = .ok () w' ∧ MapIs w' b (n + 1) (fun k => if sameT s k = true then some e else g k) ∧ w.grownBy w' (some b) := by
  obtain ⟨es, clock, hb, F, hz, h1, h2⟩ := h
  obtain ⟨es', clock', hrun, F', hput, _, _, hwho⟩ := Maps.fit_store (R' := RU) keyT Tryz.underlying92 hb F (Nat.lt_of_le_of_lt hz hn) (fun _ _ _ _ hz => hz) (keyS hs) (val := elV e) (yv := (.lit (.bool true), [])) rfl
  have hsize : es'.size ≤ n + 1 := by
    have e1 : es'.size = ((es'.toList.map (WideElems.rg Tryz.prog 9 RU)).foldr DataW.insert []).length := by rw [length_sorted]; simp
    rw [e1, hput]
    unfold ChangeMaps.putKey
    rw [length_insert]
    have e2 := List.length_filter_le (ChangeMaps.notKey (.string s.data.toList)) ((es.toList.map (WideElems.rg Tryz.prog 9 RU)).foldr DataW.insert [])
    rw [length_sorted] at e2
    simp at e2
    omega
  have hin : ∀ p : Lit × DataW Unit, p ∈ es'.toList.map (WideElems.rg Tryz.prog 9 RU) ↔ p = (.string s.data.toList, .lit (.bool true)) ∨ (p ∈ es.toList.map (WideElems.rg Tryz.prog 9 RU) ∧ ChangeMaps.notKey (.string s.data.toList) p = true) := by
    intro p
    rw [← (sorted_perm (es'.toList.map (WideElems.rg Tryz.prog 9 RU))).mem_iff, hput]
    unfold ChangeMaps.putKey
    rw [ChangeMaps.mem_insert_iff, List.mem_filter, (sorted_perm (es.toList.map (WideElems.rg Tryz.prog 9 RU))).mem_iff]
  have hrg : ∀ (ds : Array MapEntry) (cl : Nat), WideElems.Fit Tryz.prog 9 RU ds cl → ∀ x ∈ ds.toList, ∀ u : ByteArray, u.size ≤ maxLen → x.key = .string u → WideElems.rg Tryz.prog 9 RU x = (.string u.data.toList, .lit (.bool true)) := by
    intro ds cl Fd x hx u hu hk
    obtain ⟨y, hy⟩ := Fd.reads x hx
    rw [WideElems.rg_of hy]
    have m1 := WideElems.rd_key hy
    rw [hk, keyS hu] at m1
    obtain ⟨z, hz, he⟩ := WideElems.rd_val hy
    simp only [Option.some.injEq] at m1
    unfold RU at hz
    simp only [Option.some.injEq] at hz
    have : y.2 = .lit (.bool true) := by rw [he, ← hz]
    cases y
    simp at m1 this
    rw [← m1, this]
  have hlit : ∀ u : ByteArray, (Lit.string u.data.toList = Lit.string s.data.toList) → u = s := by
    intro u hu
    simp only [Lit.string.injEq] at hu
    exact bytesInj (by rw [Lib.toList_data, Lib.toList_data, hu])
  have hnk : ∀ u : ByteArray, u ≠ s → ChangeMaps.notKey (.string s.data.toList) ((.string u.data.toList, .lit (.bool true)) : Lit × DataW Unit) = true := by
    intro u hu
    exact (ChangeMaps.notKey_iff ⟨_, rfl⟩ ⟨_, rfl⟩).2 (fun he => hu (hlit u he))
  refine ⟨_, hrun, ⟨es', clock', ChangeMaps.heap_setBlock_same hb _, F', hsize, ?_, ?_⟩, ⟨rfl, rfl, rfl, by simp [ChangeMaps.setBlock], fun i _ hi => ChangeMaps.heap_setBlock_other hb _ (fun e => hi (by rw [e]))⟩⟩
  · intro x hx
    rcases hwho x hx with ⟨hx0, hk⟩ | ⟨hk, hv⟩
    · obtain ⟨u, e', hk', hu, hv, hg⟩ := h1 x hx0
      refine ⟨u, e', hk', hu, hv, ?_⟩
      have : ¬ sameT s u = true := fun h => hk (by rw [hk', sameT_eq h])
      simp only [if_neg this]; exact hg
    · exact ⟨s, e, hk, hs, hv, by simp [sameT_refl]⟩
  · intro u e' hg
    have key : ∀ u' : ByteArray, u'.size ≤ maxLen → (.string u'.data.toList, .lit (.bool true)) ∈ es'.toList.map (WideElems.rg Tryz.prog 9 RU) → ∃ x ∈ es'.toList, x.key = .string u' := by
      intro u' hu' hm
      obtain ⟨x, hx, hxe⟩ := List.mem_map.1 hm
      refine ⟨x, hx, ?_⟩
      obtain ⟨y, hy⟩ := F'.reads x hx
      rw [WideElems.rg_of hy] at hxe
      have m1 := WideElems.rd_key hy
      rw [hxe] at m1
      exact keyT.inj m1 (keyS hu')
    by_cases hu : sameT s u = true
    · rw [← sameT_eq hu]
      exact key s hs ((hin _).2 (.inl rfl))
    · simp only [if_neg hu] at hg
      obtain ⟨x, hx, hxk⟩ := h2 u e' hg
      obtain ⟨u', _, hk', hu', _, _⟩ := h1 x hx
      rw [hxk] at hk'
      have := str_inj hk'
      subst this
      refine key u hu' ((hin _).2 (.inr ⟨?_, hnk u (fun h => hu (by rw [h]; exact sameT_refl _))⟩))
      rw [← hrg es clock F x hx u hu' hxk]
      exact List.mem_map.2 ⟨x, hx, rfl⟩

theorem wpList_look_el (w : World) {ops : Array Oper} {rest : List Oper} {o : Oper} {a : Act} {Q : Exit → Act → World → Prop}
    (hg : o.guard = none) (m x : Operand) (c : Bool) (hop : o.op = Op.lookup 92 m x c) (b n : Nat) (g : ByteArray → Option ElV) (hm : a.eval m = .map (some b)) (hown : MapIs w b n g)
    (s : ByteArray) (hx : a.eval x = .string s) (hs : s.size ≤ maxLen) (r : Option ElV) (hr : g s = r)
    (hK : wpList Tryz.prog ops Q rest (a.put o.dst (if c then .tuple #[elV (r.getD el0), .bool r.isSome] else elV (r.getD el0))) w) :
    wpList Tryz.prog ops Q (o :: rest) a w := by
  refine wpList_plain hg fun K' hK' => ?_
  have hrun := hown.look hs c
  rw [hr] at hrun
  cases c with
  | true =>
    unfold Oper.wp
    simp [execOp, hop, hm, hx, hrun, Result.andThen]
    exact hK' _ _ hK
  | false =>
    unfold Oper.wp
    simp [execOp, hop, hm, hx, hrun, Result.andThen]
    exact hK' _ _ hK
theorem wpList_store_el (w : World) {ops : Array Oper} {rest : List Oper} {o : Oper} {a : Act} {Q : Exit → Act → World → Prop}
    (hg : o.guard = none) (m x v : Operand) (hop : o.op = Op.mapUpdate 92 m x v) (b n : Nat) (g : ByteArray → Option ElV) (hm : a.eval m = .map (some b)) (hown : MapIs w b n g) (hn : n < maxLen)
    (s : ByteArray) (hx : a.eval x = .string s) (hs : s.size ≤ maxLen) (e : ElV) (hv : a.eval v = elV e)
    (hK : ∀ w', MapIs w' b (n + 1) (fun k => if sameT s k = true then some e else g k) → w.grownBy w' (some b) → wpList Tryz.prog ops Q rest (a.put o.dst undef) w') :
    wpList Tryz.prog ops Q (o :: rest) a w := by
  refine wpList_plain hg fun K' hK' => ?_
  obtain ⟨w', hrun, r1, r2⟩ := hown.store hs hn e
  unfold Oper.wp
  simp [execOp, hop, hm, hx, hv, hrun, Result.andThen]
  exact hK' _ _ (hK w' r1 r2)
end Go.Proofs.YtblpebdjbenphaaGreatDoor
