
/- The program's Swap over a row of records of the call's own, and copy of records onto such a row; such a row is one that the library's sort may turn. -/
import Derived.Test.YtjofbeokkainlaaGreatDoorMg28
import Derived.Test.YtjofbeokkainlaaGreatDoorMg18
import Derived.Test.YtjofbeokkainlaaGreatDoorMg1
import Derived.Test.YtjofbeokkainlaaGreatDoorMg20
import Derived.Laws.CopyOwn
namespace Go.Proofs.YtjofbeokkainlaaGreatDoor
open Go.ChangeShapes Go.WideShapes Go.ChangeAt Go.RowKit Go.Lib
open Go.Sort (swp PermIn SortedIn SWO)
set_option linter.unusedVariables false
set_option maxRecDepth 100000

def Swapped (w : World) (g i j : Nat) (ki kj : ByteArray) (ni nj : Int) (e : Ending) (w' : World) : Prop :=
  e = .returned (.tuple #[]) ∧ ∃ q, w' = ((((w.setCell ⟨g, i * 2, none⟩ (.string kj)).setCell ⟨g, i * 2 + 1, none⟩ (.int .i64 nj)).setCell ⟨g, j * 2, none⟩ (.string ki)).setCell ⟨g, j * 2 + 1, none⟩ (.int .i64 ni)).drewN q

set_option maxHeartbeats 2000000 in
theorem swapm_any (g n cp i j : Nat) (ki kj : ByteArray) (ni nj : Int) (w : World) (hn : n < 4611686018427387904) (hi : i < n) (hj : j < n)
    (c0 : w.cell? ⟨g, i * 2, none⟩ = some (.string ki)) (c1 : w.cell? ⟨g, i * 2 + 1, none⟩ = some (.int .i64 ni))
    (d0 : w.cell? ⟨g, j * 2, none⟩ = some (.string kj)) (d1 : w.cell? ⟨g, j * 2 + 1, none⟩ = some (.int .i64 nj)) (hf : ∀ o, w.frozen? ⟨g, o, none⟩ = false) :
    Calls Tryz.prog 221 #[.slice (some ⟨g, 0, none⟩) n cp, .int .i64 i, .int .i64 j] w (Swapped w g i j ki kj ni nj) := by
  have z0 := hf (i * 2)
  have z1 := hf (i * 2 + 1)
  have z2 := hf (j * 2)
  have z3 := hf (j * 2 + 1)
  have hiz : (i : Int) < (n : Int) := by omega
  have hjz : (j : Int) < (n : Int) := by omega
  clear hf
  by_cases hij : i = j
  · subst hij
    obtain rfl : ki = kj := by rw [c0] at d0; simpa using d0
    obtain rfl : ni = nj := by rw [c1] at d1; simpa using d1
    clear d0 d1 z2 z3
    go_enter Tryz.func221, Tryz.ntmps221
    go_wp2_with fail
    go_region_with fail
    all_goals (go_wp2_with fail)
    all_goals (go_end0; exact ⟨rfl, 1, rfl⟩)
  · have n0 : i * 2 ≠ j * 2 := by omega
    have n1 : i * 2 ≠ j * 2 + 1 := by omega
    have n2 : i * 2 + 1 ≠ j * 2 := by omega
    have n3 : i * 2 + 1 ≠ j * 2 + 1 := by omega
    go_enter Tryz.func221, Tryz.ntmps221
    go_wp2_with fail
    go_region_with fail
    all_goals (go_wp2_with fail)
    all_goals (go_end0; exact ⟨rfl, 1, rfl⟩)

/-- copy of k elements of two cells onto a row. -/
theorem run_copy2 {P : Program} (w : World) (dT sT ty elem : TypeId) (g dLen dCap : Nat) (a : Addr) (sLen sCap : Nat) (cur : Array Value) (t : TypeId) (cs : List Value)
    (hu : P.underlying dT = some (.slice elem)) (hs : (P.info? elem).map (·.size) = some 2) (hg : w.heap[g]? = some (.cells cur t (0, 0))) (hn : cs.length = Nat.min sLen dLen * 2)
    (hsrc : ∀ j v, cs[j]? = some v → w.cell? (a.add j) = some v) (hfit : cs.length ≤ cur.size) (h1 : ∀ v ∈ cs, v.oneCell' = true) :
    (Builtin.copy_ #[dT, sT] ty #[.slice (some ⟨g, 0, none⟩) dLen dCap, .slice (some a) sLen sCap]).run P w =
      .ok (goInt (Nat.min sLen dLen)) (w.setRow g (cur.toList.take 0 ++ cs ++ cur.toList.drop (0 + cs.length)).toArray) := by
  have hl := run_loadCells_list (P := P) w a cs hsrc
  have hst := run_storeCells_at P g 0 t cs 0 cur w hg (by simpa using hfit) h1
  cases hq : P.info? elem with
  | none => simp [hq] at hs
  | some i =>
    have hi : i.size = 2 := by simpa [hq] using hs
    rw [hn] at hl
    simp [Builtin.copy_, run_underlying hu, Builtin.lenOf, Builtin.firstCells, sizeOf, typeInfo, hq, hi, hl]
    simp at hst
    rw [hst]
    rfl

/-! The row that is sorted. -/
theorem rget (V : RA) (i : Nat) (h : i < V.size) : V[i]! = (keyAt V.toList i, numAt V.toList i) := by
  rw [getElem!_pos V i h]
  unfold keyAt numAt
  rw [List.getD_eq_getElem?_getD, List.getElem?_eq_getElem (by simpa using h)]
  simp
theorem Laid.setRec {cur : Array Value} {W : Recs} {n i : Nat} (r : ByteArray × Int) (h : Laid cur W n) (hn : W.length = n) (hi : i < n) (hs : cur.size = n * 2) :
    Laid ((cur.setIfInBounds (i * 2) (.string r.1)).setIfInBounds (i * 2 + 1) (.int .i64 r.2)) (W.set i r) n := by
  intro j hj
  obtain ⟨e1, e2⟩ := h j hj
  have h1 : i * 2 < cur.size := by omega
  have h2 : i * 2 + 1 < cur.size := by omega
  by_cases hji : j = i
  · subst hji
    have hk : keyAt (W.set j r) j = r.1 ∧ numAt (W.set j r) j = r.2 := by
      unfold keyAt numAt
      rw [List.getD_eq_getElem?_getD, List.getElem?_set_self (by omega)]
      exact ⟨rfl, rfl⟩
    rw [hk.1, hk.2]
    constructor
    · rw [Array.getElem?_setIfInBounds_ne (by omega)]; simp [h1]
    · simp [h2]
  · have hk : keyAt (W.set i r) j = keyAt W j ∧ numAt (W.set i r) j = numAt W j := by
      unfold keyAt numAt
      rw [List.getD_eq_getElem?_getD, List.getElem?_set_ne (by omega), ← List.getD_eq_getElem?_getD]
      exact ⟨rfl, rfl⟩
    rw [hk.1, hk.2]
    constructor
    · rw [Array.getElem?_setIfInBounds_ne (by omega), Array.getElem?_setIfInBounds_ne (by omega)]; exact e1
    · rw [Array.getElem?_setIfInBounds_ne (by omega), Array.getElem?_setIfInBounds_ne (by omega)]; exact e2

/-- V stands in block g, whose keys are short; what W had below base is as it was. -/
def RowR (base g n : Nat) (W : World) (V : RA) (w : World) : Prop :=
  V.size = n ∧ (∃ cur, Row w g 37 cur ∧ cur.size = n * 2 ∧ Laid cur V.toList n) ∧ Below base W w ∧ ∀ i, i < n → (keyAt V.toList i).size ≤ 40

theorem rowR_sort (base g n cp : Nat) (W : World) (hbg : base ≤ g) (hn : n ≤ 600) : SortRow (RowR base g n W) (some ⟨g, 0, none⟩) n cp n (g + 1) where
  size := fun h => h.1
  room := fun h => by obtain ⟨cur, hr, _⟩ := h.2.1; exact hr.lt
  drewN := fun q h => ⟨h.1, by obtain ⟨cur, hr, h1⟩ := h.2.1; exact ⟨cur, hr, h1⟩, by exact ⟨h.2.2.1.os, h.2.2.1.tape, h.2.2.1.output, h.2.2.1.size, h.2.2.1.block⟩, h.2.2.2⟩
  alloc := fun o h => ⟨h.1, by obtain ⟨cur, hr, h1⟩ := h.2.1; exact ⟨cur, hr.keep (below_alloc (Below.refl _ _) o), h1⟩, by obtain ⟨cur, hr, h1⟩ := h.2.1; exact h.2.2.1.alloc (by have := hr.lt; omega) o, h.2.2.2⟩
  set := fun b o v h hb => ⟨h.1, by obtain ⟨cur, hr, h1⟩ := h.2.1; exact ⟨cur, hr.other (show g ≠ b by omega) o v, h1⟩, h.2.2.1.setCell (by show base ≤ b; omega) v, h.2.2.2⟩
  less := fun {V w} i j h hi hj => by
    obtain ⟨hs, ⟨cur, hr, hc, hl⟩, hB, hk⟩ := h
    have hre : RecsAt w (some ⟨g, 0, none⟩) n V.toList := RecsAt.ofRow hr (by simpa using hs) (by unfold maxLen; omega) (fun i hi => by have := hk i hi; unfold maxLen; omega) hl
    refine (lessm_any _ _ _ _ i j _ hre hi hj).mono ?_
    rintro e w' ⟨rfl, hB'⟩
    have ho : okAt V.toList i = true ∧ okAt V.toList j = true := ⟨okB_yes (hk i hi), okB_yes (hk j hj)⟩
    refine ⟨?_, ⟨hs, ⟨cur, hr.keep hB', hc, hl⟩, hB.trans (hB'.mono (by have := hr.lt; omega)), hk⟩, hB'.size, fun b o _ hb => ⟨hB'.cell (p := ⟨b, o, none⟩) hb, hB'.frozen (p := ⟨b, o, none⟩) hb⟩⟩
    rw [ho.1, ho.2, rget V i (by omega), rget V j (by omega)]
    rfl
  swap := fun {V w} i j h hi hj => by
    obtain ⟨hs, ⟨cur, hr, hc, hl⟩, hB, hk⟩ := h
    have hre : RecsAt w (some ⟨g, 0, none⟩) n V.toList := RecsAt.ofRow hr (by simpa using hs) (by unfold maxLen; omega) (fun i hi => by have := hk i hi; unfold maxLen; omega) hl
    rcases hre.src with h0 | ⟨b, off, hb, _, hcell⟩
    · omega
    · simp only [Option.some.injEq, Addr.mk.injEq, and_true] at hb
      obtain ⟨rfl, rfl⟩ := hb
      have hci := hcell i hi
      have hcj := hcell j hj
      simp only [Nat.zero_add] at hci hcj
      refine (swapm_any g n cp i j _ _ _ _ w (by omega) hi hj hci.1 hci.2 hcj.1 hcj.2 hr.free).mono ?_
      rintro e w' ⟨rfl, q, rfl⟩
      have hlen : V.toList.length = n := by simpa using hs
      have hset : (swp V i j).toList = (V.toList.set i (keyAt V.toList j, numAt V.toList j)).set j (keyAt V.toList i, numAt V.toList i) := by
        unfold Go.Sort.swp
        rw [rget V i (by omega), rget V j (by omega)]
        simp
      have hl2 := (hl.setRec (keyAt V.toList j, numAt V.toList j) hlen hi hc).setRec (keyAt V.toList i, numAt V.toList i) (by simpa using hlen) hj (by simpa using hc)
      rw [← hset] at hl2
      have hks : ∀ k, k < n → (keyAt (swp V i j).toList k).size ≤ 40 := fun k hkn => by
        rw [hset]
        unfold keyAt
        rw [List.getD_eq_getElem?_getD]
        by_cases hkj : k = j
        · subst hkj
          rw [List.getElem?_set_self (by simpa using by omega)]
          exact hk i hi
        · rw [List.getElem?_set_ne (by omega)]
          by_cases hki : k = i
          · subst hki
            rw [List.getElem?_set_self (by omega)]
            exact hk j hj
          · rw [List.getElem?_set_ne (by omega), ← List.getD_eq_getElem?_getD]
            exact hk k hkn
      have hrow := (((hr.set (i * 2) (.string (keyAt V.toList j))).set (i * 2 + 1) (.int .i64 (numAt V.toList j))).set (j * 2) (.string (keyAt V.toList i))).set (j * 2 + 1) (.int .i64 (numAt V.toList i))
      have hbel := (((hB.setCell (p := ⟨g, i * 2, none⟩) hbg (.string (keyAt V.toList j))).setCell (p := ⟨g, i * 2 + 1, none⟩) hbg (.int .i64 (numAt V.toList j))).setCell (p := ⟨g, j * 2, none⟩) hbg (.string (keyAt V.toList i))).setCell (p := ⟨g, j * 2 + 1, none⟩) hbg (.int .i64 (numAt V.toList i))
      refine ⟨rfl, ⟨by rw [← hs]; simp [Go.Sort.swp], ⟨_, hrow, by simpa using hc, hl2⟩, ⟨hbel.os, hbel.tape, hbel.output, hbel.size, hbel.block⟩, hks⟩, by simp [World.drewN], fun b o hb hlt => ?_⟩
      have ho : ∀ p, (⟨g, p, none⟩ : Addr) ≠ ⟨b, o, none⟩ := fun p e => by simp only [Addr.mk.injEq, and_true] at e; omega
      constructor
      · rw [World.cell?_drewN, World.cell?_setCell_other _ _ _ _ (ho _), World.cell?_setCell_other _ _ _ _ (ho _), World.cell?_setCell_other _ _ _ _ (ho _), World.cell?_setCell_other _ _ _ _ (ho _)]
      · rw [World.frozen?_drewN, World.frozen?_setCell, World.frozen?_setCell, World.frozen?_setCell, World.frozen?_setCell]

/-! The order. -/
theorem ltR_le (a b : ByteArray × Int) : ltR a b = !leR b a := by unfold ltR leR; simp
theorem ltR_swo : SWO ltR where
  irrefl := fun x => by
    have := leR_total x x
    rw [ltR_le]
    cases h : leR x x with
    | true => rfl
    | false => rw [h] at this; cases this
  trans := fun x y z h1 h2 => by
    rw [ltR_le, Bool.not_eq_true'] at h1 h2 ⊢
    cases h : leR z x with
    | false => rfl
    | true =>
      have hyz : leR y z = true := by
        have := leR_total y z
        rw [h2, Bool.or_false] at this; exact this
      rw [leR_trans y z x hyz h] at h1; cases h1
  ntrans := fun x y z h1 h2 => by
    rw [ltR_le, Bool.not_eq_false'] at h1 h2 ⊢
    exact leR_trans z y x h2 h1
/-- A sorted row with the records of V is V in order. -/
theorem sorted_row {V V' : RA} {n : Nat} (hn : V.size = n) (hp : PermIn 0 n V V') (hs : SortedIn ltR 0 n V') : V'.toList = sortL V.toList := by
  have hsz : V'.size = n := hp.1.trans hn
  have hperm : V'.toList.Perm V.toList := by
    have := hp.2.2
    rw [show V'.extract 0 n = V' by rw [← hsz]; simp, show V.extract 0 n = V by rw [← hn]; simp] at this
    exact this
  refine (sortL_of ?_ hperm).symm
  unfold InOrder
  rw [List.pairwise_iff_getElem]
  intro i j hi hj hij
  have hi' : i < V'.size := by simpa using hi
  have hj' : j < V'.size := by simpa using hj
  have := hs i j (Nat.zero_le _) hij (by omega)
  rw [ltR_le, Bool.not_eq_false', rget V' i hi', rget V' j hj', ← at_get V'.toList i hi, ← at_get V'.toList j hj] at this
  exact this
end Go.Proofs.YtjofbeokkainlaaGreatDoor
