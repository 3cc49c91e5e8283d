
/- The laws' marks in a store of the call's own rows (nil slices too), and whether they are still there. -/
import Derived.Test.YtdjfihoempjjpaaDoorStoK
import Derived.Test.YtdjfihoempjjpaaDoorMarkSto
namespace Go.Proofs.YtdjfihoempjjpaaDoor
open Go.ChangeShapes Go.WideShapes Go.ChangeAt Go.RowKit
set_option linter.unusedVariables false
set_option maxRecDepth 100000

/-- Only the rows of q1 and q2 and new blocks may have turned. -/
structure ButK (q1 q2 : Option Addr) (w w' : World) : Prop where
  os : w'.os = w.os
  tape : w'.tape = w.tape
  output : w'.output = w.output
  size : w.heap.size ≤ w'.heap.size
  block : ∀ i, i < w.heap.size → (∀ g, q1 = some ⟨g, 0, none⟩ → i ≠ g) → (∀ g, q2 = some ⟨g, 0, none⟩ → i ≠ g) → w'.heap[i]? = w.heap[i]?
theorem ButK.of {q1 q2 : Option Addr} {w w1 : World} (h : Below w.heap.size w w1) : ButK q1 q2 w w1 := ⟨h.os, h.tape, h.output, h.size, fun i hi _ _ => h.block i hi⟩
theorem ButK.trans {q1 q2 : Option Addr} {w w1 w2 : World} (h : ButK q1 q2 w w1) (k : ButK q1 q2 w1 w2) : ButK q1 q2 w w2 :=
  ⟨k.os.trans h.os, k.tape.trans h.tape, k.output.trans h.output, Nat.le_trans h.size k.size, fun i hi a b => (k.block i (Nat.lt_of_lt_of_le hi h.size) a b).trans (h.block i hi a b)⟩
theorem ButK.row {q1 q2 : Option Addr} {w w1 : World} {X : Nat} {T : TypeId} {cur : Array Value} (h : ButK q1 q2 w w1) (r : Row w X T cur) (h1 : ∀ g, q1 = some ⟨g, 0, none⟩ → X ≠ g) (h2 : ∀ g, q2 = some ⟨g, 0, none⟩ → X ≠ g) : Row w1 X T cur := (h.block X r.lt h1 h2).trans r
theorem ButK.below {q1 q2 : Option Addr} {w0 w w1 : World} {base : Nat} (h : ButK q1 q2 w w1) (k : Below base w0 w) (hb : base ≤ w.heap.size) (h1 : ∀ g, q1 = some ⟨g, 0, none⟩ → base ≤ g) (h2 : ∀ g, q2 = some ⟨g, 0, none⟩ → base ≤ g) : Below base w0 w1 :=
  k.trans ⟨h.os, h.tape, h.output, h.size, fun i hi => h.block i (by omega) (fun g hg => by have := h1 g hg; omega) (fun g hg => by have := h2 g hg; omega)⟩
def MKo (w : World) (q : Option Addr) (n k0 : Nat) : Prop := n = 0 ∨ ∃ g cur, q = some ⟨g, 0, none⟩ ∧ Row w g 60 cur ∧ MarkedObj cur k0 n
def MKg (w : World) (q : Option Addr) (n k0 : Nat) : Prop := n = 0 ∨ ∃ g cur, q = some ⟨g, 0, none⟩ ∧ Row w g 101 cur ∧ MarkedGone cur k0 n
theorem MKo.keep {w w1 : World} {q : Option Addr} {n k0 : Nat} (h : MKo w q n k0) (hB : Below w.heap.size w w1) : MKo w1 q n k0 := by
  rcases h with h | ⟨g, cur, h1, h2, h3⟩
  · exact .inl h
  · exact .inr ⟨g, cur, h1, h2.keep hB, h3⟩
theorem MKg.keep {w w1 : World} {q : Option Addr} {n k0 : Nat} (h : MKg w q n k0) (hB : Below w.heap.size w w1) : MKg w1 q n k0 := by
  rcases h with h | ⟨g, cur, h1, h2, h3⟩
  · exact .inl h
  · exact .inr ⟨g, cur, h1, h2.keep hB, h3⟩
theorem MKo.grown {w w1 : World} {q : Option Addr} {n k0 : Nat} {row : Option Nat} (h : MKo w q n k0) (hg : w.grownBy w1 row) (hne : ∀ g, q = some ⟨g, 0, none⟩ → row ≠ some g) : MKo w1 q n k0 := by
  rcases h with h | ⟨g, cur, h1, h2, h3⟩
  · exact .inl h
  · exact .inr ⟨g, cur, h1, h2.grown hg (hne g h1), h3⟩
def MadeMK (q1 q2 : Option Addr) (n1 n2 : Nat) (w : World) (e : Ending) (w' : World) : Prop := e = .returned (.int .i64 ((1 + 3 * n1 + 2 * n2 : Nat) : Int)) ∧ ButK q1 q2 w w' ∧ MKo w' q1 n1 1 ∧ MKg w' q2 n2 (1 + 3 * n1)
def HeldMK (n1 n2 : Nat) (w : World) (e : Ending) (w' : World) : Prop := e = .returned (.int .i64 ((1 + 3 * n1 + 2 * n2 : Nat) : Int)) ∧ Below w.heap.size w w'

theorem ret_i64 {a b : Int} (h : a = b) : Ending.returned (.int .i64 a) = .returned (.int .i64 b) := by rw [h]
theorem marko_k {base : Nat} {w : World} {q : Option Addr} {L : Objs} (n c k0 : Nat) (h : ObjK base w q L) (hl : L.length = n) (h1 : 1 ≤ k0) (h2 : k0 + 3 * n ≤ 1099511627776) :
    Calls Tryd.prog 51 #[.slice q n c, .int .i64 k0] w fun e w' => e = .returned (.int .i64 ((k0 + 3 * n : Nat) : Int)) ∧ MKo w' q n k0 ∧ w.grownBy w' (if n = 0 then none else (Value.slice q 0 0).ownBlock) := by
  by_cases h0 : n = 0
  · subst h0
    refine (markobjs_none q c k0 _).mono ?_
    rintro e w1 ⟨rfl, rfl⟩
    exact ⟨rfl, .inl rfl, World.grownBy.refl _ _⟩
  · rcases h with hz | ⟨g, cur, rfl, hb, hr, hs, hc⟩
    · omega
    · refine (markobjs_any g n c k0 _ _ cur _ hr rfl (by omega) h1 h2).mono ?_
      rintro e w1 ⟨rfl, hg, cur1, hr1, _, hm⟩
      exact ⟨rfl, .inr ⟨g, cur1, rfl, hr1, hm⟩, by rw [if_neg h0]; exact hg⟩
theorem markg_k {base : Nat} {w : World} {q : Option Addr} {L : Gones} (n c k0 : Nat) (h : GoneK base w q L) (hl : L.length = n) (h1 : 1 ≤ k0) (h2 : k0 + 2 * n ≤ 1099511627776) :
    Calls Tryd.prog 52 #[.slice q n c, .int .i64 k0] w fun e w' => e = .returned (.int .i64 ((k0 + 2 * n : Nat) : Int)) ∧ MKg w' q n k0 ∧ w.grownBy w' (if n = 0 then none else (Value.slice q 0 0).ownBlock) := by
  by_cases h0 : n = 0
  · subst h0
    refine (markgones_none q c k0 _).mono ?_
    rintro e w1 ⟨rfl, rfl⟩
    exact ⟨rfl, .inl rfl, World.grownBy.refl _ _⟩
  · rcases h with hz | ⟨g, cur, rfl, hb, hr, hs, hc⟩
    · omega
    · refine (markgones_any g n c k0 _ _ cur _ hr rfl (by omega) h1 h2).mono ?_
      rintro e w1 ⟨rfl, hg, cur1, hr1, _, hm⟩
      exact ⟨rfl, .inr ⟨g, cur1, rfl, hr1, hm⟩, by rw [if_neg h0]; exact hg⟩
theorem heldo_k {w : World} {q : Option Addr} (n c k0 : Nat) (h : MKo w q n k0) (h1 : 1 ≤ k0) (h2 : k0 + 3 * n ≤ 1099511627776) :
    Calls Tryd.prog 53 #[.slice q n c, .int .i64 k0] w (HeldNumObj (k0 + 3 * n) w) := by
  by_cases h0 : n = 0
  · subst h0
    refine (heldobjs_none q c k0 _).mono ?_
    rintro e w1 ⟨rfl, rfl⟩
    exact ⟨rfl, Below.refl _ _⟩
  · rcases h with hz | ⟨g, cur, rfl, hr, hm⟩
    · omega
    · exact heldobjs_any g n c k0 _ cur _ hr hm h1 h2
theorem heldg_k {w : World} {q : Option Addr} (n c k0 : Nat) (h : MKg w q n k0) (h1 : 1 ≤ k0) (h2 : k0 + 2 * n ≤ 1099511627776) :
    Calls Tryd.prog 54 #[.slice q n c, .int .i64 k0] w (HeldNumGone (k0 + 2 * n) w) := by
  by_cases h0 : n = 0
  · subst h0
    refine (heldgones_none q c k0 _).mono ?_
    rintro e w1 ⟨rfl, rfl⟩
    exact ⟨rfl, Below.refl _ _⟩
  · rcases h with hz | ⟨g, cur, rfl, hr, hm⟩
    · omega
    · exact heldgones_any g n c k0 _ cur _ hr hm h1 h2

theorem own_if {q : Option Addr} {n : Nat} {i : Nat} (h : (if n = 0 then none else (Value.slice q 0 0).ownBlock) = some i) : ∃ a, q = some a ∧ a.block = i := by
  split at h
  · cases h
  · cases q with
    | none => cases h
    | some a => simp only [Value.ownBlock, Option.some.injEq] at h; exact ⟨a, rfl, h⟩
theorem AtB.own {base : Nat} {w : World} {q : Option Addr} {c : Nat} (h : AtB base w q c) {n i : Nat} (hi : (if n = 0 then none else (Value.slice q 0 0).ownBlock) = some i) : q = some ⟨i, 0, none⟩ ∧ base ≤ i ∧ i < w.heap.size := by
  obtain ⟨a, ha, hb⟩ := own_if hi
  rcases h with ⟨h, _⟩ | ⟨g, h1, h2, h3⟩
  · rw [h] at ha; cases ha
  · rw [h1] at ha
    simp only [Option.some.injEq] at ha
    subst ha
    simp only at hb
    subst hb
    exact ⟨h1, h2, h3⟩

set_option maxHeartbeats 4000000 in
theorem markk_any (base n1 c1 n2 c2 : Nat) (q1 q2 : Option Addr) (L : Objs) (M : Gones) (w : World) (h : StoK base w q1 n1 c1 q2 n2 c2 L M) (hn1 : n1 ≤ 1048576) (hn2 : n2 ≤ 1048576) :
    Calls Tryd.prog 16 #[.agg #[.slice q1 n1 c1, .slice q2 n2 c2], .int .i64 1] w (MadeMK q1 q2 n1 n2 w) := by
  have HS := Lib.hid h
  have HX := Lib.hid (row_new w #[.slice q1 n1 c1, .slice q2 n2 c2] 30)
  have HB0 := Lib.hid (below_alloc (Below.refl w.heap.size w) (.cells #[.slice q1 n1 c1, .slice q2 n2 c2] 30))
  have HS0 := Lib.hid (h.keep (below_alloc (Below.refl w.heap.size w) (.cells #[.slice q1 n1 c1, .slice q2 n2 c2] 30)))
  have HBK := Lib.hid (ButK.of (q1 := q1) (q2 := q2) HB0.out)
  clear h
  go_enter Tryd.func16, Tryd.ntmps16
  go_wp2_with fail
  refine (marko_k n1 c1 1 HS0.out.o HS0.out.len1 (Nat.le_refl 1) (by omega)).mono ?_
  rintro e w1 ⟨rfl, hmk, hg⟩
  have HX := Lib.hid (HX.out.grown hg (fun he => by have := (HS.out.at1.own he).2.2; omega))
  have HMO := Lib.hid hmk
  have HGK := Lib.hid (gonek_grown HS0.out.g hg (fun g hq he => by
    have h1 := (HS.out.at1.own he.symm).1
    exact HS.out.apart g g h1 hq rfl))
  have HBK := Lib.hid (HBK.out.trans ⟨hg.os, hg.tape, hg.output, hg.size, fun i hi a b => hg.block i hi (fun he => a i (HS.out.at1.own he.symm).1 rfl)⟩)
  have HG1 := Lib.hid hg
  have y0 := HX.out.cell (j := 0) (by simp)
  have y1 := HX.out.cell (j := 1) (by simp)
  simp at y0 y1
  clear hg hmk HS0 HB0
  obtain ⟨k1, hk1⟩ : ∃ k1, 1 + 3 * n1 = k1 := ⟨_, rfl⟩
  have hk1a : 1 ≤ k1 := by omega
  have hk1b : k1 + 2 * n2 ≤ 1099511627776 := by omega
  have HK1 := Lib.hid hk1
  rw [hk1]
  clear hk1
  go_wp2_with fail
  refine (markg_k n2 c2 k1 HGK.out HS.out.len2 hk1a hk1b).mono ?_
  rintro e w2 ⟨rfl, hmk, hg⟩
  have HMG := Lib.hid hmk
  have HMO := Lib.hid (HMO.out.grown hg (fun g hq he => by
    have h1 := (HS.out.at2.own he).1
    exact HS.out.apart g g hq h1 rfl))
  have HBK := Lib.hid (HBK.out.trans ⟨hg.os, hg.tape, hg.output, hg.size, fun i hi a b => hg.block i hi (fun he => b i (HS.out.at2.own he.symm).1 rfl)⟩)
  clear hg hmk y0 y1
  go_wp2
  go_ret
  exact ⟨ret_i64 (by have := HK1.out; omega), HBK.out, HMO.out, by rw [HK1.out]; exact HMG.out⟩

set_option maxHeartbeats 4000000 in
theorem heldk_any (n1 c1 n2 c2 : Nat) (q1 q2 : Option Addr) (w : World) (ho : MKo w q1 n1 1) (hg : MKg w q2 n2 (1 + 3 * n1)) (hn1 : n1 ≤ 1048576) (hn2 : n2 ≤ 1048576) :
    Calls Tryd.prog 17 #[.agg #[.slice q1 n1 c1, .slice q2 n2 c2], .int .i64 1] w (HeldMK n1 n2 w) := by
  have HX := Lib.hid (row_new w #[.slice q1 n1 c1, .slice q2 n2 c2] 30)
  have HB0 := Lib.hid (below_alloc (Below.refl w.heap.size w) (.cells #[.slice q1 n1 c1, .slice q2 n2 c2] 30))
  have HO := Lib.hid (ho.keep HB0.out)
  have HG := Lib.hid (hg.keep HB0.out)
  clear ho hg
  go_enter Tryd.func17, Tryd.ntmps17
  go_wp2_with fail
  refine (heldo_k n1 c1 1 HO.out (Nat.le_refl 1) (by omega)).mono ?_
  rintro e w1 ⟨rfl, hB⟩
  have HX := Lib.hid (HX.out.keep hB)
  have HG := Lib.hid (HG.out.keep hB)
  have HB0 := Lib.hid (below_via HB0.out hB)
  have y0 := HX.out.cell (j := 0) (by simp)
  have y1 := HX.out.cell (j := 1) (by simp)
  simp at y0 y1
  clear hB HO
  obtain ⟨k1, hk1⟩ : ∃ k1, 1 + 3 * n1 = k1 := ⟨_, rfl⟩
  have hk1a : 1 ≤ k1 := by omega
  have hk1b : k1 + 2 * n2 ≤ 1099511627776 := by omega
  have HK1 := Lib.hid hk1
  rw [hk1] at HG ⊢
  clear hk1
  go_wp2_with fail
  refine (heldg_k n2 c2 k1 HG.out hk1a hk1b).mono ?_
  rintro e w2 ⟨rfl, hB⟩
  have HB0 := Lib.hid (below_via HB0.out hB)
  clear hB y0 y1
  obtain ⟨k2, hk2⟩ : ∃ k2, k1 + 2 * n2 = k2 := ⟨_, rfl⟩
  have hk2a : ¬ ((k2 : Int) < 0) := by omega
  have HK2 := Lib.hid hk2
  rw [hk2]
  clear hk2
  go_wp2
  go_ret
  exact ⟨ret_i64 (by have := HK1.out; have := HK2.out; omega), HB0.out⟩
end Go.Proofs.YtdjfihoempjjpaaDoor
