
/- The exact law on StorePlayed, walked: for every list of commands that may be read it returns true and only makes new blocks. -/
import Derived.Test.YtdjfihoempjjpaaDoorPlayS
import Derived.Test.YtdjfihoempjjpaaDoorPlayP
import Derived.Test.YtdjfihoempjjpaaDoorMarkK
import Derived.Test.YtdjfihoempjjpaaDoorCmdEq
import Derived.Test.YtdjfihoempjjpaaDoorCmdMark
namespace Go.Proofs.YtdjfihoempjjpaaDoor
open Go.ChangeShapes Go.WideShapes Go.ChangeAt Go.RowKit
set_option linter.unusedVariables false
set_option maxRecDepth 100000

theorem playE_few (l : Cmds) (len : Nat) : (playE l len).2.length ≤ 200 := by
  unfold playE; split
  · exact Nat.zero_le _
  · rw [play_len]; omega
def MadeL4 (L : Objs) (M : Gones) (nl nm : Nat) (cs : List Int) (nc : Nat) (w : World) (e : Ending) (w' : World) : Prop :=
  ∃ q1 c1 q2 c2 qc cc, e = .returned (.tuple #[.agg #[.slice q1 nl c1, .slice q2 nm c2], .slice qc nc cc]) ∧ Below w.heap.size w w' ∧ StoK w.heap.size w' q1 nl c1 q2 nm c2 L M ∧ NumK w.heap.size w' qc cs
def MadeL7 (L : Objs) (M : Gones) (nl nm : Nat) (cs : List Int) (nc : Nat) (w : World) (e : Ending) (w' : World) : Prop :=
  ∃ q1 c1 q2 c2 qc cc mid, e = .returned (.tuple #[.agg #[.slice q1 nl c1, .slice q2 nm c2], .slice qc nc cc]) ∧ Below w.heap.size w w' ∧ NumK w.heap.size w' qc cs ∧ w.heap.size ≤ mid ∧ StoK mid w' q1 nl c1 q2 nm c2 L M ∧ ∀ g, qc = some ⟨g, 0, none⟩ → w.heap.size ≤ g ∧ g < mid
theorem toL4 {E : Els} {cs : List Int} {L : Objs} {M : Gones} {nl nm nc : Nat} (hL : objsOf E = L) (hM : gonsOf E = M) (hl : L.length = nl) (hm : M.length = nm) (hc : cs.length = nc) {w : World} (e : Ending) (w' : World) (h : MadeP E cs w e w') : MadeL4 L M nl nm cs nc w e w' := by
  obtain ⟨q1, n1, c1, q2, n2, c2, qc, n3, cc, he, hB, hK, ho, hn⟩ := h
  subst hL hM
  obtain rfl : n1 = nl := hK.len1.symm.trans hl
  obtain rfl : n2 = nm := hK.len2.symm.trans hm
  obtain rfl : n3 = nc := hn.symm.trans hc
  exact ⟨q1, c1, q2, c2, qc, cc, he, hB, hK, numk_of_own ho⟩
theorem toL7 {E : Els} {cs : List Int} {L : Objs} {M : Gones} {nl nm nc : Nat} (hL : objsOf E = L) (hM : gonsOf E = M) (hl : L.length = nl) (hm : M.length = nm) (hc : cs.length = nc) {w : World} (e : Ending) (w' : World) (h : MadeQ E cs w e w') : MadeL7 L M nl nm cs nc w e w' := by
  obtain ⟨q1, n1, c1, q2, n2, c2, qc, n3, cc, he, hB, hN, hn, mid, hmid, hK, hap⟩ := h
  subst hL hM
  obtain rfl : n1 = nl := hK.len1.symm.trans hl
  obtain rfl : n2 = nm := hK.len2.symm.trans hm
  obtain rfl : n3 = nc := hn.symm.trans hc
  exact ⟨q1, c1, q2, c2, qc, cc, mid, he, hB, hN, hmid, hK, hap⟩
def MKn (w : World) (q : Option Addr) (n k0 : Nat) : Prop := n = 0 ∨ ∃ g cur, q = some ⟨g, 0, none⟩ ∧ Row w g 2 cur ∧ MarkedN cur k0 n
theorem MKn.keep {w w1 : World} {q : Option Addr} {n k0 : Nat} (h : MKn w q n k0) (hB : Below w.heap.size w w1) : MKn w1 q n k0 := by
  rcases h with h | ⟨g, cur, h1, h2, h3⟩
  · exact .inl h
  · exact .inr ⟨g, cur, h1, h2.keep hB, h3⟩
theorem markn_k {base : Nat} {w : World} {q : Option Addr} {W : List Int} (n c k0 : Nat) (h : NumK base w q W) (hl : W.length = n) (h1 : 1 ≤ k0) (h2 : k0 + n ≤ 1099511627776) :
    Calls Tryd.prog 29 #[.slice q n c, .int .i64 k0] w fun e w' => e = .returned (.int .i64 ((k0 + n : Nat) : Int)) ∧ MKn w' q n k0 ∧ ∃ row, w.grownBy w' row ∧ ∀ g, row = some g → q = some ⟨g, 0, none⟩ ∧ base ≤ g ∧ n ≠ 0 := by
  by_cases h0 : n = 0
  · subst h0
    refine (marknums_none q c k0 _).mono ?_
    rintro e w1 ⟨rfl, rfl⟩
    exact ⟨rfl, .inl rfl, none, World.grownBy.refl _ _, fun g hg => by cases hg⟩
  · rcases h with hz | ⟨g, cur, rfl, hb, hr, hs, hc⟩
    · omega
    · refine (marknums_any g n c k0 _ _ cur _ hr rfl (by omega) h1 h2).mono ?_
      rintro e w1 ⟨rfl, hg, cur1, hr1, _, hm⟩
      exact ⟨rfl, .inr ⟨g, cur1, rfl, hr1, hm⟩, some g, hg, fun x hx => by cases hx; exact ⟨rfl, hb, h0⟩⟩
theorem heldn_k {w : World} {q : Option Addr} (n c k0 : Nat) (h : MKn w q n k0) (h1 : 1 ≤ k0) (h2 : k0 + n ≤ 1099511627776) :
    Calls Tryd.prog 30 #[.slice q n c, .int .i64 k0] w (HeldN (k0 + n) w) := by
  by_cases h0 : n = 0
  · subst h0
    refine (heldnums_none q c k0 _).mono ?_
    rintro e w1 ⟨rfl, rfl⟩
    exact ⟨rfl, Below.refl _ _⟩
  · rcases h with hz | ⟨g, cur, rfl, hr, hm⟩
    · omega
    · exact heldnums_any g n c k0 _ cur _ hr hm h1 h2
theorem NumK.grown {base : Nat} {w w1 : World} {q : Option Addr} {W : List Int} {row : Option Nat} (h : NumK base w q W) (hg : w.grownBy w1 row) (hne : ∀ g, q = some ⟨g, 0, none⟩ → g < w.heap.size → row ≠ some g) : NumK base w1 q W := by
  rcases h with h0 | ⟨g, cur, hq, hb, hr, h1, h2⟩
  · exact .inl h0
  · exact .inr ⟨g, cur, hq, hb, hr.grown hg (hne g hq hr.lt), h1, h2⟩
theorem NumK.butK {base : Nat} {w w1 : World} {q p1 p2 : Option Addr} {W : List Int} {u v : Nat} (h : NumK base w q W) (k : ButK p1 p2 w w1) (hj : In2 u v p1 p2) (ho : ∀ g, q = some ⟨g, 0, none⟩ → g < w.heap.size → g < u ∨ v ≤ g) : NumK base w1 q W := by
  rcases h with h0 | ⟨g, cur, hq, hb, hr, h1, h2⟩
  · exact .inl h0
  · exact .inr ⟨g, cur, hq, hb, k.rowI hr hj (ho g hq hr.lt), h1, h2⟩
theorem StoK.grownX {base : Nat} {w w1 : World} {q1 q2 : Option Addr} {n1 c1 n2 c2 : Nat} {l : Objs} {m : Gones} {row : Option Nat} (h : StoK base w q1 n1 c1 q2 n2 c2 l m) (hg : w.grownBy w1 row) (h1 : ∀ g, q1 = some ⟨g, 0, none⟩ → row ≠ some g) (h2 : ∀ g, q2 = some ⟨g, 0, none⟩ → row ≠ some g) : StoK base w1 q1 n1 c1 q2 n2 c2 l m :=
  h.blocks hg.size (fun g hq => hg.block g (h.in2.a g hq).2 (Ne.symm (h1 g hq))) (fun g hq => hg.block g (h.in2.b g hq).2 (Ne.symm (h2 g hq)))
theorem MKo.grownX {w w1 : World} {q : Option Addr} {n k0 : Nat} {row : Option Nat} (h : MKo w q n k0) (hg : w.grownBy w1 row) (hne : ∀ g, q = some ⟨g, 0, none⟩ → row ≠ some g) : MKo w1 q n k0 := h.grown hg hne
theorem MKg.grownX {w w1 : World} {q : Option Addr} {n k0 : Nat} {row : Option Nat} (h : MKg w q n k0) (hg : w.grownBy w1 row) (hne : ∀ g, q = some ⟨g, 0, none⟩ → row ≠ some g) : MKg w1 q n k0 := by
  rcases h with h | ⟨g, cur, h1, h2, h3⟩
  · exact .inl h
  · exact .inr ⟨g, cur, h1, h2.grown hg (hne g h1), h3⟩
end Go.Proofs.YtdjfihoempjjpaaDoor
