
/- The laws' copy of slices of records, its comparison, its marks. -/
import Derived.Test.YtjfbmjeekihdaaaDoorSSIn
import Derived.Test.YtjfbmjeekihdaaaDoorRs
namespace Go.Proofs.YtjfbmjeekihdaaaDoor
open Go.ChangeShapes Go.WideShapes Go.ChangeAt Go.RowKit
set_option linter.unusedVariables false
set_option maxRecDepth 100000

def nAt (LS : List Recs) (i : Nat) : Nat := (LS.getD i []).length
theorem infoRecS : (Tryd.prog.info? 47).map (fun i => (i.zero, i.size, i.bytes)) = some (some (.slice none 0 0), 1, 24) := by kernel_rfl

theorem RecsAt.other {w : World} {g n G : Nat} {l : Recs} (h : RecsAt w (some ⟨g, 0, none⟩) n l) (hne : g ≠ G) (j : Nat) (x : Value) : RecsAt (w.setCell ⟨G, j, none⟩ x) (some ⟨g, 0, none⟩) n l := by
  refine ⟨h.length, h.max, h.keys, ?_⟩
  rcases h.src with h0 | ⟨b, off, ha, hb, hc⟩
  · exact .inl h0
  · simp only [Option.some.injEq, Addr.mk.injEq, and_true] at ha
    obtain ⟨rfl, rfl⟩ := ha
    refine .inr ⟨g, 0, rfl, by simpa using hb, fun i hi => ?_⟩
    have o : ∀ p, (⟨G, j, none⟩ : Addr) ≠ ⟨g, p, none⟩ := fun p e => by simp only [Addr.mk.injEq, and_true] at e; omega
    rw [World.cell?_setCell_other _ _ _ _ (o _), World.cell?_setCell_other _ _ _ _ (o _)]
    exact hc i hi

/-- The first k slices of a row of slices of the call's own: each in a row of its own, from block lo on. -/
def Inner (LS : List Recs) (lo : Nat) (w : World) (cur : Array Value) (i : Nat) : Prop :=
  ∃ g rc, cur[i]? = some (.slice (some ⟨g, 0, none⟩) (nAt LS i) (nAt LS i)) ∧ lo ≤ g ∧ Row w g 46 rc ∧ rc.size = nAt LS i * 2 ∧ RecsAt w (some ⟨g, 0, none⟩) (nAt LS i) (LS.getD i [])
theorem Inner.keep {LS : List Recs} {lo i : Nat} {w w1 : World} {cur : Array Value} (h : Inner LS lo w cur i) (hB : Below w.heap.size w w1) : Inner LS lo w1 cur i := by
  obtain ⟨g, rc, h1, h2, h3, h4, h5⟩ := h
  exact ⟨g, rc, h1, h2, h3.keep hB, h4, h5.keep hB⟩
def MadeRecSS (len : Nat) (LS : List Recs) (w : World) (e : Ending) (w' : World) : Prop :=
  e = .returned (.slice (some ⟨w.heap.size, 0, none⟩) len len) ∧ Below w.heap.size w w' ∧ ∃ cur, Row w' w.heap.size 47 cur ∧ cur.size = len ∧ ∀ i, i < len → Inner LS (w.heap.size + 1) w' cur i

set_option maxHeartbeats 2000000 in
theorem torecss_any (a : Option Addr) (len cap : Nat) (LS : List Recs) (w : World) (h : RunLs w a len LS) (hfew : len ≤ 1048576) (hsh : ∀ i, i < len → nAt LS i ≤ 1048576) :
    Calls Tryd.prog 36 #[.slice a len cap] w (MadeRecSS len LS w) := by
  obtain ⟨i0, hi, hz0, hz1, hz2⟩ := info_parts infoRecS
  have HR := Lib.hid h
  have HSH := Lib.hid hsh
  clear h hsh
  go_enter Tryd.func36, Tryd.ntmps36
  go_wp2_with (at_make; refine wpList_make_full _ rfl _ _ 33 rfl w.heap.size 47 i0 _ 1 Tryd.underlying33 hi hz0 hz1 .i64 .i64 _ _ len rfl rfl rfl rfl (by rw [hz2]; omega) (by unfold maxLen; omega) (Nat.le_refl _) ?_; intro w1 hown hgrow)
  obtain ⟨cur0, hrow0, hsz0⟩ : ∃ cur, Row w1 w.heap.size 47 cur ∧ cur.size = len := by
    rcases hown.2 with ⟨h, _⟩ | ⟨g, cp, cur, hv, _, hh, _, _, hs, _⟩
    · simp at h
    · simp only [Value.slice.injEq, Option.some.injEq, Addr.mk.injEq, true_and, and_true] at hv
      obtain ⟨rfl, rfl⟩ := hv
      exact ⟨cur, hh, by simpa using hs⟩
  have HB0 := Lib.hid ((Below.refl w.heap.size w).grown hgrow (Nat.le_refl _) (by simp))
  have HR0 := Lib.hid hrow0
  have HS0 := Lib.hid hsz0
  clear hown hgrow hrow0 hsz0
  go_loopw [4] (fun i wr => ∃ k : Nat, k ≤ len ∧ i = .int .i64 k ∧ Hid (Below w.heap.size w wr ∧ ∃ cur, Row wr w.heap.size 47 cur ∧ cur.size = len ∧ ∀ i, i < k → Inner LS (w.heap.size + 1) wr cur i)) (fun i _ => len - (intOf i).toNat)
  case atStart => exact ⟨0, Nat.zero_le _, rfl, HB0.out, cur0, HR0.out, HS0.out, fun i hi => by omega⟩
  case round =>
    obtain ⟨k, hk, rfl, HW⟩ := hrel
    clear HB0 HR0 HS0
    by_cases hlt : k < len
    · rcases HR.out.2.2 with hz | ⟨b, off, rfl, hb, hc⟩
      · omega
      · obtain ⟨q, n, c, hcell, hre⟩ := hc k hlt
        have c0 := (HW.out.1.cell (p := ⟨b, off + k, none⟩) hb).trans hcell
        obtain rfl : nAt LS k = n := hre.length
        have HRE := Lib.hid (hre.keep HW.out.1)
        clear hc hcell hre hb
        go_wp2_with fail
        refine (torecs_any _ _ _ _ _ HRE.out (HSH.out k hlt)).mono ?_
        rintro e w2 ⟨rfl, hre, hB, rc, hrc, hrs⟩
        obtain ⟨hb0, cur, hr, hs, hin⟩ := HW.out
        have hlo : w.heap.size + 1 ≤ wr.heap.size := hr.lt
        have hr2 := hr.keep hB
        have hA0 := hr2.cell (j := k) (by omega)
        have hf0 := hr2.free k
        have HB := Lib.hid (below_via hb0 hB)
        have HR2 := Lib.hid hr2
        have HS := Lib.hid hs
        have HI := Lib.hid (fun i (hi : i < k) => (hin i hi).keep hB)
        have HNW := Lib.hid (And.intro hre (And.intro hrc hrs))
        have HLO := Lib.hid hlo
        generalize cur[k] = x0 at hA0
        clear hB hr hr2 hs hin hb0 HW hre hrc hrs hlo
        go_wp2
        go_roundw
        case rel =>
          refine ⟨k + 1, by omega, by go_num, HB.out.setCell (Nat.le_refl _) _, _, HR2.out.set _ _, by simpa using HS.out, fun i hi => ?_⟩
          have hlo := HLO.out
          rcases Nat.lt_or_ge i k with h | h
          · obtain ⟨g, rc', e1, e2, e3, e4, e5⟩ := HI.out i h
            exact ⟨g, rc', by rw [Array.getElem?_setIfInBounds_ne (by omega)]; exact e1, e2, e3.other (by omega) _ _, e4, e5.other (by omega) _ _⟩
          · obtain rfl : i = k := by omega
            have hsz := HS.out
            exact ⟨_, rc, by simp [hsz, hlt], hlo, HNW.out.2.1.other (by omega) _ _, HNW.out.2.2, HNW.out.1.other (by omega) _ _⟩
        case measure => simp [intOf]; omega
    · obtain rfl : k = len := by omega
      go_wp2
      go_ret
      exact ⟨rfl, HW.out.1, HW.out.2⟩

theorem sc_of_made {w' : World} {len : Nat} {LS : List Recs} {G lo : Nat} {cur : Array Value} (hl : LS.length = len) (hr : Row w' G 47 cur) (hs : cur.size = len) (hi : ∀ i, i < len → Inner LS lo w' cur i) (hsh : ∀ i, i < len → nAt LS i ≤ 1048576) :
    RunSc w' (some ⟨G, 0, none⟩) len LS := by
  refine ⟨hl, .inr ⟨G, 0, rfl, hr.lt, fun i hi' => ?_⟩⟩
  obtain ⟨g, rc, e1, _, _, _, e5⟩ := hi i hi'
  have hc : w'.cell? ⟨G, 0 + i, none⟩ = some (.slice (some ⟨g, 0, none⟩) (nAt LS i) (nAt LS i)) := by
    unfold Row at hr
    simp [World.cell?, hr, e1]
  have h2 := hsh i hi'
  exact ⟨_, _, _, hc, e5, (fun h => by cases h), Nat.le_refl _, by unfold maxLen; omega, h2⟩

/-- Blocks from lo to hi alone may have turned. -/
structure ButR (lo hi : Nat) (w w' : World) : Prop where
  os : w'.os = w.os
  tape : w'.tape = w.tape
  output : w'.output = w.output
  size : w.heap.size ≤ w'.heap.size
  block : ∀ k, k < w.heap.size → k < lo ∨ hi ≤ k → w'.heap[k]? = w.heap[k]?
theorem ButR.refl (lo hi : Nat) (w : World) : ButR lo hi w w := ⟨rfl, rfl, rfl, Nat.le_refl _, fun _ _ _ => rfl⟩
theorem ButR.step {lo hi g : Nat} {w w1 w2 : World} (h : ButR lo hi w w1) (k : w1.grownBy w2 (some g)) (h1 : lo ≤ g) (h2 : g < hi) : ButR lo hi w w2 :=
  ⟨k.os.trans h.os, k.tape.trans h.tape, k.output.trans h.output, Nat.le_trans h.size k.size, fun j hj ho => (k.block j (Nat.lt_of_lt_of_le hj h.size) (by simp; omega)).trans (h.block j hj ho)⟩
theorem ButR.row {lo hi B : Nat} {w w1 : World} {E : TypeId} {cur : Array Value} (h : ButR lo hi w w1) (r : Row w B E cur) (ho : B < lo ∨ hi ≤ B) : Row w1 B E cur := (h.block B r.lt ho).trans r
theorem ButR.rs {lo hi base : Nat} {w w1 : World} {q : Option Addr} {W : Recs} (h : ButR lo hi w w1) (r : Rs base w q W) (ho : 0 < W.length → ∀ g, q = some ⟨g, 0, none⟩ → g < lo ∨ hi ≤ g) : Rs base w1 q W := by
  rcases r with h0 | ⟨g, cur, rfl, hb, hr, h1, h2⟩
  · exact .inl h0
  · by_cases h0 : W.length = 0
    · exact .inl h0
    · exact .inr ⟨g, cur, rfl, hb, h.row hr (ho (by omega) g rfl), h1, h2⟩
theorem ButR.below {lo hi : Nat} {W w w1 : World} (h : ButR lo hi w w1) (hB : Below W.heap.size W w) (hl : W.heap.size ≤ lo) : Below W.heap.size W w1 :=
  ⟨h.os.trans hB.os, h.tape.trans hB.tape, h.output.trans hB.output, Nat.le_trans hB.size h.size, fun k hk => (h.block k (Nat.lt_of_lt_of_le hk hB.size) (.inl (by omega))).trans (hB.block k hk)⟩

/-- Rows that may be marked: block, size. -/
def InnerB (LS : List Recs) (lo hi : Nat) (w : World) (cur : Array Value) (i : Nat) : Prop :=
  ∃ g rc, cur[i]? = some (.slice (some ⟨g, 0, none⟩) (nAt LS i) (nAt LS i)) ∧ lo ≤ g ∧ g < hi ∧ Row w g 46 rc ∧ rc.size = nAt LS i * 2
theorem InnerB.keep {LS : List Recs} {lo hi i : Nat} {w w1 : World} {cur : Array Value} (h : InnerB LS lo hi w cur i) (hB : Below w.heap.size w w1) : InnerB LS lo hi w1 cur i := by
  obtain ⟨g, rc, h1, h2, h2', h3, h4⟩ := h
  exact ⟨g, rc, h1, h2, h2', h3.keep hB, h4⟩
theorem Inner.toB {LS : List Recs} {lo i : Nat} {w : World} {cur : Array Value} (h : Inner LS lo w cur i) : InnerB LS lo w.heap.size w cur i := by
  obtain ⟨g, rc, h1, h2, h3, h4, _⟩ := h
  exact ⟨g, rc, h1, h2, h3.lt, h3, h4⟩
theorem InnerB.grown {LS : List Recs} {lo hi i g0 : Nat} {w w1 : World} {cur rc0 : Array Value} (h : InnerB LS lo hi w cur i) (hg : w.grownBy w1 (some g0)) (h0 : ∃ rc, Row w g0 46 rc ∧ rc.size = rc0.size) (h1 : Row w1 g0 46 rc0) : InnerB LS lo hi w1 cur i := by
  obtain ⟨g, rc, e1, e2, e3, e4, e5⟩ := h
  by_cases hgg : g = g0
  · subst hgg
    obtain ⟨rc', r1, r2⟩ := h0
    have : rc' = rc := by unfold Row at r1 e4; rw [r1] at e4; simpa using e4
    subst this
    exact ⟨g, rc0, e1, e2, e3, h1, by omega⟩
  · exact ⟨g, rc, e1, e2, e3, e4.grown hg (by simpa using fun h => hgg h.symm), e5⟩

def MarkedSS (LS : List Recs) (lo hi : Nat) (w : World) (e : Ending) (w' : World) : Prop :=
  e = .returned (.int .i64 ((1 + 2 * LS.flatten.length : Nat) : Int)) ∧ ButR lo hi w w'

set_option maxHeartbeats 2000000 in
theorem eqss_same (a1 a2 : Option Addr) (len cap1 cap2 : Nat) (LS : List Recs) (w : World) (h1 : RunLs w a1 len LS) (h2 : RunLs w a2 len LS) :
    Calls Tryd.prog 39 #[.slice a1 len cap1, .slice a2 len cap2] w (MadeBool true w) := by
  have hm := h1.2.1
  unfold maxLen at hm
  have HR1 := Lib.hid h1
  have HR2 := Lib.hid h2
  clear h1 h2
  go_enter Tryd.func39, Tryd.ntmps39
  go_wp2
  go_loopw [5] (fun i wr => ∃ k : Nat, k ≤ len ∧ i = .int .i64 k ∧ Hid (Below w.heap.size w wr)) (fun i _ => len - (intOf i).toNat)
  case atStart => exact ⟨0, Nat.zero_le _, rfl, Below.refl _ _⟩
  case round =>
    obtain ⟨k, hk, rfl, HW⟩ := hrel
    by_cases hlt : k < len
    · rcases HR1.out.2.2 with hz | ⟨b, off, rfl, hb, hc⟩
      · omega
      · rcases HR2.out.2.2 with hz | ⟨b2, off2, rfl, hb2, hc2⟩
        · omega
        · obtain ⟨q, n, c, hcell, hre⟩ := hc k hlt
          obtain ⟨q2, n2, c2, hcell2, hre2⟩ := hc2 k hlt
          obtain rfl : n = n2 := hre.length.symm.trans hre2.length
          have c0 := (HW.out.cell (p := ⟨b, off + k, none⟩) hb).trans hcell
          have d0 := (HW.out.cell (p := ⟨b2, off2 + k, none⟩) hb2).trans hcell2
          have HE := Lib.hid (And.intro (hre.keep HW.out) (hre2.keep HW.out))
          have HBB := Lib.hid ((Below.refl wr.heap.size wr).drew)
          clear hc hc2 hcell hcell2 hre hre2 hb hb2
          go_wp2_with fail
          go_region_held3 (fun w' => Hid (Below wr.heap.size wr w') ∧ w'.cell? ⟨b, off + k, none⟩ = some (.slice q n c) ∧ w'.cell? ⟨b2, off2 + k, none⟩ = some (.slice q2 n c2))
            (first | exact ⟨HBB, c0, d0⟩ | exact ⟨HBB, e0, f0⟩)
            (first | (go_at_call 62; refine (eqrecs_same _ _ _ _ _ _ _ (HE.out.1.keep HBB.out) (HE.out.2.keep HBB.out)).mono ?_; rintro e w5 ⟨rfl, hB⟩; have e0 := (hB.cell (p := ⟨b, off + k, none⟩) (World.block_lt_of_cell? _ _ c0)).trans c0; have f0 := (hB.cell (p := ⟨b2, off2 + k, none⟩) (World.block_lt_of_cell? _ _ d0)).trans d0; have HBB := Lib.hid (below_via HBB.out hB); clear hB))
          go_wp2
          go_roundw
          case rel => exact ⟨k + 1, by omega, by go_num, below_via HW.out HBB.out⟩
          case measure => simp [intOf]; omega
    · go_wp2
      go_ret
      exact ⟨rfl, HW.out⟩
end Go.Proofs.YtjfbmjeekihdaaaDoor
