/- Texts put together, as a claim holds at most sixty files. -/
import Derived.Test.YtjofbeokkainlaaGreatDoorMg46
import Derived.Test.YtjofbeokkainlaaGreatDoorMg38
import Derived.Test.YtjofbeokkainlaaGreatDoorMg1
import Derived.Test.YtjofbeokkainlaaGreatDoorMg7
import Derived.Test.YtjofbeokkainlaaGreatDoorMg10
namespace Go.Proofs.YtjofbeokkainlaaGreatDoor
open Go.ChangeShapes Go.WideShapes Go.ChangeAt Go.RowKit Go.MuLone
set_option linter.unusedVariables false
set_option maxRecDepth 100000

/-- The program's runs so far, in row G. -/
def MpSt (R : List Recs) (N1 : Nat) (w3 wr : World) (G k : Nat) : Prop :=
  Below w3.heap.size w3 wr ∧ w3.heap.size ≤ G ∧ ∃ (cur : Array Value) (g : Nat → Nat), Row wr G 34 cur ∧ cur.size = N1 ∧
    (∀ i, i < k → ∃ p c, cur[i]? = some (.slice p (nAt R i) c) ∧ (nAt R i = 0 ∨ ∃ rc, p = some ⟨g i, 0, none⟩ ∧ w3.heap.size ≤ g i ∧ Row wr (g i) 37 rc ∧ nAt R i * 2 ≤ rc.size ∧ Laid rc (R.getD i []) (nAt R i))) ∧
    ∀ i j, i < j → j < k → 0 < nAt R i → 0 < nAt R j → g i ≠ g j
theorem MpSt.keep {R : List Recs} {N1 : Nat} {w3 wr w1 : World} {G k : Nat} (h : MpSt R N1 w3 wr G k) (hB : Below wr.heap.size wr w1) : MpSt R N1 w3 w1 G k := by
  obtain ⟨h1, h2, cur, g, h3, h4, h5, h6⟩ := h
  refine ⟨below_via h1 hB, h2, cur, g, h3.keep hB, h4, fun i hi => ?_, h6⟩
  obtain ⟨p, c, e1, e2⟩ := h5 i hi
  refine ⟨p, c, e1, ?_⟩
  rcases e2 with e2 | ⟨rc, r1, r2, r3, r4, r5⟩
  · exact .inl e2
  · exact .inr ⟨rc, r1, r2, r3.keep hB, r4, r5⟩
theorem MpSt.step {R : List Recs} {N1 : Nat} {w3 wr w8 : World} {G k : Nat} {q : Option Addr} {c : Nat} (h : MpSt R N1 w3 wr G k) (hB : Below wr.heap.size wr w8) (hr : Rs wr.heap.size w8 q (R.getD k [])) (hk : k < N1) : MpSt R N1 w3 (w8.setCell ⟨G, k, none⟩ (.slice q (nAt R k) c)) G (k + 1) := by
  obtain ⟨h1, h2, cur, g, h3, h4, h5, h6⟩ := h
  have h38 := h3.keep hB
  have hne : ∀ (b : Nat) (rc : Array Value), Row w8 b 37 rc → b ≠ G := fun b rc hb e => by
    subst e
    unfold Row at hb h38
    rw [hb] at h38
    simp at h38
  obtain ⟨gn, hgn⟩ : ∃ gn : Nat, nAt R k = 0 ∨ ∃ rc, q = some ⟨gn, 0, none⟩ ∧ wr.heap.size ≤ gn ∧ Row w8 gn 37 rc ∧ nAt R k * 2 ≤ rc.size ∧ Laid rc (R.getD k []) (nAt R k) := by
    rcases hr with h0 | ⟨gn, rc, e1, e2, e3, e4, e5⟩
    · exact ⟨0, .inl h0⟩
    · exact ⟨gn, .inr ⟨rc, e1, e2, e3, e4, e5⟩⟩
  obtain ⟨gf, hf1, hf2⟩ : ∃ gf : Nat → Nat, gf k = gn ∧ ∀ i, i ≠ k → gf i = g i := ⟨fun i => if i = k then gn else g i, if_pos rfl, fun i h => if_neg h⟩
  refine ⟨(below_via h1 hB).setCell (p := ⟨G, k, none⟩) h2 _, h2, _, gf, h38.set k _, by simpa using h4, fun i hi => ?_, fun i j hij hj hi0 hj0 => ?_⟩
  · rcases Nat.lt_or_ge i k with hlt | hge
    · obtain ⟨p, c1, e1, e2⟩ := h5 i hlt
      refine ⟨p, c1, by rw [Array.getElem?_setIfInBounds_ne (by omega)]; exact e1, ?_⟩
      rw [hf2 i (by omega)]
      rcases e2 with e2 | ⟨rc, r1, r2, r3, r4, r5⟩
      · exact .inl e2
      · exact .inr ⟨rc, r1, r2, (r3.keep hB).other (hne _ _ (r3.keep hB)) _ _, r4, r5⟩
    · obtain rfl : i = k := by omega
      refine ⟨q, c, by simp [h4, hk], ?_⟩
      rw [hf1]
      rcases hgn with h0 | ⟨rc, r1, r2, r3, r4, r5⟩
      · exact .inl h0
      · exact .inr ⟨rc, r1, by have := h1.size; omega, r3.other (hne _ _ r3) _ _, r4, r5⟩
  · have hik : i < k := by omega
    rw [hf2 i (by omega)]
    obtain ⟨p, c1, e1, e2⟩ := h5 i hik
    rcases e2 with e2 | ⟨rc, r1, r2, r3, r4, r5⟩
    · omega
    · have hl := r3.lt
      rcases Nat.lt_or_ge j k with hjk | hjk
      · rw [hf2 j (by omega)]
        exact h6 i j hij hjk hi0 hj0
      · obtain rfl : j = k := by omega
        rw [hf1]
        rcases hgn with h0 | ⟨rc2, s1, s2, s3, s4, s5⟩
        · omega
        · omega
theorem MpSt.runs {R : List Recs} {N1 : Nat} {w3 wr : World} {G : Nat} (h : MpSt R N1 w3 wr G N1) (hn : R.length = N1) : RunsB w3.heap.size wr (some ⟨G, 0, none⟩) R := by
  obtain ⟨h1, h2, cur, g, h3, h4, h5, h6⟩ := h
  exact .inr ⟨G, cur, g, rfl, h2, h3, fun i hi => h5 i (by omega), fun i j hij hj => h6 i j hij (by omega)⟩
theorem RunsB.set {base : Nat} {w : World} {q : Option Addr} {LS : List Recs} {X : Nat} (h : RunsB base w q LS) (hX : X < base) (j : Nat) (v : Value) : RunsB base (w.setCell ⟨X, j, none⟩ v) q LS :=
  h.grown (growS (World.grownBy.refl _ _) j v) hX
theorem RunsB.putT {base : Nat} {w : World} {q : Option Addr} {LS : List Recs} {X : Nat} {T : TypeId} {cx : Array Value} (h : RunsB base w q LS) (hX : Row w X T cx) (h1 : 34 ≠ T) (h2 : 37 ≠ T) (j : Nat) (v : Value) : RunsB base (w.setCell ⟨X, j, none⟩ v) q LS := by
  rcases h with h | ⟨G, cur, g, hq, hb, hr, hi, hd⟩
  · exact .inl h
  · refine .inr ⟨G, cur, g, hq, hb, hr.other (row_ne hr hX h1) _ _, fun i hi2 => ?_, hd⟩
    obtain ⟨p, c, e1, e2⟩ := hi i hi2
    refine ⟨p, c, e1, ?_⟩
    rcases e2 with e2 | ⟨rc, r1, r2, r3, r4, r5⟩
    · exact .inl e2
    · exact .inr ⟨rc, r1, r2, r3.other (row_ne r3 hX h2) _ _, r4, r5⟩
/-- The end of mapSplit. -/
def MadeRunM (o : List Recs × Int) (P : Nat) (w : World) (e : Ending) (w' : World) : Prop :=
  ∃ q cp, e = .returned (.agg #[.slice q o.1.length cp, .int .i64 o.2]) ∧ w.grownBy w' (some P) ∧ RunsB w.heap.size w' q o.1

set_option maxHeartbeats 8000000 in
theorem mapsplit_any (P : Nat) (a s : Option Addr) (len cap sl sc : Nat) (l : Instrs) (each : Bool) (op n1 : Int) (str : ByteArray) (w0 w : World) (hs : ProgS P a len cap l w) (hI : InstrsAt w0 a len l) (hn : ∀ i, i < len → In64 (ins1 l i)) (hsz : str.size ≤ 1048576) (hT : TabsRP w0) (h0 : Below w0.heap.size w0 w) (hP : w0.heap.size ≤ P) (hn1 : 1 ≤ n1) (hn3 : n1 ≤ 3) :
    Calls Tryz.prog 23 #[.pointer (some ⟨P, 0, none⟩), .agg #[.slice a len cap, .bool each, .int .i64 op, .int .i64 n1, .slice s sl sc], .string str] w (MadeRunM (mapR l each op n1 str) P w) := by
  obtain ⟨i0, hi, hz0, hz1, hz2⟩ := info_parts infoRecS
  have HN := Lib.hid (show ∀ i, i < l.length → In64 (ins1 l i) from fun i hi => hn i (by rw [← hI.length]; exact hi))
  have HPW := Lib.hid (show P < w.heap.size from by obtain ⟨cur, hr⟩ := hs.row; exact hr.lt)
  obtain ⟨N1, rfl⟩ : ∃ N1 : Nat, n1 = (N1 : Int) := ⟨n1.toNat, by omega⟩
  obtain ⟨B0, hB0⟩ : ∃ B0, w.heap.size = B0 := ⟨_, rfl⟩
  obtain ⟨W2, hW2⟩ : ∃ x, (w.alloc (.cells #[.slice a len cap, .bool each, .int .i64 op, .int .i64 (N1 : Int), .slice s sl sc] 27)).alloc (.cells #[.slice none 0 0, .int .i64 0] 53) = x := ⟨_, rfl⟩
  have HB2 := Lib.hid (show Below w.heap.size w W2 from by rw [← hW2]; exact below_alloc (below_alloc (Below.refl _ _) _) _)
  have HX := Lib.hid (show Row W2 B0 27 #[.slice a len cap, .bool each, .int .i64 op, .int .i64 (N1 : Int), .slice s sl sc] from by rw [← hW2, ← hB0]; exact (row_new w _ _).al _)
  have HM := Lib.hid (show Row W2 (B0 + 1) 53 #[.slice none 0 0, .int .i64 0] from by rw [← hW2, ← hB0]; exact row_new1 w _ _ _)
  have HW2 := Lib.hid hW2
  have HEM := Lib.hid (emitted_any P a len cap l each str w0 W2 (hs.keep HB2.out) hI hn hsz hT (below_via h0 HB2.out) hP)
  have HPB := Lib.hid (show P < B0 from by rw [← hB0]; exact HPW.out)
  have HBZ := Lib.hid hB0
  have x1 := HX.out.cell (j := 1) (by simp)
  simp at x1
  obtain ⟨V, hV⟩ : ∃ V, (emitR l each (strsOf (linesW str.data.toList))).1 = V := ⟨_, rfl⟩
  obtain ⟨c, hc⟩ : ∃ c, (emitR l each (strsOf (linesW str.data.toList))).2 = c := ⟨_, rfl⟩
  have HRES := Lib.hid (show emitR l each (strsOf (linesW str.data.toList)) = (V, c) by rw [← hV, ← hc])
  have HF := Lib.hid (emitR_facts (each := each) (strsOf (linesW str.data.toList)) HN.out)
  rw [HRES.out] at HF HEM
  clear hs hI hn hsz hT h0 hP hW2 hV hc
  go_enter Tryz.func23, Tryz.ntmps23
  go_wp2_with fail
  rw [HW2.out]
  try rw [hB0]
  clear hB0
  refine HEM.out.mono ?_
  rintro e w3 ⟨q, cp, rfl, hg, hpr, hkk, hq, hcp⟩
  have HX := Lib.hid (HX.out.grown hg (by have := HPB.out; simp; omega))
  have HM := Lib.hid (HM.out.grown hg (by have := HPB.out; simp; omega))
  have HMW := Lib.hid HM.out.lt
  have HG := Lib.hid (growT (growB (World.grownBy.refl w (some P)) HB2.out) hg)
  obtain ⟨no, hno⟩ : ∃ n, V.length = n := ⟨_, rfl⟩
  have hno6 : no ≤ 600 := by rw [← hno]; exact HF.out.1
  have HV := Lib.hid (rck_recs hkk hno HF.out.2.1 (by omega))
  rw [hno]
  clear hg hpr hkk hq hcp HEM x1
  have m0 := HM.out.cell (j := 0) (by simp)
  have m1 := HM.out.cell (j := 1) (by simp)
  have mf0 := HM.out.free 0
  have mf1 := HM.out.free 1
  have x3 := HX.out.cell (j := 3) (by simp)
  simp at m0 m1 x3
  by_cases hc0 : c = 0
  · subst hc0
    have HFIN := Lib.hid (mapR_go (op := op) (n1 := (N1 : Int)) HRES.out)
    rw [Int.toNat_natCast] at HFIN
    have HR := Lib.hid (runsR_len op (N1 : Int) V N1)
    have HRA := Lib.hid (fun i (h : i < N1) => runsR_at (op := op) (n1 := (N1 : Int)) (V := V) (k := N1) h)
    obtain ⟨R, hRR⟩ : ∃ R, runsR op (N1 : Int) V N1 = R := ⟨_, rfl⟩
    rw [hRR] at HR HRA HFIN
    clear hRR m0 m1 mf0 mf1
    go_wp2_with (at_make; refine wpList_make_full _ rfl _ _ 30 rfl w3.heap.size 34 i0 _ 1 Tryz.underlying30 hi hz0 hz1 .i64 .i64 _ _ N1 rfl rfl rfl rfl (by rw [hz2]; omega) (by unfold maxLen; omega) (Nat.le_refl _) ?_; intro w4 hown hgrow)
    obtain ⟨G, hG⟩ : ∃ G, w3.heap.size = G := ⟨_, rfl⟩
    have HST := Lib.hid (show MpSt R N1 w3 w4 G 0 from ⟨(Below.refl w3.heap.size w3).grown hgrow (Nat.le_refl _) (by simp), by omega, by
      rcases hown.2 with ⟨h, _⟩ | ⟨g, cp, cur, hv, _, hh, _, _, hs, _⟩
      · simp at h
      · simp only [Value.slice.injEq, Option.some.injEq, Addr.mk.injEq, true_and, and_true] at hv
        obtain ⟨rfl, rfl⟩ := hv
        exact ⟨cur, fun _ => 0, hG ▸ hh, by simpa using hs, fun i hi => by omega, fun i j _ hj => by omega⟩⟩)
    rw [hG]
    have HGW := Lib.hid (show B0 + 1 < G from by rw [← hG]; exact HM.out.lt)
    clear hown hgrow x3 hG
    go_wp2_with fail
    go_loopw [28] (fun i wr => ∃ k : Nat, k ≤ N1 ∧ i = .int .i64 k ∧ Hid (MpSt R N1 w3 wr G k)) (fun i _ => N1 - (intOf i).toNat)
    case atStart => exact ⟨0, Nat.zero_le _, rfl, HST⟩
    case round =>
      clear HST
      obtain ⟨k, hk, rfl, HST⟩ := hrel
      have HXR := Lib.hid (HX.out.keep HST.out.1)
      by_cases hlt : k < N1
      · have hi1 : (k : Int) < (N1 : Int) := by omega
        have hi0 : (0 : Int) ≤ (k : Int) := by omega
        have HVR := Lib.hid (HV.out.keep HST.out.1)
        have HRK := Lib.hid (HRA.out k hlt)
        obtain ⟨PV, hPV⟩ : ∃ PV, partL V (N1 : Int) (k : Int) = PV := ⟨_, rfl⟩
        have HMEM := Lib.hid (show ∀ r ∈ PV, r.1.size ≤ 40 ∧ In64 r.2 from fun r hr => HF.out.2.1 r (partL_mem (by rw [hPV]; exact hr)))
        have HPL := Lib.hid (show PV.length ≤ 600 from by have := partL_few V (N1 : Int) (k : Int); rw [hPV] at this; omega)
        have HOFR := Lib.hid (show R.getD k [] = combW op (liftW op PV) by rw [HRK.out]; unfold ofR; rw [hPV])
        have HPVE := Lib.hid hPV
        have d2 := HXR.out.cell (j := 2) (by simp)
        have d3 := HXR.out.cell (j := 3) (by simp)
        simp at d2 d3
        clear hPV HRK
        go_wp2_with fail
        refine wp_region_noPanic ?_
        obtain ⟨v0, hv0⟩ : ∃ x, wr.drew = x := ⟨_, rfl⟩
        have HB0 := Lib.hid (show Below wr.heap.size wr v0 from by rw [← hv0]; exact below_drewN (Below.refl _ _) 1)
        have HVR := Lib.hid (HVR.out.keep HB0.out)
        have d2 : v0.cell? ⟨B0, 2, none⟩ = some (.int .i64 op) := by rw [← hv0]; exact d2
        have d3 : v0.cell? ⟨B0, 3, none⟩ = some (.int .i64 (N1 : Int)) := by rw [← hv0]; exact d3
        refine wp_region_held_drew (S := (fun w' => Hid (Below w3.heap.size w3 w') ∧ w'.cell? ⟨B0, 2, none⟩ = some (.int .i64 op) ∧ w'.cell? ⟨B0, 3, none⟩ = some (.int .i64 (N1 : Int)))) (by kernel_rfl) (by rw [hv0]; exact ⟨Lib.hid (below_via HST.out.1 HB0.out), d2, d3⟩) (fun HS => ?_)
        rw [hv0] at HS ⊢
        clear hv0
        refine held_take (i := 0) (d := 31) (v := .slice (some ⟨G, 0, none⟩) N1 N1) rfl rfl (by kernel_rfl) (by kernel_rfl) (by kernel_rfl) (by kernel_rfl) (fun wx hS => by go_simp) HS ?_
        refine held_take (i := 1) (d := 32) (v := .int .i64 (k : Int)) rfl rfl (by kernel_rfl) (by kernel_rfl) (by kernel_rfl) (by kernel_rfl) (fun wx hS => by go_simp) HS ?_
        refine held_take (i := 2) (d := 33) (v := .pointer (some ⟨B0, 2, none⟩)) rfl rfl (by kernel_rfl) (by kernel_rfl) (by kernel_rfl) (by kernel_rfl) (fun wx hS => by go_simp) HS ?_
        refine held_take (i := 3) (d := 34) (v := .int .i64 op) rfl rfl (by kernel_rfl) (by kernel_rfl) (by kernel_rfl) (by kernel_rfl) (fun wx hS => by have h2 := hS.2.1; have h3 := hS.2.2; go_simp) HS ?_
        refine held_take (i := 4) (d := 35) (v := .pointer (some ⟨B0, 2, none⟩)) rfl rfl (by kernel_rfl) (by kernel_rfl) (by kernel_rfl) (by kernel_rfl) (fun wx hS => by go_simp) HS ?_
        refine held_take (i := 5) (d := 36) (v := .int .i64 op) rfl rfl (by kernel_rfl) (by kernel_rfl) (by kernel_rfl) (by kernel_rfl) (fun wx hS => by have h2 := hS.2.1; have h3 := hS.2.2; go_simp) HS ?_
        refine held_take (i := 6) (d := 37) (v := .slice q no cp) rfl rfl (by kernel_rfl) (by kernel_rfl) (by kernel_rfl) (by kernel_rfl) (fun wx hS => by go_simp) HS ?_
        refine held_take (i := 7) (d := 38) (v := .int .i64 (k : Int)) rfl rfl (by kernel_rfl) (by kernel_rfl) (by kernel_rfl) (by kernel_rfl) (fun wx hS => by go_simp) HS ?_
        refine held_take (i := 8) (d := 39) (v := .pointer (some ⟨B0, 3, none⟩)) rfl rfl (by kernel_rfl) (by kernel_rfl) (by kernel_rfl) (by kernel_rfl) (fun wx hS => by go_simp) HS ?_
        refine held_take (i := 9) (d := 40) (v := .int .i64 (N1 : Int)) rfl rfl (by kernel_rfl) (by kernel_rfl) (by kernel_rfl) (by kernel_rfl) (fun wx hS => by have h2 := hS.2.1; have h3 := hS.2.2; go_simp) HS ?_
        refine wpAnyH_ready (rs := [10]) (by kernel_rfl) (by simp) (AllReadyH.cons rfl (fun K hK => ?_) AllReadyH.nil)
        go_simp
        refine (ofpart_any q no cp V (k : Int) (N1 : Int) _ HVR.out hno6).mono ?_
        rw [HPVE.out]
        rintro e w5 ⟨q5, c5, rfl, hB, hk5, hq5, hc5⟩
        obtain ⟨n5, hn5⟩ : ∃ n5, PV.length = n5 := ⟨_, rfl⟩
        have hn56 : n5 ≤ 600 := by rw [← hn5]; exact HPL.out
        have HR5 := Lib.hid (rck_recs hk5 hn5 HMEM.out (by omega))
        rw [hn5]
        have HB5 := Lib.hid (below_via HB0.out hB)
        have HC := Lib.hid (below_via HS.1.out hB)
        have d2 := (hB.cell (p := ⟨B0, 2, none⟩) (World.block_lt_of_cell? _ _ d2)).trans d2
        have d3 := (hB.cell (p := ⟨B0, 3, none⟩) (World.block_lt_of_cell? _ _ d3)).trans d3
        clear hB hk5 hq5 hc5 hn5
        refine hK.out _ _ ⟨HC, d2, d3⟩ (fun HS => ?_)
        clear hK K
        refine wpAnyH_ready (rs := [11]) (by kernel_rfl) (by simp) (AllReadyH.cons rfl (fun K hK => ?_) AllReadyH.nil)
        go_simp
        refine (lifted_any op q5 n5 c5 PV _ HR5.out).mono ?_
        rintro e w7 ⟨q7, c7, rfl, hr7, hB⟩
        obtain ⟨n7, hn7⟩ : ∃ n7, (liftW op PV).length = n7 := ⟨_, rfl⟩
        have HR7 := Lib.hid (recs_lift hr7 hn7)
        rw [hn7]
        have HB7 := Lib.hid (below_via HB5.out hB)
        have HC := Lib.hid (below_via HS.1.out hB)
        have d2 := (hB.cell (p := ⟨B0, 2, none⟩) (World.block_lt_of_cell? _ _ d2)).trans d2
        have d3 := (hB.cell (p := ⟨B0, 3, none⟩) (World.block_lt_of_cell? _ _ d3)).trans d3
        clear hB hr7 hn7
        refine hK.out _ _ ⟨HC, d2, d3⟩ (fun HS => ?_)
        clear hK K
        refine wpAnyH_ready (rs := [12]) (by kernel_rfl) (by simp) (AllReadyH.cons rfl (fun K hK => ?_) AllReadyH.nil)
        go_simp
        refine (combined_any op q7 n7 c7 _ _ HR7.out).mono ?_
        rintro e w8 ⟨q8, c8, rfl, hr8, hB, _, _, _⟩
        have HRS := Lib.hid (show Rs wr.heap.size w8 q8 (R.getD k []) from by rw [HOFR.out]; exact Rs.base hr8 HB7.out.size)
        have HNA := Lib.hid (show (combW op (liftW op PV)).length = nAt R k by unfold nAt; rw [HOFR.out])
        rw [HNA.out]
        have HB8 := Lib.hid (below_via HB7.out hB)
        have HC := Lib.hid (below_via HS.1.out hB)
        have d2 := (hB.cell (p := ⟨B0, 2, none⟩) (World.block_lt_of_cell? _ _ d2)).trans d2
        have d3 := (hB.cell (p := ⟨B0, 3, none⟩) (World.block_lt_of_cell? _ _ d3)).trans d3
        clear hB hr8
        refine hK.out _ _ ⟨HC, d2, d3⟩ (fun HS => ?_)
        clear hK K
        have HNX := Lib.hid (MpSt.step (c := c8) HST.out HB8.out HRS.out hlt)
        obtain ⟨n8, hn8⟩ : ∃ n8, nAt R k = n8 := ⟨_, rfl⟩
        rw [hn8] at HNX ⊢
        obtain ⟨_, hG3, cur, g, hrow, hcs, _⟩ := HST.out.keep HB8.out
        have hA0 := hrow.cell (j := k) (by omega)
        have hf0 := hrow.free k
        generalize cur[k] = u0 at hA0
        have d2 : (w8.setCell ⟨G, k, none⟩ (.slice q8 n8 c8)).cell? ⟨B0, 2, none⟩ = some (.int .i64 op) := (World.cell?_setCell_other _ _ _ _ (by have := HGW.out; simp <;> omega)).trans d2
        have d3 : (w8.setCell ⟨G, k, none⟩ (.slice q8 n8 c8)).cell? ⟨B0, 3, none⟩ = some (.int .i64 (N1 : Int)) := (World.cell?_setCell_other _ _ _ _ (by have := HGW.out; simp <;> omega)).trans d3
        clear hrow hcs
        refine held_take (i := 13) (d := 44) (v := .pointer (some ⟨G, k, none⟩)) rfl rfl (by kernel_rfl) (by kernel_rfl) (by kernel_rfl) (by kernel_rfl) (fun wx hS => by go_simp) HS ?_
        refine wpAnyH_ready (rs := [14]) (by kernel_rfl) (by simp) (AllReadyH.cons rfl (fun K hK => ?_) AllReadyH.nil)
        go_simp
        refine hK.out _ _ ⟨Lib.hid HNX.out.1, d2, d3⟩ (fun HS => ?_)
        clear hK K
        refine wpAnyH_done (by kernel_rfl) (NoPanic.normal ?_) _
        clear d2 d3 hA0 hf0
        go_wp2
        go_roundw
        case rel => exact ⟨k + 1, by omega, by go_num, HNX⟩
        case measure => simp [intOf]; omega
      · obtain rfl : k = N1 := by omega
        have HMR := Lib.hid (HM.out.keep HST.out.1)
        have m0 := HMR.out.cell (j := 0) (by simp)
        have m1 := HMR.out.cell (j := 1) (by simp)
        have mf0 := HMR.out.free 0
        have mf1 := HMR.out.free 1
        simp at m0 m1
        go_wp2
        have hb := (HMR.out.set 0 (.slice (some ⟨G, 0, none⟩) k k)).set 1 (.int .i64 0)
        unfold Row at hb
        rw [HFIN.out]
        refine bodyPost_ret (v := .agg #[.slice (some ⟨G, 0, none⟩) k k, .int .i64 0]) (by simp [results, Tryz.results23, go_sem, World.cell?, hb]) rfl ⟨some ⟨G, 0, none⟩, k, by rw [HR.out], ?_, ?_⟩
        · exact growP (growP (growB HG.out HST.out.1) (by have := HBZ.out; omega) _ _) (by have := HBZ.out; omega) _ _
        · exact (((HST.out.runs HR.out).set HMW.out 0 _).set HMW.out 1 _).low (by have := HBZ.out; have := HMW.out; omega)
  · have HFIN := Lib.hid (mapR_stop (op := op) (n1 := (N1 : Int)) HRES.out hc0)
    have hz2 : (c == (0 : Int)) = false := by rw [beq_eq_false_iff_ne]; exact hc0
    have hz3 : (c != (0 : Int)) = true := by rw [bne_iff_ne]; exact hc0
    go_wp2
    have hb := (HM.out.set 0 (.slice none 0 0)).set 1 (.int .i64 c)
    unfold Row at hb
    rw [HFIN.out]
    refine bodyPost_ret (v := .agg #[.slice none 0 0, .int .i64 c]) (by simp [results, Tryz.results23, go_sem, World.cell?, hb]) rfl ⟨none, 0, rfl, ?_, runsB_nil _ _ _⟩
    exact growP (growP HG.out (by have := HBZ.out; omega) _ _) (by have := HBZ.out; omega) _ _

set_option maxHeartbeats 8000000 in
theorem mapof_any (p s : Option Addr) (pl pc sl sc : Nat) (each : Bool) (op n1 : Int) (l : Instrs) (m : Strs) (t : Int) (w : World) (h : JobAt w p pl l s sl m) (hn : ∀ i, i < pl → In64 (ins1 l i)) (hsz : ∀ i, i < sl → (strAt m i).size ≤ 1048576) (hT : TabsRP w) :
    Calls Tryz.prog 6 #[.agg #[.slice p pl pc, .bool each, .int .i64 op, .int .i64 n1, .slice s sl sc], .int .i64 t] w (MadeSS (mapJ l each op n1 m sl t) w) := by
  have hm := h.t.max
  unfold maxLen at hm
  have HN := Lib.hid hn
  have HT := Lib.hid hT
  have HJ := Lib.hid h
  have HB0 := Lib.hid (below_alloc (Below.refl w.heap.size w) (.cells #[.slice p pl pc, .bool each, .int .i64 op, .int .i64 n1, .slice s sl sc] 27))
  have HX := Lib.hid (row_new w #[.slice p pl pc, .bool each, .int .i64 op, .int .i64 n1, .slice s sl sc] 27)
  have HS := Lib.hid (h.keep HB0.out)
  have HZ := Lib.hid hsz
  obtain ⟨W0, hW0⟩ : ∃ W0, w.alloc (.cells #[.slice p pl pc, .bool each, .int .i64 op, .int .i64 n1, .slice s sl sc] 27) = W0 := ⟨_, rfl⟩
  have HW0 := Lib.hid hW0
  rw [hW0] at HB0 HX HS
  obtain ⟨B0, hB0⟩ : ∃ B0, w.heap.size = B0 := ⟨_, rfl⟩
  have HBZ := Lib.hid hB0
  rw [hB0] at HX
  obtain ⟨q0, hq0⟩ : ∃ q0, jobB l op n1 m sl = q0 := ⟨_, rfl⟩
  have HQ0 := Lib.hid hq0
  have x0 := HX.out.cell (j := 0) (by simp)
  have x1 := HX.out.cell (j := 1) (by simp)
  have x2 := HX.out.cell (j := 2) (by simp)
  have x3 := HX.out.cell (j := 3) (by simp)
  have x4 := HX.out.cell (j := 4) (by simp)
  simp at x0 x1 x2 x3 x4
  clear h hsz hW0 hq0 hn hT
  go_enter Tryz.func6, Tryz.ntmps6
  go_wp2_with fail
  rw [HW0.out]
  try rw [hB0]
  clear hB0
  refine (jobok_any p s pl pc sl sc each op n1 l m _ HS.out HZ.out (HT.out.forms.keep HB0.out)).mono ?_
  rw [HQ0.out]
  rintro e w1 ⟨rfl, hB⟩
  have HB := Lib.hid hB
  have HX1 := Lib.hid (HX.out.keep hB)
  clear hB x0 x1 x2 x3 x4
  have x0 := HX1.out.cell (j := 0) (by simp)
  have x1 := HX1.out.cell (j := 1) (by simp)
  have x2 := HX1.out.cell (j := 2) (by simp)
  have x3 := HX1.out.cell (j := 3) (by simp)
  have x4 := HX1.out.cell (j := 4) (by simp)
  simp at x0 x1 x2 x3 x4
  cases q0 with
  | false =>
    have HC := Lib.hid (mapJ_no (each := each) (t := t) (show ¬ (jobB l op n1 m sl = true ∧ 0 ≤ t ∧ t < sl) from fun h => by rw [HQ0.out] at h; cases h.1))
    go_wp2
    go_ret2
    exact ss_none HC.out (below_via HB0.out HB.out)
  | true =>
  by_cases ht0 : t < 0
  · have HC := Lib.hid (mapJ_no (each := each) (t := t) (show ¬ (jobB l op n1 m sl = true ∧ 0 ≤ t ∧ t < sl) from fun h => by omega))
    go_wp2
    go_ret2
    exact ss_none HC.out (below_via HB0.out HB.out)
  by_cases ht1 : (sl : Int) ≤ t
  · have HC := Lib.hid (mapJ_no (each := each) (t := t) (show ¬ (jobB l op n1 m sl = true ∧ 0 ≤ t ∧ t < sl) from fun h => by omega))
    go_wp2
    go_ret2
    exact ss_none HC.out (below_via HB0.out HB.out)
  obtain ⟨tn, rfl⟩ : ∃ tn : Nat, t = (tn : Int) := ⟨t.toNat, by omega⟩
  have htn : tn < sl := by omega
  have hti : (tn : Int) < (sl : Int) := by omega
  have HJP := Lib.hid (jobB_parts HQ0.out)
  have HM := Lib.hid (show mapJ l each op n1 m sl (tn : Int) = mapR l each op n1 (strAt m tn) from mapJ_yes HQ0.out (by omega) (by omega))
  rcases HS.out.t.src with hz | ⟨sb, off, rfl, hb, hc⟩
  · omega
  have c0 := hc tn htn
  have hts := HZ.out tn htn
  obtain ⟨x, hx⟩ : ∃ x, strAt m tn = x := ⟨_, rfl⟩
  rw [hx] at c0 hts HM
  have HMS := Lib.hid (fun P w1 (hs : ProgS P p pl pc l w1) (h0 : Below w.heap.size w w1) (hP : w.heap.size ≤ P) => mapsplit_any P p (some ⟨sb, off, none⟩) pl pc sl sc l each op n1 x w w1 hs HJ.out.i HN.out hts HT.out h0 hP HJP.out.1 HJP.out.2.1)
  obtain ⟨R, hR⟩ : ∃ R, (mapR l each op n1 x).1 = R := ⟨_, rfl⟩
  obtain ⟨c, hcc⟩ : ∃ c, (mapR l each op n1 x).2 = c := ⟨_, rfl⟩
  have HRES := Lib.hid (show mapR l each op n1 x = (R, c) by rw [← hR, ← hcc])
  obtain ⟨n, hnn⟩ : ∃ n, R.length = n := ⟨_, rfl⟩
  have HNN := Lib.hid hnn
  unfold MadeRunM at HMS
  simp only [HRES.out, HNN.out] at HMS
  have HFIN := Lib.hid (HM.out.trans HRES.out)
  clear hc hb hx hR hcc hnn HX1 HZ HJ HN HT HQ0 HJP
  go_wp2_with fail
  have HALL := Lib.hid (fun w' (hb : Below W0.heap.size W0 w') => (show (fun w' => Hid (Below W0.heap.size W0 w') ∧ w'.cell? ⟨B0, 0, none⟩ = some (.slice p pl pc) ∧ w'.cell? ⟨B0, 1, none⟩ = some (.bool each) ∧ w'.cell? ⟨B0, 2, none⟩ = some (.int .i64 op) ∧ w'.cell? ⟨B0, 3, none⟩ = some (.int .i64 n1) ∧ w'.cell? ⟨B0, 4, none⟩ = some (.slice (some ⟨sb, off, none⟩) sl sc) ∧ w'.cell? ⟨sb, off + tn, none⟩ = some (.string x)) w' from by
    have hr := HX.out.keep hb
    have k0 := hr.cell (j := 0) (by simp)
    have k1 := hr.cell (j := 1) (by simp)
    have k2 := hr.cell (j := 2) (by simp)
    have k3 := hr.cell (j := 3) (by simp)
    have k4 := hr.cell (j := 4) (by simp)
    simp at k0 k1 k2 k3 k4
    exact ⟨Lib.hid hb, k0, k1, k2, k3, k4, (hb.cell (World.block_lt_of_cell? _ _ c0)).trans c0⟩))
  clear x0 x1 x2 x3 x4
  refine wp_region_noPanic ?_
  obtain ⟨v0, hv0⟩ : ∃ x, w1.drew = x := ⟨_, rfl⟩
  have HV := Lib.hid (show Below W0.heap.size W0 v0 from by rw [← hv0]; exact below_via HB.out (below_drewN (Below.refl _ _) 1))
  refine wp_region_held_drew (S := (fun w' => Hid (Below W0.heap.size W0 w') ∧ w'.cell? ⟨B0, 0, none⟩ = some (.slice p pl pc) ∧ w'.cell? ⟨B0, 1, none⟩ = some (.bool each) ∧ w'.cell? ⟨B0, 2, none⟩ = some (.int .i64 op) ∧ w'.cell? ⟨B0, 3, none⟩ = some (.int .i64 n1) ∧ w'.cell? ⟨B0, 4, none⟩ = some (.slice (some ⟨sb, off, none⟩) sl sc) ∧ w'.cell? ⟨sb, off + tn, none⟩ = some (.string x))) (by kernel_rfl) (by rw [hv0]; exact HALL.out _ HV.out) (fun HS3 => ?_)
  rw [hv0] at HS3 ⊢
  clear hv0
  refine held_take (i := 0) (d := 21) (v := .pointer (some ⟨B0, 0, none⟩)) rfl rfl (by kernel_rfl) (by kernel_rfl) (by kernel_rfl) (by kernel_rfl) (fun wx hS => by go_simp) HS3 ?_
  refine held_take (i := 1) (d := 22) (v := .slice p pl pc) rfl rfl (by kernel_rfl) (by kernel_rfl) (by kernel_rfl) (by kernel_rfl) (fun wx hS => by obtain ⟨_, h0, h1, h2, h3, h4, h5⟩ := hS; go_simp) HS3 ?_
  refine held_take (i := 2) (d := 23) (v := _) rfl rfl (by kernel_rfl) (by kernel_rfl) (by kernel_rfl) (by kernel_rfl) (fun wx hS => by go_simp <;> rfl) HS3 ?_
  refine held_take (i := 4) (d := 25) (v := .agg #[.slice p pl pc, .bool each, .int .i64 op, .int .i64 n1, .slice (some ⟨sb, off, none⟩) sl sc]) rfl rfl (by kernel_rfl) (by kernel_rfl) (by kernel_rfl) (by kernel_rfl) (fun wx hS => by obtain ⟨_, h0, h1, h2, h3, h4, h5⟩ := hS; go_simp) HS3 ?_
  refine held_take (i := 5) (d := 26) (v := .pointer (some ⟨B0, 4, none⟩)) rfl rfl (by kernel_rfl) (by kernel_rfl) (by kernel_rfl) (by kernel_rfl) (fun wx hS => by go_simp) HS3 ?_
  refine held_take (i := 6) (d := 27) (v := .slice (some ⟨sb, off, none⟩) sl sc) rfl rfl (by kernel_rfl) (by kernel_rfl) (by kernel_rfl) (by kernel_rfl) (fun wx hS => by obtain ⟨_, h0, h1, h2, h3, h4, h5⟩ := hS; go_simp) HS3 ?_
  refine held_take (i := 7) (d := 28) (v := .int .i64 (tn : Int)) rfl rfl (by kernel_rfl) (by kernel_rfl) (by kernel_rfl) (by kernel_rfl) (fun wx hS => by go_simp) HS3 ?_
  refine held_take (i := 8) (d := 29) (v := .pointer (some ⟨sb, off + tn, none⟩)) rfl rfl (by kernel_rfl) (by kernel_rfl) (by kernel_rfl) (by kernel_rfl) (fun wx hS => by go_simp) HS3 ?_
  refine held_take (i := 9) (d := 30) (v := .string x) rfl rfl (by kernel_rfl) (by kernel_rfl) (by kernel_rfl) (by kernel_rfl) (fun wx hS => by obtain ⟨_, h0, h1, h2, h3, h4, h5⟩ := hS; go_simp) HS3 ?_
  refine wpAnyH_ready (rs := [3, 11]) (by kernel_rfl) (by simp) (AllReadyH.cons rfl (fun K hK => ?_) (AllReadyH.cons rfl (fun K hK => ?_) AllReadyH.nil))
  · skip
    go_simp
    refine hK.out _ _ (HALL.out _ (below_alloc HV.out _)) (fun HS3 => ?_)
    clear hK K
    have HPR0 := Lib.hid (row_new v0 #[.slice p pl pc, .int .u32 0, .int .i32 0, .int .u32 0, .bool false, .slice none 0 0] 70)
    have HBa0 := Lib.hid (below_alloc HV.out (.cells #[.slice p pl pc, .int .u32 0, .int .i32 0, .int .u32 0, .bool false, .slice none 0 0] 70))
    obtain ⟨va, hva⟩ : ∃ x, v0.alloc (.cells #[.slice p pl pc, .int .u32 0, .int .i32 0, .int .u32 0, .bool false, .slice none 0 0] 70) = x := ⟨_, rfl⟩
    obtain ⟨P, hP⟩ : ∃ x, v0.heap.size = x := ⟨_, rfl⟩
    have HPP := Lib.hid (show W0.heap.size ≤ P from by rw [← hP]; exact HV.out.size)
    rw [hva, hP] at HPR0
    rw [hva] at HBa0 HS3
    rw [hva, hP]
    clear hva hP
    refine wpAnyH_ready (rs := [10, 11]) (by kernel_rfl) (by simp) (AllReadyH.cons rfl (fun K hK => ?_) (AllReadyH.cons rfl (fun K hK => ?_) AllReadyH.nil))
    · skip
      have HPR := HPR0
      have HBa := HBa0
      go_simp
      refine (HMS.out P va (.inl HPR.out) (below_via HB0.out HBa.out) (Nat.le_trans HB0.out.size HPP.out)).mono ?_
      rintro e w4 ⟨q, cp, rfl, hg, hr⟩
      have HB4 := Lib.hid (HBa.out.grown hg HBa.out.size (fun k hk => by cases hk; exact HPP.out))
      have HR4 := Lib.hid (hr.low (Nat.le_trans HB0.out.size HBa.out.size))
      refine hK.out _ _ (HALL.out _ HB4.out) (fun HS3 => ?_)
      clear hK K
      refine wpAnyH_ready (rs := [11]) (by kernel_rfl) (by simp) (AllReadyH.cons rfl (fun K hK => ?_) AllReadyH.nil)
      go_simp
      refine hK.out _ _ (HALL.out _ (below_alloc HB4.out _)) (fun HS3 => ?_)
      clear hK K
      have HMX0 := Lib.hid (row_new w4 #[.slice none 0 0, .int .i64 0] 53)
      have HBX := Lib.hid (below_alloc HB4.out (.cells #[.slice none 0 0, .int .i64 0] 53))
      have HRX := Lib.hid (HR4.out.keep (below_alloc (Below.refl _ _) (.cells #[.slice none 0 0, .int .i64 0] 53)))
      obtain ⟨X, hX⟩ : ∃ x, w4.heap.size = x := ⟨_, rfl⟩
      have HXL : W0.heap.size ≤ X := by rw [← hX]; exact HB4.out.size
      obtain ⟨wX, hwX⟩ : ∃ x, w4.alloc (.cells #[.slice none 0 0, .int .i64 0] 53) = x := ⟨_, rfl⟩
      rw [hX, hwX] at HMX0
      rw [hwX] at HBX HRX HS3
      rw [hX, hwX]
      clear hX hwX
      have HMX := HMX0
      have HXW := Lib.hid HXL
      have m0 := HMX.out.cell (j := 0) (by simp)
      have m1 := HMX.out.cell (j := 1) (by simp)
      have mf0 := HMX.out.free 0
      have mf1 := HMX.out.free 1
      simp at m0 m1
      refine wpAnyH_ready (rs := [12]) (by kernel_rfl) (by simp) (AllReadyH.cons rfl (fun K hK => ?_) AllReadyH.nil)
      go_simp
      have HBF := Lib.hid ((HBX.out.setCell (p := ⟨X, 0, none⟩) HXW.out (.slice q n cp)).setCell (p := ⟨X, 1, none⟩) HXW.out (.int .i64 c))
      have HMF := Lib.hid ((HMX.out.set 0 (.slice q n cp)).set 1 (.int .i64 c))
      have HRF := Lib.hid ((HRX.out.putT HMX.out (by decide) (by decide) 0 (.slice q n cp)).putT (HMX.out.set 0 (.slice q n cp)) (by decide) (by decide) 1 (.int .i64 c))
      clear m0 m1 mf0 mf1
      generalize ((wX.setCell ⟨X, 0, none⟩ (.slice q n cp)).setCell ⟨X, 1, none⟩ (.int .i64 c)) = wF at HBF HMF HRF ⊢
      refine hK.out _ _ (HALL.out _ HBF.out) (fun HS3 => ?_)
      clear hK K
      refine wpAnyH_done (by kernel_rfl) (NoPanic.normal ?_) _
      have m0 := HMF.out.cell (j := 0) (by simp)
      have m1 := HMF.out.cell (j := 1) (by simp)
      simp at m0 m1
      clear HS3
      go_wp2_with fail
      go_quiet (fail)
      go_wp2
      go_ret2
      rw [HFIN.out]
      exact ⟨q, cp, by rw [← HNN.out]; rfl, below_via HB0.out (below_drewN HBF.out _), HRF.out.keep (below_drewN (Below.refl _ _) _)⟩
    · skip
      go_simp
      refine hK.out _ _ (HALL.out _ (below_alloc HBa0.out _)) (fun HS3 => ?_)
      clear hK K
      have HBa := Lib.hid (below_alloc HBa0.out (.cells #[.slice none 0 0, .int .i64 0] 53))
      have HPR := Lib.hid (HPR0.out.al (.cells #[.slice none 0 0, .int .i64 0] 53))
      have HMX0 := Lib.hid (row_new va #[.slice none 0 0, .int .i64 0] 53)
      obtain ⟨X, hX⟩ : ∃ x, va.heap.size = x := ⟨_, rfl⟩
      have HXL : W0.heap.size ≤ X := by rw [← hX]; exact HBa0.out.size
      obtain ⟨vb, hvb⟩ : ∃ x, va.alloc (.cells #[.slice none 0 0, .int .i64 0] 53) = x := ⟨_, rfl⟩
      rw [hX, hvb] at HMX0
      rw [hvb] at HBa HPR HS3
      rw [hX, hvb]
      clear hX hvb
      refine wpAnyH_ready (rs := [10]) (by kernel_rfl) (by simp) (AllReadyH.cons rfl (fun K hK => ?_) AllReadyH.nil)
      go_simp
      refine (HMS.out P vb (.inl HPR.out) (below_via HB0.out HBa.out) (Nat.le_trans HB0.out.size HPP.out)).mono ?_
      rintro e w4 ⟨q, cp, rfl, hg, hr⟩
      have HB4 := Lib.hid (HBa.out.grown hg HBa.out.size (fun k hk => by cases hk; exact HPP.out))
      have HR4 := Lib.hid (hr.low (Nat.le_trans HB0.out.size HBa.out.size))
      refine hK.out _ _ (HALL.out _ HB4.out) (fun HS3 => ?_)
      clear hK K
      have HMX := Lib.hid (HMX0.out.grown hg (fun e => row_ne HPR.out HMX0.out (by decide) (Option.some.inj e)))
      obtain ⟨wX, rfl⟩ : ∃ x, x = w4 := ⟨_, rfl⟩
      have HBX := HB4
      have HRX := HR4
      have HXW := Lib.hid HXL
      have m0 := HMX.out.cell (j := 0) (by simp)
      have m1 := HMX.out.cell (j := 1) (by simp)
      have mf0 := HMX.out.free 0
      have mf1 := HMX.out.free 1
      simp at m0 m1
      refine wpAnyH_ready (rs := [12]) (by kernel_rfl) (by simp) (AllReadyH.cons rfl (fun K hK => ?_) AllReadyH.nil)
      go_simp
      have HBF := Lib.hid ((HBX.out.setCell (p := ⟨X, 0, none⟩) HXW.out (.slice q n cp)).setCell (p := ⟨X, 1, none⟩) HXW.out (.int .i64 c))
      have HMF := Lib.hid ((HMX.out.set 0 (.slice q n cp)).set 1 (.int .i64 c))
      have HRF := Lib.hid ((HRX.out.putT HMX.out (by decide) (by decide) 0 (.slice q n cp)).putT (HMX.out.set 0 (.slice q n cp)) (by decide) (by decide) 1 (.int .i64 c))
      clear m0 m1 mf0 mf1
      generalize ((wX.setCell ⟨X, 0, none⟩ (.slice q n cp)).setCell ⟨X, 1, none⟩ (.int .i64 c)) = wF at HBF HMF HRF ⊢
      refine hK.out _ _ (HALL.out _ HBF.out) (fun HS3 => ?_)
      clear hK K
      refine wpAnyH_done (by kernel_rfl) (NoPanic.normal ?_) _
      have m0 := HMF.out.cell (j := 0) (by simp)
      have m1 := HMF.out.cell (j := 1) (by simp)
      simp at m0 m1
      clear HS3
      go_wp2_with fail
      go_quiet (fail)
      go_wp2
      go_ret2
      rw [HFIN.out]
      exact ⟨q, cp, by rw [← HNN.out]; rfl, below_via HB0.out (below_drewN HBF.out _), HRF.out.keep (below_drewN (Below.refl _ _) _)⟩
  · skip
    go_simp
    refine hK.out _ _ (HALL.out _ (below_alloc HV.out _)) (fun HS3 => ?_)
    clear hK K
    have HMX0 := Lib.hid (row_new v0 #[.slice none 0 0, .int .i64 0] 53)
    have HBa0 := Lib.hid (below_alloc HV.out (.cells #[.slice none 0 0, .int .i64 0] 53))
    obtain ⟨va, hva⟩ : ∃ x, v0.alloc (.cells #[.slice none 0 0, .int .i64 0] 53) = x := ⟨_, rfl⟩
    obtain ⟨X, hX⟩ : ∃ x, v0.heap.size = x := ⟨_, rfl⟩
    have HXL : W0.heap.size ≤ X := by rw [← hX]; exact HV.out.size
    rw [hva, hX] at HMX0
    rw [hva] at HBa0 HS3
    rw [hva, hX]
    clear hva hX
    refine wpAnyH_ready (rs := [3]) (by kernel_rfl) (by simp) (AllReadyH.cons rfl (fun K hK => ?_) AllReadyH.nil)
    go_simp
    refine hK.out _ _ (HALL.out _ (below_alloc HBa0.out _)) (fun HS3 => ?_)
    clear hK K
    have HPR := Lib.hid (row_new va #[.slice p pl pc, .int .u32 0, .int .i32 0, .int .u32 0, .bool false, .slice none 0 0] 70)
    have HMX1 := Lib.hid (HMX0.out.al (.cells #[.slice p pl pc, .int .u32 0, .int .i32 0, .int .u32 0, .bool false, .slice none 0 0] 70))
    have HBa := Lib.hid (below_alloc HBa0.out (.cells #[.slice p pl pc, .int .u32 0, .int .i32 0, .int .u32 0, .bool false, .slice none 0 0] 70))
    obtain ⟨vb, hvb⟩ : ∃ x, va.alloc (.cells #[.slice p pl pc, .int .u32 0, .int .i32 0, .int .u32 0, .bool false, .slice none 0 0] 70) = x := ⟨_, rfl⟩
    obtain ⟨P, hP⟩ : ∃ x, va.heap.size = x := ⟨_, rfl⟩
    have HPP := Lib.hid (show W0.heap.size ≤ P from by rw [← hP]; exact HBa0.out.size)
    rw [hvb, hP] at HPR
    rw [hvb] at HBa HMX1 HS3
    rw [hvb, hP]
    clear hvb hP
    refine wpAnyH_ready (rs := [10]) (by kernel_rfl) (by simp) (AllReadyH.cons rfl (fun K hK => ?_) AllReadyH.nil)
    go_simp
    refine (HMS.out P vb (.inl HPR.out) (below_via HB0.out HBa.out) (Nat.le_trans HB0.out.size HPP.out)).mono ?_
    rintro e w4 ⟨q, cp, rfl, hg, hr⟩
    have HB4 := Lib.hid (HBa.out.grown hg HBa.out.size (fun k hk => by cases hk; exact HPP.out))
    have HR4 := Lib.hid (hr.low (Nat.le_trans HB0.out.size HBa.out.size))
    refine hK.out _ _ (HALL.out _ HB4.out) (fun HS3 => ?_)
    clear hK K
    have HMX := Lib.hid (HMX1.out.grown hg (fun e => row_ne HPR.out HMX1.out (by decide) (Option.some.inj e)))
    obtain ⟨wX, rfl⟩ : ∃ x, x = w4 := ⟨_, rfl⟩
    have HBX := HB4
    have HRX := HR4
    have HXW := Lib.hid HXL
    have m0 := HMX.out.cell (j := 0) (by simp)
    have m1 := HMX.out.cell (j := 1) (by simp)
    have mf0 := HMX.out.free 0
    have mf1 := HMX.out.free 1
    simp at m0 m1
    refine wpAnyH_ready (rs := [12]) (by kernel_rfl) (by simp) (AllReadyH.cons rfl (fun K hK => ?_) AllReadyH.nil)
    go_simp
    have HBF := Lib.hid ((HBX.out.setCell (p := ⟨X, 0, none⟩) HXW.out (.slice q n cp)).setCell (p := ⟨X, 1, none⟩) HXW.out (.int .i64 c))
    have HMF := Lib.hid ((HMX.out.set 0 (.slice q n cp)).set 1 (.int .i64 c))
    have HRF := Lib.hid ((HRX.out.putT HMX.out (by decide) (by decide) 0 (.slice q n cp)).putT (HMX.out.set 0 (.slice q n cp)) (by decide) (by decide) 1 (.int .i64 c))
    clear m0 m1 mf0 mf1
    generalize ((wX.setCell ⟨X, 0, none⟩ (.slice q n cp)).setCell ⟨X, 1, none⟩ (.int .i64 c)) = wF at HBF HMF HRF ⊢
    refine hK.out _ _ (HALL.out _ HBF.out) (fun HS3 => ?_)
    clear hK K
    refine wpAnyH_done (by kernel_rfl) (NoPanic.normal ?_) _
    have m0 := HMF.out.cell (j := 0) (by simp)
    have m1 := HMF.out.cell (j := 1) (by simp)
    simp at m0 m1
    clear HS3
    go_wp2_with fail
    go_quiet (fail)
    go_wp2
    go_ret2
    rw [HFIN.out]
    exact ⟨q, cp, by rw [← HNN.out]; rfl, below_via HB0.out (below_drewN HBF.out _), HRF.out.keep (below_drewN (Below.refl _ _) _)⟩
end Go.Proofs.YtjofbeokkainlaaGreatDoor
namespace Go.Proofs.YtjofbeokkainlaaGreatDoor
open Go.ChangeShapes Go.WideShapes Go.ChangeAt Go.RowKit
set_option linter.unusedVariables false

def recTx (r : ByteArray × Int) : ByteArray := ⟨#[32]⟩ ++ r.1 ++ ⟨#[61]⟩ ++ decB r.2
def runTo (t : ByteArray) (V : Recs) (i : Nat) : ByteArray := (V.take i).foldl (fun t r => t ++ recTx r) t
def outTo (LS : List Recs) (k : Nat) : ByteArray := (LS.take k).foldl (fun t V => runTo (t ++ ⟨#[32, 124]⟩) V V.length) ⟨#[100, 111, 110, 101]⟩
def resTx (d f : Bool) (task : Int) (LS : List Recs) : ByteArray :=
  if d then outTo LS LS.length else if f then ⟨#[102, 97, 105, 108, 101, 100, 32]⟩ ++ decB task else ⟨#[111, 112, 101, 110]⟩
theorem runTo_zero (t : ByteArray) (V : Recs) : runTo t V 0 = t := by simp [runTo]
theorem runTo_step (t : ByteArray) (V : Recs) (i : Nat) (h : i < V.length) : runTo t V (i + 1) = runTo t V i ++ recTx (keyAt V i, numAt V i) := by
  unfold runTo
  rw [List.take_succ_eq_append_getElem h, List.foldl_append]
  have e : V[i] = (keyAt V i, numAt V i) := by
    unfold keyAt numAt
    rw [List.getD_eq_getElem?_getD, List.getElem?_eq_getElem h]
    rfl
  rw [e]
  rfl
theorem outTo_zero (LS : List Recs) : outTo LS 0 = ⟨#[100, 111, 110, 101]⟩ := by simp [outTo]
theorem outTo_step (LS : List Recs) (k : Nat) (h : k < LS.length) : outTo LS (k + 1) = runTo (outTo LS k ++ ⟨#[32, 124]⟩) (LS.getD k []) (LS.getD k []).length := by
  unfold outTo
  rw [List.take_succ_eq_append_getElem h, List.foldl_append]
  have e : LS[k] = LS.getD k [] := by
    rw [List.getD_eq_getElem?_getD, List.getElem?_eq_getElem h]
    rfl
  rw [e]
  rfl
/-- Few runs, few records, short keys, numbers of 64 bits. -/
structure FewR (LS : List Recs) : Prop where
  runs : LS.length ≤ 1048576
  recs : LS.flatten.length ≤ 1048576
  short : ∀ V ∈ LS, ∀ r ∈ V, r.1.size ≤ 1048576
  nums : ∀ V ∈ LS, ∀ r ∈ V, In64 r.2
theorem app_sz (s u : ByteArray) : (s ++ u).size = s.size + u.size := by simp
theorem recTx_le {s : ByteArray} {n : Int} (h : s.size ≤ 1048576) (hn : In64 n) : (recTx (s, n)).size ≤ 1048600 := by
  have := @decB_size n hn.1 (by have := hn.2; omega)
  unfold recTx
  rw [app_sz, app_sz, app_sz]
  show 1 + s.size + 1 + (decB n).size ≤ 1048600
  omega
theorem runTo_le (t : ByteArray) (V : Recs) (hs : ∀ r ∈ V, r.1.size ≤ 1048576) (hn : ∀ r ∈ V, In64 r.2) : ∀ i, i ≤ V.length → (runTo t V i).size ≤ t.size + i * 1048600
  | 0, _ => by rw [runTo_zero]; omega
  | i + 1, h => by
    have hi : i < V.length := by omega
    have e : V[i] = (keyAt V i, numAt V i) := by
      unfold keyAt numAt
      rw [List.getD_eq_getElem?_getD, List.getElem?_eq_getElem hi]
      rfl
    have h1 := hs _ (List.getElem_mem hi)
    have h2 := hn _ (List.getElem_mem hi)
    rw [e] at h1 h2
    have := runTo_le t V hs hn i (by omega)
    have := recTx_le (s := keyAt V i) (n := numAt V i) h1 h2
    rw [runTo_step t V i hi, app_sz]
    omega
theorem getD_mem' {LS : List Recs} {k : Nat} (h : k < LS.length) : LS.getD k [] ∈ LS := by
  rw [List.getD_eq_getElem?_getD, List.getElem?_eq_getElem h]
  exact List.getElem_mem h
theorem outTo_le {LS : List Recs} (hf : FewR LS) : ∀ k, k ≤ LS.length → (outTo LS k).size ≤ 4 + k * 2 + (LS.take k).flatten.length * 1048600
  | 0, _ => by
    rw [outTo_zero]
    exact Nat.le_trans (show (⟨#[100, 111, 110, 101]⟩ : ByteArray).size ≤ 4 by decide) (by omega)
  | k + 1, h => by
    have hk : k < LS.length := by omega
    have hm := getD_mem' hk
    have ih := outTo_le hf k (by omega)
    have hr := runTo_le (outTo LS k ++ ⟨#[32, 124]⟩) (LS.getD k []) (hf.short _ hm) (hf.nums _ hm) _ (Nat.le_refl _)
    rw [app_sz] at hr
    have e : (LS.take (k + 1)).flatten.length = (LS.take k).flatten.length + (LS.getD k []).length := by
      rw [List.take_succ_eq_append_getElem hk, List.flatten_append, List.length_append, List.flatten_singleton, List.getD_eq_getElem?_getD, List.getElem?_eq_getElem hk]
      rfl
    have e2 : (⟨#[32, 124]⟩ : ByteArray).size = 2 := rfl
    rw [e2] at hr
    rw [outTo_step LS k hk, e]
    omega
theorem runIn_le {LS : List Recs} (hf : FewR LS) {k i : Nat} (hk : k < LS.length) (hi : i ≤ (LS.getD k []).length) : (runTo (outTo LS k ++ ⟨#[32, 124]⟩) (LS.getD k []) i).size ≤ 1100000000000 := by
  have hm := getD_mem' hk
  have h1 := outTo_le hf k (by omega)
  have h2 := runTo_le (outTo LS k ++ ⟨#[32, 124]⟩) (LS.getD k []) (hf.short _ hm) (hf.nums _ hm) i hi
  rw [app_sz] at h2
  have e2 : (⟨#[32, 124]⟩ : ByteArray).size = 2 := rfl
  rw [e2] at h2
  have hl : (LS.take k).flatten.length + (LS.getD k []).length ≤ LS.flatten.length := by
    have e : LS.flatten = (LS.take k).flatten ++ (LS.drop k).flatten := by rw [← List.flatten_append, List.take_append_drop]
    rw [e, List.length_append, List.drop_eq_getElem_cons hk, List.flatten_cons, List.length_append, List.getD_eq_getElem?_getD, List.getElem?_eq_getElem hk]
    show _ + LS[k].length ≤ _
    omega
  have h3 := hf.recs
  have h4 := hf.runs
  omega
theorem outIn_le {LS : List Recs} (hf : FewR LS) {k : Nat} (hk : k ≤ LS.length) : (outTo LS k).size ≤ 1100000000000 := by
  have h1 := outTo_le hf k hk
  have hl : (LS.take k).flatten.length ≤ LS.flatten.length := by
    have e : LS.flatten = (LS.take k).flatten ++ (LS.drop k).flatten := by rw [← List.flatten_append, List.take_append_drop]
    rw [e, List.length_append]
    omega
  have h3 := hf.recs
  have h4 := hf.runs
  omega

/-- A slice of runs that may be read. -/
structure OutsAt (w : World) (a : Option Addr) (len : Nat) (LS : List Recs) : Prop where
  length : LS.length = len
  max : len ≤ maxLen
  src : len = 0 ∨ ∃ b off, a = some ⟨b, off, none⟩ ∧ b < w.heap.size ∧ ∀ i, i < len → ∃ p m c, w.cell? ⟨b, off + i, none⟩ = some (.slice p m c) ∧ RecsAt w p m (LS.getD i [])
theorem OutsAt.keep {w w1 : World} {a : Option Addr} {len : Nat} {LS : List Recs} (h : OutsAt w a len LS) (hB : Below w.heap.size w w1) : OutsAt w1 a len LS := by
  refine ⟨h.length, h.max, ?_⟩
  rcases h.src with h0 | ⟨b, off, ha, hb, hc⟩
  · exact .inl h0
  · refine .inr ⟨b, off, ha, Nat.lt_of_lt_of_le hb hB.size, fun i hi => ?_⟩
    obtain ⟨p, m, c, h1, h2⟩ := hc i hi
    exact ⟨p, m, c, (hB.cell (p := ⟨b, off + i, none⟩) hb).trans h1, h2.keep hB⟩
end Go.Proofs.YtjofbeokkainlaaGreatDoor
