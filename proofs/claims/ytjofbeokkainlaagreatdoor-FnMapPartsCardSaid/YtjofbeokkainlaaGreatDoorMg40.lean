/- Texts put together, as a claim holds at most sixty files. -/
import Derived.Test.YtjofbeokkainlaaGreatDoorMg38
import Derived.Test.YtjofbeokkainlaaGreatDoorMg16
import Derived.Test.YtjofbeokkainlaaGreatDoorMg36
import Derived.Test.YtjofbeokkainlaaGreatDoorMg1
import Derived.Test.YtjofbeokkainlaaGreatDoorMg35
import Derived.Deep.AppendLies
import Derived.Deep.Onto
import Derived.Test.YtjofbeokkainlaaGreatDoorOutS
import Derived.Test.YtjofbeokkainlaaGreatDoorMg22
import Derived.Test.YtjofbeokkainlaaGreatDoorMg41
import Derived.Test.YtjofbeokkainlaaGreatDoorMg18
import Derived.Test.YtjofbeokkainlaaGreatDoorMg21
namespace Go.Proofs.YtjofbeokkainlaaGreatDoor
open Go.ChangeShapes Go.WideShapes Go.ChangeAt Go.RowKit
set_option linter.unusedVariables false
set_option maxRecDepth 100000

theorem slifted_q (op : Int) (q : Option Addr) (n cp : Nat) (V : Recs) (w : World) (h : RecsAt w q n V) (hf : q = none ∨ ∃ g, q = some ⟨g, 0, none⟩) (hc : q = none → cp = 0) :
    Calls Tryz.prog 30 #[.int .i64 op, .slice q n cp] w (MadeRsL (liftW op V) w) := by
  rcases hf with rfl | ⟨g, rfl⟩
  · obtain rfl := hc rfl
    obtain rfl : n = 0 := by
      rcases h.src with h0 | ⟨b, off, ha, _⟩
      · exact h0
      · cases ha
    obtain rfl : V = [] := List.eq_nil_of_length_eq_zero h.length
    rw [lift_nil]
    exact slifted_nil op w
  · exact slifted_any op g 0 n cp V w h
/-- The model's rounds over the lines. -/
structure EmS (l : Instrs) (each : Bool) (L : Strs) (w wr : World) (qo : Option Addr) (co : Nat) (k : Nat) (O : Recs) (lq : Option Addr) (B : Nat) (WL : List (List UInt8)) : Prop where
  ev : emitTo l each L k = (O, 0)
  own : wr.ownsRow w.heap.size 37 2 (.slice qo O.length co) O.length (cellsRc O)
  words : Ws B wr lq WL
  below : Below w.heap.size w wr
theorem EmS.keep {l : Instrs} {each : Bool} {L : Strs} {w wr w1 : World} {qo : Option Addr} {co : Nat} {k : Nat} {O : Recs} {lq : Option Addr} {B : Nat} {WL : List (List UInt8)} (h : EmS l each L w wr qo co k O lq B WL) (hB : Below wr.heap.size wr w1) : EmS l each L w w1 qo co k O lq B WL :=
  ⟨h.ev, own_below h.own hB, ws_keep h.words hB, below_via h.below hB⟩
theorem FewSS.short {R : List Recs} (h : FewSS R) : ShortR R := fun i hi => ⟨h.recs i hi, h.keys i hi⟩

/-- The end of the model's map task: its runs, as they read, and its code. -/
def MadeSO (o : List Recs × Int) (w : World) (e : Ending) (w' : World) : Prop :=
  ∃ q cp XS, e = .returned (.tuple #[.slice q o.1.length cp, .int .i64 o.2]) ∧ OutS o.1 w w' q o.1.length cp XS
theorem so_none {o : List Recs × Int} {c : Int} {w w' : World} (h : o = ([], c)) (hB : Below w.heap.size w w') : MadeSO o w (.returned (.tuple #[.slice none 0 0, .int .i64 c])) w' := by
  subst h; exact ⟨none, 0, [], rfl, outS_nil w w' hB⟩

set_option maxHeartbeats 8000000 in
theorem smapof_any (p s : Option Addr) (pl pc sl sc : Nat) (each : Bool) (op n1 : Int) (l : Instrs) (m : Strs) (t : Int) (w : World) (h : JobAt w p pl l s sl m) (hn : ∀ i, i < pl → In64 (ins1 l i)) (hsz : ∀ i, i < sl → (strAt m i).size ≤ 1048576) :
    Calls Tryz.prog 7 #[.agg #[.slice p pl pc, .bool each, .int .i64 op, .int .i64 n1, .slice s sl sc], .int .i64 t] w (MadeSO (mapJ l each op n1 m sl t) w) := by
  have hm := h.t.max
  unfold maxLen at hm
  obtain ⟨i0, hi, hz0, hz1, hz2⟩ := info_parts infoRecS
  have HN := Lib.hid (show ∀ i, i < l.length → In64 (ins1 l i) from fun i hi => hn i (by rw [← h.i.length]; exact hi))
  have HB0 := Lib.hid (below_alloc (Below.refl w.heap.size w) (.cells #[.slice p pl pc, .bool each, .int .i64 op, .int .i64 n1, .slice s sl sc] 27))
  have HX := Lib.hid (row_new w #[.slice p pl pc, .bool each, .int .i64 op, .int .i64 n1, .slice s sl sc] 27)
  have HS := Lib.hid (h.keep HB0.out)
  have HZ := Lib.hid hsz
  have HEV := Lib.hid (fun a s w (h : InstrsAt w a pl l) (hs : s.size ≤ 1048576) => sevalline_any a pl pc l each s w h hn hs)
  obtain ⟨W0, hW0⟩ : ∃ W0, w.alloc (.cells #[.slice p pl pc, .bool each, .int .i64 op, .int .i64 n1, .slice s sl sc] 27) = W0 := ⟨_, rfl⟩
  have HW0 := Lib.hid hW0
  rw [hW0] at HB0 HX HS
  obtain ⟨B0, hB0⟩ : ∃ B0, w.heap.size = B0 := ⟨_, rfl⟩
  rw [hB0] at HX
  obtain ⟨q0, hq0⟩ : ∃ q0, jobB l op n1 m sl = q0 := ⟨_, rfl⟩
  have HQ0 := Lib.hid hq0
  have HB := Lib.hid (Below.refl W0.heap.size W0)
  have x0 := HX.out.cell (j := 0) (by simp)
  have x1 := HX.out.cell (j := 1) (by simp)
  have x2 := HX.out.cell (j := 2) (by simp)
  have x3 := HX.out.cell (j := 3) (by simp)
  have x4 := HX.out.cell (j := 4) (by simp)
  simp at x0 x1 x2 x3 x4
  clear h hsz hW0 hq0 hn
  go_enter Tryz.func7, Tryz.ntmps7
  go_wp2_with fail
  rw [HW0.out]
  try rw [hB0]
  refine (sjobok_any p s pl pc sl sc each op n1 l m _ HS.out HZ.out).mono ?_
  rw [HQ0.out]
  rintro e w1 ⟨rfl, hB⟩
  have HB := Lib.hid (below_via HB.out hB)
  clear hB x0 x1 x2 x3 x4
  have HX1 := Lib.hid (HX.out.keep HB.out)
  have x3 := HX1.out.cell (j := 3) (by simp)
  have x4 := HX1.out.cell (j := 4) (by simp)
  simp at x3 x4
  cases q0 with
  | false =>
    have HC := Lib.hid (mapJ_no (each := each) (t := t) (show ¬ (jobB l op n1 m sl = true ∧ 0 ≤ t ∧ t < sl) from fun h => by rw [HQ0.out] at h; cases h.1))
    go_wp2
    go_ret2
    exact so_none HC.out (below_via HB0.out HB.out)
  | true =>
  go_wp2_with fail
  refine (l1in_any t 0 _ _).mono ?_
  obtain ⟨b, hb⟩ : ∃ b, inB t 0 ((sl : Int) - 1) = b := ⟨_, rfl⟩
  have HIN := Lib.hid hb
  rw [hb]
  rintro e w2 ⟨rfl, rfl⟩
  clear hb
  cases b with
  | false =>
    have HC := Lib.hid (mapJ_no (each := each) (t := t) (show ¬ (jobB l op n1 m sl = true ∧ 0 ≤ t ∧ t < sl) from fun h => by
      have h1 := HIN.out
      unfold inB at h1
      rw [decide_eq_false_iff_not] at h1
      omega))
    go_wp2
    go_ret2
    exact so_none HC.out (below_via HB0.out HB.out)
  | true =>
  have ht : 0 ≤ t ∧ t ≤ (sl : Int) - 1 := by have h1 := HIN.out; unfold inB at h1; exact of_decide_eq_true h1
  obtain ⟨tn, rfl⟩ : ∃ tn : Nat, t = (tn : Int) := ⟨t.toNat, by omega⟩
  have htn : tn < sl := by omega
  have HJP := Lib.hid (jobB_parts HQ0.out)
  have HM := Lib.hid (show mapJ l each op n1 m sl (tn : Int) = mapR l each op n1 (strAt m tn) from mapJ_yes HQ0.out (by omega) (by omega))
  have HS1 := Lib.hid (HS.out.keep HB.out)
  rcases HS1.out.t.src with hz | ⟨sb, off, rfl, hb, hc⟩
  · omega
  have c0 := hc tn htn
  have hts := HZ.out tn htn
  obtain ⟨x, hx⟩ : ∃ x, strAt m tn = x := ⟨_, rfl⟩
  rw [hx] at c0 hts HM
  clear hc hb hx HIN
  have ht1 : (tn : Int) < (sl : Int) := by omega
  have ht0 : (0 : Int) ≤ (tn : Int) := by omega
  go_wp2_with fail
  refine (slinesof_any x _ hts).mono ?_
  rintro e w3 ⟨lq, lc, rfl, hws, hB⟩
  have HSH := Lib.hid (lines_short x)
  have HFEW := Lib.hid (linesW_few x.data.toList)
  obtain ⟨WL, hWL⟩ : ∃ WL, linesW x.data.toList = WL := ⟨_, rfl⟩
  obtain ⟨wn, hwn⟩ : ∃ wn, WL.length = wn := ⟨_, rfl⟩
  obtain ⟨L, hL⟩ : ∃ L, strsOf WL = L := ⟨_, rfl⟩
  rw [hWL] at hws HSH HFEW
  have HLQ := Lib.hid (show strsOf (linesW x.data.toList) = L by rw [hWL, hL])
  rw [hWL]
  rw [hwn]
  have HWN := Lib.hid hwn
  have HLL := Lib.hid (show L.length = wn by rw [← hL, ← hwn]; simp [strsOf])
  have HLS := Lib.hid hL
  have hwn10 : wn ≤ 10 := by rw [← hwn]; exact HFEW.out.1
  have HB := Lib.hid (below_via HB.out hB)
  have HWQ := Lib.hid (fun h0 => ws_some hws h0)
  have HE0 := Lib.hid (show EmS l each L W0 (w3.alloc (.cells #[] 37)) (some ⟨w3.heap.size, 0, none⟩) 0 0 [] lq w1.heap.size WL from ⟨rfl, own_zeroRc (ot_row_new w3 #[] 37) HB.out.size, ws_keep hws (below_alloc (Below.refl _ _) _), below_alloc HB.out _⟩)
  clear hws hB hWL hwn hL x3 x4 c0 HS1 HX1
  go_wp2_with fail
  go_loopw [8, 9] (fun o i wr => ∃ (k no : Nat) (O : Recs) (qo : Option Addr) (co : Nat), k ≤ wn ∧ o = .slice qo no co ∧ i = .int .i64 k ∧ no ≤ 600 * k ∧ Hid (O.length = no) ∧ Hid (EmS l each L W0 wr qo co k O lq w1.heap.size WL)) (fun _ i _ => wn - (intOf i).toNat)
  case atStart => exact ⟨0, 0, [], _, _, Nat.zero_le _, rfl, rfl, Nat.le_refl _, Lib.hid rfl, HE0⟩
  case round =>
    clear HE0 HB
    obtain ⟨k, no, O, qo, co, hk, rfl, rfl, hno, HOL, HE⟩ := hrel
    have HX1 := Lib.hid (HX.out.keep HE.out.below)
    have x0 := HX1.out.cell (j := 0) (by simp)
    have x1 := HX1.out.cell (j := 1) (by simp)
    have x2 := HX1.out.cell (j := 2) (by simp)
    have x3 := HX1.out.cell (j := 3) (by simp)
    simp at x0 x1 x2 x3
    by_cases hlt : k < wn
    · obtain ⟨g, rfl, hg⟩ := HWQ.out (by rw [HWN.out]; omega)
      have hi0 : (0 : Int) ≤ (k : Int) := by omega
      have hi1 : (k : Int) < (wn : Int) := by omega
      have HSTR := Lib.hid (show StrsAt wr (some ⟨g, 0, none⟩) wn L from by have h1 := strs_of_ws HE.out.words HSH.out; rw [HWN.out, HLS.out] at h1; exact h1)
      rcases HSTR.out.src with hz | ⟨b2, off2, hq, hb2, hc2⟩
      · omega
      simp only [Option.some.injEq, Addr.mk.injEq, and_true] at hq
      obtain ⟨rfl, rfl⟩ := hq
      have ck := hc2 k hlt
      rw [Nat.zero_add] at ck
      clear hc2 hb2
      have HSZ := Lib.hid (show (strAt L k).size ≤ 1048576 from by
        have hk2 : k < WL.length := by rw [HWN.out]; exact hlt
        have h1 := HFEW.out.2 _ (List.getElem_mem hk2)
        rw [← HLS.out, strAt_of WL k hk2]
        show (WL[k].toArray).size ≤ 1048576
        rw [List.size_toArray]; omega)
      obtain ⟨y, hy⟩ : ∃ y, strAt L k = y := ⟨_, rfl⟩
      rw [hy] at ck HSZ
      obtain ⟨V, hV⟩ : ∃ V, (lineR l each (strAt L k)).1 = V := ⟨_, rfl⟩
      obtain ⟨c, hc⟩ : ∃ c, (lineR l each (strAt L k)).2 = c := ⟨_, rfl⟩
      have HRES := Lib.hid (show lineR l each (strAt L k) = (V, c) by rw [← hV, ← hc])
      have HRX := Lib.hid (show lineR l each y = (V, c) by rw [← hy]; exact HRES.out)
      have HF := Lib.hid (lineR_facts (each := each) (s := y) HN.out)
      rw [HRX.out] at HF
      clear hV hc hy x2 x3
      go_wp2_with fail
      refine wp_region_noPanic ?_
      obtain ⟨v0, hv0⟩ : ∃ x, wr.drew = x := ⟨_, rfl⟩
      have HE := Lib.hid (show EmS l each L W0 v0 qo co k O (some ⟨g, 0, none⟩) w1.heap.size WL by rw [← hv0]; exact HE.out.keep (below_drewN (Below.refl _ _) 1))
      have x0 := ((show Below wr.heap.size wr v0 by rw [← hv0]; exact below_drewN (Below.refl _ _) 1).cell (World.block_lt_of_cell? _ _ x0)).trans x0
      have x1 := ((show Below wr.heap.size wr v0 by rw [← hv0]; exact below_drewN (Below.refl _ _) 1).cell (World.block_lt_of_cell? _ _ x1)).trans x1
      have ck := ((show Below wr.heap.size wr v0 by rw [← hv0]; exact below_drewN (Below.refl _ _) 1).cell (World.block_lt_of_cell? _ _ ck)).trans ck
      refine wp_region_held_drew (S := (fun w' => Hid (Below W0.heap.size W0 w') ∧ w'.cell? ⟨B0, 0, none⟩ = some (.slice p pl pc) ∧ w'.cell? ⟨B0, 1, none⟩ = some (.bool each) ∧ w'.cell? ⟨g, k, none⟩ = some (.string y))) (by kernel_rfl) (by rw [hv0]; exact ⟨Lib.hid HE.out.below, x0, x1, ck⟩) (fun HS3 => ?_)
      rw [hv0] at HS3 ⊢
      clear hv0
      refine held_take (i := 0) (d := 45) (v := .pointer (some ⟨B0, 0, none⟩)) rfl rfl (by kernel_rfl) (by kernel_rfl) (by kernel_rfl) (by kernel_rfl) (fun wx hS => by go_simp) HS3 ?_
      refine held_take (i := 1) (d := 46) (v := .slice p pl pc) rfl rfl (by kernel_rfl) (by kernel_rfl) (by kernel_rfl) (by kernel_rfl) (fun wx hS => by obtain ⟨_, h0, h1, h2⟩ := hS; go_simp) HS3 ?_
      refine held_take (i := 2) (d := 47) (v := .pointer (some ⟨B0, 1, none⟩)) rfl rfl (by kernel_rfl) (by kernel_rfl) (by kernel_rfl) (by kernel_rfl) (fun wx hS => by go_simp) HS3 ?_
      refine held_take (i := 3) (d := 48) (v := .bool each) rfl rfl (by kernel_rfl) (by kernel_rfl) (by kernel_rfl) (by kernel_rfl) (fun wx hS => by obtain ⟨_, h0, h1, h2⟩ := hS; go_simp) HS3 ?_
      refine held_take (i := 4) (d := 49) (v := .slice (some ⟨g, 0, none⟩) wn lc) rfl rfl (by kernel_rfl) (by kernel_rfl) (by kernel_rfl) (by kernel_rfl) (fun wx hS => by go_simp) HS3 ?_
      refine held_take (i := 5) (d := 50) (v := .int .i64 (k : Int)) rfl rfl (by kernel_rfl) (by kernel_rfl) (by kernel_rfl) (by kernel_rfl) (fun wx hS => by go_simp) HS3 ?_
      refine held_take (i := 6) (d := 51) (v := .pointer (some ⟨g, k, none⟩)) rfl rfl (by kernel_rfl) (by kernel_rfl) (by kernel_rfl) (by kernel_rfl) (fun wx hS => by go_simp) HS3 ?_
      refine held_take (i := 7) (d := 52) (v := .string y) rfl rfl (by kernel_rfl) (by kernel_rfl) (by kernel_rfl) (by kernel_rfl) (fun wx hS => by obtain ⟨_, h0, h1, h2⟩ := hS; go_simp) HS3 ?_
      refine wpAnyH_ready (rs := [8]) (by kernel_rfl) (by simp) (AllReadyH.cons rfl (fun K hK => ?_) AllReadyH.nil)
      go_simp
      refine (HEV.out _ _ _ (HS.out.keep HE.out.below).i HSZ.out).mono ?_
      rw [HRX.out]
      rintro e w4 ⟨q, cp, rfl, hB, hkk, hq, hcp2⟩
      have HE := Lib.hid (HE.out.keep hB)
      have HS4 := (show (fun w' => Hid (Below W0.heap.size W0 w') ∧ w'.cell? ⟨B0, 0, none⟩ = some (.slice p pl pc) ∧ w'.cell? ⟨B0, 1, none⟩ = some (.bool each) ∧ w'.cell? ⟨g, k, none⟩ = some (.string y)) w4 from ⟨Lib.hid HE.out.below, (hB.cell (World.block_lt_of_cell? _ _ x0)).trans x0, (hB.cell (World.block_lt_of_cell? _ _ x1)).trans x1, (hB.cell (World.block_lt_of_cell? _ _ ck)).trans ck⟩)
      refine hK.out _ _ HS4 (fun HS3 => ?_)
      clear hK K HS4
      refine held_take (i := 9) (d := 44) (v := .tuple #[.slice q V.length cp, .int .i64 c]) rfl rfl (by kernel_rfl) (by kernel_rfl) (by kernel_rfl) (by kernel_rfl) (fun wx hS => by go_simp) HS3 ?_
      refine held_take (i := 10) (d := 54) (v := .slice q V.length cp) rfl rfl (by kernel_rfl) (by kernel_rfl) (by kernel_rfl) (by kernel_rfl) (fun wx hS => by go_simp) HS3 ?_
      refine held_take (i := 11) (d := 55) (v := .int .i64 c) rfl rfl (by kernel_rfl) (by kernel_rfl) (by kernel_rfl) (by kernel_rfl) (fun wx hS => by go_simp) HS3 ?_
      refine held_take (i := 12) (d := 10) (v := .slice q V.length cp) rfl rfl (by kernel_rfl) (by kernel_rfl) (by kernel_rfl) (by kernel_rfl) (fun wx hS => by go_simp) HS3 ?_
      refine held_take (i := 13) (d := 11) (v := .int .i64 c) rfl rfl (by kernel_rfl) (by kernel_rfl) (by kernel_rfl) (by kernel_rfl) (fun wx hS => by go_simp) HS3 ?_
      refine wpAnyH_done (by kernel_rfl) (NoPanic.normal ?_) _
      clear HS3
      obtain ⟨vn, hvn⟩ : ∃ vn, V.length = vn := ⟨_, rfl⟩
      have hv600 : vn ≤ 600 := by have := HF.out.1; omega
      have HV := Lib.hid (rck_recs hkk hvn HF.out.2.1 (by omega))
      simp only [hvn]
      have HQ := Lib.hid hq
      clear hB hkk hq hcp2 HF ck HSTR x0 x1 HX1
      by_cases hc0 : c = 0
      · have HNX := Lib.hid (emitTo_go HE.out.ev HRES.out hc0)
        subst hc0
        go_wp2_with (at_builtin; go_loud (refine append_rc rfl _ _ rfl W0.heap.size (.slice qo no co) no O rfl (by have := HE.out.own; rw [HOL.out] at this; exact this) q vn cp V rfl HV.out HQ.out (by omega) HE.out.below.size ?_); intro q5 c5 w5 hown hgrow; have HE5 := Lib.hid (show EmS l each L W0 w5 q5 c5 (k + 1) (O ++ V) (some ⟨g, 0, none⟩) w1.heap.size WL from ⟨HNX.out, by rw [List.length_append, HOL.out, HV.out.length]; exact hown, ws_apart HE.out.words HE.out.own (by decide) (by rw [HOL.out]; exact hgrow), HE.out.below.grown hgrow HE.out.below.size (fun j hj => (by have := HE.out.own; rw [HOL.out] at this; exact (this.lt j hj).1))⟩); clear hown hgrow)
        go_roundw
        case rel => exact ⟨k + 1, no + vn, O ++ V, q5, c5, by omega, rfl, by go_num, by omega, Lib.hid (by rw [List.length_append, HOL.out, HV.out.length]), HE5⟩
        case measure => simp [intOf]; omega
      · have HNX := Lib.hid (emitTo_stop HE.out.ev HRES.out hc0)
        have HFIN := Lib.hid (mapR_stop (op := op) (n1 := n1) (by rw [HLQ.out]; exact emitR_bad HLL.out (show emitTo l each L wn = ([], c) by rw [emitTo_bad (k := k + 1) (n := wn) (by rw [HNX.out]; exact hc0) (by omega), HNX.out]) hc0) hc0)
        have hz2 : (c == (0 : Int)) = false := by rw [beq_eq_false_iff_ne]; exact hc0
        have hz3 : (c != (0 : Int)) = true := by rw [bne_iff_ne]; exact hc0
        go_wp2
        go_ret2
        exact so_none (HM.out.trans HFIN.out) (below_via HB0.out HE.out.below)
    · obtain rfl : k = wn := by omega
      by_cases h600 : (600 : Int) < (no : Int)
      · have HFIN := Lib.hid (mapR_stop (op := op) (n1 := n1) (V := []) (c := 3) (by rw [HLQ.out]; exact emitR_many HLL.out HE.out.ev (by rw [HOL.out]; omega)) (by decide))
        go_wp2
        go_ret2
        exact so_none (HM.out.trans HFIN.out) (below_via HB0.out HE.out.below)
      · have HFIN := Lib.hid (mapR_go (op := op) (n1 := n1) (by rw [HLQ.out]; exact emitR_all HLL.out HE.out.ev (by rw [HOL.out]; omega)))
        have hno6 : no ≤ 600 := by omega
        have HFE := Lib.hid (emitTo_facts (each := each) L HN.out k)
        rw [HE.out.ev] at HFE
        have HAL := Lib.hid (rck_recs (rck_of_own (m := O.length) (cp := co) HE.out.own) HOL.out HFE.out.2.1 (by omega))
        have HMO := Lib.hid HFE.out.2.1
        have HB := Lib.hid HE.out.below
        have HBW := Lib.hid HE.out.below
        have hp1 := HJP.out.1
        have hp3 := HJP.out.2.1
        obtain ⟨N1, hN1⟩ : ∃ N1 : Nat, n1 = (N1 : Int) := ⟨n1.toNat, by omega⟩
        subst hN1
        have HR := Lib.hid (runsR_len op (N1 : Int) O N1)
        have HRF := Lib.hid (runsR_few (op := op) (n1 := (N1 : Int)) (V := O) (k := N1) (by omega))
        have HRA := Lib.hid (fun i (h : i < N1) => runsR_at (op := op) (n1 := (N1 : Int)) (V := O) (k := N1) h)
        rw [Int.toNat_natCast] at HFIN
        obtain ⟨R, hRR⟩ : ∃ R, runsR op (N1 : Int) O N1 = R := ⟨_, rfl⟩
        rw [hRR] at HR HRF HRA HFIN
        clear hRR HFE HX1 x0 x1 x2 HE
        obtain ⟨wa, rfl⟩ : ∃ x, x = wr := ⟨_, rfl⟩
        have HO0 := Lib.hid (show OutS R wa (wa.alloc (.cells #[] 34)) (some ⟨wa.heap.size, 0, none⟩) 0 0 [] from ⟨World.ownsRow_lit wa #[] 0 (Nat.le_refl _) (Nat.zero_le _) rfl, fun i hi => by omega, below_alloc (Below.refl _ _) _⟩)
        go_wp2_with fail
        go_loopw [12, 13] (fun o i wo => ∃ (k : Nat) (q : Option Addr) (cp : Nat) (XS : List Value), k ≤ N1 ∧ o = .slice q k cp ∧ i = .int .i64 k ∧ Hid (OutS R wa wo q k cp XS)) (fun _ i _ => N1 - (intOf i).toNat)
        case atStart => exact ⟨0, _, _, [], Nat.zero_le _, rfl, rfl, HO0⟩
        case round =>
          clear HO0
          obtain ⟨wo, rfl⟩ : ∃ x, x = wr := ⟨_, rfl⟩
          obtain ⟨kp, q, cp, XS, hkp, rfl, rfl, HO⟩ := hrel
          have HBO := Lib.hid (below_via HB.out HO.out.below)
          have HXO := Lib.hid (HX.out.keep HBO.out)
          have x3 := HXO.out.cell (j := 3) (by simp)
          simp at x3
          by_cases hlt : kp < N1
          · have hi1 : (kp : Int) < (N1 : Int) := by omega
            have HP0 := Lib.hid (show (wo.alloc (.cells #[] 37)).ownsRow wo.heap.size 37 2 (.slice (some ⟨wo.heap.size, 0, none⟩) 0 0) 0 (cellsRc (partL (O.take 0) (N1 : Int) (kp : Int))) ∧ Below wo.heap.size wo (wo.alloc (.cells #[] 37)) from ⟨own_zeroRc (ot_row_new wo #[] 37) (Nat.le_refl _), below_alloc (Below.refl _ _) _⟩)
            go_wp2_with fail
            clear x3
            go_loopw [14, 15] (fun o i wi => ∃ (k ns : Nat) (qs : Option Addr) (cs : Nat), k ≤ no ∧ o = .slice qs ns cs ∧ i = .int .i64 k ∧ ns ≤ k ∧ Hid ((partL (O.take k) (N1 : Int) (kp : Int)).length = ns) ∧ Hid (wi.ownsRow wo.heap.size 37 2 (.slice qs ns cs) ns (cellsRc (partL (O.take k) (N1 : Int) (kp : Int))) ∧ Below wo.heap.size wo wi)) (fun _ i _ => no - (intOf i).toNat)
            case atStart => exact ⟨0, 0, _, _, Nat.zero_le _, rfl, rfl, Nat.le_refl _, Lib.hid rfl, HP0⟩
            case round =>
              clear HP0
              obtain ⟨wi, rfl⟩ : ∃ x, x = wr := ⟨_, rfl⟩
              obtain ⟨kj, ns, qs, cs, hkj, rfl, rfl, hns, HSL, HP⟩ := hrel
              have HBI := Lib.hid (below_via HBO.out HP.out.2)
              have HXI := Lib.hid (HX.out.keep HBI.out)
              have x2 := HXI.out.cell (j := 2) (by simp)
              have x3 := HXI.out.cell (j := 3) (by simp)
              simp at x2 x3
              by_cases hlj : kj < no
              · rcases (HAL.out.keep (below_via HO.out.below HP.out.2)).src with hz | ⟨b, off, rfl, hb, hc⟩
                · omega
                obtain ⟨c0, c1⟩ := hc kj hlj
                have hi0 : (0 : Int) ≤ (kj : Int) := by omega
                have hij : (kj : Int) < (no : Int) := by omega
                have HKY := Lib.hid (HAL.out.keys kj hlj)
                have HKV := Lib.hid (show kj < O.length by rw [HOL.out]; exact hlj)
                obtain ⟨y, hy⟩ : ∃ y, keyAt O kj = y := ⟨_, rfl⟩
                obtain ⟨z, hz⟩ : ∃ z, numAt O kj = z := ⟨_, rfl⟩
                rw [hy] at c0 HKY
                rw [hz] at c1
                have HY := Lib.hid hy
                have HZZ := Lib.hid hz
                clear hc hb hy hz x2
                go_wp2_with fail
                refine wp_region_noPanic ?_
                obtain ⟨v0, hv0⟩ : ∃ x, wi.drew = x := ⟨_, rfl⟩
                have hD : Below wi.heap.size wi v0 := by rw [← hv0]; exact below_drewN (Below.refl _ _) 1
                have HP := Lib.hid (show v0.ownsRow wo.heap.size 37 2 (.slice qs ns cs) ns (cellsRc (partL (O.take kj) (N1 : Int) (kp : Int))) ∧ Below wo.heap.size wo v0 from ⟨own_below HP.out.1 hD, below_via HP.out.2 hD⟩)
                have x3 := (hD.cell (World.block_lt_of_cell? _ _ x3)).trans x3
                have c0 := (hD.cell (World.block_lt_of_cell? _ _ c0)).trans c0
                have c1 := (hD.cell (World.block_lt_of_cell? _ _ c1)).trans c1
                refine wp_region_held_drew (S := (fun w' => Hid (Below wo.heap.size wo w') ∧ w'.cell? ⟨B0, 3, none⟩ = some (.int .i64 (N1 : Int)) ∧ w'.cell? ⟨b, off + kj * 2, none⟩ = some (.string y))) (by kernel_rfl) (by rw [hv0]; exact ⟨Lib.hid HP.out.2, x3, c0⟩) (fun HS3 => ?_)
                rw [hv0] at HS3 ⊢
                clear hv0 hD
                refine held_take (i := 0) (d := 79) (v := .slice (some ⟨b, off, none⟩) no co) rfl rfl (by kernel_rfl) (by kernel_rfl) (by kernel_rfl) (by kernel_rfl) (fun wx hS => by go_simp) HS3 ?_
                refine held_take (i := 1) (d := 80) (v := .int .i64 (kj : Int)) rfl rfl (by kernel_rfl) (by kernel_rfl) (by kernel_rfl) (by kernel_rfl) (fun wx hS => by go_simp) HS3 ?_
                refine held_take (i := 2) (d := 81) (v := .pointer (some ⟨b, off + kj * 2, none⟩)) rfl rfl (by kernel_rfl) (by kernel_rfl) (by kernel_rfl) (by kernel_rfl) (fun wx hS => by go_simp) HS3 ?_
                refine held_take (i := 3) (d := 82) (v := .pointer (some ⟨b, off + kj * 2, none⟩)) rfl rfl (by kernel_rfl) (by kernel_rfl) (by kernel_rfl) (by kernel_rfl) (fun wx hS => by go_simp) HS3 ?_
                refine held_take (i := 4) (d := 83) (v := .string y) rfl rfl (by kernel_rfl) (by kernel_rfl) (by kernel_rfl) (by kernel_rfl) (fun wx hS => by obtain ⟨_, h0, h1⟩ := hS; go_simp) HS3 ?_
                refine held_take (i := 5) (d := 84) (v := .pointer (some ⟨B0, 3, none⟩)) rfl rfl (by kernel_rfl) (by kernel_rfl) (by kernel_rfl) (by kernel_rfl) (fun wx hS => by go_simp) HS3 ?_
                refine held_take (i := 6) (d := 85) (v := .int .i64 (N1 : Int)) rfl rfl (by kernel_rfl) (by kernel_rfl) (by kernel_rfl) (by kernel_rfl) (fun wx hS => by obtain ⟨_, h0, h1⟩ := hS; go_simp) HS3 ?_
                refine held_take (i := 8) (d := 87) (v := .int .i64 (kp : Int)) rfl rfl (by kernel_rfl) (by kernel_rfl) (by kernel_rfl) (by kernel_rfl) (fun wx hS => by go_simp) HS3 ?_
                refine wpAnyH_ready (rs := [7]) (by kernel_rfl) (by simp) (AllReadyH.cons rfl (fun K hK => ?_) AllReadyH.nil)
                go_simp
                refine (spart_any y (N1 : Int) _ HKY.out).mono ?_
                rintro e w5 ⟨rfl, rfl⟩
                obtain ⟨v, hv⟩ : ∃ v, partN y (N1 : Int) = v := ⟨_, rfl⟩
                rw [hv]
                refine hK.out _ _ HS3 (fun HS3 => ?_)
                clear hK K
                refine held_take (i := 9) (d := 88) (v := .bool (v == (kp : Int))) rfl rfl (by kernel_rfl) (by kernel_rfl) (by kernel_rfl) (by kernel_rfl) (fun wx hS => by go_simp) HS3 ?_
                refine wpAnyH_done (by kernel_rfl) (NoPanic.normal ?_) _
                clear HS3
                by_cases hp : v = (kp : Int)
                · have HNX := Lib.hid (partL_in HKV.out (n := (N1 : Int)) (p := (kp : Int)) (by rw [HY.out, hv]; exact hp))
                  rw [HY.out, HZZ.out] at HNX
                  have hpp : (v == (kp : Int)) = true := by rw [hp]; simp
                  clear hv x3
                  go_wp2_with (at_builtin; go_loud (refine append1_rc rfl _ _ rfl wo.heap.size (.slice qs ns cs) ns _ rfl (own_below HP.out.1 (below_alloc (Below.refl _ _) _)) _ _ y z rfl (rc_new _ y z 37) (by omega) (Nat.le_trans HP.out.2.size (by simp)) ?_); intro q6 c6 w6 hown hgrow; have HP6 := Lib.hid (show w6.ownsRow wo.heap.size 37 2 (.slice q6 (ns + 1) c6) (ns + 1) (cellsRc (partL (O.take (kj + 1)) (N1 : Int) (kp : Int))) ∧ Below wo.heap.size wo w6 from ⟨by rw [HNX.out]; exact hown, (below_alloc HP.out.2 _).grown hgrow (Nat.le_trans HP.out.2.size (by simp)) (fun j hj => (HP.out.1.lt j hj).1)⟩); clear hown hgrow)
                  go_roundw
                  case rel => exact ⟨kj + 1, ns + 1, q6, c6, by omega, rfl, by go_num, by omega, Lib.hid (by rw [HNX.out, List.length_append, HSL.out]; rfl), HP6⟩
                  case measure => simp [intOf]; omega
                · have HNX := Lib.hid (partL_out HKV.out (n := (N1 : Int)) (p := (kp : Int)) (by rw [HY.out, hv]; exact hp))
                  have hpp : (v == (kp : Int)) = false := by rw [beq_eq_false_iff_ne]; exact hp
                  clear hv x3
                  go_wp2
                  go_roundw
                  case rel => exact ⟨kj + 1, ns, qs, cs, by omega, rfl, by go_num, by omega, Lib.hid (by rw [HNX.out]; exact HSL.out), Lib.hid (by rw [HNX.out]; exact HP.out)⟩
                  case measure => simp [intOf]; omega
              · obtain rfl : kj = no := by omega
                have HALL := Lib.hid (show O.take kj = O by rw [← HOL.out]; exact List.take_length)
                rw [HALL.out] at HSL HP
                obtain ⟨PV, hPV⟩ : ∃ PV, partL O (N1 : Int) (kp : Int) = PV := ⟨_, rfl⟩
                have HPA := Lib.hid (HRA.out kp hlt)
                have HMEM := Lib.hid (show ∀ r ∈ PV, r.1.size ≤ 40 ∧ In64 r.2 from fun r hr => by
                  rw [← hPV] at hr
                  exact HMO.out r (partL_mem hr))
                rw [hPV] at HSL HP
                have HOFR := Lib.hid (show ofR op (N1 : Int) O kp = combW op (liftW op PV) by unfold ofR; rw [hPV])
                rw [HOFR.out] at HPA
                have HPR := Lib.hid (rck_recs (rck_of_own (m := ns) (cp := cs) (by have := HP.out.1; rw [← HSL.out] at this ⊢; exact this)) HSL.out HMEM.out (by omega))
                have HO := Lib.hid (HO.out.keep HP.out.2)
                have HPN := Lib.hid (own_qcap (by have := HP.out.1; exact this))
                have HPF := Lib.hid (show qs = none ∨ ∃ g, qs = some ⟨g, 0, none⟩ from by
                  rcases HP.out.1.2 with ⟨h1, h2⟩ | ⟨g, cap, cur, hv, _⟩
                  · simp only [Value.slice.injEq] at h1; exact .inl h1.1
                  · simp only [Value.slice.injEq] at hv; exact .inr ⟨g, hv.1⟩)
                clear hPV HALL HOFR HP x3 HXI HXO HBO
                have HBR := Lib.hid HBI.out.drew
                go_wp2_with fail
                refine wp_region_noPanic ?_
                obtain ⟨v0, hv0⟩ : ∃ x, wi.drew = x := ⟨_, rfl⟩
                have HO := Lib.hid (show OutS R wa v0 q kp cp XS by rw [← hv0]; exact HO.out.keep (below_drewN (Below.refl _ _) 1))
                have HPR := Lib.hid (show RecsAt v0 qs ns PV by rw [← hv0]; exact HPR.out.keep (below_drewN (Below.refl _ _) 1))
                have x2 : v0.cell? ⟨B0, 2, none⟩ = some (.int .i64 op) := by rw [← hv0]; exact x2
                refine wp_region_held_drew (S := (fun w' => Hid (Below W0.heap.size W0 w') ∧ w'.cell? ⟨B0, 2, none⟩ = some (.int .i64 op))) (by kernel_rfl) (by rw [hv0]; exact ⟨Lib.hid (by rw [← hv0]; exact HBR.out), x2⟩) (fun HS => ?_)
                rw [hv0] at HS ⊢
                clear hv0
                refine held_take (i := 0) (d := 96) (v := .slice q kp cp) rfl rfl (by kernel_rfl) (by kernel_rfl) (by kernel_rfl) (by kernel_rfl) (fun wx hS => by go_simp) HS ?_
                refine held_take (i := 1) (d := 97) (v := .pointer (some ⟨B0, 2, none⟩)) rfl rfl (by kernel_rfl) (by kernel_rfl) (by kernel_rfl) (by kernel_rfl) (fun wx hS => by go_simp) HS ?_
                refine held_take (i := 2) (d := 98) (v := .int .i64 op) rfl rfl (by kernel_rfl) (by kernel_rfl) (by kernel_rfl) (by kernel_rfl) (fun wx hS => by have h2 := hS.2; go_simp) HS ?_
                refine held_take (i := 3) (d := 99) (v := .pointer (some ⟨B0, 2, none⟩)) rfl rfl (by kernel_rfl) (by kernel_rfl) (by kernel_rfl) (by kernel_rfl) (fun wx hS => by go_simp) HS ?_
                refine held_take (i := 4) (d := 100) (v := .int .i64 op) rfl rfl (by kernel_rfl) (by kernel_rfl) (by kernel_rfl) (by kernel_rfl) (fun wx hS => by have h2 := hS.2; go_simp) HS ?_
                refine held_take (i := 5) (d := 101) (v := .slice qs ns cs) rfl rfl (by kernel_rfl) (by kernel_rfl) (by kernel_rfl) (by kernel_rfl) (fun wx hS => by go_simp) HS ?_
                refine wpAnyH_ready (rs := [6]) (by kernel_rfl) (by simp) (AllReadyH.cons rfl (fun K hK => ?_) AllReadyH.nil)
                go_simp
                refine (slifted_q op qs ns cs PV _ HPR.out HPF.out HPN.out.1).mono ?_
                rintro e w7 ⟨q7, c7, rfl, hr7, hB⟩
                obtain ⟨n7, hn7⟩ : ∃ n7, (liftW op PV).length = n7 := ⟨_, rfl⟩
                have HR7 := Lib.hid (recs_lift hr7 hn7)
                rw [hn7]
                have HO := Lib.hid (HO.out.keep hB)
                have x7 : w7.cell? ⟨B0, 2, none⟩ = some (.int .i64 op) := (hB.cell (p := ⟨B0, 2, none⟩) (World.block_lt_of_cell? _ _ x2)).trans x2
                have HB7 := Lib.hid (below_via HS.1.out hB)
                clear hB hr7 hn7 HPR HMEM x2
                refine hK.out _ _ ⟨HB7, x7⟩ (fun HS => ?_)
                clear hK K
                refine wpAnyH_ready (rs := [7]) (by kernel_rfl) (by simp) (AllReadyH.cons rfl (fun K hK => ?_) AllReadyH.nil)
                go_simp
                refine (scombined_any op q7 n7 c7 _ _ HR7.out).mono ?_
                rintro e w8 ⟨q8, c8, rfl, hr8, hB, hc8, hc8m, hq8⟩
                have HQ8P := Lib.hid (show q8 = none → (combW op (liftW op PV)).length = 0 ∧ c8 = 0 from fun h0 => ⟨by have := hq8 h0; omega, hq8 h0⟩)
                have HO7 := HO
                have HO := Lib.hid (HO.out.keep hB)
                have HRS := Lib.hid (show Rs wa.heap.size w8 q8 (R.getD kp []) from by rw [HPA.out]; exact Rs.base hr8 (Nat.le_trans HO7.out.below.size (Nat.le_refl _)))
                have HNA := Lib.hid (show (combW op (liftW op PV)).length = nAt R kp by unfold nAt; rw [HPA.out])
                have x8 : w8.cell? ⟨B0, 2, none⟩ = some (.int .i64 op) := (hB.cell (p := ⟨B0, 2, none⟩) (World.block_lt_of_cell? _ _ x7)).trans x7
                have HB8 := Lib.hid (below_via HS.1.out hB)
                rw [HNA.out]
                clear hB hr8 x7
                obtain ⟨n8, hn8⟩ : ∃ n8, nAt R kp = n8 := ⟨_, rfl⟩
                have HN8 := Lib.hid hn8
                have HQ8 := Lib.hid (show q8 = none → n8 = 0 ∧ c8 = 0 from by rw [← hn8, ← HNA.out]; exact HQ8P.out)
                rw [hn8]
                refine hK.out _ _ ⟨HB8, x8⟩ (fun HS => ?_)
                clear hK K
                refine wpAnyH_ready (rs := [8]) (by kernel_rfl) (by simp) (AllReadyH.cons rfl (fun K hK => ?_) AllReadyH.nil)
                go_simp
                refine hK.out _ _ ⟨Lib.hid (below_alloc HS.1.out _), ((below_alloc (Below.refl _ _) _).cell (p := ⟨B0, 2, none⟩) (World.block_lt_of_cell? _ _ x8)).trans x8⟩ (fun HS => ?_)
                clear hK K
                refine wpAnyH_ready (rs := [9]) (by kernel_rfl) (by simp) (AllReadyH.cons rfl (fun K hK => ?_) AllReadyH.nil)
                refine step_append_lies _ rfl (.tmp 96) (.tmp 104) 30 rfl wa.heap.size 34 i0 _ 1 24 Tryz.underlying30 hi hz0 hz1 hz2 rfl (by decide) (.slice q kp cp) kp _ rfl (HO.out.own.alloc _) ⟨w8.heap.size, 0, none⟩ 1 1 [.slice q8 n8 c8] rfl rfl (one_new _ _ _) (fun u hu => by simp at hu; subst hu; rfl) (by decide) (by unfold maxLen; omega) (by omega) (Nat.le_trans HO.out.below.size (by simp)) _ rfl ?_
                intro g9 c9 w9 hown hgrow hat hlt9
                have HO9 := Lib.hid (OutS.add (c := c8) HO.out HRS.out (by rw [HN8.out]; exact HQ8.out) (by rw [HN8.out]; exact hown) hgrow)
                rw [HN8.out] at HO9
                have HB9 := Lib.hid (HS.1.out.grown hgrow HS.1.out.size (fun j hj => Nat.le_trans HBW.out.size (HO.out.own.lt j hj).1))
                have x9 : w9.cell? ⟨B0, 2, none⟩ = some (.int .i64 op) := by
                  have h1 := (HX.out.keep HB9.out).cell (j := 2) (by simp)
                  simpa using h1
                clear hown hgrow hat hlt9
                refine hK.out _ _ ⟨HB9, x9⟩ (fun HS => ?_)
                clear hK K
                refine held_take (i := 10) (d := 12) (v := .slice (some ⟨g9, 0, none⟩) (kp + 1) c9) rfl rfl (by kernel_rfl) (by kernel_rfl) (by kernel_rfl) (by kernel_rfl) (fun wx hS => by go_simp) HS ?_
                refine wpAnyH_done (by kernel_rfl) (NoPanic.normal ?_) _
                go_wp2
                go_roundw
                case rel => exact ⟨kp + 1, _, c9, _, by omega, rfl, by go_num, HO9⟩
                case measure => simp [intOf]; omega
          · obtain rfl : kp = N1 := by omega
            have HFS := Lib.hid (HO.out.low (below_via HB0.out HBW.out))
            go_wp2
            go_ret2
            rw [HM.out, HFIN.out]
            exact ⟨q, cp, XS, by rw [HR.out]; rfl, by rw [HR.out]; exact HFS.out⟩
end Go.Proofs.YtjofbeokkainlaaGreatDoor
namespace Go.Proofs.YtjofbeokkainlaaGreatDoor
open Go.ChangeShapes Go.WideShapes Go.ChangeAt Go.RowKit
set_option linter.unusedVariables false
set_option maxRecDepth 100000

/-- The first of k numbers at which f is not 0. -/
def failAt (f : Nat → Int) : Nat → Option Nat
  | 0 => none
  | k + 1 => match failAt f k with
    | some t => some t
    | none => if f k ≠ 0 then some k else none
theorem failAt_none {f : Nat → Int} : ∀ {k : Nat}, (∀ t, t < k → f t = 0) → failAt f k = none
  | 0, _ => rfl
  | k + 1, h => by
    rw [failAt, failAt_none (fun t ht => h t (by omega))]
    simp [h k (by omega)]
theorem failAt_stop {f : Nat → Int} {k : Nat} (h : ∀ t, t < k → f t = 0) (hk : f k ≠ 0) : ∀ {n : Nat}, k < n → failAt f n = some k
  | 0, hn => by omega
  | n + 1, hn => by
    rw [failAt]
    rcases Nat.lt_or_ge k n with h1 | h1
    · rw [failAt_stop h hk h1]
    · obtain rfl : k = n := by omega
      rw [failAt_none h]
      simp [hk]
theorem failAt_cases (f : Nat → Int) : ∀ n, (failAt f n = none ∧ ∀ t, t < n → f t = 0) ∨ ∃ k, k < n ∧ failAt f n = some k ∧ f k ≠ 0 ∧ ∀ t, t < k → f t = 0
  | 0 => .inl ⟨rfl, fun t ht => by omega⟩
  | n + 1 => by
    rcases failAt_cases f n with ⟨h1, h2⟩ | ⟨k, hk, h1, h2, h3⟩
    · by_cases h0 : f n = 0
      · exact .inl ⟨failAt_none (fun t ht => by (rcases Nat.lt_or_ge t n with h | h; exact h2 t h; exact (show t = n by omega) ▸ h0)), fun t ht => by (rcases Nat.lt_or_ge t n with h | h; exact h2 t h; exact (show t = n by omega) ▸ h0)⟩
      · exact .inr ⟨n, by omega, failAt_stop h2 h0 (by omega), h0, h2⟩
    · exact .inr ⟨k, by omega, failAt_stop h3 h2 (by omega), h2, h3⟩

section
variable (l : Instrs) (each : Bool) (op n1 : Int) (m : Strs) (sl : Nat)
/-- The runs of part p of the first k splits. -/
def redL (p : Nat) (k : Nat) : List Recs := (List.range k).map fun t => (mapJ l each op n1 m sl (t : Nat)).1.getD p []
theorem redL_len (p k : Nat) : (redL l each op n1 m sl p k).length = k := by simp [redL]
theorem redL_at {p k i : Nat} (h : i < k) : (redL l each op n1 m sl p k).getD i [] = (mapJ l each op n1 m sl (i : Nat)).1.getD p [] := by
  unfold redL
  rw [List.getD_eq_getElem?_getD, List.getElem?_map, List.getElem?_range h]; rfl
theorem redL_short (p k : Nat) : ShortR (redL l each op n1 m sl p k) := by
  intro i hi
  rw [redL_len] at hi
  unfold nAt
  rw [redL_at _ _ _ _ _ _ hi]
  have hf := mapJ_few l each op n1 m sl (i : Nat)
  generalize (mapJ l each op n1 m sl (i : Nat)).1 = R at hf ⊢
  by_cases hp : p < R.length
  · exact ⟨hf.recs p hp, hf.keys p hp⟩
  · have : R.getD p [] = [] := by rw [List.getD_eq_getElem?_getD, List.getElem?_eq_none (by omega)]; rfl
    rw [this]
    exact ⟨by simp, fun j hj => absurd hj (by simp)⟩
/-- What a reduce task yields: its run and its code. -/
def redJ (p : Int) : Recs × Int :=
  if jobB l op n1 m sl = true ∧ 0 ≤ p ∧ p < n1 then
    match failAt (fun t => (mapJ l each op n1 m sl (t : Nat)).2) sl with
    | some t => ([], (mapJ l each op n1 m sl (t : Nat)).2)
    | none => if mallK (redL l each op n1 m sl p.toNat sl) = true then (combW op (mallW (redL l each op n1 m sl p.toNat sl)), 0) else ([], 3)
  else ([], 1)
theorem redJ_no {p : Int} (h : ¬ (jobB l op n1 m sl = true ∧ 0 ≤ p ∧ p < n1)) : redJ l each op n1 m sl p = ([], 1) := by unfold redJ; rw [if_neg h]
theorem redJ_bad {p : Nat} (h : jobB l op n1 m sl = true) (hp : (p : Int) < n1) {k : Nat} (hk : k < sl) (h0 : ∀ t, t < k → (mapJ l each op n1 m sl (t : Nat)).2 = 0) {c : Int} (h1 : (mapJ l each op n1 m sl (k : Nat)).2 = c) (hc : c ≠ 0) : redJ l each op n1 m sl p = ([], c) := by
  unfold redJ
  rw [if_pos ⟨h, by omega, hp⟩, failAt_stop (f := fun t => (mapJ l each op n1 m sl (t : Nat)).2) h0 (by show (mapJ l each op n1 m sl (k : Nat)).2 ≠ 0; rw [h1]; exact hc) hk]
  simp only [h1]
theorem redJ_all {p : Nat} (h : jobB l op n1 m sl = true) (hp : (p : Int) < n1) (h0 : ∀ t, t < sl → (mapJ l each op n1 m sl (t : Nat)).2 = 0) : redJ l each op n1 m sl p = if mallK (redL l each op n1 m sl p sl) = true then (combW op (mallW (redL l each op n1 m sl p sl)), 0) else ([], 3) := by
  unfold redJ
  rw [if_pos ⟨h, by omega, hp⟩, failAt_none (f := fun t => (mapJ l each op n1 m sl (t : Nat)).2) h0, Int.toNat_natCast]
theorem redJ_few (p : Int) : (redJ l each op n1 m sl p).1.length ≤ 600 ∧ ∀ j, j < (redJ l each op n1 m sl p).1.length → (keyAt (redJ l each op n1 m sl p).1 j).size ≤ 40 := by
  unfold redJ
  split
  · split
    · exact ⟨by simp, fun j hj => absurd hj (by simp)⟩
    · split
      · exact combW_few _ _
      · exact ⟨by simp, fun j hj => absurd hj (by simp)⟩
  · exact ⟨by simp, fun j hj => absurd hj (by simp)⟩
/-- The runs of the first k parts of a result. -/
def resL (k : Nat) : List Recs := (List.range k).map fun p => (redJ l each op n1 m sl (p : Nat)).1
theorem resL_len (k : Nat) : (resL l each op n1 m sl k).length = k := by simp [resL]
theorem resL_at {k i : Nat} (h : i < k) : (resL l each op n1 m sl k).getD i [] = (redJ l each op n1 m sl (i : Nat)).1 := by
  unfold resL
  rw [List.getD_eq_getElem?_getD, List.getElem?_map, List.getElem?_range h]; rfl
theorem resL_short (k : Nat) : ShortR (resL l each op n1 m sl k) := by
  intro i hi
  rw [resL_len] at hi
  unfold nAt
  rw [resL_at _ _ _ _ _ _ hi]
  exact redJ_few l each op n1 m sl i
/-- A result: done, failed, the task that failed, the runs. -/
def resR : Bool × Bool × Int × List Recs :=
  if jobB l op n1 m sl = true then
    match failAt (fun t => (mapJ l each op n1 m sl (t : Nat)).2) sl with
    | some t => (false, true, t, [])
    | none => match failAt (fun p => (redJ l each op n1 m sl (p : Nat)).2) n1.toNat with
      | some p => (false, true, (sl : Int) + p, [])
      | none => (true, false, 0, resL l each op n1 m sl n1.toNat)
  else (false, false, 0, [])
theorem resR_no (h : ¬ jobB l op n1 m sl = true) : resR l each op n1 m sl = (false, false, 0, []) := by unfold resR; rw [if_neg h]
theorem resR_map (h : jobB l op n1 m sl = true) {k : Nat} (hk : k < sl) (h0 : ∀ t, t < k → (mapJ l each op n1 m sl (t : Nat)).2 = 0) (hc : (mapJ l each op n1 m sl (k : Nat)).2 ≠ 0) : resR l each op n1 m sl = (false, true, (k : Int), []) := by
  unfold resR
  rw [if_pos h, failAt_stop (f := fun t => (mapJ l each op n1 m sl (t : Nat)).2) h0 hc hk]
theorem resR_red (h : jobB l op n1 m sl = true) (hm : ∀ t, t < sl → (mapJ l each op n1 m sl (t : Nat)).2 = 0) {k : Nat} (hk : k < n1.toNat) (h0 : ∀ t, t < k → (redJ l each op n1 m sl (t : Nat)).2 = 0) (hc : (redJ l each op n1 m sl (k : Nat)).2 ≠ 0) : resR l each op n1 m sl = (false, true, (sl : Int) + k, []) := by
  unfold resR
  rw [if_pos h, failAt_none (f := fun t => (mapJ l each op n1 m sl (t : Nat)).2) hm]
  simp only [failAt_stop (f := fun p => (redJ l each op n1 m sl (p : Nat)).2) h0 hc hk]
theorem resR_all (h : jobB l op n1 m sl = true) (hm : ∀ t, t < sl → (mapJ l each op n1 m sl (t : Nat)).2 = 0) (h0 : ∀ t, t < n1.toNat → (redJ l each op n1 m sl (t : Nat)).2 = 0) : resR l each op n1 m sl = (true, false, 0, resL l each op n1 m sl n1.toNat) := by
  unfold resR
  rw [if_pos h, failAt_none (f := fun t => (mapJ l each op n1 m sl (t : Nat)).2) hm]
  simp only [failAt_none (f := fun p => (redJ l each op n1 m sl (p : Nat)).2) h0]
end
end Go.Proofs.YtjofbeokkainlaaGreatDoor
namespace Go.Proofs.YtjofbeokkainlaaGreatDoor
open Go.ChangeShapes Go.WideShapes Go.ChangeAt Go.RowKit
set_option linter.unusedVariables false
set_option maxRecDepth 100000

theorem combW_run (op : Int) (V : Recs) : runOkB (combW op V) = true := by
  cases h1 : opOkB op with
  | false => rw [comb_bad h1]; rfl
  | true =>
    cases h2 : recsOkB V with
    | false => rw [comb_not h2]; rfl
    | true =>
      obtain ⟨hup, _⟩ := combW_holds h1 h2
      have hfew := combW_few op V
      refine (runOk_iff _).2 ⟨recsOk_mem (fun r hr => ?_) hfew.1, List.Pairwise.imp (fun h => (leR_iff' _ _).2 (.inl h)) hup⟩
      obtain ⟨i, hi, e⟩ := List.mem_iff_getElem.1 hr
      have := hfew.2 i hi
      rw [at_get _ i hi] at e
      rw [← e]
      exact this
theorem combW_mem {op : Int} {V : Recs} {r : ByteArray × Int} (h : r ∈ combW op V) : ∃ s ∈ V, s.1 = r.1 := by
  unfold combW at h
  split at h
  · obtain ⟨j, hj, e⟩ := cTo_keys op _ _ (Nat.le_refl _) r h
    cases hok : recsOkB V with
    | false => rw [sortedB_not hok] at hj; simp at hj
    | true =>
      rw [sortedB_is hok] at hj e
      exact ⟨(sortL V)[j], (sortL_perm V).mem_iff.1 (List.getElem_mem hj), by rw [e, at_get _ j hj]⟩
  · simp at h
theorem liftW_mem {op : Int} {V : Recs} {r : ByteArray × Int} (h : r ∈ liftW op V) : ∃ s ∈ V, s.1 = r.1 := by
  unfold liftW at h
  split at h
  · unfold liftL at h
    obtain ⟨s, hs, rfl⟩ := List.mem_map.1 h
    exact ⟨s, hs, rfl⟩
  · simp at h
theorem ofR_part {op n1 : Int} {V : Recs} {p : Nat} {r : ByteArray × Int} (h : r ∈ ofR op n1 V p) : partN r.1 n1 = (p : Int) := by
  unfold ofR at h
  obtain ⟨s, hs, e1⟩ := combW_mem h
  obtain ⟨u, hu, e2⟩ := liftW_mem hs
  have h3 := (List.mem_filter.1 hu).2
  rw [decide_eq_true_eq] at h3
  rw [← e1, ← e2]
  exact h3
theorem mapJ_part {l : Instrs} {each : Bool} {op n1 : Int} {m : Strs} {sl : Nat} {t : Int} {p : Nat} {r : ByteArray × Int} (h : r ∈ (mapJ l each op n1 m sl t).1.getD p []) : partN r.1 n1 = (p : Int) := by
  unfold mapJ at h
  split at h
  · unfold mapR at h
    split at h
    · simp only at h
      by_cases hp : p < n1.toNat
      · rw [runsR_at hp] at h
        exact ofR_part h
      · rw [List.getD_eq_getElem?_getD, List.getElem?_eq_none (by rw [runsR_len]; omega)] at h
        simp at h
    · simp at h
  · simp at h
theorem mallW_mem {LS : List Recs} {r : ByteArray × Int} (h : r ∈ mallW LS) : ∃ L ∈ LS, r ∈ L := by
  unfold mallW at h
  split at h
  · exact List.mem_flatten.1 ((sortL_perm _).mem_iff.1 h)
  · simp at h
theorem redJ_part {l : Instrs} {each : Bool} {op n1 : Int} {m : Strs} {sl p : Nat} {r : ByteArray × Int} (h : r ∈ (redJ l each op n1 m sl (p : Nat)).1) : partN r.1 n1 = (p : Int) := by
  unfold redJ at h
  split at h
  · split at h
    · simp at h
    · split at h
      · simp only at h
        obtain ⟨s, hs, e1⟩ := combW_mem h
        obtain ⟨L, hL, hs2⟩ := mallW_mem hs
        unfold redL at hL
        obtain ⟨t, _, rfl⟩ := List.mem_map.1 hL
        rw [Int.toNat_natCast] at hs2
        rw [← e1]
        exact mapJ_part hs2
      · simp at h
  · simp at h
theorem redJ_run (l : Instrs) (each : Bool) (op n1 : Int) (m : Strs) (sl : Nat) (p : Int) : runOkB (redJ l each op n1 m sl p).1 = true := by
  unfold redJ
  split
  · split
    · rfl
    · split
      · exact combW_run _ _
      · rfl
  · rfl
/-- Runs, each of the keys of its own part. -/
structure PartsR (LS : List Recs) : Prop where
  run : ∀ i, i < LS.length → runOkB (LS.getD i []) = true
  part : ∀ i, i < LS.length → ∀ r ∈ LS.getD i [], partN r.1 (LS.length : Int) = (i : Int)
theorem partsR_nil : PartsR [] := ⟨fun i hi => absurd hi (by simp), fun i hi => absurd hi (by simp)⟩
theorem resR_parts (l : Instrs) (each : Bool) (op n1 : Int) (m : Strs) (sl : Nat) : PartsR (resR l each op n1 m sl).2.2.2 := by
  unfold resR
  split
  · rename_i hj
    have hp := jobB_parts hj
    split
    · exact partsR_nil
    · split
      · exact partsR_nil
      · refine ⟨fun i hi => ?_, fun i hi r hr => ?_⟩
        · rw [resL_len] at hi
          rw [resL_at _ _ _ _ _ _ hi]
          exact redJ_run _ _ _ _ _ _ _
        · rw [resL_len] at hi ⊢
          rw [resL_at _ _ _ _ _ _ hi] at hr
          have := redJ_part hr
          rw [show ((n1.toNat : Nat) : Int) = n1 by omega]
          exact this
  · exact partsR_nil

theorem findAux_no {key : ByteArray} {L : Recs} (h : ∀ r ∈ L, r.1 ≠ key) : findAux key L = (0, false) :=
  findAux_none key L fun j hj => by
    rw [← Bool.not_eq_true, sameKey_iff]
    exact fun e => h L[j] (List.getElem_mem hj) (by rw [at_get L j hj]; exact e)
theorem findAux_app (key : ByteArray) : ∀ A B : Recs, findAux key (A ++ B) = if (findAux key A).2 then findAux key A else findAux key B
  | [], B => rfl
  | r :: A, B => by
    have ih := findAux_app key A B
    have e1 : findAux key (r :: A ++ B) = if sameKey r.1 key then (r.2, true) else findAux key (A ++ B) := rfl
    have e2 : findAux key (r :: A) = if sameKey r.1 key then (r.2, true) else findAux key A := rfl
    rw [e1, e2]
    cases sameKey r.1 key with
    | true => rfl
    | false => exact ih
theorem findAux_pair {key : ByteArray} {A : Recs} (h : (findAux key A).2 = false) : findAux key A = (0, false) := by
  by_cases hex : ∃ i, i < A.length ∧ keyAt A i = key
  · obtain ⟨i, hi, e⟩ := hex
    rw [findAux_true hi e] at h
    cases h
  · exact findAux_none key A fun j hj => by
      rw [← Bool.not_eq_true, sameKey_iff]
      exact fun e => hex ⟨j, hj, e⟩
/-- The first of all runs' records with this key. -/
def ansL (LS : List Recs) (key : ByteArray) : Int × Bool := findAux key LS.flatten
theorem ans_take {LS : List Recs} {key : ByteArray} {k : Nat} (hk : k < LS.length) (h : ∀ i, i < k → findAux key (LS.getD i []) = (0, false)) : findAux key (LS.take k).flatten = (0, false) := by
  refine findAux_no fun r hr e => ?_
  obtain ⟨L, hL, hr2⟩ := List.mem_flatten.1 hr
  obtain ⟨i, hi, rfl⟩ := List.mem_iff_getElem.1 hL
  have hi2 : i < k := by rw [List.length_take] at hi; omega
  have h1 := h i hi2
  rw [List.getD_eq_getElem?_getD, List.getElem?_eq_getElem (by omega)] at h1
  rw [List.getElem_take] at hr2
  obtain ⟨j, hj, e2⟩ := List.mem_iff_getElem.1 hr2
  have := findAux_true (key := key) hj (by rw [at_get _ j hj] at e2; rw [← e, ← e2])
  simp only [Option.getD_some] at h1
  rw [h1] at this
  cases this
theorem ans_hit {LS : List Recs} {key : ByteArray} {k : Nat} (hk : k < LS.length) (h : ∀ i, i < k → findAux key (LS.getD i []) = (0, false)) {n : Int} (hn : findAux key (LS.getD k []) = (n, true)) : ansL LS key = (n, true) := by
  have e : LS = LS.take k ++ LS.getD k [] :: LS.drop (k + 1) := by
    rw [List.getD_eq_getElem?_getD, List.getElem?_eq_getElem hk]
    simp only [Option.getD_some]
    rw [List.getElem_cons_drop, List.take_append_drop]
  unfold ansL
  have e2 : LS.flatten = (LS.take k).flatten ++ (LS.getD k [] ++ (LS.drop (k + 1)).flatten) := by
    conv => lhs; rw [e]
    rw [List.flatten_append, List.flatten_cons]
  rw [e2, findAux_app, ans_take hk h, if_neg (by simp), findAux_app, hn, if_pos rfl]
theorem ans_none {LS : List Recs} {key : ByteArray} (h : ∀ i, i < LS.length → findAux key (LS.getD i []) = (0, false)) : ansL LS key = (0, false) := by
  refine findAux_no fun r hr e => ?_
  obtain ⟨L, hL, hr2⟩ := List.mem_flatten.1 hr
  obtain ⟨i, hi, rfl⟩ := List.mem_iff_getElem.1 hL
  have h1 := h i hi
  rw [List.getD_eq_getElem?_getD, List.getElem?_eq_getElem hi] at h1
  obtain ⟨j, hj, e2⟩ := List.mem_iff_getElem.1 hr2
  have := findAux_true (key := key) hj (by rw [at_get _ j hj] at e2; rw [← e, ← e2])
  simp only [Option.getD_some] at h1
  rw [h1] at this
  cases this
theorem findB_run {L : Recs} {key : ByteArray} (h : runOkB L = true) : findB L key = findAux key L := by unfold findB; rw [if_pos h]
/-- The run of the key's part has the answer. -/
theorem ans_part {LS : List Recs} {key : ByteArray} (h : PartsR LS) {k : Nat} (hk : k < LS.length) (hp : partN key (LS.length : Int) = (k : Int)) : ansL LS key = findB (LS.getD k []) key := by
  have hno : ∀ i, i < LS.length → i ≠ k → findAux key (LS.getD i []) = (0, false) := fun i hi hne => findAux_no fun r hr e => by
    have := h.part i hi r hr
    rw [e, hp] at this
    omega
  rw [findB_run (h.run k hk)]
  cases hb : (findAux key (LS.getD k [])).2 with
  | true =>
    obtain ⟨n, hn⟩ : ∃ n, findAux key (LS.getD k []) = (n, true) := ⟨_, by rw [← hb]⟩
    rw [hn]
    exact ans_hit hk (fun i hi => hno i (by omega) (by omega)) hn
  | false =>
    rw [findAux_pair hb]
    exact ans_none fun i hi => by
      by_cases e : i = k
      · subst e; exact findAux_pair hb
      · exact hno i hi e
end Go.Proofs.YtjofbeokkainlaaGreatDoor
namespace Go.Proofs.YtjofbeokkainlaaGreatDoor
set_option linter.unusedVariables false

def mO (op : Int) (o : Option Int) : Option Int → Option Int
  | none => o
  | some y => fO op o y
theorem mO_fO (op : Int) (o p : Option Int) (x : Int) : fO op (mO op o p) x = mO op o (fO op p x) := by
  cases p with
  | none => rfl
  | some y =>
    cases o with
    | none => rfl
    | some n => exact congrArg some (comb_assoc op n y x)
theorem fO_two (op : Int) (o : Option Int) (x y : Int) : fO op o (combN op x y) = fO op (fO op o x) y := by
  cases o with
  | none => rfl
  | some n => exact congrArg some (comb_assoc op n x y).symm
theorem res_app_to (op : Int) (key : ByteArray) (X Y : Recs) : ∀ n, n ≤ Y.length → resT op key (X ++ Y.take n) = mO op (resT op key X) (resT op key (Y.take n))
  | 0, _ => by
    rw [List.take_zero, List.append_nil]
    rfl
  | n + 1, h => by
    have ih := res_app_to op key X Y n (by omega)
    rw [List.take_succ_eq_append_getElem (by omega), ← List.append_assoc, res_snoc, res_snoc, ih]
    split
    · exact mO_fO _ _ _ _
    · rfl
theorem res_app (op : Int) (key : ByteArray) (X Y : Recs) : resT op key (X ++ Y) = mO op (resT op key X) (resT op key Y) := by
  have := res_app_to op key X Y Y.length (Nat.le_refl _)
  rwa [List.take_length] at this
theorem res_step {op : Int} {key : ByteArray} {T W : Recs} {r : ByteArray × Int} (h : resT op key W = resT op key T) : resT op key (cStep op W r) = resT op key (T ++ [r]) := by
  cases hj : joinsB W r with
  | false => rw [cStep_new hj, res_snoc, res_snoc, h]
  | true =>
    have h0 : 0 < W.length := by
      unfold joinsB at hj
      rw [Bool.and_eq_true] at hj
      exact of_decide_eq_true hj.1
    obtain ⟨A, x, rfl⟩ : ∃ A x, W = A ++ [x] := ⟨W.dropLast, W.getLast (fun e => by rw [e] at h0; simp at h0), (List.dropLast_concat_getLast _).symm⟩
    have hlen : (A ++ [x]).length = A.length + 1 := by simp
    have hkx : keyAt (A ++ [x]) A.length = x.1 ∧ numAt (A ++ [x]) A.length = x.2 := by
      have := at_get (A ++ [x]) A.length (by simp)
      have e : x = (keyAt (A ++ [x]) A.length, numAt (A ++ [x]) A.length) := by simpa using this
      exact ⟨(congrArg Prod.fst e).symm, (congrArg Prod.snd e).symm⟩
    have hs : sameKey x.1 r.1 = true := by
      unfold joinsB at hj
      rw [Bool.and_eq_true, hlen, Nat.add_sub_cancel, hkx.1] at hj
      exact hj.2
    have hxr := same_yes hs
    rw [cStep_join hj hlen, hkx.1, hkx.2]
    have hset : ∀ z, (A ++ [x]).set A.length z = A ++ [z] := fun z => by simp
    rw [hset, res_snoc, res_snoc op key T r, ← h, res_snoc, ← hxr]
    cases sameKey x.1 key with
    | false => rfl
    | true => exact fO_two _ _ _ _
theorem res_cTo (op : Int) (key : ByteArray) (S : Recs) : ∀ k, k ≤ S.length → resT op key (cTo op S k) = resT op key (S.take k)
  | 0, _ => by simp [cTo]
  | k + 1, h => by
    have hlt : k < S.length := by omega
    rw [cTo_succ op S k hlt, List.take_succ_eq_append_getElem hlt, at_get S k hlt]
    exact res_step (res_cTo op key S k (by omega))
theorem res_comb {op : Int} {V : Recs} (h1 : opOkB op = true) (h2 : recsOkB V = true) (key : ByteArray) : resT op key (combW op V) = resT op key V := by
  rw [comb_of h1 (sortedB_is h2) rfl, res_cTo op key _ _ (Nat.le_refl _), List.take_length, res_perm (sortL_perm V)]

theorem up_mem : ∀ {C D : Recs}, KeyUp C → KeyUp D → (∀ r, r ∈ C ↔ r ∈ D) → C = D
  | [], [], _, _, _ => rfl
  | [], b :: D, _, _, h => absurd ((h b).2 (List.mem_cons_self ..)) (by simp)
  | a :: C, [], _, _, h => absurd ((h a).1 (List.mem_cons_self ..)) (by simp)
  | a :: C, b :: D, hc, hd, h => by
    obtain ⟨hc1, hc2⟩ := List.pairwise_cons.1 hc
    obtain ⟨hd1, hd2⟩ := List.pairwise_cons.1 hd
    have e : a = b := by
      rcases List.mem_cons.1 ((h a).1 (List.mem_cons_self ..)) with e | ha
      · exact e
      · rcases List.mem_cons.1 ((h b).2 (List.mem_cons_self ..)) with e | hb
        · exact e.symm
        · exact absurd (List.lt_trans (hc1 b hb) (hd1 a ha)) (List.lt_irrefl _)
    subst e
    rw [up_mem hc2 hd2 fun r => ⟨fun hr => ?_, fun hr => ?_⟩]
    · rcases List.mem_cons.1 ((h r).1 (List.mem_cons_of_mem _ hr)) with e | hx
      · subst e; exact absurd (hc1 r hr) (List.lt_irrefl _)
      · exact hx
    · rcases List.mem_cons.1 ((h r).2 (List.mem_cons_of_mem _ hr)) with e | hx
      · subst e; exact absurd (hd1 r hr) (List.lt_irrefl _)
      · exact hx
theorem mem_of_res {op : Int} {C : Recs} (hm : ∀ r ∈ C, resT op r.1 C = some r.2) {key : ByteArray} {n : Int} (e : resT op key C = some n) : (key, n) ∈ C := by
  by_cases h : ∃ x ∈ C, sameKey x.1 key = true
  · obtain ⟨x, hx, hs⟩ := h
    have e2 := hm x hx
    rw [same_yes hs, e] at e2
    have e3 : x = (key, n) := Prod.ext (same_yes hs) (Option.some.inj e2).symm
    rw [← e3]
    exact hx
  · rw [res_none (fun r hr => by
      cases hk : sameKey r.1 key with
      | false => rfl
      | true => exact absurd ⟨r, hr, hk⟩ h)] at e
    cases e
theorem recsOk_short {V : Recs} (h : recsOkB V = true) : ∀ r ∈ V, r.1.size ≤ 40 := fun r hr => by
  have hf := sortedB_few V
  rw [sortedB_is h] at hf
  obtain ⟨i, hi, e⟩ := List.mem_iff_getElem.1 ((sortL_perm V).mem_iff.2 hr)
  have := hf.2 i hi
  rw [at_get _ i hi] at e
  rw [← e]
  exact this
theorem comb_short (op : Int) (V : Recs) : ∀ r ∈ combW op V, r.1.size ≤ 40 := fun r hr => by
  obtain ⟨i, hi, e⟩ := List.mem_iff_getElem.1 hr
  have := (combW_few op V).2 i hi
  rw [at_get _ i hi] at e
  rw [← e]
  exact this
theorem comb_len (op : Int) (V : Recs) : (combW op V).length ≤ V.length := by
  unfold combW
  split
  · have h1 := cTo_len op (sortedB V) _ (Nat.le_refl _)
    have h2 : (sortedB V).length ≤ V.length := by
      cases h : recsOkB V with
      | false => rw [sortedB_not h]; simp
      | true => rw [sortedB_is h, (sortL_perm V).length_eq]; exact Nat.le_refl _
    omega
  · simp
/-- Combined of the parts' combined records is Combined of all. -/
theorem comb_parts {op : Int} {V A B : Recs} (h1 : opOkB op = true) (h2 : recsOkB V = true) (hp : (A ++ B).Perm V) : combW op (combW op A ++ combW op B) = combW op V := by
  have hk := recsOk_short h2
  have h6 := (recsOk_parts h2).1
  have hl := hp.length_eq
  rw [List.length_append] at hl
  have hA : recsOkB A = true := recsOk_mem (fun r hr => hk r (hp.mem_iff.1 (List.mem_append.2 (.inl hr)))) (by omega)
  have hB : recsOkB B = true := recsOk_mem (fun r hr => hk r (hp.mem_iff.1 (List.mem_append.2 (.inr hr)))) (by omega)
  have hAB : recsOkB (combW op A ++ combW op B) = true := recsOk_mem (fun r hr => by
    rcases List.mem_append.1 hr with hr | hr
    · exact comb_short _ _ r hr
    · exact comb_short _ _ r hr) (by
      rw [List.length_append]
      have := comb_len op A
      have := comb_len op B
      omega)
  have hr : ∀ key, resT op key (combW op (combW op A ++ combW op B)) = resT op key (combW op V) := fun key => by
    rw [res_comb h1 hAB, res_comb h1 h2, res_app, res_comb h1 hA, res_comb h1 hB, ← res_app, res_perm hp]
  obtain ⟨u1, m1⟩ := combW_holds h1 hAB
  obtain ⟨u2, m2⟩ := combW_holds h1 h2
  have m1' : ∀ r ∈ combW op (combW op A ++ combW op B), resT op r.1 (combW op (combW op A ++ combW op B)) = some r.2 := fun r hx => by rw [res_comb h1 hAB]; exact m1 r hx
  have m2' : ∀ r ∈ combW op V, resT op r.1 (combW op V) = some r.2 := fun r hx => by rw [res_comb h1 h2]; exact m2 r hx
  refine up_mem u1 u2 fun r => ⟨fun hx => ?_, fun hx => ?_⟩
  · exact mem_of_res m2' (by rw [← hr]; exact m1' r hx)
  · exact mem_of_res m1' (by rw [hr]; exact m2' r hx)
end Go.Proofs.YtjofbeokkainlaaGreatDoor
namespace Go.Proofs.YtjofbeokkainlaaGreatDoor
open Go.ChangeShapes Go.WideShapes Go.ChangeAt Go.RowKit
set_option linter.unusedVariables false
set_option maxRecDepth 100000

theorem keyUp_nodup {C : Recs} (h : KeyUp C) : C.Nodup :=
  List.Pairwise.imp (fun {a b} hab (e : a = b) => by subst e; exact absurd hab (List.lt_irrefl _)) h
theorem keyUp_order {C : Recs} (h : KeyUp C) : InOrder C := List.Pairwise.imp (fun h => (leR_iff' _ _).2 (.inl h)) h
theorem res_part {op n i : Int} {key : ByteArray} {V : Recs} (hp : partN key n = i) : resT op key (liftL op (partL V n i)) = resT op key (liftL op V) := by
  have e : (liftL op (partL V n i)).filter (fun r => sameKey r.1 key) = (liftL op V).filter (fun r => sameKey r.1 key) := by
    unfold liftL partL
    rw [List.filter_map, List.filter_map, List.filter_filter]
    congr 1
    refine List.filter_congr fun r _ => ?_
    show (sameKey r.1 key && decide (partN r.1 n = i)) = sameKey r.1 key
    cases h : sameKey r.1 key with
    | false => rfl
    | true =>
      have := same_yes h
      rw [this, hp]
      simp
  unfold resT
  rw [e]
theorem liftW_is {op : Int} {V : Recs} (h1 : opOkB op = true) (h2 : recsOkB V = true) : liftW op V = liftL op V := by unfold liftW; rw [h1, h2]; rfl
theorem recsOk_partL {V : Recs} {n p : Int} (h : recsOkB V = true) : recsOkB (partL V n p) = true := by
  have hk := recsOk_short h
  have h6 := (recsOk_parts h).1
  exact recsOk_mem (fun r hr => hk r (partL_mem hr)) (by have := partL_few V n p; omega)
theorem recsOk_liftL {op : Int} {V : Recs} (h : recsOkB V = true) : recsOkB (liftL op V) = true := by
  have hk := recsOk_short h
  have h6 := (recsOk_parts h).1
  refine recsOk_mem (fun r hr => ?_) (by rw [liftL_len]; exact h6)
  unfold liftL at hr
  obtain ⟨s, hs, rfl⟩ := List.mem_map.1 hr
  exact hk s hs
theorem ofR_iff {op n : Int} {V : Recs} (h1 : opOkB op = true) (h2 : recsOkB V = true) (p : Nat) (r : ByteArray × Int) : r ∈ ofR op n V p ↔ r ∈ combW op (liftW op V) ∧ partN r.1 n = (p : Int) := by
  have hP := recsOk_partL (n := n) (p := (p : Int)) h2
  have ok1 := recsOk_liftL (op := op) hP
  have ok2 := recsOk_liftL (op := op) h2
  rw [liftW_is h1 h2]
  have eo : ofR op n V p = combW op (liftL op (partL V n p)) := by unfold ofR; rw [liftW_is h1 hP]
  obtain ⟨_, m1⟩ := combW_holds h1 ok1
  obtain ⟨_, m2⟩ := combW_holds h1 ok2
  constructor
  · intro h
    have hp := ofR_part h
    rw [eo] at h
    refine ⟨mem_of_res (op := op) (fun r hx => by rw [res_comb h1 ok2]; exact m2 r hx) ?_, hp⟩
    rw [res_comb h1 ok2, ← res_part hp]
    exact m1 r h
  · rintro ⟨h, hp⟩
    rw [eo]
    refine mem_of_res (op := op) (fun r hx => by rw [res_comb h1 ok1]; exact m1 r hx) ?_
    rw [res_comb h1 ok1, res_part hp]
    exact m2 r h
theorem ofR_up {op n : Int} {V : Recs} (h1 : opOkB op = true) (h2 : recsOkB V = true) (p : Nat) : KeyUp (ofR op n V p) := by
  have hP := recsOk_partL (n := n) (p := (p : Int)) h2
  unfold ofR
  rw [liftW_is h1 hP]
  exact (combW_holds h1 (recsOk_liftL hP)).1
theorem runs_nodup {op n : Int} {V : Recs} (h1 : opOkB op = true) (h2 : recsOkB V = true) : ∀ k, (runsR op n V k).flatten.Nodup ∧ ∀ r ∈ (runsR op n V k).flatten, ∃ i : Nat, i < k ∧ r ∈ ofR op n V i
  | 0 => ⟨by simp [runsR], fun r hr => absurd hr (by simp [runsR])⟩
  | k + 1 => by
    have ih := runs_nodup (n := n) h1 h2 k
    have e : (runsR op n V (k + 1)).flatten = (runsR op n V k).flatten ++ ofR op n V k := by
      unfold runsR
      rw [List.range_succ, List.map_append, List.flatten_append]
      simp
    rw [e]
    refine ⟨List.nodup_append.2 ⟨ih.1, keyUp_nodup (ofR_up h1 h2 k), fun a ha b hb hab => ?_⟩, fun r hr => ?_⟩
    · subst hab
      obtain ⟨i, hi, hm⟩ := ih.2 a ha
      have e1 := ofR_part hm
      have e2 := ofR_part hb
      omega
    · rcases List.mem_append.1 hr with h | h
      · obtain ⟨i, hi, hm⟩ := ih.2 r h
        exact ⟨i, by omega, hm⟩
      · exact ⟨k, by omega, h⟩
theorem runs_mem {op n : Int} {V : Recs} {k i : Nat} (hi : i < k) {r : ByteArray × Int} (h : r ∈ ofR op n V i) : r ∈ (runsR op n V k).flatten :=
  List.mem_flatten.2 ⟨ofR op n V i, List.mem_map.2 ⟨i, List.mem_range.2 hi, rfl⟩, h⟩
/-- The parts' records, sorted. -/
theorem runs_sorted {op : Int} {V : Recs} {k : Nat} (h1 : opOkB op = true) (h2 : recsOkB V = true) (hk : 0 < k) (hp : ∀ s : ByteArray, 0 ≤ partN s (k : Int) ∧ partN s (k : Int) < (k : Int)) :
    sortedB (runsR op (k : Int) V k).flatten = combW op (liftW op V) ∧ (runsR op (k : Int) V k).flatten.length ≤ 600 := by
  obtain ⟨hn, hm⟩ := runs_nodup (n := (k : Int)) h1 h2 k
  have hup : KeyUp (combW op (liftW op V)) := by rw [liftW_is h1 h2]; exact (combW_holds h1 (recsOk_liftL h2)).1
  have hperm : (combW op (liftW op V)).Perm (runsR op (k : Int) V k).flatten := by
    refine (List.perm_ext_iff_of_nodup (keyUp_nodup hup) hn).2 fun r => ⟨fun h => ?_, fun h => ?_⟩
    · have hr := hp r.1
      exact runs_mem (i := (partN r.1 (k : Int)).toNat) (by omega) ((ofR_iff h1 h2 _ r).2 ⟨h, by omega⟩)
    · obtain ⟨i, _, hi⟩ := hm r h
      exact ((ofR_iff h1 h2 i r).1 hi).1
  have hl := hperm.length_eq
  have hf := combW_few op (liftW op V)
  have hok : recsOkB (runsR op (k : Int) V k).flatten = true := recsOk_mem (fun r hr => comb_short _ _ r (hperm.mem_iff.2 hr)) (by omega)
  exact ⟨by rw [sortedB_is hok]; exact sortL_of (keyUp_order hup) hperm, by omega⟩
end Go.Proofs.YtjofbeokkainlaaGreatDoor
namespace Go.Proofs.YtjofbeokkainlaaGreatDoor
open Go.ChangeShapes Go.WideShapes Go.ChangeAt Go.RowKit
set_option linter.unusedVariables false
set_option maxRecDepth 100000

/-- A map task without a failure. -/
theorem map_good {l : Instrs} {each : Bool} {op n1 : Int} {m : Strs} {sl : Nat} {t : Int} {LS : List Recs} (hn : ∀ i, i < l.length → In64 (ins1 l i)) (h : mapJ l each op n1 m sl t = (LS, 0)) :
    ∃ (tn N1 : Nat) (V : Recs), t = (tn : Int) ∧ tn < sl ∧ n1 = (N1 : Int) ∧ 1 ≤ N1 ∧ N1 ≤ 3 ∧ opOkB op = true ∧ linesK (strAt m tn).data.toList = true ∧ LS = runsR op (N1 : Int) V N1 ∧ emitTo l each (strsOf (linesW (strAt m tn).data.toList)) (strsOf (linesW (strAt m tn).data.toList)).length = (V, 0) ∧ V.length ≤ 600 ∧ (∀ r ∈ V, r.1.size ≤ 40 ∧ In64 r.2) := by
  unfold mapJ at h
  split at h
  · rename_i hj
    have hp := jobB_parts hj.1
    have hs : allB m sl = true := by
      have h1 := hj.1
      unfold jobB splitsB at h1
      simp only [Bool.and_eq_true] at h1
      exact h1.2.2.2.2
    have hk : ∀ k, allB m k = true → ∀ i, i < k → splitB m i = true := by
      intro k
      induction k with
      | zero => intro _ i hi; omega
      | succ k ih =>
        intro h i hi
        have h' : (allB m k && splitB m k) = true := h
        rw [Bool.and_eq_true] at h'
        rcases Nat.lt_or_ge i k with h1 | h1
        · exact ih h'.1 i h1
        · obtain rfl : i = k := by omega
          exact h'.2
    have hl := hk sl hs t.toNat (by omega)
    unfold mapR at h
    split at h
    · rename_i hc
      have hf := emitR_facts (each := each) (strsOf (linesW (strAt m t.toNat).data.toList)) hn
      have hem : emitTo l each (strsOf (linesW (strAt m t.toNat).data.toList)) (strsOf (linesW (strAt m t.toNat).data.toList)).length = ((emitR l each (strsOf (linesW (strAt m t.toNat).data.toList))).1, 0) := by
        unfold emitR at hc ⊢
        split
        · rename_i h2
          rw [if_pos h2] at hc
          cases hc
        · rename_i h2
          rw [if_neg h2] at hc
          rw [← hc]
      have e1 : LS = runsR op n1 (emitR l each (strsOf (linesW (strAt m t.toNat).data.toList))).1 n1.toNat := (congrArg Prod.fst h).symm
      have e2 : ((n1.toNat : Nat) : Int) = n1 := by omega
      exact ⟨t.toNat, n1.toNat, _, by omega, by omega, e2.symm, by omega, by omega, hp.2.2.2.2.1, hl, by rw [e2]; exact e1, hem, hf.1, hf.2.1⟩
    · rename_i hc
      exact absurd (congrArg Prod.snd h) hc
  · exact absurd (congrArg Prod.snd h) (by simp)
theorem emitTo_zero {l : Instrs} {each : Bool} {L : Strs} {V : Recs} {n k : Nat} (h : emitTo l each L n = (V, 0)) (hk : k ≤ n) : (emitTo l each L k).2 = 0 := by
  refine Classical.byContradiction fun hc => ?_
  have := emitTo_bad hc hk
  rw [this] at h
  exact hc (congrArg Prod.snd h)
theorem emitTo_line {l : Instrs} {each : Bool} {L : Strs} {V : Recs} {n k : Nat} (h : emitTo l each L n = (V, 0)) (hk : k < n) : (lineR l each (strAt L k)).2 = 0 ∧ emitTo l each L (k + 1) = ((emitTo l each L k).1 ++ (lineR l each (strAt L k)).1, 0) := by
  have h0 := emitTo_zero h (Nat.le_of_lt hk)
  have h1 := emitTo_zero h (show k + 1 ≤ n from hk)
  rw [emitTo, if_neg (by rw [h0]; simp)] at h1
  by_cases hc : (lineR l each (strAt L k)).2 = 0
  · refine ⟨hc, ?_⟩
    rw [emitTo, if_neg (by rw [h0]; simp), if_neg (by rw [hc]; simp)]
  · rw [if_pos hc] at h1
    exact absurd h1 hc

set_option maxHeartbeats 4000000 in
theorem sameruns_same (a1 a2 : Option Addr) (len cap1 cap2 : Nat) (LS : List Recs) (w : World) (h1 : RunLs w a1 len LS) (h2 : RunLs w a2 len LS) :
    Calls Tryz.prog 8 #[.slice a1 len cap1, .slice a2 len cap2] w (MadeBool true w) := by
  have hm := h1.2.1
  unfold maxLen at hm
  have HR1 := Lib.hid h1
  have HR2 := Lib.hid h2
  clear h1 h2
  go_enter Tryz.func8, Tryz.ntmps8
  go_wp2_with fail
  go_loopw [5] (fun i wr => ∃ k : Nat, k ≤ len ∧ i = .int .i64 k ∧ Hid (Below w.heap.size w wr)) (fun i _ => len - (intOf i).toNat)
  case atStart => exact ⟨0, Nat.zero_le _, rfl, Below.refl _ _⟩
  case round =>
    obtain ⟨k, hk, rfl, HW⟩ := hrel
    by_cases hlt : k < len
    · rcases HR1.out.2.2 with hz | ⟨b1, off1, rfl, hb1, hc1⟩
      · omega
      · rcases HR2.out.2.2 with hz | ⟨b2, off2, rfl, hb2, hc2⟩
        · omega
        · obtain ⟨p1, m1, c1, x1, r1⟩ := hc1 k hlt
          obtain ⟨p2, m2, c2, x2, r2⟩ := hc2 k hlt
          obtain rfl : m2 = m1 := r2.length.symm.trans r1.length
          have HA1 := Lib.hid (r1.keep HW.out)
          have HA2 := Lib.hid (r2.keep HW.out)
          have HX1 := Lib.hid x1
          have HX2 := Lib.hid x2
          have HL1 := Lib.hid hb1
          have HL2 := Lib.hid hb2
          have hk1 : (k : Int) < (len : Int) := by omega
          have hk0 : (0 : Int) ≤ (k : Int) := by omega
          clear hc1 hc2 x1 x2 r1 r2 hb1 hb2
          go_wp2_with fail
          refine wp_region_noPanic ?_
          obtain ⟨v0, hv0⟩ : ∃ x, wr.drew = x := ⟨_, rfl⟩
          have hdd : Below wr.heap.size wr v0 := by rw [← hv0]; exact below_drewN (Below.refl _ _) 1
          have HA1 := Lib.hid (HA1.out.keep hdd)
          have HA2 := Lib.hid (HA2.out.keep hdd)
          have HW0 := Lib.hid (below_via HW.out hdd)
          refine wp_region_held_drew (S := (fun w' => Hid (Below w.heap.size w w'))) (by kernel_rfl) (by rw [hv0]; exact HW0) (fun HS => ?_)
          rw [hv0] at HS ⊢
          clear hv0 hdd
          refine held_take (i := 0) (d := 17) (v := .slice (some ⟨b1, off1, none⟩) len cap1) rfl rfl (by kernel_rfl) (by kernel_rfl) (by kernel_rfl) (by kernel_rfl) (fun wx hS => by go_simp) HS ?_
          refine held_take (i := 1) (d := 18) (v := .int .i64 (k : Int)) rfl rfl (by kernel_rfl) (by kernel_rfl) (by kernel_rfl) (by kernel_rfl) (fun wx hS => by go_simp) HS ?_
          refine held_take (i := 2) (d := 19) (v := .pointer (some ⟨b1, off1 + k, none⟩)) rfl rfl (by kernel_rfl) (by kernel_rfl) (by kernel_rfl) (by kernel_rfl) (fun wx hS => by go_simp) HS ?_
          refine held_take (i := 3) (d := 20) (v := .slice p1 m2 c1) rfl rfl (by kernel_rfl) (by kernel_rfl) (by kernel_rfl) (by kernel_rfl) (fun wx hS => by have z1 := (hS.out.cell (p := ⟨b1, off1 + k, none⟩) HL1.out).trans HX1.out; have z2 := (hS.out.cell (p := ⟨b2, off2 + k, none⟩) HL2.out).trans HX2.out; go_simp) HS ?_
          refine held_take (i := 4) (d := 21) (v := .slice (some ⟨b2, off2, none⟩) len cap2) rfl rfl (by kernel_rfl) (by kernel_rfl) (by kernel_rfl) (by kernel_rfl) (fun wx hS => by go_simp) HS ?_
          refine held_take (i := 5) (d := 22) (v := .int .i64 (k : Int)) rfl rfl (by kernel_rfl) (by kernel_rfl) (by kernel_rfl) (by kernel_rfl) (fun wx hS => by go_simp) HS ?_
          refine held_take (i := 6) (d := 23) (v := .pointer (some ⟨b2, off2 + k, none⟩)) rfl rfl (by kernel_rfl) (by kernel_rfl) (by kernel_rfl) (by kernel_rfl) (fun wx hS => by go_simp) HS ?_
          refine held_take (i := 7) (d := 24) (v := .slice p2 m2 c2) rfl rfl (by kernel_rfl) (by kernel_rfl) (by kernel_rfl) (by kernel_rfl) (fun wx hS => by have z1 := (hS.out.cell (p := ⟨b1, off1 + k, none⟩) HL1.out).trans HX1.out; have z2 := (hS.out.cell (p := ⟨b2, off2 + k, none⟩) HL2.out).trans HX2.out; go_simp) HS ?_
          refine wpAnyH_ready (rs := [8]) (by kernel_rfl) (by simp) (AllReadyH.cons rfl (fun K hK => ?_) AllReadyH.nil)
          go_simp
          refine (samerun_same _ _ _ _ _ _ _ HA1.out HA2.out).mono ?_
          rintro e w5 ⟨rfl, hB⟩
          have HW5 := Lib.hid (below_via HS.out hB)
          clear hB
          refine hK.out _ _ HW5 (fun HS => ?_)
          clear hK K
          refine held_take (i := 9) (d := 26) (v := .bool false) rfl rfl (by kernel_rfl) (by kernel_rfl) (by kernel_rfl) (by kernel_rfl) (fun wx hS => by go_simp) HS ?_
          refine wpAnyH_done (by kernel_rfl) (NoPanic.normal ?_) _
          go_wp2
          go_roundw
          case rel => exact ⟨k + 1, by omega, by go_num, HW5⟩
          case measure => simp [intOf]; omega
    · obtain rfl : k = len := by omega
      go_wp2
      go_ret
      exact ⟨rfl, HW.out⟩
end Go.Proofs.YtjofbeokkainlaaGreatDoor
