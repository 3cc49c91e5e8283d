
/- The model's MapOf, with runs that MergeAll may take. Only new blocks are made. -/
import Derived.Test.YtjofbeokkainlaaDoorMg33
import Derived.Test.YtjofbeokkainlaaDoorMg31
import Derived.Test.YtjofbeokkainlaaDoorMg27
import Derived.Test.YtjofbeokkainlaaDoorMg2
import Derived.Test.YtjofbeokkainlaaDoorMg26
import Derived.Test.YtjofbeokkainlaaDoorMg1
import Derived.Deep.AppendLies
import Derived.Deep.Onto
namespace Go.Proofs.YtjofbeokkainlaaDoor
open Go.ChangeShapes Go.WideShapes Go.ChangeAt Go.RowKit
set_option linter.unusedVariables false
set_option maxRecDepth 100000

theorem rs_apartT {base bo : Nat} {w w1 : World} {q : Option Addr} {W : Recs} {e : TypeId} {size n : Nat} {v : Value} {xs : List Value} (h : Rs base w q W) (ho : w.ownsRow bo e size v n xs) (hT : 30 ≠ e) (hg : w.grownBy w1 v.ownBlock) : Rs base w1 q W := by
  rcases h with h0 | ⟨g, cur, hq, hb, hr, h1, h2⟩
  · exact .inl h0
  · exact .inr ⟨g, cur, hq, hb, ot_row_grownT hr ho hT hg, h1, h2⟩

theorem slifted_q (op : Int) (q : Option Addr) (n cp : Nat) (V : Recs) (w : World) (h : RecsAt w q n V) (hf : q = none ∨ ∃ g, q = some ⟨g, 0, none⟩) (hc : q = none → cp = 0) :
    Calls Tryd.prog 34 #[.int .i64 op, .slice q n cp] w (MadeRsL (liftW op V) w) := by
  rcases hf with rfl | ⟨g, rfl⟩
  · obtain rfl := hc rfl
    obtain rfl : n = 0 := by
      rcases h.src with h0 | ⟨b, off, ha, _⟩
      · exact h0
      · cases ha
    obtain rfl : V = [] := List.eq_nil_of_length_eq_zero h.length
    rw [lift_nil]
    exact slifted_nil op w
  · exact slifted_any op g 0 n cp V w h
/-- The model's rounds over the lines. -/
structure EmS (l : Instrs) (each : Bool) (L : Strs) (w wr : World) (qo : Option Addr) (co : Nat) (k : Nat) (O : Recs) (lq : Option Addr) (B : Nat) (WL : List (List UInt8)) : Prop where
  ev : emitTo l each L k = (O, 0)
  own : wr.ownsRow w.heap.size 30 2 (.slice qo O.length co) O.length (cellsRc O)
  words : Ws B wr lq WL
  below : Below w.heap.size w wr
theorem EmS.keep {l : Instrs} {each : Bool} {L : Strs} {w wr w1 : World} {qo : Option Addr} {co : Nat} {k : Nat} {O : Recs} {lq : Option Addr} {B : Nat} {WL : List (List UInt8)} (h : EmS l each L w wr qo co k O lq B WL) (hB : Below wr.heap.size wr w1) : EmS l each L w w1 qo co k O lq B WL :=
  ⟨h.ev, own_below h.own hB, ws_keep h.words hB, below_via h.below hB⟩
/-- The runs that the model has so far. -/
structure OutS (R : List Recs) (w wr : World) (q : Option Addr) (k cp : Nat) (XS : List Value) : Prop where
  own : wr.ownsRow w.heap.size 31 1 (.slice q k cp) k XS
  runs : ∀ i, i < k → ∃ p c, XS[i]? = some (.slice p (nAt R i) c) ∧ Rs w.heap.size wr p (R.getD i []) ∧ (p = none → nAt R i = 0 ∧ c = 0)
  below : Below w.heap.size w wr
theorem OutS.keep {R : List Recs} {w wr w1 : World} {q : Option Addr} {k cp : Nat} {XS : List Value} (h : OutS R w wr q k cp XS) (hB : Below wr.heap.size wr w1) : OutS R w w1 q k cp XS :=
  ⟨own_below h.own hB, fun i hi => by
    obtain ⟨p, c, e1, e2, e3⟩ := h.runs i hi
    exact ⟨p, c, e1, rs_keep e2 hB, e3⟩, below_via h.below hB⟩
theorem OutS.add {R : List Recs} {w wr w3 : World} {q q3 : Option Addr} {k cp c3 : Nat} {XS : List Value} (h : OutS R w wr q k cp XS) {o : Obj} {p : Option Addr} {c : Nat} (hr : Rs w.heap.size wr p (R.getD k [])) (hnil : p = none → nAt R k = 0 ∧ c = 0)
    (ho : w3.ownsRow w.heap.size 31 1 (.slice q3 (k + 1) c3) (k + 1) (XS ++ [.slice p (nAt R k) c])) (hg : (wr.alloc o).grownBy w3 (Value.slice q k cp).ownBlock) : OutS R w w3 q3 (k + 1) c3 (XS ++ [.slice p (nAt R k) c]) := by
  have ha := below_alloc (Below.refl wr.heap.size wr) o
  have hO := own_below h.own ha
  have hxl : XS.length = k := by have := h.own.1; omega
  refine ⟨ho, fun i hi => ?_, (below_via h.below ha).grown hg (Nat.le_trans h.below.size ha.size) (fun j hj => (h.own.lt j hj).1)⟩
  rcases Nat.lt_or_ge i k with hlt | hge
  · obtain ⟨p1, c1, e1, e2, e3⟩ := h.runs i hlt
    exact ⟨p1, c1, by rw [List.getElem?_append_left (by omega)]; exact e1, rs_apartT (rs_keep e2 ha) hO (by decide) hg, e3⟩
  · obtain rfl : i = k := by omega
    exact ⟨p, c, by rw [List.getElem?_append_right (by omega), hxl]; simp, rs_apartT (rs_keep hr ha) hO (by decide) hg, hnil⟩
theorem OutS.low {R : List Recs} {w wa wr : World} {q : Option Addr} {k cp : Nat} {XS : List Value} (h : OutS R wa wr q k cp XS) (hB : Below w.heap.size w wa) : OutS R w wr q k cp XS :=
  ⟨h.own.mono hB.size, fun i hi => by
    obtain ⟨p, c, e1, e2, e3⟩ := h.runs i hi
    exact ⟨p, c, e1, Rs.base e2 hB.size, e3⟩, below_via hB h.below⟩
theorem outS_nil (w w' : World) (hB : Below w.heap.size w w') : OutS [] w w' none 0 0 [] := ⟨World.ownsRow_nil _ _ _ _, fun i hi => by omega, hB⟩
theorem OutS.src {R : List Recs} {w wr : World} {q : Option Addr} {k cp : Nat} {XS : List Value} (h : OutS R w wr q k cp XS) (hk : 0 < k) : ∃ g, q = some ⟨g, 0, none⟩ ∧ g < wr.heap.size ∧ w.heap.size ≤ g ∧ k ≤ cp ∧ cp ≤ maxLen ∧ ∀ i, i < k → ∃ p c, wr.cell? ⟨g, i, none⟩ = some (.slice p (nAt R i) c) ∧ Rs w.heap.size wr p (R.getD i []) ∧ (p = none → nAt R i = 0 ∧ c = 0) := by
  rcases h.own.2 with ⟨_, h2⟩ | ⟨g, cap, cur, hv, hb, hh, h1, h2, h3, h4⟩
  · omega
  · have hlt : g < wr.heap.size := Row.lt (show Row wr g 31 cur from hh)
    simp only [Value.slice.injEq] at hv
    obtain ⟨rfl, _, rfl⟩ := hv
    refine ⟨g, rfl, hlt, hb, h1, h2, fun i hi => ?_⟩
    obtain ⟨p, c1, e1, e2, e3⟩ := h.runs i hi
    exact ⟨p, c1, by rw [h.own.cellAt i (by omega)]; exact e1, e2, e3⟩
/-- Short runs. -/
def ShortR (R : List Recs) : Prop := ∀ i, i < R.length → nAt R i ≤ 600 ∧ ∀ j, j < nAt R i → (keyAt (R.getD i []) j).size ≤ 40
theorem FewSS.short {R : List Recs} (h : FewSS R) : ShortR R := fun i hi => ⟨h.recs i hi, h.keys i hi⟩
theorem OutS.ls {R : List Recs} {w wr : World} {q : Option Addr} {k cp : Nat} {XS : List Value} (h : OutS R w wr q k cp XS) (hk : R.length = k) (hm : k ≤ maxLen) (hf : ShortR R) : RunLs wr q k R := by
  refine ⟨hk, hm, ?_⟩
  by_cases h0 : k = 0
  · exact .inl h0
  · obtain ⟨g, rfl, hlt, _, _, _, hc⟩ := h.src (by omega)
    refine .inr ⟨g, 0, rfl, hlt, fun i hi => ?_⟩
    obtain ⟨p, c, hx, hr, _⟩ := hc i hi
    exact ⟨p, nAt R i, c, by rw [Nat.zero_add]; exact hx, recs_of_rs hr rfl (by have := (hf i (by omega)).1; unfold maxLen; omega) (fun j hj => by have := (hf i (by omega)).2 j hj; unfold maxLen; omega)⟩
theorem OutS.ss {R : List Recs} {w wr : World} {q : Option Addr} {k cp : Nat} {XS : List Value} (h : OutS R w wr q k cp XS) (hk : R.length = k) (hf : ShortR R) : RunSs wr q k R := by
  refine ⟨hk, ?_⟩
  by_cases h0 : k = 0
  · exact .inl h0
  · obtain ⟨g, rfl, hlt, _, _, _, hc⟩ := h.src (by omega)
    refine .inr ⟨g, 0, rfl, hlt, fun i hi => ?_⟩
    obtain ⟨p, c, hx, hr, hz⟩ := hc i hi
    exact ⟨p, nAt R i, c, by rw [Nat.zero_add]; exact hx, recs_of_rs hr rfl (by have := (hf i (by omega)).1; unfold maxLen; omega) (fun j hj => by have := (hf i (by omega)).2 j hj; unfold maxLen; omega), hz⟩

/-- The end of the model's map task: its runs, as they read, and its code. -/
def MadeSO (o : List Recs × Int) (w : World) (e : Ending) (w' : World) : Prop :=
  ∃ q cp XS, e = .returned (.tuple #[.slice q o.1.length cp, .int .i64 o.2]) ∧ OutS o.1 w w' q o.1.length cp XS
theorem so_none {o : List Recs × Int} {c : Int} {w w' : World} (h : o = ([], c)) (hB : Below w.heap.size w w') : MadeSO o w (.returned (.tuple #[.slice none 0 0, .int .i64 c])) w' := by
  subst h; exact ⟨none, 0, [], rfl, outS_nil w w' hB⟩

set_option maxHeartbeats 8000000 in
theorem smapof_any (p s : Option Addr) (pl pc sl sc : Nat) (each : Bool) (op n1 : Int) (l : Instrs) (m : Strs) (t : Int) (w : World) (h : JobAt w p pl l s sl m) (hn : ∀ i, i < pl → In64 (ins1 l i)) (hsz : ∀ i, i < sl → (strAt m i).size ≤ 1048576) :
    Calls Tryd.prog 17 #[.agg #[.slice p pl pc, .bool each, .int .i64 op, .int .i64 n1, .slice s sl sc], .int .i64 t] w (MadeSO (mapJ l each op n1 m sl t) w) := by
  have hm := h.t.max
  unfold maxLen at hm
  obtain ⟨i0, hi, hz0, hz1, hz2⟩ := info_parts infoRecS
  have HN := Lib.hid (show ∀ i, i < l.length → In64 (ins1 l i) from fun i hi => hn i (by rw [← h.i.length]; exact hi))
  have HB0 := Lib.hid (below_alloc (Below.refl w.heap.size w) (.cells #[.slice p pl pc, .bool each, .int .i64 op, .int .i64 n1, .slice s sl sc] 38))
  have HX := Lib.hid (row_new w #[.slice p pl pc, .bool each, .int .i64 op, .int .i64 n1, .slice s sl sc] 38)
  have HS := Lib.hid (h.keep HB0.out)
  have HZ := Lib.hid hsz
  have HEV := Lib.hid (fun a s w (h : InstrsAt w a pl l) (hs : s.size ≤ 1048576) => sevalline_any a pl pc l each s w h hn hs)
  obtain ⟨W0, hW0⟩ : ∃ W0, w.alloc (.cells #[.slice p pl pc, .bool each, .int .i64 op, .int .i64 n1, .slice s sl sc] 38) = W0 := ⟨_, rfl⟩
  have HW0 := Lib.hid hW0
  rw [hW0] at HB0 HX HS
  obtain ⟨B0, hB0⟩ : ∃ B0, w.heap.size = B0 := ⟨_, rfl⟩
  rw [hB0] at HX
  obtain ⟨q0, hq0⟩ : ∃ q0, jobB l op n1 m sl = q0 := ⟨_, rfl⟩
  have HQ0 := Lib.hid hq0
  have HB := Lib.hid (Below.refl W0.heap.size W0)
  have x0 := HX.out.cell (j := 0) (by simp)
  have x1 := HX.out.cell (j := 1) (by simp)
  have x2 := HX.out.cell (j := 2) (by simp)
  have x3 := HX.out.cell (j := 3) (by simp)
  have x4 := HX.out.cell (j := 4) (by simp)
  simp at x0 x1 x2 x3 x4
  clear h hsz hW0 hq0 hn
  go_enter Tryd.func17, Tryd.ntmps17
  go_wp2_with fail
  rw [HW0.out]
  try rw [hB0]
  refine (sjobok_any p s pl pc sl sc each op n1 l m _ HS.out HZ.out).mono ?_
  rw [HQ0.out]
  rintro e w1 ⟨rfl, hB⟩
  have HB := Lib.hid (below_via HB.out hB)
  clear hB x0 x1 x2 x3 x4
  have HX1 := Lib.hid (HX.out.keep HB.out)
  have x3 := HX1.out.cell (j := 3) (by simp)
  have x4 := HX1.out.cell (j := 4) (by simp)
  simp at x3 x4
  cases q0 with
  | false =>
    have HC := Lib.hid (mapJ_no (each := each) (t := t) (show ¬ (jobB l op n1 m sl = true ∧ 0 ≤ t ∧ t < sl) from fun h => by rw [HQ0.out] at h; cases h.1))
    go_wp2
    go_ret2
    exact so_none HC.out (below_via HB0.out HB.out)
  | true =>
  go_wp2_with fail
  refine (l1in_any t 0 _ _).mono ?_
  obtain ⟨b, hb⟩ : ∃ b, inB t 0 ((sl : Int) - 1) = b := ⟨_, rfl⟩
  have HIN := Lib.hid hb
  rw [hb]
  rintro e w2 ⟨rfl, rfl⟩
  clear hb
  cases b with
  | false =>
    have HC := Lib.hid (mapJ_no (each := each) (t := t) (show ¬ (jobB l op n1 m sl = true ∧ 0 ≤ t ∧ t < sl) from fun h => by
      have h1 := HIN.out
      unfold inB at h1
      rw [decide_eq_false_iff_not] at h1
      omega))
    go_wp2
    go_ret2
    exact so_none HC.out (below_via HB0.out HB.out)
  | true =>
  have ht : 0 ≤ t ∧ t ≤ (sl : Int) - 1 := by have h1 := HIN.out; unfold inB at h1; exact of_decide_eq_true h1
  obtain ⟨tn, rfl⟩ : ∃ tn : Nat, t = (tn : Int) := ⟨t.toNat, by omega⟩
  have htn : tn < sl := by omega
  have HJP := Lib.hid (jobB_parts HQ0.out)
  have HM := Lib.hid (show mapJ l each op n1 m sl (tn : Int) = mapR l each op n1 (strAt m tn) from mapJ_yes HQ0.out (by omega) (by omega))
  have HS1 := Lib.hid (HS.out.keep HB.out)
  rcases HS1.out.t.src with hz | ⟨sb, off, rfl, hb, hc⟩
  · omega
  have c0 := hc tn htn
  have hts := HZ.out tn htn
  obtain ⟨x, hx⟩ : ∃ x, strAt m tn = x := ⟨_, rfl⟩
  rw [hx] at c0 hts HM
  clear hc hb hx HIN
  have ht1 : (tn : Int) < (sl : Int) := by omega
  have ht0 : (0 : Int) ≤ (tn : Int) := by omega
  go_wp2_with fail
  refine (slinesof_any x _ hts).mono ?_
  rintro e w3 ⟨lq, lc, rfl, hws, hB⟩
  have HSH := Lib.hid (lines_short x)
  have HFEW := Lib.hid (linesW_few x.data.toList)
  obtain ⟨WL, hWL⟩ : ∃ WL, linesW x.data.toList = WL := ⟨_, rfl⟩
  obtain ⟨wn, hwn⟩ : ∃ wn, WL.length = wn := ⟨_, rfl⟩
  obtain ⟨L, hL⟩ : ∃ L, strsOf WL = L := ⟨_, rfl⟩
  rw [hWL] at hws HSH HFEW
  have HLQ := Lib.hid (show strsOf (linesW x.data.toList) = L by rw [hWL, hL])
  rw [hWL]
  rw [hwn]
  have HWN := Lib.hid hwn
  have HLL := Lib.hid (show L.length = wn by rw [← hL, ← hwn]; simp [strsOf])
  have HLS := Lib.hid hL
  have hwn10 : wn ≤ 10 := by rw [← hwn]; exact HFEW.out.1
  have HB := Lib.hid (below_via HB.out hB)
  have HWQ := Lib.hid (fun h0 => ws_some hws h0)
  have HE0 := Lib.hid (show EmS l each L W0 (w3.alloc (.cells #[] 30)) (some ⟨w3.heap.size, 0, none⟩) 0 0 [] lq w1.heap.size WL from ⟨rfl, own_zeroRc (ot_row_new w3 #[] 30) HB.out.size, ws_keep hws (below_alloc (Below.refl _ _) _), below_alloc HB.out _⟩)
  clear hws hB hWL hwn hL x3 x4 c0 HS1 HX1
  go_wp2_with fail
  go_loopw [8, 9] (fun o i wr => ∃ (k no : Nat) (O : Recs) (qo : Option Addr) (co : Nat), k ≤ wn ∧ o = .slice qo no co ∧ i = .int .i64 k ∧ no ≤ 600 * k ∧ Hid (O.length = no) ∧ Hid (EmS l each L W0 wr qo co k O lq w1.heap.size WL)) (fun _ i _ => wn - (intOf i).toNat)
  case atStart => exact ⟨0, 0, [], _, _, Nat.zero_le _, rfl, rfl, Nat.le_refl _, Lib.hid rfl, HE0⟩
  case round =>
    clear HE0 HB
    obtain ⟨k, no, O, qo, co, hk, rfl, rfl, hno, HOL, HE⟩ := hrel
    have HX1 := Lib.hid (HX.out.keep HE.out.below)
    have x0 := HX1.out.cell (j := 0) (by simp)
    have x1 := HX1.out.cell (j := 1) (by simp)
    have x2 := HX1.out.cell (j := 2) (by simp)
    have x3 := HX1.out.cell (j := 3) (by simp)
    simp at x0 x1 x2 x3
    by_cases hlt : k < wn
    · obtain ⟨g, rfl, hg⟩ := HWQ.out (by rw [HWN.out]; omega)
      have hi0 : (0 : Int) ≤ (k : Int) := by omega
      have hi1 : (k : Int) < (wn : Int) := by omega
      have HSTR := Lib.hid (show StrsAt wr (some ⟨g, 0, none⟩) wn L from by have h1 := strs_of_ws HE.out.words HSH.out; rw [HWN.out, HLS.out] at h1; exact h1)
      rcases HSTR.out.src with hz | ⟨b2, off2, hq, hb2, hc2⟩
      · omega
      simp only [Option.some.injEq, Addr.mk.injEq, and_true] at hq
      obtain ⟨rfl, rfl⟩ := hq
      have ck := hc2 k hlt
      rw [Nat.zero_add] at ck
      clear hc2 hb2
      have HSZ := Lib.hid (show (strAt L k).size ≤ 1048576 from by
        have hk2 : k < WL.length := by rw [HWN.out]; exact hlt
        have h1 := HFEW.out.2 _ (List.getElem_mem hk2)
        rw [← HLS.out, strAt_of WL k hk2]
        show (WL[k].toArray).size ≤ 1048576
        rw [List.size_toArray]; omega)
      obtain ⟨y, hy⟩ : ∃ y, strAt L k = y := ⟨_, rfl⟩
      rw [hy] at ck HSZ
      obtain ⟨V, hV⟩ : ∃ V, (lineR l each (strAt L k)).1 = V := ⟨_, rfl⟩
      obtain ⟨c, hc⟩ : ∃ c, (lineR l each (strAt L k)).2 = c := ⟨_, rfl⟩
      have HRES := Lib.hid (show lineR l each (strAt L k) = (V, c) by rw [← hV, ← hc])
      have HRX := Lib.hid (show lineR l each y = (V, c) by rw [← hy]; exact HRES.out)
      have HF := Lib.hid (lineR_facts (each := each) (s := y) HN.out)
      rw [HRX.out] at HF
      clear hV hc hy x2 x3
      go_wp2_with fail
      refine wp_region_noPanic ?_
      obtain ⟨v0, hv0⟩ : ∃ x, wr.drew = x := ⟨_, rfl⟩
      have HE := Lib.hid (show EmS l each L W0 v0 qo co k O (some ⟨g, 0, none⟩) w1.heap.size WL by rw [← hv0]; exact HE.out.keep (below_drewN (Below.refl _ _) 1))
      have x0 := ((show Below wr.heap.size wr v0 by rw [← hv0]; exact below_drewN (Below.refl _ _) 1).cell (World.block_lt_of_cell? _ _ x0)).trans x0
      have x1 := ((show Below wr.heap.size wr v0 by rw [← hv0]; exact below_drewN (Below.refl _ _) 1).cell (World.block_lt_of_cell? _ _ x1)).trans x1
      have ck := ((show Below wr.heap.size wr v0 by rw [← hv0]; exact below_drewN (Below.refl _ _) 1).cell (World.block_lt_of_cell? _ _ ck)).trans ck
      refine wp_region_held_drew (S := (fun w' => Hid (Below W0.heap.size W0 w') ∧ w'.cell? ⟨B0, 0, none⟩ = some (.slice p pl pc) ∧ w'.cell? ⟨B0, 1, none⟩ = some (.bool each) ∧ w'.cell? ⟨g, k, none⟩ = some (.string y))) (by kernel_rfl) (by rw [hv0]; exact ⟨Lib.hid HE.out.below, x0, x1, ck⟩) (fun HS3 => ?_)
      rw [hv0] at HS3 ⊢
      clear hv0
      refine held_take (i := 0) (d := 45) (v := .pointer (some ⟨B0, 0, none⟩)) rfl rfl (by kernel_rfl) (by kernel_rfl) (by kernel_rfl) (by kernel_rfl) (fun wx hS => by go_simp) HS3 ?_
      refine held_take (i := 1) (d := 46) (v := .slice p pl pc) rfl rfl (by kernel_rfl) (by kernel_rfl) (by kernel_rfl) (by kernel_rfl) (fun wx hS => by obtain ⟨_, h0, h1, h2⟩ := hS; go_simp) HS3 ?_
      refine held_take (i := 2) (d := 47) (v := .pointer (some ⟨B0, 1, none⟩)) rfl rfl (by kernel_rfl) (by kernel_rfl) (by kernel_rfl) (by kernel_rfl) (fun wx hS => by go_simp) HS3 ?_
      refine held_take (i := 3) (d := 48) (v := .bool each) rfl rfl (by kernel_rfl) (by kernel_rfl) (by kernel_rfl) (by kernel_rfl) (fun wx hS => by obtain ⟨_, h0, h1, h2⟩ := hS; go_simp) HS3 ?_
      refine held_take (i := 4) (d := 49) (v := .slice (some ⟨g, 0, none⟩) wn lc) rfl rfl (by kernel_rfl) (by kernel_rfl) (by kernel_rfl) (by kernel_rfl) (fun wx hS => by go_simp) HS3 ?_
      refine held_take (i := 5) (d := 50) (v := .int .i64 (k : Int)) rfl rfl (by kernel_rfl) (by kernel_rfl) (by kernel_rfl) (by kernel_rfl) (fun wx hS => by go_simp) HS3 ?_
      refine held_take (i := 6) (d := 51) (v := .pointer (some ⟨g, k, none⟩)) rfl rfl (by kernel_rfl) (by kernel_rfl) (by kernel_rfl) (by kernel_rfl) (fun wx hS => by go_simp) HS3 ?_
      refine held_take (i := 7) (d := 52) (v := .string y) rfl rfl (by kernel_rfl) (by kernel_rfl) (by kernel_rfl) (by kernel_rfl) (fun wx hS => by obtain ⟨_, h0, h1, h2⟩ := hS; go_simp) HS3 ?_
      refine wpAnyH_ready (rs := [8]) (by kernel_rfl) (by simp) (AllReadyH.cons rfl (fun K hK => ?_) AllReadyH.nil)
      go_simp
      refine (HEV.out _ _ _ (HS.out.keep HE.out.below).i HSZ.out).mono ?_
      rw [HRX.out]
      rintro e w4 ⟨q, cp, rfl, hB, hkk, hq, hcp2⟩
      have HE := Lib.hid (HE.out.keep hB)
      have HS4 := (show (fun w' => Hid (Below W0.heap.size W0 w') ∧ w'.cell? ⟨B0, 0, none⟩ = some (.slice p pl pc) ∧ w'.cell? ⟨B0, 1, none⟩ = some (.bool each) ∧ w'.cell? ⟨g, k, none⟩ = some (.string y)) w4 from ⟨Lib.hid HE.out.below, (hB.cell (World.block_lt_of_cell? _ _ x0)).trans x0, (hB.cell (World.block_lt_of_cell? _ _ x1)).trans x1, (hB.cell (World.block_lt_of_cell? _ _ ck)).trans ck⟩)
      refine hK.out _ _ HS4 (fun HS3 => ?_)
      clear hK K HS4
      refine held_take (i := 9) (d := 44) (v := .tuple #[.slice q V.length cp, .int .i64 c]) rfl rfl (by kernel_rfl) (by kernel_rfl) (by kernel_rfl) (by kernel_rfl) (fun wx hS => by go_simp) HS3 ?_
      refine held_take (i := 10) (d := 54) (v := .slice q V.length cp) rfl rfl (by kernel_rfl) (by kernel_rfl) (by kernel_rfl) (by kernel_rfl) (fun wx hS => by go_simp) HS3 ?_
      refine held_take (i := 11) (d := 55) (v := .int .i64 c) rfl rfl (by kernel_rfl) (by kernel_rfl) (by kernel_rfl) (by kernel_rfl) (fun wx hS => by go_simp) HS3 ?_
      refine held_take (i := 12) (d := 10) (v := .slice q V.length cp) rfl rfl (by kernel_rfl) (by kernel_rfl) (by kernel_rfl) (by kernel_rfl) (fun wx hS => by go_simp) HS3 ?_
      refine held_take (i := 13) (d := 11) (v := .int .i64 c) rfl rfl (by kernel_rfl) (by kernel_rfl) (by kernel_rfl) (by kernel_rfl) (fun wx hS => by go_simp) HS3 ?_
      refine wpAnyH_done (by kernel_rfl) (NoPanic.normal ?_) _
      clear HS3
      obtain ⟨vn, hvn⟩ : ∃ vn, V.length = vn := ⟨_, rfl⟩
      have hv600 : vn ≤ 600 := by have := HF.out.1; omega
      have HV := Lib.hid (rck_recs hkk hvn HF.out.2.1 (by omega))
      simp only [hvn]
      have HQ := Lib.hid hq
      clear hB hkk hq hcp2 HF ck HSTR x0 x1 HX1
      by_cases hc0 : c = 0
      · have HNX := Lib.hid (emitTo_go HE.out.ev HRES.out hc0)
        subst hc0
        go_wp2_with (at_builtin; go_loud (refine append_rc rfl _ _ rfl W0.heap.size (.slice qo no co) no O rfl (by have := HE.out.own; rw [HOL.out] at this; exact this) q vn cp V rfl HV.out HQ.out (by omega) HE.out.below.size ?_); intro q5 c5 w5 hown hgrow; have HE5 := Lib.hid (show EmS l each L W0 w5 q5 c5 (k + 1) (O ++ V) (some ⟨g, 0, none⟩) w1.heap.size WL from ⟨HNX.out, by rw [List.length_append, HOL.out, HV.out.length]; exact hown, ws_apart HE.out.words HE.out.own (by decide) (by rw [HOL.out]; exact hgrow), HE.out.below.grown hgrow HE.out.below.size (fun j hj => (by have := HE.out.own; rw [HOL.out] at this; exact (this.lt j hj).1))⟩); clear hown hgrow)
        go_roundw
        case rel => exact ⟨k + 1, no + vn, O ++ V, q5, c5, by omega, rfl, by go_num, by omega, Lib.hid (by rw [List.length_append, HOL.out, HV.out.length]), HE5⟩
        case measure => simp [intOf]; omega
      · have HNX := Lib.hid (emitTo_stop HE.out.ev HRES.out hc0)
        have HFIN := Lib.hid (mapR_stop (op := op) (n1 := n1) (by rw [HLQ.out]; exact emitR_bad HLL.out (show emitTo l each L wn = ([], c) by rw [emitTo_bad (k := k + 1) (n := wn) (by rw [HNX.out]; exact hc0) (by omega), HNX.out]) hc0) hc0)
        have hz2 : (c == (0 : Int)) = false := by rw [beq_eq_false_iff_ne]; exact hc0
        have hz3 : (c != (0 : Int)) = true := by rw [bne_iff_ne]; exact hc0
        go_wp2
        go_ret2
        exact so_none (HM.out.trans HFIN.out) (below_via HB0.out HE.out.below)
    · obtain rfl : k = wn := by omega
      by_cases h600 : (600 : Int) < (no : Int)
      · have HFIN := Lib.hid (mapR_stop (op := op) (n1 := n1) (V := []) (c := 3) (by rw [HLQ.out]; exact emitR_many HLL.out HE.out.ev (by rw [HOL.out]; omega)) (by decide))
        go_wp2
        go_ret2
        exact so_none (HM.out.trans HFIN.out) (below_via HB0.out HE.out.below)
      · have HFIN := Lib.hid (mapR_go (op := op) (n1 := n1) (by rw [HLQ.out]; exact emitR_all HLL.out HE.out.ev (by rw [HOL.out]; omega)))
        have hno6 : no ≤ 600 := by omega
        have HFE := Lib.hid (emitTo_facts (each := each) L HN.out k)
        rw [HE.out.ev] at HFE
        have HAL := Lib.hid (rck_recs (rck_of_own (m := O.length) (cp := co) HE.out.own) HOL.out HFE.out.2.1 (by omega))
        have HMO := Lib.hid HFE.out.2.1
        have HB := Lib.hid HE.out.below
        have HBW := Lib.hid HE.out.below
        have hp1 := HJP.out.1
        have hp3 := HJP.out.2.1
        obtain ⟨N1, hN1⟩ : ∃ N1 : Nat, n1 = (N1 : Int) := ⟨n1.toNat, by omega⟩
        subst hN1
        have HR := Lib.hid (runsR_len op (N1 : Int) O N1)
        have HRF := Lib.hid (runsR_few (op := op) (n1 := (N1 : Int)) (V := O) (k := N1) (by omega))
        have HRA := Lib.hid (fun i (h : i < N1) => runsR_at (op := op) (n1 := (N1 : Int)) (V := O) (k := N1) h)
        rw [Int.toNat_natCast] at HFIN
        obtain ⟨R, hRR⟩ : ∃ R, runsR op (N1 : Int) O N1 = R := ⟨_, rfl⟩
        rw [hRR] at HR HRF HRA HFIN
        clear hRR HFE HX1 x0 x1 x2 HE
        obtain ⟨wa, rfl⟩ : ∃ x, x = wr := ⟨_, rfl⟩
        have HO0 := Lib.hid (show OutS R wa (wa.alloc (.cells #[] 31)) (some ⟨wa.heap.size, 0, none⟩) 0 0 [] from ⟨World.ownsRow_lit wa #[] 0 (Nat.le_refl _) (Nat.zero_le _) rfl, fun i hi => by omega, below_alloc (Below.refl _ _) _⟩)
        go_wp2_with fail
        go_loopw [12, 13] (fun o i wo => ∃ (k : Nat) (q : Option Addr) (cp : Nat) (XS : List Value), k ≤ N1 ∧ o = .slice q k cp ∧ i = .int .i64 k ∧ Hid (OutS R wa wo q k cp XS)) (fun _ i _ => N1 - (intOf i).toNat)
        case atStart => exact ⟨0, _, _, [], Nat.zero_le _, rfl, rfl, HO0⟩
        case round =>
          clear HO0
          obtain ⟨wo, rfl⟩ : ∃ x, x = wr := ⟨_, rfl⟩
          obtain ⟨kp, q, cp, XS, hkp, rfl, rfl, HO⟩ := hrel
          have HBO := Lib.hid (below_via HB.out HO.out.below)
          have HXO := Lib.hid (HX.out.keep HBO.out)
          have x3 := HXO.out.cell (j := 3) (by simp)
          simp at x3
          by_cases hlt : kp < N1
          · have hi1 : (kp : Int) < (N1 : Int) := by omega
            have HP0 := Lib.hid (show (wo.alloc (.cells #[] 30)).ownsRow wo.heap.size 30 2 (.slice (some ⟨wo.heap.size, 0, none⟩) 0 0) 0 (cellsRc (partL (O.take 0) (N1 : Int) (kp : Int))) ∧ Below wo.heap.size wo (wo.alloc (.cells #[] 30)) from ⟨own_zeroRc (ot_row_new wo #[] 30) (Nat.le_refl _), below_alloc (Below.refl _ _) _⟩)
            go_wp2_with fail
            clear x3
            go_loopw [14, 15] (fun o i wi => ∃ (k ns : Nat) (qs : Option Addr) (cs : Nat), k ≤ no ∧ o = .slice qs ns cs ∧ i = .int .i64 k ∧ ns ≤ k ∧ Hid ((partL (O.take k) (N1 : Int) (kp : Int)).length = ns) ∧ Hid (wi.ownsRow wo.heap.size 30 2 (.slice qs ns cs) ns (cellsRc (partL (O.take k) (N1 : Int) (kp : Int))) ∧ Below wo.heap.size wo wi)) (fun _ i _ => no - (intOf i).toNat)
            case atStart => exact ⟨0, 0, _, _, Nat.zero_le _, rfl, rfl, Nat.le_refl _, Lib.hid rfl, HP0⟩
            case round =>
              clear HP0
              obtain ⟨wi, rfl⟩ : ∃ x, x = wr := ⟨_, rfl⟩
              obtain ⟨kj, ns, qs, cs, hkj, rfl, rfl, hns, HSL, HP⟩ := hrel
              have HBI := Lib.hid (below_via HBO.out HP.out.2)
              have HXI := Lib.hid (HX.out.keep HBI.out)
              have x2 := HXI.out.cell (j := 2) (by simp)
              have x3 := HXI.out.cell (j := 3) (by simp)
              simp at x2 x3
              by_cases hlj : kj < no
              · rcases (HAL.out.keep (below_via HO.out.below HP.out.2)).src with hz | ⟨b, off, rfl, hb, hc⟩
                · omega
                obtain ⟨c0, c1⟩ := hc kj hlj
                have hi0 : (0 : Int) ≤ (kj : Int) := by omega
                have hij : (kj : Int) < (no : Int) := by omega
                have HKY := Lib.hid (HAL.out.keys kj hlj)
                have HKV := Lib.hid (show kj < O.length by rw [HOL.out]; exact hlj)
                obtain ⟨y, hy⟩ : ∃ y, keyAt O kj = y := ⟨_, rfl⟩
                obtain ⟨z, hz⟩ : ∃ z, numAt O kj = z := ⟨_, rfl⟩
                rw [hy] at c0 HKY
                rw [hz] at c1
                have HY := Lib.hid hy
                have HZZ := Lib.hid hz
                clear hc hb hy hz x2
                go_wp2_with fail
                refine wp_region_noPanic ?_
                obtain ⟨v0, hv0⟩ : ∃ x, wi.drew = x := ⟨_, rfl⟩
                have hD : Below wi.heap.size wi v0 := by rw [← hv0]; exact below_drewN (Below.refl _ _) 1
                have HP := Lib.hid (show v0.ownsRow wo.heap.size 30 2 (.slice qs ns cs) ns (cellsRc (partL (O.take kj) (N1 : Int) (kp : Int))) ∧ Below wo.heap.size wo v0 from ⟨own_below HP.out.1 hD, below_via HP.out.2 hD⟩)
                have x3 := (hD.cell (World.block_lt_of_cell? _ _ x3)).trans x3
                have c0 := (hD.cell (World.block_lt_of_cell? _ _ c0)).trans c0
                have c1 := (hD.cell (World.block_lt_of_cell? _ _ c1)).trans c1
                refine wp_region_held_drew (S := (fun w' => Hid (Below wo.heap.size wo w') ∧ w'.cell? ⟨B0, 3, none⟩ = some (.int .i64 (N1 : Int)) ∧ w'.cell? ⟨b, off + kj * 2, none⟩ = some (.string y))) (by kernel_rfl) (by rw [hv0]; exact ⟨Lib.hid HP.out.2, x3, c0⟩) (fun HS3 => ?_)
                rw [hv0] at HS3 ⊢
                clear hv0 hD
                refine held_take (i := 0) (d := 79) (v := .slice (some ⟨b, off, none⟩) no co) rfl rfl (by kernel_rfl) (by kernel_rfl) (by kernel_rfl) (by kernel_rfl) (fun wx hS => by go_simp) HS3 ?_
                refine held_take (i := 1) (d := 80) (v := .int .i64 (kj : Int)) rfl rfl (by kernel_rfl) (by kernel_rfl) (by kernel_rfl) (by kernel_rfl) (fun wx hS => by go_simp) HS3 ?_
                refine held_take (i := 2) (d := 81) (v := .pointer (some ⟨b, off + kj * 2, none⟩)) rfl rfl (by kernel_rfl) (by kernel_rfl) (by kernel_rfl) (by kernel_rfl) (fun wx hS => by go_simp) HS3 ?_
                refine held_take (i := 3) (d := 82) (v := .pointer (some ⟨b, off + kj * 2, none⟩)) rfl rfl (by kernel_rfl) (by kernel_rfl) (by kernel_rfl) (by kernel_rfl) (fun wx hS => by go_simp) HS3 ?_
                refine held_take (i := 4) (d := 83) (v := .string y) rfl rfl (by kernel_rfl) (by kernel_rfl) (by kernel_rfl) (by kernel_rfl) (fun wx hS => by obtain ⟨_, h0, h1⟩ := hS; go_simp) HS3 ?_
                refine held_take (i := 5) (d := 84) (v := .pointer (some ⟨B0, 3, none⟩)) rfl rfl (by kernel_rfl) (by kernel_rfl) (by kernel_rfl) (by kernel_rfl) (fun wx hS => by go_simp) HS3 ?_
                refine held_take (i := 6) (d := 85) (v := .int .i64 (N1 : Int)) rfl rfl (by kernel_rfl) (by kernel_rfl) (by kernel_rfl) (by kernel_rfl) (fun wx hS => by obtain ⟨_, h0, h1⟩ := hS; go_simp) HS3 ?_
                refine held_take (i := 8) (d := 87) (v := .int .i64 (kp : Int)) rfl rfl (by kernel_rfl) (by kernel_rfl) (by kernel_rfl) (by kernel_rfl) (fun wx hS => by go_simp) HS3 ?_
                refine wpAnyH_ready (rs := [7]) (by kernel_rfl) (by simp) (AllReadyH.cons rfl (fun K hK => ?_) AllReadyH.nil)
                go_simp
                refine (spart_any y (N1 : Int) _ HKY.out).mono ?_
                rintro e w5 ⟨rfl, rfl⟩
                obtain ⟨v, hv⟩ : ∃ v, partN y (N1 : Int) = v := ⟨_, rfl⟩
                rw [hv]
                refine hK.out _ _ HS3 (fun HS3 => ?_)
                clear hK K
                refine held_take (i := 9) (d := 88) (v := .bool (v == (kp : Int))) rfl rfl (by kernel_rfl) (by kernel_rfl) (by kernel_rfl) (by kernel_rfl) (fun wx hS => by go_simp) HS3 ?_
                refine wpAnyH_done (by kernel_rfl) (NoPanic.normal ?_) _
                clear HS3
                by_cases hp : v = (kp : Int)
                · have HNX := Lib.hid (partL_in HKV.out (n := (N1 : Int)) (p := (kp : Int)) (by rw [HY.out, hv]; exact hp))
                  rw [HY.out, HZZ.out] at HNX
                  have hpp : (v == (kp : Int)) = true := by rw [hp]; simp
                  clear hv x3
                  go_wp2_with (at_builtin; go_loud (refine append1_rc rfl _ _ rfl wo.heap.size (.slice qs ns cs) ns _ rfl (own_below HP.out.1 (below_alloc (Below.refl _ _) _)) _ _ y z rfl (rc_new _ y z 30) (by omega) (Nat.le_trans HP.out.2.size (by simp)) ?_); intro q6 c6 w6 hown hgrow; have HP6 := Lib.hid (show w6.ownsRow wo.heap.size 30 2 (.slice q6 (ns + 1) c6) (ns + 1) (cellsRc (partL (O.take (kj + 1)) (N1 : Int) (kp : Int))) ∧ Below wo.heap.size wo w6 from ⟨by rw [HNX.out]; exact hown, (below_alloc HP.out.2 _).grown hgrow (Nat.le_trans HP.out.2.size (by simp)) (fun j hj => (HP.out.1.lt j hj).1)⟩); clear hown hgrow)
                  go_roundw
                  case rel => exact ⟨kj + 1, ns + 1, q6, c6, by omega, rfl, by go_num, by omega, Lib.hid (by rw [HNX.out, List.length_append, HSL.out]; rfl), HP6⟩
                  case measure => simp [intOf]; omega
                · have HNX := Lib.hid (partL_out HKV.out (n := (N1 : Int)) (p := (kp : Int)) (by rw [HY.out, hv]; exact hp))
                  have hpp : (v == (kp : Int)) = false := by rw [beq_eq_false_iff_ne]; exact hp
                  clear hv x3
                  go_wp2
                  go_roundw
                  case rel => exact ⟨kj + 1, ns, qs, cs, by omega, rfl, by go_num, by omega, Lib.hid (by rw [HNX.out]; exact HSL.out), Lib.hid (by rw [HNX.out]; exact HP.out)⟩
                  case measure => simp [intOf]; omega
              · obtain rfl : kj = no := by omega
                have HALL := Lib.hid (show O.take kj = O by rw [← HOL.out]; exact List.take_length)
                rw [HALL.out] at HSL HP
                obtain ⟨PV, hPV⟩ : ∃ PV, partL O (N1 : Int) (kp : Int) = PV := ⟨_, rfl⟩
                have HPA := Lib.hid (HRA.out kp hlt)
                have HMEM := Lib.hid (show ∀ r ∈ PV, r.1.size ≤ 40 ∧ In64 r.2 from fun r hr => by
                  rw [← hPV] at hr
                  exact HMO.out r (partL_mem hr))
                rw [hPV] at HSL HP
                have HOFR := Lib.hid (show ofR op (N1 : Int) O kp = combW op (liftW op PV) by unfold ofR; rw [hPV])
                rw [HOFR.out] at HPA
                have HPR := Lib.hid (rck_recs (rck_of_own (m := ns) (cp := cs) (by have := HP.out.1; rw [← HSL.out] at this ⊢; exact this)) HSL.out HMEM.out (by omega))
                have HO := Lib.hid (HO.out.keep HP.out.2)
                have HPN := Lib.hid (own_qcap (by have := HP.out.1; exact this))
                have HPF := Lib.hid (show qs = none ∨ ∃ g, qs = some ⟨g, 0, none⟩ from by
                  rcases HP.out.1.2 with ⟨h1, h2⟩ | ⟨g, cap, cur, hv, _⟩
                  · simp only [Value.slice.injEq] at h1; exact .inl h1.1
                  · simp only [Value.slice.injEq] at hv; exact .inr ⟨g, hv.1⟩)
                clear hPV HALL HOFR HP x3 HXI HXO HBO
                have HBR := Lib.hid HBI.out.drew
                go_wp2_with fail
                refine wp_region_noPanic ?_
                obtain ⟨v0, hv0⟩ : ∃ x, wi.drew = x := ⟨_, rfl⟩
                have HO := Lib.hid (show OutS R wa v0 q kp cp XS by rw [← hv0]; exact HO.out.keep (below_drewN (Below.refl _ _) 1))
                have HPR := Lib.hid (show RecsAt v0 qs ns PV by rw [← hv0]; exact HPR.out.keep (below_drewN (Below.refl _ _) 1))
                have x2 : v0.cell? ⟨B0, 2, none⟩ = some (.int .i64 op) := by rw [← hv0]; exact x2
                refine wp_region_held_drew (S := (fun w' => Hid (Below W0.heap.size W0 w') ∧ w'.cell? ⟨B0, 2, none⟩ = some (.int .i64 op))) (by kernel_rfl) (by rw [hv0]; exact ⟨Lib.hid (by rw [← hv0]; exact HBR.out), x2⟩) (fun HS => ?_)
                rw [hv0] at HS ⊢
                clear hv0
                refine held_take (i := 0) (d := 96) (v := .slice q kp cp) rfl rfl (by kernel_rfl) (by kernel_rfl) (by kernel_rfl) (by kernel_rfl) (fun wx hS => by go_simp) HS ?_
                refine held_take (i := 1) (d := 97) (v := .pointer (some ⟨B0, 2, none⟩)) rfl rfl (by kernel_rfl) (by kernel_rfl) (by kernel_rfl) (by kernel_rfl) (fun wx hS => by go_simp) HS ?_
                refine held_take (i := 2) (d := 98) (v := .int .i64 op) rfl rfl (by kernel_rfl) (by kernel_rfl) (by kernel_rfl) (by kernel_rfl) (fun wx hS => by have h2 := hS.2; go_simp) HS ?_
                refine held_take (i := 3) (d := 99) (v := .pointer (some ⟨B0, 2, none⟩)) rfl rfl (by kernel_rfl) (by kernel_rfl) (by kernel_rfl) (by kernel_rfl) (fun wx hS => by go_simp) HS ?_
                refine held_take (i := 4) (d := 100) (v := .int .i64 op) rfl rfl (by kernel_rfl) (by kernel_rfl) (by kernel_rfl) (by kernel_rfl) (fun wx hS => by have h2 := hS.2; go_simp) HS ?_
                refine held_take (i := 5) (d := 101) (v := .slice qs ns cs) rfl rfl (by kernel_rfl) (by kernel_rfl) (by kernel_rfl) (by kernel_rfl) (fun wx hS => by go_simp) HS ?_
                refine wpAnyH_ready (rs := [6]) (by kernel_rfl) (by simp) (AllReadyH.cons rfl (fun K hK => ?_) AllReadyH.nil)
                go_simp
                refine (slifted_q op qs ns cs PV _ HPR.out HPF.out HPN.out.1).mono ?_
                rintro e w7 ⟨q7, c7, rfl, hr7, hB⟩
                obtain ⟨n7, hn7⟩ : ∃ n7, (liftW op PV).length = n7 := ⟨_, rfl⟩
                have HR7 := Lib.hid (recs_lift hr7 hn7)
                rw [hn7]
                have HO := Lib.hid (HO.out.keep hB)
                have x7 : w7.cell? ⟨B0, 2, none⟩ = some (.int .i64 op) := (hB.cell (p := ⟨B0, 2, none⟩) (World.block_lt_of_cell? _ _ x2)).trans x2
                have HB7 := Lib.hid (below_via HS.1.out hB)
                clear hB hr7 hn7 HPR HMEM x2
                refine hK.out _ _ ⟨HB7, x7⟩ (fun HS => ?_)
                clear hK K
                refine wpAnyH_ready (rs := [7]) (by kernel_rfl) (by simp) (AllReadyH.cons rfl (fun K hK => ?_) AllReadyH.nil)
                go_simp
                refine (scombined_any op q7 n7 c7 _ _ HR7.out).mono ?_
                rintro e w8 ⟨q8, c8, rfl, hr8, hB, hc8, hc8m, hq8⟩
                have HQ8P := Lib.hid (show q8 = none → (combW op (liftW op PV)).length = 0 ∧ c8 = 0 from fun h0 => ⟨by have := hq8 h0; omega, hq8 h0⟩)
                have HO7 := HO
                have HO := Lib.hid (HO.out.keep hB)
                have HRS := Lib.hid (show Rs wa.heap.size w8 q8 (R.getD kp []) from by rw [HPA.out]; exact Rs.base hr8 (Nat.le_trans HO7.out.below.size (Nat.le_refl _)))
                have HNA := Lib.hid (show (combW op (liftW op PV)).length = nAt R kp by unfold nAt; rw [HPA.out])
                have x8 : w8.cell? ⟨B0, 2, none⟩ = some (.int .i64 op) := (hB.cell (p := ⟨B0, 2, none⟩) (World.block_lt_of_cell? _ _ x7)).trans x7
                have HB8 := Lib.hid (below_via HS.1.out hB)
                rw [HNA.out]
                clear hB hr8 x7
                obtain ⟨n8, hn8⟩ : ∃ n8, nAt R kp = n8 := ⟨_, rfl⟩
                have HN8 := Lib.hid hn8
                have HQ8 := Lib.hid (show q8 = none → n8 = 0 ∧ c8 = 0 from by rw [← hn8, ← HNA.out]; exact HQ8P.out)
                rw [hn8]
                refine hK.out _ _ ⟨HB8, x8⟩ (fun HS => ?_)
                clear hK K
                refine wpAnyH_ready (rs := [8]) (by kernel_rfl) (by simp) (AllReadyH.cons rfl (fun K hK => ?_) AllReadyH.nil)
                go_simp
                refine hK.out _ _ ⟨Lib.hid (below_alloc HS.1.out _), ((below_alloc (Below.refl _ _) _).cell (p := ⟨B0, 2, none⟩) (World.block_lt_of_cell? _ _ x8)).trans x8⟩ (fun HS => ?_)
                clear hK K
                refine wpAnyH_ready (rs := [9]) (by kernel_rfl) (by simp) (AllReadyH.cons rfl (fun K hK => ?_) AllReadyH.nil)
                refine step_append_lies _ rfl (.tmp 96) (.tmp 104) 24 rfl wa.heap.size 31 i0 _ 1 24 Tryd.underlying24 hi hz0 hz1 hz2 rfl (by decide) (.slice q kp cp) kp _ rfl (HO.out.own.alloc _) ⟨w8.heap.size, 0, none⟩ 1 1 [.slice q8 n8 c8] rfl rfl (one_new _ _ _) (fun u hu => by simp at hu; subst hu; rfl) (by decide) (by unfold maxLen; omega) (by omega) (Nat.le_trans HO.out.below.size (by simp)) _ rfl ?_
                intro g9 c9 w9 hown hgrow hat hlt9
                have HO9 := Lib.hid (OutS.add (c := c8) HO.out HRS.out (by rw [HN8.out]; exact HQ8.out) (by rw [HN8.out]; exact hown) hgrow)
                rw [HN8.out] at HO9
                have HB9 := Lib.hid (HS.1.out.grown hgrow HS.1.out.size (fun j hj => Nat.le_trans HBW.out.size (HO.out.own.lt j hj).1))
                have x9 : w9.cell? ⟨B0, 2, none⟩ = some (.int .i64 op) := by
                  have h1 := (HX.out.keep HB9.out).cell (j := 2) (by simp)
                  simpa using h1
                clear hown hgrow hat hlt9
                refine hK.out _ _ ⟨HB9, x9⟩ (fun HS => ?_)
                clear hK K
                refine held_take (i := 10) (d := 12) (v := .slice (some ⟨g9, 0, none⟩) (kp + 1) c9) rfl rfl (by kernel_rfl) (by kernel_rfl) (by kernel_rfl) (by kernel_rfl) (fun wx hS => by go_simp) HS ?_
                refine wpAnyH_done (by kernel_rfl) (NoPanic.normal ?_) _
                go_wp2
                go_roundw
                case rel => exact ⟨kp + 1, _, c9, _, by omega, rfl, by go_num, HO9⟩
                case measure => simp [intOf]; omega
          · obtain rfl : kp = N1 := by omega
            have HFS := Lib.hid (HO.out.low (below_via HB0.out HBW.out))
            go_wp2
            go_ret2
            rw [HM.out, HFIN.out]
            exact ⟨q, cp, XS, by rw [HR.out]; rfl, by rw [HR.out]; exact HFS.out⟩
end Go.Proofs.YtjofbeokkainlaaDoor
