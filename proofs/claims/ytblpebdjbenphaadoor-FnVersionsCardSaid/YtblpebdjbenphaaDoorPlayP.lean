
/- The program's StorePlayed on commands that may be read. Only new blocks are made. -/
import Derived.Test.YtblpebdjbenphaaDoorMg14
import Derived.Test.YtblpebdjbenphaaDoorPfd
import Derived.Test.YtblpebdjbenphaaDoorMg15
namespace Go.Proofs.YtblpebdjbenphaaDoor
open Go.ChangeShapes Go.WideShapes Go.ChangeAt Go.RowKit
set_option linter.unusedVariables false
set_option maxRecDepth 100000

def MadeQ (E : Els) (cs : List Int) (w : World) (e : Ending) (w' : World) : Prop :=
  ∃ q1 n1 c1 q2 n2 c2 qc nc cc, e = .returned (.tuple #[.agg #[.slice q1 n1 c1, .slice q2 n2 c2], .slice qc nc cc]) ∧ Below w.heap.size w w' ∧ NumK w.heap.size w' qc cs ∧ cs.length = nc ∧ ∃ mid, w.heap.size ≤ mid ∧ StoK mid w' q1 n1 c1 q2 n2 c2 (objsOf E) (gonsOf E) ∧ ∀ g, qc = some ⟨g, 0, none⟩ → w.heap.size ≤ g ∧ g < mid
def LaidN (cur : Array Value) (cs : List Int) (k : Nat) : Prop := ∀ j, j < k → cur[j]? = some (.int .i64 (numAt cs j))
theorem LaidN.step {cur : Array Value} {cs : List Int} {k : Nat} {c : Int} (h : LaidN cur cs k) (hc : cs.length = k) (hk : k < cur.size) : LaidN (cur.setIfInBounds k (.int .i64 c)) (cs ++ [c]) (k + 1) := by
  intro j hj
  rcases Nat.lt_or_ge j k with hlt | hge
  · rw [Array.getElem?_setIfInBounds_ne (by omega), h j hlt]
    unfold numAt
    rw [List.getD_eq_getElem?_getD, List.getD_eq_getElem?_getD, List.getElem?_append_left (by omega)]
  · obtain rfl : j = k := by omega
    unfold numAt
    rw [List.getD_eq_getElem?_getD, List.getElem?_append_right (by omega), hc]
    simp [hk]
theorem codes_apart {base : Nat} {w : World} {B b n M : Nat} {q : Option Addr} {cp : Nat} {lk : Int} {E : Els} {cur : Array Value} (h : ObAt base w B b n q cp lk E) (r : Row w M 2 cur) : M ≠ B ∧ M ≠ b ∧ ∀ a, q = some a → a.block ≠ M := by
  refine ⟨fun he => ?_, fun he => map_ne_row h.map r he.symm, fun a ha he => ?_⟩
  · subst he
    have h1 := h.row
    unfold Row at h1 r
    rw [r] at h1
    simp only [Option.some.injEq, Obj.cells.injEq] at h1
    exact absurd h1.2.1 (by decide)
  · subst ha
    exact own_ne_row h.keys r (by decide) a.block rfl he.symm

set_option maxHeartbeats 8000000 in
theorem played_any (a : Option Addr) (len cap : Nat) (l : Cmds) (A : ErrA) (w : World) (h : CmdsAt w a len l) (hA : TabsEA A w) (hlen : len ≤ 1048576) :
    Calls Tryd.prog 20 #[.slice a len cap] w (MadeQ (playE l len).1 (playE l len).2 w) := by
  have HC := Lib.hid h
  have HL0 := Lib.hid (Low.of hA)
  have HB0 := Lib.hid (below_alloc (Below.refl w.heap.size w) (.cells #[.slice none 0 0, .slice none 0 0] 27))
  have HR0 := Lib.hid (row_new w #[.slice none 0 0, .slice none 0 0] 27)
  clear h hA
  by_cases hbig : 200 < len
  · have hi : (200 : Int) < (len : Int) := by omega
    have HF := Lib.hid (show MadeQ (playE l len).1 (playE l len).2 w (.returned (.tuple #[.agg #[.slice none 0 0, .slice none 0 0], .slice none 0 0])) (w.alloc (.cells #[.slice none 0 0, .slice none 0 0] 27)) by
      unfold playE
      rw [if_pos hbig]
      exact ⟨none, 0, 0, none, 0, 0, none, 0, 0, rfl, HB0.out, .inl rfl, rfl, _, Nat.le_refl _, StoK.nil _ _, fun g hg => by cases hg⟩)
    go_enter Tryd.func20, Tryd.ntmps20
    go_wp2
    exact bodyPost_ret (v := .tuple #[.agg #[.slice none 0 0, .slice none 0 0], .slice none 0 0]) (by simp [results, Tryd.results20, go_sem]) rfl HF.out
  · have hi : ¬ (200 : Int) < (len : Int) := by omega
    obtain ⟨i0, hi0, hz0, hz1, hz2⟩ := info_parts infoNum
    have hsn : StoAt (w.alloc (.cells #[.slice none 0 0, .slice none 0 0] 27)) none 0 [] none 0 [] := (StoK.nil 0 _).sto (stop_of_ep ep_nil)
    go_enter Tryd.func20, Tryd.ntmps20
    go_wp2_with fail
    refine (objectsof_any none none 0 0 0 0 [] [] _ hsn (stop_of_ep ep_nil)).mono ?_
    rintro e w2 ⟨B, b, n, q, cp, rfl, hOb, hn, hB⟩
    have HOb := Lib.hid (show ObAt (w.heap.size + 1) w2 B b n q cp 0 [] by rw [show elsOf [] [] = [] by simp [elsOf]] at hOb; simpa using hOb)
    have HB2 := Lib.hid (below_via HB0.out hB)
    have HR2 := Lib.hid (HR0.out.keep hB)
    have HW2 := Lib.hid (show w.heap.size + 1 ≤ w2.heap.size from HR2.out.lt)
    have HL2 := Lib.hid ((HL0.out.keep HB2.out).up (Nat.le_succ _))
    clear hOb hB hsn
    go_wp2_with (at_make; refine wpList_make_full _ rfl _ _ 44 rfl w2.heap.size 2 i0 _ 1 Tryd.underlying44 hi0 hz0 hz1 .i64 .i64 _ _ len rfl rfl rfl rfl (by rw [hz2]; omega) (by unfold maxLen; omega) (Nat.le_refl _) ?_; intro w3 hown hgrow)
    obtain ⟨cur0, hrow0, hsz0⟩ : ∃ cur, Row w3 w2.heap.size 2 cur ∧ cur.size = len := by
      rcases hown.2 with ⟨h, _⟩ | ⟨g, cp, cur, hv, _, hh, _, _, hs, _⟩
      · simp at h
      · simp only [Value.slice.injEq, Option.some.injEq, Addr.mk.injEq, true_and, and_true] at hv
        obtain ⟨rfl, rfl⟩ := hv
        exact ⟨cur, hh, by omega⟩
    have HB3 := Lib.hid ((Below.refl w2.heap.size w2).grown hgrow (Nat.le_refl _) (by simp))
    have HST := Lib.hid (And.intro (HOb.out.keep HB3.out) (And.intro hn (And.intro hrow0 (And.intro hsz0 (And.intro (show LaidN cur0 (playK l 0).2 0 from fun j hj => by omega) (And.intro (below_via HB2.out HB3.out) (And.intro (HR2.out.keep HB3.out) (HL2.out.below HW2.out HB3.out))))))))
    have HM := Lib.hid HW2.out
    obtain ⟨M, hM⟩ : ∃ M, w2.heap.size = M := ⟨_, rfl⟩
    rw [hM] at HST HM ⊢
    clear hown hgrow hrow0 hsz0 HB3 hM HOb HB2 HR2 HW2 HL2 HB0 HR0
    go_loopw [21] (fun i wr => ∃ k : Nat, k ≤ len ∧ i = .int .i64 k ∧ ∃ n q cp cur, Hid (ObAt (w.heap.size + 1) wr B b n q cp 0 (playK l k).1 ∧ n ≤ 1100 + k ∧ Row wr M 2 cur ∧ cur.size = len ∧ LaidN cur (playK l k).2 k ∧ Below w.heap.size w wr ∧ Row wr w.heap.size 27 #[.slice none 0 0, .slice none 0 0] ∧ Low (w.heap.size + 1) A wr)) (fun i _ => len - (intOf i).toNat)
    case atStart => exact ⟨0, Nat.zero_le _, rfl, n, q, cp, cur0, HST.out⟩
    case round =>
      obtain ⟨k, hk, rfl, n, q, cp, cur, HW⟩ := hrel
      clear HST
      by_cases hlt : k < len
      · have hi1 : (k : Int) < (len : Int) := by omega
        have hi2 : (0 : Int) ≤ (k : Int) := by omega
        rcases HC.out.src with hz | ⟨bb, off, rfl, hb, hc⟩
        · omega
        · obtain ⟨hc0, hc1, hc2, hc3⟩ := hc k hlt
          have HKY := Lib.hid (HC.out.keys k hlt)
          obtain ⟨hO, hn', hCu, hCs, hLa, hBw, hRs, hLw⟩ := HW.out
          have hPE := play_ep l k
          have hPL := play_len l k
          obtain ⟨kd, hkd⟩ : ∃ x, cmd0 l k = x := ⟨_, rfl⟩
          obtain ⟨ky, hky⟩ : ∃ x, cmd1 l k = x := ⟨_, rfl⟩
          obtain ⟨vr, hvr⟩ : ∃ x, cmd2 l k = x := ⟨_, rfl⟩
          obtain ⟨dt, hdt⟩ : ∃ x, cmd3 l k = x := ⟨_, rfl⟩
          obtain ⟨E, hE⟩ : ∃ x, (playK l k).1 = x := ⟨_, rfl⟩
          obtain ⟨cs, hcs⟩ : ∃ x, (playK l k).2 = x := ⟨_, rfl⟩
          obtain ⟨R, hR⟩ : ∃ R, performE kd ky vr dt E = R := ⟨_, rfl⟩
          have HNX := Lib.hid (show playK l (k + 1) = (R.1, cs ++ [R.2.2]) by rw [← hR, ← hE, ← hcs, ← hkd, ← hky, ← hvr, ← hdt]; rfl)
          have HCO := Lib.hid (show CodeOk R.2.2 by rw [← hR]; exact (perf_code _ _ _ _ _).1)
          rw [hkd] at hc0
          rw [hky] at hc1 HKY
          rw [hvr] at hc2
          rw [hdt] at hc3 HKY
          rw [hE] at hO hPE
          rw [hcs] at hLa hPL
          have HRR := Lib.hid hR
          have x0 := (hBw.cell (p := ⟨bb, off + k * 4, none⟩) hb).trans hc0
          have x1 := (hBw.cell (p := ⟨bb, off + k * 4 + 1, none⟩) hb).trans hc1
          have x2 := (hBw.cell (p := ⟨bb, off + k * 4 + 2, none⟩) hb).trans hc2
          have x3 := (hBw.cell (p := ⟨bb, off + k * 4 + 3, none⟩) hb).trans hc3
          have al := below_alloc (Below.refl wr.heap.size wr) (.cells #[.int .i64 kd, .string ky, .int .i64 vr, .string dt] 49)
          have HO := Lib.hid (hO.keep al)
          have HCu := Lib.hid (hCu.keep al)
          have HBw := Lib.hid (below_via hBw al)
          have HRs := Lib.hid (hRs.keep al)
          have HLw := Lib.hid (hLw.below hO.base al)
          have HCs := Lib.hid hCs
          have HLa := Lib.hid hLa
          have HPE := Lib.hid hPE
          have HPL := Lib.hid hPL
          clear al hc hc0 hc1 hc2 hc3 hkd hky hvr hdt hE hcs hR hb hO hCu hCs hLa hBw hRs hLw hPE hPL HW
          go_wp2_with fail
          refine (perform_any (w.heap.size + 1) B b n cp q E A kd ky vr dt _ HO.out HLw.out HPE.out HKY.out.1 HKY.out.2 (by omega)).mono ?_
          rw [HRR.out]
          rintro e w5 ⟨rfl, hT, n2, q2, cp2, hn2, hO2⟩
          have hge := fun a ha => (keys_ge HO.out.keys a ha).1
          obtain ⟨m1, m2, m3⟩ := codes_apart HO.out HCu.out
          have hC5 := hT.row HCu.out m1 m2 m3
          have HC5 := Lib.hid hC5
          have HB5 := Lib.hid (hT.low HBw.out (HBw.out.size) (by have := HO.out.geB; omega) (by have := HO.out.geb; omega) (fun a ha => by have := hge a ha; omega))
          have HR5 := Lib.hid (hT.row HRs.out (by have := HO.out.geB; omega) (by have := HO.out.geb; omega) (fun a ha => by have := hge a ha; omega))
          have HL5 := Lib.hid (HLw.out.turn hT HO.out.base HO.out.geB HO.out.geb hge)
          have HO5 := Lib.hid hO2
          obtain ⟨y0, hA0⟩ : ∃ y, w5.cell? ⟨M, k, none⟩ = some y := ⟨_, hC5.cell (j := k) (by rw [HCs.out]; exact hlt)⟩
          have hf0 := hC5.free k
          clear hT hO2 hge m1 m2 m3 hC5 x0 x1 x2 x3 HO HCu HBw HRs HLw
          go_wp2_with fail
          refine (codeof_any A R.2.2 _ HL5.out.tab HCO.out).mono ?_
          rintro e w6 ⟨rfl, rfl⟩
          obtain ⟨m1, m2, m3⟩ := codes_apart HO5.out HC5.out
          have HO6 := Lib.hid (HO5.out.putX m1 m2 (fun a ha he => m3 a ha he.symm) k (.int .i64 R.2.2))
          have HC6 := Lib.hid (HC5.out.set k (.int .i64 R.2.2))
          have HB6 := Lib.hid (HB5.out.setCell (show w.heap.size ≤ M by have := HM.out; omega) (p := ⟨M, k, none⟩) (.int .i64 R.2.2))
          have HR6 := Lib.hid (show Row (w6.setCell ⟨M, k, none⟩ (.int .i64 R.2.2)) w.heap.size 27 #[.slice none 0 0, .slice none 0 0] from (Below.heap_setCell _ _ _ _ (by show w.heap.size ≠ M; have := HM.out; omega)).trans HR5.out)
          have HL6 := Lib.hid (HL5.out.keep ((Below.refl (w.heap.size + 1) w6).setCell (show w.heap.size + 1 ≤ M from HM.out) (p := ⟨M, k, none⟩) (.int .i64 R.2.2)))
          clear m1 m2 m3
          go_wp2
          go_roundw
          case rel => exact ⟨k + 1, by omega, by go_num, n2, q2, cp2, _, by
            rw [HNX.out]
            exact ⟨HO6.out, by omega, HC6.out, by simpa using HCs.out, HLa.out.step HPL.out (by rw [HCs.out]; exact hlt), HB6.out, HR6.out, HL6.out⟩⟩
          case measure => simp [intOf]; omega
      · have hke : k = len := by omega
        subst hke
        have hi1 : ¬ (k : Int) < (k : Int) := by omega
        have HPY := Lib.hid (show playE l k = playK l k by unfold playE; rw [if_neg hbig])
        go_wp2_with fail
        refine (store_any (w.heap.size + 1) B b n cp q (playK l k).1 _ HW.out.1 (play_ep l k)).mono ?_
        rintro e w7 ⟨q1, n1, c1, q2, n2, c2, rfl, hT, hO7, hK⟩
        obtain ⟨hO, hn', hCu, hCs, hLa, hBw, hRs, hLw⟩ := HW.out
        have hge := fun a ha => (keys_ge hO.keys a ha).1
        obtain ⟨m1, m2, m3⟩ := codes_apart hO hCu
        have HC7 := Lib.hid (hT.row hCu m1 m2 m3)
        have HB7 := Lib.hid (hT.low hBw hBw.size (by have := hO.geB; omega) (by have := hO.geb; omega) (fun a ha => by have := hge a ha; omega))
        have hR7 := hT.row hRs (by have := hO.geB; omega) (by have := hO.geb; omega) (fun a ha => by have := hge a ha; omega)
        have HR7 := Lib.hid hR7
        have HK := Lib.hid hK
        have HWR := Lib.hid hRs.lt
        have HMW := Lib.hid hCu.lt
        have HCs := Lib.hid hCs
        have HLa := Lib.hid hLa
        have r0 := hR7.cell (j := 0) (by simp)
        have r1 := hR7.cell (j := 1) (by simp)
        simp at r0 r1
        have f0 := hR7.free 0
        have f1 := hR7.free 1
        clear hT hO7 hK hO hn' hCu hCs hLa hBw hRs hLw hge m1 m2 m3 hR7 HW
        go_wp2
        have hb := ((HR7.out.set 0 (.slice q1 n1 c1)).set 1 (.slice q2 n2 c2))
        unfold Row at hb
        refine bodyPost_ret (v := .tuple #[.agg #[.slice q1 n1 c1, .slice q2 n2 c2], .slice (some ⟨M, 0, none⟩) k k]) (by simp [results, Tryd.results20, go_sem, World.cell?, hb]) rfl ?_
        rw [HPY.out]
        have k1 := HK.out.put (X := w.heap.size) (HK.out.at1.ne HWR.out) (HK.out.at2.ne HWR.out) 0 (.slice q1 n1 c1)
        have k2 := k1.put (X := w.heap.size) (k1.at1.ne HWR.out) (k1.at2.ne HWR.out) 1 (.slice q2 n2 c2)
        refine ⟨q1, n1, c1, q2, n2, c2, _, k, k, rfl, (HB7.out.setCell (Nat.le_refl _) _).setCell (Nat.le_refl _) _, .inr ⟨M, cur, rfl, by have := HM.out; omega, ?_, by rw [play_len, HCs.out]; exact Nat.le_refl _, fun j hj => HLa.out j (by rw [play_len] at hj; exact hj)⟩, play_len l k, _, Nat.le_of_lt HWR.out, k2, fun g hg => by simp only [Option.some.injEq, Addr.mk.injEq, and_true] at hg; subst hg; exact ⟨by have := HM.out; omega, HMW.out⟩⟩
        exact (Below.heap_setCell _ _ _ _ (by show M ≠ w.heap.size; have := HM.out; omega)).trans ((Below.heap_setCell _ _ _ _ (by show M ≠ w.heap.size; have := HM.out; omega)).trans HC7.out)
end Go.Proofs.YtblpebdjbenphaaDoor
