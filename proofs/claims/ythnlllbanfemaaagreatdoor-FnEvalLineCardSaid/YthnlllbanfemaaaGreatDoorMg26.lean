/- Texts put together, as a claim holds at most sixty files. -/
import Derived.Test.YthnlllbanfemaaaGreatDoorMg11
import Derived.Test.YthnlllbanfemaaaGreatDoorMg20
import Derived.Test.YthnlllbanfemaaaGreatDoorMg24
import Derived.Test.YthnlllbanfemaaaGreatDoorMg25
import Derived.Test.YthnlllbanfemaaaGreatDoorMg1
import Derived.Test.YthnlllbanfemaaaGreatDoorMg4
import Derived.Laws.AppendOwnNone
import Derived.Test.YthnlllbanfemaaaGreatDoorMg12
namespace Go.Proofs.YthnlllbanfemaaaGreatDoor
open Go.ChangeShapes Go.WideShapes Go.ChangeAt Go.RowKit Go.MuLone
set_option linter.unusedVariables false
set_option maxRecDepth 100000

def sliceLenE : Value → Nat | .slice _ n _ => n | _ => 0
theorem run_recs {l : Instrs} {ws : Strs} {base : Nat} {w : World} {q : Option Addr} {V : Recs} {c : Int} {n : Nat} (hk : RcK base w q V) (hn : ∀ i, i < l.length → In64 (ins1 l i)) (hr : evalR l ws = (V, c)) (hv : V.length = n) : RecsAt w q n V := by
  have h := evalR_facts (l := l) (ws := ws) hn
  rw [hr] at h
  have h1 : V.length ≤ 30 := h.1
  exact rck_recs hk hv h.2.1 (by omega)

set_option maxHeartbeats 16000000 in
theorem fnFields_walk (w : World) (a : Option Addr) (len cap : Nat) (h : Src w a len) (hT : TabsRP w) :
    Calls Tryz.prog 10 #[.slice a len cap] w fun e w' => e = .returned (.bool true) ∧ Below w.heap.size w w' := by
  by_cases hbig : 1048576 < len
  · go_enter Tryz.func10, Tryz.ntmps10
    go_wp2_with fail
    refine (big_yes _ _ _ _ hbig).mono ?_
    rintro e w' ⟨rfl, rfl⟩
    go_wp2_with fail
    go_ret
    exact ⟨rfl, Below.refl _ _⟩
  have HT := Lib.hid hT
  have H := Lib.hid h
  clear hT h
  go_enter Tryz.func10, Tryz.ntmps10
  go_wp2_with fail
  refine (big_no _ _ _ _ hbig).mono ?_
  rintro e w' ⟨rfl, rfl⟩
  go_wp2_with fail
  refine (draweval_any _ _ _ _ H.out).mono ?_
  rintro e w1 ⟨q, n, cp, W, sq, sn, sc, M, rfl, hn80, hncp, hcpm, hqn, hs25, hssc, hscm, hsqn, hM60, hfine, hi, h6, hst, hb⟩
  have HI := Lib.hid hi
  have HW := Lib.hid hst
  have HB := Lib.hid hb
  have H6 := Lib.hid h6
  have H6L := Lib.hid (show ∀ i, i < W.length → In64 (ins1 W i) from fun i hi2 => h6 i (by rw [← hi.length]; exact hi2))
  have HSQ := Lib.hid hsqn
  have HML := Lib.hid hst.length
  clear hi hst hb h6 hqn hsqn hM60 hfine
  obtain ⟨V, hV⟩ : ∃ V, (evalR W M).1 = V := ⟨_, rfl⟩
  obtain ⟨c, hc⟩ : ∃ c, (evalR W M).2 = c := ⟨_, rfl⟩
  have HRES := Lib.hid (show evalR W M = (V, c) by rw [← hV, ← hc])
  obtain ⟨vn, hvn⟩ : ∃ n, V.length = n := ⟨_, rfl⟩
  have HVN := Lib.hid hvn
  clear hV hc
  go_wp2_with fail
  refine (ieval_any _ _ _ _ _ _ _ _ _ HI.out H6.out HW.out (HT.out.keep HB.out)).mono ?_
  unfold MadeRun
  simp only [HRES.out, hvn]
  rintro e w2 ⟨q1, cp1, rfl, hB, hk, _, _⟩
  have HK1 := Lib.hid (run_recs hk H6L.out HRES.out hvn)
  have HI := Lib.hid (HI.out.keep hB)
  have HW := Lib.hid (HW.out.keep hB)
  have HB := Lib.hid (below_via HB.out hB)
  clear hB hk
  go_wp2_with fail
  refine (seval_any _ _ _ _ _ _ _ _ _ HI.out H6.out HW.out).mono ?_
  unfold MadeRun
  simp only [HRES.out, hvn]
  rintro e w3 ⟨q2, cp2, rfl, hB, hk, _, _⟩
  have HK2 := Lib.hid (run_recs hk H6L.out HRES.out hvn)
  have HK1 := Lib.hid (HK1.out.keep hB)
  have HI := Lib.hid (HI.out.keep hB)
  have HW := Lib.hid (HW.out.keep hB)
  have HB := Lib.hid (below_via HB.out hB)
  clear hB hk
  go_wp2_with fail
  refine (samerun_same _ _ _ _ _ _ _ HK1.out HK2.out).mono ?_
  rintro e w4 ⟨rfl, hB⟩
  have HK1 := Lib.hid (HK1.out.keep hB)
  have HK2 := Lib.hid (HK2.out.keep hB)
  have HI := Lib.hid (HI.out.keep hB)
  have HW := Lib.hid (HW.out.keep hB)
  have HB := Lib.hid (below_via HB.out hB)
  clear hB
  by_cases h20 : (20 : Int) < (sn : Int)
  · go_wp2_with fail
    refine (samerun_same _ _ _ _ _ _ _ HK1.out HK2.out).mono ?_
    rintro e w5 ⟨rfl, hB⟩
    have HB := Lib.hid (below_via HB.out hB)
    clear hB
    go_wp2
    go_ret
    exact ⟨rfl, HB.out⟩
  · have hsn20 : sn ≤ 20 := by omega
    clear HK2
    have HBA := Lib.hid (below_alloc (Below.refl w4.heap.size w4) (.cells #[] 9))
    have HOA := Lib.hid (World.ownsRow_lit (base := w4.heap.size) (e := 9) (size := 1) w4 #[] 0 (Nat.le_refl _) (Nat.zero_le _) rfl)
    go_wp2_with (at_builtin; go_loud (refine append_strs rfl _ _ rfl w4.heap.size (.slice (some ⟨w4.heap.size, 0, none⟩) 0 0) 0 [] rfl HOA.out sq sn sc M rfl (HW.out.keep HBA.out) HSQ.out (by omega) HBA.out.size ?_); intro q5 c5 w5 hown hgrow; have HO5 := Lib.hid hown; have HB5 := Lib.hid (show Below w4.heap.size w4 w5 from HBA.out.grown hgrow HBA.out.size (fun j hj => by simp [Value.ownBlock] at hj; omega)); clear hown hgrow)
    have HS0 : Hid (w5.ownsRow w4.heap.size 9 1 (.slice q5 sn c5) sn ((M ++ List.replicate 0 ByteArray.empty).map Value.string) ∧ Below w4.heap.size w4 w5) := Lib.hid ⟨by have := HO5.out; simpa using this, HB5.out⟩
    clear HO5 HBA HOA HB5
    try simp only [Nat.zero_add]
    go_loopw [9] (fun v wr => ∃ (k : Nat) (q : Option Addr) (cc : Nat), v = .slice q (sn + k) cc ∧ sn + k ≤ 20 ∧ Hid (wr.ownsRow w4.heap.size 9 1 (.slice q (sn + k) cc) (sn + k) ((M ++ List.replicate k ByteArray.empty).map Value.string) ∧ Below w4.heap.size w4 wr)) (fun v _ => 20 - sliceLenE v)
    case atStart => exact ⟨0, q5, c5, rfl, hsn20, HS0⟩
    case round =>
      clear HS0
      obtain ⟨k, q6, c6, rfl, hk20, HS⟩ := hrel
      obtain ⟨m, hm⟩ : ∃ m, sn + k = m := ⟨_, rfl⟩
      rw [hm] at HS hk20 ⊢
      have HMM := Lib.hid hm
      clear hm
      by_cases hlt : m < 20
      · have hlt2 : (m : Int) < 20 := by omega
        obtain ⟨i0, hi, hz0, hz1, hz2⟩ := info_parts infoStr
        go_wp2_with (at_builtin; (refine wpList_append_own _ rfl _ _ 23 rfl w4.heap.size 9 i0 _ 1 16 Tryz.underlying23 hi hz0 hz1 hz2 rfl (by decide) _ _ _ rfl (HS.out.1.alloc _) ⟨wr.heap.size, 0, none⟩ 1 1 [.string ⟨#[]⟩] rfl rfl (one_new _ _ _) (fun u hu => by simp at hu; subst hu; rfl) (by unfold maxLen; omega) (by omega) (Nat.le_trans HS.out.2.size (by simp)) ?_); intro v' w6 hown1 hgrow hnil; obtain ⟨q7, c7, rfl⟩ := own_form hown1; have HS7 := Lib.hid (show w6.ownsRow w4.heap.size 9 1 (.slice q7 (m + 1) c7) (m + 1) ((M ++ List.replicate (k + 1) ByteArray.empty).map Value.string) ∧ Below w4.heap.size w4 w6 from ⟨by rw [List.replicate_succ', ← List.append_assoc, List.map_append]; exact hown1, (HS.out.2.alloc HS.out.2.size _).grown hgrow (Nat.le_trans HS.out.2.size (by simp)) (fun j hj => (HS.out.1.lt j hj).1)⟩); clear hown1 hgrow hnil)
        go_roundw
        case rel => exact ⟨k + 1, q7, c7, by rw [← Nat.add_assoc, HMM.out], by rw [← Nat.add_assoc, HMM.out]; omega, by rw [← Nat.add_assoc, HMM.out]; exact HS7⟩
        case measure => simp [sliceLenE]; omega
      · obtain rfl : m = 20 := by omega
        have hnlt : ¬ ((20 : Nat) : Int) < 20 := by omega
        have HPAD := Lib.hid (show evalR W (M ++ List.replicate k ByteArray.empty) = (V, c) by rw [evalR_pad (by rw [HML.out, HMM.out]; exact Nat.le_refl _)]; exact HRES.out)
        have HWS := Lib.hid (show StrsAt wr q6 20 (M ++ List.replicate k ByteArray.empty) from strs_of_ownE HS.out.1 (by rw [List.length_append, List.length_replicate, HML.out, HMM.out]) (by unfold maxLen; omega) (fun x hx => by
          rcases List.mem_append.1 hx with hx | hx
          · obtain ⟨j, hj, rfl⟩ := List.mem_iff_getElem.1 hx
            have := HW.out.sizes j (by rw [← HML.out]; exact hj)
            unfold strAt at this
            rw [List.getD_eq_getElem?_getD, List.getElem?_eq_getElem hj] at this
            exact this
          · rw [List.eq_of_mem_replicate hx]; exact Nat.zero_le _))
        have HB := Lib.hid (below_via HB.out HS.out.2)
        have HI := Lib.hid (HI.out.keep HS.out.2)
        have HK1 := Lib.hid (HK1.out.keep HS.out.2)
        go_wp2_with fail
        refine (ieval_any _ _ _ _ _ _ _ _ _ HI.out H6.out HWS.out (HT.out.keep HB.out)).mono ?_
        unfold MadeRun
        simp only [HPAD.out, HVN.out]
        rintro e w7 ⟨q8, cp8, rfl, hB, hk, _, _⟩
        have HK8 := Lib.hid (run_recs hk H6L.out HRES.out HVN.out)
        have HK1 := Lib.hid (HK1.out.keep hB)
        have HB := Lib.hid (below_via HB.out hB)
        clear hB hk
        go_wp2_with fail
        refine (samerun_same _ _ _ _ _ _ _ HK1.out HK8.out).mono ?_
        rintro e w8 ⟨rfl, hB⟩
        have HB := Lib.hid (below_via HB.out hB)
        clear hB
        go_wp2
        go_ret
        exact ⟨rfl, HB.out⟩
end Go.Proofs.YthnlllbanfemaaaGreatDoor
namespace Go.Proofs.YthnlllbanfemaaaGreatDoor
open Go.ChangeShapes Go.WideShapes Go.ChangeAt Go.RowKit
set_option linter.unusedVariables false
set_option maxRecDepth 100000

def InLaid (cur : Array Value) (l : Instrs) (k : Nat) : Prop := ∀ j, j < k → cur[j * 3]? = some (.int .i64 (ins0 l j)) ∧ cur[j * 3 + 1]? = some (.int .i64 (ins1 l j)) ∧ cur[j * 3 + 2]? = some (.string (ins2 l j))
def cellsIn (W : Instrs) : List Value := W.flatMap fun r => [Value.int .i64 r.1, Value.int .i64 r.2.1, Value.string r.2.2]
theorem cellsIn_nil : cellsIn [] = [] := rfl
theorem cellsIn_snoc (W : Instrs) (x0 : Int) (x1 : Int) (x2 : ByteArray) : cellsIn (W ++ [(x0, x1, x2)]) = cellsIn W ++ [.int .i64 x0, .int .i64 x1, .string x2] := by simp [cellsIn]
theorem cellsIn_append (W V : Instrs) : cellsIn (W ++ V) = cellsIn W ++ cellsIn V := by simp [cellsIn]
theorem cellsIn_one_row (x0 : Int) (x1 : Int) (x2 : ByteArray) : cellsIn [(x0, x1, x2)] = [.int .i64 x0, .int .i64 x1, .string x2] := by simp [cellsIn]
theorem cellsIn_len : ∀ W : Instrs, (cellsIn W).length = W.length * 3
  | [] => rfl
  | r :: t => by
    have := cellsIn_len t
    simp only [cellsIn] at this
    simp [cellsIn, List.flatMap_cons, this]; omega
theorem cellsIn_get : ∀ (W : Instrs) (j : Nat), j < W.length → (cellsIn W)[j * 3]? = some (.int .i64 (ins0 W j)) ∧ (cellsIn W)[j * 3 + 1]? = some (.int .i64 (ins1 W j)) ∧ (cellsIn W)[j * 3 + 2]? = some (.string (ins2 W j))
  | [], j, h => by simp at h
  | r :: t, 0, h => by simp [cellsIn, ins0, ins1, ins2]
  | r :: t, j + 1, h => by
    have := cellsIn_get t j (by simpa using h)
    have e : (j + 1) * 3 = j * 3 + 3 := by omega
    simp only [cellsIn] at this
    rw [e]
    have e0 : j * 3 + 3 = j * 3 + 1 + 1 + 1 := by omega
    have e1 : j * 3 + 3 + 1 = j * 3 + 1 + 1 + 1 + 1 := by omega
    have e2 : j * 3 + 3 + 2 = j * 3 + 2 + 1 + 1 + 1 := by omega
    rw [e1, e2, e0]
    simp only [cellsIn, List.flatMap_cons, List.cons_append, List.nil_append, List.getElem?_cons_succ]
    simpa [ins0, ins1, ins2] using this
theorem inn_cells1 : ∀ W : Instrs, ∀ u ∈ cellsIn W, u.oneCell' = true := by
  intro W u hu
  unfold cellsIn at hu
  rw [List.mem_flatMap] at hu
  obtain ⟨r, _, hr⟩ := hu
  simp only [List.mem_cons, or_false, List.not_mem_nil] at hr
  rcases hr with rfl | rfl | rfl
  all_goals rfl
theorem inn_new (w : World) (x0 : Int) (x1 : Int) (x2 : ByteArray) (t : TypeId) : ∀ j u, [Value.int .i64 x0, Value.int .i64 x1, Value.string x2][j]? = some u → (w.alloc (.cells #[.int .i64 x0, .int .i64 x1, .string x2] t)).cell? ((⟨w.heap.size, 0, none⟩ : Addr).add j) = some u := by
  intro j u hj
  match j, hj with
  | 0, hj => simp at hj; subst hj; simp [Addr.add]
  | 1, hj => simp at hj; subst hj; simp [Addr.add]
  | 2, hj => simp at hj; subst hj; simp [Addr.add]
theorem inn_at_row {w : World} {B : Nat} (x0 : Int) (x1 : Int) (x2 : ByteArray) {t : TypeId} (h : Row w B t #[.int .i64 x0, .int .i64 x1, .string x2]) : ∀ j u, [Value.int .i64 x0, Value.int .i64 x1, Value.string x2][j]? = some u → w.cell? ((⟨B, 0, none⟩ : Addr).add j) = some u := by
  intro j u hj
  unfold Row at h
  match j, hj with
  | 0, hj => simp at hj; subst hj; simp [Addr.add, World.cell?, h]
  | 1, hj => simp at hj; subst hj; simp [Addr.add, World.cell?, h]
  | 2, hj => simp at hj; subst hj; simp [Addr.add, World.cell?, h]

/-- The slice (q, length of W) holds the values W in a row from block 'base' on. -/
def InK (base : Nat) (w : World) (q : Option Addr) (W : Instrs) : Prop :=
  W.length = 0 ∨ ∃ g cur, q = some ⟨g, 0, none⟩ ∧ base ≤ g ∧ Row w g 52 cur ∧ W.length * 3 ≤ cur.size ∧ InLaid cur W W.length
theorem innk_of_own {base : Nat} {w : World} {q : Option Addr} {m cp : Nat} {W : Instrs} (h : w.ownsRow base 52 3 (.slice q m cp) W.length (cellsIn W)) : InK base w q W := by
  rcases h.2 with ⟨h1, h2⟩ | ⟨g, cap, cur, hv, hb, hh, h1, _, h3, h4⟩
  · exact .inl h2
  · simp only [Value.slice.injEq] at hv
    obtain ⟨rfl, _, rfl⟩ := hv
    refine .inr ⟨g, cur, rfl, hb, hh, by omega, fun j hj => ?_⟩
    obtain ⟨e0, e1, e2⟩ := cellsIn_get W j hj
    rw [← h4, List.getElem?_take_of_lt (by omega)] at e0 e1 e2
    exact ⟨by simpa using e0, by simpa using e1, by simpa using e2⟩
theorem innk_keep {base : Nat} {w w1 : World} {q : Option Addr} {W : Instrs} (h : InK base w q W) (hB : Below w.heap.size w w1) : InK base w1 q W := by
  rcases h with h0 | ⟨g, cur, rfl, hb, hr, h1, h2⟩
  · exact .inl h0
  · exact .inr ⟨g, cur, rfl, hb, hr.keep hB, h1, h2⟩
theorem innk_low {base B : Nat} {w : World} {q : Option Addr} {W : Instrs} (h : InK B w q W) (hb : base ≤ B) : InK base w q W := by
  rcases h with h0 | ⟨g, cur, rfl, h1, hr, h2, h3⟩
  · exact .inl h0
  · exact .inr ⟨g, cur, rfl, Nat.le_trans hb h1, hr, h2, h3⟩
theorem innk_lt {base : Nat} {w : World} {q : Option Addr} {W : Instrs} (h : InK base w q W) (hn : 0 < W.length) : ∀ g, q = some ⟨g, 0, none⟩ → base ≤ g ∧ g < w.heap.size := by
  intro g hg
  rcases h with h0 | ⟨g', cur, rfl, hb, hr, h1, h2⟩
  · omega
  · simp only [Option.some.injEq, Addr.mk.injEq, and_true] at hg
    rw [← hg]; exact ⟨hb, hr.lt⟩
theorem innk_grown {base : Nat} {w w1 : World} {q : Option Addr} {W : Instrs} {row : Option Nat} (h : InK base w q W) (hg : w.grownBy w1 row) (hne : ∀ g, q = some ⟨g, 0, none⟩ → some g ≠ row) : InK base w1 q W := by
  rcases h with h0 | ⟨g', cur, rfl, hb, hr, h1, h2⟩
  · exact .inl h0
  · exact .inr ⟨g', cur, rfl, hb, (hg.block g' hr.lt (hne g' rfl)).trans hr, h1, h2⟩
theorem innk_put {base : Nat} {w : World} {q : Option Addr} {W : Instrs} (h : InK base w q W) {X : Nat} (hne : ∀ g, q = some ⟨g, 0, none⟩ → g ≠ X) (j : Nat) (v : Value) : InK base (w.setCell ⟨X, j, none⟩ v) q W := by
  rcases h with h0 | ⟨g', cur, rfl, hb, hr, h1, h2⟩
  · exact .inl h0
  · exact .inr ⟨g', cur, rfl, hb, hr.other (hne g' rfl) j v, h1, h2⟩
theorem inns_of_k {base n : Nat} {w : World} {q : Option Addr} {W : Instrs} (h : InK base w q W) (hn : W.length = n) (hm : n ≤ maxLen) (hs : ∀ i, i < n → (ins2 W i).size ≤ maxLen) : InstrsAt w q n W := by
  subst hn
  refine ⟨rfl, hm, hs, ?_⟩
  rcases h with h0 | ⟨g, cur, rfl, _, hr, _, hc⟩
  · exact .inl h0
  · refine .inr ⟨g, 0, rfl, hr.lt, fun i hi => ?_⟩
    obtain ⟨e0, e1, e2⟩ := hc i hi
    unfold Row at hr
    simp [World.cell?, hr, e0, e1, e2]

/-! ### pieces of a slice that may be read, and appends of them -/
theorem inn_at_take (l : Instrs) (k i : Nat) (h : i < k) : ins0 (l.take k) i = ins0 l i ∧ ins1 (l.take k) i = ins1 l i ∧ ins2 (l.take k) i = ins2 l i := by
  refine ⟨?_, ?_, ?_⟩ <;> simp [ins0, ins1, ins2, List.getElem?_take_of_lt h]
theorem inn_at_drop (l : Instrs) (k i : Nat) : ins0 (l.drop k) i = ins0 l (k + i) ∧ ins1 (l.drop k) i = ins1 l (k + i) ∧ ins2 (l.drop k) i = ins2 l (k + i) := by
  refine ⟨?_, ?_, ?_⟩ <;> simp [ins0, ins1, ins2]
theorem inns_take {w : World} {a : Option Addr} {len : Nat} {l : Instrs} (h : InstrsAt w a len l) {k : Nat} (hk : k ≤ len) : InstrsAt w a k (l.take k) := by
  have hl := h.length
  refine ⟨by rw [List.length_take]; omega, Nat.le_trans hk h.max, fun i hi => ?_, ?_⟩
  · obtain ⟨e0, e1, e2⟩ := inn_at_take l k i hi
    have := h.keys i (by omega)
    simpa only [e0, e1, e2] using this
  · rcases h.src with h0 | ⟨b, off, ha, hb, hc⟩
    · exact .inl (by omega)
    · refine .inr ⟨b, off, ha, hb, fun i hi => ?_⟩
      obtain ⟨e0, e1, e2⟩ := inn_at_take l k i hi
      have := hc i (by omega)
      simpa only [e0, e1, e2] using this
theorem inns_drop {w : World} {b off : Nat} {len : Nat} {l : Instrs} (h : InstrsAt w (some ⟨b, off, none⟩) len l) {k : Nat} (hk : k ≤ len) : InstrsAt w (some ⟨b, off + k * 3, none⟩) (len - k) (l.drop k) := by
  have hl := h.length
  have hm := h.max
  refine ⟨by rw [List.length_drop]; omega, by omega, fun i hi => ?_, ?_⟩
  · obtain ⟨e0, e1, e2⟩ := inn_at_drop l k i
    have := h.keys (k + i) (by omega)
    simpa only [e0, e1, e2] using this
  · rcases h.src with h0 | ⟨b', off', ha, hb, hc⟩
    · exact .inl (by omega)
    · simp only [Option.some.injEq, Addr.mk.injEq, and_true] at ha
      obtain ⟨rfl, rfl⟩ := ha
      refine .inr ⟨b, off + k * 3, rfl, hb, fun i hi => ?_⟩
      obtain ⟨e0, e1, e2⟩ := inn_at_drop l k i
      have := hc (k + i) (by omega)
      rw [show off + (k + i) * 3 = off + k * 3 + i * 3 by rw [Nat.add_mul]; omega] at this
      simpa only [e0, e1, e2] using this
theorem inns_none {w : World} {a a' : Option Addr} {len : Nat} {l : Instrs} (h : InstrsAt w a len l) (hn : len = 0) : InstrsAt w a' 0 [] := ⟨rfl, Nat.zero_le _, fun i hi => by omega, .inl rfl⟩
theorem inn_cells_at {w : World} {q : Addr} {len : Nat} {l : Instrs} (h : InstrsAt w (some q) len l) : ∀ j u, (cellsIn l)[j]? = some u → w.cell? (q.add j) = some u := by
  intro j u hj
  have hl := h.length
  have hjl : j < l.length * 3 := by
    obtain ⟨h1, _⟩ := List.getElem?_eq_some_iff.1 hj
    rw [cellsIn_len] at h1; exact h1
  rcases h.src with h0 | ⟨b, off, ha, hb, hc⟩
  · omega
  · simp only [Option.some.injEq] at ha
    subst ha
    have hi : j / 3 < len := by omega
    obtain ⟨c0, c1, c2⟩ := hc (j / 3) hi
    obtain ⟨e0, e1, e2⟩ := cellsIn_get l (j / 3) (by omega)
    have hadd : (⟨b, off, none⟩ : Addr).add j = ⟨b, off + j, none⟩ := by
      unfold Addr.add
      split
      · rename_i h0; subst h0; rfl
      · rfl
    rw [hadd]
    have hr : j % 3 < 3 := Nat.mod_lt _ (by decide)
    have hd : 3 * (j / 3) + j % 3 = j := Nat.div_add_mod j 3
    rcases (show j % 3 = 0 ∨ j % 3 = 1 ∨ j % 3 = 2 by omega) with hr0 | hr1 | hr2
    · have ej : j = j / 3 * 3 := by omega
      have e := e0
      rw [← ej] at e
      rw [e] at hj
      rw [← hj, show off + j = off + j / 3 * 3 by omega]
      exact c0
    · have ej : j = j / 3 * 3 + 1 := by omega
      have e := e1
      rw [← ej] at e
      rw [e] at hj
      rw [← hj, show off + j = off + j / 3 * 3 + 1 by omega]
      exact c1
    · have ej : j = j / 3 * 3 + 2 := by omega
      have e := e2
      rw [← ej] at e
      rw [e] at hj
      rw [← hj, show off + j = off + j / 3 * 3 + 2 by omega]
      exact c2

theorem own_cellsIn {w : World} {base : Nat} {v : Value} {W : Instrs} {xs : List Value} {m k : Nat} (h : w.ownsRow base 52 3 v m xs) (hm : m = k) (hx : xs = cellsIn W) : w.ownsRow base 52 3 v k (cellsIn W) := by rw [← hm, ← hx]; exact h
/-- append of values that may be read, nil or not, to a row of the call's own. -/
theorem wp_append_inn {o : Oper} {a : Act} {K : Act → World → Prop} {Q : Exit → Act → World → Prop} {w : World} (s x : Operand)
    (ho : o.op = .call { callee := .builtin .append, args := #[s, x], argTypes := #[29, 29] })
    (base : Nat) (v : Value) (n : Nat) (W : Instrs) (hs : a.eval s = v) (hown : w.ownsRow base 52 3 v n (cellsIn W))
    (q : Option Addr) (m c : Nat) (V : Instrs) (hx : a.eval x = .slice q m c) (hrec : InstrsAt w q m V) (hnone : q = none → c = 0) (h6 : n + m ≤ 2097152) (hbase : base ≤ w.heap.size)
    (h : ∀ q' c' w', w'.ownsRow base 52 3 (.slice q' (n + m) c') (n + m) (cellsIn (W ++ V)) → w.grownBy w' v.ownBlock → K (a.put o.dst (.slice q' (n + m) c')) w') : o.wp Tryz.prog a w K Q := by
  obtain ⟨i0, hi, hz0, hz1, hz2⟩ := info_parts infoInstr
  cases q with
  | none =>
    have hc := hnone rfl
    have hm : m = 0 := by
      rcases hrec.src with h0 | ⟨b, off, ha, _⟩
      · exact h0
      · cases ha
    subst hm hc
    obtain rfl : V = [] := List.eq_nil_of_length_eq_zero hrec.length
    obtain ⟨q', c', rfl⟩ := own_form hown
    have h0 := h q' c' w (by simpa using hown) (World.grownBy.refl _ _)
    have hrun := run_append_owned_none (P := Tryz.prog) (w := w) base 29 o.type 52 i0 3 Tryz.underlying29 hi _ n _ hown
    unfold Oper.wp
    simp [execOp, ho, resolve, invoke, builtin, hs, hx, hrun, Result.andThen]
    exact h0
  | some p =>
    exact wp_append_own w s x 29 ho base 52 i0 _ 3 32 Tryz.underlying29 hi hz0 hz1 hz2 rfl (by decide) v n _ hs hown p m c (cellsIn V) hx (by rw [cellsIn_len, hrec.length]) (inn_cells_at hrec) (inn_cells1 _) (by unfold maxLen; omega) (by omega) hbase fun v' w' h2 h3 h4 => by
      obtain ⟨q', c', rfl⟩ := own_form h2
      exact h q' c' w' (by rw [cellsIn_append]; exact h2) h3
theorem append_inn {ops : Array Oper} {rest : List Oper} {o : Oper} {a : Act} {Q : Exit → Act → World → Prop} {w : World} (hg : o.guard = none) (s x : Operand)
    (ho : o.op = .call { callee := .builtin .append, args := #[s, x], argTypes := #[29, 29] })
    (base : Nat) (v : Value) (n : Nat) (W : Instrs) (hs : a.eval s = v) (hown : w.ownsRow base 52 3 v n (cellsIn W))
    (q : Option Addr) (m c : Nat) (V : Instrs) (hx : a.eval x = .slice q m c) (hrec : InstrsAt w q m V) (hnone : q = none → c = 0) (h6 : n + m ≤ 2097152) (hbase : base ≤ w.heap.size)
    (h : ∀ q' c' w', w'.ownsRow base 52 3 (.slice q' (n + m) c') (n + m) (cellsIn (W ++ V)) → w.grownBy w' v.ownBlock → wpList Tryz.prog ops Q rest (a.put o.dst (.slice q' (n + m) c')) w') : wpList Tryz.prog ops Q (o :: rest) a w :=
  wpList_plain hg fun _ hK => wp_append_inn s x ho base v n W hs hown q m c V hx hrec hnone h6 hbase fun q' c' w' h2 h3 => hK _ _ (h q' c' w' h2 h3)
/-- At a step of a region that draws its order. -/
theorem step_append_inn {ops : Array Oper} {o : Oper} {a : Act} {K : Act → World → Prop} {Q : Exit → Act → World → Prop} {Ee : Prop} {w : World} (hg : o.guard = none) (s x : Operand)
    (ho : o.op = .call { callee := .builtin .append, args := #[s, x], argTypes := #[29, 29] })
    (base : Nat) (v : Value) (n : Nat) (W : Instrs) (hs : a.eval s = v) (hown : w.ownsRow base 52 3 v n (cellsIn W))
    (q : Option Addr) (m c : Nat) (V : Instrs) (hx : a.eval x = .slice q m c) (hrec : InstrsAt w q m V) (hnone : q = none → c = 0) (h6 : n + m ≤ 2097152) (hbase : base ≤ w.heap.size)
    (h : ∀ q' c' w', w'.ownsRow base 52 3 (.slice q' (n + m) c') (n + m) (cellsIn (W ++ V)) → w.grownBy w' v.ownBlock → K (a.put o.dst (.slice q' (n + m) c')) w') :
    if Region.wanted o (yielded ops a.tmps) = true then Oper.wp Tryz.prog o a w K Q else Ee := by
  have hw : Region.wanted o (yielded ops a.tmps) = true := by simp [Region.wanted, hg]
  rw [if_pos hw]
  exact wp_append_inn s x ho base v n W hs hown q m c V hx hrec hnone h6 hbase h
/-- append of one value that has just been laid in a block of its own. -/
theorem wp_append1_inn {o : Oper} {a : Act} {K : Act → World → Prop} {Q : Exit → Act → World → Prop} {w : World} (s x : Operand)
    (ho : o.op = .call { callee := .builtin .append, args := #[s, x], argTypes := #[29, 29] })
    (base : Nat) (v : Value) (n : Nat) (W : Instrs) (hs : a.eval s = v) (hown : w.ownsRow base 52 3 v n (cellsIn W))
    (B c : Nat) (x0 : Int) (x1 : Int) (x2 : ByteArray) (hx : a.eval x = .slice (some ⟨B, 0, none⟩) 1 c) (hrow : ∀ j u, [Value.int .i64 x0, Value.int .i64 x1, Value.string x2][j]? = some u → w.cell? ((⟨B, 0, none⟩ : Addr).add j) = some u) (h6 : n + 1 ≤ 2097152) (hbase : base ≤ w.heap.size)
    (h : ∀ q' c' w', w'.ownsRow base 52 3 (.slice q' (n + 1) c') (n + 1) (cellsIn (W ++ [(x0, x1, x2)])) → w.grownBy w' v.ownBlock → K (a.put o.dst (.slice q' (n + 1) c')) w') : o.wp Tryz.prog a w K Q := by
  obtain ⟨i0, hi, hz0, hz1, hz2⟩ := info_parts infoInstr
  exact wp_append_own w s x 29 ho base 52 i0 _ 3 32 Tryz.underlying29 hi hz0 hz1 hz2 rfl (by decide) v n _ hs hown ⟨B, 0, none⟩ 1 c [Value.int .i64 x0, Value.int .i64 x1, Value.string x2] hx rfl hrow (fun u hu => inn_cells1 [(x0, x1, x2)] u (by rw [cellsIn_one_row]; exact hu)) (by unfold maxLen; omega) (by omega) hbase fun v' w' h2 h3 h4 => by
    obtain ⟨q', c', rfl⟩ := own_form h2
    exact h q' c' w' (by rw [cellsIn_snoc]; exact h2) h3
theorem append1_inn {ops : Array Oper} {rest : List Oper} {o : Oper} {a : Act} {Q : Exit → Act → World → Prop} {w : World} (hg : o.guard = none) (s x : Operand)
    (ho : o.op = .call { callee := .builtin .append, args := #[s, x], argTypes := #[29, 29] })
    (base : Nat) (v : Value) (n : Nat) (W : Instrs) (hs : a.eval s = v) (hown : w.ownsRow base 52 3 v n (cellsIn W))
    (B c : Nat) (x0 : Int) (x1 : Int) (x2 : ByteArray) (hx : a.eval x = .slice (some ⟨B, 0, none⟩) 1 c) (hrow : ∀ j u, [Value.int .i64 x0, Value.int .i64 x1, Value.string x2][j]? = some u → w.cell? ((⟨B, 0, none⟩ : Addr).add j) = some u) (h6 : n + 1 ≤ 2097152) (hbase : base ≤ w.heap.size)
    (h : ∀ q' c' w', w'.ownsRow base 52 3 (.slice q' (n + 1) c') (n + 1) (cellsIn (W ++ [(x0, x1, x2)])) → w.grownBy w' v.ownBlock → wpList Tryz.prog ops Q rest (a.put o.dst (.slice q' (n + 1) c')) w') : wpList Tryz.prog ops Q (o :: rest) a w :=
  wpList_plain hg fun _ hK => wp_append1_inn s x ho base v n W hs hown B c x0 x1 x2 hx hrow h6 hbase fun q' c' w' h2 h3 => hK _ _ (h q' c' w' h2 h3)
theorem own_nilIn (w : World) (base : Nat) : w.ownsRow base 52 3 (.slice none 0 0) 0 (cellsIn []) := ⟨rfl, .inl ⟨rfl, rfl⟩⟩
/-- An array of no length that has just been made. -/
theorem own_zeroIn {w : World} {base B : Nat} (h : Row w B 52 #[]) (hb : base ≤ B) : w.ownsRow base 52 3 (.slice (some ⟨B, 0, none⟩) 0 0) 0 (cellsIn []) := ⟨rfl, .inr ⟨B, 0, #[], rfl, hb, h, Nat.le_refl _, Nat.zero_le _, rfl, rfl⟩⟩

/-- The row of a slice that is not empty. -/
theorem own_rowIn {w : World} {base : Nat} {q : Option Addr} {n m c : Nat} {xs : List Value} (h : w.ownsRow base 52 3 (.slice q m c) n xs) (hn : 0 < n) : ∃ g cur, q = some ⟨g, 0, none⟩ ∧ m = n ∧ base ≤ g ∧ Row w g 52 cur ∧ n ≤ c ∧ c ≤ maxLen ∧ cur.size = c * 3 ∧ cur.toList.take (n * 3) = xs := by
  rcases h.2 with ⟨_, h0⟩ | ⟨g, cap, cur, hv, hb, hh, h1, h2, h3, h4⟩
  · omega
  · simp only [Value.slice.injEq] at hv
    obtain ⟨rfl, rfl, rfl⟩ := hv
    exact ⟨g, cur, rfl, rfl, hb, hh, h1, h2, h3, h4⟩
theorem cellsIn_set : ∀ (W : Instrs) (p : Nat) (x0 : Int) (x1 : Int) (x2 : ByteArray), p < W.length → cellsIn (W.set p (x0, x1, x2)) = ((((cellsIn W).set (p * 3) (.int .i64 x0)).set (p * 3 + 1) (.int .i64 x1)).set (p * 3 + 2) (.string x2))
  | [], p, x0, x1, x2, h => by simp at h
  | r :: t, 0, x0, x1, x2, h => by simp [cellsIn]
  | r :: t, p + 1, x0, x1, x2, h => by
    have ih := cellsIn_set t p x0 x1 x2 (by simpa using h)
    rw [List.set_cons_succ]
    have e : ∀ W : Instrs, ∀ r, cellsIn (r :: W) = [Value.int .i64 r.1, Value.int .i64 r.2.1, Value.string r.2.2] ++ cellsIn W := fun W r => rfl
    rw [e, e, ih]
    have f0 : (p + 1) * 3 = p * 3 + 1 + 1 + 1 := by omega
    have f1 : (p + 1) * 3 + 1 = p * 3 + 1 + 1 + 1 + 1 := by omega
    have f2 : (p + 1) * 3 + 2 = p * 3 + 2 + 1 + 1 + 1 := by omega
    rw [f1, f2, f0]
    simp only [List.cons_append, List.nil_append, List.set_cons_succ]
/-- One value of an own row laid anew. -/
theorem own_setIn {w : World} {base g n c : Nat} {W : Instrs} (h : w.ownsRow base 52 3 (.slice (some ⟨g, 0, none⟩) n c) n (cellsIn W)) {p : Nat} (hp : p < n) (x0 : Int) (x1 : Int) (x2 : ByteArray) :
    (((w.setCell ⟨g, p * 3, none⟩ (.int .i64 x0)).setCell ⟨g, p * 3 + 1, none⟩ (.int .i64 x1)).setCell ⟨g, p * 3 + 2, none⟩ (.string x2)).ownsRow base 52 3 (.slice (some ⟨g, 0, none⟩) n c) n (cellsIn (W.set p (x0, x1, x2))) := by
  have hl := h.1
  rw [cellsIn_len] at hl
  have hl2 : W.length = n := by omega
  obtain ⟨g', cur, hq, _, hb, hr, h1, h2, h3, h4⟩ := own_rowIn h (by omega)
  simp only [Option.some.injEq, Addr.mk.injEq, and_true] at hq
  subst hq
  refine ⟨by rw [cellsIn_len, List.length_set, hl2], .inr ⟨g, c, (((cur.setIfInBounds (p * 3) (.int .i64 x0)).setIfInBounds (p * 3 + 1) (.int .i64 x1)).setIfInBounds (p * 3 + 2) (.string x2)), rfl, hb, ((hr.set _ _).set _ _).set _ _, h1, h2, by simpa using h3, ?_⟩⟩
  rw [cellsIn_set W p x0 x1 x2 (by omega), ← h4]
  simp only [Array.toList_setIfInBounds, List.take_set]
end Go.Proofs.YthnlllbanfemaaaGreatDoor
namespace Go.Proofs.YthnlllbanfemaaaGreatDoor
open Go.ChangeShapes Go.WideShapes Go.ChangeAt Go.RowKit
set_option linter.unusedVariables false
set_option maxRecDepth 100000

theorem ins_left (p q : Instrs) {i : Nat} (h : i < p.length) : ins0 (p ++ q) i = ins0 p i ∧ ins1 (p ++ q) i = ins1 p i ∧ ins2 (p ++ q) i = ins2 p i := by
  have e : (p ++ q).getD i (0, 0, ByteArray.empty) = p.getD i (0, 0, ByteArray.empty) := by
    rw [List.getD_eq_getElem?_getD, List.getD_eq_getElem?_getD, List.getElem?_append_left h]
  unfold ins0 ins1 ins2
  rw [e]
  exact ⟨rfl, rfl, rfl⟩
theorem ins_right (p q : Instrs) (j : Nat) : ins0 (p ++ q) (p.length + j) = ins0 q j ∧ ins1 (p ++ q) (p.length + j) = ins1 q j ∧ ins2 (p ++ q) (p.length + j) = ins2 q j := by
  have e : (p ++ q).getD (p.length + j) (0, 0, ByteArray.empty) = q.getD j (0, 0, ByteArray.empty) := by
    rw [List.getD_eq_getElem?_getD, List.getD_eq_getElem?_getD, List.getElem?_append_right (by omega), Nat.add_sub_cancel_left]
  unfold ins0 ins1 ins2
  rw [e]
  exact ⟨rfl, rfl, rfl⟩
theorem stk_left (p q : Instrs) : ∀ k, k ≤ p.length → stk (p ++ q) k = stk p k
  | 0, _ => rfl
  | k + 1, h => by
    obtain ⟨e0, e1, e2⟩ := ins_left p q (i := k) (by omega)
    rw [stk, stk, stk_left p q k (by omega), e0, e1, e2]
theorem evK_left (p q : Instrs) (ws : Strs) : ∀ k, k ≤ p.length → evK (p ++ q) ws k = evK p ws k
  | 0, _ => rfl
  | k + 1, h => by
    obtain ⟨e0, e1, e2⟩ := ins_left p q (i := k) (by omega)
    rw [evK, evK, evK_left p q ws k (by omega), e0, e1, e2]
theorem stk_right (p q : Instrs) (hp : stk p p.length = some ByteArray.empty) : ∀ j, stk (p ++ q) (p.length + j) = stk q j
  | 0 => by rw [Nat.add_zero, stk_left p q _ (Nat.le_refl _), hp]; rfl
  | j + 1 => by
    obtain ⟨e0, e1, e2⟩ := ins_right p q j
    rw [← Nat.add_assoc, stk, stk, stk_right p q hp j, e0, e1, e2]
theorem evStep_more (op : Nat) (n : Int) (s : ByteArray) (ws : Strs) (S : EVs) (O V : Recs) : evStep op n s ws (S, O ++ V) = (evStep op n s ws (S, V)).map (fun x => (x.1, O ++ x.2)) := by
  unfold evStep
  by_cases hg : (givesB op).size = 0
  · rw [if_pos hg, if_pos hg]
    by_cases h2 : op = 13 ∨ (evAt (S.drop (S.length - (takesB op).size)) 2).2 ≠ 0
    · simp only [if_pos h2, Option.map_some, List.append_assoc]
    · simp only [if_neg h2, Option.map_some]
  · rw [if_neg hg, if_neg hg]
    by_cases h2 : (putV op n s (S.drop (S.length - (takesB op).size)) ws).1.size ≤ 40
    · simp only [if_pos h2, Option.map_some]
    · simp only [if_neg h2, Option.map_none]
theorem evK_right (p q : Instrs) (ws : Strs) {O : Recs} (hp : evK p ws p.length = some ([], O)) : ∀ j, evK (p ++ q) ws (p.length + j) = (evK q ws j).map (fun x => (x.1, O ++ x.2))
  | 0 => by rw [Nat.add_zero, evK_left p q ws _ (Nat.le_refl _), hp]; simp [evK]
  | j + 1 => by
    obtain ⟨e0, e1, e2⟩ := ins_right p q j
    rw [← Nat.add_assoc, evK, evK, evK_right p q ws hp j, e0, e1, e2]
    cases evK q ws j with
    | none => rfl
    | some x => exact evStep_more _ _ _ _ _ _ _
theorem prog_stk_end {p : Instrs} (h : progB p = true) : stk p p.length = some ByteArray.empty := by
  unfold progB at h
  rw [Bool.and_eq_true, decide_eq_true_eq, decide_eq_true_eq] at h
  exact h.2
theorem prog_two {p q : Instrs} (hp : progB p = true) (hq : progB q = true) (h : (p ++ q).length ≤ 30) : progB (p ++ q) = true := by
  unfold progB
  rw [decide_eq_true h, Bool.true_and, decide_eq_true_eq]
  rw [List.length_append, stk_right p q (prog_stk_end hp)]
  exact prog_stk_end hq
theorem evK_end {p : Instrs} {ws : Strs} (hp : progB p = true) (hn : ∀ i, i < p.length → In64 (ins1 p i)) {x : EVs × Recs} (h : evK p ws p.length = some x) : x = ([], x.2) := by
  obtain ⟨st, hs, ho⟩ := evOk_all hp hn _ (Nat.le_refl _) x h
  rw [prog_stk_end hp] at hs
  have := (Option.some.inj hs).symm
  subst this
  have hl := ho.len
  have : x.1 = [] := List.eq_nil_of_length_eq_zero hl
  rw [← this]
/-- One behind the other: codes and records. -/
theorem evalR_two {p q : Instrs} {ws : Strs} (hp : progB p = true) (hq : progB q = true) (h : (p ++ q).length ≤ 30) (hn : ∀ i, i < p.length → In64 (ins1 p i)) :
    evalR (p ++ q) ws = if (evalR p ws).2 = 0 ∧ (evalR q ws).2 = 0 then ((evalR p ws).1 ++ (evalR q ws).1, 0) else ([], max (evalR p ws).2 (evalR q ws).2) := by
  by_cases hw : ws.length ≤ 20
  · cases h1 : evK p ws p.length with
    | none =>
      have e1 : evalR p ws = ([], 2) := evalR_long hp hw (Nat.le_refl _) h1
      have e2 : evalR (p ++ q) ws = ([], 2) := evalR_long (prog_two hp hq h) hw (k := p.length) (by rw [List.length_append]; omega) (by rw [evK_left p q ws _ (Nat.le_refl _), h1])
      have e3 : (evalR q ws).2 = 0 ∨ (evalR q ws).2 = 2 := by
        cases h2 : evK q ws q.length with
        | none => rw [evalR_long hq hw (Nat.le_refl _) h2]; exact .inr rfl
        | some y => rw [evalR_good hq hw h2]; exact .inl rfl
      rw [e2, e1, if_neg (fun h => by have := h.1; simp at this)]
      rcases e3 with e3 | e3 <;> rw [e3] <;> rfl
    | some x =>
      have ex := evK_end hp hn h1
      rw [ex] at h1
      have e1 : evalR p ws = (x.2, 0) := evalR_good (x := ([], x.2)) hp hw h1
      cases h2 : evK q ws q.length with
      | none =>
        have e2 : evalR q ws = ([], 2) := evalR_long hq hw (Nat.le_refl _) h2
        have e3 : evalR (p ++ q) ws = ([], 2) := evalR_long (prog_two hp hq h) hw (k := p.length + q.length) (by rw [List.length_append]; exact Nat.le_refl _) (by rw [evK_right p q ws h1, h2]; rfl)
        rw [e3, e1, e2, if_neg (fun h => by have := h.2; simp at this)]
        rfl
      | some y =>
        have e2 : evalR q ws = (y.2, 0) := evalR_good hq hw h2
        have e3 : evalR (p ++ q) ws = (x.2 ++ y.2, 0) := evalR_good (x := (y.1, x.2 ++ y.2)) (prog_two hp hq h) hw (by rw [List.length_append, evK_right p q ws h1, h2]; rfl)
        rw [e3, e1, e2, if_pos ⟨rfl, rfl⟩]
  · have e1 : evalR p ws = ([], 1) := evalR_no (fun h => hw h.2)
    have e2 : evalR q ws = ([], 1) := evalR_no (fun h => hw h.2)
    have e3 : evalR (p ++ q) ws = ([], 1) := evalR_no (fun h => hw h.2)
    rw [e1, e2, e3, if_neg (fun h => by have := h.1; simp at this)]
    rfl
/-- The last instruction emits: the same on a condition. -/
theorem evalR_if {p : Instrs} {ws : Strs} {O : Recs} (n : Int) (p0 : Instrs) (n0 : Int) (s0 : ByteArray) (hpp : p = p0 ++ [(13, n0, s0)]) (hp : progB p = true) (h30 : p.length < 30) (hr : evalR p ws = (O, 0)) (hn : ∀ i, i < p.length → In64 (ins1 p i)) :
    ∃ O0 r, O = O0 ++ [r] ∧ evalR (p0 ++ [(3, n, ByteArray.empty), (14, 0, ByteArray.empty)]) ws = (if n = 0 then O0 else O, 0) := by
  have hw : ws.length ≤ 20 := by
    by_cases hw : ws.length ≤ 20
    · exact hw
    · rw [evalR_no (fun h => hw h.2)] at hr
      have := congrArg Prod.snd hr
      simp at this
  have hl : p.length = p0.length + 1 := by rw [hpp]; simp
  obtain ⟨st, hst⟩ := prog_stk hp p0.length (by omega)
  have hk : p0.length < p.length := by omega
  have i0 : ins0 p p0.length = 13 ∧ ins1 p p0.length = n0 ∧ ins2 p p0.length = s0 := by
    have := ins_right p0 [(13, n0, s0)] 0
    rw [Nat.add_zero, ← hpp] at this
    exact this
  obtain ⟨st0, h1, h2⟩ := prog_step hp hk hst
  rw [i0.1] at h1 h2
  have h2' : stk p p.length = some (st0 ++ givesB (13 : Int).toNat) := by rw [hl]; exact h2
  rw [prog_stk_end hp] at h2'
  have hst0 : st0 = ByteArray.empty := by
    have := Option.some.inj h2'
    have h3 := congrArg ByteArray.size this
    rw [ByteArray.size_append] at h3
    have h4 : st0.size = 0 := by
      have h5 : ByteArray.empty.size = 0 := rfl
      omega
    exact ByteArray.ext (Array.eq_empty_of_size_eq_zero h4)
  subst hst0
  have hst' : stk p0 p0.length = some ⟨#[84, 78]⟩ := by
    rw [← stk_left p0 [(13, n0, s0)] _ (Nat.le_refl _), ← hpp, hst, h1]; rfl
  -- the stack ahead of the last instruction
  cases hx : evK p0 ws p0.length with
  | none =>
    rw [evalR_long hp hw (k := p0.length) (by omega) (by rw [hpp, evK_left p0 _ ws _ (Nat.le_refl _), hx])] at hr
    have := congrArg Prod.snd hr
    simp at this
  | some x =>
    have hx' : evK p ws p0.length = some x := by rw [hpp, evK_left p0 _ ws _ (Nat.le_refl _), hx]
    obtain ⟨st2, hs2, ho⟩ := evOk_all hp hn p0.length (by omega) x hx'
    rw [hst, h1] at hs2
    have hs2 := (Option.some.inj hs2).symm
    subst hs2
    have hlen := ho.len
    obtain ⟨S, O0⟩ := x
    have h2l : S.length = 2 := hlen
    obtain ⟨u, v, rfl⟩ : ∃ u v, S = [u, v] := by
      match S, h2l with
      | [u, v], _ => exact ⟨u, v, rfl⟩
    have hend : evK p ws p.length = some ([], O0 ++ [(u.1, v.2)]) := by
      rw [hl, evK_step hx', i0.1, i0.2.1, i0.2.2]
      rfl
    rw [evalR_good hp hw hend] at hr
    have hO := congrArg Prod.fst hr
    simp only at hO
    obtain ⟨Q, hQ⟩ : ∃ Q, p0 ++ [(3, n, ByteArray.empty), (14, 0, ByteArray.empty)] = Q := ⟨_, rfl⟩
    have hQl : Q.length = p0.length + 2 := by rw [← hQ]; simp
    have j0 : ins0 Q p0.length = 3 ∧ ins1 Q p0.length = n ∧ ins2 Q p0.length = ByteArray.empty := by
      have := ins_right p0 [(3, n, ByteArray.empty), (14, 0, ByteArray.empty)] 0
      rw [Nat.add_zero, hQ] at this
      exact this
    have j1 : ins0 Q (p0.length + 1) = 14 ∧ ins1 Q (p0.length + 1) = 0 ∧ ins2 Q (p0.length + 1) = ByteArray.empty := by
      have := ins_right p0 [(3, n, ByteArray.empty), (14, 0, ByteArray.empty)] 1
      rw [hQ] at this
      exact this
    have k0 : stk Q p0.length = some ⟨#[84, 78]⟩ := by rw [← hQ, stk_left p0 _ _ (Nat.le_refl _), hst']
    have k1 : stk Q (p0.length + 1) = some ⟨#[84, 78, 78]⟩ := by rw [stk, k0, j0.1, j0.2.1, j0.2.2]; rfl
    have k2 : stk Q (p0.length + 2) = some ByteArray.empty := by rw [stk, k1, j1.1, j1.2.1, j1.2.2]; rfl
    have hQp : progB Q = true := by
      unfold progB
      rw [hQl, decide_eq_true (by omega), Bool.true_and, decide_eq_true_eq, k2]
    have m0 : evK Q ws p0.length = some ([u, v], O0) := by rw [← hQ, evK_left p0 _ ws _ (Nat.le_refl _), hx]
    have m1 : evK Q ws (p0.length + 1) = some ([u, v, (ByteArray.empty, n)], O0) := by rw [evK_step m0, j0.1, j0.2.1, j0.2.2]; rfl
    have m2 : evK Q ws (p0.length + 2) = some ([], if n = 0 then O0 else O0 ++ [(u.1, v.2)]) := by
      rw [evK_step m1, j1.1, j1.2.1, j1.2.2]
      show some ([], if (14 : Nat) = 13 ∨ n ≠ 0 then O0 ++ [(u.1, v.2)] else O0) = _
      by_cases hz : n = 0
      · rw [if_neg (fun h => h.elim (fun h => absurd h (by decide)) (fun h => h hz)), if_pos hz]
      · rw [if_pos (.inr hz), if_neg hz]
    refine ⟨O0, (u.1, v.2), hO.symm, ?_⟩
    rw [hQ, evalR_good hQp hw (by rw [hQl]; exact m2), ← hO]
end Go.Proofs.YthnlllbanfemaaaGreatDoor
