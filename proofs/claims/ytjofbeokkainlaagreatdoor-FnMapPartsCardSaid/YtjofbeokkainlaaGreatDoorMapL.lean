
/- The drawn law on map tasks, walked: each part holds its own keys in order, and all parts hold what the lines emit, combined. -/
import Derived.Test.YtjofbeokkainlaaGreatDoorMg17
import Derived.Test.YtjofbeokkainlaaGreatDoorMg40
import Derived.Test.YtjofbeokkainlaaGreatDoorMg47
import Derived.Test.YtjofbeokkainlaaGreatDoorMg46
import Derived.Test.YtjofbeokkainlaaGreatDoorSo8
import Derived.Test.YtjofbeokkainlaaGreatDoorMg2
import Derived.Test.YtjofbeokkainlaaGreatDoorMg21
import Derived.Test.YtjofbeokkainlaaGreatDoorNumsR
import Derived.Test.YtjofbeokkainlaaGreatDoorMg20
import Derived.BigQuiet
namespace Go.Proofs.YtjofbeokkainlaaGreatDoor
open Go.ChangeShapes Go.WideShapes Go.ChangeAt Go.RowKit Go.MuLone
set_option linter.unusedVariables false
set_option maxRecDepth 100000

theorem partN_rangeL (s : ByteArray) {n : Nat} (h1 : 1 ≤ n) (h3 : n ≤ 3) : 0 ≤ partN s (n : Int) ∧ partN s (n : Int) < (n : Int) := by
  have e : partN s (n : Int) = hashL s.data.toList % (n : Int) := by unfold partN; rw [if_neg (by omega)]
  rw [e]
  exact ⟨Int.emod_nonneg _ (by omega), Int.emod_lt_of_pos _ (by omega)⟩
theorem run_app_rcC (w : World) (base c : Nat) (ty : TypeId) (v : Value) (n : Nat) (xs : List Value) (hown : w.ownsRow base 37 2 v n xs) : (Builtin.append_ #[34, 34] ty #[v, .slice none 0 c]).run Tryz.prog w = .ok v w := by
  obtain ⟨i0, hi, hz0, hz1, hz2⟩ := info_parts infoRc
  rcases hown.2 with ⟨rfl, rfl⟩ | ⟨g, cap, cur, rfl, _, _, hnc, _⟩
  · simp [Builtin.append_, run_underlying Tryz.underlying34, sizeOf, typeInfo, hi, Builtin.lenOf, Builtin.firstCells]
  · simp [Builtin.append_, run_underlying Tryz.underlying34, sizeOf, typeInfo, hi, Builtin.lenOf, Builtin.firstCells, hnc, storeCells]
theorem wp_append_rcC {o : Oper} {a : Act} {K : Act → World → Prop} {Q : Exit → Act → World → Prop} {w : World} (s x : Operand)
    (ho : o.op = .call { callee := .builtin .append, args := #[s, x], argTypes := #[34, 34] })
    (base : Nat) (v : Value) (n : Nat) (W : Recs) (hs : a.eval s = v) (hown : w.ownsRow base 37 2 v n (cellsRc W))
    (q : Option Addr) (m c : Nat) (V : Recs) (hx : a.eval x = .slice q m c) (hrec : RecsAt w q m V) (h6 : n + m ≤ 2097152) (hbase : base ≤ w.heap.size)
    (h : ∀ q' c' w', w'.ownsRow base 37 2 (.slice q' (n + m) c') (n + m) (cellsRc (W ++ V)) → w.grownBy w' v.ownBlock → K (a.put o.dst (.slice q' (n + m) c')) w') : o.wp Tryz.prog a w K Q := by
  cases q with
  | some q => exact wp_append_rc s x ho base v n W hs hown (some q) m c V hx hrec (fun h => by cases h) h6 hbase h
  | none =>
    have hm : m = 0 := by
      rcases hrec.src with h0 | ⟨b, off, ha, _⟩
      · exact h0
      · cases ha
    subst hm
    obtain rfl : V = [] := List.eq_nil_of_length_eq_zero hrec.length
    obtain ⟨q', c', rfl⟩ := own_form hown
    have h0 := h q' c' w (by simpa using hown) (World.grownBy.refl _ _)
    have hrun := run_app_rcC w base c o.type _ n _ hown
    unfold Oper.wp
    simp [execOp, ho, resolve, invoke, builtin, hs, hx, hrun, Result.andThen]
    exact h0
theorem append_rcC {ops : Array Oper} {rest : List Oper} {o : Oper} {a : Act} {Q : Exit → Act → World → Prop} {w : World} (hg : o.guard = none) (s x : Operand)
    (ho : o.op = .call { callee := .builtin .append, args := #[s, x], argTypes := #[34, 34] })
    (base : Nat) (v : Value) (n : Nat) (W : Recs) (hs : a.eval s = v) (hown : w.ownsRow base 37 2 v n (cellsRc W))
    (q : Option Addr) (m c : Nat) (V : Recs) (hx : a.eval x = .slice q m c) (hrec : RecsAt w q m V) (h6 : n + m ≤ 2097152) (hbase : base ≤ w.heap.size)
    (h : ∀ q' c' w', w'.ownsRow base 37 2 (.slice q' (n + m) c') (n + m) (cellsRc (W ++ V)) → w.grownBy w' v.ownBlock → wpList Tryz.prog ops Q rest (a.put o.dst (.slice q' (n + m) c')) w') : wpList Tryz.prog ops Q (o :: rest) a w :=
  wpList_plain hg fun _ hK => wp_append_rcC s x ho base v n W hs hown q m c V hx hrec h6 hbase fun q' c' w' h2 h3 => hK _ _ (h q' c' w' h2 h3)
theorem emitTo_le {l : Instrs} {each : Bool} {L : Strs} {V : Recs} {n : Nat} (h : emitTo l each L n = (V, 0)) : ∀ d k, k + d = n → (emitTo l each L k).1.length ≤ V.length
  | 0, k, hk => by obtain rfl : k = n := by omega
                   rw [h]; exact Nat.le_refl _
  | d + 1, k, hk => by
    have h1 := emitTo_le h d (k + 1) (by omega)
    rw [(emitTo_line h (show k < n by omega)).2, List.length_append] at h1
    omega
theorem part_quiet {f : FuncId} {args : Array Value} {w : World} {n : Nat} {x y : Int} (h : Calls Tryz.prog f args (w.drewN n) fun e w' => e = .returned (.int .i64 x) ∧ w.drewN n = w') (hx : x = y) :
    Calls Tryz.prog f args (w.drewN n) fun e w'' => e = .returned (.int .i64 y) ∧ ∃ m, w'' = w.drewN m := h.mono fun _ _ ⟨he, hw⟩ => ⟨by rw [he, hx], n, hw.symm⟩
theorem allTo_all (LS : List Recs) : allTo LS LS.length = LS.flatten := by unfold allTo; rw [List.take_length]

set_option maxHeartbeats 16000000 in
theorem fnMapParts_walk (w : World) (a : Option Addr) (len cap : Nat) (h : Src w a len) (hT : TabsRP w) :
    Calls Tryz.prog 3 #[.slice a len cap] w fun e w' => e = .returned (.bool true) ∧ Below w.heap.size w w' := by
  by_cases hbig : 1048576 < len
  · go_enter Tryz.func3, Tryz.ntmps3
    go_wp2_with fail
    refine (big_yes _ _ _ _ hbig).mono ?_
    rintro e w' ⟨rfl, rfl⟩
    go_wp2_with fail
    go_ret
    exact ⟨rfl, Below.refl _ _⟩
  have HT := Lib.hid hT
  have H := Lib.hid h
  clear hT h
  go_enter Tryz.func3, Tryz.ntmps3
  go_wp2_with fail
  refine (big_no _ _ _ _ hbig).mono ?_
  rintro e w' ⟨rfl, rfl⟩
  go_wp2_with fail
  refine (drawmp_any _ _ _ _ H.out).mono ?_
  rintro e w1 ⟨pq, pn, pc, W, sq, sn, sc, M, e1, o1, n1, t, rfl, hj, hsn5, hsz, hin, hB⟩
  obtain ⟨B, hBe⟩ : ∃ B, w1.heap.size = B := ⟨_, rfl⟩
  obtain ⟨w2, hw2⟩ : ∃ w2, w1.alloc (.cells #[.slice pq pn pc, .bool e1, .int .i64 o1, .int .i64 n1, .slice sq sn sc] 27) = w2 := ⟨_, rfl⟩
  have HW2 := Lib.hid hw2
  have HBE := Lib.hid hBe
  have HX := Lib.hid (show Row w2 B 27 #[.slice pq pn pc, .bool e1, .int .i64 o1, .int .i64 n1, .slice sq sn sc] from by rw [← hw2, ← hBe]; exact row_new _ _ _)
  have hBA : Below w1.heap.size w1 w2 := hw2 ▸ below_alloc (Below.refl _ _) _
  have HJ := Lib.hid (hj.keep hBA)
  have HIN := Lib.hid hin
  have HINL := Lib.hid (show ∀ i, i < W.length → In64 (ins1 W i) from fun i hi => hin i (by rw [← hj.i.length]; exact hi))
  have HZ := Lib.hid (show ∀ i, i < sn → (strAt M i).size ≤ 1048576 from fun i hi => by have := hsz i hi; omega)
  have HB := Lib.hid (below_via hB hBA)
  obtain ⟨LS, hLS⟩ : ∃ x, (mapJ W e1 o1 n1 M sn t).1 = x := ⟨_, rfl⟩
  obtain ⟨c, hc⟩ : ∃ x, (mapJ W e1 o1 n1 M sn t).2 = x := ⟨_, rfl⟩
  have HRES := Lib.hid (show mapJ W e1 o1 n1 M sn t = (LS, c) by rw [← hLS, ← hc])
  have HF := Lib.hid (mapJ_few W e1 o1 n1 M sn t)
  rw [hLS] at HF
  obtain ⟨n, hnn⟩ : ∃ n, LS.length = n := ⟨_, rfl⟩
  have HNN := Lib.hid hnn
  have hn3 : n ≤ 3 := by rw [← hnn]; exact HF.out.few
  have x0 := HX.out.cell (j := 0) (by simp)
  have x1 := HX.out.cell (j := 1) (by simp)
  have x2 := HX.out.cell (j := 2) (by simp)
  have x3 := HX.out.cell (j := 3) (by simp)
  have x4 := HX.out.cell (j := 4) (by simp)
  simp at x0 x1 x2 x3 x4
  clear hj hsz hin hB hBA hLS hc hnn hw2 hBe
  rw [← HW2.out, ← HBE.out] at x0 x1 x2 x3 x4
  go_wp2_with fail
  rw [HW2.out]
  try rw [HBE.out]
  refine (mapof_any pq sq pn pc sn sc e1 o1 n1 W M t _ HJ.out HIN.out HZ.out (HT.out.keep HB.out)).mono ?_
  unfold MadeSS
  simp only [HRES.out, HNN.out]
  rintro e w3 ⟨q1, cp1, rfl, hB, hr⟩
  have HL1 := Lib.hid (show RunLs w3 q1 n LS from by have := hr.ls HF.out; rw [HNN.out] at this; exact this)
  have HX := Lib.hid (HX.out.keep hB)
  have HJ := Lib.hid (HJ.out.keep hB)
  have HB := Lib.hid (below_via HB.out hB)
  clear hB hr x0 x1 x2 x3 x4
  have x0 := HX.out.cell (j := 0) (by simp)
  have x1 := HX.out.cell (j := 1) (by simp)
  have x2 := HX.out.cell (j := 2) (by simp)
  have x3 := HX.out.cell (j := 3) (by simp)
  have x4 := HX.out.cell (j := 4) (by simp)
  simp at x0 x1 x2 x3 x4
  go_wp2_with fail
  refine (smapof_any pq sq pn pc sn sc e1 o1 n1 W M t _ HJ.out HIN.out HZ.out).mono ?_
  unfold MadeSO
  simp only [HRES.out, HNN.out]
  rintro e w4 ⟨q2, cp2, XS2, rfl, ho⟩
  have HL2 := Lib.hid (ho.ls HNN.out (by unfold maxLen; omega) HF.out.short)
  have HX := Lib.hid (HX.out.keep ho.below)
  have HJ := Lib.hid (HJ.out.keep ho.below)
  have HL1 := Lib.hid (HL1.out.keep ho.below)
  have HB := Lib.hid (below_via HB.out ho.below)
  clear ho x0 x1 x2 x3 x4
  have hcc : (c != c) = false := by simp
  have hce : (c == c) = true := by simp
  go_wp2_with fail
  refine (sameruns_same _ _ _ _ _ _ _ HL1.out HL2.out).mono ?_
  rintro e w5 ⟨rfl, hB⟩
  have HX := Lib.hid (HX.out.keep hB)
  have HJ := Lib.hid (HJ.out.keep hB)
  have HL1 := Lib.hid (HL1.out.keep hB)
  have HL2 := Lib.hid (HL2.out.keep hB)
  have HB := Lib.hid (below_via HB.out hB)
  clear hB
  by_cases hc0 : c = 0
  case neg =>
    have hz3 : (c != (0 : Int)) = true := by rw [bne_iff_ne]; exact hc0
    go_wp2_with fail
    refine (sameruns_same _ _ _ _ _ _ _ HL1.out HL2.out).mono ?_
    rintro e w6 ⟨rfl, hB⟩
    have HB := Lib.hid (below_via HB.out hB)
    clear hB
    go_wp2
    go_ret
    exact ⟨rfl, HB.out⟩
  subst hc0
  obtain ⟨tn, N1, V, rfl, htn, rfl, hN1, hN3, hop, hlk, hLSR, hem, hV6, hVf⟩ := map_good HINL.out HRES.out
  have HLSR := Lib.hid hLSR
  have HEM := Lib.hid hem
  have HVF := Lib.hid hVf
  have HOP := Lib.hid hop
  have HLK := Lib.hid hlk
  have HRC := Lib.hid (show recsOkB V = true from recsOk_mem (fun r hr => (hVf r hr).1) hV6)
  have HSO := Lib.hid (runs_sorted (k := N1) hop HRC.out (by omega) (fun s => partN_rangeL s hN1 hN3))
  rw [← hLSR] at HSO
  obtain rfl : n = N1 := by rw [← HNN.out, hLSR, runsR_len]
  have HKU := Lib.hid (show ∀ k, k < n → KeyUp (LS.getD k []) ∧ ∀ r ∈ LS.getD k [], partN r.1 (n : Int) = (k : Int) from fun k hk => by
    rw [hLSR, runsR_at hk]
    exact ⟨ofR_up hop HRC.out k, fun r hr => ofR_part hr⟩)
  have HFL := Lib.hid (show ∀ r ∈ LS.flatten, r.1.size ≤ 40 ∧ In64 r.2 from fun r hr => by
    obtain ⟨L, hL, hr2⟩ := List.mem_flatten.1 hr
    obtain ⟨i, hi, e⟩ := List.mem_iff_getElem.1 hL
    have hi2 : i < n := by rw [← HNN.out]; exact hi
    have e2 : LS.getD i [] = LS[i] := by rw [List.getD_eq_getElem?_getD, List.getElem?_eq_getElem hi]; rfl
    rw [← e, ← e2, hLSR, runsR_at hi2] at hr2
    unfold ofR at hr2
    exact ⟨comb_short _ _ r hr2, combW_in (liftW_in fun s hs => (hVf s (partL_mem hs)).2) r hr2⟩)
  clear hLSR hem hVf hop hlk hcc hce
  have HA0 := Lib.hid (show (w5.alloc (.cells #[] 37)).ownsRow w5.heap.size 37 2 (.slice (some ⟨w5.heap.size, 0, none⟩) 0 0) 0 (cellsRc (allTo LS 0)) ∧ Below w5.heap.size w5 (w5.alloc (.cells #[] 37)) from ⟨own_zeroRc (ot_row_new w5 #[] 37) (Nat.le_refl _), below_alloc (Below.refl _ _) _⟩)
  go_wp2_with fail
  go_loopw [9, 10] (fun v i wr => ∃ (k m : Nat) (q : Option Addr) (cq : Nat), k ≤ n ∧ v = .slice q m cq ∧ i = .int .i64 k ∧ m ≤ 600 ∧ Hid ((allTo LS k).length = m) ∧ Hid (wr.ownsRow w5.heap.size 37 2 (.slice q m cq) m (cellsRc (allTo LS k)) ∧ Below w5.heap.size w5 wr)) (fun _ i _ => n - (intOf i).toNat)
  case atStart => exact ⟨0, 0, _, _, Nat.zero_le _, rfl, rfl, Nat.zero_le _, Lib.hid (by simp [allTo]), HA0⟩
  case round =>
    clear HA0
    obtain ⟨k, m, q, cq, hk, rfl, rfl, hm6, HM, HA⟩ := hrel
    by_cases hlt : k < n
    · have HKK := Lib.hid (HKU.out k hlt)
      have hkl : k < LS.length := by rw [HNN.out]; exact hlt
      have HST := Lib.hid (allTo_step LS k hkl)
      have HM6 := Lib.hid (show (allTo LS (k + 1)).length ≤ 600 from Nat.le_trans (allTo_le LS (k + 1)) HSO.out.2)
      rcases HL1.out.2.2 with hz | ⟨b, off, rfl, hb, hc⟩
      · omega
      obtain ⟨p, lm, lc, z0, hre⟩ := hc k hlt
      obtain ⟨L, hL⟩ : ∃ L, LS.getD k [] = L := ⟨_, rfl⟩
      rw [hL] at hre HKK HST
      rw [HST.out, List.length_append, HM.out] at HM6
      have HRE := Lib.hid hre
      have HLL := Lib.hid hre.length
      have hlm : m + lm ≤ 600 := by have := HM6.out; rw [HLL.out] at this; exact this
      have Z0 := Lib.hid z0
      have HBL := Lib.hid hb
      have hk1 : (k : Int) < (n : Int) := by omega
      have hk0 : (0 : Int) ≤ (k : Int) := by omega
      have HSZK := Lib.hid (show ∀ j, j < lm → (keyAt L j).size ≤ maxLen from hre.keys)
      clear hc z0 hre hb hL hkl
      go_wp2_with fail
      go_loopw [11] (fun i wy => ∃ j : Nat, j ≤ lm ∧ i = .int .i64 j ∧ Hid (wy.ownsRow w5.heap.size 37 2 (.slice q m cq) m (cellsRc (allTo LS k)) ∧ Below w5.heap.size w5 wy)) (fun i _ => lm - (intOf i).toNat)
      case atStart => exact ⟨0, Nat.zero_le _, rfl, HA⟩
      case round =>
        clear HA
        obtain ⟨j, hj, rfl, HA⟩ := hrel
        have z0 := (HA.out.2.cell (p := ⟨b, off + k, none⟩) HBL.out).trans Z0.out
        by_cases hjl : j < lm
        · rcases HRE.out.src with hz | ⟨b2, o2, rfl, hb2, hc2⟩
          · omega
          have HC2 := Lib.hid hc2
          have HB2 := Lib.hid hb2
          have y0 := (HA.out.2.cell (p := ⟨b2, o2 + j * 2, none⟩) hb2).trans (hc2 j hjl).1
          have x3 := ((HX.out.keep HA.out.2).cell (j := 3) (by simp))
          simp at x3
          have hjL : j < L.length := by rw [HLL.out]; exact hjl
          have HPK := Lib.hid (show partN (keyAt L j) (n : Int) = (k : Int) from by
            have := HKK.out.2 L[j] (List.getElem_mem hjL)
            rw [at_get L j hjL] at this
            exact this)
          have HSZ := Lib.hid (HSZK.out j hjl)
          have hj1 : (j : Int) < (lm : Int) := by omega
          have hj0 : (0 : Int) ≤ (j : Int) := by omega
          have hkk : ((k : Int) != (k : Int)) = false := by simp
          clear hc2 hb2
          by_cases hjz : 0 < j
          · obtain ⟨jp, hp1, hp2⟩ : ∃ p : Nat, (j : Int) - 1 = (p : Int) ∧ p + 1 = j := ⟨j - 1, by omega, by omega⟩
            have d0 := (HA.out.2.cell (p := ⟨b2, o2 + jp * 2, none⟩) HB2.out).trans (HC2.out jp (by omega)).1
            have hm0 : (0 : Int) ≤ (jp : Int) := by omega
            have hmn : (jp : Int) < (lm : Int) := by omega
            have hg1 : decide ((0 : Int) < (j : Int)) = true := by simp; omega
            have hlt2 : Op.bytesLess (keyAt L jp).toList (keyAt L j).toList = true := by
              have hup := HKK.out.1
              have hjp : jp < L.length := by omega
              have := (List.pairwise_iff_getElem.1 hup) jp j hjp hjL (by omega)
              rw [at_get L jp hjp, at_get L j hjL] at this
              exact (bltIff _ _).2 this
            go_wp2_with fail
            have hw1 : IntKind.i64.wrap (jp : Int) = (jp : Int) := IntWalk.i64_in _ (by omega)
            have HP2 := Lib.hid hp2
            clear hp2
            go_quiet ((go_at_call 9; exact part_quiet (part_any _ _ _ HSZ.out) HPK.out))
            clear hw1
            go_wp2
            go_roundw
            case rel => exact ⟨j + 1, by omega, by go_num, own_below HA.out.1 (below_drewN (Below.refl _ _) _), below_drewN HA.out.2 _⟩
            case measure => simp [intOf]; omega
          · obtain rfl : j = 0 := by omega
            simp only [Nat.zero_mul, Nat.add_zero] at y0
            go_wp2_with fail
            go_quiet ((go_at_call 9; exact part_quiet (part_any _ _ _ HSZ.out) HPK.out))
            go_wp2
            go_roundw
            case rel => exact ⟨1, by omega, by go_num, own_below HA.out.1 (below_drewN (Below.refl _ _) _), below_drewN HA.out.2 _⟩
            case measure => simp [intOf]; omega
        · obtain rfl : j = lm := by omega
          have HREW := Lib.hid (HRE.out.keep HA.out.2)
          go_wp2_with (at_builtin; go_loud (refine append_rcC rfl _ _ rfl w5.heap.size (.slice q m cq) m (allTo LS k) rfl HA.out.1 p j lc L rfl HREW.out (by omega) HA.out.2.size ?_); intro q5 c5 w6 hown hgrow; have HA6 := Lib.hid (show w6.ownsRow w5.heap.size 37 2 (.slice q5 (m + j) c5) (m + j) (cellsRc (allTo LS (k + 1))) ∧ Below w5.heap.size w5 w6 from ⟨by rw [HST.out]; exact hown, HA.out.2.grown hgrow HA.out.2.size (fun i hi => (HA.out.1.lt i hi).1)⟩); clear hown hgrow)
          go_roundw
          case rel => exact ⟨k + 1, m + j, q5, c5, by omega, rfl, by go_num, hlm, Lib.hid (by rw [HST.out, List.length_append, HM.out, HLL.out]), HA6⟩
          case measure => simp [intOf]; omega
    · obtain rfl : k = n := by omega
      have HALL := Lib.hid (show allTo LS k = LS.flatten by rw [← HNN.out]; exact allTo_all LS)
      rw [HALL.out] at HM HA
      rcases HJ.out.t.src with hz | ⟨sb, soff, rfl, hsb, hsc⟩
      · omega
      obtain ⟨S, hS⟩ : ∃ S, strAt M tn = S := ⟨_, rfl⟩
      have s0 := (HA.out.2.cell (p := ⟨sb, soff + tn, none⟩) hsb).trans (hsc tn htn)
      have HSZ := Lib.hid (HZ.out tn htn)
      rw [hS] at s0 HSZ
      have HSE := Lib.hid hS
      have HEM := Lib.hid HEM.out
      rw [HSE.out] at HEM HLK
      have hsz6 : S.size ≤ 1048576 := HSZ.out
      have x4 := ((HX.out.keep HA.out.2).cell (j := 4) (by simp))
      simp at x4
      have ht1 : (tn : Int) < (sn : Int) := by omega
      have ht0 : (0 : Int) ≤ (tn : Int) := by omega
      clear hsb hsc hS
      go_wp2_with fail
      refine (linesof_any S _ hsz6).mono ?_
      rw [HLK.out]
      rintro e w6 ⟨lq, lc, rfl, hws, hB⟩
      have HSH := Lib.hid (lines_short S)
      have HFEW := Lib.hid (linesW_few S.data.toList)
      obtain ⟨WL, hWL⟩ : ∃ WL, linesW S.data.toList = WL := ⟨_, rfl⟩
      obtain ⟨wn, hwn⟩ : ∃ wn, WL.length = wn := ⟨_, rfl⟩
      obtain ⟨LL, hL⟩ : ∃ L, strsOf WL = L := ⟨_, rfl⟩
      rw [hWL] at hws HSH HFEW HEM
      rw [hL] at HEM
      rw [hWL, hwn]
      have HWN := Lib.hid hwn
      have HLL := Lib.hid (show LL.length = wn by rw [← hL, ← hwn]; simp [strsOf])
      rw [HLL.out] at HEM
      have HLS := Lib.hid hL
      have hwn10 : wn ≤ 10 := by rw [← hwn]; exact HFEW.out.1
      have HAL := Lib.hid (rck_recs (rck_of_own (m := m) (cp := cq) (W := LS.flatten) (by have := HA.out.1; rw [HM.out]; exact this)) HM.out HFL.out (by omega))
      have HAW := Lib.hid (HAL.out.keep hB)
      have HBW := Lib.hid (below_via HA.out.2 hB)
      have HWQ := Lib.hid (fun h0 => ws_some hws h0)
      have HWS := Lib.hid hws
      have HC0 := Lib.hid (show (w6.alloc (.cells #[] 37)).ownsRow w6.heap.size 37 2 (.slice (some ⟨w6.heap.size, 0, none⟩) 0 0) 0 (cellsRc (emitTo W e1 LL 0).1) ∧ Below w6.heap.size w6 (w6.alloc (.cells #[] 37)) from ⟨own_zeroRc (ot_row_new w6 #[] 37) (Nat.le_refl _), below_alloc (Below.refl _ _) _⟩)
      clear hws hB hWL hwn hL x4 s0
      go_wp2_with fail
      have HX6 := Lib.hid (HX.out.keep HBW.out)
      have HXB := Lib.hid (show Below w.heap.size w w6 from below_via HB.out HBW.out)
      have HJ6 := Lib.hid (HJ.out.keep HBW.out)
      go_loopw [13, 14, 15] (fun bv v i wr => ∃ (k mk : Nat) (qm : Option Addr) (cm : Nat), k ≤ wn ∧ bv = .bool true ∧ v = .slice qm mk cm ∧ i = .int .i64 k ∧ mk ≤ 600 ∧ Hid ((emitTo W e1 LL k).1.length = mk) ∧ Hid (wr.ownsRow w6.heap.size 37 2 (.slice qm mk cm) mk (cellsRc (emitTo W e1 LL k).1) ∧ Below w6.heap.size w6 wr)) (fun _ _ i _ => wn - (intOf i).toNat)
      case atStart => exact ⟨0, 0, _, _, Nat.zero_le _, rfl, rfl, rfl, Nat.zero_le _, Lib.hid rfl, HC0⟩
      case round =>
        clear HC0
        obtain ⟨k', mk, qm, cm, hk', rfl, rfl, rfl, hmk, HMK, HC⟩ := hrel
        by_cases hkl : k' < wn
        · obtain ⟨g, rfl, hg⟩ := HWQ.out (by rw [HWN.out]; omega)
          have hi0 : (0 : Int) ≤ (k' : Int) := by omega
          have hi1 : (k' : Int) < (wn : Int) := by omega
          have HSTR := Lib.hid (show StrsAt w6 (some ⟨g, 0, none⟩) wn LL from by have h1 := strs_of_ws HWS.out HSH.out; rw [HWN.out, HLS.out] at h1; exact h1)
          rcases HSTR.out.src with hz | ⟨gb, goff, hq, hgb, hgc⟩
          · omega
          simp only [Option.some.injEq, Addr.mk.injEq, and_true] at hq
          obtain ⟨rfl, rfl⟩ := hq
          have CK := Lib.hid (show w6.cell? ⟨g, k', none⟩ = some (.string (strAt LL k')) from by have h := hgc k' hkl; rw [Nat.zero_add] at h; exact h)
          have HGB := Lib.hid hgb
          have HLZ := Lib.hid (show (strAt LL k').size ≤ 1048576 from by
            have hk2 : k' < WL.length := by rw [HWN.out]; exact hkl
            have h1 := HFEW.out.2 _ (List.getElem_mem hk2)
            rw [← HLS.out, strAt_of WL k' hk2]
            show (WL[k'].toArray).size ≤ 1048576
            rw [List.size_toArray]; omega)
          obtain ⟨hlr, hle⟩ := emitTo_line HEM.out hkl
          have HLE := Lib.hid hle
          have HLN := Lib.hid (emitTo_le HEM.out (wn - (k' + 1)) (k' + 1) (by omega))
          rw [HLE.out, List.length_append, HMK.out] at HLN
          obtain ⟨y, hy⟩ : ∃ y, strAt LL k' = y := ⟨_, rfl⟩
          rw [hy] at CK HLZ hlr HLE HLN
          obtain ⟨O, hO⟩ : ∃ O, (lineR W e1 y).1 = O := ⟨_, rfl⟩
          have HLR := Lib.hid (show lineR W e1 y = (O, 0) by rw [← hO, ← hlr])
          have HLF := Lib.hid (lineR_facts (each := e1) (s := y) HINL.out)
          rw [HLR.out] at HLF
          rw [hO] at HLE HLN
          obtain ⟨on, hon⟩ : ∃ on, O.length = on := ⟨_, rfl⟩
          have HON := Lib.hid hon
          have hmo : mk + on ≤ 600 := by have := HLN.out; rw [HON.out] at this; omega
          clear hgc hgb hg hy hlr hle hO hon
          go_wp2_with fail
          refine wp_region_noPanic ?_
          obtain ⟨v0, hv0⟩ : ∃ x, wr.drew = x := ⟨_, rfl⟩
          have hdd : Below wr.heap.size wr v0 := by rw [← hv0]; exact below_drewN (Below.refl _ _) 1
          have HO0 := Lib.hid (own_below HC.out.1 hdd)
          have HS0 := Lib.hid (below_via HC.out.2 hdd)
          refine wp_region_held_drew (S := (fun w' => Hid (Below w6.heap.size w6 w'))) (by kernel_rfl) (by rw [hv0]; exact HS0) (fun HS => ?_)
          rw [hv0] at HS ⊢
          clear hv0 hdd
          refine held_take (i := 0) (d := 134) (v := .pointer (some ⟨B, 0, none⟩)) rfl rfl (by kernel_rfl) (by kernel_rfl) (by kernel_rfl) (by kernel_rfl) (fun wx hS => by go_simp) HS ?_
          refine held_take (i := 1) (d := 135) (v := .slice pq pn pc) rfl rfl (by kernel_rfl) (by kernel_rfl) (by kernel_rfl) (by kernel_rfl) (fun wx hS => by have x0 := (HX6.out.keep hS.out).cell (j := 0) (by simp); simp at x0; go_simp) HS ?_
          refine held_take (i := 2) (d := 136) (v := .pointer (some ⟨B, 1, none⟩)) rfl rfl (by kernel_rfl) (by kernel_rfl) (by kernel_rfl) (by kernel_rfl) (fun wx hS => by go_simp) HS ?_
          refine held_take (i := 3) (d := 137) (v := .bool e1) rfl rfl (by kernel_rfl) (by kernel_rfl) (by kernel_rfl) (by kernel_rfl) (fun wx hS => by have x1 := (HX6.out.keep hS.out).cell (j := 1) (by simp); simp at x1; go_simp) HS ?_
          refine held_take (i := 4) (d := 138) (v := .slice (some ⟨g, 0, none⟩) wn lc) rfl rfl (by kernel_rfl) (by kernel_rfl) (by kernel_rfl) (by kernel_rfl) (fun wx hS => by go_simp) HS ?_
          refine held_take (i := 5) (d := 139) (v := (.int .i64 (k' : Int))) rfl rfl (by kernel_rfl) (by kernel_rfl) (by kernel_rfl) (by kernel_rfl) (fun wx hS => by go_simp) HS ?_
          refine held_take (i := 6) (d := 140) (v := (.pointer (some ⟨g, k', none⟩))) rfl rfl (by kernel_rfl) (by kernel_rfl) (by kernel_rfl) (by kernel_rfl) (fun wx hS => by go_simp) HS ?_
          refine held_take (i := 7) (d := 141) (v := .string y) rfl rfl (by kernel_rfl) (by kernel_rfl) (by kernel_rfl) (by kernel_rfl) (fun wx hS => by have ck := (hS.out.cell (p := ⟨g, k', none⟩) HGB.out).trans CK.out; go_simp) HS ?_
          refine wpAnyH_ready (rs := [8]) (by kernel_rfl) (by simp) (AllReadyH.cons rfl (fun K hK => ?_) AllReadyH.nil)
          go_simp
          refine (iline_any pq pn pc W e1 y _ (HJ6.out.i.keep HS.out) HIN.out HLZ.out (HT.out.keep (below_via HXB.out HS.out))).mono ?_
          unfold MadeRun
          simp only [HLR.out, HON.out]
          rintro e w8 ⟨q8, c8, rfl, hB, hkk8, hq8, _⟩
          have HO8 := Lib.hid (own_below HO0.out hB)
          have HS8 := Lib.hid (below_via HS.out hB)
          have HR8 := Lib.hid (rck_recs hkk8 HON.out HLF.out.2.1 (by omega))
          clear hB hkk8 hq8 HO0
          refine hK.out _ _ HS8 (fun HS => ?_)
          clear hK K
          refine held_take (i := 9) (d := 133) (v := .tuple #[.slice q8 on c8, .int .i64 0]) rfl rfl (by kernel_rfl) (by kernel_rfl) (by kernel_rfl) (by kernel_rfl) (fun wx hS => by go_simp) HS ?_
          refine held_take (i := 10) (d := 143) (v := .slice q8 on c8) rfl rfl (by kernel_rfl) (by kernel_rfl) (by kernel_rfl) (by kernel_rfl) (fun wx hS => by go_simp) HS ?_
          refine held_take (i := 11) (d := 144) (v := .int .i64 0) rfl rfl (by kernel_rfl) (by kernel_rfl) (by kernel_rfl) (by kernel_rfl) (fun wx hS => by go_simp) HS ?_
          refine held_take (i := 12) (d := 16) (v := .slice q8 on c8) rfl rfl (by kernel_rfl) (by kernel_rfl) (by kernel_rfl) (by kernel_rfl) (fun wx hS => by go_simp) HS ?_
          refine held_take (i := 13) (d := 17) (v := .int .i64 0) rfl rfl (by kernel_rfl) (by kernel_rfl) (by kernel_rfl) (by kernel_rfl) (fun wx hS => by go_simp) HS ?_
          refine wpAnyH_done (by kernel_rfl) (NoPanic.normal ?_) _
          simp only [List.setIfInBounds_toArray, List.set_cons_zero, List.set_cons_succ]
          go_wp2_with (at_builtin; go_loud (refine append_rcC rfl _ _ rfl w6.heap.size (.slice qm mk cm) mk (emitTo W e1 LL k').1 rfl HO8.out q8 on c8 O rfl HR8.out (by omega) HS8.out.size ?_); intro q9 c9 w9 hown hgrow; have HC9 := Lib.hid (show w9.ownsRow w6.heap.size 37 2 (.slice q9 (mk + on) c9) (mk + on) (cellsRc (emitTo W e1 LL (k' + 1)).1) ∧ Below w6.heap.size w6 w9 from ⟨by rw [HLE.out]; exact hown, HS8.out.grown hgrow HS8.out.size (fun i hi => (HO8.out.lt i hi).1)⟩); clear hown hgrow)
          go_roundw
          case rel => exact ⟨k' + 1, mk + on, q9, c9, by omega, rfl, rfl, by go_num, hmo, Lib.hid (by rw [HLE.out, List.length_append, HMK.out, HON.out]), HC9⟩
          case measure => simp [intOf]; omega
        · obtain rfl : k' = wn := by omega
          have HMV := Lib.hid (show (emitTo W e1 LL k').1 = V by rw [HEM.out])
          rw [HMV.out] at HMK HC
          have HMR := Lib.hid (rck_recs (rck_of_own (m := mk) (cp := cm) (W := V) (by have := HC.out.1; rw [HMK.out]; exact this)) HMK.out HVF.out (by omega))
          have HALR := Lib.hid (HAW.out.keep HC.out.2)
          have HSOR := Lib.hid HSO.out.1
          have HCW := Lib.hid (combW_few o1 (liftW o1 V))
          obtain ⟨CW, hCW⟩ : ∃ x, combW o1 (liftW o1 V) = x := ⟨_, rfl⟩
          rw [hCW] at HSOR HCW
          have HCWE := Lib.hid hCW
          obtain ⟨cn, hcn⟩ : ∃ x, CW.length = x := ⟨_, rfl⟩
          have HCN := Lib.hid hcn
          have hnn : ((k : Int) == (k : Int)) = true := by simp
          clear hCW hcn
          go_wp2_with fail
          refine wp_region_noPanic ?_
          obtain ⟨v0, hv0⟩ : ∃ x, wr.drew = x := ⟨_, rfl⟩
          have hdd : Below wr.heap.size wr v0 := by rw [← hv0]; exact below_drewN (Below.refl _ _) 1
          have HMR := Lib.hid (HMR.out.keep hdd)
          have HALR := Lib.hid (HALR.out.keep hdd)
          have HS0 := Lib.hid (below_via HC.out.2 hdd)
          refine wp_region_held_drew (S := (fun w' => Hid (Below w6.heap.size w6 w'))) (by kernel_rfl) (by rw [hv0]; exact HS0) (fun HS => ?_)
          rw [hv0] at HS ⊢
          clear hv0 hdd HC
          refine held_take (i := 0) (d := 153) (v := .bool true) rfl rfl (by kernel_rfl) (by kernel_rfl) (by kernel_rfl) (by kernel_rfl) (fun wx hS => by go_simp) HS ?_
          refine held_take (i := 1) (d := 154) (v := .bool true) rfl rfl (by kernel_rfl) (by kernel_rfl) (by kernel_rfl) (by kernel_rfl) (fun wx hS => by go_simp) HS ?_
          refine held_take (i := 2) (d := 155) (v := .slice q1 k cp1) rfl rfl (by kernel_rfl) (by kernel_rfl) (by kernel_rfl) (by kernel_rfl) (fun wx hS => by go_simp) HS ?_
          refine held_take (i := 3) (d := 156) (v := (.int .i64 (k : Int))) rfl rfl (by kernel_rfl) (by kernel_rfl) (by kernel_rfl) (by kernel_rfl) (fun wx hS => by go_simp) HS ?_
          refine held_take (i := 4) (d := 157) (v := .pointer (some ⟨B, 3, none⟩)) rfl rfl (by kernel_rfl) (by kernel_rfl) (by kernel_rfl) (by kernel_rfl) (fun wx hS => by go_simp) HS ?_
          refine held_take (i := 5) (d := 158) (v := (.int .i64 (k : Int))) rfl rfl (by kernel_rfl) (by kernel_rfl) (by kernel_rfl) (by kernel_rfl) (fun wx hS => by have x3 := (HX6.out.keep hS.out).cell (j := 3) (by simp); simp at x3; go_simp) HS ?_
          refine held_take (i := 6) (d := 159) (v := .bool true) rfl rfl (by kernel_rfl) (by kernel_rfl) (by kernel_rfl) (by kernel_rfl) (fun wx hS => by go_simp) HS ?_
          refine held_take (i := 7) (d := 160) (v := .bool true) rfl rfl (by kernel_rfl) (by kernel_rfl) (by kernel_rfl) (by kernel_rfl) (fun wx hS => by go_simp) HS ?_
          refine held_take (i := 8) (d := 161) (v := .bool true) rfl rfl (by kernel_rfl) (by kernel_rfl) (by kernel_rfl) (by kernel_rfl) (fun wx hS => by go_simp) HS ?_
          refine held_take (i := 9) (d := 162) (v := .slice q m cq) rfl rfl (by kernel_rfl) (by kernel_rfl) (by kernel_rfl) (by kernel_rfl) (fun wx hS => by go_simp) HS ?_
          refine held_take (i := 11) (d := 164) (v := .pointer (some ⟨B, 2, none⟩)) rfl rfl (by kernel_rfl) (by kernel_rfl) (by kernel_rfl) (by kernel_rfl) (fun wx hS => by go_simp) HS ?_
          refine held_take (i := 12) (d := 165) (v := .int .i64 o1) rfl rfl (by kernel_rfl) (by kernel_rfl) (by kernel_rfl) (by kernel_rfl) (fun wx hS => by have x2 := (HX6.out.keep hS.out).cell (j := 2) (by simp); simp at x2; go_simp) HS ?_
          refine held_take (i := 13) (d := 166) (v := .pointer (some ⟨B, 2, none⟩)) rfl rfl (by kernel_rfl) (by kernel_rfl) (by kernel_rfl) (by kernel_rfl) (fun wx hS => by go_simp) HS ?_
          refine held_take (i := 14) (d := 167) (v := .int .i64 o1) rfl rfl (by kernel_rfl) (by kernel_rfl) (by kernel_rfl) (by kernel_rfl) (fun wx hS => by have x2 := (HX6.out.keep hS.out).cell (j := 2) (by simp); simp at x2; go_simp) HS ?_
          refine held_take (i := 15) (d := 168) (v := .slice qm mk cm) rfl rfl (by kernel_rfl) (by kernel_rfl) (by kernel_rfl) (by kernel_rfl) (fun wx hS => by go_simp) HS ?_
          refine wpAnyH_ready (rs := [10]) (by kernel_rfl) (by simp) (AllReadyH.cons rfl (fun K hK => ?_) AllReadyH.nil)
          go_simp
          refine (sorted_any q m cq LS.flatten _ HALR.out).mono ?_
          rw [HSOR.out]
          rintro e w7 ⟨q7, c7, rfl, hr7, hB, _⟩
          have HR7 := Lib.hid (recs_of_rs hr7 HCN.out (by have := HCW.out.1; rw [HCN.out] at this; unfold maxLen; omega) (fun i hi => by have := HCW.out.2 i (by rw [HCN.out]; exact hi); unfold maxLen; omega))
          have HMR := Lib.hid (HMR.out.keep hB)
          have HS7 := Lib.hid (below_via HS.out hB)
          rw [HCN.out]
          clear hB hr7
          refine hK.out _ _ HS7 (fun HS => ?_)
          clear hK K
          refine wpAnyH_ready (rs := [16]) (by kernel_rfl) (by simp) (AllReadyH.cons rfl (fun K hK => ?_) AllReadyH.nil)
          go_simp
          refine (lifted_any o1 qm mk cm V _ HMR.out).mono ?_
          rintro e w8 ⟨q8, c8, rfl, hr8, hB⟩
          obtain ⟨n8, hn8⟩ : ∃ x, (liftW o1 V).length = x := ⟨_, rfl⟩
          have HR8 := Lib.hid (recs_lift hr8 hn8)
          have HR7 := Lib.hid (HR7.out.keep hB)
          have HS8 := Lib.hid (below_via HS.out hB)
          rw [hn8]
          clear hB hr8 hn8
          refine hK.out _ _ HS8 (fun HS => ?_)
          clear hK K
          refine wpAnyH_ready (rs := [17]) (by kernel_rfl) (by simp) (AllReadyH.cons rfl (fun K hK => ?_) AllReadyH.nil)
          go_simp
          refine (combined_any o1 q8 n8 c8 _ _ HR8.out).mono ?_
          rw [HCWE.out]
          rintro e w9 ⟨q9, c9, rfl, hr9, hB, _⟩
          have HR9 := Lib.hid (recs_of_rs hr9 HCN.out (by have := HCW.out.1; rw [HCN.out] at this; unfold maxLen; omega) (fun i hi => by have := HCW.out.2 i (by rw [HCN.out]; exact hi); unfold maxLen; omega))
          have HR7 := Lib.hid (HR7.out.keep hB)
          have HS9 := Lib.hid (below_via HS.out hB)
          rw [HCN.out]
          clear hB hr9
          refine hK.out _ _ HS9 (fun HS => ?_)
          clear hK K
          refine wpAnyH_ready (rs := [18]) (by kernel_rfl) (by simp) (AllReadyH.cons rfl (fun K hK => ?_) AllReadyH.nil)
          go_simp
          refine (samerun_same _ _ _ _ _ _ _ HR7.out HR9.out).mono ?_
          rintro e w10 ⟨rfl, hB⟩
          have HS10 := Lib.hid (below_via HS.out hB)
          clear hB
          refine hK.out _ _ HS10 (fun HS => ?_)
          clear hK K
          refine held_take (i := 19) (d := 172) (v := .bool true) rfl rfl (by kernel_rfl) (by kernel_rfl) (by kernel_rfl) (by kernel_rfl) (fun wx hS => by go_simp) HS ?_
          refine held_take (i := 20) (d := 2) (v := .bool true) rfl rfl (by kernel_rfl) (by kernel_rfl) (by kernel_rfl) (by kernel_rfl) (fun wx hS => by go_simp) HS ?_
          refine wpAnyH_done (by kernel_rfl) (NoPanic.normal ?_) _
          simp only [List.setIfInBounds_toArray, List.set_cons_zero, List.set_cons_succ]
          go_wp2
          go_ret
          exact ⟨rfl, below_via HXB.out HS10.out⟩
end Go.Proofs.YtjofbeokkainlaaGreatDoor
