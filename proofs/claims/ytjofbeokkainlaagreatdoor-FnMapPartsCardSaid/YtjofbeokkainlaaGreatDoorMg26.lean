/- Texts put together, as a claim holds at most sixty files. -/
import Derived.Test.YtjofbeokkainlaaGreatDoorMg23
import Derived.Test.YtjofbeokkainlaaGreatDoorMg15
import Derived.Test.YtjofbeokkainlaaGreatDoorMg21
import Derived.Test.YtjofbeokkainlaaGreatDoorMg1
namespace Go.Proofs.YtjofbeokkainlaaGreatDoor
open Go.ChangeShapes Go.WideShapes Go.ChangeAt Go.RowKit
set_option linter.unusedVariables false
set_option maxRecDepth 100000

/-- Records and a code handed back, in a row of the call's own. -/
def MadeRun (o : Recs × Int) (w : World) (e : Ending) (w' : World) : Prop :=
  ∃ q cp, e = .returned (.tuple #[.slice q o.1.length cp, .int .i64 o.2]) ∧ Below w.heap.size w w' ∧ RcK w.heap.size w' q o.1 ∧ (q = none → cp = 0) ∧ o.1.length ≤ cp
theorem rck_nil (base : Nat) (w : World) (q : Option Addr) : RcK base w q [] := .inl rfl
theorem run_none {o : Recs × Int} {c : Int} {w w' : World} (h : o = ([], c)) (hB : Below w.heap.size w w') : MadeRun o w (.returned (.tuple #[.slice none 0 0, .int .i64 c])) w' := by
  subst h; exact ⟨none, 0, rfl, hB, rck_nil _ _ _, fun _ => rfl, Nat.zero_le _⟩
/-- The model's Eval on its way. -/
structure EvS (l : Instrs) (ws : Strs) (w wr : World) (qo : Option Addr) (co : Nat) (qs : Option Addr) (k : Nat) (S : EVs) (O : Recs) (st : ByteArray) : Prop where
  ev : evK l ws k = some (S, O)
  stk : stk l k = some st
  ok : EvOkP st k (S, O)
  own : wr.ownsRow w.heap.size 37 2 (.slice qo O.length co) O.length (cellsRc O)
  stack : V3K w.heap.size wr qs S
  below : Below w.heap.size w wr
theorem EvS.keep {l : Instrs} {ws : Strs} {w wr w1 : World} {qo : Option Addr} {co : Nat} {qs : Option Addr} {k : Nat} {S : EVs} {O : Recs} {st : ByteArray} (h : EvS l ws w wr qo co qs k S O st) (hB : Below wr.heap.size wr w1) : EvS l ws w w1 qo co qs k S O st :=
  ⟨h.ev, h.stk, h.ok, own_below h.own hB, vtk_keep h.stack hB, below_via h.below hB⟩

/-! ### the stack on its way -/
theorem vtk_pre {base : Nat} {w : World} {q : Option Addr} {W V U : Recs} (h : V3K base w q W) (hW : W = V ++ U) : V3K base w q V := by
  have hl : V.length ≤ W.length := by rw [hW, List.length_append]; omega
  rcases h with h0 | ⟨g, cur, rfl, hb, hr, h1, h2⟩
  · exact .inl (by omega)
  · refine .inr ⟨g, cur, rfl, hb, hr, by omega, fun j hj => ?_⟩
    obtain ⟨e0, e1⟩ := h2 j (by omega)
    rw [hW] at e0 e1
    have e : (V ++ U).getD j (ByteArray.empty, 0) = V.getD j (ByteArray.empty, 0) := by
      rw [List.getD_eq_getElem?_getD, List.getD_eq_getElem?_getD, List.getElem?_append_left hj]
    unfold keyAt at e0
    unfold numAt at e1
    rw [e] at e0 e1
    exact ⟨e0, e1⟩
theorem vtk_lie {base : Nat} {w : World} {q : Option Addr} {W : Recs} (h : V3K base w q W) (h0 : 0 < W.length) : ∃ g, q = some ⟨g, 0, none⟩ ∧ ∀ i, i < W.length → w.cell? ⟨g, i * 2, none⟩ = some (.string (keyAt W i)) ∧ w.cell? ⟨g, i * 2 + 1, none⟩ = some (.int .i64 (numAt W i)) := by
  rcases h with h1 | ⟨g, cur, rfl, hb, hr, h1, h2⟩
  · omega
  · refine ⟨g, rfl, fun i hi => ?_⟩
    obtain ⟨e0, e1⟩ := h2 i hi
    unfold Row at hr
    simp [World.cell?, hr, e0, e1]
theorem vtk_apart {base bo : Nat} {w w1 : World} {q : Option Addr} {W : Recs} {e : TypeId} {size n : Nat} {v : Value} {xs : List Value} (h : V3K base w q W) (ho : w.ownsRow bo e size v n xs) (hT : 129 ≠ e) (hg : w.grownBy w1 v.ownBlock) : V3K base w1 q W := by
  rcases h with h0 | ⟨g, cur, rfl, hb, hr, h1, h2⟩
  · exact .inl h0
  · exact .inr ⟨g, cur, rfl, hb, ot_row_grownT hr ho hT hg, h1, h2⟩
theorem evs_app (S0 av : Recs) (i : Nat) (hi : i < av.length) : keyAt (S0 ++ av) (S0.length + i) = (evAt av i).1 ∧ numAt (S0 ++ av) (S0.length + i) = (evAt av i).2 := by
  unfold keyAt numAt evAt
  rw [List.getD_eq_getElem?_getD, List.getElem?_append_right (by omega), Nat.add_sub_cancel_left, List.getD_eq_getElem?_getD]
  exact ⟨rfl, rfl⟩
/-- What lies where an instruction takes. -/
theorem EvS.args {l : Instrs} {ws : Strs} {w wr : World} {qo : Option Addr} {co : Nat} {qs : Option Addr} {k : Nat} {S : EVs} {O : Recs} {st : ByteArray} (h : EvS l ws w wr qo co qs k S O st) {S0 av : EVs} {s0 : Nat} (hS : S = S0 ++ av) (hs0 : S0.length = s0) (h0 : 0 < av.length) :
    ∃ g, qs = some ⟨g, 0, none⟩ ∧ ∀ i, i < av.length → wr.cell? ⟨g, (s0 + i) * 2, none⟩ = some (.string (evAt av i).1) ∧ wr.cell? ⟨g, (s0 + i) * 2 + 1, none⟩ = some (.int .i64 (evAt av i).2) := by
  subst hS hs0
  obtain ⟨g, hq, hc⟩ := vtk_lie h.stack (by rw [List.length_append]; omega)
  refine ⟨g, hq, fun i hi => ?_⟩
  have := hc (S0.length + i) (by rw [List.length_append]; omega)
  rw [(evs_app S0 av i hi).1, (evs_app S0 av i hi).2] at this
  exact this
theorem EvS.emit {l : Instrs} {ws : Strs} {w wr w1 : World} {qo : Option Addr} {co no : Nat} {qs : Option Addr} {k : Nat} {S S0 av : EVs} {O : Recs} {st st1 : ByteArray} (o : Obj) (h : EvS l ws w wr qo co qs k S O st) (hS : S = S0 ++ av) (hO : O.length = no) {r : ByteArray × Int} {q' : Option Addr} {c' : Nat}
    (hev : evK l ws (k + 1) = some (S0, O ++ [r])) (hst : _root_.Go.Proofs.YtjofbeokkainlaaGreatDoor.stk l (k + 1) = some st1) (hok : EvOkP st1 (k + 1) (S0, O ++ [r]))
    (hown : w1.ownsRow w.heap.size 37 2 (.slice q' (no + 1) c') (no + 1) (cellsRc (O ++ [r]))) (hg : (wr.alloc o).grownBy w1 (Value.slice qo no co).ownBlock) : EvS l ws w w1 q' c' qs (k + 1) S0 (O ++ [r]) st1 := by
  subst hO
  exact ⟨hev, hst, hok, by rw [List.length_append]; exact hown, vtk_pre (vtk_apart (vtk_keep h.stack (below_alloc (Below.refl wr.heap.size wr) o)) (own_below h.own (below_alloc (Below.refl _ _) o)) (by decide) hg) hS,
    (h.below.alloc h.below.size o).grown hg (Nat.le_trans h.below.size (by simp)) (fun j hj => (h.own.lt j hj).1)⟩
theorem EvS.drop {l : Instrs} {ws : Strs} {w wr : World} {qo : Option Addr} {co : Nat} {qs : Option Addr} {k : Nat} {S S0 av : EVs} {O : Recs} {st st1 : ByteArray} (h : EvS l ws w wr qo co qs k S O st) (hS : S = S0 ++ av)
    (hev : evK l ws (k + 1) = some (S0, O)) (hst : _root_.Go.Proofs.YtjofbeokkainlaaGreatDoor.stk l (k + 1) = some st1) (hok : EvOkP st1 (k + 1) (S0, O)) : EvS l ws w wr qo co qs (k + 1) S0 O st1 :=
  ⟨hev, hst, hok, h.own, vtk_pre h.stack hS, h.below⟩
theorem recs_zero (w : World) (q : Option Addr) : RecsAt w q 0 [] := ⟨rfl, Nat.zero_le _, fun i hi => by omega, .inl rfl⟩
theorem EvS.recs {l : Instrs} {ws : Strs} {w wr : World} {qo : Option Addr} {co : Nat} {qs : Option Addr} {k : Nat} {S : EVs} {O : Recs} {st : ByteArray} (h : EvS l ws w wr qo co qs k S O st) {V U : EVs} (hS : S = V ++ U) {n : Nat} (hn : V.length = n) (hmax : n ≤ maxLen) : RecsAt wr qs n V := by
  have hk : ∀ v ∈ V, v.1.size ≤ 40 ∧ In64 v.2 := fun v hv => h.ok.texts v (by simp only; rw [hS]; exact List.mem_append_left _ hv)
  refine vts_of_k (vtk_pre h.stack hS) hn hmax (fun i hi => ?_)
  have := (ev0_le hk i).1
  unfold evAt at this
  unfold keyAt maxLen
  omega
theorem vtk_arg {base : Nat} {w : World} {g : Nat} {S S0 av : Recs} {s0 : Nat} (h : V3K base w (some ⟨g, 0, none⟩) S) (hS : S = S0 ++ av) (hs0 : S0.length = s0) (i : Nat) (hi : i < av.length) :
    w.cell? ⟨g, (s0 + i) * 2, none⟩ = some (.string (evAt av i).1) ∧ w.cell? ⟨g, (s0 + i) * 2 + 1, none⟩ = some (.int .i64 (evAt av i).2) := by
  subst hS hs0
  obtain ⟨g2, hq, hc⟩ := vtk_lie h (by rw [List.length_append]; omega)
  simp only [Option.some.injEq, Addr.mk.injEq, and_true] at hq
  subst hq
  have := hc (S0.length + i) (by rw [List.length_append]; omega)
  rw [(evs_app S0 av i hi).1, (evs_app S0 av i hi).2] at this
  exact this
theorem ot_low {w : World} {base b2 : Nat} {e : TypeId} {size n : Nat} {v : Value} {xs : List Value} (h : w.ownsRow base e size v n xs) (hb : b2 ≤ base) : w.ownsRow b2 e size v n xs := by
  refine ⟨h.1, ?_⟩
  rcases h.2 with h0 | ⟨g, cap, cur, hv, h1, r⟩
  · exact .inl h0
  · exact .inr ⟨g, cap, cur, hv, Nat.le_trans hb h1, r⟩
/-- A row below a row of the call's own stays as that grows. -/
theorem ot_under {w w1 : World} {X base : Nat} {T e : TypeId} {size n : Nat} {v : Value} {xs : List Value} {cur : Array Value} (r : Row w X T cur) (h : w.ownsRow base e size v n xs) (hX : X < base) (hg : w.grownBy w1 v.ownBlock) : Row w1 X T cur :=
  r.grown hg (fun he => by have := (h.lt X he).1; omega)
theorem EvS.put {l : Instrs} {ws : Strs} {w w1 : World} {no co : Nat} {qo : Option Addr} {k : Nat} {S0 : EVs} {O : Recs} {st1 : ByteArray} {v : EV} {q' : Option Addr} {n' c' base : Nat}
    (hev : evK l ws (k + 1) = some (S0 ++ [v], O)) (hst : _root_.Go.Proofs.YtjofbeokkainlaaGreatDoor.stk l (k + 1) = some st1) (hok : EvOkP st1 (k + 1) (S0 ++ [v], O)) (hO : O.length = no)
    (hown : w1.ownsRow w.heap.size 37 2 (.slice qo no co) no (cellsRc O)) (hst2 : w1.ownsRow base 129 2 (.slice q' n' c') n' (cellsV3 (S0 ++ [v]))) (hn : (S0 ++ [v]).length = n') (hb : w.heap.size ≤ base) (hB : Below w.heap.size w w1) : EvS l ws w w1 qo co q' (k + 1) (S0 ++ [v]) O st1 := by
  subst hO hn
  exact ⟨hev, hst, hok, hown, vtk_of_own (ot_low hst2 hb), hB⟩
/-- What an instruction takes, as a slice that may be read. -/
theorem EvS.argrecs {l : Instrs} {ws : Strs} {w wr : World} {qo : Option Addr} {co : Nat} {g : Nat} {k : Nat} {S : EVs} {O : Recs} {st : ByteArray} (h : EvS l ws w wr qo co (some ⟨g, 0, none⟩) k S O st) {S0 av : EVs} {s0 t : Nat} (hS : S = S0 ++ av) (hs0 : S0.length = s0) (ht : av.length = t) (hmax : s0 + t ≤ maxLen) : RecsAt wr (some ⟨g, s0 * 2, none⟩) t av := by
  have hr := vts_drop (h.recs (V := S) (U := []) (by simp) (n := s0 + t) (by rw [hS, List.length_append, hs0, ht]) hmax) (k := s0) (by omega)
  rw [hS, ← hs0, List.drop_left, Nat.add_sub_cancel_left] at hr
  rw [← hs0]
  simpa using hr

set_option maxHeartbeats 8000000 in
theorem seval_any (a : Option Addr) (len cap : Nat) (l : Instrs) (wq : Option Addr) (wn wc : Nat) (ws : Strs) (w : World) (h : InstrsAt w a len l) (hn : ∀ i, i < len → In64 (ins1 l i)) (hw : StrsAt w wq wn ws) :
    Calls Tryz.prog 56 #[.slice a len cap, .slice wq wn wc] w (MadeRun (evalR l ws) w) := by
  have HL := Lib.hid h.length
  have HWL := Lib.hid hw.length
  have HR := Lib.hid h
  have HW := Lib.hid hw
  have HN := Lib.hid hn
  obtain ⟨p, hp⟩ : ∃ p, progB l = p := ⟨_, rfl⟩
  have HP := Lib.hid hp
  have hmw : wn ≤ maxLen := hw.max
  unfold maxLen at hmw
  clear h hw hn hp
  go_enter Tryz.func56, Tryz.ntmps56
  go_wp2_with fail
  refine (sprogok_any _ _ _ _ _ HR.out).mono ?_
  rw [HP.out]
  rintro e w1 ⟨rfl, hB⟩
  have HB := Lib.hid hB
  clear hB
  cases p with
  | false =>
    have HC := Lib.hid (evalR_no (l := l) (ws := ws) (fun h => by rw [HP.out] at h; cases h.1))
    go_wp2
    go_ret2
    exact run_none HC.out HB.out
  | true =>
    by_cases h20 : (20 : Int) < (wn : Int)
    · have HC := Lib.hid (evalR_no (l := l) (ws := ws) (fun h => by have := h.2; rw [HWL.out] at this; omega))
      go_wp2
      go_ret2
      exact run_none HC.out HB.out
    · have hw20 : wn ≤ 20 := by omega
      have hl30 : len ≤ 30 := by have := prog_len HP.out; rw [HL.out] at this; exact this
      have HS0 : Hid (EvS l ws w ((w1.alloc (.cells #[] 37)).alloc (.cells #[] 129)) (some ⟨w1.heap.size, 0, none⟩) 0 (some ⟨w1.heap.size + 1, 0, none⟩) 0 [] [] ByteArray.empty) := Lib.hid
        ⟨rfl, rfl, evOk0, own_zeroRc ((ot_row_new w1 #[] 37).otAl _) HB.out.size, .inl rfl, below_alloc (below_alloc HB.out _) _⟩
      go_wp2_with fail
      go_loopw [6, 7, 8] (fun o s i wr => ∃ (k ns no : Nat) (S : EVs) (O : Recs) (st : ByteArray) (qo : Option Addr) (co : Nat) (qs : Option Addr) (cs : Nat), k ≤ len ∧ ns ≤ cs ∧ cs ≤ 9223372036854775807 ∧ no ≤ co ∧ (qs = none → cs = 0) ∧ o = .slice qo no co ∧ s = .slice qs ns cs ∧ i = .int .i64 k ∧ S.length = ns ∧ O.length = no ∧ Hid (EvS l ws w wr qo co qs k S O st)) (fun _ _ i _ => len - (intOf i).toNat)
      case atStart => exact ⟨0, 0, 0, [], [], _, _, _, _, _, Nat.zero_le _, Nat.le_refl _, by decide, Nat.le_refl _, (fun h => by cases h), rfl, rfl, rfl, rfl, rfl, HS0⟩
      case round =>
        clear HS0 HB
        obtain ⟨k, ns, no, S, O, st, qo, co, qs, cs, hk, hnc, hcm, hoc, hqn, rfl, rfl, rfl, hSl, hOl, HS⟩ := hrel
        have HSL := Lib.hid hSl
        have HOL := Lib.hid hOl
        have hns : ns ≤ k := by have := HS.out.ok.few; simp only at this; omega
        have hno : no ≤ k := by have := HS.out.ok.recs; simp only at this; omega
        have HQN := Lib.hid hqn
        clear hSl hOl hqn
        by_cases hlt : k < len
        · rcases (HR.out.keep HS.out.below).src with hz | ⟨b, off, rfl, hb, hc⟩
          · omega
          obtain ⟨c0, c1, c2⟩ := hc k hlt
          have hi0 : (0 : Int) ≤ (k : Int) := by omega
          have hi1 : (k : Int) < (len : Int) := by omega
          have HKY := Lib.hid (HR.out.keys k hlt)
          have HIN := Lib.hid (prog_instr HP.out (k := k) (by rw [HL.out]; exact hlt))
          have HN64 := Lib.hid (HN.out k hlt)
          have HST := Lib.hid (prog_step HP.out (k := k) (by rw [HL.out]; exact hlt) HS.out.stk)
          have HEV := Lib.hid (evK_step HS.out.ev)
          obtain ⟨op, hop⟩ : ∃ op, ins0 l k = op := ⟨_, rfl⟩
          obtain ⟨n, hn⟩ : ∃ n, ins1 l k = n := ⟨_, rfl⟩
          obtain ⟨s, hs⟩ : ∃ s, ins2 l k = s := ⟨_, rfl⟩
          rw [hop, hn, hs] at HIN HEV
          rw [hop] at HST
          rw [hn] at HN64
          rw [hop] at c0
          rw [hn] at c1
          rw [hs] at c2 HKY
          clear hop hn hs hc hb
          have hop := instr_op HIN.out
          obtain ⟨x, rfl⟩ : ∃ x : Nat, op = (x : Int) + 1 := ⟨(op - 1).toNat, by omega⟩
          have hx14 : x < 14 := by omega
          have etn : ((x : Int) + 1).toNat = x + 1 := by omega
          rw [etn] at HEV HST
          obtain ⟨st0, hst, hnext⟩ := HST.out
          obtain ⟨S0, av, hSa, hal, hS0, e1, e2⟩ := evOk_takes HS.out.ok hst
          simp only at hSa e1 e2
          obtain ⟨TK, hTK⟩ : ∃ TK, takesB (x + 1) = TK := ⟨_, rfl⟩
          obtain ⟨GV, hGV⟩ : ∃ GV, givesB (x + 1) = GV := ⟨_, rfl⟩
          have HTK := Lib.hid hTK
          have HGV := Lib.hid hGV
          have HSA := Lib.hid hSa
          have HE1 := Lib.hid e1
          have HE2 := Lib.hid e2
          have HAL := Lib.hid hal
          rw [hGV] at hnext
          have HNEXT := Lib.hid hnext
          obtain ⟨s0, hs0⟩ : ∃ s0, S0.length = s0 := ⟨_, rfl⟩
          have HS0L := Lib.hid hs0
          have hsub : (ns : Int) - (TK.size : Int) = (s0 : Int) := by
            have h1 : S.length = S0.length + av.length := by rw [hSa, List.length_append]
            rw [HSL.out, hs0, hal, hTK] at h1
            omega
          have hsz : ns = s0 + TK.size := by omega
          have ht3 : TK.size ≤ 3 := by rw [← hTK]; exact takes_few _
          have HST0 := Lib.hid hst
          subst hsz
          clear HST hst hnext hSa hal hS0 e1 e2 hTK hGV hs0 etn
          go_wp2_with fail
          refine (l3takes_any x _ hx14).mono ?_
          rw [HTK.out, HGV.out]
          rintro e w3 ⟨rfl, hB3⟩
          have HS := Lib.hid (HS.out.keep hB3)
          have c0 := cell_keepP hB3 c0
          have c1 := cell_keepP hB3 c1
          have c2 := cell_keepP hB3 c2
          clear hB3
          by_cases hg : GV.size = 0
          · have he : GV.toList.isEmpty = true := ba_nil hg
            have hxx : x = 12 ∨ x = 13 := by
              have h1 := hg
              rw [← HGV.out] at h1
              have : ∀ i : Fin 14, (givesB (i.val + 1)).size = 0 → i.val = 12 ∨ i.val = 13 := by decide
              exact this ⟨x, hx14⟩ h1
            rcases hxx with rfl | rfl
            · have htk : TK.size = 2 := by rw [← HTK.out]; rfl
              have HNOK := Lib.hid (show ∀ O', evStep 13 n s ws (S, O) = some (S0, O') → EvOkP (st0 ++ GV) (k + 1) (S0, O') from fun O' h => by
                have := evOk_step HS.out.ok HST0.out HN64.out h
                rw [HGV.out] at this
                exact this)
              have hal : av.length = 2 := by rw [HAL.out, HTK.out]; exact htk
              have hpos : 0 < av.length := by omega
              obtain ⟨g, rfl, hargs⟩ := HS.out.args HSA.out HS0L.out hpos
              obtain ⟨a0, ha0⟩ : ∃ x, (evAt av 0).1 = x := ⟨_, rfl⟩
              obtain ⟨a1, ha1⟩ : ∃ x, (evAt av 1).2 = x := ⟨_, rfl⟩
              obtain ⟨a2, ha2⟩ : ∃ x, (evAt av 2).2 = x := ⟨_, rfl⟩
              have HA2 := Lib.hid ha2
              have HARG := Lib.hid (show ∀ w', V3K w.heap.size w' (some ⟨g, 0, none⟩) S → w'.cell? ⟨g, s0 * 2, none⟩ = some (.string a0) ∧ w'.cell? ⟨g, s0 * 2 + 3, none⟩ = some (.int .i64 a1) from fun w' h => by
                have h0 := (vtk_arg h HSA.out HS0L.out 0 (by omega)).1
                have h1 := (vtk_arg h HSA.out HS0L.out 1 (by omega)).2
                rw [ha0] at h0
                rw [ha1] at h1
                have e : (s0 + 1) * 2 + 1 = s0 * 2 + 3 := by omega
                rw [e] at h1
                exact ⟨by simpa using h0, h1⟩)
              have hcs : ¬ cs = s0 := by omega
              have hcs2 : s0 < cs := by omega
              have HNEV := Lib.hid (show evK l ws (k + 1) = some (S0, O ++ [(a0, a1)]) by
                rw [HEV.out]
                unfold evStep
                rw [if_pos (by rw [HGV.out]; exact hg), HE1.out, HE2.out, if_pos (.inl rfl), ha0, ha1])
              have HNOK := Lib.hid (HNOK.out _ (by rw [← HEV.out]; exact HNEV.out))
              have HS3 := HS
              clear hargs ha0 ha1 ha2 hal hpos HEV HA2 HST0 HE1 HE2
              go_wp2_with fail
              refine wp_region_noPanic ?_
              obtain ⟨wd, hwd⟩ : ∃ x, w3.drew = x := ⟨_, rfl⟩
              have HSD : Hid (EvS l ws w wd qo co (some ⟨g, 0, none⟩) k S O st) := Lib.hid (by rw [← hwd]; exact HS3.out.keep (Below.refl _ _).drew)
              refine wp_region_held_drew (S := (fun w' => Hid (Below w.heap.size w w' ∧ V3K w.heap.size w' (some ⟨g, 0, none⟩) S))) (by kernel_rfl) (by rw [hwd]; exact Lib.hid ⟨HSD.out.below, HSD.out.stack⟩) (fun HS => ?_)
              rw [hwd] at HS ⊢
              clear hwd HS3
              refine held_take (i := 0) (d := 60) (v := .slice qo no co) rfl rfl (by kernel_rfl) (by kernel_rfl) (by kernel_rfl) (by kernel_rfl) (fun wx hS => by go_simp) HS ?_
              refine held_take (i := 1) (d := 61) (v := .slice (some ⟨g, s0 * 2, none⟩) 2 (cs - s0)) rfl rfl (by kernel_rfl) (by kernel_rfl) (by kernel_rfl) (by kernel_rfl) (fun wx hS => by go_simp) HS ?_
              refine held_take (i := 2) (d := 62) (v := .pointer (some ⟨g, s0 * 2, none⟩)) rfl rfl (by kernel_rfl) (by kernel_rfl) (by kernel_rfl) (by kernel_rfl) (fun wx hS => by go_simp) HS ?_
              refine held_take (i := 3) (d := 63) (v := .pointer (some ⟨g, s0 * 2, none⟩)) rfl rfl (by kernel_rfl) (by kernel_rfl) (by kernel_rfl) (by kernel_rfl) (fun wx hS => by go_simp) HS ?_
              refine held_take (i := 4) (d := 64) (v := .string a0) rfl rfl (by kernel_rfl) (by kernel_rfl) (by kernel_rfl) (by kernel_rfl) (fun wx hS => by have z := (HARG.out _ hS.out.2).1; go_simp) HS ?_
              refine held_take (i := 5) (d := 65) (v := .slice (some ⟨g, s0 * 2, none⟩) 2 (cs - s0)) rfl rfl (by kernel_rfl) (by kernel_rfl) (by kernel_rfl) (by kernel_rfl) (fun wx hS => by go_simp) HS ?_
              refine held_take (i := 6) (d := 66) (v := .pointer (some ⟨g, s0 * 2 + 2, none⟩)) rfl rfl (by kernel_rfl) (by kernel_rfl) (by kernel_rfl) (by kernel_rfl) (fun wx hS => by go_simp) HS ?_
              refine held_take (i := 7) (d := 67) (v := .pointer (some ⟨g, s0 * 2 + 3, none⟩)) rfl rfl (by kernel_rfl) (by kernel_rfl) (by kernel_rfl) (by kernel_rfl) (fun wx hS => by go_simp) HS ?_
              refine held_take (i := 8) (d := 68) (v := .int .i64 a1) rfl rfl (by kernel_rfl) (by kernel_rfl) (by kernel_rfl) (by kernel_rfl) (fun wx hS => by have z := (HARG.out _ hS.out.2).2; go_simp) HS ?_
              refine held_take (i := 9) (d := 69) (v := .agg #[.string a0, .int .i64 a1]) rfl rfl (by kernel_rfl) (by kernel_rfl) (by kernel_rfl) (by kernel_rfl) (fun wx hS => by go_simp) HS ?_
              refine wpAnyH_ready (rs := [10]) (by kernel_rfl) (by simp) (AllReadyH.cons rfl (fun K hK => ?_) AllReadyH.nil)
              go_simp
              obtain ⟨wa, hwa⟩ : ∃ x, wd.alloc (.cells #[.string a0, .int .i64 a1] 37) = x := ⟨_, rfl⟩
              have HBA := Lib.hid (show Below wd.heap.size wd wa from hwa ▸ below_alloc (Below.refl _ _) _)
              have HNEW := Lib.hid (show ∀ j u, [Value.string a0, Value.int .i64 a1][j]? = some u → wa.cell? ((⟨wd.heap.size, 0, none⟩ : Addr).add j) = some u from hwa ▸ rc_new wd a0 a1 _)
              have HWA := Lib.hid hwa
              rw [hwa]
              clear hwa
              refine hK.out _ _ (Lib.hid ⟨below_via HS.out.1 HBA.out, vtk_keep HS.out.2 HBA.out⟩) (fun HS => ?_)
              clear hK K
              refine wpAnyH_ready (rs := [11]) (by kernel_rfl) (by simp) (AllReadyH.cons rfl (fun K hK => ?_) AllReadyH.nil)
              refine step_append1_rc rfl _ _ rfl w.heap.size (.slice qo no co) no O rfl (own_below (by have := HSD.out.own; rw [HOL.out] at this; exact this) HBA.out) wd.heap.size _ a0 a1 rfl HNEW.out (by omega) HS.out.1.size ?_
              intro q1 c1 w5 hown hgrow
              have HS5 : Hid (EvS l ws w w5 q1 c1 (some ⟨g, 0, none⟩) (k + 1) S0 (O ++ [(a0, a1)]) (st0 ++ GV)) := Lib.hid (HSD.out.emit (.cells #[.string a0, .int .i64 a1] 37) HSA.out HOL.out HNEV.out HNEXT.out HNOK.out hown (by rw [HWA.out]; exact hgrow))
              have hq1 : no + 1 ≤ c1 := by
                rcases hown.2 with ⟨_, h2⟩ | ⟨g2, cap, cur, hv, _, _, h3, _⟩
                · omega
                · simp only [Value.slice.injEq] at hv; omega
              have HV5 := Lib.hid (vtk_apart HS.out.2 (own_below HSD.out.own HBA.out) (by decide) (by rw [HOL.out]; exact hgrow))
              refine hK.out _ _ (Lib.hid ⟨HS5.out.below, HV5.out⟩) (fun HS => ?_)
              clear hK K hown hgrow HWA HNEW HBA HSD HV5
              refine held_take (i := 12) (d := 6) (v := .slice q1 (no + 1) c1) rfl rfl (by kernel_rfl) (by kernel_rfl) (by kernel_rfl) (by kernel_rfl) (fun wx hS => by go_simp) HS ?_
              refine wpAnyH_done (by kernel_rfl) (NoPanic.normal ?_) _
              go_wp2
              go_roundw
              case rel => exact ⟨k + 1, s0, no + 1, S0, O ++ [(a0, a1)], _, q1, c1, _, cs, by omega, by omega, by omega, hq1, HQN.out, rfl, rfl, by go_num, HS0L.out, by rw [List.length_append, HOL.out]; rfl, HS5⟩
              case measure => simp [intOf]; omega

            · have htk : TK.size = 3 := by rw [← HTK.out]; rfl
              by_cases hz : (evAt av 2).2 = 0
              · have HNOK := Lib.hid (show ∀ O', evStep 14 n s ws (S, O) = some (S0, O') → EvOkP (st0 ++ GV) (k + 1) (S0, O') from fun O' h => by
                  have := evOk_step HS.out.ok HST0.out HN64.out h
                  rw [HGV.out] at this
                  exact this)
                have hal : av.length = 3 := by rw [HAL.out, HTK.out]; exact htk
                have hpos : 0 < av.length := by omega
                obtain ⟨g, rfl, hargs⟩ := HS.out.args HSA.out HS0L.out hpos
                obtain ⟨a0, ha0⟩ : ∃ x, (evAt av 0).1 = x := ⟨_, rfl⟩
                obtain ⟨a1, ha1⟩ : ∃ x, (evAt av 1).2 = x := ⟨_, rfl⟩
                obtain ⟨a2, ha2⟩ : ∃ x, (evAt av 2).2 = x := ⟨_, rfl⟩
                have HA2 := Lib.hid ha2
                have g2 := (hargs 2 (by omega)).2
                rw [ha2] at g2
                have eg2 : (s0 + 2) * 2 + 1 = s0 * 2 + 5 := by omega
                rw [eg2] at g2
                clear eg2
                have HARG := Lib.hid (show ∀ w', V3K w.heap.size w' (some ⟨g, 0, none⟩) S → w'.cell? ⟨g, s0 * 2, none⟩ = some (.string a0) ∧ w'.cell? ⟨g, s0 * 2 + 3, none⟩ = some (.int .i64 a1) from fun w' h => by
                  have h0 := (vtk_arg h HSA.out HS0L.out 0 (by omega)).1
                  have h1 := (vtk_arg h HSA.out HS0L.out 1 (by omega)).2
                  rw [ha0] at h0
                  rw [ha1] at h1
                  have e : (s0 + 1) * 2 + 1 = s0 * 2 + 3 := by omega
                  rw [e] at h1
                  exact ⟨by simpa using h0, h1⟩)
                have hcs : ¬ cs = s0 := by omega
                have hcs2 : s0 < cs := by omega
                have HNEV := Lib.hid (show evK l ws (k + 1) = some (S0, O) by
                  rw [HEV.out]
                  unfold evStep
                  rw [if_pos (by rw [HGV.out]; exact hg), HE1.out, HE2.out, if_neg (fun h => h.elim (fun h => absurd h (by decide)) (fun h => h hz))])
                have HNOK := Lib.hid (HNOK.out _ (by rw [← HEV.out]; exact HNEV.out))
                have hz2 : (a2 == (0 : Int)) = true := by rw [beq_iff_eq, ← ha2]; exact hz
                have hz3 : (a2 != (0 : Int)) = false := by rw [← ha2, hz]; rfl
                have HSN := Lib.hid (HS.out.drop HSA.out HNEV.out HNEXT.out HNOK.out)
                clear hz hargs ha0 ha1 ha2 hal hpos HEV HA2 HST0 HE1 HE2
                go_wp2
                go_roundw
                case rel => exact ⟨k + 1, s0, no, S0, O, _, qo, co, _, cs, by omega, by omega, by omega, by omega, HQN.out, rfl, rfl, by go_num, HS0L.out, HOL.out, HSN⟩
                case measure => simp [intOf]; omega

              · have HNOK := Lib.hid (show ∀ O', evStep 14 n s ws (S, O) = some (S0, O') → EvOkP (st0 ++ GV) (k + 1) (S0, O') from fun O' h => by
                  have := evOk_step HS.out.ok HST0.out HN64.out h
                  rw [HGV.out] at this
                  exact this)
                have hal : av.length = 3 := by rw [HAL.out, HTK.out]; exact htk
                have hpos : 0 < av.length := by omega
                obtain ⟨g, rfl, hargs⟩ := HS.out.args HSA.out HS0L.out hpos
                obtain ⟨a0, ha0⟩ : ∃ x, (evAt av 0).1 = x := ⟨_, rfl⟩
                obtain ⟨a1, ha1⟩ : ∃ x, (evAt av 1).2 = x := ⟨_, rfl⟩
                obtain ⟨a2, ha2⟩ : ∃ x, (evAt av 2).2 = x := ⟨_, rfl⟩
                have HA2 := Lib.hid ha2
                have g2 := (hargs 2 (by omega)).2
                rw [ha2] at g2
                have eg2 : (s0 + 2) * 2 + 1 = s0 * 2 + 5 := by omega
                rw [eg2] at g2
                clear eg2
                have HARG := Lib.hid (show ∀ w', V3K w.heap.size w' (some ⟨g, 0, none⟩) S → w'.cell? ⟨g, s0 * 2, none⟩ = some (.string a0) ∧ w'.cell? ⟨g, s0 * 2 + 3, none⟩ = some (.int .i64 a1) from fun w' h => by
                  have h0 := (vtk_arg h HSA.out HS0L.out 0 (by omega)).1
                  have h1 := (vtk_arg h HSA.out HS0L.out 1 (by omega)).2
                  rw [ha0] at h0
                  rw [ha1] at h1
                  have e : (s0 + 1) * 2 + 1 = s0 * 2 + 3 := by omega
                  rw [e] at h1
                  exact ⟨by simpa using h0, h1⟩)
                have hcs : ¬ cs = s0 := by omega
                have hcs2 : s0 < cs := by omega
                have HNEV := Lib.hid (show evK l ws (k + 1) = some (S0, O ++ [(a0, a1)]) by
                  rw [HEV.out]
                  unfold evStep
                  rw [if_pos (by rw [HGV.out]; exact hg), HE1.out, HE2.out, if_pos (.inr hz), ha0, ha1])
                have HNOK := Lib.hid (HNOK.out _ (by rw [← HEV.out]; exact HNEV.out))
                have hz2 : (a2 == (0 : Int)) = false := by rw [beq_eq_false_iff_ne, ← ha2]; exact hz
                have hz3 : (a2 != (0 : Int)) = true := by rw [bne_iff_ne, ← ha2]; exact hz
                clear hz
                have HS3 := HS
                clear hargs ha0 ha1 ha2 hal hpos HEV HA2 HST0 HE1 HE2
                go_wp2_with fail
                refine wp_region_noPanic ?_
                obtain ⟨wd, hwd⟩ : ∃ x, w3.drew = x := ⟨_, rfl⟩
                have HSD : Hid (EvS l ws w wd qo co (some ⟨g, 0, none⟩) k S O st) := Lib.hid (by rw [← hwd]; exact HS3.out.keep (Below.refl _ _).drew)
                refine wp_region_held_drew (S := (fun w' => Hid (Below w.heap.size w w' ∧ V3K w.heap.size w' (some ⟨g, 0, none⟩) S))) (by kernel_rfl) (by rw [hwd]; exact Lib.hid ⟨HSD.out.below, HSD.out.stack⟩) (fun HS => ?_)
                rw [hwd] at HS ⊢
                clear hwd HS3
                refine held_take (i := 0) (d := 60) (v := .slice qo no co) rfl rfl (by kernel_rfl) (by kernel_rfl) (by kernel_rfl) (by kernel_rfl) (fun wx hS => by go_simp) HS ?_
                refine held_take (i := 1) (d := 61) (v := .slice (some ⟨g, s0 * 2, none⟩) 3 (cs - s0)) rfl rfl (by kernel_rfl) (by kernel_rfl) (by kernel_rfl) (by kernel_rfl) (fun wx hS => by go_simp) HS ?_
                refine held_take (i := 2) (d := 62) (v := .pointer (some ⟨g, s0 * 2, none⟩)) rfl rfl (by kernel_rfl) (by kernel_rfl) (by kernel_rfl) (by kernel_rfl) (fun wx hS => by go_simp) HS ?_
                refine held_take (i := 3) (d := 63) (v := .pointer (some ⟨g, s0 * 2, none⟩)) rfl rfl (by kernel_rfl) (by kernel_rfl) (by kernel_rfl) (by kernel_rfl) (fun wx hS => by go_simp) HS ?_
                refine held_take (i := 4) (d := 64) (v := .string a0) rfl rfl (by kernel_rfl) (by kernel_rfl) (by kernel_rfl) (by kernel_rfl) (fun wx hS => by have z := (HARG.out _ hS.out.2).1; go_simp) HS ?_
                refine held_take (i := 5) (d := 65) (v := .slice (some ⟨g, s0 * 2, none⟩) 3 (cs - s0)) rfl rfl (by kernel_rfl) (by kernel_rfl) (by kernel_rfl) (by kernel_rfl) (fun wx hS => by go_simp) HS ?_
                refine held_take (i := 6) (d := 66) (v := .pointer (some ⟨g, s0 * 2 + 2, none⟩)) rfl rfl (by kernel_rfl) (by kernel_rfl) (by kernel_rfl) (by kernel_rfl) (fun wx hS => by go_simp) HS ?_
                refine held_take (i := 7) (d := 67) (v := .pointer (some ⟨g, s0 * 2 + 3, none⟩)) rfl rfl (by kernel_rfl) (by kernel_rfl) (by kernel_rfl) (by kernel_rfl) (fun wx hS => by go_simp) HS ?_
                refine held_take (i := 8) (d := 68) (v := .int .i64 a1) rfl rfl (by kernel_rfl) (by kernel_rfl) (by kernel_rfl) (by kernel_rfl) (fun wx hS => by have z := (HARG.out _ hS.out.2).2; go_simp) HS ?_
                refine held_take (i := 9) (d := 69) (v := .agg #[.string a0, .int .i64 a1]) rfl rfl (by kernel_rfl) (by kernel_rfl) (by kernel_rfl) (by kernel_rfl) (fun wx hS => by go_simp) HS ?_
                refine wpAnyH_ready (rs := [10]) (by kernel_rfl) (by simp) (AllReadyH.cons rfl (fun K hK => ?_) AllReadyH.nil)
                go_simp
                obtain ⟨wa, hwa⟩ : ∃ x, wd.alloc (.cells #[.string a0, .int .i64 a1] 37) = x := ⟨_, rfl⟩
                have HBA := Lib.hid (show Below wd.heap.size wd wa from hwa ▸ below_alloc (Below.refl _ _) _)
                have HNEW := Lib.hid (show ∀ j u, [Value.string a0, Value.int .i64 a1][j]? = some u → wa.cell? ((⟨wd.heap.size, 0, none⟩ : Addr).add j) = some u from hwa ▸ rc_new wd a0 a1 _)
                have HWA := Lib.hid hwa
                rw [hwa]
                clear hwa
                refine hK.out _ _ (Lib.hid ⟨below_via HS.out.1 HBA.out, vtk_keep HS.out.2 HBA.out⟩) (fun HS => ?_)
                clear hK K
                refine wpAnyH_ready (rs := [11]) (by kernel_rfl) (by simp) (AllReadyH.cons rfl (fun K hK => ?_) AllReadyH.nil)
                refine step_append1_rc rfl _ _ rfl w.heap.size (.slice qo no co) no O rfl (own_below (by have := HSD.out.own; rw [HOL.out] at this; exact this) HBA.out) wd.heap.size _ a0 a1 rfl HNEW.out (by omega) HS.out.1.size ?_
                intro q1 c1 w5 hown hgrow
                have HS5 : Hid (EvS l ws w w5 q1 c1 (some ⟨g, 0, none⟩) (k + 1) S0 (O ++ [(a0, a1)]) (st0 ++ GV)) := Lib.hid (HSD.out.emit (.cells #[.string a0, .int .i64 a1] 37) HSA.out HOL.out HNEV.out HNEXT.out HNOK.out hown (by rw [HWA.out]; exact hgrow))
                have hq1 : no + 1 ≤ c1 := by
                  rcases hown.2 with ⟨_, h2⟩ | ⟨g2, cap, cur, hv, _, _, h3, _⟩
                  · omega
                  · simp only [Value.slice.injEq] at hv; omega
                have HV5 := Lib.hid (vtk_apart HS.out.2 (own_below HSD.out.own HBA.out) (by decide) (by rw [HOL.out]; exact hgrow))
                refine hK.out _ _ (Lib.hid ⟨HS5.out.below, HV5.out⟩) (fun HS => ?_)
                clear hK K hown hgrow HWA HNEW HBA HSD HV5
                refine held_take (i := 12) (d := 6) (v := .slice q1 (no + 1) c1) rfl rfl (by kernel_rfl) (by kernel_rfl) (by kernel_rfl) (by kernel_rfl) (fun wx hS => by go_simp) HS ?_
                refine wpAnyH_done (by kernel_rfl) (NoPanic.normal ?_) _
                go_wp2
                go_roundw
                case rel => exact ⟨k + 1, s0, no + 1, S0, O ++ [(a0, a1)], _, q1, c1, _, cs, by omega, by omega, by omega, hq1, HQN.out, rfl, rfl, by go_num, HS0L.out, by rw [List.length_append, HOL.out]; rfl, HS5⟩
                case measure => simp [intOf]; omega

          · have he : GV.toList.isEmpty = false := ba_some (by omega)
            have hx12 : x < 12 := by
              have h1 := hg
              rw [← HGV.out] at h1
              have : ∀ i : Fin 14, ¬ (givesB (i.val + 1)).size = 0 → i.val < 12 := by decide
              exact this ⟨x, hx14⟩ h1
            have htake : ∀ y : Nat, y < 14 → True := fun _ _ => trivial
            clear htake
            obtain ⟨vs, vn, hv⟩ : ∃ vs vn, putV (x + 1) n s av ws = (vs, vn) := ⟨_, _, rfl⟩
            have HV := Lib.hid hv
            clear hv
            have HPOS := Lib.hid (show x + 1 = 1 → 0 ≤ n from fun h => by
              have h1 := HIN.out
              obtain rfl : x = 0 := by omega
              unfold instrB at h1
              rw [if_pos (by rfl), Bool.and_eq_true, decide_eq_true_eq] at h1
              exact h1.1.1)
            have HALL := Lib.hid (show ∀ v ∈ av, v.1.size ≤ 40 ∧ In64 v.2 from fun v hv => HS.out.ok.texts v (by simp only; rw [HSA.out]; exact List.mem_append_right _ hv))
            have HPUT := Lib.hid (show ∀ q t c w', t = TK.size → RecsAt w' q t av → StrsAt w' wq wn ws → Calls Tryz.prog 84 #[.agg #[.int .i64 ((x : Int) + 1), .int .i64 n, .string s], .slice q t c, .slice wq wn wc] w' (MadeEV (vs, vn) w') from fun q t c w' ht h1 h2 => by
              subst ht
              have := l3put_any (x + 1) n s q TK.size c av wq wn wc ws w' (by omega) (by omega) h1 (by rw [HTK.out]) h2 HKY.out HPOS.out HALL.out
              rw [HV.out] at this
              simpa using this)
            have HST1 := Lib.hid (show evStep (x + 1) n s ws (S, O) = if vs.size ≤ 40 then some (S0 ++ [(vs, vn)], O) else none by
              unfold evStep
              rw [if_neg (by rw [HGV.out]; exact hg), HE1.out, HE2.out, HV.out])
            have HNOK := Lib.hid (show ∀ y, evStep (x + 1) n s ws (S, O) = some y → EvOkP (st0 ++ GV) (k + 1) y from fun y h => by
              have := evOk_step HS.out.ok HST0.out HN64.out h
              rw [HGV.out] at this
              exact this)
            clear HPOS HALL HV
            by_cases htk0 : TK.size = 0
            · have HTK0 := Lib.hid htk0
              clear htk0
              by_cases hcs : cs = s0
              · have hcs2 : s0 = cs := hcs.symm
                subst hcs2
                clear hcs
                have HAV := Lib.hid (show av = [] from List.eq_nil_of_length_eq_zero (by rw [HAL.out, HTK.out]; exact HTK0.out))
                go_wp2_with fail
                refine (HPUT.out _ _ _ _ (by first | rfl | exact HTK0.out.symm) (by rw [HAV.out]; first | exact recs_zero _ _ | (rw [HTK0.out]; exact recs_zero _ _)) (HW.out.keep HS.out.below)).mono ?_
                rintro e w4 ⟨rfl, hB4⟩
                have HS := Lib.hid (HS.out.keep hB4)
                clear hB4 c0 c1 c2
                by_cases h40 : vs.size ≤ 40
                · have hle40 : (vs.size : Int) ≤ 40 := by omega
                  have HNEV := Lib.hid (show evK l ws (k + 1) = some (S0 ++ [(vs, vn)], O) by rw [HEV.out, HST1.out, if_pos h40])
                  have HNOK := Lib.hid (HNOK.out _ (by rw [← HEV.out]; exact HNEV.out))
                  clear HST1 HEV
                  obtain ⟨V, hV⟩ : ∃ V, w4.heap.size = V := ⟨_, rfl⟩
                  have HS5 := Lib.hid (HS.out.keep (below_alloc (Below.refl _ _) (.cells #[.string vs, .int .i64 vn] 129)))
                  have HV5 := Lib.hid (show Row (w4.alloc (.cells #[.string vs, .int .i64 vn] 129)) V 129 #[.string vs, .int .i64 vn] from by rw [← hV]; exact ot_row_new _ _ _)
                  go_wp2_with fail
                  obtain ⟨w5, hw5⟩ : ∃ x, w4.alloc (.cells #[.string vs, .int .i64 vn] 129) = x := ⟨_, rfl⟩
                  rw [hw5] at HS5 HV5
                  try rw [hV]
                  try rw [hw5]
                  clear hw5 hV HS
                  have sw0 : IntKind.i64.wrap (s0 : Int) = (s0 : Int) := IntWalk.i64_in _ (by omega)
                  refine wp_region_noPanic ?_
                  obtain ⟨u0, hu0⟩ : ∃ x, w5.drew = x := ⟨_, rfl⟩
                  have HE : Hid (EvS l ws w u0 qo co qs k S O st) := Lib.hid (by rw [← hu0]; exact HS5.out.keep (Below.refl _ _).drew)
                  have HVR : Hid (Row u0 V 129 #[.string vs, .int .i64 vn]) := Lib.hid (by rw [← hu0]; exact HV5.out)
                  obtain ⟨D, hD⟩ : ∃ x, u0.heap.size = x := ⟨_, rfl⟩
                  have HDG := Lib.hid (show D ≤ u0.heap.size by omega)
                  have HDW := Lib.hid (show w.heap.size ≤ D by rw [← hD]; exact HE.out.below.size)
                  have HVD := Lib.hid (show V < D by rw [← hD]; exact HVR.out.lt)
                  refine wp_region_held_drew (S := (fun w' => Hid (Below w.heap.size w w' ∧ Row w' V 129 #[.string vs, .int .i64 vn]))) (by kernel_rfl) (by rw [hu0]; exact Lib.hid ⟨HE.out.below, HVR.out⟩) (fun HS => ?_)
                  rw [hu0] at HS ⊢
                  clear hu0 hD HVR HS5 HV5
                  refine held_take (i := 1) (d := 91) (v := .slice qs (s0 + TK.size) s0) rfl rfl (by kernel_rfl) (by kernel_rfl) (by kernel_rfl) (by kernel_rfl) (fun wx hS => by go_simp) HS ?_
                  refine held_take (i := 2) (d := 92) (v := .slice qs (s0 + TK.size) s0) rfl rfl (by kernel_rfl) (by kernel_rfl) (by kernel_rfl) (by kernel_rfl) (fun wx hS => by go_simp) HS ?_
                  refine held_take (i := 3) (d := 93) (v := .int .i64 ((s0 : Int) + (TK.size : Int))) rfl rfl (by kernel_rfl) (by kernel_rfl) (by kernel_rfl) (by kernel_rfl) (fun wx hS => by go_simp) HS ?_
                  refine held_take (i := 4) (d := 94) (v := .string TK) rfl rfl (by kernel_rfl) (by kernel_rfl) (by kernel_rfl) (by kernel_rfl) (fun wx hS => by go_simp) HS ?_
                  refine held_take (i := 5) (d := 95) (v := .int .i64 (TK.size : Int)) rfl rfl (by kernel_rfl) (by kernel_rfl) (by kernel_rfl) (by kernel_rfl) (fun wx hS => by go_simp) HS ?_
                  refine held_take (i := 6) (d := 96) (v := .int .i64 (s0 : Int)) rfl rfl (by kernel_rfl) (by kernel_rfl) (by kernel_rfl) (by kernel_rfl) (fun wx hS => by go_simp) HS ?_
                  refine held_take (i := 7) (d := 97) (v := .slice qs s0 s0) rfl rfl (by kernel_rfl) (by kernel_rfl) (by kernel_rfl) (by kernel_rfl) (fun wx hS => by have hcl : ¬ s0 < s0 := (by omega); go_simp) HS ?_
                  refine held_take (i := 9) (d := 99) (v := .agg #[.string vs, .int .i64 vn]) rfl rfl (by kernel_rfl) (by kernel_rfl) (by kernel_rfl) (by kernel_rfl) (fun wx hS => by have z0 := hS.out.2.cell (j := 0) (by simp); have z1 := hS.out.2.cell (j := 1) (by simp); simp at z0 z1; go_simp) HS ?_
                  refine wpAnyH_ready (rs := [0, 10]) (by kernel_rfl) (by simp) (AllReadyH.cons rfl (fun K hK => ?_) (AllReadyH.cons rfl (fun K hK => ?_) AllReadyH.nil))
                  · skip
                    go_simp
                    have HGE := Lib.hid (show D ≤ u0.heap.size from HDG.out)
                    obtain ⟨B90, hb90⟩ : ∃ x, u0.heap.size = x := ⟨_, rfl⟩
                    obtain ⟨u1, hu2⟩ : ∃ x, u0.alloc (.cells #[] 129) = x := ⟨_, rfl⟩
                    have HBA := Lib.hid (show Below u0.heap.size u0 u1 from hu2 ▸ below_alloc (Below.refl _ _) _)
                    have HNR := Lib.hid (show Row u1 B90 129 #[] from by rw [← hu2, ← hb90]; exact ot_row_new _ _ _)
                    try rw [hb90]
                    try rw [hu2]
                    have HDG2 := Lib.hid (show D ≤ u1.heap.size from Nat.le_trans HDG.out HBA.out.size)
                    have HDG := HDG2
                    have HQ0 := Lib.hid (own_zeroV3 (base := D) HNR.out (by rw [← hb90]; exact HGE.out))
                    have HE := Lib.hid (HE.out.keep HBA.out)
                    refine hK.out _ _ (Lib.hid ⟨below_via HS.out.1 HBA.out, HS.out.2.keep HBA.out⟩) (fun HS => ?_)
                    clear hK K HDG2 HNR HBA HGE hb90 hu2
                    refine wpAnyH_ready (rs := [8, 10]) (by kernel_rfl) (by simp) (AllReadyH.cons rfl (fun K hK => ?_) (AllReadyH.cons rfl (fun K hK => ?_) AllReadyH.nil))
                    · skip
                      refine step_append_vt rfl _ _ rfl D (.slice (some ⟨B90, 0, none⟩) 0 0) 0 [] rfl HQ0.out qs s0 s0 S0 rfl (HE.out.recs HSA.out HS0L.out (by unfold maxLen; omega)) HQN.out (by omega) HDG.out ?_
                      intro q1 c1 u2 hown hgrow
                      simp only [List.nil_append, Nat.zero_add] at hown ⊢
                      have HQ1 := Lib.hid hown
                      have HO := Lib.hid (show u2.ownsRow w.heap.size 37 2 (.slice qo no co) no (cellsRc O) from by have := ot_own_grown HE.out.own hgrow (ot_own_apartT HE.out.own HQ0.out (by decide)); rw [HOL.out] at this; exact this)
                      have HDG := Lib.hid (Nat.le_trans HDG.out hgrow.size)
                      have HB2 := Lib.hid (HS.out.1.grown hgrow HS.out.1.size (fun j hj => Nat.le_trans HDW.out (HQ0.out.lt j hj).1))
                      have HV2 := Lib.hid (ot_under HS.out.2 HQ0.out HVD.out hgrow)
                      refine hK.out _ _ (Lib.hid ⟨HB2.out, HV2.out⟩) (fun HS => ?_)
                      clear hK K hown hgrow HB2 HV2 HQ0 HE
                      refine wpAnyH_ready (rs := [10]) (by kernel_rfl) (by simp) (AllReadyH.cons rfl (fun K hK => ?_) AllReadyH.nil)
                      go_simp
                      have HGE := Lib.hid (show D ≤ u2.heap.size from HDG.out)
                      obtain ⟨B100, hb100⟩ : ∃ x, u2.heap.size = x := ⟨_, rfl⟩
                      obtain ⟨u3, hu2⟩ : ∃ x, u2.alloc (.cells #[.string vs, .int .i64 vn] 129) = x := ⟨_, rfl⟩
                      have HBA := Lib.hid (show Below u2.heap.size u2 u3 from hu2 ▸ below_alloc (Below.refl _ _) _)
                      have HNR := Lib.hid (show Row u3 B100 129 #[.string vs, .int .i64 vn] from by rw [← hu2, ← hb100]; exact ot_row_new _ _ _)
                      try rw [hb100]
                      try rw [hu2]
                      have HDG2 := Lib.hid (show D ≤ u3.heap.size from Nat.le_trans HDG.out HBA.out.size)
                      have HDG := HDG2
                      have HNEW := HNR
                      have HQ1 := Lib.hid (own_below HQ1.out HBA.out)
                      have HO := Lib.hid (own_below HO.out HBA.out)
                      refine hK.out _ _ (Lib.hid ⟨below_via HS.out.1 HBA.out, HS.out.2.keep HBA.out⟩) (fun HS => ?_)
                      clear hK K HDG2 HNR HBA HGE hb100 hu2
                      refine wpAnyH_ready (rs := [11]) (by kernel_rfl) (by simp) (AllReadyH.cons rfl (fun K hK => ?_) AllReadyH.nil)
                      refine step_append1_vt rfl _ _ rfl D (.slice q1 s0 c1) s0 S0 rfl HQ1.out B100 _ vs vn rfl (vt_at_row vs vn HNEW.out) (by omega) HDG.out ?_
                      intro q2 c2 u4 hown hgrow
                      have HQ2 := Lib.hid hown
                      have HO := Lib.hid (ot_own_grown HO.out hgrow (ot_own_apartT HO.out HQ1.out (by decide)))
                      have HB2 := Lib.hid (HS.out.1.grown hgrow HS.out.1.size (fun j hj => Nat.le_trans HDW.out (HQ1.out.lt j hj).1))
                      have HV2 := Lib.hid (ot_under HS.out.2 HQ1.out HVD.out hgrow)
                      have hq2 : s0 + 1 ≤ c2 ∧ c2 ≤ maxLen ∧ q2 ≠ none := by
                        rcases hown.2 with ⟨_, h2⟩ | ⟨g2, cap, cur, hv, _, _, h3, h4, _⟩
                        · omega
                        · simp only [Value.slice.injEq] at hv; obtain ⟨rfl, _, rfl⟩ := hv; exact ⟨h3, h4, by simp⟩
                      have HBE := HB2
                      refine hK.out _ _ (Lib.hid ⟨HB2.out, HV2.out⟩) (fun HS => ?_)
                      clear hK K hown hgrow HB2 HV2 HQ1 HNEW HDG
                      refine held_take (i := 12) (d := 7) (v := .slice q2 (s0 + 1) c2) rfl rfl (by kernel_rfl) (by kernel_rfl) (by kernel_rfl) (by kernel_rfl) (fun wx hS => by go_simp) HS ?_
                      refine wpAnyH_done (by kernel_rfl) (NoPanic.normal ?_) _
                      have HSN : Hid (EvS l ws w u4 qo co q2 (k + 1) (S0 ++ [(vs, vn)]) O (st0 ++ GV)) := Lib.hid (EvS.put HNEV.out HNEXT.out HNOK.out HOL.out HO.out HQ2.out (by rw [List.length_append, HS0L.out]; rfl) HDW.out HS.out.1)
                      clear HQ2 HO HBE
                      go_wp2
                      go_roundw
                      case rel => exact ⟨k + 1, s0 + 1, no, S0 ++ [(vs, vn)], O, _, qo, co, q2, c2, by omega, by omega, by have := hq2.2.1; unfold maxLen at this; omega, by omega, fun h => absurd h hq2.2.2, rfl, rfl, by go_num, by rw [List.length_append, HS0L.out]; rfl, HOL.out, HSN⟩
                      case measure => simp [intOf]; omega
                    · skip
                      go_simp
                      have HGE := Lib.hid (show D ≤ u1.heap.size from HDG.out)
                      obtain ⟨B100, hb100⟩ : ∃ x, u1.heap.size = x := ⟨_, rfl⟩
                      obtain ⟨u2, hu2⟩ : ∃ x, u1.alloc (.cells #[.string vs, .int .i64 vn] 129) = x := ⟨_, rfl⟩
                      have HBA := Lib.hid (show Below u1.heap.size u1 u2 from hu2 ▸ below_alloc (Below.refl _ _) _)
                      have HNR := Lib.hid (show Row u2 B100 129 #[.string vs, .int .i64 vn] from by rw [← hu2, ← hb100]; exact ot_row_new _ _ _)
                      try rw [hb100]
                      try rw [hu2]
                      have HDG2 := Lib.hid (show D ≤ u2.heap.size from Nat.le_trans HDG.out HBA.out.size)
                      have HDG := HDG2
                      have HNE := Lib.hid (show B90 ≠ B100 from by have := (HQ0.out.lt B90 rfl).2; rw [hb100] at this; omega)
                      have HNEW := HNR
                      have HE := Lib.hid (HE.out.keep HBA.out)
                      have HQ0 := Lib.hid (own_below HQ0.out HBA.out)
                      refine hK.out _ _ (Lib.hid ⟨below_via HS.out.1 HBA.out, HS.out.2.keep HBA.out⟩) (fun HS => ?_)
                      clear hK K HDG2 HNR HBA HGE hb100 hu2
                      refine wpAnyH_ready (rs := [8]) (by kernel_rfl) (by simp) (AllReadyH.cons rfl (fun K hK => ?_) AllReadyH.nil)
                      refine step_append_vt rfl _ _ rfl D (.slice (some ⟨B90, 0, none⟩) 0 0) 0 [] rfl HQ0.out qs s0 s0 S0 rfl (HE.out.recs HSA.out HS0L.out (by unfold maxLen; omega)) HQN.out (by omega) HDG.out ?_
                      intro q1 c1 u3 hown hgrow
                      simp only [List.nil_append, Nat.zero_add] at hown ⊢
                      have HQ1 := Lib.hid hown
                      have HO := Lib.hid (show u3.ownsRow w.heap.size 37 2 (.slice qo no co) no (cellsRc O) from by have := ot_own_grown HE.out.own hgrow (ot_own_apartT HE.out.own HQ0.out (by decide)); rw [HOL.out] at this; exact this)
                      have HDG := Lib.hid (Nat.le_trans HDG.out hgrow.size)
                      have HB2 := Lib.hid (HS.out.1.grown hgrow HS.out.1.size (fun j hj => Nat.le_trans HDW.out (HQ0.out.lt j hj).1))
                      have HV2 := Lib.hid (ot_under HS.out.2 HQ0.out HVD.out hgrow)
                      have HNEW := Lib.hid (HNEW.out.grown hgrow (by intro he; simp [Value.ownBlock] at he; exact HNE.out he))
                      refine hK.out _ _ (Lib.hid ⟨HB2.out, HV2.out⟩) (fun HS => ?_)
                      clear hK K hown hgrow HB2 HV2 HQ0 HE
                      refine wpAnyH_ready (rs := [11]) (by kernel_rfl) (by simp) (AllReadyH.cons rfl (fun K hK => ?_) AllReadyH.nil)
                      refine step_append1_vt rfl _ _ rfl D (.slice q1 s0 c1) s0 S0 rfl HQ1.out B100 _ vs vn rfl (vt_at_row vs vn HNEW.out) (by omega) HDG.out ?_
                      intro q2 c2 u4 hown hgrow
                      have HQ2 := Lib.hid hown
                      have HO := Lib.hid (ot_own_grown HO.out hgrow (ot_own_apartT HO.out HQ1.out (by decide)))
                      have HB2 := Lib.hid (HS.out.1.grown hgrow HS.out.1.size (fun j hj => Nat.le_trans HDW.out (HQ1.out.lt j hj).1))
                      have HV2 := Lib.hid (ot_under HS.out.2 HQ1.out HVD.out hgrow)
                      have hq2 : s0 + 1 ≤ c2 ∧ c2 ≤ maxLen ∧ q2 ≠ none := by
                        rcases hown.2 with ⟨_, h2⟩ | ⟨g2, cap, cur, hv, _, _, h3, h4, _⟩
                        · omega
                        · simp only [Value.slice.injEq] at hv; obtain ⟨rfl, _, rfl⟩ := hv; exact ⟨h3, h4, by simp⟩
                      have HBE := HB2
                      refine hK.out _ _ (Lib.hid ⟨HB2.out, HV2.out⟩) (fun HS => ?_)
                      clear hK K hown hgrow HB2 HV2 HQ1 HNEW HDG
                      refine held_take (i := 12) (d := 7) (v := .slice q2 (s0 + 1) c2) rfl rfl (by kernel_rfl) (by kernel_rfl) (by kernel_rfl) (by kernel_rfl) (fun wx hS => by go_simp) HS ?_
                      refine wpAnyH_done (by kernel_rfl) (NoPanic.normal ?_) _
                      have HSN : Hid (EvS l ws w u4 qo co q2 (k + 1) (S0 ++ [(vs, vn)]) O (st0 ++ GV)) := Lib.hid (EvS.put HNEV.out HNEXT.out HNOK.out HOL.out HO.out HQ2.out (by rw [List.length_append, HS0L.out]; rfl) HDW.out HS.out.1)
                      clear HQ2 HO HBE
                      go_wp2
                      go_roundw
                      case rel => exact ⟨k + 1, s0 + 1, no, S0 ++ [(vs, vn)], O, _, qo, co, q2, c2, by omega, by omega, by have := hq2.2.1; unfold maxLen at this; omega, by omega, fun h => absurd h hq2.2.2, rfl, rfl, by go_num, by rw [List.length_append, HS0L.out]; rfl, HOL.out, HSN⟩
                      case measure => simp [intOf]; omega
                  · skip
                    go_simp
                    have HGE := Lib.hid (show D ≤ u0.heap.size from HDG.out)
                    obtain ⟨B100, hb100⟩ : ∃ x, u0.heap.size = x := ⟨_, rfl⟩
                    obtain ⟨u1, hu2⟩ : ∃ x, u0.alloc (.cells #[.string vs, .int .i64 vn] 129) = x := ⟨_, rfl⟩
                    have HBA := Lib.hid (show Below u0.heap.size u0 u1 from hu2 ▸ below_alloc (Below.refl _ _) _)
                    have HNR := Lib.hid (show Row u1 B100 129 #[.string vs, .int .i64 vn] from by rw [← hu2, ← hb100]; exact ot_row_new _ _ _)
                    try rw [hb100]
                    try rw [hu2]
                    have HDG2 := Lib.hid (show D ≤ u1.heap.size from Nat.le_trans HDG.out HBA.out.size)
                    have HDG := HDG2
                    have HNEW := HNR
                    have HE := Lib.hid (HE.out.keep HBA.out)
                    refine hK.out _ _ (Lib.hid ⟨below_via HS.out.1 HBA.out, HS.out.2.keep HBA.out⟩) (fun HS => ?_)
                    clear hK K HDG2 HNR HBA HGE hb100 hu2
                    refine wpAnyH_ready (rs := [0]) (by kernel_rfl) (by simp) (AllReadyH.cons rfl (fun K hK => ?_) AllReadyH.nil)
                    go_simp
                    have HGE := Lib.hid (show D ≤ u1.heap.size from HDG.out)
                    obtain ⟨B90, hb90⟩ : ∃ x, u1.heap.size = x := ⟨_, rfl⟩
                    obtain ⟨u2, hu2⟩ : ∃ x, u1.alloc (.cells #[] 129) = x := ⟨_, rfl⟩
                    have HBA := Lib.hid (show Below u1.heap.size u1 u2 from hu2 ▸ below_alloc (Below.refl _ _) _)
                    have HNR := Lib.hid (show Row u2 B90 129 #[] from by rw [← hu2, ← hb90]; exact ot_row_new _ _ _)
                    try rw [hb90]
                    try rw [hu2]
                    have HDG2 := Lib.hid (show D ≤ u2.heap.size from Nat.le_trans HDG.out HBA.out.size)
                    have HDG := HDG2
                    have HNE := Lib.hid (show B90 ≠ B100 from by have := HNEW.out.lt; rw [hb90] at this; omega)
                    have HQ0 := Lib.hid (own_zeroV3 (base := D) HNR.out (by rw [← hb90]; exact HGE.out))
                    have HE := Lib.hid (HE.out.keep HBA.out)
                    have HNEW := Lib.hid (HNEW.out.keep HBA.out)
                    refine hK.out _ _ (Lib.hid ⟨below_via HS.out.1 HBA.out, HS.out.2.keep HBA.out⟩) (fun HS => ?_)
                    clear hK K HDG2 HNR HBA HGE hb90 hu2
                    refine wpAnyH_ready (rs := [8]) (by kernel_rfl) (by simp) (AllReadyH.cons rfl (fun K hK => ?_) AllReadyH.nil)
                    refine step_append_vt rfl _ _ rfl D (.slice (some ⟨B90, 0, none⟩) 0 0) 0 [] rfl HQ0.out qs s0 s0 S0 rfl (HE.out.recs HSA.out HS0L.out (by unfold maxLen; omega)) HQN.out (by omega) HDG.out ?_
                    intro q1 c1 u3 hown hgrow
                    simp only [List.nil_append, Nat.zero_add] at hown ⊢
                    have HQ1 := Lib.hid hown
                    have HO := Lib.hid (show u3.ownsRow w.heap.size 37 2 (.slice qo no co) no (cellsRc O) from by have := ot_own_grown HE.out.own hgrow (ot_own_apartT HE.out.own HQ0.out (by decide)); rw [HOL.out] at this; exact this)
                    have HDG := Lib.hid (Nat.le_trans HDG.out hgrow.size)
                    have HB2 := Lib.hid (HS.out.1.grown hgrow HS.out.1.size (fun j hj => Nat.le_trans HDW.out (HQ0.out.lt j hj).1))
                    have HV2 := Lib.hid (ot_under HS.out.2 HQ0.out HVD.out hgrow)
                    have HNEW := Lib.hid (HNEW.out.grown hgrow (by intro he; simp [Value.ownBlock] at he; exact HNE.out he))
                    refine hK.out _ _ (Lib.hid ⟨HB2.out, HV2.out⟩) (fun HS => ?_)
                    clear hK K hown hgrow HB2 HV2 HQ0 HE
                    refine wpAnyH_ready (rs := [11]) (by kernel_rfl) (by simp) (AllReadyH.cons rfl (fun K hK => ?_) AllReadyH.nil)
                    refine step_append1_vt rfl _ _ rfl D (.slice q1 s0 c1) s0 S0 rfl HQ1.out B100 _ vs vn rfl (vt_at_row vs vn HNEW.out) (by omega) HDG.out ?_
                    intro q2 c2 u4 hown hgrow
                    have HQ2 := Lib.hid hown
                    have HO := Lib.hid (ot_own_grown HO.out hgrow (ot_own_apartT HO.out HQ1.out (by decide)))
                    have HB2 := Lib.hid (HS.out.1.grown hgrow HS.out.1.size (fun j hj => Nat.le_trans HDW.out (HQ1.out.lt j hj).1))
                    have HV2 := Lib.hid (ot_under HS.out.2 HQ1.out HVD.out hgrow)
                    have hq2 : s0 + 1 ≤ c2 ∧ c2 ≤ maxLen ∧ q2 ≠ none := by
                      rcases hown.2 with ⟨_, h2⟩ | ⟨g2, cap, cur, hv, _, _, h3, h4, _⟩
                      · omega
                      · simp only [Value.slice.injEq] at hv; obtain ⟨rfl, _, rfl⟩ := hv; exact ⟨h3, h4, by simp⟩
                    have HBE := HB2
                    refine hK.out _ _ (Lib.hid ⟨HB2.out, HV2.out⟩) (fun HS => ?_)
                    clear hK K hown hgrow HB2 HV2 HQ1 HNEW HDG
                    refine held_take (i := 12) (d := 7) (v := .slice q2 (s0 + 1) c2) rfl rfl (by kernel_rfl) (by kernel_rfl) (by kernel_rfl) (by kernel_rfl) (fun wx hS => by go_simp) HS ?_
                    refine wpAnyH_done (by kernel_rfl) (NoPanic.normal ?_) _
                    have HSN : Hid (EvS l ws w u4 qo co q2 (k + 1) (S0 ++ [(vs, vn)]) O (st0 ++ GV)) := Lib.hid (EvS.put HNEV.out HNEXT.out HNOK.out HOL.out HO.out HQ2.out (by rw [List.length_append, HS0L.out]; rfl) HDW.out HS.out.1)
                    clear HQ2 HO HBE
                    go_wp2
                    go_roundw
                    case rel => exact ⟨k + 1, s0 + 1, no, S0 ++ [(vs, vn)], O, _, qo, co, q2, c2, by omega, by omega, by have := hq2.2.1; unfold maxLen at this; omega, by omega, fun h => absurd h hq2.2.2, rfl, rfl, by go_num, by rw [List.length_append, HS0L.out]; rfl, HOL.out, HSN⟩
                    case measure => simp [intOf]; omega
                · have hgt40 : (40 : Int) < (vs.size : Int) := by omega
                  have HNEV := Lib.hid (show evalR l ws = ([], 2) from evalR_long HP.out (by rw [HWL.out]; exact hw20) (k := k + 1) (by rw [HL.out]; omega) (by rw [HEV.out, HST1.out, if_neg h40]))
                  go_wp2
                  go_ret2
                  exact run_none HNEV.out (below_alloc HS.out.below _)

              · have hcs2 : s0 < cs := by omega
                have HAV := Lib.hid (show av = [] from List.eq_nil_of_length_eq_zero (by rw [HAL.out, HTK.out]; exact HTK0.out))
                go_wp2_with fail
                refine (HPUT.out _ _ _ _ (by first | rfl | exact HTK0.out.symm) (by rw [HAV.out]; first | exact recs_zero _ _ | (rw [HTK0.out]; exact recs_zero _ _)) (HW.out.keep HS.out.below)).mono ?_
                rintro e w4 ⟨rfl, hB4⟩
                have HS := Lib.hid (HS.out.keep hB4)
                clear hB4 c0 c1 c2
                by_cases h40 : vs.size ≤ 40
                · have hle40 : (vs.size : Int) ≤ 40 := by omega
                  have HNEV := Lib.hid (show evK l ws (k + 1) = some (S0 ++ [(vs, vn)], O) by rw [HEV.out, HST1.out, if_pos h40])
                  have HNOK := Lib.hid (HNOK.out _ (by rw [← HEV.out]; exact HNEV.out))
                  clear HST1 HEV
                  obtain ⟨V, hV⟩ : ∃ V, w4.heap.size = V := ⟨_, rfl⟩
                  have HS5 := Lib.hid (HS.out.keep (below_alloc (Below.refl _ _) (.cells #[.string vs, .int .i64 vn] 129)))
                  have HV5 := Lib.hid (show Row (w4.alloc (.cells #[.string vs, .int .i64 vn] 129)) V 129 #[.string vs, .int .i64 vn] from by rw [← hV]; exact ot_row_new _ _ _)
                  go_wp2_with fail
                  obtain ⟨w5, hw5⟩ : ∃ x, w4.alloc (.cells #[.string vs, .int .i64 vn] 129) = x := ⟨_, rfl⟩
                  rw [hw5] at HS5 HV5
                  try rw [hV]
                  try rw [hw5]
                  clear hw5 hV HS
                  have sw0 : IntKind.i64.wrap (s0 : Int) = (s0 : Int) := IntWalk.i64_in _ (by omega)
                  refine wp_region_noPanic ?_
                  obtain ⟨u0, hu0⟩ : ∃ x, w5.drew = x := ⟨_, rfl⟩
                  have HE : Hid (EvS l ws w u0 qo co qs k S O st) := Lib.hid (by rw [← hu0]; exact HS5.out.keep (Below.refl _ _).drew)
                  have HVR : Hid (Row u0 V 129 #[.string vs, .int .i64 vn]) := Lib.hid (by rw [← hu0]; exact HV5.out)
                  obtain ⟨D, hD⟩ : ∃ x, u0.heap.size = x := ⟨_, rfl⟩
                  have HDG := Lib.hid (show D ≤ u0.heap.size by omega)
                  have HDW := Lib.hid (show w.heap.size ≤ D by rw [← hD]; exact HE.out.below.size)
                  have HVD := Lib.hid (show V < D by rw [← hD]; exact HVR.out.lt)
                  refine wp_region_held_drew (S := (fun w' => Hid (Below w.heap.size w w' ∧ Row w' V 129 #[.string vs, .int .i64 vn]))) (by kernel_rfl) (by rw [hu0]; exact Lib.hid ⟨HE.out.below, HVR.out⟩) (fun HS => ?_)
                  rw [hu0] at HS ⊢
                  clear hu0 hD HVR HS5 HV5
                  refine held_take (i := 1) (d := 91) (v := .slice qs (s0 + TK.size) cs) rfl rfl (by kernel_rfl) (by kernel_rfl) (by kernel_rfl) (by kernel_rfl) (fun wx hS => by go_simp) HS ?_
                  refine held_take (i := 2) (d := 92) (v := .slice qs (s0 + TK.size) cs) rfl rfl (by kernel_rfl) (by kernel_rfl) (by kernel_rfl) (by kernel_rfl) (fun wx hS => by go_simp) HS ?_
                  refine held_take (i := 3) (d := 93) (v := .int .i64 ((s0 : Int) + (TK.size : Int))) rfl rfl (by kernel_rfl) (by kernel_rfl) (by kernel_rfl) (by kernel_rfl) (fun wx hS => by go_simp) HS ?_
                  refine held_take (i := 4) (d := 94) (v := .string TK) rfl rfl (by kernel_rfl) (by kernel_rfl) (by kernel_rfl) (by kernel_rfl) (fun wx hS => by go_simp) HS ?_
                  refine held_take (i := 5) (d := 95) (v := .int .i64 (TK.size : Int)) rfl rfl (by kernel_rfl) (by kernel_rfl) (by kernel_rfl) (by kernel_rfl) (fun wx hS => by go_simp) HS ?_
                  refine held_take (i := 6) (d := 96) (v := .int .i64 (s0 : Int)) rfl rfl (by kernel_rfl) (by kernel_rfl) (by kernel_rfl) (by kernel_rfl) (fun wx hS => by go_simp) HS ?_
                  refine held_take (i := 7) (d := 97) (v := .slice qs s0 cs) rfl rfl (by kernel_rfl) (by kernel_rfl) (by kernel_rfl) (by kernel_rfl) (fun wx hS => by have hcl : ¬ cs < s0 := (by omega); go_simp) HS ?_
                  refine held_take (i := 9) (d := 99) (v := .agg #[.string vs, .int .i64 vn]) rfl rfl (by kernel_rfl) (by kernel_rfl) (by kernel_rfl) (by kernel_rfl) (fun wx hS => by have z0 := hS.out.2.cell (j := 0) (by simp); have z1 := hS.out.2.cell (j := 1) (by simp); simp at z0 z1; go_simp) HS ?_
                  refine wpAnyH_ready (rs := [0, 10]) (by kernel_rfl) (by simp) (AllReadyH.cons rfl (fun K hK => ?_) (AllReadyH.cons rfl (fun K hK => ?_) AllReadyH.nil))
                  · skip
                    go_simp
                    have HGE := Lib.hid (show D ≤ u0.heap.size from HDG.out)
                    obtain ⟨B90, hb90⟩ : ∃ x, u0.heap.size = x := ⟨_, rfl⟩
                    obtain ⟨u1, hu2⟩ : ∃ x, u0.alloc (.cells #[] 129) = x := ⟨_, rfl⟩
                    have HBA := Lib.hid (show Below u0.heap.size u0 u1 from hu2 ▸ below_alloc (Below.refl _ _) _)
                    have HNR := Lib.hid (show Row u1 B90 129 #[] from by rw [← hu2, ← hb90]; exact ot_row_new _ _ _)
                    try rw [hb90]
                    try rw [hu2]
                    have HDG2 := Lib.hid (show D ≤ u1.heap.size from Nat.le_trans HDG.out HBA.out.size)
                    have HDG := HDG2
                    have HQ0 := Lib.hid (own_zeroV3 (base := D) HNR.out (by rw [← hb90]; exact HGE.out))
                    have HE := Lib.hid (HE.out.keep HBA.out)
                    refine hK.out _ _ (Lib.hid ⟨below_via HS.out.1 HBA.out, HS.out.2.keep HBA.out⟩) (fun HS => ?_)
                    clear hK K HDG2 HNR HBA HGE hb90 hu2
                    refine wpAnyH_ready (rs := [8, 10]) (by kernel_rfl) (by simp) (AllReadyH.cons rfl (fun K hK => ?_) (AllReadyH.cons rfl (fun K hK => ?_) AllReadyH.nil))
                    · skip
                      refine step_append_vt rfl _ _ rfl D (.slice (some ⟨B90, 0, none⟩) 0 0) 0 [] rfl HQ0.out qs s0 cs S0 rfl (HE.out.recs HSA.out HS0L.out (by unfold maxLen; omega)) HQN.out (by omega) HDG.out ?_
                      intro q1 c1 u2 hown hgrow
                      simp only [List.nil_append, Nat.zero_add] at hown ⊢
                      have HQ1 := Lib.hid hown
                      have HO := Lib.hid (show u2.ownsRow w.heap.size 37 2 (.slice qo no co) no (cellsRc O) from by have := ot_own_grown HE.out.own hgrow (ot_own_apartT HE.out.own HQ0.out (by decide)); rw [HOL.out] at this; exact this)
                      have HDG := Lib.hid (Nat.le_trans HDG.out hgrow.size)
                      have HB2 := Lib.hid (HS.out.1.grown hgrow HS.out.1.size (fun j hj => Nat.le_trans HDW.out (HQ0.out.lt j hj).1))
                      have HV2 := Lib.hid (ot_under HS.out.2 HQ0.out HVD.out hgrow)
                      refine hK.out _ _ (Lib.hid ⟨HB2.out, HV2.out⟩) (fun HS => ?_)
                      clear hK K hown hgrow HB2 HV2 HQ0 HE
                      refine wpAnyH_ready (rs := [10]) (by kernel_rfl) (by simp) (AllReadyH.cons rfl (fun K hK => ?_) AllReadyH.nil)
                      go_simp
                      have HGE := Lib.hid (show D ≤ u2.heap.size from HDG.out)
                      obtain ⟨B100, hb100⟩ : ∃ x, u2.heap.size = x := ⟨_, rfl⟩
                      obtain ⟨u3, hu2⟩ : ∃ x, u2.alloc (.cells #[.string vs, .int .i64 vn] 129) = x := ⟨_, rfl⟩
                      have HBA := Lib.hid (show Below u2.heap.size u2 u3 from hu2 ▸ below_alloc (Below.refl _ _) _)
                      have HNR := Lib.hid (show Row u3 B100 129 #[.string vs, .int .i64 vn] from by rw [← hu2, ← hb100]; exact ot_row_new _ _ _)
                      try rw [hb100]
                      try rw [hu2]
                      have HDG2 := Lib.hid (show D ≤ u3.heap.size from Nat.le_trans HDG.out HBA.out.size)
                      have HDG := HDG2
                      have HNEW := HNR
                      have HQ1 := Lib.hid (own_below HQ1.out HBA.out)
                      have HO := Lib.hid (own_below HO.out HBA.out)
                      refine hK.out _ _ (Lib.hid ⟨below_via HS.out.1 HBA.out, HS.out.2.keep HBA.out⟩) (fun HS => ?_)
                      clear hK K HDG2 HNR HBA HGE hb100 hu2
                      refine wpAnyH_ready (rs := [11]) (by kernel_rfl) (by simp) (AllReadyH.cons rfl (fun K hK => ?_) AllReadyH.nil)
                      refine step_append1_vt rfl _ _ rfl D (.slice q1 s0 c1) s0 S0 rfl HQ1.out B100 _ vs vn rfl (vt_at_row vs vn HNEW.out) (by omega) HDG.out ?_
                      intro q2 c2 u4 hown hgrow
                      have HQ2 := Lib.hid hown
                      have HO := Lib.hid (ot_own_grown HO.out hgrow (ot_own_apartT HO.out HQ1.out (by decide)))
                      have HB2 := Lib.hid (HS.out.1.grown hgrow HS.out.1.size (fun j hj => Nat.le_trans HDW.out (HQ1.out.lt j hj).1))
                      have HV2 := Lib.hid (ot_under HS.out.2 HQ1.out HVD.out hgrow)
                      have hq2 : s0 + 1 ≤ c2 ∧ c2 ≤ maxLen ∧ q2 ≠ none := by
                        rcases hown.2 with ⟨_, h2⟩ | ⟨g2, cap, cur, hv, _, _, h3, h4, _⟩
                        · omega
                        · simp only [Value.slice.injEq] at hv; obtain ⟨rfl, _, rfl⟩ := hv; exact ⟨h3, h4, by simp⟩
                      have HBE := HB2
                      refine hK.out _ _ (Lib.hid ⟨HB2.out, HV2.out⟩) (fun HS => ?_)
                      clear hK K hown hgrow HB2 HV2 HQ1 HNEW HDG
                      refine held_take (i := 12) (d := 7) (v := .slice q2 (s0 + 1) c2) rfl rfl (by kernel_rfl) (by kernel_rfl) (by kernel_rfl) (by kernel_rfl) (fun wx hS => by go_simp) HS ?_
                      refine wpAnyH_done (by kernel_rfl) (NoPanic.normal ?_) _
                      have HSN : Hid (EvS l ws w u4 qo co q2 (k + 1) (S0 ++ [(vs, vn)]) O (st0 ++ GV)) := Lib.hid (EvS.put HNEV.out HNEXT.out HNOK.out HOL.out HO.out HQ2.out (by rw [List.length_append, HS0L.out]; rfl) HDW.out HS.out.1)
                      clear HQ2 HO HBE
                      go_wp2
                      go_roundw
                      case rel => exact ⟨k + 1, s0 + 1, no, S0 ++ [(vs, vn)], O, _, qo, co, q2, c2, by omega, by omega, by have := hq2.2.1; unfold maxLen at this; omega, by omega, fun h => absurd h hq2.2.2, rfl, rfl, by go_num, by rw [List.length_append, HS0L.out]; rfl, HOL.out, HSN⟩
                      case measure => simp [intOf]; omega
                    · skip
                      go_simp
                      have HGE := Lib.hid (show D ≤ u1.heap.size from HDG.out)
                      obtain ⟨B100, hb100⟩ : ∃ x, u1.heap.size = x := ⟨_, rfl⟩
                      obtain ⟨u2, hu2⟩ : ∃ x, u1.alloc (.cells #[.string vs, .int .i64 vn] 129) = x := ⟨_, rfl⟩
                      have HBA := Lib.hid (show Below u1.heap.size u1 u2 from hu2 ▸ below_alloc (Below.refl _ _) _)
                      have HNR := Lib.hid (show Row u2 B100 129 #[.string vs, .int .i64 vn] from by rw [← hu2, ← hb100]; exact ot_row_new _ _ _)
                      try rw [hb100]
                      try rw [hu2]
                      have HDG2 := Lib.hid (show D ≤ u2.heap.size from Nat.le_trans HDG.out HBA.out.size)
                      have HDG := HDG2
                      have HNE := Lib.hid (show B90 ≠ B100 from by have := (HQ0.out.lt B90 rfl).2; rw [hb100] at this; omega)
                      have HNEW := HNR
                      have HE := Lib.hid (HE.out.keep HBA.out)
                      have HQ0 := Lib.hid (own_below HQ0.out HBA.out)
                      refine hK.out _ _ (Lib.hid ⟨below_via HS.out.1 HBA.out, HS.out.2.keep HBA.out⟩) (fun HS => ?_)
                      clear hK K HDG2 HNR HBA HGE hb100 hu2
                      refine wpAnyH_ready (rs := [8]) (by kernel_rfl) (by simp) (AllReadyH.cons rfl (fun K hK => ?_) AllReadyH.nil)
                      refine step_append_vt rfl _ _ rfl D (.slice (some ⟨B90, 0, none⟩) 0 0) 0 [] rfl HQ0.out qs s0 cs S0 rfl (HE.out.recs HSA.out HS0L.out (by unfold maxLen; omega)) HQN.out (by omega) HDG.out ?_
                      intro q1 c1 u3 hown hgrow
                      simp only [List.nil_append, Nat.zero_add] at hown ⊢
                      have HQ1 := Lib.hid hown
                      have HO := Lib.hid (show u3.ownsRow w.heap.size 37 2 (.slice qo no co) no (cellsRc O) from by have := ot_own_grown HE.out.own hgrow (ot_own_apartT HE.out.own HQ0.out (by decide)); rw [HOL.out] at this; exact this)
                      have HDG := Lib.hid (Nat.le_trans HDG.out hgrow.size)
                      have HB2 := Lib.hid (HS.out.1.grown hgrow HS.out.1.size (fun j hj => Nat.le_trans HDW.out (HQ0.out.lt j hj).1))
                      have HV2 := Lib.hid (ot_under HS.out.2 HQ0.out HVD.out hgrow)
                      have HNEW := Lib.hid (HNEW.out.grown hgrow (by intro he; simp [Value.ownBlock] at he; exact HNE.out he))
                      refine hK.out _ _ (Lib.hid ⟨HB2.out, HV2.out⟩) (fun HS => ?_)
                      clear hK K hown hgrow HB2 HV2 HQ0 HE
                      refine wpAnyH_ready (rs := [11]) (by kernel_rfl) (by simp) (AllReadyH.cons rfl (fun K hK => ?_) AllReadyH.nil)
                      refine step_append1_vt rfl _ _ rfl D (.slice q1 s0 c1) s0 S0 rfl HQ1.out B100 _ vs vn rfl (vt_at_row vs vn HNEW.out) (by omega) HDG.out ?_
                      intro q2 c2 u4 hown hgrow
                      have HQ2 := Lib.hid hown
                      have HO := Lib.hid (ot_own_grown HO.out hgrow (ot_own_apartT HO.out HQ1.out (by decide)))
                      have HB2 := Lib.hid (HS.out.1.grown hgrow HS.out.1.size (fun j hj => Nat.le_trans HDW.out (HQ1.out.lt j hj).1))
                      have HV2 := Lib.hid (ot_under HS.out.2 HQ1.out HVD.out hgrow)
                      have hq2 : s0 + 1 ≤ c2 ∧ c2 ≤ maxLen ∧ q2 ≠ none := by
                        rcases hown.2 with ⟨_, h2⟩ | ⟨g2, cap, cur, hv, _, _, h3, h4, _⟩
                        · omega
                        · simp only [Value.slice.injEq] at hv; obtain ⟨rfl, _, rfl⟩ := hv; exact ⟨h3, h4, by simp⟩
                      have HBE := HB2
                      refine hK.out _ _ (Lib.hid ⟨HB2.out, HV2.out⟩) (fun HS => ?_)
                      clear hK K hown hgrow HB2 HV2 HQ1 HNEW HDG
                      refine held_take (i := 12) (d := 7) (v := .slice q2 (s0 + 1) c2) rfl rfl (by kernel_rfl) (by kernel_rfl) (by kernel_rfl) (by kernel_rfl) (fun wx hS => by go_simp) HS ?_
                      refine wpAnyH_done (by kernel_rfl) (NoPanic.normal ?_) _
                      have HSN : Hid (EvS l ws w u4 qo co q2 (k + 1) (S0 ++ [(vs, vn)]) O (st0 ++ GV)) := Lib.hid (EvS.put HNEV.out HNEXT.out HNOK.out HOL.out HO.out HQ2.out (by rw [List.length_append, HS0L.out]; rfl) HDW.out HS.out.1)
                      clear HQ2 HO HBE
                      go_wp2
                      go_roundw
                      case rel => exact ⟨k + 1, s0 + 1, no, S0 ++ [(vs, vn)], O, _, qo, co, q2, c2, by omega, by omega, by have := hq2.2.1; unfold maxLen at this; omega, by omega, fun h => absurd h hq2.2.2, rfl, rfl, by go_num, by rw [List.length_append, HS0L.out]; rfl, HOL.out, HSN⟩
                      case measure => simp [intOf]; omega
                  · skip
                    go_simp
                    have HGE := Lib.hid (show D ≤ u0.heap.size from HDG.out)
                    obtain ⟨B100, hb100⟩ : ∃ x, u0.heap.size = x := ⟨_, rfl⟩
                    obtain ⟨u1, hu2⟩ : ∃ x, u0.alloc (.cells #[.string vs, .int .i64 vn] 129) = x := ⟨_, rfl⟩
                    have HBA := Lib.hid (show Below u0.heap.size u0 u1 from hu2 ▸ below_alloc (Below.refl _ _) _)
                    have HNR := Lib.hid (show Row u1 B100 129 #[.string vs, .int .i64 vn] from by rw [← hu2, ← hb100]; exact ot_row_new _ _ _)
                    try rw [hb100]
                    try rw [hu2]
                    have HDG2 := Lib.hid (show D ≤ u1.heap.size from Nat.le_trans HDG.out HBA.out.size)
                    have HDG := HDG2
                    have HNEW := HNR
                    have HE := Lib.hid (HE.out.keep HBA.out)
                    refine hK.out _ _ (Lib.hid ⟨below_via HS.out.1 HBA.out, HS.out.2.keep HBA.out⟩) (fun HS => ?_)
                    clear hK K HDG2 HNR HBA HGE hb100 hu2
                    refine wpAnyH_ready (rs := [0]) (by kernel_rfl) (by simp) (AllReadyH.cons rfl (fun K hK => ?_) AllReadyH.nil)
                    go_simp
                    have HGE := Lib.hid (show D ≤ u1.heap.size from HDG.out)
                    obtain ⟨B90, hb90⟩ : ∃ x, u1.heap.size = x := ⟨_, rfl⟩
                    obtain ⟨u2, hu2⟩ : ∃ x, u1.alloc (.cells #[] 129) = x := ⟨_, rfl⟩
                    have HBA := Lib.hid (show Below u1.heap.size u1 u2 from hu2 ▸ below_alloc (Below.refl _ _) _)
                    have HNR := Lib.hid (show Row u2 B90 129 #[] from by rw [← hu2, ← hb90]; exact ot_row_new _ _ _)
                    try rw [hb90]
                    try rw [hu2]
                    have HDG2 := Lib.hid (show D ≤ u2.heap.size from Nat.le_trans HDG.out HBA.out.size)
                    have HDG := HDG2
                    have HNE := Lib.hid (show B90 ≠ B100 from by have := HNEW.out.lt; rw [hb90] at this; omega)
                    have HQ0 := Lib.hid (own_zeroV3 (base := D) HNR.out (by rw [← hb90]; exact HGE.out))
                    have HE := Lib.hid (HE.out.keep HBA.out)
                    have HNEW := Lib.hid (HNEW.out.keep HBA.out)
                    refine hK.out _ _ (Lib.hid ⟨below_via HS.out.1 HBA.out, HS.out.2.keep HBA.out⟩) (fun HS => ?_)
                    clear hK K HDG2 HNR HBA HGE hb90 hu2
                    refine wpAnyH_ready (rs := [8]) (by kernel_rfl) (by simp) (AllReadyH.cons rfl (fun K hK => ?_) AllReadyH.nil)
                    refine step_append_vt rfl _ _ rfl D (.slice (some ⟨B90, 0, none⟩) 0 0) 0 [] rfl HQ0.out qs s0 cs S0 rfl (HE.out.recs HSA.out HS0L.out (by unfold maxLen; omega)) HQN.out (by omega) HDG.out ?_
                    intro q1 c1 u3 hown hgrow
                    simp only [List.nil_append, Nat.zero_add] at hown ⊢
                    have HQ1 := Lib.hid hown
                    have HO := Lib.hid (show u3.ownsRow w.heap.size 37 2 (.slice qo no co) no (cellsRc O) from by have := ot_own_grown HE.out.own hgrow (ot_own_apartT HE.out.own HQ0.out (by decide)); rw [HOL.out] at this; exact this)
                    have HDG := Lib.hid (Nat.le_trans HDG.out hgrow.size)
                    have HB2 := Lib.hid (HS.out.1.grown hgrow HS.out.1.size (fun j hj => Nat.le_trans HDW.out (HQ0.out.lt j hj).1))
                    have HV2 := Lib.hid (ot_under HS.out.2 HQ0.out HVD.out hgrow)
                    have HNEW := Lib.hid (HNEW.out.grown hgrow (by intro he; simp [Value.ownBlock] at he; exact HNE.out he))
                    refine hK.out _ _ (Lib.hid ⟨HB2.out, HV2.out⟩) (fun HS => ?_)
                    clear hK K hown hgrow HB2 HV2 HQ0 HE
                    refine wpAnyH_ready (rs := [11]) (by kernel_rfl) (by simp) (AllReadyH.cons rfl (fun K hK => ?_) AllReadyH.nil)
                    refine step_append1_vt rfl _ _ rfl D (.slice q1 s0 c1) s0 S0 rfl HQ1.out B100 _ vs vn rfl (vt_at_row vs vn HNEW.out) (by omega) HDG.out ?_
                    intro q2 c2 u4 hown hgrow
                    have HQ2 := Lib.hid hown
                    have HO := Lib.hid (ot_own_grown HO.out hgrow (ot_own_apartT HO.out HQ1.out (by decide)))
                    have HB2 := Lib.hid (HS.out.1.grown hgrow HS.out.1.size (fun j hj => Nat.le_trans HDW.out (HQ1.out.lt j hj).1))
                    have HV2 := Lib.hid (ot_under HS.out.2 HQ1.out HVD.out hgrow)
                    have hq2 : s0 + 1 ≤ c2 ∧ c2 ≤ maxLen ∧ q2 ≠ none := by
                      rcases hown.2 with ⟨_, h2⟩ | ⟨g2, cap, cur, hv, _, _, h3, h4, _⟩
                      · omega
                      · simp only [Value.slice.injEq] at hv; obtain ⟨rfl, _, rfl⟩ := hv; exact ⟨h3, h4, by simp⟩
                    have HBE := HB2
                    refine hK.out _ _ (Lib.hid ⟨HB2.out, HV2.out⟩) (fun HS => ?_)
                    clear hK K hown hgrow HB2 HV2 HQ1 HNEW HDG
                    refine held_take (i := 12) (d := 7) (v := .slice q2 (s0 + 1) c2) rfl rfl (by kernel_rfl) (by kernel_rfl) (by kernel_rfl) (by kernel_rfl) (fun wx hS => by go_simp) HS ?_
                    refine wpAnyH_done (by kernel_rfl) (NoPanic.normal ?_) _
                    have HSN : Hid (EvS l ws w u4 qo co q2 (k + 1) (S0 ++ [(vs, vn)]) O (st0 ++ GV)) := Lib.hid (EvS.put HNEV.out HNEXT.out HNOK.out HOL.out HO.out HQ2.out (by rw [List.length_append, HS0L.out]; rfl) HDW.out HS.out.1)
                    clear HQ2 HO HBE
                    go_wp2
                    go_roundw
                    case rel => exact ⟨k + 1, s0 + 1, no, S0 ++ [(vs, vn)], O, _, qo, co, q2, c2, by omega, by omega, by have := hq2.2.1; unfold maxLen at this; omega, by omega, fun h => absurd h hq2.2.2, rfl, rfl, by go_num, by rw [List.length_append, HS0L.out]; rfl, HOL.out, HSN⟩
                    case measure => simp [intOf]; omega
                · have hgt40 : (40 : Int) < (vs.size : Int) := by omega
                  have HNEV := Lib.hid (show evalR l ws = ([], 2) from evalR_long HP.out (by rw [HWL.out]; exact hw20) (k := k + 1) (by rw [HL.out]; omega) (by rw [HEV.out, HST1.out, if_neg h40]))
                  go_wp2
                  go_ret2
                  exact run_none HNEV.out (below_alloc HS.out.below _)

            · obtain ⟨g, rfl, _⟩ := HS.out.args HSA.out HS0L.out (by rw [HAL.out, HTK.out]; omega)
              have hcs : ¬ cs = s0 := by omega
              have hcs2 : s0 < cs := by omega
              have HARGR := Lib.hid (HS.out.argrecs HSA.out HS0L.out (by rw [HAL.out, HTK.out]) (by unfold maxLen; omega))
              go_wp2_with fail
              refine (HPUT.out _ _ _ _ rfl (HARGR.out.keep (Below.refl _ _)) (HW.out.keep HS.out.below)).mono ?_
              rintro e w4 ⟨rfl, hB4⟩
              have HS := Lib.hid (HS.out.keep hB4)
              clear hB4 c0 c1 c2
              by_cases h40 : vs.size ≤ 40
              · have hle40 : (vs.size : Int) ≤ 40 := by omega
                have HNEV := Lib.hid (show evK l ws (k + 1) = some (S0 ++ [(vs, vn)], O) by rw [HEV.out, HST1.out, if_pos h40])
                have HNOK := Lib.hid (HNOK.out _ (by rw [← HEV.out]; exact HNEV.out))
                clear HST1 HEV
                obtain ⟨V, hV⟩ : ∃ V, w4.heap.size = V := ⟨_, rfl⟩
                have HS5 := Lib.hid (HS.out.keep (below_alloc (Below.refl _ _) (.cells #[.string vs, .int .i64 vn] 129)))
                have HV5 := Lib.hid (show Row (w4.alloc (.cells #[.string vs, .int .i64 vn] 129)) V 129 #[.string vs, .int .i64 vn] from by rw [← hV]; exact ot_row_new _ _ _)
                go_wp2_with fail
                obtain ⟨w5, hw5⟩ : ∃ x, w4.alloc (.cells #[.string vs, .int .i64 vn] 129) = x := ⟨_, rfl⟩
                rw [hw5] at HS5 HV5
                try rw [hV]
                try rw [hw5]
                clear hw5 hV HS
                have sw0 : IntKind.i64.wrap (s0 : Int) = (s0 : Int) := IntWalk.i64_in _ (by omega)
                refine wp_region_noPanic ?_
                obtain ⟨u0, hu0⟩ : ∃ x, w5.drew = x := ⟨_, rfl⟩
                have HE : Hid (EvS l ws w u0 qo co (some ⟨g, 0, none⟩) k S O st) := Lib.hid (by rw [← hu0]; exact HS5.out.keep (Below.refl _ _).drew)
                have HVR : Hid (Row u0 V 129 #[.string vs, .int .i64 vn]) := Lib.hid (by rw [← hu0]; exact HV5.out)
                obtain ⟨D, hD⟩ : ∃ x, u0.heap.size = x := ⟨_, rfl⟩
                have HDG := Lib.hid (show D ≤ u0.heap.size by omega)
                have HDW := Lib.hid (show w.heap.size ≤ D by rw [← hD]; exact HE.out.below.size)
                have HVD := Lib.hid (show V < D by rw [← hD]; exact HVR.out.lt)
                refine wp_region_held_drew (S := (fun w' => Hid (Below w.heap.size w w' ∧ Row w' V 129 #[.string vs, .int .i64 vn]))) (by kernel_rfl) (by rw [hu0]; exact Lib.hid ⟨HE.out.below, HVR.out⟩) (fun HS => ?_)
                rw [hu0] at HS ⊢
                clear hu0 hD HVR HS5 HV5
                refine held_take (i := 1) (d := 91) (v := .slice (some ⟨g, 0, none⟩) (s0 + TK.size) cs) rfl rfl (by kernel_rfl) (by kernel_rfl) (by kernel_rfl) (by kernel_rfl) (fun wx hS => by go_simp) HS ?_
                refine held_take (i := 2) (d := 92) (v := .slice (some ⟨g, 0, none⟩) (s0 + TK.size) cs) rfl rfl (by kernel_rfl) (by kernel_rfl) (by kernel_rfl) (by kernel_rfl) (fun wx hS => by go_simp) HS ?_
                refine held_take (i := 3) (d := 93) (v := .int .i64 ((s0 : Int) + (TK.size : Int))) rfl rfl (by kernel_rfl) (by kernel_rfl) (by kernel_rfl) (by kernel_rfl) (fun wx hS => by go_simp) HS ?_
                refine held_take (i := 4) (d := 94) (v := .string TK) rfl rfl (by kernel_rfl) (by kernel_rfl) (by kernel_rfl) (by kernel_rfl) (fun wx hS => by go_simp) HS ?_
                refine held_take (i := 5) (d := 95) (v := .int .i64 (TK.size : Int)) rfl rfl (by kernel_rfl) (by kernel_rfl) (by kernel_rfl) (by kernel_rfl) (fun wx hS => by go_simp) HS ?_
                refine held_take (i := 6) (d := 96) (v := .int .i64 (s0 : Int)) rfl rfl (by kernel_rfl) (by kernel_rfl) (by kernel_rfl) (by kernel_rfl) (fun wx hS => by go_simp) HS ?_
                refine held_take (i := 7) (d := 97) (v := .slice (some ⟨g, 0, none⟩) s0 cs) rfl rfl (by kernel_rfl) (by kernel_rfl) (by kernel_rfl) (by kernel_rfl) (fun wx hS => by have hcl : ¬ cs < s0 := (by omega); go_simp) HS ?_
                refine held_take (i := 9) (d := 99) (v := .agg #[.string vs, .int .i64 vn]) rfl rfl (by kernel_rfl) (by kernel_rfl) (by kernel_rfl) (by kernel_rfl) (fun wx hS => by have z0 := hS.out.2.cell (j := 0) (by simp); have z1 := hS.out.2.cell (j := 1) (by simp); simp at z0 z1; go_simp) HS ?_
                refine wpAnyH_ready (rs := [0, 10]) (by kernel_rfl) (by simp) (AllReadyH.cons rfl (fun K hK => ?_) (AllReadyH.cons rfl (fun K hK => ?_) AllReadyH.nil))
                · skip
                  go_simp
                  have HGE := Lib.hid (show D ≤ u0.heap.size from HDG.out)
                  obtain ⟨B90, hb90⟩ : ∃ x, u0.heap.size = x := ⟨_, rfl⟩
                  obtain ⟨u1, hu2⟩ : ∃ x, u0.alloc (.cells #[] 129) = x := ⟨_, rfl⟩
                  have HBA := Lib.hid (show Below u0.heap.size u0 u1 from hu2 ▸ below_alloc (Below.refl _ _) _)
                  have HNR := Lib.hid (show Row u1 B90 129 #[] from by rw [← hu2, ← hb90]; exact ot_row_new _ _ _)
                  try rw [hb90]
                  try rw [hu2]
                  have HDG2 := Lib.hid (show D ≤ u1.heap.size from Nat.le_trans HDG.out HBA.out.size)
                  have HDG := HDG2
                  have HQ0 := Lib.hid (own_zeroV3 (base := D) HNR.out (by rw [← hb90]; exact HGE.out))
                  have HE := Lib.hid (HE.out.keep HBA.out)
                  refine hK.out _ _ (Lib.hid ⟨below_via HS.out.1 HBA.out, HS.out.2.keep HBA.out⟩) (fun HS => ?_)
                  clear hK K HDG2 HNR HBA HGE hb90 hu2
                  refine wpAnyH_ready (rs := [8, 10]) (by kernel_rfl) (by simp) (AllReadyH.cons rfl (fun K hK => ?_) (AllReadyH.cons rfl (fun K hK => ?_) AllReadyH.nil))
                  · skip
                    refine step_append_vt rfl _ _ rfl D (.slice (some ⟨B90, 0, none⟩) 0 0) 0 [] rfl HQ0.out (some ⟨g, 0, none⟩) s0 cs S0 rfl (HE.out.recs HSA.out HS0L.out (by unfold maxLen; omega)) HQN.out (by omega) HDG.out ?_
                    intro q1 c1 u2 hown hgrow
                    simp only [List.nil_append, Nat.zero_add] at hown ⊢
                    have HQ1 := Lib.hid hown
                    have HO := Lib.hid (show u2.ownsRow w.heap.size 37 2 (.slice qo no co) no (cellsRc O) from by have := ot_own_grown HE.out.own hgrow (ot_own_apartT HE.out.own HQ0.out (by decide)); rw [HOL.out] at this; exact this)
                    have HDG := Lib.hid (Nat.le_trans HDG.out hgrow.size)
                    have HB2 := Lib.hid (HS.out.1.grown hgrow HS.out.1.size (fun j hj => Nat.le_trans HDW.out (HQ0.out.lt j hj).1))
                    have HV2 := Lib.hid (ot_under HS.out.2 HQ0.out HVD.out hgrow)
                    refine hK.out _ _ (Lib.hid ⟨HB2.out, HV2.out⟩) (fun HS => ?_)
                    clear hK K hown hgrow HB2 HV2 HQ0 HE
                    refine wpAnyH_ready (rs := [10]) (by kernel_rfl) (by simp) (AllReadyH.cons rfl (fun K hK => ?_) AllReadyH.nil)
                    go_simp
                    have HGE := Lib.hid (show D ≤ u2.heap.size from HDG.out)
                    obtain ⟨B100, hb100⟩ : ∃ x, u2.heap.size = x := ⟨_, rfl⟩
                    obtain ⟨u3, hu2⟩ : ∃ x, u2.alloc (.cells #[.string vs, .int .i64 vn] 129) = x := ⟨_, rfl⟩
                    have HBA := Lib.hid (show Below u2.heap.size u2 u3 from hu2 ▸ below_alloc (Below.refl _ _) _)
                    have HNR := Lib.hid (show Row u3 B100 129 #[.string vs, .int .i64 vn] from by rw [← hu2, ← hb100]; exact ot_row_new _ _ _)
                    try rw [hb100]
                    try rw [hu2]
                    have HDG2 := Lib.hid (show D ≤ u3.heap.size from Nat.le_trans HDG.out HBA.out.size)
                    have HDG := HDG2
                    have HNEW := HNR
                    have HQ1 := Lib.hid (own_below HQ1.out HBA.out)
                    have HO := Lib.hid (own_below HO.out HBA.out)
                    refine hK.out _ _ (Lib.hid ⟨below_via HS.out.1 HBA.out, HS.out.2.keep HBA.out⟩) (fun HS => ?_)
                    clear hK K HDG2 HNR HBA HGE hb100 hu2
                    refine wpAnyH_ready (rs := [11]) (by kernel_rfl) (by simp) (AllReadyH.cons rfl (fun K hK => ?_) AllReadyH.nil)
                    refine step_append1_vt rfl _ _ rfl D (.slice q1 s0 c1) s0 S0 rfl HQ1.out B100 _ vs vn rfl (vt_at_row vs vn HNEW.out) (by omega) HDG.out ?_
                    intro q2 c2 u4 hown hgrow
                    have HQ2 := Lib.hid hown
                    have HO := Lib.hid (ot_own_grown HO.out hgrow (ot_own_apartT HO.out HQ1.out (by decide)))
                    have HB2 := Lib.hid (HS.out.1.grown hgrow HS.out.1.size (fun j hj => Nat.le_trans HDW.out (HQ1.out.lt j hj).1))
                    have HV2 := Lib.hid (ot_under HS.out.2 HQ1.out HVD.out hgrow)
                    have hq2 : s0 + 1 ≤ c2 ∧ c2 ≤ maxLen ∧ q2 ≠ none := by
                      rcases hown.2 with ⟨_, h2⟩ | ⟨g2, cap, cur, hv, _, _, h3, h4, _⟩
                      · omega
                      · simp only [Value.slice.injEq] at hv; obtain ⟨rfl, _, rfl⟩ := hv; exact ⟨h3, h4, by simp⟩
                    have HBE := HB2
                    refine hK.out _ _ (Lib.hid ⟨HB2.out, HV2.out⟩) (fun HS => ?_)
                    clear hK K hown hgrow HB2 HV2 HQ1 HNEW HDG
                    refine held_take (i := 12) (d := 7) (v := .slice q2 (s0 + 1) c2) rfl rfl (by kernel_rfl) (by kernel_rfl) (by kernel_rfl) (by kernel_rfl) (fun wx hS => by go_simp) HS ?_
                    refine wpAnyH_done (by kernel_rfl) (NoPanic.normal ?_) _
                    have HSN : Hid (EvS l ws w u4 qo co q2 (k + 1) (S0 ++ [(vs, vn)]) O (st0 ++ GV)) := Lib.hid (EvS.put HNEV.out HNEXT.out HNOK.out HOL.out HO.out HQ2.out (by rw [List.length_append, HS0L.out]; rfl) HDW.out HS.out.1)
                    clear HQ2 HO HBE
                    go_wp2
                    go_roundw
                    case rel => exact ⟨k + 1, s0 + 1, no, S0 ++ [(vs, vn)], O, _, qo, co, q2, c2, by omega, by omega, by have := hq2.2.1; unfold maxLen at this; omega, by omega, fun h => absurd h hq2.2.2, rfl, rfl, by go_num, by rw [List.length_append, HS0L.out]; rfl, HOL.out, HSN⟩
                    case measure => simp [intOf]; omega
                  · skip
                    go_simp
                    have HGE := Lib.hid (show D ≤ u1.heap.size from HDG.out)
                    obtain ⟨B100, hb100⟩ : ∃ x, u1.heap.size = x := ⟨_, rfl⟩
                    obtain ⟨u2, hu2⟩ : ∃ x, u1.alloc (.cells #[.string vs, .int .i64 vn] 129) = x := ⟨_, rfl⟩
                    have HBA := Lib.hid (show Below u1.heap.size u1 u2 from hu2 ▸ below_alloc (Below.refl _ _) _)
                    have HNR := Lib.hid (show Row u2 B100 129 #[.string vs, .int .i64 vn] from by rw [← hu2, ← hb100]; exact ot_row_new _ _ _)
                    try rw [hb100]
                    try rw [hu2]
                    have HDG2 := Lib.hid (show D ≤ u2.heap.size from Nat.le_trans HDG.out HBA.out.size)
                    have HDG := HDG2
                    have HNE := Lib.hid (show B90 ≠ B100 from by have := (HQ0.out.lt B90 rfl).2; rw [hb100] at this; omega)
                    have HNEW := HNR
                    have HE := Lib.hid (HE.out.keep HBA.out)
                    have HQ0 := Lib.hid (own_below HQ0.out HBA.out)
                    refine hK.out _ _ (Lib.hid ⟨below_via HS.out.1 HBA.out, HS.out.2.keep HBA.out⟩) (fun HS => ?_)
                    clear hK K HDG2 HNR HBA HGE hb100 hu2
                    refine wpAnyH_ready (rs := [8]) (by kernel_rfl) (by simp) (AllReadyH.cons rfl (fun K hK => ?_) AllReadyH.nil)
                    refine step_append_vt rfl _ _ rfl D (.slice (some ⟨B90, 0, none⟩) 0 0) 0 [] rfl HQ0.out (some ⟨g, 0, none⟩) s0 cs S0 rfl (HE.out.recs HSA.out HS0L.out (by unfold maxLen; omega)) HQN.out (by omega) HDG.out ?_
                    intro q1 c1 u3 hown hgrow
                    simp only [List.nil_append, Nat.zero_add] at hown ⊢
                    have HQ1 := Lib.hid hown
                    have HO := Lib.hid (show u3.ownsRow w.heap.size 37 2 (.slice qo no co) no (cellsRc O) from by have := ot_own_grown HE.out.own hgrow (ot_own_apartT HE.out.own HQ0.out (by decide)); rw [HOL.out] at this; exact this)
                    have HDG := Lib.hid (Nat.le_trans HDG.out hgrow.size)
                    have HB2 := Lib.hid (HS.out.1.grown hgrow HS.out.1.size (fun j hj => Nat.le_trans HDW.out (HQ0.out.lt j hj).1))
                    have HV2 := Lib.hid (ot_under HS.out.2 HQ0.out HVD.out hgrow)
                    have HNEW := Lib.hid (HNEW.out.grown hgrow (by intro he; simp [Value.ownBlock] at he; exact HNE.out he))
                    refine hK.out _ _ (Lib.hid ⟨HB2.out, HV2.out⟩) (fun HS => ?_)
                    clear hK K hown hgrow HB2 HV2 HQ0 HE
                    refine wpAnyH_ready (rs := [11]) (by kernel_rfl) (by simp) (AllReadyH.cons rfl (fun K hK => ?_) AllReadyH.nil)
                    refine step_append1_vt rfl _ _ rfl D (.slice q1 s0 c1) s0 S0 rfl HQ1.out B100 _ vs vn rfl (vt_at_row vs vn HNEW.out) (by omega) HDG.out ?_
                    intro q2 c2 u4 hown hgrow
                    have HQ2 := Lib.hid hown
                    have HO := Lib.hid (ot_own_grown HO.out hgrow (ot_own_apartT HO.out HQ1.out (by decide)))
                    have HB2 := Lib.hid (HS.out.1.grown hgrow HS.out.1.size (fun j hj => Nat.le_trans HDW.out (HQ1.out.lt j hj).1))
                    have HV2 := Lib.hid (ot_under HS.out.2 HQ1.out HVD.out hgrow)
                    have hq2 : s0 + 1 ≤ c2 ∧ c2 ≤ maxLen ∧ q2 ≠ none := by
                      rcases hown.2 with ⟨_, h2⟩ | ⟨g2, cap, cur, hv, _, _, h3, h4, _⟩
                      · omega
                      · simp only [Value.slice.injEq] at hv; obtain ⟨rfl, _, rfl⟩ := hv; exact ⟨h3, h4, by simp⟩
                    have HBE := HB2
                    refine hK.out _ _ (Lib.hid ⟨HB2.out, HV2.out⟩) (fun HS => ?_)
                    clear hK K hown hgrow HB2 HV2 HQ1 HNEW HDG
                    refine held_take (i := 12) (d := 7) (v := .slice q2 (s0 + 1) c2) rfl rfl (by kernel_rfl) (by kernel_rfl) (by kernel_rfl) (by kernel_rfl) (fun wx hS => by go_simp) HS ?_
                    refine wpAnyH_done (by kernel_rfl) (NoPanic.normal ?_) _
                    have HSN : Hid (EvS l ws w u4 qo co q2 (k + 1) (S0 ++ [(vs, vn)]) O (st0 ++ GV)) := Lib.hid (EvS.put HNEV.out HNEXT.out HNOK.out HOL.out HO.out HQ2.out (by rw [List.length_append, HS0L.out]; rfl) HDW.out HS.out.1)
                    clear HQ2 HO HBE
                    go_wp2
                    go_roundw
                    case rel => exact ⟨k + 1, s0 + 1, no, S0 ++ [(vs, vn)], O, _, qo, co, q2, c2, by omega, by omega, by have := hq2.2.1; unfold maxLen at this; omega, by omega, fun h => absurd h hq2.2.2, rfl, rfl, by go_num, by rw [List.length_append, HS0L.out]; rfl, HOL.out, HSN⟩
                    case measure => simp [intOf]; omega
                · skip
                  go_simp
                  have HGE := Lib.hid (show D ≤ u0.heap.size from HDG.out)
                  obtain ⟨B100, hb100⟩ : ∃ x, u0.heap.size = x := ⟨_, rfl⟩
                  obtain ⟨u1, hu2⟩ : ∃ x, u0.alloc (.cells #[.string vs, .int .i64 vn] 129) = x := ⟨_, rfl⟩
                  have HBA := Lib.hid (show Below u0.heap.size u0 u1 from hu2 ▸ below_alloc (Below.refl _ _) _)
                  have HNR := Lib.hid (show Row u1 B100 129 #[.string vs, .int .i64 vn] from by rw [← hu2, ← hb100]; exact ot_row_new _ _ _)
                  try rw [hb100]
                  try rw [hu2]
                  have HDG2 := Lib.hid (show D ≤ u1.heap.size from Nat.le_trans HDG.out HBA.out.size)
                  have HDG := HDG2
                  have HNEW := HNR
                  have HE := Lib.hid (HE.out.keep HBA.out)
                  refine hK.out _ _ (Lib.hid ⟨below_via HS.out.1 HBA.out, HS.out.2.keep HBA.out⟩) (fun HS => ?_)
                  clear hK K HDG2 HNR HBA HGE hb100 hu2
                  refine wpAnyH_ready (rs := [0]) (by kernel_rfl) (by simp) (AllReadyH.cons rfl (fun K hK => ?_) AllReadyH.nil)
                  go_simp
                  have HGE := Lib.hid (show D ≤ u1.heap.size from HDG.out)
                  obtain ⟨B90, hb90⟩ : ∃ x, u1.heap.size = x := ⟨_, rfl⟩
                  obtain ⟨u2, hu2⟩ : ∃ x, u1.alloc (.cells #[] 129) = x := ⟨_, rfl⟩
                  have HBA := Lib.hid (show Below u1.heap.size u1 u2 from hu2 ▸ below_alloc (Below.refl _ _) _)
                  have HNR := Lib.hid (show Row u2 B90 129 #[] from by rw [← hu2, ← hb90]; exact ot_row_new _ _ _)
                  try rw [hb90]
                  try rw [hu2]
                  have HDG2 := Lib.hid (show D ≤ u2.heap.size from Nat.le_trans HDG.out HBA.out.size)
                  have HDG := HDG2
                  have HNE := Lib.hid (show B90 ≠ B100 from by have := HNEW.out.lt; rw [hb90] at this; omega)
                  have HQ0 := Lib.hid (own_zeroV3 (base := D) HNR.out (by rw [← hb90]; exact HGE.out))
                  have HE := Lib.hid (HE.out.keep HBA.out)
                  have HNEW := Lib.hid (HNEW.out.keep HBA.out)
                  refine hK.out _ _ (Lib.hid ⟨below_via HS.out.1 HBA.out, HS.out.2.keep HBA.out⟩) (fun HS => ?_)
                  clear hK K HDG2 HNR HBA HGE hb90 hu2
                  refine wpAnyH_ready (rs := [8]) (by kernel_rfl) (by simp) (AllReadyH.cons rfl (fun K hK => ?_) AllReadyH.nil)
                  refine step_append_vt rfl _ _ rfl D (.slice (some ⟨B90, 0, none⟩) 0 0) 0 [] rfl HQ0.out (some ⟨g, 0, none⟩) s0 cs S0 rfl (HE.out.recs HSA.out HS0L.out (by unfold maxLen; omega)) HQN.out (by omega) HDG.out ?_
                  intro q1 c1 u3 hown hgrow
                  simp only [List.nil_append, Nat.zero_add] at hown ⊢
                  have HQ1 := Lib.hid hown
                  have HO := Lib.hid (show u3.ownsRow w.heap.size 37 2 (.slice qo no co) no (cellsRc O) from by have := ot_own_grown HE.out.own hgrow (ot_own_apartT HE.out.own HQ0.out (by decide)); rw [HOL.out] at this; exact this)
                  have HDG := Lib.hid (Nat.le_trans HDG.out hgrow.size)
                  have HB2 := Lib.hid (HS.out.1.grown hgrow HS.out.1.size (fun j hj => Nat.le_trans HDW.out (HQ0.out.lt j hj).1))
                  have HV2 := Lib.hid (ot_under HS.out.2 HQ0.out HVD.out hgrow)
                  have HNEW := Lib.hid (HNEW.out.grown hgrow (by intro he; simp [Value.ownBlock] at he; exact HNE.out he))
                  refine hK.out _ _ (Lib.hid ⟨HB2.out, HV2.out⟩) (fun HS => ?_)
                  clear hK K hown hgrow HB2 HV2 HQ0 HE
                  refine wpAnyH_ready (rs := [11]) (by kernel_rfl) (by simp) (AllReadyH.cons rfl (fun K hK => ?_) AllReadyH.nil)
                  refine step_append1_vt rfl _ _ rfl D (.slice q1 s0 c1) s0 S0 rfl HQ1.out B100 _ vs vn rfl (vt_at_row vs vn HNEW.out) (by omega) HDG.out ?_
                  intro q2 c2 u4 hown hgrow
                  have HQ2 := Lib.hid hown
                  have HO := Lib.hid (ot_own_grown HO.out hgrow (ot_own_apartT HO.out HQ1.out (by decide)))
                  have HB2 := Lib.hid (HS.out.1.grown hgrow HS.out.1.size (fun j hj => Nat.le_trans HDW.out (HQ1.out.lt j hj).1))
                  have HV2 := Lib.hid (ot_under HS.out.2 HQ1.out HVD.out hgrow)
                  have hq2 : s0 + 1 ≤ c2 ∧ c2 ≤ maxLen ∧ q2 ≠ none := by
                    rcases hown.2 with ⟨_, h2⟩ | ⟨g2, cap, cur, hv, _, _, h3, h4, _⟩
                    · omega
                    · simp only [Value.slice.injEq] at hv; obtain ⟨rfl, _, rfl⟩ := hv; exact ⟨h3, h4, by simp⟩
                  have HBE := HB2
                  refine hK.out _ _ (Lib.hid ⟨HB2.out, HV2.out⟩) (fun HS => ?_)
                  clear hK K hown hgrow HB2 HV2 HQ1 HNEW HDG
                  refine held_take (i := 12) (d := 7) (v := .slice q2 (s0 + 1) c2) rfl rfl (by kernel_rfl) (by kernel_rfl) (by kernel_rfl) (by kernel_rfl) (fun wx hS => by go_simp) HS ?_
                  refine wpAnyH_done (by kernel_rfl) (NoPanic.normal ?_) _
                  have HSN : Hid (EvS l ws w u4 qo co q2 (k + 1) (S0 ++ [(vs, vn)]) O (st0 ++ GV)) := Lib.hid (EvS.put HNEV.out HNEXT.out HNOK.out HOL.out HO.out HQ2.out (by rw [List.length_append, HS0L.out]; rfl) HDW.out HS.out.1)
                  clear HQ2 HO HBE
                  go_wp2
                  go_roundw
                  case rel => exact ⟨k + 1, s0 + 1, no, S0 ++ [(vs, vn)], O, _, qo, co, q2, c2, by omega, by omega, by have := hq2.2.1; unfold maxLen at this; omega, by omega, fun h => absurd h hq2.2.2, rfl, rfl, by go_num, by rw [List.length_append, HS0L.out]; rfl, HOL.out, HSN⟩
                  case measure => simp [intOf]; omega
              · have hgt40 : (40 : Int) < (vs.size : Int) := by omega
                have HNEV := Lib.hid (show evalR l ws = ([], 2) from evalR_long HP.out (by rw [HWL.out]; exact hw20) (k := k + 1) (by rw [HL.out]; omega) (by rw [HEV.out, HST1.out, if_neg h40]))
                go_wp2
                go_ret2
                exact run_none HNEV.out (below_alloc HS.out.below _)

        · obtain rfl : k = len := by omega
          have HC := Lib.hid (show evalR l ws = (O, 0) from evalR_good HP.out (by rw [HWL.out]; exact hw20) (by rw [HL.out]; exact HS.out.ev))
          go_wp2
          go_ret2
          rw [HC.out]
          refine ⟨qo, co, by rw [HOL.out]; rfl, HS.out.below, ?_, ?_, ?_⟩
          · exact rck_of_own (m := O.length) (cp := co) HS.out.own
          · intro hq
            subst hq
            rcases HS.out.own.2 with ⟨h1, _⟩ | ⟨g, cap, cur, hv, _⟩
            · simp only [Value.slice.injEq, true_and] at h1; exact h1.2
            · simp at hv
          · simp only [HOL.out]; omega
end Go.Proofs.YtjofbeokkainlaaGreatDoor
namespace Go.Proofs.YtjofbeokkainlaaGreatDoor
open Go.ChangeShapes Go.WideShapes Go.ChangeAt Go.RowKit
set_option linter.unusedVariables false
set_option maxRecDepth 100000

def cellsTx (T : Strs) : List Value := T.map .string
def cellsNm (N : List Int) : List Value := N.map (.int .i64)
theorem infoNumM : (Tryz.prog.info? 2).map (fun i => (i.zero, i.size, i.bytes)) = some (some (.int .i64 0), 1, 8) := by kernel_rfl
/-- The machine lies in block M; its stacks lie in rows from block B on. -/
structure MSt (B M : Nat) (wv : Value) (w : World) (tq nq oq : Option Addr) (tc nc oc nt nn no : Nat) (T : Strs) (N : List Int) (O : Recs) : Prop where
  row : Row w M 135 #[wv, .slice tq nt tc, .slice nq nn nc, .slice oq no oc]
  tx : w.ownsRow B 9 1 (.slice tq nt tc) nt (cellsTx T)
  nm : w.ownsRow B 2 1 (.slice nq nn nc) nn (cellsNm N)
  rc : w.ownsRow B 37 2 (.slice oq no oc) no (cellsRc O)
  lt : T.length = nt
  ln : N.length = nn
  lo : O.length = no
  low : B ≤ M
  few : nt ≤ 100 ∧ nn ≤ 100 ∧ no ≤ 100
def MAt (B M : Nat) (wv : Value) (w : World) (T : Strs) (N : List Int) (O : Recs) : Prop := ∃ tq nq oq tc nc oc nt nn no, MSt B M wv w tq nq oq tc nc oc nt nn no T N O
theorem MSt.keep {B M : Nat} {wv : Value} {w w1 : World} {tq nq oq : Option Addr} {tc nc oc nt nn no : Nat} {T : Strs} {N : List Int} {O : Recs} (h : MSt B M wv w tq nq oq tc nc oc nt nn no T N O) (hB : Below w.heap.size w w1) : MSt B M wv w1 tq nq oq tc nc oc nt nn no T N O :=
  ⟨h.row.keep hB, own_below h.tx hB, own_below h.nm hB, own_below h.rc hB, h.lt, h.ln, h.lo, h.low, h.few⟩
theorem MAt.keep {B M : Nat} {wv : Value} {w w1 : World} {T : Strs} {N : List Int} {O : Recs} (h : MAt B M wv w T N O) (hB : Below w.heap.size w w1) : MAt B M wv w1 T N O := by
  obtain ⟨tq, nq, oq, tc, nc, oc, nt, nn, no, h⟩ := h
  exact ⟨tq, nq, oq, tc, nc, oc, nt, nn, no, h.keep hB⟩
theorem MSt.lts {B M : Nat} {wv : Value} {w : World} {tq nq oq : Option Addr} {tc nc oc nt nn no : Nat} {T : Strs} {N : List Int} {O : Recs} (h : MSt B M wv w tq nq oq tc nc oc nt nn no T N O) : B ≤ w.heap.size := Nat.le_of_lt (Nat.lt_of_le_of_lt h.low h.row.lt)
theorem MSt.push_tx (s : ByteArray) {B M : Nat} {wv : Value} {w w8 : World} {tq nq oq : Option Addr} {tc nc oc nt nn no : Nat} {T : Strs} {N : List Int} {O : Recs} (h : MSt B M wv w tq nq oq tc nc oc nt nn no T N O) {q' : Option Addr} {c' : Nat} (o : Obj) (hown : w8.ownsRow B 9 1 (.slice q' (nt + 1) c') (nt + 1) (cellsTx (T ++ [s]))) (hg : (w.alloc o).grownBy w8 (Value.slice tq nt tc).ownBlock) (hf : nt + 1 ≤ 100) :
    MSt B M wv (w8.setCell ⟨M, 1, none⟩ (.slice q' (nt + 1) c')) q' nq oq c' nc oc (nt + 1) nn no (T ++ [s]) N O ∧ Below B w (w8.setCell ⟨M, 1, none⟩ (.slice q' (nt + 1) c')) := by
  have hr : Row w8 M 135 #[wv, .slice tq nt tc, .slice nq nn nc, .slice oq no oc] := ot_row_grownT (h.row.otAl o) (own_below h.tx (below_alloc (Below.refl _ _) o)) (by decide) hg
  refine ⟨⟨?_, ot_own_put hown (ot_own_ne_row hown hr (by decide)) _ _, ot_own_put (ot_own_grown (own_below h.nm (below_alloc (Below.refl _ _) o)) hg (ot_own_apartT (own_below h.nm (below_alloc (Below.refl _ _) o)) (own_below h.tx (below_alloc (Below.refl _ _) o)) (by decide))) (ot_own_ne_row (ot_own_grown (own_below h.nm (below_alloc (Below.refl _ _) o)) hg (ot_own_apartT (own_below h.nm (below_alloc (Below.refl _ _) o)) (own_below h.tx (below_alloc (Below.refl _ _) o)) (by decide))) hr (by decide)) _ _, ot_own_put (ot_own_grown (own_below h.rc (below_alloc (Below.refl _ _) o)) hg (ot_own_apartT (own_below h.rc (below_alloc (Below.refl _ _) o)) (own_below h.tx (below_alloc (Below.refl _ _) o)) (by decide))) (ot_own_ne_row (ot_own_grown (own_below h.rc (below_alloc (Below.refl _ _) o)) hg (ot_own_apartT (own_below h.rc (below_alloc (Below.refl _ _) o)) (own_below h.tx (below_alloc (Below.refl _ _) o)) (by decide))) hr (by decide)) _ _, by rw [List.length_append, h.lt]; rfl, h.ln, h.lo, h.low, by have := hf; omega, h.few.2.1, h.few.2.2⟩, ?_⟩
  · have := hr.set 1 (.slice q' (nt + 1) c')
    simpa using this
  · exact (((Below.refl B w).alloc h.lts o).grown hg (Nat.le_trans h.lts (by simp)) (fun j hj => ((own_below h.tx (below_alloc (Below.refl _ _) o)).lt j hj).1)).setCell h.low _
theorem MSt.pop_tx {B M : Nat} {wv : Value} {w : World} {tq nq oq : Option Addr} {tc nc oc nt nn no : Nat} {T : Strs} {N : List Int} {O : Recs} (h : MSt B M wv w tq nq oq tc nc oc nt nn no T N O) {V : Strs} {s : ByteArray} {k : Nat} (hL : T = V ++ [s]) (hV : V.length = k) :
    MSt B M wv (w.setCell ⟨M, 1, none⟩ (.slice tq k tc)) tq nq oq tc nc oc k nn no V N O ∧ Below B w (w.setCell ⟨M, 1, none⟩ (.slice tq k tc)) ∧ nt = k + 1 := by
  have hk : nt = k + 1 := by have := h.lt; rw [hL, List.length_append, hV] at this; simpa using this.symm
  have hd : w.ownsRow B 9 1 (.slice tq k tc) k (cellsTx V) := by
    have := ot_take h.tx (k := k) (by omega) (by omega)
    have e : (cellsTx T).take (k * 1) = cellsTx V := by
      rw [hL]; unfold cellsTx
      rw [Nat.mul_one, List.map_append, List.take_left' (by rw [List.length_map, hV])]
    rw [e] at this
    exact this
  refine ⟨⟨?_, ot_own_put hd (ot_own_ne_row hd h.row (by decide)) _ _, ot_own_put h.nm (ot_own_ne_row h.nm h.row (by decide)) _ _, ot_own_put h.rc (ot_own_ne_row h.rc h.row (by decide)) _ _, hV, h.ln, h.lo, h.low, by have := h.few; omega, h.few.2.1, h.few.2.2⟩, (Below.refl B w).setCell h.low _, hk⟩
  have := h.row.set 1 (.slice tq k tc)
  simpa using this
theorem MSt.top_tx {B M : Nat} {wv : Value} {w : World} {tq nq oq : Option Addr} {tc nc oc nt nn no : Nat} {T : Strs} {N : List Int} {O : Recs} (h : MSt B M wv w tq nq oq tc nc oc nt nn no T N O) {V : Strs} {s : ByteArray} {k : Nat} (hL : T = V ++ [s]) (hV : V.length = k) :
    ∃ g, tq = some ⟨g, 0, none⟩ ∧ w.cell? ⟨g, k, none⟩ = some (.string s) ∧ nt = k + 1 ∧ k < tc ∧ tc ≤ maxLen := by
  have hk : nt = k + 1 := by have := h.lt; rw [hL, List.length_append, hV] at this; simpa using this.symm
  rcases h.tx.2 with ⟨_, h0⟩ | ⟨g, cap, cur, hv, hb, hh, h1, h2, h3, h4⟩
  · omega
  · simp only [Value.slice.injEq] at hv
    obtain ⟨rfl, _, rfl⟩ := hv
    refine ⟨g, rfl, ?_, hk, by omega, h2⟩
    have e : (cellsTx T)[k]? = some (.string s) := by
      rw [hL]; unfold cellsTx
      rw [List.map_append, List.getElem?_append_right (by rw [List.length_map, hV]; exact Nat.le_refl _), List.length_map, hV, Nat.sub_self]
      rfl
    rw [← h4, List.getElem?_take_of_lt (by omega)] at e
    simp only [World.cell?, hh]
    simpa using e
theorem MSt.push_nm (s : Int) {B M : Nat} {wv : Value} {w w8 : World} {tq nq oq : Option Addr} {tc nc oc nt nn no : Nat} {T : Strs} {N : List Int} {O : Recs} (h : MSt B M wv w tq nq oq tc nc oc nt nn no T N O) {q' : Option Addr} {c' : Nat} (o : Obj) (hown : w8.ownsRow B 2 1 (.slice q' (nn + 1) c') (nn + 1) (cellsNm (N ++ [s]))) (hg : (w.alloc o).grownBy w8 (Value.slice nq nn nc).ownBlock) (hf : nn + 1 ≤ 100) :
    MSt B M wv (w8.setCell ⟨M, 2, none⟩ (.slice q' (nn + 1) c')) tq q' oq tc c' oc nt (nn + 1) no T (N ++ [s]) O ∧ Below B w (w8.setCell ⟨M, 2, none⟩ (.slice q' (nn + 1) c')) := by
  have hr : Row w8 M 135 #[wv, .slice tq nt tc, .slice nq nn nc, .slice oq no oc] := ot_row_grownT (h.row.otAl o) (own_below h.nm (below_alloc (Below.refl _ _) o)) (by decide) hg
  refine ⟨⟨?_, ot_own_put (ot_own_grown (own_below h.tx (below_alloc (Below.refl _ _) o)) hg (ot_own_apartT (own_below h.tx (below_alloc (Below.refl _ _) o)) (own_below h.nm (below_alloc (Below.refl _ _) o)) (by decide))) (ot_own_ne_row (ot_own_grown (own_below h.tx (below_alloc (Below.refl _ _) o)) hg (ot_own_apartT (own_below h.tx (below_alloc (Below.refl _ _) o)) (own_below h.nm (below_alloc (Below.refl _ _) o)) (by decide))) hr (by decide)) _ _, ot_own_put hown (ot_own_ne_row hown hr (by decide)) _ _, ot_own_put (ot_own_grown (own_below h.rc (below_alloc (Below.refl _ _) o)) hg (ot_own_apartT (own_below h.rc (below_alloc (Below.refl _ _) o)) (own_below h.nm (below_alloc (Below.refl _ _) o)) (by decide))) (ot_own_ne_row (ot_own_grown (own_below h.rc (below_alloc (Below.refl _ _) o)) hg (ot_own_apartT (own_below h.rc (below_alloc (Below.refl _ _) o)) (own_below h.nm (below_alloc (Below.refl _ _) o)) (by decide))) hr (by decide)) _ _, h.lt, by rw [List.length_append, h.ln]; rfl, h.lo, h.low, h.few.1, by have := hf; omega, h.few.2.2⟩, ?_⟩
  · have := hr.set 2 (.slice q' (nn + 1) c')
    simpa using this
  · exact (((Below.refl B w).alloc h.lts o).grown hg (Nat.le_trans h.lts (by simp)) (fun j hj => ((own_below h.nm (below_alloc (Below.refl _ _) o)).lt j hj).1)).setCell h.low _
theorem MSt.pop_nm {B M : Nat} {wv : Value} {w : World} {tq nq oq : Option Addr} {tc nc oc nt nn no : Nat} {T : Strs} {N : List Int} {O : Recs} (h : MSt B M wv w tq nq oq tc nc oc nt nn no T N O) {V : List Int} {s : Int} {k : Nat} (hL : N = V ++ [s]) (hV : V.length = k) :
    MSt B M wv (w.setCell ⟨M, 2, none⟩ (.slice nq k nc)) tq nq oq tc nc oc nt k no T V O ∧ Below B w (w.setCell ⟨M, 2, none⟩ (.slice nq k nc)) ∧ nn = k + 1 := by
  have hk : nn = k + 1 := by have := h.ln; rw [hL, List.length_append, hV] at this; simpa using this.symm
  have hd : w.ownsRow B 2 1 (.slice nq k nc) k (cellsNm V) := by
    have := ot_take h.nm (k := k) (by omega) (by omega)
    have e : (cellsNm N).take (k * 1) = cellsNm V := by
      rw [hL]; unfold cellsNm
      rw [Nat.mul_one, List.map_append, List.take_left' (by rw [List.length_map, hV])]
    rw [e] at this
    exact this
  refine ⟨⟨?_, ot_own_put h.tx (ot_own_ne_row h.tx h.row (by decide)) _ _, ot_own_put hd (ot_own_ne_row hd h.row (by decide)) _ _, ot_own_put h.rc (ot_own_ne_row h.rc h.row (by decide)) _ _, h.lt, hV, h.lo, h.low, h.few.1, by have := h.few; omega, h.few.2.2⟩, (Below.refl B w).setCell h.low _, hk⟩
  have := h.row.set 2 (.slice nq k nc)
  simpa using this
theorem MSt.top_nm {B M : Nat} {wv : Value} {w : World} {tq nq oq : Option Addr} {tc nc oc nt nn no : Nat} {T : Strs} {N : List Int} {O : Recs} (h : MSt B M wv w tq nq oq tc nc oc nt nn no T N O) {V : List Int} {s : Int} {k : Nat} (hL : N = V ++ [s]) (hV : V.length = k) :
    ∃ g, nq = some ⟨g, 0, none⟩ ∧ w.cell? ⟨g, k, none⟩ = some (.int .i64 s) ∧ nn = k + 1 ∧ k < nc ∧ nc ≤ maxLen := by
  have hk : nn = k + 1 := by have := h.ln; rw [hL, List.length_append, hV] at this; simpa using this.symm
  rcases h.nm.2 with ⟨_, h0⟩ | ⟨g, cap, cur, hv, hb, hh, h1, h2, h3, h4⟩
  · omega
  · simp only [Value.slice.injEq] at hv
    obtain ⟨rfl, _, rfl⟩ := hv
    refine ⟨g, rfl, ?_, hk, by omega, h2⟩
    have e : (cellsNm N)[k]? = some (.int .i64 s) := by
      rw [hL]; unfold cellsNm
      rw [List.map_append, List.getElem?_append_right (by rw [List.length_map, hV]; exact Nat.le_refl _), List.length_map, hV, Nat.sub_self]
      rfl
    rw [← h4, List.getElem?_take_of_lt (by omega)] at e
    simp only [World.cell?, hh]
    simpa using e
theorem MSt.push_rc (s : ByteArray) (m : Int) {B M : Nat} {wv : Value} {w w8 : World} {tq nq oq : Option Addr} {tc nc oc nt nn no : Nat} {T : Strs} {N : List Int} {O : Recs} (h : MSt B M wv w tq nq oq tc nc oc nt nn no T N O) {q' : Option Addr} {c' : Nat} (o : Obj) (hown : w8.ownsRow B 37 2 (.slice q' (no + 1) c') (no + 1) (cellsRc (O ++ [(s, m)]))) (hg : (w.alloc o).grownBy w8 (Value.slice oq no oc).ownBlock) (hf : no + 1 ≤ 100) :
    MSt B M wv (w8.setCell ⟨M, 3, none⟩ (.slice q' (no + 1) c')) tq nq q' tc nc c' nt nn (no + 1) T N (O ++ [(s, m)]) ∧ Below B w (w8.setCell ⟨M, 3, none⟩ (.slice q' (no + 1) c')) := by
  have hr : Row w8 M 135 #[wv, .slice tq nt tc, .slice nq nn nc, .slice oq no oc] := ot_row_grownT (h.row.otAl o) (own_below h.rc (below_alloc (Below.refl _ _) o)) (by decide) hg
  refine ⟨⟨?_, ot_own_put (ot_own_grown (own_below h.tx (below_alloc (Below.refl _ _) o)) hg (ot_own_apartT (own_below h.tx (below_alloc (Below.refl _ _) o)) (own_below h.rc (below_alloc (Below.refl _ _) o)) (by decide))) (ot_own_ne_row (ot_own_grown (own_below h.tx (below_alloc (Below.refl _ _) o)) hg (ot_own_apartT (own_below h.tx (below_alloc (Below.refl _ _) o)) (own_below h.rc (below_alloc (Below.refl _ _) o)) (by decide))) hr (by decide)) _ _, ot_own_put (ot_own_grown (own_below h.nm (below_alloc (Below.refl _ _) o)) hg (ot_own_apartT (own_below h.nm (below_alloc (Below.refl _ _) o)) (own_below h.rc (below_alloc (Below.refl _ _) o)) (by decide))) (ot_own_ne_row (ot_own_grown (own_below h.nm (below_alloc (Below.refl _ _) o)) hg (ot_own_apartT (own_below h.nm (below_alloc (Below.refl _ _) o)) (own_below h.rc (below_alloc (Below.refl _ _) o)) (by decide))) hr (by decide)) _ _, ot_own_put hown (ot_own_ne_row hown hr (by decide)) _ _, h.lt, h.ln, by rw [List.length_append, h.lo]; rfl, h.low, h.few.1, h.few.2.1, by have := hf; omega⟩, ?_⟩
  · have := hr.set 3 (.slice q' (no + 1) c')
    simpa using this
  · exact (((Below.refl B w).alloc h.lts o).grown hg (Nat.le_trans h.lts (by simp)) (fun j hj => ((own_below h.rc (below_alloc (Below.refl _ _) o)).lt j hj).1)).setCell h.low _
end Go.Proofs.YtjofbeokkainlaaGreatDoor
namespace Go.Proofs.YtjofbeokkainlaaGreatDoor
open Go.ChangeShapes Go.WideShapes Go.ChangeAt Go.RowKit
set_option linter.unusedVariables false
set_option maxRecDepth 100000

/-- The end of a method that turns the machine. -/
def MEnd (B M : Nat) (wv v : Value) (T : Strs) (N : List Int) (O : Recs) (w : World) (e : Ending) (w' : World) : Prop := e = .returned v ∧ MAt B M wv w' T N O ∧ Below B w w'
theorem one_at (w : World) (x : Value) (t : TypeId) : ∀ j u, [x][j]? = some u → (w.alloc (.cells #[x] t)).cell? ((⟨w.heap.size, 0, none⟩ : Addr).add j) = some u := one_new w x t

set_option maxHeartbeats 2000000 in
theorem pushText_any (B M : Nat) (wv : Value) (w : World) (T : Strs) (N : List Int) (O : Recs) (s : ByteArray) (h : MAt B M wv w T N O) (hf : T.length < 100) :
    Calls Tryz.prog 129 #[.pointer (some ⟨M, 0, none⟩), .string s] w (MEnd B M wv (.tuple #[]) (T ++ [s]) N O w) := by
  obtain ⟨tq, nq, oq, tc, nc, oc, nt, nn, no, h⟩ := h
  have hn : nt + 1 ≤ 100 := by have := h.lt; omega
  obtain ⟨i0, hi, hz0, hz1, hz2⟩ := info_parts infoStr
  have HM := Lib.hid h
  have HF := Lib.hid hn
  have HR := Lib.hid (h.row.otAl (.cells #[.string s] 9))
  have k0 := h.row.cell (j := 0) (by simp)
  have k1 := h.row.cell (j := 1) (by simp)
  have k2 := h.row.cell (j := 2) (by simp)
  have k3 := h.row.cell (j := 3) (by simp)
  simp at k0 k1 k2 k3
  have f1 := h.row.free 1
  have a1 : (w.alloc (.cells #[.string s] 9)).cell? ⟨M, 1, none⟩ = some (.slice tq nt tc) := (World.cell?_alloc_past _ _ _ h.row.lt).trans k1
  clear h hf
  go_enter Tryz.func129, Tryz.ntmps129
  go_wp2_with (at_builtin; (refine wpList_append_own _ rfl _ _ 25 rfl B 9 i0 _ 1 16 Tryz.underlying25 hi hz0 hz1 hz2 rfl (by decide) _ _ _ rfl (own_below HM.out.tx (below_alloc (Below.refl _ _) _)) ⟨w.heap.size, 0, none⟩ 1 1 [.string s] rfl rfl (one_at _ _ _) (fun u hu => by simp at hu; subst hu; rfl) (by unfold maxLen; omega) (by omega) (Nat.le_trans HM.out.lts (by simp)) ?_); intro v' w8 hown hgrow _; obtain ⟨q', c', rfl⟩ := own_form hown; have HP := Lib.hid (HM.out.push_tx s _ (by unfold cellsTx; rw [List.map_append]; exact hown) hgrow HF.out); have hr8 := Lib.hid (ot_row_grownT HR.out (own_below HM.out.tx (below_alloc (Below.refl _ _) _)) (by decide) hgrow); have f8 := hr8.out.free 1; have k8 := hr8.out.cell (j := 1) (by simp); simp at k8; clear hown hgrow hr8)
  go_end0
  exact ⟨rfl, ⟨_, _, _, _, _, _, _, _, _, HP.out.1⟩, HP.out.2⟩

set_option maxHeartbeats 2000000 in
theorem pushNum_any (B M : Nat) (wv : Value) (w : World) (T : Strs) (N : List Int) (O : Recs) (s : Int) (h : MAt B M wv w T N O) (hf : N.length < 100) :
    Calls Tryz.prog 133 #[.pointer (some ⟨M, 0, none⟩), .int .i64 s] w (MEnd B M wv (.tuple #[]) T (N ++ [s]) O w) := by
  obtain ⟨tq, nq, oq, tc, nc, oc, nt, nn, no, h⟩ := h
  have hn : nn + 1 ≤ 100 := by have := h.ln; omega
  obtain ⟨i0, hi, hz0, hz1, hz2⟩ := info_parts infoNumM
  have HM := Lib.hid h
  have HF := Lib.hid hn
  have HR := Lib.hid (h.row.otAl (.cells #[.int .i64 s] 2))
  have k0 := h.row.cell (j := 0) (by simp)
  have k1 := h.row.cell (j := 1) (by simp)
  have k2 := h.row.cell (j := 2) (by simp)
  have k3 := h.row.cell (j := 3) (by simp)
  simp at k0 k1 k2 k3
  have f1 := h.row.free 2
  have a2 : (w.alloc (.cells #[.int .i64 s] 2)).cell? ⟨M, 2, none⟩ = some (.slice nq nn nc) := (World.cell?_alloc_past _ _ _ h.row.lt).trans k2
  clear h hf
  go_enter Tryz.func133, Tryz.ntmps133
  go_wp2_with (at_builtin; (refine wpList_append_own _ rfl _ _ 95 rfl B 2 i0 _ 1 8 Tryz.underlying95 hi hz0 hz1 hz2 rfl (by decide) _ _ _ rfl (own_below HM.out.nm (below_alloc (Below.refl _ _) _)) ⟨w.heap.size, 0, none⟩ 1 1 [.int .i64 s] rfl rfl (one_at _ _ _) (fun u hu => by simp at hu; subst hu; rfl) (by unfold maxLen; omega) (by omega) (Nat.le_trans HM.out.lts (by simp)) ?_); intro v' w8 hown hgrow _; obtain ⟨q', c', rfl⟩ := own_form hown; have HP := Lib.hid (HM.out.push_nm s _ (by unfold cellsNm; rw [List.map_append]; exact hown) hgrow HF.out); have hr8 := Lib.hid (ot_row_grownT HR.out (own_below HM.out.nm (below_alloc (Below.refl _ _) _)) (by decide) hgrow); have f8 := hr8.out.free 2; have k8 := hr8.out.cell (j := 2) (by simp); simp at k8; clear hown hgrow hr8)
  go_end0
  exact ⟨rfl, ⟨_, _, _, _, _, _, _, _, _, HP.out.1⟩, HP.out.2⟩

set_option maxHeartbeats 2000000 in
theorem emit_any (B M : Nat) (wv : Value) (w : World) (T : Strs) (N : List Int) (O : Recs) (s : ByteArray) (m : Int) (h : MAt B M wv w T N O) (hf : O.length < 100) :
    Calls Tryz.prog 161 #[.pointer (some ⟨M, 0, none⟩), .string s, .int .i64 m] w (MEnd B M wv (.tuple #[]) T N (O ++ [(s, m)]) w) := by
  obtain ⟨tq, nq, oq, tc, nc, oc, nt, nn, no, h⟩ := h
  have hn : no + 1 ≤ 100 := by have := h.lo; omega
  have HM := Lib.hid h
  have HF := Lib.hid hn
  have HR := Lib.hid (h.row.otAl (.cells #[.string s, .int .i64 m] 37))
  have k0 := h.row.cell (j := 0) (by simp)
  have k1 := h.row.cell (j := 1) (by simp)
  have k2 := h.row.cell (j := 2) (by simp)
  have k3 := h.row.cell (j := 3) (by simp)
  simp at k0 k1 k2 k3
  have f1 := h.row.free 3
  clear h hf
  go_enter Tryz.func161, Tryz.ntmps161
  go_wp2_with (at_builtin; go_loud (refine append1_rc rfl _ _ rfl B (.slice oq no oc) no O rfl (own_below HM.out.rc (below_alloc (Below.refl _ _) _)) w.heap.size _ s m rfl (rc_new w _ _ _) (by omega) (Nat.le_trans HM.out.lts (by simp)) ?_); intro q' c' w8 hown hgrow; have HP := Lib.hid (HM.out.push_rc s m _ hown hgrow HF.out); have hr8 := Lib.hid (ot_row_grownT HR.out (own_below HM.out.rc (below_alloc (Below.refl _ _) _)) (by decide) hgrow); have f8 := hr8.out.free 3; have k8 := hr8.out.cell (j := 3) (by simp); simp at k8; clear hown hgrow hr8)
  go_end0
  exact ⟨rfl, ⟨_, _, _, _, _, _, _, _, _, HP.out.1⟩, HP.out.2⟩

set_option maxHeartbeats 2000000 in
theorem popText_any (B M : Nat) (wv : Value) (w : World) (T : Strs) (N : List Int) (O : Recs) (V : Strs) (s : ByteArray) (h : MAt B M wv w T N O) (hL : T = V ++ [s]) :
    Calls Tryz.prog 137 #[.pointer (some ⟨M, 0, none⟩)] w (MEnd B M wv (.string s) V N O w) := by
  obtain ⟨tq, nq, oq, tc, nc, oc, nt, nn, no, h⟩ := h
  have HM := Lib.hid (h.pop_tx hL rfl)
  obtain ⟨g, hg, ct, hk, hc, hcm⟩ := h.top_tx hL rfl
  have hfew := h.few
  obtain ⟨k, hkl⟩ : ∃ k, V.length = k := ⟨_, rfl⟩
  rw [hkl] at HM ct hk hc
  subst hg
  subst hk
  unfold maxLen at hcm
  have k0 := h.row.cell (j := 0) (by simp)
  have k1 := h.row.cell (j := 1) (by simp)
  have k2 := h.row.cell (j := 2) (by simp)
  have k3 := h.row.cell (j := 3) (by simp)
  simp at k0 k1 k2 k3
  have f1 := h.row.free 1
  have e1 : ((k : Int) + 1) - 1 = (k : Int) := by omega
  have sw : IntKind.i64.wrap ((k : Int) + 1 - 1) = (k : Int) := by rw [e1]; exact IntWalk.i64_in _ (by omega)
  clear h hL hkl
  go_enter Tryz.func137, Tryz.ntmps137
  go_wp2
  go_ret
  exact ⟨rfl, ⟨_, _, _, _, _, _, _, _, _, HM.out.1⟩, HM.out.2.1⟩

set_option maxHeartbeats 2000000 in
theorem popNum_any (B M : Nat) (wv : Value) (w : World) (T : Strs) (N : List Int) (O : Recs) (V : List Int) (s : Int) (h : MAt B M wv w T N O) (hL : N = V ++ [s]) :
    Calls Tryz.prog 142 #[.pointer (some ⟨M, 0, none⟩)] w (MEnd B M wv (.int .i64 s) T V O w) := by
  obtain ⟨tq, nq, oq, tc, nc, oc, nt, nn, no, h⟩ := h
  have HM := Lib.hid (h.pop_nm hL rfl)
  obtain ⟨g, hg, ct, hk, hc, hcm⟩ := h.top_nm hL rfl
  have hfew := h.few
  obtain ⟨k, hkl⟩ : ∃ k, V.length = k := ⟨_, rfl⟩
  rw [hkl] at HM ct hk hc
  subst hg
  subst hk
  unfold maxLen at hcm
  have k0 := h.row.cell (j := 0) (by simp)
  have k1 := h.row.cell (j := 1) (by simp)
  have k2 := h.row.cell (j := 2) (by simp)
  have k3 := h.row.cell (j := 3) (by simp)
  simp at k0 k1 k2 k3
  have f1 := h.row.free 2
  have e1 : ((k : Int) + 1) - 1 = (k : Int) := by omega
  have sw : IntKind.i64.wrap ((k : Int) + 1 - 1) = (k : Int) := by rw [e1]; exact IntWalk.i64_in _ (by omega)
  clear h hL hkl
  go_enter Tryz.func142, Tryz.ntmps142
  go_wp2
  go_ret
  exact ⟨rfl, ⟨_, _, _, _, _, _, _, _, _, HM.out.1⟩, HM.out.2.1⟩

theorem mword_any (B M : Nat) (wq : Option Addr) (wn wc : Nat) (ws : Strs) (w : World) (T : Strs) (N : List Int) (O : Recs) (i : Int) (h : MAt B M (.slice wq wn wc) w T N O) (hw : StrsAt w wq wn ws) (hi : 0 ≤ i) :
    Calls Tryz.prog 130 #[.pointer (some ⟨M, 0, none⟩), .int .i64 i] w fun e w' => e = .returned (.string (wordAt ws i)) ∧ w' = w := by
  obtain ⟨tq, nq, oq, tc, nc, oc, nt, nn, no, h⟩ := h
  have hl := hw.length
  have k0 := h.row.cell (j := 0) (by simp)
  have k1 := h.row.cell (j := 1) (by simp)
  have k2 := h.row.cell (j := 2) (by simp)
  have k3 := h.row.cell (j := 3) (by simp)
  simp at k0 k1 k2 k3
  clear h
  by_cases hlt : i < (wn : Int)
  · obtain ⟨j, rfl⟩ : ∃ j : Nat, i = j := ⟨i.toNat, by omega⟩
    rcases hw.src with h0 | ⟨b, off, rfl, _, hc⟩
    · omega
    have cw := hc j (by omega)
    have HR := Lib.hid (show wordAt ws j = strAt ws j by unfold wordAt; rw [if_pos (by omega)]; rfl)
    obtain ⟨x, hx⟩ : ∃ x, strAt ws j = x := ⟨_, rfl⟩
    rw [hx] at HR cw
    have hge : ¬ (wn : Int) ≤ (j : Int) := by omega
    clear hc hw hx
    go_enter Tryz.func130, Tryz.ntmps130
    go_wp2
    go_ret
    exact ⟨by rw [HR.out]; rfl, rfl⟩
  · have HR := Lib.hid (show wordAt ws i = ⟨#[]⟩ by unfold wordAt; rw [if_neg (by omega)]; rfl)
    have hge : (wn : Int) ≤ i := by omega
    clear hw
    go_enter Tryz.func130, Tryz.ntmps130
    go_wp2
    go_ret
    exact ⟨by rw [HR.out]; rfl, rfl⟩

/-- Whether the text that was pushed last is too long. -/
theorem toolong_any (B M : Nat) (wv : Value) (w : World) (T : Strs) (N : List Int) (O : Recs) (h : MAt B M wv w T N O) (b : Bool) (hb : (∀ V s, T = V ++ [s] → b = decide (40 < s.size)) ∧ (T = [] → b = false)) :
    Calls Tryz.prog 90 #[.pointer (some ⟨M, 0, none⟩)] w fun e w' => e = .returned (.bool b) ∧ w' = w := by
  obtain ⟨tq, nq, oq, tc, nc, oc, nt, nn, no, h⟩ := h
  have hfew := h.few
  rcases List.eq_nil_or_concat T with hT | ⟨V, s, hT⟩
  · have hb2 := hb.2 hT
    subst hb2
    have hn0 : nt = 0 := by have := h.lt; rw [hT] at this; exact this.symm
    subst hn0
    have k0 := h.row.cell (j := 0) (by simp)
    have k1 := h.row.cell (j := 1) (by simp)
    have k2 := h.row.cell (j := 2) (by simp)
    have k3 := h.row.cell (j := 3) (by simp)
    simp at k0 k1 k2 k3
    clear h hb
    have sw : IntKind.i64.wrap (-1) = -1 := by decide
    go_enter Tryz.func90, Tryz.ntmps90
    go_wp2
    go_ret
    exact ⟨rfl, rfl⟩
  · rw [List.concat_eq_append] at hT
    have hb2 := hb.1 V s hT
    obtain ⟨g, hg, ct, hk, hc, hcm⟩ := h.top_tx hT rfl
    obtain ⟨k, hkl⟩ : ∃ k, V.length = k := ⟨_, rfl⟩
    rw [hkl] at ct hk hc
    subst hg
    subst hk
    have e1 : ((k : Int) + 1) - 1 = (k : Int) := by omega
    have sw : IntKind.i64.wrap ((k : Int) + 1 - 1) = (k : Int) := by rw [e1]; exact IntWalk.i64_in _ (by omega)
    have HB := Lib.hid (show b = decide ((40 : Int) < (s.size : Int)) by rw [hb2]; exact decide_eq_decide.2 (by omega))
    have k0 := h.row.cell (j := 0) (by simp)
    have k1 := h.row.cell (j := 1) (by simp)
    have k2 := h.row.cell (j := 2) (by simp)
    have k3 := h.row.cell (j := 3) (by simp)
    simp at k0 k1 k2 k3
    clear h hb hT hb2 hkl
    have hk0 : (0 : Int) ≤ (k : Int) := by omega
    go_enter Tryz.func90, Tryz.ntmps90
    go_wp2
    go_ret
    exact ⟨by rw [HB.out]; rfl, rfl⟩
end Go.Proofs.YtjofbeokkainlaaGreatDoor
