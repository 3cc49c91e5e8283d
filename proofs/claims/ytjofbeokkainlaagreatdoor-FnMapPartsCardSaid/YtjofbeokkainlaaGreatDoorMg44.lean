/- Texts put together, as a claim holds at most sixty files. -/
import Derived.Test.YtjofbeokkainlaaGreatDoorMg43
import Derived.Test.YtjofbeokkainlaaGreatDoorMg15
import Derived.Test.YtjofbeokkainlaaGreatDoorMg1
import Derived.Laws.EntriesVeiled
import Derived.Test.YtjofbeokkainlaaGreatDoorShelfLk
import Derived.Conc.MuLone
import Derived.Defers
import Derived.Test.YtjofbeokkainlaaGreatDoorMg26
namespace Go.Proofs.YtjofbeokkainlaaGreatDoor
open Go.ChangeShapes Go.WideShapes Go.ChangeAt Go.RowKit
set_option linter.unusedVariables false
set_option maxRecDepth 100000

theorem infoStep : (Tryz.prog.info? 137).map (fun i => (i.zero, i.size, i.bytes)) = some (some .nilFunc, 1, 8) := by kernel_rfl
theorem inss_grown {w w1 : World} {a : Option Addr} {len g : Nat} {l : Instrs} (h : InstrsAt w a len l) (hg : w.grownBy w1 (some g)) (hne : 0 < len → ∀ b off, a = some ⟨b, off, none⟩ → b ≠ g) : InstrsAt w1 a len l := by
  refine ⟨h.length, h.max, h.keys, ?_⟩
  rcases Nat.eq_zero_or_pos len with hz | hz
  · exact .inl hz
  rcases h.src with h0 | ⟨b, off, ha, hb, hc⟩
  · exact .inl h0
  · have e : ∀ o, w1.cell? ⟨b, o, none⟩ = w.cell? ⟨b, o, none⟩ := fun o => World.cell?_of_block (w := w) (hg.block b hb (by intro he; exact hne hz b off ha (Option.some.inj he)))
    exact .inr ⟨b, off, ha, Nat.lt_of_lt_of_le hb hg.size, fun i hi => by simpa only [e] using hc i hi⟩
theorem StepV.form {E D : Nat} {w : World} {op : Nat} {n : Int} {s : ByteArray} {v : Value} (h : StepV E D w op n s v) : ∃ F cap, v = .func (.func F) #[] cap := by
  unfold StepV at h
  split at h
  · obtain ⟨b, _, hv, _⟩ := h; exact ⟨_, _, hv⟩
  · split at h
    · obtain ⟨b, _, hv, _⟩ := h; exact ⟨_, _, hv⟩
    · split at h
      · obtain ⟨b, _, hv, _⟩ := h; exact ⟨_, _, hv⟩
      · exact ⟨_, _, h⟩
/-- The steps of the first k instructions lie in block G. -/
def StepsAt (G : Nat) (l : Instrs) (k : Nat) (w : World) : Prop :=
  ∃ cur, Row w G 137 cur ∧ l.length = cur.size ∧ ∀ j, j < k → ∃ v, cur[j]? = some v ∧ StepV (G + 1) w.heap.size w (ins0 l j).toNat (ins1 l j) (ins2 l j) v
theorem StepsAt.keep {G k : Nat} {l : Instrs} {w w1 : World} (h : StepsAt G l k w) (hB : Below w.heap.size w w1) : StepsAt G l k w1 := by
  obtain ⟨cur, hr, hs, hv⟩ := h
  exact ⟨cur, hr.keep hB, hs, fun j hj => by
    obtain ⟨v, h1, h2⟩ := hv j hj
    exact ⟨v, h1, (h2.keep hB).wide (Nat.le_refl _) hB.size⟩⟩
theorem StepsAt.other {G k X : Nat} {l : Instrs} {w : World} (h : StepsAt G l k w) (hX : X < G) (j : Nat) (x : Value) : StepsAt G l k (w.setCell ⟨X, j, none⟩ x) := by
  obtain ⟨cur, hr, hs, hv⟩ := h
  refine ⟨cur, hr.otPut (by omega) j x, hs, fun i hi => ?_⟩
  obtain ⟨v, h1, h2⟩ := hv i hi
  refine ⟨v, h1, ?_⟩
  have := h2.put (G := X) (by omega) j x
  simpa [World.setCell] using this
theorem StepsAt.add {G k : Nat} {l : Instrs} {w : World} {v : Value} (h : StepsAt G l k w) (hk : k < l.length) (hv : StepV (G + 1) w.heap.size w (ins0 l k).toNat (ins1 l k) (ins2 l k) v) : StepsAt G l (k + 1) (w.setCell ⟨G, k, none⟩ v) := by
  obtain ⟨cur, hr, hs, hvs⟩ := h
  refine ⟨cur.setIfInBounds k v, hr.set k v, by simpa using hs, fun j hj => ?_⟩
  have hsz : (w.setCell ⟨G, k, none⟩ v).heap.size = w.heap.size := by simp [World.setCell]
  rw [hsz]
  rcases Nat.lt_or_ge j k with h1 | h1
  · obtain ⟨u, h2, h3⟩ := hvs j h1
    exact ⟨u, by rw [Array.getElem?_setIfInBounds_ne (by omega)]; exact h2, h3.put (Nat.lt_succ_self _) k v⟩
  · obtain rfl : j = k := by omega
    exact ⟨v, by rw [Array.getElem?_setIfInBounds_self, if_pos (by omega)], hv.put (Nat.lt_succ_self _) j v⟩
def ProgRow (w : World) (P : Nat) (a : Option Addr) (len cap : Nat) (c1 c2 c3 ok st : Value) : Prop := Row w P 70 #[.slice a len cap, c1, c2, c3, ok, st]
/-- The end of compile. -/
def Compiled (P : Nat) (a : Option Addr) (len cap : Nat) (l : Instrs) (c1 c2 c3 : Value) (w : World) (w' : World) : Prop :=
  w.grownBy w' (some P) ∧ ((progB l = false ∧ ProgRow w' P a len cap c1 c2 c3 (.bool false) (.slice none 0 0)) ∨
    (progB l = true ∧ ∃ G, w.heap.size ≤ G ∧ ProgRow w' P a len cap c1 c2 c3 (.bool true) (.slice (some ⟨G, 0, none⟩) len len) ∧ StepsAt G l len w'))

set_option maxHeartbeats 8000000 in
theorem compile_any (P : Nat) (a : Option Addr) (len cap : Nat) (l : Instrs) (c1 c2 c3 : Value) (w : World) (hr : ProgRow w P a len cap c1 c2 c3 (.bool false) (.slice none 0 0)) (h : InstrsAt w a len l) (hne : 0 < len → ∀ b off, a = some ⟨b, off, none⟩ → b ≠ P) (hT : TabsP w) :
    Calls Tryz.prog 89 #[.pointer (some ⟨P, 0, none⟩)] w fun e w' => e = .returned (.tuple #[]) ∧ Compiled P a len cap l c1 c2 c3 w w' := by
  unfold ProgRow at hr
  have HL := Lib.hid h.length
  have HI := Lib.hid h
  have HNE := Lib.hid hne
  have HPR := Lib.hid hr
  obtain ⟨p, hp⟩ : ∃ p, progB l = p := ⟨_, rfl⟩
  have HP := Lib.hid hp
  have k0 := hr.cell (j := 0) (by simp)
  have k4 := hr.cell (j := 4) (by simp)
  simp at k0 k4
  have HT := Lib.hid hT
  obtain ⟨i0, hi, hz0, hz1, hz2⟩ := info_parts infoStep
  clear h hne hr hp hT
  go_enter Tryz.func89, Tryz.ntmps89
  go_wp2_with fail
  refine (progok_any _ _ _ _ _ HI.out HT.out).mono ?_
  rw [HP.out]
  rintro e w1 ⟨rfl, hB⟩
  have HB1 := Lib.hid hB
  have HR1 := Lib.hid (HPR.out.keep hB)
  have f4 := HR1.out.free 4
  clear k0 k4
  have k0 := HR1.out.cell (j := 0) (by simp)
  have k4 := HR1.out.cell (j := 4) (by simp)
  simp at k0 k4
  clear hB
  cases p with
  | false =>
    have HR2 := Lib.hid (HR1.out.set 4 (.bool false))
    go_wp2
    refine bodyPost_ret (results_none rfl _ _ _) rfl ?_
    exact ⟨rfl, growT (belowGrow HB1.out (some P)) ⟨rfl, rfl, rfl, by simp [World.setCell], fun k hk hn => Below.heap_setCell _ _ _ _ (fun e => hn (by rw [e]))⟩, .inl ⟨HP.out, by have := HR2.out; unfold ProgRow; simpa using this⟩⟩
  | true =>
    have hl30 : len ≤ 30 := by have := prog_len HP.out; rw [HL.out] at this; exact this
    have HR2 := Lib.hid (show Row (w1.setCell ⟨P, 4, none⟩ (.bool true)) P 70 #[.slice a len cap, c1, c2, c3, .bool true, .slice none 0 0] from by simpa using HR1.out.set 4 (.bool true))
    have HG2 := Lib.hid (show w.grownBy (w1.setCell ⟨P, 4, none⟩ (.bool true)) (some P) from growS (belowGrow HB1.out (some P)) 4 (.bool true))
    have k5 := HR1.out.cell (j := 5) (by simp)
    have f5 := HR1.out.free 5
    simp at k5
    have hsz1 : (w1.setCell ⟨P, 4, none⟩ (.bool true)).heap.size = w1.heap.size := by simp [World.setCell]
    have HPG := Lib.hid (show P < w1.heap.size from HR1.out.lt)
    have HSZ := Lib.hid hsz1
    go_wp2_with (at_make; go_loud (refine wpList_make_full _ rfl _ _ 68 rfl (w1.setCell ⟨P, 4, none⟩ (.bool true)).heap.size 137 i0 _ 1 Tryz.underlying68 hi hz0 hz1 .i64 .i64 _ _ len rfl rfl rfl rfl (by rw [hz2]; omega) (by unfold maxLen; omega) (Nat.le_refl _) ?_); intro w2 hown hgrow; have HR3 := Lib.hid (HR2.out.grown hgrow (by simp)); have z0 := HR3.out.cell (j := 0) (by simp); have z5 := HR3.out.cell (j := 5) (by simp); have fz5 := HR3.out.free 5; have HOW := Lib.hid hown; have HGR := Lib.hid hgrow; simp at z0 z5; clear hown hgrow k0 k4 k5 f4 f5)
    obtain ⟨G, hG⟩ : ∃ G, w1.heap.size = G := ⟨_, rfl⟩
    have HG4 := Lib.hid (show w.grownBy (w2.setCell ⟨P, 5, none⟩ (.slice (some ⟨G, 0, none⟩) len len)) (some P) from growS (growT HG2.out ⟨HGR.out.os, HGR.out.tape, HGR.out.output, HGR.out.size, fun k hk _ => HGR.out.block k hk (by simp)⟩) 5 _)
    have HR4 := Lib.hid (show Row (w2.setCell ⟨P, 5, none⟩ (.slice (some ⟨G, 0, none⟩) len len)) P 70 #[.slice a len cap, c1, c2, c3, .bool true, .slice (some ⟨G, 0, none⟩) len len] from by simpa using HR3.out.set 5 (.slice (some ⟨G, 0, none⟩) len len))
    have HS4 : Hid (StepsAt G l 0 (w2.setCell ⟨P, 5, none⟩ (.slice (some ⟨G, 0, none⟩) len len))) := Lib.hid (by
      have := HOW.out
      rw [HSZ.out, hG] at this
      rcases this.2 with ⟨h, _⟩ | ⟨g, cp, cur, hv, _, hh, _, _, hs, _⟩
      · simp at h
      · simp only [Value.slice.injEq, Option.some.injEq, Addr.mk.injEq, true_and, and_true] at hv
        obtain ⟨rfl, rfl⟩ := hv
        exact StepsAt.other ⟨cur, hh, by rw [HL.out]; omega, fun j hj => by omega⟩ (by rw [← hG]; exact HPG.out) 5 _)
    have HWG := Lib.hid (show w.heap.size ≤ G from by rw [← hG]; exact HB1.out.size)
    have HPG := Lib.hid (show P < G from by rw [← hG]; exact HPG.out)
    obtain ⟨w3, hw3⟩ : ∃ x, w2.setCell ⟨P, 5, none⟩ (.slice (some ⟨G, 0, none⟩) len len) = x := ⟨_, rfl⟩
    rw [hw3] at HG4 HR4 HS4
    have HW3 := Lib.hid hw3
    try rw [hG]
    try rw [hw3]
    clear HOW HGR HR3 HR2 HR1 HG2 HSZ hG hw3 z0 z5 fz5 hsz1
    go_loopw [31] (fun i wr => ∃ k : Nat, k ≤ len ∧ i = .int .i64 k ∧ Hid (w.grownBy wr (some P) ∧ Row wr P 70 #[.slice a len cap, c1, c2, c3, .bool true, .slice (some ⟨G, 0, none⟩) len len] ∧ StepsAt G l k wr)) (fun i _ => len - (intOf i).toNat)
    case atStart => exact ⟨0, Nat.zero_le _, rfl, Lib.hid ⟨HG4.out, HR4.out, HS4.out⟩⟩
    case round =>
      clear HG4 HR4 HS4
      obtain ⟨k, hk, rfl, HS⟩ := hrel
      by_cases hlt : k < len
      · have HIR := Lib.hid (inss_grown HI.out HS.out.1 HNE.out)
        rcases HIR.out.src with hz | ⟨b, off, rfl, hb, hc⟩
        · omega
        obtain ⟨c0', c1', c2'⟩ := hc k hlt
        have hi0 : (0 : Int) ≤ (k : Int) := by omega
        have hi1 : (k : Int) < (len : Int) := by omega
        have HIN := Lib.hid (prog_instr HP.out (k := k) (by rw [HL.out]; exact hlt))
        obtain ⟨op, hop⟩ : ∃ op, ins0 l k = op := ⟨_, rfl⟩
        obtain ⟨n, hn⟩ : ∃ n, ins1 l k = n := ⟨_, rfl⟩
        obtain ⟨s, hs⟩ : ∃ s, ins2 l k = s := ⟨_, rfl⟩
        have HE := Lib.hid (show ins0 l k = op ∧ ins1 l k = n ∧ ins2 l k = s from ⟨hop, hn, hs⟩)
        rw [hop, hn, hs] at HIN
        rw [hop] at c0'
        rw [hn] at c1'
        rw [hs] at c2'
        clear hop hn hs hc hb
        have hopb := instr_op HIN.out
        obtain ⟨x, rfl⟩ : ∃ x : Nat, op = (x : Int) := ⟨op.toNat, by omega⟩
        have HSTEP := Lib.hid (fun w => stepof_any x n s w (by omega) (by omega))
        go_wp2_with fail
        obtain ⟨X, hX⟩ : ∃ X, wr.heap.size = X := ⟨_, rfl⟩
        have HBA := Lib.hid (below_alloc (Below.refl wr.heap.size wr) (.cells #[.int .i64 x, .int .i64 n, .string s] 89))
        have HX4 := Lib.hid (show Row (wr.alloc (.cells #[.int .i64 x, .int .i64 n, .string s] 89)) X 89 #[.int .i64 x, .int .i64 n, .string s] from by rw [← hX]; exact ot_row_new _ _ _)
        obtain ⟨w4, hw4⟩ : ∃ y, wr.alloc (.cells #[.int .i64 x, .int .i64 n, .string s] 89) = y := ⟨_, rfl⟩
        rw [hw4] at HX4 HBA
        try rw [hX]
        try rw [hw4]
        have HS4 := Lib.hid (HS.out.2.2.keep HBA.out)
        have HP4 := Lib.hid (HS.out.2.1.keep HBA.out)
        have HG4 := Lib.hid (growB HS.out.1 HBA.out)
        clear hw4 hX HBA c0' c1' c2'
        refine wp_region_noPanic ?_
        obtain ⟨w5, hw5⟩ : ∃ y, w4.drew = y := ⟨_, rfl⟩
        have HS5 : Hid (StepsAt G l k w5) := Lib.hid (by rw [← hw5]; exact HS4.out.keep (Below.refl _ _).drew)
        have HP5 : Hid (Row w5 P 70 #[.slice (some ⟨b, off, none⟩) len cap, c1, c2, c3, .bool true, .slice (some ⟨G, 0, none⟩) len len]) := Lib.hid (by rw [← hw5]; exact HP4.out)
        have HX5 : Hid (Row w5 X 89 #[.int .i64 x, .int .i64 n, .string s]) := Lib.hid (by rw [← hw5]; exact HX4.out)
        have HG5 : Hid (w.grownBy w5 (some P)) := Lib.hid (by rw [← hw5]; exact growB HG4.out (Below.refl _ _).drew)
        refine wp_region_held_drew (S := (fun w' => Hid (Row w' P 70 #[.slice (some ⟨b, off, none⟩) len cap, c1, c2, c3, .bool true, .slice (some ⟨G, 0, none⟩) len len] ∧ Row w' X 89 #[.int .i64 x, .int .i64 n, .string s]))) (by kernel_rfl) (by rw [hw5]; exact Lib.hid ⟨HP5.out, HX5.out⟩) (fun HS => ?_)
        rw [hw5] at HS ⊢
        clear hw5 HS4 HP4 HX4 HG4 HP5 HX5
        refine held_take (i := 0) (d := 36) (v := .pointer (some ⟨P, 0, none⟩)) rfl rfl (by kernel_rfl) (by kernel_rfl) (by kernel_rfl) (by kernel_rfl) (fun wx hS => by go_simp) HS ?_
        refine held_take (i := 1) (d := 37) (v := .pointer (some ⟨P, 0, none⟩)) rfl rfl (by kernel_rfl) (by kernel_rfl) (by kernel_rfl) (by kernel_rfl) (fun wx hS => by go_simp) HS ?_
        refine held_take (i := 2) (d := 38) (v := .pointer (some ⟨P, 5, none⟩)) rfl rfl (by kernel_rfl) (by kernel_rfl) (by kernel_rfl) (by kernel_rfl) (fun wx hS => by go_simp) HS ?_
        refine held_take (i := 3) (d := 39) (v := .slice (some ⟨G, 0, none⟩) len len) rfl rfl (by kernel_rfl) (by kernel_rfl) (by kernel_rfl) (by kernel_rfl) (fun wx hS => by have z5 := hS.out.1.cell (j := 5) (by simp); simp at z5; go_simp) HS ?_
        refine held_take (i := 4) (d := 40) (v := .int .i64 k) rfl rfl (by kernel_rfl) (by kernel_rfl) (by kernel_rfl) (by kernel_rfl) (fun wx hS => by go_simp) HS ?_
        refine held_take (i := 5) (d := 41) (v := .agg #[.int .i64 x, .int .i64 n, .string s]) rfl rfl (by kernel_rfl) (by kernel_rfl) (by kernel_rfl) (by kernel_rfl) (fun wx hS => by have z0 := hS.out.2.cell (j := 0) (by simp); have z1 := hS.out.2.cell (j := 1) (by simp); have z2 := hS.out.2.cell (j := 2) (by simp); simp at z0 z1 z2; go_simp) HS ?_
        refine wpAnyH_ready (rs := [6]) (by kernel_rfl) (by simp) (AllReadyH.cons rfl (fun K hK => ?_) AllReadyH.nil)
        go_simp
        refine (HSTEP.out _).mono ?_
        rintro e w6 ⟨v, rfl, hB6, hv6⟩
        obtain ⟨F, fc, rfl⟩ := hv6.form
        have HS6 := Lib.hid (HS5.out.keep hB6)
        have HG6 := Lib.hid (growB HG5.out hB6)
        have HV6 := Lib.hid (show StepV (G + 1) w6.heap.size w6 x n s (.func (.func F) #[] fc) from hv6.wide (by obtain ⟨cur, hr, _⟩ := HS5.out; exact hr.lt) (Nat.le_refl _))
        refine hK.out _ _ (Lib.hid ⟨HS.out.1.keep hB6, HS.out.2.keep hB6⟩) (fun HS => ?_)
        clear hK K hB6 hv6 HS5 HG5
        refine held_take (i := 7) (d := 43) (v := .pointer (some ⟨G, k, none⟩)) rfl rfl (by kernel_rfl) (by kernel_rfl) (by kernel_rfl) (by kernel_rfl) (fun wx hS => by go_simp) HS ?_
        refine wpAnyH_ready (rs := [8]) (by kernel_rfl) (by simp) (AllReadyH.cons rfl (fun K hK => ?_) AllReadyH.nil)
        obtain ⟨cur, hrG, hsG, _⟩ := HS6.out
        have hLL := HL.out
        have g0 := hrG.cell (j := k) (by omega)
        generalize cur[k]'(by omega) = u0 at g0
        have fg := hrG.free k
        have HS7 := Lib.hid (HS6.out.add (by rw [HL.out]; exact hlt) (by rw [HE.out.1, HE.out.2.1, HE.out.2.2]; exact HV6.out))
        have HG7 := Lib.hid (show w.grownBy (w6.setCell ⟨G, k, none⟩ (.func (.func F) #[] fc)) (some P) from growP HG6.out HWG.out k _)
        clear hrG hsG hLL
        go_simp
        refine hK.out _ _ (Lib.hid ⟨HS.out.1.otPut (X := G) (by have := HPG.out; omega) k _, HS.out.2.otPut (X := G) (by intro he; subst he; obtain ⟨cur2, hr2, _⟩ := HS6.out; have h1 := HS.out.2; unfold Row at h1 hr2; rw [h1] at hr2; simp at hr2) k _⟩) (fun HS => ?_)
        clear hK K g0 fg HS6 HG6 HV6
        refine wpAnyH_done (by kernel_rfl) (NoPanic.normal ?_) _
        go_wp2
        go_roundw
        case rel => exact ⟨k + 1, by omega, by go_num, Lib.hid ⟨HG7.out, HS.out.1, HS7.out⟩⟩
        case measure => simp [intOf]; omega
      · obtain rfl : k = len := by omega
        have HFIN := Lib.hid (show Compiled P a k cap l c1 c2 c3 w wr from ⟨HS.out.1, .inr ⟨HP.out, G, HWG.out, HS.out.2.1, HS.out.2.2⟩⟩)
        go_wp2
        go_end0
        exact ⟨rfl, HFIN.out⟩
end Go.Proofs.YtjofbeokkainlaaGreatDoor
namespace Go.Proofs.YtjofbeokkainlaaGreatDoor
open Go.ChangeShapes Go.WideShapes Go.ChangeAt Go.RowKit Go.MuLone
set_option linter.unusedVariables false
set_option maxRecDepth 100000

/-- done.Store(true), entered as a deferred call. -/
theorem boolstore_deferred (a : Addr) (x : Value) (u : FrameMode) (w : World) (hc : w.cell? a = some x) (hz : w.frozen? a = false) :
    CallsD Tryz.prog 127 #[.pointer (some a), .bool true] u w fun e u' w' => u' = u ∧ (e = .returned (.tuple #[]) ∧ w' = w.drew.setCell a (.int .u32 1)) := by
  have hc' : w.drew.cell? a = some x := by go_simp
  have hz' : w.drew.frozen? a = false := by go_simp
  have hst := run_call_store (P := Tryz.prog) Tryz.func154 (by kernel_rfl) (by kernel_rfl) (by kernel_rfl) (by kernel_rfl) (k := .u32) (y := 1) hc' hz'
  go_enter_d Tryz.func127, Tryz.ntmps127
  go_wp2
  go_region_calls
  all_goals (go_end0; exact ⟨rfl, rfl⟩)
theorem boolload_any (a : Addr) (d : Int) (w : World) (h : w.cell? a = some (.int .u32 d)) : Calls Tryz.prog 113 #[.pointer (some a)] w fun e w' => e = .returned (.bool (d != 0)) ∧ w' = w := by
  have hl := run_call_load (P := Tryz.prog) Tryz.func124 (by kernel_rfl) (by kernel_rfl) (by kernel_rfl) .u32 (by kernel_rfl) h
  go_enter Tryz.func113, Tryz.ntmps113
  go_wp2
  go_ret
  exact ⟨rfl, rfl⟩
theorem compiled_done {P : Nat} {a : Option Addr} {len cap : Nat} {l : Instrs} {c1 c2 c3 d1 d2 : Value} {w w' : World} (h : Compiled P a len cap l c1 c2 c3 w w') (hP : P < w.heap.size) : Compiled P a len cap l d1 d2 c3 w ((w'.drew.setCell ⟨P, 1, none⟩ d1).setCell ⟨P, 2, none⟩ d2) := by
  refine ⟨growS (growS (growB h.1 (Below.refl _ _).drew) 1 d1) 2 d2, ?_⟩
  have hr : ∀ {ok st : Value}, ProgRow w' P a len cap c1 c2 c3 ok st → ProgRow ((w'.drew.setCell ⟨P, 1, none⟩ d1).setCell ⟨P, 2, none⟩ d2) P a len cap d1 d2 c3 ok st := fun {ok st} hr => by
    unfold ProgRow at hr ⊢
    have h1 := ((Row.keep hr (Below.refl _ _).drew).set 1 d1).set 2 d2
    simpa using h1
  rcases h.2 with ⟨hp, h2⟩ | ⟨hp, G, hG, h2, h3⟩
  · exact .inl ⟨hp, hr h2⟩
  · exact .inr ⟨hp, G, hG, hr h2, ((h3.keep (Below.refl _ _).drew).other (by omega) 1 d1).other (by omega) 2 d2⟩
theorem compiled_from {P : Nat} {a : Option Addr} {len cap : Nat} {l : Instrs} {c1 c2 c3 : Value} {w w1 w' : World} (h : Compiled P a len cap l c1 c2 c3 w1 w') (hg : w.grownBy w1 (some P)) : Compiled P a len cap l c1 c2 c3 w w' := by
  refine ⟨growT hg h.1, ?_⟩
  rcases h.2 with h2 | ⟨hp, G, hG, h2⟩
  · exact .inl h2
  · exact .inr ⟨hp, G, Nat.le_trans hg.size hG, h2⟩

set_option maxHeartbeats 4000000 in
theorem slow_any (P : Nat) (a : Option Addr) (len cap : Nat) (l : Instrs) (w : World) (hr : ProgRow w P a len cap (.int .u32 0) (.int .i32 0) (.int .u32 0) (.bool false) (.slice none 0 0)) (h : InstrsAt w a len l) (hne : 0 < len → ∀ b off, a = some ⟨b, off, none⟩ → b ≠ P) (hT : ∀ x, TabsP (w.setCell ⟨P, 2, none⟩ x)) :
    Calls Tryz.prog 114 #[.pointer (some ⟨P, 1, none⟩), .func (.func 89) #[.pointer (some ⟨P, 0, none⟩)] #[]] w fun e w' => e = .returned (.tuple #[]) ∧ Compiled P a len cap l (.int .u32 1) (.int .i32 0) (.int .u32 0) w w' := by
  unfold ProgRow at hr
  have HR := Lib.hid hr
  have HI := Lib.hid h
  have HNE := Lib.hid hne
  have HT := Lib.hid hT
  have k2 := hr.cell (j := 2) (by simp)
  have f2 := hr.free 2
  simp at k2
  clear h hne hT hr
  go_enter_defers Tryz.func114, Tryz.ntmps114
  go_wp2_with fail
  refine (lock_free Tryz.muLib ⟨P, 2, none⟩ _ k2 f2).mono ?_
  rintro e w1 ⟨rfl, rfl⟩
  have HR1 := Lib.hid (show Row (w.setCell ⟨P, 2, none⟩ (.int .i32 1)) P 70 #[.slice a len cap, .int .u32 0, .int .i32 1, .int .u32 0, .bool false, .slice none 0 0] from by simpa using HR.out.set 2 (.int .i32 1))
  have HI1 := Lib.hid (inss_grown (w1 := w.setCell ⟨P, 2, none⟩ (.int .i32 1)) HI.out (growS (World.grownBy.refl _ _) 2 _) HNE.out)
  have HG1 := Lib.hid (show w.grownBy (w.setCell ⟨P, 2, none⟩ (.int .i32 1)) (some P) from growS (World.grownBy.refl _ _) 2 _)
  have HT1 := Lib.hid (HT.out (.int .i32 1))
  have HPW := Lib.hid HR.out.lt
  obtain ⟨w1, hw1⟩ : ∃ x, w.setCell ⟨P, 2, none⟩ (.int .i32 1) = x := ⟨_, rfl⟩
  rw [hw1] at HR1 HI1 HG1 HT1
  try rw [hw1]
  have k1 := HR1.out.cell (j := 1) (by simp)
  simp at k1
  clear hw1 HR HI HT k2 f2
  go_wp2_with fail
  refine (boolload_any ⟨P, 1, none⟩ 0 _ k1).mono ?_
  rintro e w2 ⟨rfl, rfl⟩
  go_wp2_with fail
  refine (compile_any P a len cap l _ _ _ _ HR1.out HI1.out HNE.out HT1.out).mono ?_
  rintro e w3 ⟨rfl, hC⟩
  have HC := Lib.hid hC
  have HC2 := Lib.hid (compiled_from (compiled_done (d1 := .int .u32 1) (d2 := .int .i32 0) hC HR1.out.lt) HG1.out)
  have c1 : w3.cell? ⟨P, 1, none⟩ = some (.int .u32 0) ∧ w3.frozen? ⟨P, 1, none⟩ = false ∧ w3.cell? ⟨P, 2, none⟩ = some (.int .i32 1) ∧ w3.frozen? ⟨P, 2, none⟩ = false := by
    have : ∀ {ok st : Value}, ProgRow w3 P a len cap (.int .u32 0) (.int .i32 1) (.int .u32 0) ok st → w3.cell? ⟨P, 1, none⟩ = some (.int .u32 0) ∧ w3.frozen? ⟨P, 1, none⟩ = false ∧ w3.cell? ⟨P, 2, none⟩ = some (.int .i32 1) ∧ w3.frozen? ⟨P, 2, none⟩ = false := fun {ok st} hr => by
      unfold ProgRow at hr
      have h1 := hr.cell (j := 1) (by simp)
      have h2 := hr.cell (j := 2) (by simp)
      simp at h1 h2
      exact ⟨h1, hr.free 1, h2, hr.free 2⟩
    rcases hC.2 with ⟨_, h2⟩ | ⟨_, G, _, h2, _⟩
    · exact this h2
    · exact this h2
  obtain ⟨c1, f1, c2, f2⟩ := c1
  clear hC HC k1 HR1 HI1 HG1 HT1
  go_wp2
  refine leaves_cons (f := 127) (args := #[.pointer (some ⟨P, 1, none⟩), .bool true]) (by simp) (by simp [go_sem]) ?_
  refine (boolstore_deferred ⟨P, 1, none⟩ (.int .u32 0) .returning _ c1 f1).mono ?_
  rintro e u' w'' ⟨rfl, rfl, rfl⟩
  have c4 : (w3.drew.setCell ⟨P, 1, none⟩ (.int .u32 1)).cell? ⟨P, 2, none⟩ = some (.int .i32 1) := (World.cell?_setCell_other _ ⟨P, 1, none⟩ ⟨P, 2, none⟩ _ (by simp)).trans (by simpa using c2)
  have f4 : (w3.drew.setCell ⟨P, 1, none⟩ (.int .u32 1)).frozen? ⟨P, 2, none⟩ = false := by simpa using f2
  refine leaves_cons (f := 126) (args := #[.pointer (some ⟨P, 2, none⟩)]) (by simp [settle]) (by simp [go_sem]) ?_
  refine (unlock_deferred Tryz.muLib ⟨P, 2, none⟩ _ _ c4 f4).mono ?_
  rintro e u' w'' ⟨rfl, rfl, rfl⟩
  exact ⟨_, results_none rfl _ _ _, rfl, HC2.out⟩

/-- Do, the first time. -/
theorem do_first (P : Nat) (a : Option Addr) (len cap : Nat) (l : Instrs) (w : World) (hr : ProgRow w P a len cap (.int .u32 0) (.int .i32 0) (.int .u32 0) (.bool false) (.slice none 0 0)) (h : InstrsAt w a len l) (hne : 0 < len → ∀ b off, a = some ⟨b, off, none⟩ → b ≠ P) (hT : ∀ x, TabsP (w.setCell ⟨P, 2, none⟩ x)) :
    Calls Tryz.prog 88 #[.pointer (some ⟨P, 1, none⟩), .func (.func 89) #[.pointer (some ⟨P, 0, none⟩)] #[]] w fun e w' => e = .returned (.tuple #[]) ∧ Compiled P a len cap l (.int .u32 1) (.int .i32 0) (.int .u32 0) w w' := by
  have HR := Lib.hid hr
  have HI := Lib.hid h
  have HNE := Lib.hid hne
  have HT := Lib.hid hT
  have k1 : w.cell? ⟨P, 1, none⟩ = some (.int .u32 0) := by
    unfold ProgRow at hr
    have h1 := hr.cell (j := 1) (by simp)
    simpa using h1
  clear h hne hT hr
  go_enter Tryz.func88, Tryz.ntmps88
  go_wp2_with fail
  refine (boolload_any ⟨P, 1, none⟩ 0 _ k1).mono ?_
  rintro e w2 ⟨rfl, rfl⟩
  go_wp2_with fail
  refine (slow_any P a len cap l _ HR.out HI.out HNE.out HT.out).mono ?_
  rintro e w3 ⟨rfl, hC⟩
  go_wp2
  go_end0
  exact ⟨rfl, hC⟩
theorem do_done (b : Addr) (fv : Value) (w : World) (h : w.cell? b = some (.int .u32 1)) : Calls Tryz.prog 88 #[.pointer (some b), fv] w fun e w' => e = .returned (.tuple #[]) ∧ w' = w := by
  go_enter Tryz.func88, Tryz.ntmps88
  go_wp2_with fail
  refine (boolload_any b 1 _ h).mono ?_
  rintro e w2 ⟨rfl, rfl⟩
  go_wp2
  go_end0
  exact ⟨rfl, rfl⟩
end Go.Proofs.YtjofbeokkainlaaGreatDoor
namespace Go.Proofs.YtjofbeokkainlaaGreatDoor
open Go.ChangeShapes Go.WideShapes Go.ChangeAt Go.RowKit Go.MuLone
set_option linter.unusedVariables false
set_option maxRecDepth 100000

/-- The program in block P has been compiled; st are its steps. -/
def DoneP (P : Nat) (a : Option Addr) (len cap : Nat) (l : Instrs) (w : World) (st : Value) : Prop :=
  (progB l = false ∧ st = .slice none 0 0 ∧ ProgRow w P a len cap (.int .u32 1) (.int .i32 0) (.int .u32 0) (.bool false) st) ∨
  (progB l = true ∧ ∃ G, P < G ∧ st = .slice (some ⟨G, 0, none⟩) len len ∧ ProgRow w P a len cap (.int .u32 1) (.int .i32 0) (.int .u32 0) (.bool true) st ∧ StepsAt G l len w)
/-- It has been compiled, or not yet. -/
def ProgS (P : Nat) (a : Option Addr) (len cap : Nat) (l : Instrs) (w : World) : Prop :=
  ProgRow w P a len cap (.int .u32 0) (.int .i32 0) (.int .u32 0) (.bool false) (.slice none 0 0) ∨ ∃ st, DoneP P a len cap l w st
theorem DoneP.row {P : Nat} {a : Option Addr} {len cap : Nat} {l : Instrs} {w : World} {st : Value} (h : DoneP P a len cap l w st) : ProgRow w P a len cap (.int .u32 1) (.int .i32 0) (.int .u32 0) (.bool (progB l)) st := by
  rcases h with ⟨hp, _, hr⟩ | ⟨hp, G, _, _, hr, _⟩
  · rw [hp]; exact hr
  · rw [hp]; exact hr
theorem DoneP.keep {P : Nat} {a : Option Addr} {len cap : Nat} {l : Instrs} {w w1 : World} {st : Value} (h : DoneP P a len cap l w st) (hB : Below w.heap.size w w1) : DoneP P a len cap l w1 st := by
  rcases h with ⟨hp, hs, hr⟩ | ⟨hp, G, hG, hs, hr, hst⟩
  · exact .inl ⟨hp, hs, Row.keep hr hB⟩
  · exact .inr ⟨hp, G, hG, hs, Row.keep hr hB, hst.keep hB⟩
theorem ProgS.keep {P : Nat} {a : Option Addr} {len cap : Nat} {l : Instrs} {w w1 : World} (h : ProgS P a len cap l w) (hB : Below w.heap.size w w1) : ProgS P a len cap l w1 := by
  rcases h with h | ⟨st, h⟩
  · exact .inl (Row.keep h hB)
  · exact .inr ⟨st, h.keep hB⟩
theorem DoneP.cells {P : Nat} {a : Option Addr} {len cap : Nat} {l : Instrs} {w : World} {st : Value} (h : DoneP P a len cap l w st) : w.cell? ⟨P, 1, none⟩ = some (.int .u32 1) ∧ w.cell? ⟨P, 4, none⟩ = some (.bool (progB l)) ∧ w.cell? ⟨P, 5, none⟩ = some st := by
  have hr := h.row
  unfold ProgRow at hr
  have h1 := hr.cell (j := 1) (by simp)
  have h4 := hr.cell (j := 4) (by simp)
  have h5 := hr.cell (j := 5) (by simp)
  simp at h1 h4 h5
  exact ⟨h1, h4, h5⟩
theorem DoneP.slice {P : Nat} {a : Option Addr} {len cap : Nat} {l : Instrs} {w : World} {st : Value} (h : DoneP P a len cap l w st) : ∃ q n c, st = .slice q n c := by
  rcases h with ⟨_, hs, _⟩ | ⟨_, G, _, hs, _⟩
  · exact ⟨_, _, _, hs⟩
  · exact ⟨_, _, _, hs⟩
def MadeTable (P : Nat) (a : Option Addr) (len cap : Nat) (l : Instrs) (w : World) (e : Ending) (w' : World) : Prop :=
  ∃ st, e = .returned (.tuple #[st, .bool (progB l)]) ∧ DoneP P a len cap l w' st ∧ w.grownBy w' (some P)

set_option maxHeartbeats 2000000 in
theorem table_done (P : Nat) (a : Option Addr) (len cap : Nat) (l : Instrs) (w : World) (st : Value) (h : DoneP P a len cap l w st) :
    Calls Tryz.prog 62 #[.pointer (some ⟨P, 0, none⟩)] w (MadeTable P a len cap l w) := by
  have HD := Lib.hid h
  obtain ⟨c1, c4, c5⟩ := h.cells
  obtain ⟨q, n, c, rfl⟩ := h.slice
  obtain ⟨p, hp⟩ : ∃ p, progB l = p := ⟨_, rfl⟩
  have HP := Lib.hid hp
  rw [hp] at c4
  clear h hp
  go_enter Tryz.func62, Tryz.ntmps62
  go_wp2_with fail
  refine (do_done ⟨P, 1, none⟩ _ _ c1).mono ?_
  rintro e w2 ⟨rfl, rfl⟩
  go_wp2_with fail
  go_region
  go_wp2
  go_ret2
  exact ⟨_, by rw [HP.out]; rfl, HD.out.keep (Below.refl _ _).drew, growD (World.grownBy.refl _ _) 1⟩
set_option maxHeartbeats 2000000 in
theorem table_first (P : Nat) (a : Option Addr) (len cap : Nat) (l : Instrs) (w : World) (hr : ProgRow w P a len cap (.int .u32 0) (.int .i32 0) (.int .u32 0) (.bool false) (.slice none 0 0)) (h : InstrsAt w a len l) (hne : 0 < len → ∀ b off, a = some ⟨b, off, none⟩ → b ≠ P) (hT : ∀ x, TabsP (w.setCell ⟨P, 2, none⟩ x)) :
    Calls Tryz.prog 62 #[.pointer (some ⟨P, 0, none⟩)] w (MadeTable P a len cap l w) := by
  have HR := Lib.hid hr
  have HI := Lib.hid h
  have HNE := Lib.hid hne
  have HT := Lib.hid hT
  have HPW := Lib.hid (show P < w.heap.size from Row.lt hr)
  clear h hne hT hr
  go_enter Tryz.func62, Tryz.ntmps62
  go_wp2_with fail
  refine (do_first P a len cap l _ HR.out HI.out HNE.out HT.out).mono ?_
  rintro e w2 ⟨rfl, hC⟩
  obtain ⟨st, hD⟩ : ∃ st, DoneP P a len cap l w2 st := by
    rcases hC.2 with ⟨hp, h2⟩ | ⟨hp, G, hG, h2, h3⟩
    · exact ⟨_, .inl ⟨hp, rfl, h2⟩⟩
    · exact ⟨_, .inr ⟨hp, G, by have := HPW.out; omega, rfl, h2, h3⟩⟩
  have HG := Lib.hid hC.1
  have HD := Lib.hid hD
  obtain ⟨c1, c4, c5⟩ := hD.cells
  obtain ⟨q, n, c, rfl⟩ := hD.slice
  obtain ⟨p, hp⟩ : ∃ p, progB l = p := ⟨_, rfl⟩
  have HP := Lib.hid hp
  rw [hp] at c4
  clear hC hD hp c1 HR HI HNE HT
  go_wp2_with fail
  go_region
  go_wp2
  go_ret2
  exact ⟨_, by rw [HP.out]; rfl, HD.out.keep (Below.refl _ _).drew, growD HG.out 1⟩
theorem table_any (P : Nat) (a : Option Addr) (len cap : Nat) (l : Instrs) (w0 w : World) (hs : ProgS P a len cap l w) (h : InstrsAt w0 a len l) (hT : TabsP w0) (h0 : Below w0.heap.size w0 w) (hP : w0.heap.size ≤ P) :
    Calls Tryz.prog 62 #[.pointer (some ⟨P, 0, none⟩)] w (MadeTable P a len cap l w) := by
  rcases hs with hr | ⟨st, hd⟩
  · refine table_first P a len cap l w hr (h.keep h0) (fun hl b off ha => ?_) (fun x => hT.keep (h0.setCell hP x))
    rcases h.src with hz | ⟨b2, off2, ha2, hb, _⟩
    · omega
    · rw [ha] at ha2
      simp only [Option.some.injEq, Addr.mk.injEq, and_true] at ha2
      omega
  · exact table_done P a len cap l w st hd
end Go.Proofs.YtjofbeokkainlaaGreatDoor
namespace Go.Proofs.YtjofbeokkainlaaGreatDoor
open Go.ChangeShapes Go.WideShapes Go.ChangeAt Go.RowKit Go.MuLone
set_option linter.unusedVariables false
set_option maxRecDepth 100000

/-- The end of eval: records and a code; the program in block P may have been compiled. -/
def MadeRunP (o : Recs × Int) (P : Nat) (a : Option Addr) (len cap : Nat) (l : Instrs) (w : World) (e : Ending) (w' : World) : Prop :=
  ∃ q cp, e = .returned (.tuple #[.slice q o.1.length cp, .int .i64 o.2]) ∧ w.grownBy w' (some P) ∧ (∃ st, DoneP P a len cap l w' st) ∧ RcK w.heap.size w' q o.1 ∧ (q = none → cp = 0) ∧ o.1.length ≤ cp
/-- The program's eval on its way. -/
structure EvP (l : Instrs) (ws : Strs) (wq : Option Addr) (wn wc M G : Nat) (w1 wr : World) (k : Nat) (S : EVs) (O : Recs) (st : ByteArray) : Prop where
  ev : evK l ws k = some (S, O)
  stk : stk l k = some st
  ok : EvOkP st k (S, O)
  mach : MAt M M (.slice wq wn wc) wr (txs st.data.toList S) (nms st.data.toList S) O
  below : Below M w1 wr

theorem growO2 {a b c : World} {X : Nat} {n : Nat} (h : a.grownBy b (some X)) (k : Below n b c) (hn : b.heap.size ≤ n) : a.grownBy c (some X) :=
  ⟨k.os.trans h.os, k.tape.trans h.tape, k.output.trans h.output, Nat.le_trans h.size k.size, fun i hi hne => (k.block i (Nat.lt_of_lt_of_le hi (Nat.le_trans h.size hn))).trans (h.block i hi hne)⟩
theorem strs_grown {w w1 : World} {a : Option Addr} {len g : Nat} {l : Strs} (h : StrsAt w a len l) (hg : w.grownBy w1 (some g)) (hne : 0 < len → ∀ b off, a = some ⟨b, off, none⟩ → b ≠ g) : StrsAt w1 a len l := by
  refine ⟨h.length, h.max, h.sizes, ?_⟩
  rcases Nat.eq_zero_or_pos len with hz | hz
  · exact .inl hz
  rcases h.src with h0 | ⟨b, off, ha, hb, hc⟩
  · exact .inl h0
  · have e : ∀ o, w1.cell? ⟨b, o, none⟩ = w.cell? ⟨b, o, none⟩ := fun o => World.cell?_of_block (w := w) (hg.block b hb (by intro he; exact hne hz b off ha (Option.some.inj he)))
    exact .inr ⟨b, off, ha, Nat.lt_of_lt_of_le hb hg.size, fun i hi => by simpa only [e] using hc i hi⟩
theorem DoneP.under {P : Nat} {a : Option Addr} {len cap : Nat} {l : Instrs} {w w1 : World} {st : Value} {n : Nat} (h : DoneP P a len cap l w st) (hB : Below n w w1) (hn : w.heap.size ≤ n) : DoneP P a len cap l w1 st := h.keep (hB.mono hn)

set_option maxHeartbeats 8000000 in
theorem peval_any (P : Nat) (a : Option Addr) (len cap : Nat) (l : Instrs) (wq : Option Addr) (wn wc : Nat) (ws : Strs) (w0 w : World) (hs : ProgS P a len cap l w) (hI : InstrsAt w0 a len l) (hn : ∀ i, i < len → In64 (ins1 l i)) (hw : StrsAt w wq wn ws) (hwP : 0 < wn → ∀ b off, wq = some ⟨b, off, none⟩ → b ≠ P) (hT : TabsRP w0) (h0 : Below w0.heap.size w0 w) (hP : w0.heap.size ≤ P) :
    Calls Tryz.prog 65 #[.pointer (some ⟨P, 0, none⟩), .slice wq wn wc] w (MadeRunP (evalR l ws) P a len cap l w) := by
  have HL := Lib.hid hI.length
  have HWL := Lib.hid hw.length
  have HI := Lib.hid hI
  have HW := Lib.hid hw
  have HWP := Lib.hid hwP
  have HN := Lib.hid hn
  have HT := Lib.hid hT
  have H0 := Lib.hid h0
  have HP0 := Lib.hid hP
  have HS := Lib.hid hs
  have hmw : wn ≤ maxLen := hw.max
  unfold maxLen at hmw
  obtain ⟨p, hp⟩ : ∃ p, progB l = p := ⟨_, rfl⟩
  have HP := Lib.hid hp
  clear hI hw hwP hn hT h0 hP hs hp
  go_enter Tryz.func65, Tryz.ntmps65
  go_wp2_with fail
  refine (table_any P a len cap l w0 w HS.out HI.out HT.out.forms H0.out HP0.out).mono ?_
  rintro e w1 ⟨st, rfl, hD, hG⟩
  have HD := Lib.hid hD
  have HG := Lib.hid hG
  have HW := Lib.hid (strs_grown HW.out hG HWP.out)
  obtain ⟨sq, sn, sc, rfl⟩ := hD.slice
  rw [HP.out]
  clear hD hG HS
  cases p with
  | false =>
    have HC := Lib.hid (show evalR l ws = ([], 1) from evalR_no (fun h => by rw [HP.out] at h; cases h.1))
    go_wp2
    go_ret2
    rw [HC.out]
    exact ⟨none, 0, rfl, HG.out, ⟨_, HD.out⟩, rck_nil _ _ _, fun _ => rfl, Nat.le_refl _⟩
  | true =>
    by_cases h20 : (20 : Int) < (wn : Int)
    · have HC := Lib.hid (show evalR l ws = ([], 1) from evalR_no (fun h => by have := h.2; rw [HWL.out] at this; omega))
      go_wp2
      go_ret2
      rw [HC.out]
      exact ⟨none, 0, rfl, HG.out, ⟨_, HD.out⟩, rck_nil _ _ _, fun _ => rfl, Nat.le_refl _⟩
    · have hw20 : wn ≤ 20 := by omega
      have hl30 : len ≤ 30 := by have := prog_len HP.out; rw [HL.out] at this; exact this
      obtain ⟨G, hPG, hsl, HST⟩ : ∃ G, P < G ∧ Value.slice sq sn sc = .slice (some ⟨G, 0, none⟩) len len ∧ Hid (StepsAt G l len w1) := by
        rcases HD.out with ⟨hp, _⟩ | ⟨_, G, hG, hsl, _, h3⟩
        · rw [HP.out] at hp; cases hp
        · exact ⟨G, hG, hsl, Lib.hid h3⟩
      simp only [Value.slice.injEq] at hsl
      obtain ⟨g1, g2, g3⟩ := hsl
      subst g1
      have g2 := g2.symm
      have g3 := g3.symm
      subst g2
      clear g3
      obtain ⟨M, hM⟩ : ∃ M, w1.heap.size = M := ⟨_, rfl⟩
      have hM0 := Lib.hid hM
      have HSV := Lib.hid (show ∀ j, j < len → ∃ v, w1.cell? ⟨G, j, none⟩ = some v ∧ StepV (G + 1) M w1 (ins0 l j).toNat (ins1 l j) (ins2 l j) v ∧ G < M from fun j hj => by
        obtain ⟨cur, hr, hsz, hv⟩ := HST.out
        obtain ⟨v, h1, h2⟩ := hv j hj
        refine ⟨v, ?_, by rw [← hM]; exact h2, by rw [← hM]; exact hr.lt⟩
        unfold Row at hr
        simp [World.cell?, hr, h1])
      have H01 := Lib.hid (show Below w0.heap.size w0 w1 from H0.out.grown HG.out H0.out.size (fun k hk => by cases hk; exact HP0.out))
      have HWM := Lib.hid (show w0.heap.size ≤ M ∧ P < M from ⟨by rw [← hM]; exact H01.out.size, by rw [← hM]; exact Row.lt HD.out.row⟩)
      have HS0 : Hid (EvP l ws wq wn wc M G w1 (w1.alloc (.cells #[.slice wq wn wc, .slice none 0 0, .slice none 0 0, .slice none 0 0] 135)) 0 [] [] ByteArray.empty) := Lib.hid
        ⟨rfl, rfl, evOk0, ⟨none, none, none, 0, 0, 0, 0, 0, 0, by rw [← hM]; exact ot_row_new _ _ _, ⟨rfl, .inl ⟨rfl, rfl⟩⟩, ⟨rfl, .inl ⟨rfl, rfl⟩⟩, ⟨rfl, .inl ⟨rfl, rfl⟩⟩, rfl, rfl, rfl, Nat.le_refl _, by decide⟩, (Below.refl M w1).alloc (by omega) _⟩
      go_wp2_with fail
      go_loopw [27] (fun i wr => ∃ (k : Nat) (S : EVs) (O : Recs) (st : ByteArray), k ≤ len ∧ i = .int .i64 k ∧ Hid (EvP l ws wq wn wc M G w1 wr k S O st)) (fun i _ => len - (intOf i).toNat)
      case atStart => exact ⟨0, [], [], _, Nat.zero_le _, rfl, HS0⟩
      case round =>
        clear HS0
        obtain ⟨k, S, O, st, hk, rfl, HS⟩ := hrel
        by_cases hlt : k < len
        · have hi0 : (0 : Int) ≤ (k : Int) := by omega
          have hi1 : (k : Int) < (len : Int) := by omega
          obtain ⟨v, hv, hsv, hGM⟩ := HSV.out k hlt
          have cv := (HS.out.below.cell (p := ⟨G, k, none⟩) hGM).trans hv
          have HIN := Lib.hid (prog_instr HP.out (k := k) (by rw [HL.out]; exact hlt))
          have HN64 := Lib.hid (HN.out k hlt)
          have HST1 := Lib.hid (prog_step HP.out (k := k) (by rw [HL.out]; exact hlt) HS.out.stk)
          have HEV := Lib.hid (evK_step HS.out.ev)
          have HSV1 := Lib.hid (hsv.keep HS.out.below)
          obtain ⟨op, hop⟩ : ∃ op, ins0 l k = op := ⟨_, rfl⟩
          obtain ⟨n, hn⟩ : ∃ n, ins1 l k = n := ⟨_, rfl⟩
          obtain ⟨s, hs⟩ : ∃ s, ins2 l k = s := ⟨_, rfl⟩
          rw [hop, hn, hs] at HIN HEV HSV1
          rw [hop] at HST1
          rw [hn] at HN64
          clear hop hn hs hv hsv
          have hop := instr_op HIN.out
          obtain ⟨x, rfl⟩ : ∃ x : Nat, op = (x : Int) := ⟨op.toNat, by omega⟩
          have hx1 : 1 ≤ x := by omega
          have hx14 : x ≤ 14 := by omega
          have etn : ((x : Int)).toNat = x := by omega
          rw [etn] at HEV HST1 HSV1
          obtain ⟨st0, hst, hnext⟩ := HST1.out
          obtain ⟨S0, av, hSa, hal, hS0, e1, e2⟩ := evOk_takes HS.out.ok hst
          simp only at hSa e1 e2
          have HPOS := Lib.hid (show x = 1 → 0 ≤ n from fun h => by
            have h1 := HIN.out
            subst h
            unfold instrB at h1
            rw [if_pos (by rfl), Bool.and_eq_true, decide_eq_true_eq] at h1
            exact h1.1.1)
          have HALL := Lib.hid (show ∀ v ∈ av, v.1.size ≤ 40 ∧ In64 v.2 from fun v hv => HS.out.ok.texts v (by simp only; rw [hSa]; exact List.mem_append_right _ hv))
          have HALL0 := Lib.hid (show ∀ v ∈ S0, v.1.size ≤ 40 from fun v hv => (HS.out.ok.texts v (by simp only; rw [hSa]; exact List.mem_append_left _ hv)).1)
          have hfew := HS.out.ok.few
          have hrec := HS.out.ok.recs
          simp only at hfew hrec
          have hS0l : S0.length ≤ k := by rw [hSa, List.length_append] at hfew; omega
          have hll : st0.data.toList.length = S0.length := by rw [hS0]; rfl
          have hMA : MAt M M (.slice wq wn wc) wr (txs st0.data.toList S0 ++ txs (takesB x).data.toList av) (nms st0.data.toList S0 ++ nms (takesB x).data.toList av) O := by
            have h1 := HS.out.mach
            rw [hst, hSa] at h1
            simp only [ByteArray.data_append, Array.toList_append] at h1
            rw [txs_app _ _ _ _ hll, nms_app _ _ _ _ hll] at h1
            exact h1
          have HC := Lib.hid (step_call (G + 1) M M M wq wn wc ws w0 wr x n s v av (txs st0.data.toList S0) (nms st0.data.toList S0) O hx1 hx14 HSV1.out (Nat.le_refl _) hal HALL.out hMA
            ⟨by have := txs_len st0.data.toList S0; omega, by have := nms_len st0.data.toList S0; omega, by omega⟩ (HW.out.keep (by rw [hM0.out]; exact HS.out.below)) HPOS.out HT.out.num (H01.out.trans (HS.out.below.mono HWM.out.1)) HWM.out.1)
          have HNOK := Lib.hid (show ∀ y, evStep x n s ws (S, O) = some y → EvOkP (st0 ++ givesB x) (k + 1) y from fun y h => evOk_step HS.out.ok hst HN64.out h)
          have HSOME := Lib.hid (fun y (h : evStep x n s ws (S, O) = some y) => evStep_some hx1 hx14 e1 e2 hS0.symm HALL0.out h)
          have HNONE := Lib.hid (fun (h : evStep x n s ws (S, O) = none) => evStep_none (T0 := txs st0.data.toList S0) hx1 hx14 e1 e2 h)
          have HNEXT := Lib.hid hnext
          have HBEL := Lib.hid HS.out.below
          obtain ⟨T1, hT1⟩ : ∃ T, stT x n s ws av (txs st0.data.toList S0) = T := ⟨_, rfl⟩
          obtain ⟨N1, hN1⟩ : ∃ T, stN x n s ws av (nms st0.data.toList S0) = T := ⟨_, rfl⟩
          obtain ⟨O1, hO1⟩ : ∃ T, stO x av O = T := ⟨_, rfl⟩
          rw [hT1, hN1, hO1] at HC
          simp only [hT1, hN1, hO1] at HSOME
          simp only [hT1] at HNONE
          clear HST1 HSV1 hst hnext hSa hal hS0 e1 e2 etn hMA hll hfew hrec HS HALL HALL0 HPOS HIN hT1 hN1 hO1
          obtain ⟨y, hy⟩ : ∃ y, evStep x n s ws (S, O) = y := ⟨_, rfl⟩
          rw [hy] at HEV HNOK HSOME HNONE
          clear hy
          cases y with
          | none =>
            obtain ⟨tx, htx, hsz⟩ := HNONE.out rfl
            have HBAD := Lib.hid (show evalR l ws = ([], 2) from evalR_long HP.out (by rw [HWL.out]; exact hw20) (k := k + 1) (by rw [HL.out]; omega) HEV.out)
            have HTL := Lib.hid (show (∀ V s, T1 = V ++ [s] → true = decide (40 < s.size)) ∧ (T1 = [] → true = false) from ⟨fun V s h => by
              rw [htx] at h
              have := List.append_inj_right' h rfl
              simp at this
              rw [← this, decide_eq_true hsz], fun h => by rw [htx] at h; simp at h⟩)
            clear htx hsz HSOME HNOK
            rcases HC.out with ⟨F, rfl, hent, hcall⟩ | ⟨F, fb, rfl, hent, hcall⟩
            · unfold Enters at hent
              go_wp2_with fail
              refine hcall.mono ?_
              rintro e w4 ⟨rfl, hma, hB4⟩
              have HMA := Lib.hid hma
              have HB4 := Lib.hid (HBEL.out.trans hB4)
              clear hma hB4 hcall HC cv
              go_wp2_with fail
              refine (toolong_any M M _ _ _ _ _ HMA.out true HTL.out).mono ?_
              rintro e w5 ⟨rfl, rfl⟩
              go_wp2
              go_ret2
              rw [HBAD.out]
              exact ⟨none, 0, rfl, growO2 HG.out HB4.out (by rw [← hM0.out]; exact Nat.le_refl _), ⟨_, HD.out.under HB4.out (by rw [← hM0.out]; exact Nat.le_refl _)⟩, rck_nil _ _ _, fun _ => rfl, Nat.le_refl _⟩
            · unfold Enters at hent
              go_wp2_with fail
              refine hcall.mono ?_
              rintro e w4 ⟨rfl, hma, hB4⟩
              have HMA := Lib.hid hma
              have HB4 := Lib.hid (HBEL.out.trans hB4)
              clear hma hB4 hcall HC cv
              go_wp2_with fail
              refine (toolong_any M M _ _ _ _ _ HMA.out true HTL.out).mono ?_
              rintro e w5 ⟨rfl, rfl⟩
              go_wp2
              go_ret2
              rw [HBAD.out]
              exact ⟨none, 0, rfl, growO2 HG.out HB4.out (by rw [← hM0.out]; exact Nat.le_refl _), ⟨_, HD.out.under HB4.out (by rw [← hM0.out]; exact Nat.le_refl _)⟩, rck_nil _ _ _, fun _ => rfl, Nat.le_refl _⟩
          | some y =>
            have HSM := Lib.hid (HSOME.out y rfl)
            have HOK := Lib.hid (HNOK.out y rfl)
            have HTL := Lib.hid (show (∀ V s, T1 = V ++ [s] → false = decide (40 < s.size)) ∧ (T1 = [] → false = false) from ⟨fun V s h => by
              have := HSM.out.2.2.2 s (by rw [h]; simp)
              rw [decide_eq_false (by omega)], fun _ => rfl⟩)
            clear HNONE HNOK HSOME
            rcases HC.out with ⟨F, rfl, hent, hcall⟩ | ⟨F, fb, rfl, hent, hcall⟩
            · unfold Enters at hent
              go_wp2_with fail
              refine hcall.mono ?_
              rintro e w4 ⟨rfl, hma, hB4⟩
              have HMA := Lib.hid hma
              have HB4 := Lib.hid (HBEL.out.trans hB4)
              clear hma hB4 hcall HC cv
              go_wp2_with fail
              refine (toolong_any M M _ _ _ _ _ HMA.out false ⟨HTL.out.1, fun _ => rfl⟩).mono ?_
              rintro e w5 ⟨rfl, rfl⟩
              go_wp2
              go_roundw
              case rel => exact ⟨k + 1, y.1, O1, st0 ++ givesB x, by omega, by go_num, Lib.hid ⟨by rw [HEV.out, ← HSM.out.1], HNEXT.out, by rw [← HSM.out.1]; exact HOK.out, by rw [HSM.out.2.1, HSM.out.2.2.1]; exact HMA.out, HB4.out⟩⟩
              case measure => simp [intOf]; omega
            · unfold Enters at hent
              go_wp2_with fail
              refine hcall.mono ?_
              rintro e w4 ⟨rfl, hma, hB4⟩
              have HMA := Lib.hid hma
              have HB4 := Lib.hid (HBEL.out.trans hB4)
              clear hma hB4 hcall HC cv
              go_wp2_with fail
              refine (toolong_any M M _ _ _ _ _ HMA.out false ⟨HTL.out.1, fun _ => rfl⟩).mono ?_
              rintro e w5 ⟨rfl, rfl⟩
              go_wp2
              go_roundw
              case rel => exact ⟨k + 1, y.1, O1, st0 ++ givesB x, by omega, by go_num, Lib.hid ⟨by rw [HEV.out, ← HSM.out.1], HNEXT.out, by rw [← HSM.out.1]; exact HOK.out, by rw [HSM.out.2.1, HSM.out.2.2.1]; exact HMA.out, HB4.out⟩⟩
              case measure => simp [intOf]; omega
        · obtain rfl : k = len := by omega
          have HC := Lib.hid (show evalR l ws = (O, 0) from evalR_good HP.out (by rw [HWL.out]; exact hw20) (by rw [HL.out]; exact HS.out.ev))
          obtain ⟨tq, nq, oq, tc, nc, oc, nt, nn, no, hm⟩ := HS.out.mach
          have k3 := hm.row.cell (j := 3) (by simp)
          simp at k3
          have HFIN : Hid (MadeRunP (O, 0) P a k cap l w (.returned (.tuple #[.slice oq no oc, .int .i64 0])) wr) := Lib.hid (by
            have hlo := hm.lo
            have hgr : w.grownBy wr (some P) := growO2 HG.out HS.out.below (by rw [← hM0.out]; exact Nat.le_refl _)
            refine ⟨oq, oc, by rw [← hlo], hgr, ⟨_, HD.out.under HS.out.below (by rw [← hM0.out]; exact Nat.le_refl _)⟩, ?_, ?_, ?_⟩
            · refine rck_low (rck_of_own (m := no) (cp := oc) (by have := hm.rc; rw [← hlo] at this; rw [← hlo]; exact this)) (by rw [← hM0.out]; exact HG.out.size)
            · intro hq
              subst hq
              rcases hm.rc.2 with ⟨h1, _⟩ | ⟨g, cap, cur, hv, _⟩
              · simp only [Value.slice.injEq, true_and] at h1; exact h1.2
              · simp at hv
            · simp only [hlo]
              rcases hm.rc.2 with ⟨h1, h2⟩ | ⟨g, cap, cur, hv, _, _, h3, _⟩
              · omega
              · simp only [Value.slice.injEq] at hv; omega)
          clear hm
          go_wp2
          go_ret2
          rw [HC.out]
          exact HFIN.out

end Go.Proofs.YtjofbeokkainlaaGreatDoor
namespace Go.Proofs.YtjofbeokkainlaaGreatDoor
open Go.ChangeShapes Go.WideShapes Go.ChangeAt Go.RowKit Go.MuLone
set_option linter.unusedVariables false
set_option maxRecDepth 100000

theorem made_of_runp {o : Recs × Int} {P : Nat} {a : Option Addr} {len cap : Nat} {l : Instrs} {w w1 : World} {e : Ending} {w' : World} (h : MadeRunP o P a len cap l w1 e w') (h1 : Below w.heap.size w w1) (hP : w.heap.size ≤ P) : MadeRun o w e w' := by
  obtain ⟨q, cp, he, hg, _, hk, hn, hc⟩ := h
  exact ⟨q, cp, he, h1.grown hg h1.size (fun k hk => by cases hk; exact hP), rck_low hk h1.size, hn, hc⟩
end Go.Proofs.YtjofbeokkainlaaGreatDoor
