
/- The program's performed: a command on a store that may be read. Only new blocks are made. -/
import Derived.Test.YtblpebdjbenphaaGreatDoorObSto
import Derived.RegionTactic
import Derived.BigRegion
namespace Go.Proofs.YtblpebdjbenphaaGreatDoor
open Go.ChangeShapes Go.WideShapes Go.ChangeAt Go.RowKit
set_option linter.unusedVariables false
set_option maxRecDepth 100000

def IsPerf (l : Objs) (m : Gones) (kind : Int) (key : ByteArray) (ver : Int) (data : ByteArray) (R : Els × Int × Int) : Prop := (StoP l m → R = performE kind key ver data (elsOf l m)) ∧ (¬ StoP l m → R = ([], 0, 1))
theorem isPerf_some (l : Objs) (m : Gones) (kind : Int) (key : ByteArray) (ver : Int) (data : ByteArray) : ∃ R, IsPerf l m kind key ver data R := by
  by_cases h : StoP l m
  · exact ⟨_, fun _ => rfl, fun k => absurd h k⟩
  · exact ⟨_, fun k => absurd k h, fun _ => rfl⟩
/-- A store, a version and an error. -/
def MadeSP (A : ErrA) (R : Els × Int × Int) (w : World) (e : Ending) (w' : World) : Prop :=
  ∃ q1 n1 c1 q2 n2 c2, e = .returned (.tuple #[.agg #[.slice q1 n1 c1, .slice q2 n2 c2], .int .i64 R.2.1, codeV A R.2.2]) ∧ Below w.heap.size w w' ∧ StoK w.heap.size w' q1 n1 c1 q2 n2 c2 (resO R) (resG R)
theorem Low.up {base base2 : Nat} {A : ErrA} {w : World} (h : Low base A w) (hb : base ≤ base2) : Low base2 A w :=
  ⟨h.tab, Nat.lt_of_lt_of_le h.g0 hb, Nat.lt_of_lt_of_le h.g1 hb, Nat.lt_of_lt_of_le h.g2 hb, Nat.lt_of_lt_of_le h.g3 hb, Nat.lt_of_lt_of_le h.g4 hb, Nat.lt_of_lt_of_le h.a0 hb, Nat.lt_of_lt_of_le h.a1 hb, Nat.lt_of_lt_of_le h.a2 hb, Nat.lt_of_lt_of_le h.a3 hb, Nat.lt_of_lt_of_le h.a4 hb⟩
theorem codeV_err (A : ErrA) {c : Int} (h : c ≠ 0) : ∃ a, codeV A c = .iface 171 (.pointer (some a)) := by
  unfold codeV
  rw [if_neg h]
  unfold errV
  split
  · exact ⟨_, rfl⟩
  split
  · exact ⟨_, rfl⟩
  split
  · exact ⟨_, rfl⟩
  split
  · exact ⟨_, rfl⟩
  · exact ⟨_, rfl⟩
theorem create_code (key data : ByteArray) (E : Els) : CodeOk (createE key data E).2.2 ∧ ((createE key data E).2.2 ≠ 0 → (createE key data E).2.1 = 0) := by
  unfold createE CodeOk
  cases lookE key E with
  | none => dsimp only; split <;> simp
  | some e => dsimp only; split <;> (try split) <;> simp
theorem repl_code (key : ByteArray) (ver : Int) (data : ByteArray) (E : Els) : CodeOk (replE key ver data E).2.2 ∧ ((replE key ver data E).2.2 ≠ 0 → (replE key ver data E).2.1 = 0) := by
  unfold replE CodeOk
  cases lookE key E with
  | none => simp
  | some e => dsimp only; split <;> (try split) <;> (try split) <;> simp
theorem del_code (key : ByteArray) (ver : Int) (E : Els) : CodeOk (delE key ver E).2.2 ∧ ((delE key ver E).2.2 ≠ 0 → (delE key ver E).2.1 = 0) := by
  unfold delE CodeOk
  cases lookE key E with
  | none => simp
  | some e => dsimp only; split <;> (try split) <;> simp
theorem perf_code (kind : Int) (key : ByteArray) (ver : Int) (data : ByteArray) (E : Els) : CodeOk (performE kind key ver data E).2.2 ∧ ((performE kind key ver data E).2.2 ≠ 0 → (performE kind key ver data E).2.1 = 0) := by
  unfold performE
  split
  · split
    · exact create_code _ _ _
    · split
      · exact repl_code _ _ _ _
      · exact del_code _ _ _
  · exact ⟨.inr (.inl rfl), fun _ => rfl⟩
theorem isPerf_code {l : Objs} {m : Gones} {kind : Int} {key : ByteArray} {ver : Int} {data : ByteArray} {R : Els × Int × Int} (h : IsPerf l m kind key ver data R) : CodeOk R.2.2 ∧ (R.2.2 ≠ 0 → R.2.1 = 0) := by
  by_cases hp : StoP l m
  · rw [h.1 hp]; exact perf_code _ _ _ _ _
  · rw [h.2 hp]; exact ⟨.inr (.inl rfl), fun _ => rfl⟩
theorem PRow.turn {w w' w'' : World} {bx cx : Array Value} {B b base : Nat} {q : Option Addr} (h : PRow w bx cx w') (hb : w.heap.size + 3 ≤ base) (t : Turn B b q w' w'') (hB : base ≤ B) (hbb : base ≤ b) (hq : ∀ a, q = some a → base ≤ a.block) : PRow w bx cx w'' := by
  have hs : w.heap.size + 3 ≤ w'.heap.size := h.res.lt
  refine ⟨t.low h.below (by omega) (by omega) (by omega) (fun a ha => by have := hq a ha; omega), t.row h.box (by omega) (by omega) (fun a ha => by have := hq a ha; omega), t.row h.cmd (by omega) (by omega) (fun a ha => by have := hq a ha; omega), t.row h.res (by omega) (by omega) (fun a ha => by have := hq a ha; omega)⟩
set_option maxHeartbeats 4000000 in
theorem performed_any (a g : Option Addr) (la ca lg cg : Nat) (l : Objs) (m : Gones) (A : ErrA) (kind : Int) (key : ByteArray) (ver : Int) (data : ByteArray) (R : Els × Int × Int) (w : World) (h : StoAt w a la l g lg m) (hla : la ≤ 1048576) (hlg : lg ≤ 1048576) (hA : TabsEA A w) (hks : key.size ≤ maxLen) (hds : data.size ≤ maxLen) (hR : IsPerf l m kind key ver data R) :
    Calls Tryz.prog 18 #[.agg #[.slice a la ca, .slice g lg cg], .agg #[.int .i64 kind, .string key, .int .i64 ver, .string data]] w (MadeSP A R w) := by
  have HS := Lib.hid h
  have HRI := Lib.hid hR
  have HKS := Lib.hid hks
  have HDS := Lib.hid hds
  have HA := Lib.hid (Low.of hA)
  clear h hR hks hds hA
  obtain ⟨W0, hW0⟩ : ∃ W0, ((w.alloc (.cells #[.slice a la ca, .slice g lg cg] 27)).alloc (.cells #[.int .i64 kind, .string key, .int .i64 ver, .string data] 52)).alloc (.cells #[.slice none 0 0, .slice none 0 0] 27) = W0 := ⟨_, rfl⟩
  have HP := Lib.hid (show PRow w #[.slice a la ca, .slice g lg cg] #[.int .i64 kind, .string key, .int .i64 ver, .string data] W0 by
    rw [← hW0]
    refine ⟨below_alloc (below_alloc (below_alloc (Below.refl _ _) _) _) _, ((row_new _ _ _).al _).al _, (row_new1 _ _ _ _).al _, ?_⟩
    have h := row_new ((w.alloc (.cells #[.slice a la ca, .slice g lg cg] 27)).alloc (.cells #[.int .i64 kind, .string key, .int .i64 ver, .string data] 52)) #[.slice none 0 0, .slice none 0 0] 27
    rwa [show ((w.alloc (.cells #[.slice a la ca, .slice g lg cg] 27)).alloc (.cells #[.int .i64 kind, .string key, .int .i64 ver, .string data] 52)).heap.size = w.heap.size + 2 by simp] at h)
  have HW0 := Lib.hid hW0
  clear hW0
  go_enter Tryz.func18, Tryz.ntmps18
  go_wp2_with fail
  rw [HW0.out]
  obtain ⟨Z, hZ⟩ : ∃ Z, w.heap.size + 1 + 1 = Z := ⟨_, rfl⟩
  have HZ := Lib.hid (show w.heap.size + 2 = Z from hZ)
  rw [hZ]
  clear hZ
  refine (storeok_any _ _ _ _ _ _ l m _ (HS.out.keep HP.out.below) hla hlg).mono ?_
  rintro e w1 ⟨b1, rfl, hb1, hB⟩
  have HP := Lib.hid (HP.out.keep hB)
  have HB1 := Lib.hid hb1
  clear hB hb1 HW0
  have x0 := HP.out.box.cell (j := 0) (by simp)
  have x1 := HP.out.box.cell (j := 1) (by simp)
  simp at x0 x1
  have hrs := HP.out.res
  rw [HZ.out] at hrs
  have HRS := Lib.hid hrs
  have r0 := hrs.cell (j := 0) (by simp)
  have r1 := hrs.cell (j := 1) (by simp)
  simp at r0 r1
  have f0 := hrs.free 0
  have f1 := hrs.free 1
  clear hrs
  have HL := Lib.hid (HA.out.keep HP.out.below)
  cases b1 with
  | false =>
    have e0 := HL.out.tab.c0
    unfold errV at e0
    have hz0 : (0 : Nat) ≠ Z := by have := HA.out.g0; rw [← HZ.out]; omega
    have e0a : ((w1.setCell ⟨Z, 0, none⟩ (.slice none 0 0)).setCell ⟨Z, 1, none⟩ (.slice none 0 0)).cell? ⟨0, 0, none⟩ = some (.iface 171 (.pointer (some A.form))) := by
      rw [World.cell?_of_block (Below.heap_setCell _ _ _ _ hz0), World.cell?_of_block (Below.heap_setCell _ _ _ _ hz0)]
      exact e0
    have HRZ := Lib.hid ((HRS.out.set 0 (.slice none 0 0)).set 1 (.slice none 0 0))
    have HNO := Lib.hid (show MadeSP A R w (.returned (.tuple #[.agg #[.slice none 0 0, .slice none 0 0], .int .i64 0, .iface 171 (.pointer (some A.form))])) ((w1.setCell ⟨Z, 0, none⟩ (.slice none 0 0)).setCell ⟨Z, 1, none⟩ (.slice none 0 0)).drew by
      rw [HRI.out.2 (fun hp => by have := HB1.out.2 hp; cases this)]
      exact ⟨none, 0, 0, none, 0, 0, rfl, ((HP.out.below.setCell (by show w.heap.size ≤ Z; rw [← HZ.out]; omega) _).setCell (by show w.heap.size ≤ Z; rw [← HZ.out]; omega) _).drew, StoK.nil _ _⟩)
    clear HB1 HRS
    go_wp2_with fail
    go_region
    go_wp2
    have hb : (((w1.setCell ⟨Z, 0, none⟩ (.slice none 0 0)).setCell ⟨Z, 1, none⟩ (.slice none 0 0)).drew).heap[Z]? = _ := HRZ.out
    exact bodyPost_ret (v := .tuple #[.agg #[.slice none 0 0, .slice none 0 0], .int .i64 0, .iface 171 (.pointer (some A.form))]) (by simp [results, Tryz.results18, go_sem, World.cell?, hb]) rfl HNO.out
  | true =>
    clear r0 r1 f0 f1
    have HSP := Lib.hid (HB1.out.1 rfl)
    clear HB1
    go_wp2_with fail
    refine (objectsof_any a g la ca lg cg l m _ (HS.out.keep HP.out.below) HSP.out).mono ?_
    rintro e w2 ⟨B, b, n, q, cp, rfl, hOb, hn, hB⟩
    have HP2 := Lib.hid (HP.out.keep hB)
    have HOb := Lib.hid hOb
    have HL2 := Lib.hid ((HL.out.below (HP.out.below.size) hB).up HP.out.below.size)
    have HEP := Lib.hid (ep_of HSP.out)
    have y0 := HP2.out.cmd.cell (j := 0) (by simp)
    have y1 := HP2.out.cmd.cell (j := 1) (by simp)
    have y2 := HP2.out.cmd.cell (j := 2) (by simp)
    have y3 := HP2.out.cmd.cell (j := 3) (by simp)
    simp at y0 y1 y2 y3
    have HRE := Lib.hid (HRI.out.1 HSP.out)
    have HGE := Lib.hid HP.out.ge
    clear hB hOb x0 x1
    go_wp2_with fail
    refine (perform_any _ B b n cp q (elsOf l m) A kind key ver data _ HOb.out HL2.out HEP.out HKS.out HDS.out (by omega)).mono ?_
    rw [← HRE.out]
    rintro e w3 ⟨rfl, hT, n3, q3, cp3, hn3, hOb3⟩
    have HP3 := Lib.hid (HP2.out.turn HGE.out hT HOb.out.geB HOb.out.geb (fun a ha => (keys_ge HOb.out.keys a ha).1))
    have HOb3 := Lib.hid hOb3
    have hrs := HP3.out.res
    rw [HZ.out] at hrs
    have HRS := Lib.hid hrs
    have r0 := hrs.cell (j := 0) (by simp)
    have r1 := hrs.cell (j := 1) (by simp)
    simp at r0 r1
    have f0 := hrs.free 0
    have f1 := hrs.free 1
    clear hrs hT hOb3 y0 y1 y2 y3
    have HCO := Lib.hid (isPerf_code HRI.out)
    by_cases hc : R.2.2 = 0
    · rw [hc, show codeV A 0 = .nilIface from rfl]
      clear r0 r1 f0 f1
      go_wp2_with fail
      refine (store_any _ B b n3 cp3 q3 R.1 _ HOb3.out (by rw [HRE.out]; exact perf_ep HEP.out)).mono ?_
      rintro e w4 ⟨q1, n1, c1, q2, n2, c2, rfl, hT, hOb4, hK⟩
      have HP4 := Lib.hid (HP3.out.turn HGE.out hT HOb3.out.geB HOb3.out.geb (fun a ha => (keys_ge HOb3.out.keys a ha).1))
      have hrs := HP4.out.res
      rw [HZ.out] at hrs
      have HRS := Lib.hid hrs
      have r0 := hrs.cell (j := 0) (by simp)
      have r1 := hrs.cell (j := 1) (by simp)
      simp at r0 r1
      have f0 := hrs.free 0
      have f1 := hrs.free 1
      have HK := Lib.hid hK
      clear hrs hT hOb4 hK
      have HLT := Lib.hid (show Z < w3.heap.size from HRS0 HP3.out HZ.out)
      go_wp2
      have hb := ((HRS.out.set 0 (.slice q1 n1 c1)).set 1 (.slice q2 n2 c2))
      unfold Row at hb
      refine bodyPost_ret (v := .tuple #[.agg #[.slice q1 n1 c1, .slice q2 n2 c2], .int .i64 R.2.1, .nilIface]) (by simp [results, Tryz.results18, go_sem, World.cell?, hb]) rfl ⟨q1, n1, c1, q2, n2, c2, by rw [hc]; rfl, (HP4.out.below.setCell (by show w.heap.size ≤ Z; rw [← HZ.out]; omega) _).setCell (by show w.heap.size ≤ Z; rw [← HZ.out]; omega) _, ?_⟩
      rw [(res_yes hc).1, (res_yes hc).2]
      have k1 := HK.out.put (X := Z) (HK.out.at1.ne HLT.out) (HK.out.at2.ne HLT.out) 0 (.slice q1 n1 c1)
      have k2 := k1.put (X := Z) (k1.at1.ne HLT.out) (k1.at2.ne HLT.out) 1 (.slice q2 n2 c2)
      exact k2.low HP3.out.below.size
    · obtain ⟨ad, had⟩ := codeV_err A hc
      rw [had]
      have HAD := Lib.hid had
      have HNO := Lib.hid (show MadeSP A R w (.returned (.tuple #[.agg #[.slice none 0 0, .slice none 0 0], .int .i64 0, .iface 171 (.pointer (some ad))])) ((w3.setCell ⟨Z, 0, none⟩ (.slice none 0 0)).setCell ⟨Z, 1, none⟩ (.slice none 0 0)) from
        ⟨none, 0, 0, none, 0, 0, by rw [HCO.out.2 hc, had], (HP3.out.below.setCell (by show w.heap.size ≤ Z; rw [← HZ.out]; omega) _).setCell (by show w.heap.size ≤ Z; rw [← HZ.out]; omega) _, by rw [(res_no hc).1, (res_no hc).2]; exact StoK.nil _ _⟩)
      have HRZ := Lib.hid ((HRS.out.set 0 (.slice none 0 0)).set 1 (.slice none 0 0))
      clear had hc
      go_wp2
      have hb := HRZ.out
      unfold Row at hb
      exact bodyPost_ret (v := .tuple #[.agg #[.slice none 0 0, .slice none 0 0], .int .i64 0, .iface 171 (.pointer (some ad))]) (by simp [results, Tryz.results18, go_sem, World.cell?, hb]) rfl HNO.out
end Go.Proofs.YtblpebdjbenphaaGreatDoor
