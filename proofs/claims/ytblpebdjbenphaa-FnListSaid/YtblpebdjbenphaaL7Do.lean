
/- The model's l7Done: a command on a store that may be read. Only new blocks are made. -/
import Derived.Test.YtblpebdjbenphaaPerfM
namespace Go.Proofs.Ytblpebdjbenphaa
open Go.ChangeShapes Go.WideShapes Go.ChangeAt Go.RowKit
set_option linter.unusedVariables false
set_option maxRecDepth 100000

/-- A store that may be read, and a code. -/
def MadeD (E : Els) (a0 : Option Addr) (la0 ca0 : Nat) (g0 : Option Addr) (lg0 cg0 : Nat) (R : Els × Int × Int) (w : World) (e : Ending) (w' : World) : Prop :=
  ∃ a la ca g lg cg, e = .returned (.tuple #[.agg #[.slice a la ca, .slice g lg cg], .int .i64 R.2.2]) ∧ Below w.heap.size w w' ∧ ((a = a0 ∧ la = la0 ∧ ca = ca0 ∧ g = g0 ∧ lg = lg0 ∧ cg = cg0 ∧ R.1 = E) ∨ StoK w.heap.size w' a la ca g lg cg (objsOf R.1) (gonsOf R.1))
theorem create_back {key data : ByteArray} {E : Els} (h : (createE key data E).2.2 ≠ 0) : (createE key data E).1 = E := by
  unfold createE at h ⊢
  cases hl : lookE key E with
  | none => rw [hl] at h; dsimp only at h ⊢; split <;> simp_all
  | some e => rw [hl] at h; dsimp only at h ⊢; split <;> (try split) <;> simp_all
theorem repl_back {key : ByteArray} {ver : Int} {data : ByteArray} {E : Els} (h : (replE key ver data E).2.2 ≠ 0) : (replE key ver data E).1 = E := by
  unfold replE at h ⊢
  cases hl : lookE key E with
  | none => rfl
  | some e => rw [hl] at h; dsimp only at h ⊢; split <;> (try split) <;> (try split) <;> simp_all
theorem del_back {key : ByteArray} {ver : Int} {E : Els} (h : (delE key ver E).2.2 ≠ 0) : (delE key ver E).1 = E := by
  unfold delE at h ⊢
  cases hl : lookE key E with
  | none => rfl
  | some e => rw [hl] at h; dsimp only at h ⊢; split <;> (try split) <;> simp_all
theorem row_two {w : World} {X : Nat} {T : TypeId} {x y : Value} (h : Row w X T #[x, y]) : w.cell? ⟨X, 0, none⟩ = some x ∧ w.cell? ⟨X, 1, none⟩ = some y := by
  have h0 := h.cell (j := 0) (by simp)
  have h1 := h.cell (j := 1) (by simp)
  simp at h0 h1
  exact ⟨h0, h1⟩

set_option maxHeartbeats 8000000 in
theorem l7done_any (a g : Option Addr) (la ca lg cg : Nat) (E : Els) (kind : Int) (key : ByteArray) (ver : Int) (data : ByteArray) (w : World) (hE : EP E) (h : StoI w a la ca (objsOf E) g lg cg (gonsOf E)) (hks : key.size ≤ maxLen) (hds : data.size ≤ maxLen) :
    Calls Try.prog 40 #[.agg #[.slice a la ca, .slice g lg cg], .agg #[.int .i64 kind, .string key, .int .i64 ver, .string data]] w (MadeD E a la ca g lg cg (performE kind key ver data E) w) := by
  have HS := Lib.hid h
  have HE := Lib.hid hE
  have HKS := Lib.hid hks
  have HDS := Lib.hid hds
  clear h hE hks hds
  obtain ⟨W0, hW0⟩ : ∃ W0, ((w.alloc (.cells #[.slice a la ca, .slice g lg cg] 27)).alloc (.cells #[.int .i64 kind, .string key, .int .i64 ver, .string data] 57)).alloc (.cells #[.slice none 0 0, .slice none 0 0] 27) = W0 := ⟨_, rfl⟩
  have HP := Lib.hid (show PRow w #[.slice a la ca, .slice g lg cg] #[.int .i64 kind, .string key, .int .i64 ver, .string data] W0 by
    rw [← hW0]
    refine ⟨below_alloc (below_alloc (below_alloc (Below.refl _ _) _) _) _, ((row_new _ _ _).al _).al _, (row_new1 _ _ _ _).al _, ?_⟩
    have h := row_new ((w.alloc (.cells #[.slice a la ca, .slice g lg cg] 27)).alloc (.cells #[.int .i64 kind, .string key, .int .i64 ver, .string data] 57)) #[.slice none 0 0, .slice none 0 0] 27
    rwa [show ((w.alloc (.cells #[.slice a la ca, .slice g lg cg] 27)).alloc (.cells #[.int .i64 kind, .string key, .int .i64 ver, .string data] 57)).heap.size = w.heap.size + 2 by simp] at h)
  have HW0 := Lib.hid hW0
  clear hW0
  go_enter Try.func40, Try.ntmps40
  go_wp2_with fail
  rw [HW0.out]
  obtain ⟨Z, hZ⟩ : ∃ Z, w.heap.size + 1 + 1 = Z := ⟨_, rfl⟩
  have HZ := Lib.hid (show w.heap.size + 2 = Z from hZ)
  rw [hZ]
  clear hZ
  refine (scmdok_any kind key ver data _ HKS.out HDS.out).mono ?_
  rintro e w1 ⟨rfl, hB⟩
  have HP := Lib.hid (HP.out.keep hB)
  clear hB HW0
  obtain ⟨x0, x1⟩ := row_two HP.out.box
  have hrs := HP.out.res
  rw [HZ.out] at hrs
  have HRS := Lib.hid hrs
  have HLE := Lib.hid (show w.heap.size ≤ Z by rw [← HZ.out]; omega)
  cases hc : cmdB kind key ver data with
  | false =>
    obtain ⟨r0, r1⟩ := row_two hrs
    have f0 := hrs.free 0
    have f1 := hrs.free 1
    have HR := Lib.hid (show performE kind key ver data E = (E, 0, 1) by unfold performE; rw [hc]; rfl)
    have HFIN := Lib.hid (show MadeD E a la ca g lg cg (performE kind key ver data E) w (.returned (.tuple #[.agg #[.slice a la ca, .slice g lg cg], .int .i64 1])) ((w1.setCell ⟨Z, 0, none⟩ (.slice a la ca)).setCell ⟨Z, 1, none⟩ (.slice g lg cg)) by
      rw [HR.out]
      exact ⟨a, la, ca, g, lg, cg, rfl, (HP.out.below.setCell HLE.out _).setCell HLE.out _, .inl ⟨rfl, rfl, rfl, rfl, rfl, rfl, rfl⟩⟩)
    clear hrs hc
    go_wp2
    have hb := ((HRS.out.set 0 (.slice a la ca)).set 1 (.slice g lg cg))
    unfold Row at hb
    exact bodyPost_ret (v := .tuple #[.agg #[.slice a la ca, .slice g lg cg], .int .i64 1]) (by simp [results, Try.results40, go_sem, World.cell?, hb]) rfl HFIN.out
  | true =>
    clear hrs
    obtain ⟨hk, hkind⟩ := cmd_true hc
    obtain ⟨Q, hQ⟩ : ∃ Q, w1.heap.size = Q := ⟨_, rfl⟩
    obtain ⟨w2, hw2⟩ : ∃ x, w1.alloc (.cells #[.slice a la ca, .slice g lg cg] 27) = x := ⟨_, rfl⟩
    have HQ := Lib.hid (show Row w2 Q 27 #[.slice a la ca, .slice g lg cg] by rw [← hw2, ← hQ]; exact row_new _ _ _)
    have hZQ : Z < Q := by rw [← hQ]; exact HRS.out.lt
    have HP := Lib.hid (show PRow w #[.slice a la ca, .slice g lg cg] #[.int .i64 kind, .string key, .int .i64 ver, .string data] w2 by rw [← hw2]; exact HP.out.keep (below_alloc (Below.refl _ _) _))
    have HRS := Lib.hid (show Row w2 Z 27 #[.slice none 0 0, .slice none 0 0] by rw [← hw2]; exact HRS.out.al _)
    have y0 := HP.out.cmd.cell (j := 0) (by simp)
    have y1 := HP.out.cmd.cell (j := 1) (by simp)
    have y2 := HP.out.cmd.cell (j := 2) (by simp)
    have y3 := HP.out.cmd.cell (j := 3) (by simp)
    simp at y0 y1 y2 y3
    have b0 := (row_two HP.out.box).1
    have b1 := (row_two HP.out.box).2
    have HQL := Lib.hid (show w.heap.size ≤ Q by have := HLE.out; omega)
    rcases hkind with ⟨rfl, hv, hd⟩ | ⟨rfl, hv, hd⟩ | ⟨rfl, hv⟩
    · obtain ⟨R, hR⟩ : ∃ R, createE key data E = R := ⟨_, rfl⟩
      have HPE := Lib.hid (show performE 1 key ver data E = R by unfold performE; rw [hc, ← hR]; rfl)
      have HBK := Lib.hid (show R.2.2 ≠ 0 → R.1 = E by rw [← hR]; exact create_back)
      have HEP := Lib.hid (show EP R.1 by rw [← hR]; exact ep_create HE.out hk hd)
      have HRR := Lib.hid hR
      have hd0 := hd
      clear hc hR hv hk hd hd0
      go_wp2_with fail
      try rw [hw2]
      try rw [hQ]
      clear hw2 hQ x0 x1
      refine (l7create_any a g la ca lg cg E key data _ HE.out (HS.out.keep HP.out.below)).mono ?_
      rw [HRR.out]
      rintro e w3 ⟨q1, n1, c1, q2, n2, c2, rfl, hB, hK⟩
      have HSP := Lib.hid (stop_of_ep HEP.out)
      have HP3 := Lib.hid (HP.out.keep hB)
      have HRS3 := Lib.hid (HRS.out.keep hB)
      have HQ3 := Lib.hid (HQ.out.keep hB)
      have HK3 := Lib.hid hK
      have HQ2 := Lib.hid HQ.out.lt
      obtain ⟨q0, q1'⟩ := row_two HQ3.out
      have qf0 := HQ3.out.free 0
      have qf1 := HQ3.out.free 1
      obtain ⟨w4, hw4⟩ : ∃ x, (w3.setCell ⟨Q, 0, none⟩ (.slice q1 n1 c1)).setCell ⟨Q, 1, none⟩ (.slice q2 n2 c2) = x := ⟨_, rfl⟩
      have HQ4 := Lib.hid (show Row w4 Q 27 #[.slice q1 n1 c1, .slice q2 n2 c2] by rw [← hw4]; exact (HQ3.out.set 0 (.slice q1 n1 c1)).set 1 (.slice q2 n2 c2))
      have HRS4 := Lib.hid (show Row w4 Z 27 #[.slice none 0 0, .slice none 0 0] by rw [← hw4]; exact (Below.heap_setCell _ _ _ _ (Nat.ne_of_lt hZQ)).trans ((Below.heap_setCell _ _ _ _ (Nat.ne_of_lt hZQ)).trans HRS3.out))
      have HBX4 := Lib.hid (show Row w4 w.heap.size 27 #[.slice a la ca, .slice g lg cg] by rw [← hw4]; exact (Below.heap_setCell _ _ _ _ (by show w.heap.size ≠ Q; have := HZ.out; omega)).trans ((Below.heap_setCell _ _ _ _ (by show w.heap.size ≠ Q; have := HZ.out; omega)).trans HP3.out.box))
      have HB4 := Lib.hid (show Below w.heap.size w w4 by rw [← hw4]; exact (HP3.out.below.setCell HQL.out _).setCell HQL.out _)
      have HK4 := Lib.hid (show StoK w2.heap.size w4 q1 n1 c1 q2 n2 c2 (resO R) (resG R) by
        rw [← hw4]
        have k1 := HK3.out.put (X := Q) (HK3.out.at1.ne HQ2.out) (HK3.out.at2.ne HQ2.out) 0 (.slice q1 n1 c1)
        exact k1.put (X := Q) (k1.at1.ne HQ2.out) (k1.at2.ne HQ2.out) 1 (.slice q2 n2 c2))
      have HZ2 := Lib.hid (show Z < w2.heap.size from HRS.out.lt)
      obtain ⟨u0, u1⟩ := row_two HQ4.out
      obtain ⟨r0, r1⟩ := row_two HRS4.out
      obtain ⟨b0, b1⟩ := row_two HBX4.out
      have f0 := HRS4.out.free 0
      have f1 := HRS4.out.free 1
      clear hB hK
      by_cases hz : R.2.2 = 0
      · have HFIN := Lib.hid (show MadeD E a la ca g lg cg (performE 1 key ver data E) w (.returned (.tuple #[.agg #[.slice q1 n1 c1, .slice q2 n2 c2], .int .i64 0])) ((w4.setCell ⟨Z, 0, none⟩ (.slice q1 n1 c1)).setCell ⟨Z, 1, none⟩ (.slice q2 n2 c2)) by
          rw [HPE.out]
          have k1 := HK4.out.put (X := Z) (HK4.out.at1.ne HZ2.out) (HK4.out.at2.ne HZ2.out) 0 (.slice q1 n1 c1)
          have k2 := k1.put (X := Z) (k1.at1.ne HZ2.out) (k1.at2.ne HZ2.out) 1 (.slice q2 n2 c2)
          rw [(res_yes hz).1, (res_yes hz).2] at k2
          exact ⟨q1, n1, c1, q2, n2, c2, by rw [hz], (HB4.out.setCell HLE.out _).setCell HLE.out _, (.inr (k2.low (Nat.le_trans HLE.out (Nat.le_of_lt HZ2.out))))⟩)
        rw [hz]
        clear hz
        go_wp2
        have hb := ((HRS4.out.set 0 (.slice q1 n1 c1)).set 1 (.slice q2 n2 c2))
        unfold Row at hb
        exact bodyPost_ret (v := .tuple #[.agg #[.slice q1 n1 c1, .slice q2 n2 c2], .int .i64 0]) (by simp [results, Try.results40, go_sem, World.cell?, hb]) rfl HFIN.out
      · have HFIN := Lib.hid (show MadeD E a la ca g lg cg (performE 1 key ver data E) w (.returned (.tuple #[.agg #[.slice a la ca, .slice g lg cg], .int .i64 R.2.2])) ((w4.setCell ⟨Z, 0, none⟩ (.slice a la ca)).setCell ⟨Z, 1, none⟩ (.slice g lg cg)) by
          rw [HPE.out]
          exact ⟨a, la, ca, g, lg, cg, rfl, (HB4.out.setCell HLE.out _).setCell HLE.out _, .inl ⟨rfl, rfl, rfl, rfl, rfl, rfl, HBK.out hz⟩⟩)
        have hzb : (R.2.2 == 0) = false := by simpa using hz
        go_wp2
        have hb := ((HRS4.out.set 0 (.slice a la ca)).set 1 (.slice g lg cg))
        unfold Row at hb
        exact bodyPost_ret (v := .tuple #[.agg #[.slice a la ca, .slice g lg cg], .int .i64 R.2.2]) (by simp [results, Try.results40, go_sem, World.cell?, hb]) rfl HFIN.out
    · obtain ⟨R, hR⟩ : ∃ R, replE key ver data E = R := ⟨_, rfl⟩
      have HPE := Lib.hid (show performE 2 key ver data E = R by unfold performE; rw [hc, ← hR]; rfl)
      have HBK := Lib.hid (show R.2.2 ≠ 0 → R.1 = E by rw [← hR]; exact repl_back)
      have HEP := Lib.hid (show EP R.1 by rw [← hR]; exact ep_repl HE.out hk hd)
      have HRR := Lib.hid hR
      clear hc hR hv hk hd
      go_wp2_with fail
      try rw [hw2]
      try rw [hQ]
      clear hw2 hQ x0 x1
      refine (l7put_any a g la ca lg cg E key ver data _ HE.out (HS.out.keep HP.out.below)).mono ?_
      rw [HRR.out]
      rintro e w3 ⟨q1, n1, c1, q2, n2, c2, rfl, hB, hK⟩
      have HSP := Lib.hid (stop_of_ep HEP.out)
      have HP3 := Lib.hid (HP.out.keep hB)
      have HRS3 := Lib.hid (HRS.out.keep hB)
      have HQ3 := Lib.hid (HQ.out.keep hB)
      have HK3 := Lib.hid hK
      have HQ2 := Lib.hid HQ.out.lt
      obtain ⟨q0, q1'⟩ := row_two HQ3.out
      have qf0 := HQ3.out.free 0
      have qf1 := HQ3.out.free 1
      obtain ⟨w4, hw4⟩ : ∃ x, (w3.setCell ⟨Q, 0, none⟩ (.slice q1 n1 c1)).setCell ⟨Q, 1, none⟩ (.slice q2 n2 c2) = x := ⟨_, rfl⟩
      have HQ4 := Lib.hid (show Row w4 Q 27 #[.slice q1 n1 c1, .slice q2 n2 c2] by rw [← hw4]; exact (HQ3.out.set 0 (.slice q1 n1 c1)).set 1 (.slice q2 n2 c2))
      have HRS4 := Lib.hid (show Row w4 Z 27 #[.slice none 0 0, .slice none 0 0] by rw [← hw4]; exact (Below.heap_setCell _ _ _ _ (Nat.ne_of_lt hZQ)).trans ((Below.heap_setCell _ _ _ _ (Nat.ne_of_lt hZQ)).trans HRS3.out))
      have HBX4 := Lib.hid (show Row w4 w.heap.size 27 #[.slice a la ca, .slice g lg cg] by rw [← hw4]; exact (Below.heap_setCell _ _ _ _ (by show w.heap.size ≠ Q; have := HZ.out; omega)).trans ((Below.heap_setCell _ _ _ _ (by show w.heap.size ≠ Q; have := HZ.out; omega)).trans HP3.out.box))
      have HB4 := Lib.hid (show Below w.heap.size w w4 by rw [← hw4]; exact (HP3.out.below.setCell HQL.out _).setCell HQL.out _)
      have HK4 := Lib.hid (show StoK w2.heap.size w4 q1 n1 c1 q2 n2 c2 (resO R) (resG R) by
        rw [← hw4]
        have k1 := HK3.out.put (X := Q) (HK3.out.at1.ne HQ2.out) (HK3.out.at2.ne HQ2.out) 0 (.slice q1 n1 c1)
        exact k1.put (X := Q) (k1.at1.ne HQ2.out) (k1.at2.ne HQ2.out) 1 (.slice q2 n2 c2))
      have HZ2 := Lib.hid (show Z < w2.heap.size from HRS.out.lt)
      obtain ⟨u0, u1⟩ := row_two HQ4.out
      obtain ⟨r0, r1⟩ := row_two HRS4.out
      obtain ⟨b0, b1⟩ := row_two HBX4.out
      have f0 := HRS4.out.free 0
      have f1 := HRS4.out.free 1
      clear hB hK
      by_cases hz : R.2.2 = 0
      · have HFIN := Lib.hid (show MadeD E a la ca g lg cg (performE 2 key ver data E) w (.returned (.tuple #[.agg #[.slice q1 n1 c1, .slice q2 n2 c2], .int .i64 0])) ((w4.setCell ⟨Z, 0, none⟩ (.slice q1 n1 c1)).setCell ⟨Z, 1, none⟩ (.slice q2 n2 c2)) by
          rw [HPE.out]
          have k1 := HK4.out.put (X := Z) (HK4.out.at1.ne HZ2.out) (HK4.out.at2.ne HZ2.out) 0 (.slice q1 n1 c1)
          have k2 := k1.put (X := Z) (k1.at1.ne HZ2.out) (k1.at2.ne HZ2.out) 1 (.slice q2 n2 c2)
          rw [(res_yes hz).1, (res_yes hz).2] at k2
          exact ⟨q1, n1, c1, q2, n2, c2, by rw [hz], (HB4.out.setCell HLE.out _).setCell HLE.out _, (.inr (k2.low (Nat.le_trans HLE.out (Nat.le_of_lt HZ2.out))))⟩)
        rw [hz]
        clear hz
        go_wp2
        have hb := ((HRS4.out.set 0 (.slice q1 n1 c1)).set 1 (.slice q2 n2 c2))
        unfold Row at hb
        exact bodyPost_ret (v := .tuple #[.agg #[.slice q1 n1 c1, .slice q2 n2 c2], .int .i64 0]) (by simp [results, Try.results40, go_sem, World.cell?, hb]) rfl HFIN.out
      · have HFIN := Lib.hid (show MadeD E a la ca g lg cg (performE 2 key ver data E) w (.returned (.tuple #[.agg #[.slice a la ca, .slice g lg cg], .int .i64 R.2.2])) ((w4.setCell ⟨Z, 0, none⟩ (.slice a la ca)).setCell ⟨Z, 1, none⟩ (.slice g lg cg)) by
          rw [HPE.out]
          exact ⟨a, la, ca, g, lg, cg, rfl, (HB4.out.setCell HLE.out _).setCell HLE.out _, .inl ⟨rfl, rfl, rfl, rfl, rfl, rfl, HBK.out hz⟩⟩)
        have hzb : (R.2.2 == 0) = false := by simpa using hz
        go_wp2
        have hb := ((HRS4.out.set 0 (.slice a la ca)).set 1 (.slice g lg cg))
        unfold Row at hb
        exact bodyPost_ret (v := .tuple #[.agg #[.slice a la ca, .slice g lg cg], .int .i64 R.2.2]) (by simp [results, Try.results40, go_sem, World.cell?, hb]) rfl HFIN.out
    · obtain ⟨R, hR⟩ : ∃ R, delE key ver E = R := ⟨_, rfl⟩
      have HPE := Lib.hid (show performE 3 key ver data E = R by unfold performE; rw [hc, ← hR]; rfl)
      have HBK := Lib.hid (show R.2.2 ≠ 0 → R.1 = E by rw [← hR]; exact del_back)
      have HEP := Lib.hid (show EP R.1 by rw [← hR]; exact ep_del HE.out hk)
      have HRR := Lib.hid hR
      clear hc hR hv hk
      go_wp2_with fail
      try rw [hw2]
      try rw [hQ]
      clear hw2 hQ x0 x1
      refine (l7del_any a g la ca lg cg E key ver _ HE.out (HS.out.keep HP.out.below)).mono ?_
      rw [HRR.out]
      rintro e w3 ⟨q1, n1, c1, q2, n2, c2, rfl, hB, hK⟩
      have HSP := Lib.hid (stop_of_ep HEP.out)
      have HP3 := Lib.hid (HP.out.keep hB)
      have HRS3 := Lib.hid (HRS.out.keep hB)
      have HQ3 := Lib.hid (HQ.out.keep hB)
      have HK3 := Lib.hid hK
      have HQ2 := Lib.hid HQ.out.lt
      obtain ⟨q0, q1'⟩ := row_two HQ3.out
      have qf0 := HQ3.out.free 0
      have qf1 := HQ3.out.free 1
      obtain ⟨w4, hw4⟩ : ∃ x, (w3.setCell ⟨Q, 0, none⟩ (.slice q1 n1 c1)).setCell ⟨Q, 1, none⟩ (.slice q2 n2 c2) = x := ⟨_, rfl⟩
      have HQ4 := Lib.hid (show Row w4 Q 27 #[.slice q1 n1 c1, .slice q2 n2 c2] by rw [← hw4]; exact (HQ3.out.set 0 (.slice q1 n1 c1)).set 1 (.slice q2 n2 c2))
      have HRS4 := Lib.hid (show Row w4 Z 27 #[.slice none 0 0, .slice none 0 0] by rw [← hw4]; exact (Below.heap_setCell _ _ _ _ (Nat.ne_of_lt hZQ)).trans ((Below.heap_setCell _ _ _ _ (Nat.ne_of_lt hZQ)).trans HRS3.out))
      have HBX4 := Lib.hid (show Row w4 w.heap.size 27 #[.slice a la ca, .slice g lg cg] by rw [← hw4]; exact (Below.heap_setCell _ _ _ _ (by show w.heap.size ≠ Q; have := HZ.out; omega)).trans ((Below.heap_setCell _ _ _ _ (by show w.heap.size ≠ Q; have := HZ.out; omega)).trans HP3.out.box))
      have HB4 := Lib.hid (show Below w.heap.size w w4 by rw [← hw4]; exact (HP3.out.below.setCell HQL.out _).setCell HQL.out _)
      have HK4 := Lib.hid (show StoK w2.heap.size w4 q1 n1 c1 q2 n2 c2 (resO R) (resG R) by
        rw [← hw4]
        have k1 := HK3.out.put (X := Q) (HK3.out.at1.ne HQ2.out) (HK3.out.at2.ne HQ2.out) 0 (.slice q1 n1 c1)
        exact k1.put (X := Q) (k1.at1.ne HQ2.out) (k1.at2.ne HQ2.out) 1 (.slice q2 n2 c2))
      have HZ2 := Lib.hid (show Z < w2.heap.size from HRS.out.lt)
      obtain ⟨u0, u1⟩ := row_two HQ4.out
      obtain ⟨r0, r1⟩ := row_two HRS4.out
      obtain ⟨b0, b1⟩ := row_two HBX4.out
      have f0 := HRS4.out.free 0
      have f1 := HRS4.out.free 1
      clear hB hK
      by_cases hz : R.2.2 = 0
      · have HFIN := Lib.hid (show MadeD E a la ca g lg cg (performE 3 key ver data E) w (.returned (.tuple #[.agg #[.slice q1 n1 c1, .slice q2 n2 c2], .int .i64 0])) ((w4.setCell ⟨Z, 0, none⟩ (.slice q1 n1 c1)).setCell ⟨Z, 1, none⟩ (.slice q2 n2 c2)) by
          rw [HPE.out]
          have k1 := HK4.out.put (X := Z) (HK4.out.at1.ne HZ2.out) (HK4.out.at2.ne HZ2.out) 0 (.slice q1 n1 c1)
          have k2 := k1.put (X := Z) (k1.at1.ne HZ2.out) (k1.at2.ne HZ2.out) 1 (.slice q2 n2 c2)
          rw [(res_yes hz).1, (res_yes hz).2] at k2
          exact ⟨q1, n1, c1, q2, n2, c2, by rw [hz], (HB4.out.setCell HLE.out _).setCell HLE.out _, (.inr (k2.low (Nat.le_trans HLE.out (Nat.le_of_lt HZ2.out))))⟩)
        rw [hz]
        clear hz
        go_wp2
        have hb := ((HRS4.out.set 0 (.slice q1 n1 c1)).set 1 (.slice q2 n2 c2))
        unfold Row at hb
        exact bodyPost_ret (v := .tuple #[.agg #[.slice q1 n1 c1, .slice q2 n2 c2], .int .i64 0]) (by simp [results, Try.results40, go_sem, World.cell?, hb]) rfl HFIN.out
      · have HFIN := Lib.hid (show MadeD E a la ca g lg cg (performE 3 key ver data E) w (.returned (.tuple #[.agg #[.slice a la ca, .slice g lg cg], .int .i64 R.2.2])) ((w4.setCell ⟨Z, 0, none⟩ (.slice a la ca)).setCell ⟨Z, 1, none⟩ (.slice g lg cg)) by
          rw [HPE.out]
          exact ⟨a, la, ca, g, lg, cg, rfl, (HB4.out.setCell HLE.out _).setCell HLE.out _, .inl ⟨rfl, rfl, rfl, rfl, rfl, rfl, HBK.out hz⟩⟩)
        have hzb : (R.2.2 == 0) = false := by simpa using hz
        go_wp2
        have hb := ((HRS4.out.set 0 (.slice a la ca)).set 1 (.slice g lg cg))
        unfold Row at hb
        exact bodyPost_ret (v := .tuple #[.agg #[.slice a la ca, .slice g lg cg], .int .i64 R.2.2]) (by simp [results, Try.results40, go_sem, World.cell?, hb]) rfl HFIN.out
end Go.Proofs.Ytblpebdjbenphaa
