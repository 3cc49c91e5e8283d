
/- The drawn law on tasks, walked: a valid job has as many tasks as splits and parts, and one split more is one task more. -/
import Derived.Test.YtgijalecpeabjaaDoorDrawJob2
import Derived.Test.YtgijalecpeabjaaDoorTasks
namespace Go.Proofs.YtgijalecpeabjaaDoor
open Go.ChangeShapes Go.WideShapes Go.ChangeAt Go.RowKit
set_option linter.unusedVariables false
set_option maxRecDepth 100000

theorem strAt_app (M : Strs) (x : ByteArray) (i : Nat) (h : i < M.length) : strAt (M ++ [x]) i = strAt M i := by
  unfold strAt
  rw [List.getD_eq_getElem?_getD, List.getD_eq_getElem?_getD, List.getElem?_append_left h]
theorem strAt_last (M : Strs) (x : ByteArray) : strAt (M ++ [x]) M.length = x := by
  unfold strAt
  rw [List.getD_eq_getElem?_getD, List.getElem?_append_right (Nat.le_refl _)]
  simp
theorem allB_app (M : Strs) (x : ByteArray) : ∀ k, k ≤ M.length → allB (M ++ [x]) k = allB M k
  | 0, _ => rfl
  | k + 1, h => by
    show (allB (M ++ [x]) k && splitB (M ++ [x]) k) = (allB M k && splitB M k)
    rw [allB_app M x k (by omega)]
    unfold splitB
    rw [strAt_app M x k (by omega)]
theorem jobB_more {l : Instrs} {o1 n1 : Int} {M : Strs} {sl : Nat} (h : jobB l o1 n1 M sl = true) (hl : M.length = sl) (h4 : sl ≠ 4) : jobB l o1 n1 (M ++ [⟨#[97, 10]⟩]) (sl + 1) = true := by
  have hf := job_few h
  unfold jobB splitsB at h ⊢
  rw [Bool.and_eq_true, Bool.and_eq_true, Bool.and_eq_true, Bool.and_eq_true] at h ⊢
  refine ⟨h.1, h.2.1, h.2.2.1, inB_iff.2 (by omega), ?_⟩
  show (allB (M ++ [⟨#[97, 10]⟩]) sl && splitB (M ++ [⟨#[97, 10]⟩]) sl) = true
  rw [allB_app M _ sl (by omega), h.2.2.2.2]
  unfold splitB
  rw [← hl, strAt_last]
  decide
theorem tasks_more {l : Instrs} {o1 n1 : Int} {M : Strs} {sl : Nat} (h : jobB l o1 n1 M sl = true) (hl : M.length = sl) (h4 : sl ≠ 4) : tasksB l o1 n1 (M ++ [⟨#[97, 10]⟩]) (sl + 1) = (sl : Int) + n1 + 1 := by
  unfold tasksB
  rw [if_pos (jobB_more h hl h4)]
  omega

set_option maxHeartbeats 16000000 in
theorem fnTasks_walk (w : World) (a : Option Addr) (len cap : Nat) (h : Src w a len) (hT : TabsP w) :
    Calls Tryd.prog 10 #[.slice a len cap] w fun e w' => e = .returned (.bool true) ∧ Below w.heap.size w w' := by
  by_cases hbig : 1048576 < len
  · go_enter Tryd.func10, Tryd.ntmps10
    go_wp2_with fail
    refine (big_yes _ _ _ _ hbig).mono ?_
    rintro e w' ⟨rfl, rfl⟩
    go_wp2_with fail
    go_ret
    exact ⟨rfl, Below.refl _ _⟩
  obtain ⟨i0, hi, hz0, hz1, hz2⟩ := info_parts infoStr
  have HT := Lib.hid hT
  have H := Lib.hid h
  clear hT h
  go_enter Tryd.func10, Tryd.ntmps10
  go_wp2_with fail
  refine (big_no _ _ _ _ hbig).mono ?_
  rintro e w' ⟨rfl, rfl⟩
  go_wp2_with fail
  refine (drawtasks_any _ _ _ _ H.out).mono ?_
  rintro e w1 ⟨pq, pn, pc, W, sq, sn, sc, M, e1, o1, n1, rfl, hj, hsn5, hsz, hp, hs, hB⟩
  obtain ⟨J, hJ⟩ : ∃ J, w1.heap.size = J := ⟨_, rfl⟩
  obtain ⟨w2, hw2⟩ : ∃ w2, w1.alloc (.cells #[.slice pq pn pc, .bool e1, .int .i64 o1, .int .i64 n1, .slice sq sn sc] 44) = w2 := ⟨_, rfl⟩
  have HW2 := Lib.hid hw2
  have HXJ := Lib.hid (show Row w2 J 44 #[.slice pq pn pc, .bool e1, .int .i64 o1, .int .i64 n1, .slice sq sn sc] from by rw [← hw2, ← hJ]; exact row_new _ _ _)
  have hBA : Below w1.heap.size w1 w2 := hw2 ▸ below_alloc (Below.refl _ _) _
  have HJA := Lib.hid (hj.keep hBA)
  have HZ := Lib.hid (show ∀ i, i < sn → (strAt M i).size ≤ 1048576 from fun i hi => by have := hsz i hi; omega)
  have HZ5 := Lib.hid hsz
  have HB := Lib.hid (below_via hB hBA)
  have HML := Lib.hid hj.t.length
  have HPJ := Lib.hid (show ∀ b off, 0 < pn → pq = some ⟨b, off, none⟩ → b < J from fun b off h0 hq => by
    rcases hj.i.src with h1 | ⟨b', off', h1, h2, _⟩
    · omega
    · rw [h1] at hq
      simp only [Option.some.injEq, Addr.mk.injEq, and_true] at hq
      omega)
  have HHP := Lib.hid hp
  obtain ⟨x, hx⟩ : ∃ x, tasksB W o1 n1 M sn = x := ⟨_, rfl⟩
  have HX := Lib.hid hx
  have y0 := HXJ.out.cell (j := 0) (by simp)
  have y1 := HXJ.out.cell (j := 1) (by simp)
  have y2 := HXJ.out.cell (j := 2) (by simp)
  have y3 := HXJ.out.cell (j := 3) (by simp)
  have y4 := HXJ.out.cell (j := 4) (by simp)
  simp at y0 y1 y2 y3 y4
  clear hj hp hs hsz hB hBA hx
  go_wp2_with fail
  clear hJ hw2
  refine (tasks_any pq sq pn pc sn sc e1 o1 n1 W M _ HJA.out HZ.out (HT.out.keep HB.out)).mono ?_
  rw [HX.out]
  rintro e w3 ⟨rfl, hB⟩
  have HXJ := Lib.hid (HXJ.out.keep hB)
  have HJA := Lib.hid (HJA.out.keep hB)
  have HB := Lib.hid (below_via HB.out hB)
  clear y0 y1 y2 y3 y4
  have y0 := HXJ.out.cell (j := 0) (by simp)
  have y1 := HXJ.out.cell (j := 1) (by simp)
  have y2 := HXJ.out.cell (j := 2) (by simp)
  have y3 := HXJ.out.cell (j := 3) (by simp)
  have y4 := HXJ.out.cell (j := 4) (by simp)
  simp at y0 y1 y2 y3 y4
  clear hB
  go_wp2_with fail
  refine (stasks_any pq sq pn pc sn sc e1 o1 n1 W M _ HJA.out HZ.out).mono ?_
  rw [HX.out]
  rintro e w4 ⟨rfl, hB⟩
  have HXJ := Lib.hid (HXJ.out.keep hB)
  have HJA := Lib.hid (HJA.out.keep hB)
  have HB := Lib.hid (below_via HB.out hB)
  clear hB y0 y1 y2 y3 y4
  have y0 := HXJ.out.cell (j := 0) (by simp)
  have y1 := HXJ.out.cell (j := 1) (by simp)
  have y2 := HXJ.out.cell (j := 2) (by simp)
  have y3 := HXJ.out.cell (j := 3) (by simp)
  have y4 := HXJ.out.cell (j := 4) (by simp)
  simp at y0 y1 y2 y3 y4
  by_cases hx0 : x = 0
  · subst hx0
    go_wp2_with fail
    refine (stasks_any pq sq pn pc sn sc e1 o1 n1 W M _ HJA.out HZ.out).mono ?_
    rw [HX.out]
    rintro e w5 ⟨rfl, hB⟩
    have HB := Lib.hid (below_via HB.out hB)
    clear hB
    go_wp2
    go_ret
    exact ⟨rfl, HB.out⟩
  have hx0b : ((x : Int) == 0) = false := by rw [beq_eq_false_iff_ne]; exact hx0
  by_cases h4 : sn = 4
  · subst h4
    go_wp2_with fail
    refine (stasks_any pq sq pn pc 4 sc e1 o1 n1 W M _ HJA.out HZ.out).mono ?_
    rw [HX.out]
    rintro e w5 ⟨rfl, hB⟩
    have HB := Lib.hid (below_via HB.out hB)
    clear hB
    go_wp2
    go_ret
    exact ⟨rfl, HB.out⟩
  have h4b : ((sn : Int) == 4) = false := by rw [beq_eq_false_iff_ne]; omega
  have hjb : jobB W o1 n1 M sn = true := by
    cases hb : jobB W o1 n1 M sn with
    | true => rfl
    | false =>
      have := HX.out
      unfold tasksB at this
      rw [hb] at this
      exact absurd this.symm hx0
  have hxe : x = (sn : Int) + n1 := by
    have := HX.out
    unfold tasksB at this
    rw [hjb] at this
    exact this.symm
  have HJB := Lib.hid hjb
  obtain ⟨hn1, hn3, hs1, hs4⟩ := job_few hjb
  rcases HJA.out.t.src with h0 | ⟨b, off, rfl, hb, hc⟩
  · omega
  have HCE := Lib.hid (show ∀ j u, (M.map Value.string)[j]? = some u → ((w4.alloc (.cells #[.slice pq pn pc, .bool e1, .int .i64 o1, .int .i64 n1, .slice (some ⟨b, off, none⟩) sn sc] 44)).alloc (.cells #[] 9)).cell? ((⟨b, off, none⟩ : Addr).add j) = some u from fun j u hu => by
    have hjl : j < sn := by
      have h1 := (List.getElem?_eq_some_iff.1 hu).1
      have h2 := HML.out
      simp at h1
      omega
    have e : ((⟨b, off, none⟩ : Addr).add j) = ⟨b, off + j, none⟩ := by unfold Addr.add; split <;> simp_all
    rw [e]
    have h1 := (below_alloc (below_alloc (Below.refl w4.heap.size w4) (.cells #[.slice pq pn pc, .bool e1, .int .i64 o1, .int .i64 n1, .slice (some ⟨b, off, none⟩) sn sc] 44)) (.cells #[] 9)).cell (p := ⟨b, off + j, none⟩) hb
    rw [h1, hc j hjl]
    have h2 := HML.out
    have h3 : j < M.length := by omega
    rw [List.getElem?_map, List.getElem?_eq_getElem h3] at hu
    unfold strAt
    rw [List.getD_eq_getElem?_getD, List.getElem?_eq_getElem h3]
    exact hu)
  have HO0 := Lib.hid (World.ownsRow_lit (base := w4.heap.size + 1) (e := 9) (size := 1) (w4.alloc (.cells #[.slice pq pn pc, .bool e1, .int .i64 o1, .int .i64 n1, .slice (some ⟨b, off, none⟩) sn sc] 44)) #[] 0 (by simp) (Nat.zero_le _) rfl)
  have HK0 := Lib.hid ((row_new w4 #[.slice pq pn pc, .bool e1, .int .i64 o1, .int .i64 n1, .slice (some ⟨b, off, none⟩) sn sc] 44).al (.cells #[] 9))
  have HBK := Lib.hid (below_alloc (below_alloc (Below.refl w4.heap.size w4) (.cells #[.slice pq pn pc, .bool e1, .int .i64 o1, .int .i64 n1, .slice (some ⟨b, off, none⟩) sn sc] 44)) (.cells #[] 9))
  have HLK := Lib.hid (show ((w4.alloc (.cells #[.slice pq pn pc, .bool e1, .int .i64 o1, .int .i64 n1, .slice (some ⟨b, off, none⟩) sn sc] 44)).alloc (.cells #[] 9)).heap.size = w4.heap.size + 2 by simp)
  have hsz1 : (w4.alloc (.cells #[.slice pq pn pc, .bool e1, .int .i64 o1, .int .i64 n1, .slice (some ⟨b, off, none⟩) sn sc] 44)).heap.size = w4.heap.size + 1 := by simp
  rw [hsz1] at HO0
  clear hsz1
  obtain ⟨w5, hw5⟩ : ∃ w5, (w4.alloc (.cells #[.slice pq pn pc, .bool e1, .int .i64 o1, .int .i64 n1, .slice (some ⟨b, off, none⟩) sn sc] 44)).alloc (.cells #[] 9) = w5 := ⟨_, rfl⟩
  rw [hw5] at HCE HO0 HK0 HBK HLK
  have HXJ5 := Lib.hid (HXJ.out.keep HBK.out)
  have v4 := HXJ5.out.cell (j := 4) (by simp)
  simp at v4
  clear hc hb hjb hx0
  subst hxe
  go_wp2_with (first
    | (at_builtin; (refine wpList_append_own _ rfl _ _ 38 rfl (w4.heap.size + 1) 9 i0 _ 1 16 Tryd.underlying38 hi hz0 hz1 hz2 rfl (by decide) _ _ _ rfl HO0.out ⟨b, off, none⟩ sn sc (M.map Value.string) rfl (by rw [List.length_map, HML.out, Nat.mul_one]) HCE.out (fun u hu => by obtain ⟨t, _, rfl⟩ := List.mem_map.1 hu; rfl) (by unfold maxLen; omega) (by omega) (by rw [HLK.out]; omega) ?_); intro v' w6 hown1 hgrow hnil; simp only [Nat.zero_add] at hown1; obtain ⟨q1, cp1, rfl⟩ := own_form hown1; have HO1 := Lib.hid hown1; have HB6 := Lib.hid (HBK.out.grown hgrow HBK.out.size (fun k hk => by injection hk with hk; simp at hk; omega)); have HK6 := Lib.hid (HK0.out.grown hgrow (fun e => by injection e with e; simp at e)); clear hown1 hgrow hnil)
    | (at_builtin; clear v4; (refine wpList_append_own _ rfl _ _ 38 rfl (w4.heap.size + 1) 9 i0 _ 1 16 Tryd.underlying38 hi hz0 hz1 hz2 rfl (by decide) _ _ _ rfl (HO1.out.alloc _) ⟨w6.heap.size, 0, none⟩ 1 1 [.string ⟨#[97, 10]⟩] rfl rfl (one_new _ _ _) (fun u hu => by simp at hu; subst hu; rfl) (by unfold maxLen; omega) (by omega) (by have h1 := HK6.out.lt; simp; omega) ?_); intro v' w7 hown2 hgrow hnil; obtain ⟨q2, cp2, rfl⟩ := own_form hown2; have HO2 := Lib.hid hown2; have HB7 := Lib.hid ((below_alloc HB6.out _).grown hgrow (below_alloc HB6.out _).size (fun k hk => by have := (HO1.out.lt k hk).1; omega)); have HK7 := Lib.hid ((HK6.out.al _).grown hgrow (fun e => by have := (HO1.out.lt _ e).1; omega)); have HXJ7 := Lib.hid (HXJ.out.keep HB7.out); have g4 := HK7.out.free 4; have k4o := HK7.out.cell (j := 4) (by simp); simp at k4o; obtain ⟨w8, hw8⟩ : ∃ w8, w7.setCell ⟨w4.heap.size, 4, none⟩ (.slice q2 (sn + 1) cp2) = w8 := ⟨_, rfl⟩; have HK8 := Lib.hid (show Row w8 _ _ _ from hw8 ▸ HK7.out.set 4 (.slice q2 (sn + 1) cp2)); have HXJ8 := Lib.hid (show Row w8 J _ _ from hw8 ▸ HXJ7.out.other (Nat.ne_of_lt HXJ.out.lt) 4 _); have HW8 := Lib.hid hw8; have k0 := HK8.out.cell (j := 0) (by simp); have k1 := HK8.out.cell (j := 1) (by simp); have k2 := HK8.out.cell (j := 2) (by simp); have k3 := HK8.out.cell (j := 3) (by simp); have k4 := HK8.out.cell (j := 4) (by simp); have y3' := HXJ8.out.cell (j := 3) (by simp); have y4' := HXJ8.out.cell (j := 4) (by simp); simp at k0 k1 k2 k3 k4 y3' y4'; clear hown2 hgrow hnil y0 y1 y2 y3 y4))
  have hlt4 : w4.heap.size ≤ w4.heap.size := Nat.le_refl _
  have HJ8 := Lib.hid (show JobAt w8 pq pn W q2 (sn + 1) (M ++ [⟨#[97, 10]⟩]) from by
    have hq : ∀ b' off', q2 = some ⟨b', off', none⟩ → b' ≠ w4.heap.size := fun b' off' e => by
      subst e
      have := (HO2.out.lt b' rfl).1
      omega
    refine ⟨?_, ?_⟩
    · have h1 := HJA.out.i.keep HB7.out
      by_cases hp0 : pn = 0
      · subst hp0
        exact ⟨h1.length, h1.max, h1.keys, .inl rfl⟩
      · rw [← HW8.out]
        exact h1.put (fun b' off' e => by have h2 := HPJ.out b' off' (by omega) e; have h3 := HXJ.out.lt; omega) 4 _
    · have h1 := strs_of_own (W := M ++ [⟨#[97, 10]⟩]) (by simpa using HO2.out) (by rw [List.length_append, HML.out]; rfl) (by unfold maxLen; omega) (fun x hx => by
        rcases List.mem_append.1 hx with e | e
        · obtain ⟨j, hj, rfl⟩ := List.getElem_of_mem e
          have h2 := HZ.out j (by have := HML.out; omega)
          unfold strAt at h2
          rw [List.getD_eq_getElem?_getD, List.getElem?_eq_getElem hj] at h2
          have h3 : M[j].size ≤ 1048576 := h2
          unfold maxLen; omega
        · simp only [List.mem_singleton] at e
          rw [e]; decide)
      rw [← HW8.out]
      exact h1.put hq 4 _)
  have HZ8 := Lib.hid (show ∀ i, i < sn + 1 → (strAt (M ++ [⟨#[97, 10]⟩]) i).size ≤ 1048576 from fun i hi => by
    by_cases h1 : i < sn
    · rw [strAt_app M _ i (by have := HML.out; omega)]; exact HZ.out i h1
    · obtain rfl : i = M.length := by have := HML.out; omega
      rw [strAt_last]; decide)
  have HB8 := Lib.hid (show Below w.heap.size w w8 from by
    rw [← HW8.out]
    exact (below_via HB.out HB7.out).setCell HB.out.size _)
  refine (tasks_any pq q2 pn pc (sn + 1) cp2 e1 o1 n1 W _ _ HJ8.out HZ8.out (HT.out.keep HB8.out)).mono ?_
  rw [tasks_more HJB.out HML.out h4]
  rintro e w9 ⟨rfl, hB⟩
  have HB9 := Lib.hid (below_via HB8.out hB)
  clear hB
  go_wp2
  go_ret
  exact ⟨rfl, HB9.out⟩
end Go.Proofs.YtgijalecpeabjaaDoor
