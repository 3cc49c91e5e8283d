
/- Combined in parts: what comes of the parts' combined records is what comes of all of them. -/
import Derived.Test.YtldjahemgkkpbaaCombM
import Derived.Test.YtldjahemgkkpbaaMergeS
namespace Go.Proofs.Ytldjahemgkkpbaa
set_option linter.unusedVariables false

def mO (op : Int) (o : Option Int) : Option Int → Option Int
  | none => o
  | some y => fO op o y
theorem mO_fO (op : Int) (o p : Option Int) (x : Int) : fO op (mO op o p) x = mO op o (fO op p x) := by
  cases p with
  | none => rfl
  | some y =>
    cases o with
    | none => rfl
    | some n => exact congrArg some (comb_assoc op n y x)
theorem fO_two (op : Int) (o : Option Int) (x y : Int) : fO op o (combN op x y) = fO op (fO op o x) y := by
  cases o with
  | none => rfl
  | some n => exact congrArg some (comb_assoc op n x y).symm
theorem res_app_to (op : Int) (key : ByteArray) (X Y : Recs) : ∀ n, n ≤ Y.length → resT op key (X ++ Y.take n) = mO op (resT op key X) (resT op key (Y.take n))
  | 0, _ => by
    rw [List.take_zero, List.append_nil]
    rfl
  | n + 1, h => by
    have ih := res_app_to op key X Y n (by omega)
    rw [List.take_succ_eq_append_getElem (by omega), ← List.append_assoc, res_snoc, res_snoc, ih]
    split
    · exact mO_fO _ _ _ _
    · rfl
theorem res_app (op : Int) (key : ByteArray) (X Y : Recs) : resT op key (X ++ Y) = mO op (resT op key X) (resT op key Y) := by
  have := res_app_to op key X Y Y.length (Nat.le_refl _)
  rwa [List.take_length] at this
theorem res_step {op : Int} {key : ByteArray} {T W : Recs} {r : ByteArray × Int} (h : resT op key W = resT op key T) : resT op key (cStep op W r) = resT op key (T ++ [r]) := by
  cases hj : joinsB W r with
  | false => rw [cStep_new hj, res_snoc, res_snoc, h]
  | true =>
    have h0 : 0 < W.length := by
      unfold joinsB at hj
      rw [Bool.and_eq_true] at hj
      exact of_decide_eq_true hj.1
    obtain ⟨A, x, rfl⟩ : ∃ A x, W = A ++ [x] := ⟨W.dropLast, W.getLast (fun e => by rw [e] at h0; simp at h0), (List.dropLast_concat_getLast _).symm⟩
    have hlen : (A ++ [x]).length = A.length + 1 := by simp
    have hkx : keyAt (A ++ [x]) A.length = x.1 ∧ numAt (A ++ [x]) A.length = x.2 := by
      have := at_get (A ++ [x]) A.length (by simp)
      have e : x = (keyAt (A ++ [x]) A.length, numAt (A ++ [x]) A.length) := by simpa using this
      exact ⟨(congrArg Prod.fst e).symm, (congrArg Prod.snd e).symm⟩
    have hs : sameKey x.1 r.1 = true := by
      unfold joinsB at hj
      rw [Bool.and_eq_true, hlen, Nat.add_sub_cancel, hkx.1] at hj
      exact hj.2
    have hxr := same_yes hs
    rw [cStep_join hj hlen, hkx.1, hkx.2]
    have hset : ∀ z, (A ++ [x]).set A.length z = A ++ [z] := fun z => by simp
    rw [hset, res_snoc, res_snoc op key T r, ← h, res_snoc, ← hxr]
    cases sameKey x.1 key with
    | false => rfl
    | true => exact fO_two _ _ _ _
theorem res_cTo (op : Int) (key : ByteArray) (S : Recs) : ∀ k, k ≤ S.length → resT op key (cTo op S k) = resT op key (S.take k)
  | 0, _ => by simp [cTo]
  | k + 1, h => by
    have hlt : k < S.length := by omega
    rw [cTo_succ op S k hlt, List.take_succ_eq_append_getElem hlt, at_get S k hlt]
    exact res_step (res_cTo op key S k (by omega))
theorem res_comb {op : Int} {V : Recs} (h1 : opOkB op = true) (h2 : recsOkB V = true) (key : ByteArray) : resT op key (combW op V) = resT op key V := by
  rw [comb_of h1 (sortedB_is h2) rfl, res_cTo op key _ _ (Nat.le_refl _), List.take_length, res_perm (sortL_perm V)]

theorem up_mem : ∀ {C D : Recs}, KeyUp C → KeyUp D → (∀ r, r ∈ C ↔ r ∈ D) → C = D
  | [], [], _, _, _ => rfl
  | [], b :: D, _, _, h => absurd ((h b).2 (List.mem_cons_self ..)) (by simp)
  | a :: C, [], _, _, h => absurd ((h a).1 (List.mem_cons_self ..)) (by simp)
  | a :: C, b :: D, hc, hd, h => by
    obtain ⟨hc1, hc2⟩ := List.pairwise_cons.1 hc
    obtain ⟨hd1, hd2⟩ := List.pairwise_cons.1 hd
    have e : a = b := by
      rcases List.mem_cons.1 ((h a).1 (List.mem_cons_self ..)) with e | ha
      · exact e
      · rcases List.mem_cons.1 ((h b).2 (List.mem_cons_self ..)) with e | hb
        · exact e.symm
        · exact absurd (List.lt_trans (hc1 b hb) (hd1 a ha)) (List.lt_irrefl _)
    subst e
    rw [up_mem hc2 hd2 fun r => ⟨fun hr => ?_, fun hr => ?_⟩]
    · rcases List.mem_cons.1 ((h r).1 (List.mem_cons_of_mem _ hr)) with e | hx
      · subst e; exact absurd (hc1 r hr) (List.lt_irrefl _)
      · exact hx
    · rcases List.mem_cons.1 ((h r).2 (List.mem_cons_of_mem _ hr)) with e | hx
      · subst e; exact absurd (hd1 r hr) (List.lt_irrefl _)
      · exact hx
theorem mem_of_res {op : Int} {C : Recs} (hm : ∀ r ∈ C, resT op r.1 C = some r.2) {key : ByteArray} {n : Int} (e : resT op key C = some n) : (key, n) ∈ C := by
  by_cases h : ∃ x ∈ C, sameKey x.1 key = true
  · obtain ⟨x, hx, hs⟩ := h
    have e2 := hm x hx
    rw [same_yes hs, e] at e2
    have e3 : x = (key, n) := Prod.ext (same_yes hs) (Option.some.inj e2).symm
    rw [← e3]
    exact hx
  · rw [res_none (fun r hr => by
      cases hk : sameKey r.1 key with
      | false => rfl
      | true => exact absurd ⟨r, hr, hk⟩ h)] at e
    cases e
theorem recsOk_short {V : Recs} (h : recsOkB V = true) : ∀ r ∈ V, r.1.size ≤ 40 := fun r hr => by
  have hf := sortedB_few V
  rw [sortedB_is h] at hf
  obtain ⟨i, hi, e⟩ := List.mem_iff_getElem.1 ((sortL_perm V).mem_iff.2 hr)
  have := hf.2 i hi
  rw [at_get _ i hi] at e
  rw [← e]
  exact this
theorem comb_short (op : Int) (V : Recs) : ∀ r ∈ combW op V, r.1.size ≤ 40 := fun r hr => by
  obtain ⟨i, hi, e⟩ := List.mem_iff_getElem.1 hr
  have := (combW_few op V).2 i hi
  rw [at_get _ i hi] at e
  rw [← e]
  exact this
theorem comb_len (op : Int) (V : Recs) : (combW op V).length ≤ V.length := by
  unfold combW
  split
  · have h1 := cTo_len op (sortedB V) _ (Nat.le_refl _)
    have h2 : (sortedB V).length ≤ V.length := by
      cases h : recsOkB V with
      | false => rw [sortedB_not h]; simp
      | true => rw [sortedB_is h, (sortL_perm V).length_eq]; exact Nat.le_refl _
    omega
  · simp
/-- Combined of the parts' combined records is Combined of all. -/
theorem comb_parts {op : Int} {V A B : Recs} (h1 : opOkB op = true) (h2 : recsOkB V = true) (hp : (A ++ B).Perm V) : combW op (combW op A ++ combW op B) = combW op V := by
  have hk := recsOk_short h2
  have h6 := (recsOk_parts h2).1
  have hl := hp.length_eq
  rw [List.length_append] at hl
  have hA : recsOkB A = true := recsOk_mem (fun r hr => hk r (hp.mem_iff.1 (List.mem_append.2 (.inl hr)))) (by omega)
  have hB : recsOkB B = true := recsOk_mem (fun r hr => hk r (hp.mem_iff.1 (List.mem_append.2 (.inr hr)))) (by omega)
  have hAB : recsOkB (combW op A ++ combW op B) = true := recsOk_mem (fun r hr => by
    rcases List.mem_append.1 hr with hr | hr
    · exact comb_short _ _ r hr
    · exact comb_short _ _ r hr) (by
      rw [List.length_append]
      have := comb_len op A
      have := comb_len op B
      omega)
  have hr : ∀ key, resT op key (combW op (combW op A ++ combW op B)) = resT op key (combW op V) := fun key => by
    rw [res_comb h1 hAB, res_comb h1 h2, res_app, res_comb h1 hA, res_comb h1 hB, ← res_app, res_perm hp]
  obtain ⟨u1, m1⟩ := combW_holds h1 hAB
  obtain ⟨u2, m2⟩ := combW_holds h1 h2
  have m1' : ∀ r ∈ combW op (combW op A ++ combW op B), resT op r.1 (combW op (combW op A ++ combW op B)) = some r.2 := fun r hx => by rw [res_comb h1 hAB]; exact m1 r hx
  have m2' : ∀ r ∈ combW op V, resT op r.1 (combW op V) = some r.2 := fun r hx => by rw [res_comb h1 h2]; exact m2 r hx
  refine up_mem u1 u2 fun r => ⟨fun hx => ?_, fun hx => ?_⟩
  · exact mem_of_res m2' (by rw [← hr]; exact m1' r hx)
  · exact mem_of_res m1' (by rw [hr]; exact m2' r hx)
end Go.Proofs.Ytldjahemgkkpbaa
