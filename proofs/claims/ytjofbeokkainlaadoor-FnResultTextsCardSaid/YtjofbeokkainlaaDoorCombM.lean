
/- What combined records hold: each key once, in order, with what comes of its numbers in whatever order they are taken. -/
import Derived.Test.YtjofbeokkainlaaDoorMg27
import Derived.Test.YtjofbeokkainlaaDoorMg17
namespace Go.Proofs.YtjofbeokkainlaaDoor
set_option linter.unusedVariables false

def fO (op : Int) : Option Int → Int → Option Int
  | none, x => some x
  | some n, x => some (combN op n x)
/-- What comes of the numbers of a key. -/
def resT (op : Int) (key : ByteArray) (V : Recs) : Option Int := (V.filter fun r => sameKey r.1 key).foldl (fun o r => fO op o r.2) none
theorem fO_comm (op : Int) (o : Option Int) (x y : Int) : fO op (fO op o x) y = fO op (fO op o y) x := by
  cases o with
  | none => show some _ = some _; rw [comb_comm]
  | some n =>
    show some _ = some _
    rw [comb_assoc, comb_assoc, comb_comm op x y]
theorem res_perm {op : Int} {key : ByteArray} {V S : Recs} (h : V.Perm S) : resT op key V = resT op key S := by
  unfold resT
  exact List.Perm.foldl_eq' (h.filter _) (fun x _ y _ z => fO_comm op z x.2 y.2) none
theorem res_snoc (op : Int) (key : ByteArray) (V : Recs) (r : ByteArray × Int) : resT op key (V ++ [r]) = if sameKey r.1 key then fO op (resT op key V) r.2 else resT op key V := by
  unfold resT
  rw [List.filter_append]
  cases h : sameKey r.1 key with
  | true => simp [h, List.foldl_append]
  | false => simp [h]
theorem res_none {op : Int} {key : ByteArray} {V : Recs} (h : ∀ r ∈ V, sameKey r.1 key = false) : resT op key V = none := by
  unfold resT
  rw [List.filter_eq_nil_iff.2 (fun r hr => by rw [h r hr]; simp)]
  rfl
theorem same_no {s u : ByteArray} (h : s.toList ≠ u.toList) : sameKey s u = false := by
  unfold sameKey
  simpa using h
theorem same_yes {s u : ByteArray} (h : sameKey s u = true) : s = u := by
  unfold sameKey at h
  exact toList_inj (by simpa using h)
theorem same_self (s : ByteArray) : sameKey s s = true := by unfold sameKey; simp

def KeyUp (W : Recs) : Prop := List.Pairwise (fun a b => a.1.toList < b.1.toList) W
structure CInv (op : Int) (T W : Recs) : Prop where
  up : KeyUp W
  res : ∀ r ∈ W, resT op r.1 T = some r.2
  last : T ≠ [] → ∃ A x B y, W = A ++ [x] ∧ T = B ++ [y] ∧ x.1 = y.1
  nil : T = [] → W = []
theorem cinv_step {op : Int} {T W : Recs} {r : ByteArray × Int} (h : CInv op T W) (ho : InOrder (T ++ [r])) : CInv op (T ++ [r]) (cStep op W r) := by
  by_cases hT : T = []
  · have hW := h.nil hT
    subst hT
    subst hW
    have hj : joinsB [] r = false := by simp [joinsB]
    rw [cStep_new hj]
    refine ⟨by simp [KeyUp], fun x hx => ?_, fun _ => ⟨[], r, [], r, rfl, rfl, rfl⟩, fun hn => by simp at hn⟩
    simp at hx
    subst hx
    rw [res_snoc, same_self, if_pos rfl]
    rfl
  · obtain ⟨A, x, B, y, rfl, rfl, hxy⟩ := h.last hT
    have hup := h.up
    unfold KeyUp at hup
    rw [List.pairwise_append] at hup
    obtain ⟨hA, _, hAx⟩ := hup
    have hAx' : ∀ t ∈ A, t.1.toList < x.1.toList := fun t ht => hAx t ht x (by simp)
    have hkx : keyAt (A ++ [x]) A.length = x.1 ∧ numAt (A ++ [x]) A.length = x.2 := by
      have := at_get (A ++ [x]) A.length (by simp)
      have e : x = (keyAt (A ++ [x]) A.length, numAt (A ++ [x]) A.length) := by simpa using this
      exact ⟨(congrArg Prod.fst e).symm, (congrArg Prod.snd e).symm⟩
    have hlen : (A ++ [x]).length = A.length + 1 := by simp
    have hjo : joinsB (A ++ [x]) r = sameKey x.1 r.1 := by
      unfold joinsB
      rw [hlen, Nat.add_sub_cancel, hkx.1]
      simp
    cases hj : sameKey x.1 r.1 with
    | true =>
      rw [hj] at hjo
      have hxr := same_yes hj
      rw [cStep_join hjo hlen, hkx.1, hkx.2]
      have hset : ∀ z, (A ++ [x]).set A.length z = A ++ [z] := fun z => by simp
      rw [hset]
      refine ⟨?_, fun t ht => ?_, fun _ => ⟨A, _, B ++ [y], r, rfl, rfl, hxr⟩, fun hn => by simp at hn⟩
      · unfold KeyUp
        rw [List.pairwise_append]
        exact ⟨hA, by simp, fun t ht z hz => by simp at hz; subst hz; exact hAx' t ht⟩
      · rcases List.mem_append.1 ht with ht | ht
        · rw [res_snoc, same_no (by rw [← hxr]; exact fun e => by have := hAx' t ht; rw [e] at this; exact absurd this (List.lt_irrefl _)), if_neg (by simp)]
          exact h.res t (by simp [ht])
        · simp at ht
          subst ht
          show resT op x.1 _ = some (combN op x.2 r.2)
          rw [res_snoc, hxr, same_self, if_pos rfl, ← hxr, h.res x (by simp)]
          rfl
    | false =>
      rw [hj] at hjo
      rw [cStep_new hjo]
      unfold InOrder at ho
      rw [List.pairwise_append] at ho
      obtain ⟨hoT, _, hor⟩ := ho
      have hne : x.1.toList ≠ r.1.toList := fun e => by
        unfold sameKey at hj
        rw [e] at hj
        simp at hj
      have hyr : x.1.toList < r.1.toList := by
        have h1 := hor y (by simp) r (by simp)
        rw [leR_iff'] at h1
        rw [hxy] at hne ⊢
        rcases h1 with h1 | h1
        · exact h1
        · exact absurd h1.1 hne
      refine ⟨?_, fun t ht => ?_, fun _ => ⟨A ++ [x], r, B ++ [y], r, rfl, rfl, rfl⟩, fun hn => by simp at hn⟩
      · unfold KeyUp
        rw [List.pairwise_append]
        refine ⟨h.up, by simp, fun t ht z hz => ?_⟩
        simp at hz
        subst hz
        rcases List.mem_append.1 ht with ht | ht
        · exact List.lt_trans (hAx' t ht) hyr
        · simp at ht; subst ht; exact hyr
      · rcases List.mem_append.1 ht with ht | ht
        · have htr : t.1.toList < r.1.toList := by
            rcases List.mem_append.1 ht with ht | ht
            · exact List.lt_trans (hAx' t ht) hyr
            · simp at ht; subst ht; exact hyr
          rw [res_snoc, same_no (fun e => by rw [e] at htr; exact absurd htr (List.lt_irrefl _)), if_neg (by simp)]
          exact h.res t ht
        · simp at ht
          subst ht
          rw [res_snoc, same_self, if_pos rfl, res_none (V := B ++ [y]) (fun z hz => ?_)]
          · rfl
          · refine same_no fun e => ?_
            have hzr : z.1.toList < t.1.toList := by
              rcases List.mem_append.1 hz with hz | hz
              · rw [List.pairwise_append] at hoT
                have h1 := hoT.2.2 z hz y (by simp)
                rw [leR_iff'] at h1
                rw [← hxy] at h1
                rcases h1 with h1 | h1
                · exact List.lt_trans h1 hyr
                · rw [h1.1]; exact hyr
              · simp at hz; subst hz; rw [← hxy]; exact hyr
            rw [e] at hzr
            exact absurd hzr (List.lt_irrefl _)
theorem cTo_inv {op : Int} {S : Recs} (ho : InOrder S) : ∀ k, k ≤ S.length → CInv op (S.take k) (cTo op S k)
  | 0, _ => by
    have e : cTo op S 0 = [] := by simp [cTo]
    rw [e, List.take_zero]
    exact ⟨by simp [KeyUp], by simp, fun h => absurd rfl h, fun _ => rfl⟩
  | k + 1, hk => by
    have hlt : k < S.length := by omega
    have ih := cTo_inv (op := op) ho k (by omega)
    rw [cTo_succ op S k hlt, List.take_succ_eq_append_getElem hlt, at_get S k hlt]
    refine cinv_step ih ?_
    have e : S.take k ++ [(keyAt S k, numAt S k)] = S.take (k + 1) := by rw [List.take_succ_eq_append_getElem hlt, at_get S k hlt]
    rw [e]
    exact List.Pairwise.sublist (List.take_sublist _ _) ho

/-- What Combined holds of valid records: the keys grow, and each number is what comes of its key's. -/
theorem combW_holds {op : Int} {V : Recs} (h1 : opOkB op = true) (h2 : recsOkB V = true) : KeyUp (combW op V) ∧ ∀ r ∈ combW op V, resT op r.1 V = some r.2 := by
  have hs := sortedB_is h2
  rw [comb_of h1 hs rfl]
  have hi := cTo_inv (op := op) (sortL_order V) (sortL V).length (Nat.le_refl _)
  rw [List.take_length] at hi
  exact ⟨hi.up, fun r hr => by rw [res_perm (sortL_perm V).symm]; exact hi.res r hr⟩
end Go.Proofs.YtjofbeokkainlaaDoor
