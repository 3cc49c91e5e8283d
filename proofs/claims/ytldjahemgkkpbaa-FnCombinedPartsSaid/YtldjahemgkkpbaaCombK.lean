
/- The keys of combined records are those of the sorted ones; DrawCombined walked. -/
import Derived.Test.YtldjahemgkkpbaaCombM
import Derived.Test.YtldjahemgkkpbaaSortedL
import Derived.Test.YtldjahemgkkpbaaMergeS
import Derived.Test.YtldjahemgkkpbaaKeysW
import Derived.Test.YtldjahemgkkpbaaSame
namespace Go.Proofs.Ytldjahemgkkpbaa
open Go.ChangeShapes Go.WideShapes Go.ChangeAt Go.RowKit
set_option linter.unusedVariables false
set_option maxRecDepth 100000

theorem keys_of_up {W : Recs} (h : KeyUp W) : ∀ k, k ≤ W.length → keysTo W k = (W.take k).map Prod.fst
  | 0, _ => by simp [keysTo]
  | k + 1, hk => by
    have hlt : k < W.length := by omega
    have ih := keys_of_up h k (by omega)
    have hnew : newKey W k = true := by
      unfold newKey
      by_cases h0 : k = 0
      · simp [h0]
      · have hp := (List.pairwise_iff_getElem.1 h) (k - 1) k (by omega) hlt (by omega)
        rw [at_get W (k - 1) (by omega), at_get W k hlt] at hp
        have hp' : (keyAt W (k - 1)).toList < (keyAt W k).toList := hp
        have hne : (keyAt W k).toList ≠ (keyAt W (k - 1)).toList := fun e => by rw [e] at hp'; exact absurd hp' (List.lt_irrefl _)
        rw [decide_eq_false h0, Bool.false_or, Bool.not_eq_true']
        simpa using hne
    rw [keysTo_yes hnew, ih, List.take_succ_eq_append_getElem hlt, at_get W k hlt]
    simp
theorem keys_cTo {op : Int} {S : Recs} (ho : InOrder S) : ∀ k, k ≤ S.length → keysTo S k = (cTo op S k).map Prod.fst
  | 0, _ => by simp [keysTo, cTo]
  | k + 1, hk => by
    have hlt : k < S.length := by omega
    have ih := keys_cTo (op := op) ho k (by omega)
    have inv := cTo_inv (op := op) ho k (by omega)
    rw [cTo_succ op S k hlt]
    by_cases h0 : k = 0
    · subst h0
      have e : cTo op S 0 = [] := by simp [cTo]
      have hj : joinsB [] (keyAt S 0, numAt S 0) = false := by simp [joinsB]
      rw [keysTo_yes (by simp [newKey]), e, cStep_new hj]
      simp [keysTo]
    · have hT : S.take k ≠ [] := fun e => h0 (by
        have := congrArg List.length e
        rw [List.length_take, List.length_nil] at this
        omega)
      obtain ⟨A, x, B, y, hW, hB, hxy⟩ := inv.last hT
      have hy : y = (keyAt S (k - 1), numAt S (k - 1)) := by
        have e := List.take_succ_eq_append_getElem (l := S) (i := k - 1) (by omega)
        rw [show k - 1 + 1 = k by omega, hB, at_get S (k - 1) (by omega)] at e
        have := (List.append_inj' e rfl).2
        simpa using this
      have hx1 : x.1 = keyAt S (k - 1) := by rw [hxy, hy]
      rw [hW] at ih ⊢
      have hlen : (A ++ [x]).length = A.length + 1 := by simp
      have hkx : keyAt (A ++ [x]) A.length = x.1 := by
        have := at_get (A ++ [x]) A.length (by simp)
        have e : x = (keyAt (A ++ [x]) A.length, numAt (A ++ [x]) A.length) := by simpa using this
        exact (congrArg Prod.fst e).symm
      have hjo : joinsB (A ++ [x]) (keyAt S k, numAt S k) = sameKey x.1 (keyAt S k) := by
        unfold joinsB
        rw [hlen, Nat.add_sub_cancel, hkx]
        simp
      cases hj : sameKey x.1 (keyAt S k) with
      | true =>
        rw [hj] at hjo
        have he := same_yes hj
        rw [keysTo_no (by unfold newKey; rw [decide_eq_false h0, ← he, hx1]; simp), ih, cStep_join hjo hlen, hkx]
        simp
      | false =>
        rw [hj] at hjo
        have hne : (keyAt S k).toList ≠ (keyAt S (k - 1)).toList := fun e => by
          unfold sameKey at hj
          rw [hx1, e] at hj
          simp at hj
        rw [keysTo_yes (by unfold newKey; rw [decide_eq_false h0, Bool.false_or, Bool.not_eq_true']; simpa using hne), ih, cStep_new hjo]
        simp
theorem keysB_comb {op : Int} {V : Recs} (h1 : opOkB op = true) (h2 : recsOkB V = true) : keysB (combW op V) = keysB (sortedB V) := by
  obtain ⟨hup, _⟩ := combW_holds h1 h2
  have hfew := combW_few op V
  have hrc : runOkB (combW op V) = true := by
    refine (runOk_iff _).2 ⟨recsOk_mem (fun r hr => ?_) hfew.1, List.Pairwise.imp (fun h => (leR_iff' _ _).2 (.inl h)) hup⟩
    obtain ⟨i, hi, e⟩ := List.mem_iff_getElem.1 hr
    have := hfew.2 i hi
    rw [at_get _ i hi] at e
    rw [← e]
    exact this
  have hs := sortedB_is h2
  have hlen : (sortL V).length = V.length := (sortL_perm V).length_eq
  have hf := sortedB_facts hs rfl hlen
  rw [hs]
  unfold keysB
  rw [if_pos hrc, if_pos hf.2.1, keys_of_up hup _ (Nat.le_refl _), List.take_length, keys_cTo (op := op) (sortL_order V) _ (Nat.le_refl _), comb_of h1 hs rfl]

theorem res_take {op : Int} {key : ByteArray} {V : Recs} {j : Nat} (h : j < V.length) : resT op key (V.take (j + 1)) = if sameKey (keyAt V j) key then fO op (resT op key (V.take j)) (numAt V j) else resT op key (V.take j) := by
  rw [List.take_succ_eq_append_getElem h, at_get V j h, res_snoc]

structure FC (w : World) (q qc : Option Addr) (n nc cp : Nat) (V C : Recs) (wr : World) : Prop where
  below : Below w.heap.size w wr
  l : DrawnL wr q n cp V
  c : RecsAt wr qc nc C
theorem FC.keep {w : World} {q qc : Option Addr} {n nc cp : Nat} {V C : Recs} {wr w1 : World} (h : FC w q qc n nc cp V C wr) (hB : Below wr.heap.size wr w1) : FC w q qc n nc cp V C w1 :=
  ⟨below_via h.below hB, h.l.keep hB, h.c.keep hB⟩

set_option maxHeartbeats 1000000 in
theorem drawcd_any (w : World) (a : Option Addr) (len cap : Nat) (h : Src w a len) :
    Calls Try.prog 7 #[.slice a len cap] w (DrewLf w) := by
  have H := Lib.hid h
  clear h
  go_enter Try.func7, Try.ntmps7
  go_wp2_with fail
  refine (drawlf_any _ _ _ _ H.out).mono ?_
  rintro e w1 ⟨op, q, n, cp, V, hop, rfl, hd, hB⟩
  have HD := Lib.hid hd
  have HB := Lib.hid hB
  have HOP := Lib.hid hop
  clear hd hB hop
  go_wp2
  go_ret2
  exact ⟨op, q, n, cp, V, HOP.out, rfl, HD.out, HB.out⟩

end Go.Proofs.Ytldjahemgkkpbaa
