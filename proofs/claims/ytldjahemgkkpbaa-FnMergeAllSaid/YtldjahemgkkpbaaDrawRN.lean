
/- A drawn run lies in a block that was made while it was drawn. -/
import Derived.Test.YtldjahemgkkpbaaDrawR2
namespace Go.Proofs.Ytldjahemgkkpbaa
open Go.ChangeShapes Go.WideShapes Go.ChangeAt Go.RowKit
set_option linter.unusedVariables false
set_option maxRecDepth 100000

/-- The end of a method that draws a run, its block known to be new. -/
def RdRunN (w : World) (r : Nat) (a : Option Addr) (len cap : Nat) (e : Ending) (w' : World) : Prop :=
  ∃ (q : Option Addr) (cp : Nat) (V : Recs), e = .returned (.slice q V.length cp) ∧ V.length ≤ 601 ∧ (∀ x ∈ V, x.1.size ≤ 41) ∧ RecsAt w' q V.length V ∧ Went w r a len cap w' ∧ ((∀ x ∈ V, (Lit.int .i64 x.2).wf = true) ∧ V.length ≤ cp ∧ cp ≤ maxLen ∧ (q = none → cp = 0)) ∧ (0 < V.length → ∀ b off, q = some ⟨b, off, none⟩ → w.heap.size ≤ b)

set_option maxHeartbeats 4000000 in
theorem rrunN_any (w : World) (r : Nat) (a : Option Addr) (len cap : Nat) (h : Rdr w r a len cap) :
    Calls Try.prog 33 #[.pointer (some ⟨r, 0, none⟩)] w (RdRunN w r a len cap) := by
  have HRL := Lib.hid h.lt
  have H0 := Lib.hid h
  clear h
  go_enter Try.func33, Try.ntmps33
  go_wp2_with fail
  refine (rrecs_any _ _ _ _ _ H0.out).mono ?_
  rintro e w1 ⟨q, cp, W, rfl, h6, hD⟩
  obtain ⟨n, hn⟩ : ∃ n, W.length = n := ⟨_, rfl⟩
  rw [hn] at h6 hD ⊢
  have HD := Lib.hid hD
  have HN := Lib.hid hn
  clear hD hn H0
  go_wp2_with fail
  go_loopw [4] (fun i wr => ∃ (k : Nat) (V : Recs), i = .int .i64 k ∧ k ≤ n ∧ Hid (V.length = n ∧ DrawnR w wr r a len cap (.slice q n cp) V)) (fun i _ => n - (intOf i).toNat)
  case atStart => exact ⟨0, W, rfl, Nat.zero_le _, HN.out, HD.out⟩
  case round =>
    obtain ⟨k, V, rfl, hk, HS⟩ := hrel
    clear HD
    by_cases hlt : k < n
    · obtain ⟨g, cur, rfl, hbg, hrow, hcm, hcp, hcs, hlaid⟩ : ∃ g cur, q = some ⟨g, 0, none⟩ ∧ w.heap.size ≤ g ∧ Row wr g 30 cur ∧ cp ≤ maxLen ∧ n ≤ cp ∧ cur.size = cp * 2 ∧ Laid cur V n := by
        have ho := HS.out.2.own
        rcases ho.2 with ⟨h1, h2⟩ | ⟨g, cap1, cur, hv, hb, hh, h1, h2, h3, h4⟩
        · simp only [Value.slice.injEq] at h1; omega
        · simp only [Value.slice.injEq] at hv
          obtain ⟨rfl, _, rfl⟩ := hv
          rw [HS.out.1] at h1 h4
          exact ⟨g, cur, rfl, hb, hh, h2, h1, h3, laid_of_take HS.out.1 h4⟩
      have c0 := row_cell hrow (hlaid k hlt).1
      have hks : (keyAt V k).size ≤ 41 := by
        have := HS.out.2.short (V[k]'(by rw [HS.out.1]; exact hlt)) (List.getElem_mem (by rw [HS.out.1]; exact hlt))
        rw [at_get V k (by rw [HS.out.1]; exact hlt)] at this
        exact this
      have HROW := Lib.hid hrow
      have HBG := Lib.hid hbg
      have HLA := Lib.hid hlaid
      have HCS := Lib.hid hcs
      have HCM := Lib.hid hcm
      have hcm2 : cp ≤ 9223372036854775807 := hcm
      have hi0 : (0 : Int) ≤ (k : Int) := by omega
      have hi1 : (k : Int) < (n : Int) := by omega
      clear hrow hbg hlaid hcs hcm
      by_cases h40 : 40 < (keyAt V k).size
      · have hd : (40 : Int) < ((keyAt V k).size : Int) := by omega
        go_wp2_with fail
        refine (once_any _ _ _ _ _ _ HS.out.2.went.rdr (by decide) (by decide)).mono ?_
        rintro e w2 ⟨⟨y, rfl⟩, hw⟩
        have hgr : r ≠ g := by have := HRL.out; have := HBG.out; omega
        have hrow2 := HROW.out.grown hw.grown (by simpa using hgr)
        have HROW2 := Lib.hid hrow2
        have HW2 := Lib.hid (HS.out.2.went.trans hw)
        have HD2 := Lib.hid (HS.out.2.trans HRL.out hw)
        obtain ⟨x0, c2⟩ := row_some (j := k * 2) hrow2 (by have := HCS.out; omega)
        have z0 := hrow2.free (k * 2)
        have hnew : DrawnR w (w2.setCell ⟨g, k * 2, none⟩ (.string ⟨#[107]⟩)) r a len cap (.slice (some ⟨g, 0, none⟩) n cp) (V.set k (⟨#[107]⟩, numAt V k)) := by
          refine ⟨?_, HW2.out.put HBG.out (Nat.lt_of_lt_of_le HRL.out HBG.out) _ _, fun x hx => ?_, fun x hx => ?_⟩
          · rw [List.length_set, HS.out.1]
            exact own_of_laid (hrow2.set _ _) HBG.out (by rw [List.length_set, HS.out.1]) hcp HCM.out (by simpa using HCS.out) (laid_setkey _ HLA.out HS.out.1 hlt (by have := HCS.out; omega))
          · rcases List.mem_or_eq_of_mem_set hx with hx | rfl
            · exact HS.out.2.short x hx
            · exact (by decide : (ByteArray.mk #[107]).size ≤ 41)
          · rcases List.mem_or_eq_of_mem_set hx with hx | rfl
            · exact HS.out.2.wf x hx
            · have hkl : k < V.length := by rw [HS.out.1]; exact hlt
              have := HS.out.2.wf V[k] (List.getElem_mem hkl)
              rw [at_get V k hkl] at this
              exact this
        have HNEW := Lib.hid hnew
        clear hw hrow2 hnew c0
        cases y with
        | true =>
          go_wp2
          go_roundw
          case rel => exact ⟨k + 1, V, by go_num, by omega, HS.out.1, HD2.out⟩
          case measure => simp [intOf]; omega
        | false =>
          go_wp2
          go_roundw
          case rel => exact ⟨k + 1, _, by go_num, by omega, by rw [List.length_set]; exact HS.out.1, HNEW.out⟩
          case measure => simp [intOf]; omega
      · have hd : ¬ (40 : Int) < ((keyAt V k).size : Int) := by omega
        go_wp2
        go_roundw
        case rel => exact ⟨k + 1, V, by go_num, by omega, HS.out.1, HS.out.2⟩
        case measure => simp [intOf]; omega
    · obtain rfl : k = n := by omega
      go_wp2_with fail
      refine (once_any _ _ _ _ _ _ HS.out.2.went.rdr (by decide) (by decide)).mono ?_
      rintro e w2 ⟨⟨y, rfl⟩, hw⟩
      have HD2 := Lib.hid (show V.length = k ∧ DrawnR w w2 r a len cap (.slice q V.length cp) V from ⟨HS.out.1, by rw [HS.out.1]; exact HS.out.2.trans HRL.out hw⟩)
      have HRE := Lib.hid (show RecsAt w2 q k V from by have := HD2.out.2.recs (by rw [HS.out.1]; exact h6); rw [HS.out.1] at this; exact this)
      clear hw
      cases y with
      | true =>
        go_wp2
        go_ret
        exact ⟨q, cp, V, by rw [HS.out.1]; rfl, by rw [HS.out.1]; exact h6, HD2.out.2.short, by rw [HS.out.1]; exact HRE.out, HD2.out.2.went, ⟨HD2.out.2.wf, (own_cap HD2.out.2.own).1, (own_cap HD2.out.2.own).2⟩, fun h0 b off e => by have := rs_apart (rs_of_own HD2.out.2.own) (show w.heap.size - 1 < w.heap.size by have := HRL.out; omega) h0 b off e; omega⟩
      | false =>
        have HSS := Lib.hid (sortedB_short (W := V) (by rw [HS.out.1]; exact h6) HD2.out.2.short)
        go_wp2_with fail
        refine (ssorted_any _ _ _ _ _ HRE.out).mono ?_
        rintro e w3 ⟨q1, cp1, rfl, hrs, hB, hcp1, hcp2⟩
        have HW3 := Lib.hid (HD2.out.2.went.on hB)
        have HR3 := Lib.hid (recs_of_rs hrs rfl (by have := HSS.out.1; unfold maxLen; omega) (fun i hi => by
          have := HSS.out.2 _ (List.getElem_mem hi)
          rw [at_get _ i hi] at this
          have h41 : (keyAt (sortedB V) i).size ≤ 41 := this
          unfold maxLen; omega))
        have HWF := Lib.hid (And.intro (sortedB_wf HD2.out.2.wf) (And.intro hcp1 hcp2))
        have HAP := Lib.hid (show 0 < (sortedB V).length → ∀ b off, q1 = some ⟨b, off, none⟩ → w.heap.size ≤ b from fun h0 b off e => by have := rs_apart hrs (show w.heap.size - 1 < w2.heap.size by have := HRL.out; have := HD2.out.2.went.size; omega) h0 b off e; omega)
        clear hrs hB hcp1 hcp2
        generalize sortedB V = S at HSS HR3 HAP HWF
        go_wp2
        go_ret
        exact ⟨q1, cp1, S, rfl, HSS.out.1, HSS.out.2, HR3.out, HW3.out, HWF.out, HAP.out⟩

end Go.Proofs.Ytldjahemgkkpbaa
