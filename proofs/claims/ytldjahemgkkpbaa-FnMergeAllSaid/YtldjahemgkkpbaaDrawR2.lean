
/- A drawn run: at most 601 records whose keys have at most 41 bytes; only the reader's position and new blocks change. -/
import Derived.Test.YtldjahemgkkpbaaDrawR
import Derived.Test.YtldjahemgkkpbaaDraw1
namespace Go.Proofs.Ytldjahemgkkpbaa
open Go.ChangeShapes Go.WideShapes Go.ChangeAt Go.RowKit
set_option linter.unusedVariables false
set_option maxRecDepth 100000

theorem laid_setkey {cur : Array Value} {W : Recs} {n i : Nat} (s : ByteArray) (h : Laid cur W n) (hn : W.length = n) (hi : i < n) (hs : n * 2 ≤ cur.size) : Laid (cur.setIfInBounds (i * 2) (.string s)) (W.set i (s, numAt W i)) n := by
  intro j hj
  obtain ⟨e1, e2⟩ := h j hj
  have h1 : i * 2 < cur.size := by omega
  by_cases hji : j = i
  · subst hji
    have hg : (W.set j (s, numAt W j))[j]? = some (s, numAt W j) := by rw [List.getElem?_set]; simp [hn, hj]
    have k1 : keyAt (W.set j (s, numAt W j)) j = s := by unfold keyAt; rw [List.getD_eq_getElem?_getD, hg]; rfl
    have k2 : numAt (W.set j (s, numAt W j)) j = numAt W j := by
      show ((W.set j (s, numAt W j)).getD j _).2 = _
      rw [List.getD_eq_getElem?_getD, hg]; rfl
    rw [k1, k2]
    constructor
    · simp [h1]
    · rw [Array.getElem?_setIfInBounds_ne (by omega)]; exact e2
  · have hg : (W.set i (s, numAt W i))[j]? = W[j]? := by rw [List.getElem?_set]; simp [Ne.symm hji]
    have k1 : keyAt (W.set i (s, numAt W i)) j = keyAt W j := by unfold keyAt; rw [List.getD_eq_getElem?_getD, hg, ← List.getD_eq_getElem?_getD]
    have k2 : numAt (W.set i (s, numAt W i)) j = numAt W j := by
      show ((W.set i (s, numAt W i)).getD j _).2 = _
      rw [List.getD_eq_getElem?_getD, hg, ← List.getD_eq_getElem?_getD]; rfl
    rw [k1, k2]
    constructor
    · rw [Array.getElem?_setIfInBounds_ne (by omega)]; exact e1
    · rw [Array.getElem?_setIfInBounds_ne (by omega)]; exact e2

theorem DrawnR.recs {w wr : World} {r : Nat} {a : Option Addr} {len cap : Nat} {q : Option Addr} {cp : Nat} {W : Recs} (h : DrawnR w wr r a len cap (.slice q W.length cp) W) (h6 : W.length ≤ 601) : RecsAt wr q W.length W :=
  recs_of_rs (rs_of_own h.own) rfl (by unfold maxLen; omega) (fun i hi => by
    have := h.short W[i] (List.getElem_mem hi)
    rw [at_get W i hi] at this
    unfold maxLen
    have h41 : (keyAt W i).size ≤ 41 := this
    omega)

theorem rs_apart {base r : Nat} {w : World} {q : Option Addr} {W : Recs} (h : Rs base w q W) (hr : r < base) : 0 < W.length → ∀ b off, q = some ⟨b, off, none⟩ → r < b := by
  intro hn b off hq
  rcases h with h0 | ⟨g, cur, rfl, hb, _⟩
  · omega
  · simp only [Option.some.injEq, Addr.mk.injEq, and_true] at hq
    omega

/-- The end of a method that draws a run. -/
def RdRun (w : World) (r : Nat) (a : Option Addr) (len cap : Nat) (e : Ending) (w' : World) : Prop :=
  ∃ (q : Option Addr) (cp : Nat) (V : Recs), e = .returned (.slice q V.length cp) ∧ V.length ≤ 601 ∧ (∀ x ∈ V, x.1.size ≤ 41) ∧ RecsAt w' q V.length V ∧ Went w r a len cap w' ∧ ((∀ x ∈ V, (Lit.int .i64 x.2).wf = true) ∧ V.length ≤ cp ∧ cp ≤ maxLen ∧ (q = none → cp = 0)) ∧ (0 < V.length → ∀ b off, q = some ⟨b, off, none⟩ → r < b)

theorem sortedB_wf {W : Recs} (hs : ∀ x ∈ W, (Lit.int .i64 x.2).wf = true) : ∀ x ∈ sortedB W, (Lit.int .i64 x.2).wf = true := by
  unfold sortedB
  split
  · exact fun x hx => hs x ((sortL_perm W).mem_iff.1 hx)
  · exact fun x hx => by simp at hx
theorem sortedB_short {W : Recs} (h6 : W.length ≤ 601) (hs : ∀ x ∈ W, x.1.size ≤ 41) : (sortedB W).length ≤ 601 ∧ ∀ x ∈ sortedB W, x.1.size ≤ 41 := by
  unfold sortedB
  split
  · refine ⟨by rw [(sortL_perm W).length_eq]; exact h6, fun x hx => hs x ((sortL_perm W).mem_iff.1 hx)⟩
  · exact ⟨Nat.zero_le _, fun x hx => by simp at hx⟩

set_option maxHeartbeats 4000000 in
theorem rrun_any (w : World) (r : Nat) (a : Option Addr) (len cap : Nat) (h : Rdr w r a len cap) :
    Calls Try.prog 33 #[.pointer (some ⟨r, 0, none⟩)] w (RdRun w r a len cap) := by
  have HRL := Lib.hid h.lt
  have H0 := Lib.hid h
  clear h
  go_enter Try.func33, Try.ntmps33
  go_wp2_with fail
  refine (rrecs_any _ _ _ _ _ H0.out).mono ?_
  rintro e w1 ⟨q, cp, W, rfl, h6, hD⟩
  obtain ⟨n, hn⟩ : ∃ n, W.length = n := ⟨_, rfl⟩
  rw [hn] at h6 hD ⊢
  have HD := Lib.hid hD
  have HN := Lib.hid hn
  clear hD hn H0
  go_wp2_with fail
  go_loopw [4] (fun i wr => ∃ (k : Nat) (V : Recs), i = .int .i64 k ∧ k ≤ n ∧ Hid (V.length = n ∧ DrawnR w wr r a len cap (.slice q n cp) V)) (fun i _ => n - (intOf i).toNat)
  case atStart => exact ⟨0, W, rfl, Nat.zero_le _, HN.out, HD.out⟩
  case round =>
    obtain ⟨k, V, rfl, hk, HS⟩ := hrel
    clear HD
    by_cases hlt : k < n
    · obtain ⟨g, cur, rfl, hbg, hrow, hcm, hcp, hcs, hlaid⟩ : ∃ g cur, q = some ⟨g, 0, none⟩ ∧ w.heap.size ≤ g ∧ Row wr g 30 cur ∧ cp ≤ maxLen ∧ n ≤ cp ∧ cur.size = cp * 2 ∧ Laid cur V n := by
        have ho := HS.out.2.own
        rcases ho.2 with ⟨h1, h2⟩ | ⟨g, cap1, cur, hv, hb, hh, h1, h2, h3, h4⟩
        · simp only [Value.slice.injEq] at h1; omega
        · simp only [Value.slice.injEq] at hv
          obtain ⟨rfl, _, rfl⟩ := hv
          rw [HS.out.1] at h1 h4
          exact ⟨g, cur, rfl, hb, hh, h2, h1, h3, laid_of_take HS.out.1 h4⟩
      have c0 := row_cell hrow (hlaid k hlt).1
      have hks : (keyAt V k).size ≤ 41 := by
        have := HS.out.2.short (V[k]'(by rw [HS.out.1]; exact hlt)) (List.getElem_mem (by rw [HS.out.1]; exact hlt))
        rw [at_get V k (by rw [HS.out.1]; exact hlt)] at this
        exact this
      have HROW := Lib.hid hrow
      have HBG := Lib.hid hbg
      have HLA := Lib.hid hlaid
      have HCS := Lib.hid hcs
      have HCM := Lib.hid hcm
      have hcm2 : cp ≤ 9223372036854775807 := hcm
      have hi0 : (0 : Int) ≤ (k : Int) := by omega
      have hi1 : (k : Int) < (n : Int) := by omega
      clear hrow hbg hlaid hcs hcm
      by_cases h40 : 40 < (keyAt V k).size
      · have hd : (40 : Int) < ((keyAt V k).size : Int) := by omega
        go_wp2_with fail
        refine (once_any _ _ _ _ _ _ HS.out.2.went.rdr (by decide) (by decide)).mono ?_
        rintro e w2 ⟨⟨y, rfl⟩, hw⟩
        have hgr : r ≠ g := by have := HRL.out; have := HBG.out; omega
        have hrow2 := HROW.out.grown hw.grown (by simpa using hgr)
        have HROW2 := Lib.hid hrow2
        have HW2 := Lib.hid (HS.out.2.went.trans hw)
        have HD2 := Lib.hid (HS.out.2.trans HRL.out hw)
        obtain ⟨x0, c2⟩ := row_some (j := k * 2) hrow2 (by have := HCS.out; omega)
        have z0 := hrow2.free (k * 2)
        have hnew : DrawnR w (w2.setCell ⟨g, k * 2, none⟩ (.string ⟨#[107]⟩)) r a len cap (.slice (some ⟨g, 0, none⟩) n cp) (V.set k (⟨#[107]⟩, numAt V k)) := by
          refine ⟨?_, HW2.out.put HBG.out (Nat.lt_of_lt_of_le HRL.out HBG.out) _ _, fun x hx => ?_, fun x hx => ?_⟩
          · rw [List.length_set, HS.out.1]
            exact own_of_laid (hrow2.set _ _) HBG.out (by rw [List.length_set, HS.out.1]) hcp HCM.out (by simpa using HCS.out) (laid_setkey _ HLA.out HS.out.1 hlt (by have := HCS.out; omega))
          · rcases List.mem_or_eq_of_mem_set hx with hx | rfl
            · exact HS.out.2.short x hx
            · exact (by decide : (ByteArray.mk #[107]).size ≤ 41)
          · rcases List.mem_or_eq_of_mem_set hx with hx | rfl
            · exact HS.out.2.wf x hx
            · have hkl : k < V.length := by rw [HS.out.1]; exact hlt
              have := HS.out.2.wf V[k] (List.getElem_mem hkl)
              rw [at_get V k hkl] at this
              exact this
        have HNEW := Lib.hid hnew
        clear hw hrow2 hnew c0
        cases y with
        | true =>
          go_wp2
          go_roundw
          case rel => exact ⟨k + 1, V, by go_num, by omega, HS.out.1, HD2.out⟩
          case measure => simp [intOf]; omega
        | false =>
          go_wp2
          go_roundw
          case rel => exact ⟨k + 1, _, by go_num, by omega, by rw [List.length_set]; exact HS.out.1, HNEW.out⟩
          case measure => simp [intOf]; omega
      · have hd : ¬ (40 : Int) < ((keyAt V k).size : Int) := by omega
        go_wp2
        go_roundw
        case rel => exact ⟨k + 1, V, by go_num, by omega, HS.out.1, HS.out.2⟩
        case measure => simp [intOf]; omega
    · obtain rfl : k = n := by omega
      go_wp2_with fail
      refine (once_any _ _ _ _ _ _ HS.out.2.went.rdr (by decide) (by decide)).mono ?_
      rintro e w2 ⟨⟨y, rfl⟩, hw⟩
      have HD2 := Lib.hid (show V.length = k ∧ DrawnR w w2 r a len cap (.slice q V.length cp) V from ⟨HS.out.1, by rw [HS.out.1]; exact HS.out.2.trans HRL.out hw⟩)
      have HRE := Lib.hid (show RecsAt w2 q k V from by have := HD2.out.2.recs (by rw [HS.out.1]; exact h6); rw [HS.out.1] at this; exact this)
      clear hw
      cases y with
      | true =>
        go_wp2
        go_ret
        exact ⟨q, cp, V, by rw [HS.out.1]; rfl, by rw [HS.out.1]; exact h6, HD2.out.2.short, by rw [HS.out.1]; exact HRE.out, HD2.out.2.went, ⟨HD2.out.2.wf, (own_cap HD2.out.2.own).1, (own_cap HD2.out.2.own).2⟩, rs_apart (rs_of_own HD2.out.2.own) HRL.out⟩
      | false =>
        have HSS := Lib.hid (sortedB_short (W := V) (by rw [HS.out.1]; exact h6) HD2.out.2.short)
        go_wp2_with fail
        refine (ssorted_any _ _ _ _ _ HRE.out).mono ?_
        rintro e w3 ⟨q1, cp1, rfl, hrs, hB, hcp1, hcp2⟩
        have HW3 := Lib.hid (HD2.out.2.went.on hB)
        have HR3 := Lib.hid (recs_of_rs hrs rfl (by have := HSS.out.1; unfold maxLen; omega) (fun i hi => by
          have := HSS.out.2 _ (List.getElem_mem hi)
          rw [at_get _ i hi] at this
          have h41 : (keyAt (sortedB V) i).size ≤ 41 := this
          unfold maxLen; omega))
        have HWF := Lib.hid (And.intro (sortedB_wf HD2.out.2.wf) (And.intro hcp1 hcp2))
        have HAP := Lib.hid (rs_apart hrs (Nat.lt_of_lt_of_le HRL.out HD2.out.2.went.size))
        clear hrs hB hcp1 hcp2
        generalize sortedB V = S at HSS HR3 HAP HWF
        go_wp2
        go_ret
        exact ⟨q1, cp1, S, rfl, HSS.out.1, HSS.out.2, HR3.out, HW3.out, HWF.out, HAP.out⟩

/-- What is drawn: a run, mostly. -/
def DrewRun (w : World) (e : Ending) (w' : World) : Prop := ∃ (q : Option Addr) (cp : Nat) (V : Recs), e = .returned (.slice q V.length cp) ∧ V.length ≤ 601 ∧ (∀ x ∈ V, x.1.size ≤ 41) ∧ RecsAt w' q V.length V ∧ Below w.heap.size w w' ∧ (∀ x ∈ V, (Lit.int .i64 x.2).wf = true) ∧ V.length ≤ cp ∧ cp ≤ maxLen ∧ (q = none → cp = 0)

/-- What is drawn for FindRec: a run, mostly, and a short key. -/
def DrewFind (w : World) (e : Ending) (w' : World) : Prop := ∃ (q : Option Addr) (cp : Nat) (V : Recs) (s : ByteArray), e = .returned (.tuple #[.slice q V.length cp, .string s]) ∧ s.size ≤ 5 ∧ V.length ≤ 601 ∧ (∀ x ∈ V, x.1.size ≤ 41) ∧ RecsAt w' q V.length V ∧ Below w.heap.size w w'

theorem RecsAt.went {w w1 : World} {a : Option Addr} {n : Nat} {l : Recs} {r : Nat} {sa : Option Addr} {len cap : Nat} (h : RecsAt w a n l) (hw : Went w r sa len cap w1) (hne : 0 < n → ∀ b off, a = some ⟨b, off, none⟩ → r < b) : RecsAt w1 a n l := by
  refine ⟨h.length, h.max, h.keys, ?_⟩
  rcases h.src with h0 | ⟨b, off, ha, hb, hc⟩
  · exact .inl h0
  · by_cases h0 : n = 0
    · exact .inl h0
    · refine .inr ⟨b, off, ha, Nat.lt_of_lt_of_le hb hw.size, fun i hi => ?_⟩
      obtain ⟨c0, c1⟩ := hc i hi
      have hbr : b ≠ r := Nat.ne_of_gt (hne (by omega) b off ha)
      exact ⟨hw.cell c0 hbr, hw.cell c1 hbr⟩

end Go.Proofs.Ytldjahemgkkpbaa
