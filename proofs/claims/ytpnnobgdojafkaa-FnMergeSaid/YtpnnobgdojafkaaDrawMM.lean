
/- A drawn pair of runs. -/
import Derived.Test.YtpnnobgdojafkaaDrawR2
namespace Go.Proofs.Ytpnnobgdojafkaa
open Go.ChangeShapes Go.WideShapes Go.ChangeAt Go.RowKit
set_option linter.unusedVariables false
set_option maxRecDepth 100000

/-- A run that was drawn: short, readable, its room known. -/
structure Drawn (w : World) (q : Option Addr) (n cp : Nat) (V : Recs) : Prop where
  recs : RecsAt w q n V
  few : n ≤ 601
  short : ∀ x ∈ V, x.1.size ≤ 41
  wf : ∀ x ∈ V, (Lit.int .i64 x.2).wf = true
  cap : n ≤ cp ∧ cp ≤ maxLen ∧ (q = none → cp = 0)
theorem Drawn.keep {w w1 : World} {q : Option Addr} {n cp : Nat} {V : Recs} (h : Drawn w q n cp V) (hB : Below w.heap.size w w1) : Drawn w1 q n cp V :=
  ⟨h.recs.keep hB, h.few, h.short, h.wf, h.cap⟩
theorem Drawn.none {w : World} {q : Option Addr} {n cp : Nat} {V : Recs} (h : Drawn w q n cp V) : q = none → n = 0 ∧ cp = 0 := by
  intro hq
  refine ⟨?_, h.cap.2.2 hq⟩
  rcases h.recs.src with h0 | ⟨b, off, e, _⟩
  · exact h0
  · rw [hq] at e; cases e
def DrewTwo (w : World) (e : Ending) (w' : World) : Prop :=
  ∃ (q1 q2 : Option Addr) (n1 c1 n2 c2 : Nat) (V1 V2 : Recs), e = .returned (.tuple #[.slice q1 n1 c1, .slice q2 n2 c2]) ∧ Drawn w' q1 n1 c1 V1 ∧ Drawn w' q2 n2 c2 V2 ∧ Below w.heap.size w w'

set_option maxHeartbeats 1000000 in
theorem drawtwo_any (w : World) (a : Option Addr) (len cap : Nat) (h : Src w a len) :
    Calls Try.prog 31 #[.slice a len cap] w (DrewTwo w) := by
  have H := Lib.hid h
  clear h
  go_enter Try.func31, Try.ntmps31
  go_wp2_with fail
  refine (open_any _ _ _ _ H.out).mono ?_
  rintro e w1 ⟨rfl, hb, hr⟩
  have HB := Lib.hid hb
  have HR := Lib.hid hr
  clear hb hr
  obtain ⟨r, hrz⟩ : ∃ r, w.heap.size = r := ⟨_, rfl⟩
  have hrlt : r < w1.heap.size := hrz ▸ HR.out.lt
  have HZ := Lib.hid hrz
  clear hrz
  go_wp2_with fail
  refine (rrun_any _ _ _ _ _ HR.out).mono ?_
  rintro e w2 ⟨q1, c1, V1, rfl, h61, hs1, hre1, hw1, hwf1, hap1⟩
  obtain ⟨n1, hn1⟩ : ∃ n, V1.length = n := ⟨_, rfl⟩
  rw [hn1] at h61 hre1 hwf1 hap1 ⊢
  have HD1 := Lib.hid (show Drawn w2 q1 n1 c1 V1 from ⟨hre1, h61, hs1, hwf1.1, hwf1.2⟩)
  have HAP := Lib.hid hap1
  have HR2 := Lib.hid (hw1.rdr)
  have HB2 := Lib.hid (hw1.under HB.out (Nat.le_refl _) HB.out.size)
  clear hre1 h61 hs1 hwf1 hap1 hw1 hn1
  go_wp2_with fail
  refine (rrun_any _ _ _ _ _ HR2.out).mono ?_
  rintro e w3 ⟨q2, c2, V2, rfl, h62, hs2, hre2, hw2, hwf2, hap2⟩
  obtain ⟨n2, hn2⟩ : ∃ n, V2.length = n := ⟨_, rfl⟩
  rw [hn2] at h62 hre2 hwf2 hap2 ⊢
  have HD2 := Lib.hid (show Drawn w3 q2 n2 c2 V2 from ⟨hre2, h62, hs2, hwf2.1, hwf2.2⟩)
  have HD1 := Lib.hid (show Drawn w3 q1 n1 c1 V1 from ⟨HD1.out.recs.went hw2 (fun hp b off e => by have := HAP.out hp b off e; omega), HD1.out.few, HD1.out.short, HD1.out.wf, HD1.out.cap⟩)
  have HB3 := Lib.hid (hw2.under HB2.out (Nat.le_refl _) HB2.out.size)
  clear hre2 h62 hs2 hwf2 hap2 hw2 hn2
  go_wp2
  go_ret2
  exact ⟨q1, q2, n1, c1, n2, c2, V1, V2, rfl, HD1.out, HD2.out, HB3.out⟩
end Go.Proofs.Ytpnnobgdojafkaa
