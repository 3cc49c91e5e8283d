
/- A drawn op with drawn records; and Lifted of the model at nil. Only new blocks are made. -/
import Derived.Test.YtldjahemgkkpbaaDrawR
import Derived.Test.YtldjahemgkkpbaaDrawC
import Derived.Test.YtldjahemgkkpbaaLift
import Derived.Laws.AppendOwnNone
namespace Go.Proofs.Ytldjahemgkkpbaa
open Go.ChangeShapes Go.WideShapes Go.ChangeAt Go.RowKit
set_option linter.unusedVariables false
set_option maxRecDepth 100000

/-- Records that were drawn: short, readable, in a row of their own or nil. -/
structure DrawnL (w : World) (q : Option Addr) (n cp : Nat) (V : Recs) : Prop where
  recs : RecsAt w q n V
  few : n ≤ 601
  short : ∀ x ∈ V, x.1.size ≤ 41
  wf : ∀ x ∈ V, (Lit.int .i64 x.2).wf = true
  cap : n ≤ cp ∧ cp ≤ maxLen ∧ (q = none → cp = 0)
  form : q = none ∨ ∃ g, q = some ⟨g, 0, none⟩
theorem DrawnL.keep {w w1 : World} {q : Option Addr} {n cp : Nat} {V : Recs} (h : DrawnL w q n cp V) (hB : Below w.heap.size w w1) : DrawnL w1 q n cp V :=
  ⟨h.recs.keep hB, h.few, h.short, h.wf, h.cap, h.form⟩
theorem DrawnL.none {w : World} {q : Option Addr} {n cp : Nat} {V : Recs} (h : DrawnL w q n cp V) : q = none → n = 0 ∧ cp = 0 := by
  intro hq
  refine ⟨?_, h.cap.2.2 hq⟩
  rcases h.recs.src with h0 | ⟨b, off, e, _⟩
  · exact h0
  · rw [hq] at e; cases e
theorem own_some {w : World} {base : Nat} {e : TypeId} {size : Nat} {q : Option Addr} {n cp : Nat} {xs : List Value} (h : w.ownsRow base e size (.slice q n cp) n xs) : q = none ∨ ∃ g, q = some ⟨g, 0, none⟩ := by
  rcases h.2 with ⟨h1, h2⟩ | ⟨g, cap, cur, hv, _⟩
  · simp only [Value.slice.injEq] at h1; exact .inl h1.1
  · simp only [Value.slice.injEq] at hv; exact .inr ⟨g, hv.1⟩
def DrewLf (w : World) (e : Ending) (w' : World) : Prop :=
  ∃ (op : Int) (q : Option Addr) (n cp : Nat) (V : Recs), (Lit.int .i64 op).wf = true ∧ e = .returned (.tuple #[.int .i64 op, .slice q n cp]) ∧ DrawnL w' q n cp V ∧ Below w.heap.size w w'

set_option maxHeartbeats 1000000 in
theorem drawlf_any (w : World) (a : Option Addr) (len cap : Nat) (h : Src w a len) :
    Calls Try.prog 20 #[.slice a len cap] w (DrewLf w) := by
  have H := Lib.hid h
  clear h
  go_enter Try.func20, Try.ntmps20
  go_wp2_with fail
  refine (open_any _ _ _ _ H.out).mono ?_
  rintro e w1 ⟨rfl, hb, hr⟩
  have HB := Lib.hid hb
  have HR := Lib.hid hr
  clear hb hr
  go_wp2_with fail
  refine (rcombine_any _ _ _ _ _ HR.out).mono ?_
  rintro e w2 ⟨⟨op, hop, rfl⟩, hw⟩
  have HOP := Lib.hid hop
  have HR2 := Lib.hid (hw.rdr)
  have HB2 := Lib.hid (hw.under HB.out (Nat.le_refl _) HB.out.size)
  clear hw hop
  go_wp2_with fail
  refine (rrecs_any _ _ _ _ _ HR2.out).mono ?_
  rintro e w3 ⟨q, cp, V, rfl, h6, hd⟩
  have HB3 := Lib.hid (hd.went.under HB2.out (Nat.le_refl _) HB2.out.size)
  have HRE := Lib.hid (show RecsAt w3 q V.length V from recs_of_rs (rs_of_own hd.own) rfl (by unfold maxLen; omega) (fun i hi => by
    have := hd.short V[i] (List.getElem_mem hi)
    rw [at_get V i hi] at this
    unfold maxLen
    have h41 : (keyAt V i).size ≤ 41 := this
    omega))
  have HD := Lib.hid hd
  clear hd
  obtain ⟨n, hn⟩ : ∃ n, V.length = n := ⟨_, rfl⟩
  have HDL := Lib.hid (show DrawnL w3 q n cp V by
    rw [← hn]
    exact ⟨HRE.out, h6, HD.out.short, HD.out.wf, own_cap HD.out.own, own_some HD.out.own⟩)
  rw [hn]
  clear hn HD HRE h6
  go_wp2
  go_ret2
  exact ⟨op, q, n, cp, V, HOP.out, rfl, HDL.out, HB3.out⟩

theorem lift_nil (op : Int) : liftW op [] = [] := by unfold liftW; split <;> rfl

/-! The sum of the numbers. -/
def sumL : Recs → Int
  | [] => 0
  | r :: t => r.2 + sumL t
theorem sumL_append (a b : Recs) : sumL (a ++ b) = sumL a + sumL b := by
  induction a with
  | nil => simp [sumL]
  | cons x t ih => simp [sumL, ih]; omega
theorem sumL_pos (a : Recs) (h : ∀ x ∈ a, 0 ≤ x.2) : 0 ≤ sumL a := by
  induction a with
  | nil => simp [sumL]
  | cons x t ih =>
    have h1 := h x (by simp)
    have h2 := ih (fun y hy => h y (by simp [hy]))
    simp only [sumL]
    omega
theorem sumL_step (W : Recs) (k : Nat) (h : k < W.length) : sumL (W.take (k + 1)) = sumL (W.take k) + numAt W k := by
  rw [List.take_succ_eq_append_getElem h, sumL_append, at_get W k h]
  show _ + (numAt W k + 0) = _
  omega
theorem sumL_most (W : Recs) (k : Nat) (h : ∀ x ∈ W, 0 ≤ x.2) : 0 ≤ sumL (W.take k) ∧ sumL (W.take k) ≤ sumL W := by
  refine ⟨sumL_pos _ (fun x hx => h x (List.mem_of_mem_take hx)), ?_⟩
  have h1 := sumL_pos (W.drop k) (fun x hx => h x (List.mem_of_mem_drop hx))
  have h2 := sumL_append (W.take k) (W.drop k)
  rw [List.take_append_drop] at h2
  omega
end Go.Proofs.Ytldjahemgkkpbaa
