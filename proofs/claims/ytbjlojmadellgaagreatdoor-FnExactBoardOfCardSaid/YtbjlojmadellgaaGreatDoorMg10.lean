/- Texts put together, as a claim holds at most sixty files. -/
import Derived.Test.YtbjlojmadellgaaGreatDoorMg3
import Derived.Test.YtbjlojmadellgaaGreatDoorMg9
import Derived.Lib.Join
import Derived.Test.YtbjlojmadellgaaGreatDoorMg1
import Derived.Test.YtbjlojmadellgaaGreatDoorMg0
namespace Go.Proofs.YtbjlojmadellgaaGreatDoor
open Go.ChangeShapes Go.WideShapes Go.ChangeAt Go.RowKit
set_option linter.unusedVariables false
set_option maxRecDepth 100000

def insTx (op n : Int) (s : ByteArray) : ByteArray :=
  if op = 1 then ⟨#[102]⟩ ++ decB n else if op = 2 then ⟨#[116, 58]⟩ ++ s else if op = 3 then ⟨#[110]⟩ ++ decB n else textB op.toNat
def txAt (l : Instrs) (i : Nat) : ByteArray := insTx (ins0 l i) (ins1 l i) (ins2 l i)
def progTo (l : Instrs) : Nat → ByteArray
  | 0 => ByteArray.empty
  | k + 1 => (if 0 < k then progTo l k ++ ⟨#[32]⟩ else progTo l k) ++ txAt l k
def progTx (l : Instrs) : ByteArray := if progB l then progTo l l.length else ByteArray.empty
def txsOf (l : Instrs) (n : Nat) : List ByteArray := (List.range n).map (txAt l)

theorem join_snoc (xs : List (List UInt8)) (x sep : List UInt8) (h : xs ≠ []) : Lib.join (xs ++ [x]) sep = Lib.join xs sep ++ sep ++ x := by
  cases xs with
  | nil => exact absurd rfl h
  | cons a r =>
    rw [List.cons_append, Lib.join_cons, Lib.join_cons]
    simp [Lib.joinTail]
theorem join_prog (l : Instrs) : ∀ n, Lib.join ((txsOf l n).map (·.data.toList)) [32] = (progTo l n).data.toList
  | 0 => rfl
  | n + 1 => by
    have e : (txsOf l (n + 1)).map (·.data.toList) = (txsOf l n).map (·.data.toList) ++ [(txAt l n).data.toList] := by
      simp [txsOf, List.range_succ]
    rw [e]
    by_cases hn : n = 0
    · subst hn
      simp [txsOf, Lib.join_one, progTo]
    · have hne : (txsOf l n).map (·.data.toList) ≠ [] := by
        intro h
        have := congrArg List.length h
        simp [txsOf] at this
        exact hn this
      rw [join_snoc _ _ _ hne, join_prog l n]
      show _ = ((if 0 < n then progTo l n ++ ⟨#[32]⟩ else progTo l n) ++ txAt l n).data.toList
      rw [if_pos (by omega)]
      simp
theorem prog_ins {l : Instrs} (h : progB l = true) {k : Nat} (hk : k < l.length) : instrB (ins0 l k) (ins1 l k) (ins2 l k) = true := by
  cases hi : instrB (ins0 l k) (ins1 l k) (ins2 l k) with
  | true => rfl
  | false =>
    have := prog_bad (k := k + 1) (by omega) (stk_wrong hi)
    rw [h] at this
    cases this
theorem prog_few {l : Instrs} (h : progB l = true) : l.length ≤ 30 := by
  by_cases h30 : l.length ≤ 30
  · exact h30
  · rw [prog_long h30] at h; cases h
theorem pushB_size {s : ByteArray} (h : pushB s = true) : s.size ≤ 20 := by
  unfold pushB at h
  simp only [Bool.and_eq_true, decide_eq_true_eq] at h
  omega
theorem text_few (x : Nat) : (textB x).size ≤ 6 := by
  unfold textB
  split <;> decide
theorem ins_ways {op n : Int} {s : ByteArray} (h : instrB op n s = true) :
    (op = 1 ∧ s.size = 0) ∨ (op = 2 ∧ s.size ≤ 20) ∨ (op = 3 ∧ s.size = 0) ∨ ∃ x : Nat, op = (x : Int) + 4 ∧ x < 11 ∧ s.size = 0 := by
  unfold instrB at h
  split at h
  · simp only [Bool.and_eq_true, decide_eq_true_eq] at h; exact .inl ⟨by assumption, h.2⟩
  · split at h
    · simp only [Bool.and_eq_true, decide_eq_true_eq] at h; exact .inr (.inl ⟨by assumption, pushB_size h.2⟩)
    · split at h
      · simp only [decide_eq_true_eq] at h; exact .inr (.inr (.inl ⟨by assumption, h⟩))
      · simp only [Bool.and_eq_true, decide_eq_true_eq] at h
        exact .inr (.inr (.inr ⟨(op - 4).toNat, by omega, by omega, h.2.2⟩))
theorem insTx_size {op n : Int} {s : ByteArray} (h : instrB op n s = true) (hn : In64 n) : (insTx op n s).size ≤ 22 := by
  have hd : (decB n).size ≤ 20 := decB_size hn.1 (by have := hn.2; omega)
  unfold insTx
  rcases ins_ways h with ⟨rfl, h0⟩ | ⟨rfl, h0⟩ | ⟨rfl, h0⟩ | ⟨x, rfl, hx, h0⟩
  · rw [if_pos rfl, ByteArray.size_append]; show 1 + _ ≤ _; omega
  · rw [if_neg (by decide), if_pos rfl, ByteArray.size_append]; show 2 + _ ≤ _; omega
  · rw [if_neg (by decide), if_neg (by decide), if_pos rfl, ByteArray.size_append]; show 1 + _ ≤ _; omega
  · rw [if_neg (by omega), if_neg (by omega), if_neg (by omega)]
    have := text_few ((x : Int) + 4).toNat
    omega
theorem progTo_size {l : Instrs} (h : progB l = true) (hn : ∀ i, i < l.length → In64 (ins1 l i)) : ∀ k, k ≤ l.length → (progTo l k).size ≤ 23 * k
  | 0, _ => by show (0 : Nat) ≤ _; omega
  | k + 1, hk => by
    have h1 := progTo_size h hn k (by omega)
    have h2 := insTx_size (prog_ins h (show k < l.length by omega)) (hn k (by omega))
    show ((if 0 < k then progTo l k ++ ⟨#[32]⟩ else progTo l k) ++ txAt l k).size ≤ _
    rw [ByteArray.size_append]
    have h3 : (txAt l k).size ≤ 22 := h2
    split
    · rw [ByteArray.size_append]; show _ + 1 + _ ≤ _; omega
    · omega

structure TabsPT (w : World) : Prop where
  pow : Tabs w
  forms : TabsP w
theorem TabsPT.keep {w w' : World} (h : TabsPT w) (hB : Below w.heap.size w w') : TabsPT w' := ⟨h.pow.keep hB, h.forms.keep hB⟩
theorem tabspt_of {W : World} (h : laidMet Tryz.prog [("math/bits.deBruijn32tab", Rows.laid_math_bits_deBruijn32tab), ("math/bits.deBruijn64tab", Rows.laid_math_bits_deBruijn64tab), ("internal/strconv.uint64pow10", Rows.laid_internal_strconv_uint64pow10), ("loop.example/g00703/impl.opForms", Rows.laid_loop_example_g00703_impl_opForms)] W) : TabsPT W :=
  ⟨Lib.tabIs_of_head (k := .u64) (zs := Lib.pow10Tab) gPow gPowType Tryz.underlying190 Tryz.underlying126 gU64Cells gPowCells h.tail.tail, tabsp_of h.tail.tail.tail⟩
end Go.Proofs.YtbjlojmadellgaaGreatDoor
namespace Go.Proofs.YtbjlojmadellgaaGreatDoor
open Go.ChangeShapes Go.WideShapes Go.ChangeAt Go.RowKit
set_option linter.unusedVariables false
set_option maxRecDepth 100000

theorem l8who_any (n : Int) (w : World) : Calls Tryz.prog 73 #[.int .i64 n] w (SameBool (inB n 0 3) w) := by
  go_enter Tryz.func73, Tryz.ntmps73
  go_wp2_with (go_at_call 58; refine (l1in_any _ _ _ _).mono ?_; rintro e w' ⟨rfl, rfl⟩)
  go_ret
  exact ⟨rfl, rfl⟩
theorem workerok_any (n : Int) (w : World) : Calls Tryz.prog 105 #[.int .i64 n] w (SameBool (inB n 0 3) w) := by
  go_enter Tryz.func105, Tryz.ntmps105
  go_wp2_with (go_at_call 100; refine (within_any _ _ _ _).mono ?_; rintro e w' ⟨rfl, rfl⟩)
  go_ret
  exact ⟨rfl, rfl⟩

def claimB (a e u : Int) : Bool := inB a 0 3 && (inB e 1 1000000 && inB u 0 1000000)
theorem claimB_iff {a e u : Int} : claimB a e u = true ↔ (0 ≤ a ∧ a ≤ 3) ∧ (1 ≤ e ∧ e ≤ 1000000) ∧ (0 ≤ u ∧ u ≤ 1000000) := by
  unfold claimB
  simp only [Bool.and_eq_true, inB_iff]

set_option maxHeartbeats 1000000 in
theorem claimok_any (a e u : Int) (w : World) : Calls Tryz.prog 96 #[.agg #[.int .i64 a, .int .i64 e, .int .i64 u]] w (MadeBool (claimB a e u) w) := by
  obtain ⟨q, hq⟩ : ∃ q, claimB a e u = q := ⟨_, rfl⟩
  have HQ := Lib.hid hq
  rw [hq]
  unfold claimB at hq
  clear hq
  obtain ⟨q1, h1⟩ : ∃ q, inB a 0 3 = q := ⟨_, rfl⟩
  obtain ⟨q2, h2⟩ : ∃ q, inB e 1 1000000 = q := ⟨_, rfl⟩
  obtain ⟨q3, h3⟩ : ∃ q, inB u 0 1000000 = q := ⟨_, rfl⟩
  have H1 := Lib.hid h1
  have H2 := Lib.hid h2
  have H3 := Lib.hid h3
  have HE := Lib.hid (show (q1 && (q2 && q3)) = q by rw [← h1, ← h2, ← h3, ← HQ.out]; rfl)
  clear h1 h2 h3
  cases q1 <;> cases q2 <;> cases q3
  all_goals
    go_enter Tryz.func96, Tryz.ntmps96
    go_wp2_with (first | (go_at_call 105; refine (workerok_any _ _).mono ?_; rw [H1.out]; rintro e w1 ⟨rfl, rfl⟩) | (go_at_call 104; refine (verok_any _ _).mono ?_; rw [H2.out]; rintro e w1 ⟨rfl, rfl⟩) | (go_at_call 100; refine (within_any _ _ _ _).mono ?_; rw [H3.out]; rintro e w1 ⟨rfl, rfl⟩))
    go_ret
    exact ⟨ret_bool HE.out, below_alloc (Below.refl _ _) _⟩

def cat3 (a b c : ByteArray) : ByteArray := (((a ++ ⟨#[32]⟩) ++ b) ++ ⟨#[32]⟩) ++ c
def claimTx (a e u : Int) : ByteArray := if claimB a e u then cat3 (decB a) (decB e) (decB u) else ByteArray.empty
theorem cat_run {P : Program} {w : World} (a b : ByteArray) (n : Nat) (ha : a.size ≤ n) (hb : b.size ≤ n) (hn : n ≤ 4611686018427387903 := by decide) : (Op.stringOp .add a b).run P w = .ok (.string (a ++ b)) w :=
  run_string_add_sum w a b (by omega)
theorem join3 (a e u : Int) : joinB ⟨#[32]⟩ [a, e, u] = cat3 (decB a) (decB e) (decB u) := by
  apply ba_eq
  simp [joinB, cat3, Lib.join, List.intercalate, decB]

theorem nums_new (w : World) (t : TypeId) (ns : List Int) (h : ∀ n ∈ ns, In64 n) : Nums (w.alloc (.cells (ns.map fun n => Value.int .i64 n).toArray t)) w.heap.size ns :=
  ⟨by simp, fun j hj => by
    have := heap_alloc_new w (.cells (ns.map fun n => Value.int .i64 n).toArray t)
    unfold World.cell?
    rw [this]
    simp [hj], h⟩

set_option maxHeartbeats 2000000 in
theorem sclaimtext_any (a e u : Int) (w : World) : Calls Tryz.prog 62 #[.agg #[.int .i64 a, .int .i64 e, .int .i64 u]] w (MadeTx (claimTx a e u) w) := by
  obtain ⟨q1, h1⟩ : ∃ q, inB a 0 3 = q := ⟨_, rfl⟩
  obtain ⟨q2, h2⟩ : ∃ q, inB e 1 1000000 = q := ⟨_, rfl⟩
  obtain ⟨q3, h3⟩ : ∃ q, inB u 0 1000000 = q := ⟨_, rfl⟩
  have H1 := Lib.hid h1
  have H2 := Lib.hid h2
  have H3 := Lib.hid h3
  have hq : claimB a e u = (q1 && (q2 && q3)) := by rw [← h1, ← h2, ← h3]; rfl
  clear h1 h2 h3
  by_cases hall : (q1 && (q2 && q3)) = true
  · rw [hall] at hq
    have hb := claimB_iff.1 hq
    obtain ⟨⟨a0, a1⟩, ⟨b0, b1⟩, c0, c1⟩ := hb
    have HR := Lib.hid (show claimTx a e u = cat3 (decB a) (decB e) (decB u) by unfold claimTx; rw [hq]; rfl)
    have za := @decB_size a (by omega) (by omega)
    have ze := @decB_size e (by omega) (by omega)
    have zu := @decB_size u (by omega) (by omega)
    simp only [Bool.and_eq_true] at hall
    obtain ⟨rfl, rfl, rfl⟩ := hall
    clear hq
    have k1 : ∀ w, (Op.stringOp .add (decB a) ⟨#[32]⟩).run Tryz.prog w = .ok (.string (decB a ++ ⟨#[32]⟩)) w := fun w => cat_run _ _ 20 za (by decide)
    have k2 : ∀ w, (Op.stringOp .add (decB a ++ ⟨#[32]⟩) (decB e)).run Tryz.prog w = .ok (.string (decB a ++ ⟨#[32]⟩ ++ decB e)) w := fun w => cat_run _ _ 40 (by rw [ByteArray.size_append]; show (decB a).size + 1 ≤ 40; omega) (by omega)
    have k3 : ∀ w, (Op.stringOp .add (decB a ++ ⟨#[32]⟩ ++ decB e) ⟨#[32]⟩).run Tryz.prog w = .ok (.string (decB a ++ ⟨#[32]⟩ ++ decB e ++ ⟨#[32]⟩)) w := fun w => cat_run _ _ 60 (by rw [ByteArray.size_append, ByteArray.size_append]; show (decB a).size + 1 + (decB e).size ≤ 60; omega) (by decide)
    have k4 : ∀ w, (Op.stringOp .add (decB a ++ ⟨#[32]⟩ ++ decB e ++ ⟨#[32]⟩) (decB u)).run Tryz.prog w = .ok (.string (decB a ++ ⟨#[32]⟩ ++ decB e ++ ⟨#[32]⟩ ++ decB u)) w := fun w => cat_run _ _ 60 (by rw [ByteArray.size_append, ByteArray.size_append, ByteArray.size_append]; show (decB a).size + 1 + (decB e).size + 1 ≤ 60; omega) (by omega)
    go_enter Tryz.func62, Tryz.ntmps62
    go_wp2_with (first | (go_at_call 73; refine (l8who_any _ _).mono ?_; rw [H1.out]; rintro e w1 ⟨rfl, rfl⟩) | (go_at_call 74; refine (l7ver_any _ _).mono ?_; rw [H2.out]; rintro e w1 ⟨rfl, rfl⟩) | (go_at_call 58; refine (l1in_any _ _ _ _).mono ?_; rw [H3.out]; rintro e w1 ⟨rfl, rfl⟩))
    have y0 : (w.alloc (.cells #[.int .i64 a, .int .i64 e, .int .i64 u] 69)).drew.cell? ⟨w.heap.size, 0, none⟩ = some (.int .i64 a) := by simp
    have y1 : (w.alloc (.cells #[.int .i64 a, .int .i64 e, .int .i64 u] 69)).drew.cell? ⟨w.heap.size, 1, none⟩ = some (.int .i64 e) := by simp
    have y2 : (w.alloc (.cells #[.int .i64 a, .int .i64 e, .int .i64 u] 69)).drew.cell? ⟨w.heap.size, 2, none⟩ = some (.int .i64 u) := by simp
    have HB := Lib.hid (below_alloc (Below.refl w.heap.size w) (.cells #[.int .i64 a, .int .i64 e, .int .i64 u] 69)).drew
    go_region_held3 (fun w' => Hid (Below w.heap.size w w') ∧ w'.cell? ⟨w.heap.size, 0, none⟩ = some (.int .i64 a) ∧ w'.cell? ⟨w.heap.size, 1, none⟩ = some (.int .i64 e) ∧ w'.cell? ⟨w.heap.size, 2, none⟩ = some (.int .i64 u))
      (exact ⟨HB, y0, y1, y2⟩)
      ((go_at_call 59; refine (l1dec_any _ (by omega) (by omega) _).mono ?_; rintro e w6 ⟨rfl, hB⟩; have y0 := (hB.cell (p := ⟨w.heap.size, 0, none⟩) (World.block_lt_of_cell? _ _ y0)).trans y0; have y1 := (hB.cell (p := ⟨w.heap.size, 1, none⟩) (World.block_lt_of_cell? _ _ y1)).trans y1; have y2 := (hB.cell (p := ⟨w.heap.size, 2, none⟩) (World.block_lt_of_cell? _ _ y2)).trans y2; have HB := Lib.hid (below_via HB.out hB); clear hB))
    go_wp2
    go_ret
    exact ⟨congrArg (fun s => Ending.returned (.string s)) HR.out.symm, HB.out⟩
  · have hq2 : claimB a e u = false := by rw [hq]; simpa using hall
    have HR := Lib.hid (show claimTx a e u = ByteArray.empty by unfold claimTx; rw [hq2]; rfl)
    clear hq hq2
    cases q1 <;> cases q2 <;> cases q3 <;> simp at hall
    all_goals
      go_enter Tryz.func62, Tryz.ntmps62
      go_wp2_with (first | (go_at_call 73; refine (l8who_any _ _).mono ?_; rw [H1.out]; rintro e w1 ⟨rfl, rfl⟩) | (go_at_call 74; refine (l7ver_any _ _).mono ?_; rw [H2.out]; rintro e w1 ⟨rfl, rfl⟩) | (go_at_call 58; refine (l1in_any _ _ _ _).mono ?_; rw [H3.out]; rintro e w1 ⟨rfl, rfl⟩))
      go_ret
      exact ⟨congrArg (fun s => Ending.returned (.string s)) HR.out.symm, below_alloc (Below.refl _ _) _⟩
end Go.Proofs.YtbjlojmadellgaaGreatDoor
namespace Go.Proofs.YtbjlojmadellgaaGreatDoor
open Go.ChangeShapes Go.WideShapes Go.ChangeAt Go.RowKit
set_option linter.unusedVariables false
set_option maxRecDepth 100000

def markB (e k : Int) : Bool := inB e 1 1000000 && inB k 0 3
theorem markB_iff {e k : Int} : markB e k = true ↔ (1 ≤ e ∧ e ≤ 1000000) ∧ (0 ≤ k ∧ k ≤ 3) := by
  unfold markB
  simp only [Bool.and_eq_true, inB_iff]
def okTx : ByteArray := ⟨#[111, 107, 32]⟩
def failTx : ByteArray := ⟨#[102, 97, 105, 108, 101, 100, 32]⟩
def markTx (ok : Bool) (e k : Int) : ByteArray := if markB e k then (if ok then okTx else failTx) ++ decB e ++ ⟨#[32]⟩ ++ decB k else ByteArray.empty

set_option maxHeartbeats 1000000 in
theorem markok_any (ok : Bool) (e k : Int) (w : World) : Calls Tryz.prog 95 #[.agg #[.bool ok, .int .i64 e, .int .i64 k]] w (MadeBool (markB e k) w) := by
  obtain ⟨q, hq⟩ : ∃ q, markB e k = q := ⟨_, rfl⟩
  rw [hq]
  obtain ⟨q1, h1⟩ : ∃ q, inB e 1 1000000 = q := ⟨_, rfl⟩
  obtain ⟨q2, h2⟩ : ∃ q, inB k 0 3 = q := ⟨_, rfl⟩
  have H1 := Lib.hid h1
  have H2 := Lib.hid h2
  have HE := Lib.hid (show (q1 && q2) = q by rw [← h1, ← h2, ← hq]; rfl)
  clear h1 h2 hq
  cases q1 <;> cases q2
  all_goals
    go_enter Tryz.func95, Tryz.ntmps95
    go_wp2_with (first | (go_at_call 105; refine (workerok_any _ _).mono ?_; rw [H2.out]; rintro e w1 ⟨rfl, rfl⟩) | (go_at_call 104; refine (verok_any _ _).mono ?_; rw [H1.out]; rintro e w1 ⟨rfl, rfl⟩))
    go_ret
    exact ⟨ret_bool HE.out, below_alloc (Below.refl _ _) _⟩

theorem app_le {a b : ByteArray} {m n : Nat} (ha : a.size ≤ m) (hb : b.size ≤ n) : (a ++ b).size ≤ m + n := by rw [ByteArray.size_append]; omega
theorem join2 (e k : Int) : joinB ⟨#[32]⟩ [e, k] = decB e ++ ⟨#[32]⟩ ++ decB k := by
  apply ba_eq
  simp [joinB, Lib.join, List.intercalate, decB]
theorem join2_size {e k : Int} (ze : (decB e).size ≤ 20) (zk : (decB k).size ≤ 20) : (joinB ⟨#[32]⟩ [e, k]).size ≤ 41 := by
  rw [join2, ByteArray.size_append, ByteArray.size_append]
  show (decB e).size + 1 + (decB k).size ≤ 41
  omega
theorem mark_ok {e k : Int} (h : markB e k = true) : (⟨#[111, 107]⟩ ++ ⟨#[32]⟩ ++ joinB ⟨#[32]⟩ [e, k] : ByteArray) = markTx true e k := by
  unfold markTx
  rw [if_pos h, if_pos rfl, join2]
  apply ba_eq
  simp [okTx]
theorem mark_fail {e k : Int} (h : markB e k = true) : (⟨#[102, 97, 105, 108, 101, 100]⟩ ++ ⟨#[32]⟩ ++ joinB ⟨#[32]⟩ [e, k] : ByteArray) = markTx false e k := by
  unfold markTx
  rw [if_pos h, if_neg (by simp), join2]
  apply ba_eq
  simp [failTx]

set_option maxHeartbeats 2000000 in
theorem smarktxt_any (ok : Bool) (e k : Int) (w : World) : Calls Tryz.prog 68 #[.agg #[.bool ok, .int .i64 e, .int .i64 k]] w (MadeTx (markTx ok e k) w) := by
  obtain ⟨q1, h1⟩ : ∃ q, inB e 1 1000000 = q := ⟨_, rfl⟩
  obtain ⟨q2, h2⟩ : ∃ q, inB k 0 3 = q := ⟨_, rfl⟩
  have H1 := Lib.hid h1
  have H2 := Lib.hid h2
  have hq : markB e k = (q1 && q2) := by rw [← h1, ← h2]; rfl
  clear h1 h2
  by_cases hall : (q1 && q2) = true
  · rw [hall] at hq
    have hb := markB_iff.1 hq
    obtain ⟨⟨b0, b1⟩, c0, c1⟩ := hb
    have ze := @decB_size e (by omega) (by omega)
    have zk := @decB_size k (by omega) (by omega)
    simp only [Bool.and_eq_true] at hall
    obtain ⟨rfl, rfl⟩ := hall
    have HR1 := Lib.hid (show markTx true e k = ⟨#[111, 107, 32]⟩ ++ decB e ++ ⟨#[32]⟩ ++ decB k by unfold markTx; rw [hq]; rfl)
    have HR2 := Lib.hid (show markTx false e k = ⟨#[102, 97, 105, 108, 101, 100, 32]⟩ ++ decB e ++ ⟨#[32]⟩ ++ decB k by unfold markTx; rw [hq]; rfl)
    clear hq
    have k1 : ∀ w, (Op.stringOp .add ⟨#[111, 107, 32]⟩ (decB e)).run Tryz.prog w = .ok (.string (⟨#[111, 107, 32]⟩ ++ decB e)) w := fun w => cat_run _ _ 20 (by decide) ze
    have k2 : ∀ w, (Op.stringOp .add (⟨#[111, 107, 32]⟩ ++ decB e) ⟨#[32]⟩).run Tryz.prog w = .ok (.string (⟨#[111, 107, 32]⟩ ++ decB e ++ ⟨#[32]⟩)) w := fun w => cat_run _ _ 27 (app_le (m := 7) (n := 20) (by decide) ze) (by decide)
    have k3 : ∀ w, (Op.stringOp .add (⟨#[111, 107, 32]⟩ ++ decB e ++ ⟨#[32]⟩) (decB k)).run Tryz.prog w = .ok (.string (⟨#[111, 107, 32]⟩ ++ decB e ++ ⟨#[32]⟩ ++ decB k)) w := fun w => cat_run _ _ 28 (app_le (m := 27) (n := 1) (app_le (m := 7) (n := 20) (by decide) ze) (by decide)) (by omega)
    have j1 : ∀ w, (Op.stringOp .add ⟨#[102, 97, 105, 108, 101, 100, 32]⟩ (decB e)).run Tryz.prog w = .ok (.string (⟨#[102, 97, 105, 108, 101, 100, 32]⟩ ++ decB e)) w := fun w => cat_run _ _ 20 (by decide) ze
    have j2 : ∀ w, (Op.stringOp .add (⟨#[102, 97, 105, 108, 101, 100, 32]⟩ ++ decB e) ⟨#[32]⟩).run Tryz.prog w = .ok (.string (⟨#[102, 97, 105, 108, 101, 100, 32]⟩ ++ decB e ++ ⟨#[32]⟩)) w := fun w => cat_run _ _ 27 (app_le (m := 7) (n := 20) (by decide) ze) (by decide)
    have j3 : ∀ w, (Op.stringOp .add (⟨#[102, 97, 105, 108, 101, 100, 32]⟩ ++ decB e ++ ⟨#[32]⟩) (decB k)).run Tryz.prog w = .ok (.string (⟨#[102, 97, 105, 108, 101, 100, 32]⟩ ++ decB e ++ ⟨#[32]⟩ ++ decB k)) w := fun w => cat_run _ _ 28 (app_le (m := 27) (n := 1) (app_le (m := 7) (n := 20) (by decide) ze) (by decide)) (by omega)
    have y0 : (w.alloc (.cells #[.bool ok, .int .i64 e, .int .i64 k] 58)).drew.cell? ⟨w.heap.size, 0, none⟩ = some (.bool ok) := by simp
    have y1 : (w.alloc (.cells #[.bool ok, .int .i64 e, .int .i64 k] 58)).drew.cell? ⟨w.heap.size, 1, none⟩ = some (.int .i64 e) := by simp
    have y2 : (w.alloc (.cells #[.bool ok, .int .i64 e, .int .i64 k] 58)).drew.cell? ⟨w.heap.size, 2, none⟩ = some (.int .i64 k) := by simp
    have HB := Lib.hid (below_alloc (Below.refl w.heap.size w) (.cells #[.bool ok, .int .i64 e, .int .i64 k] 58)).drew
    cases ok
    all_goals
      go_enter Tryz.func68, Tryz.ntmps68
      go_wp2_with (first | (go_at_call 73; refine (l8who_any _ _).mono ?_; rw [H2.out]; rintro e w1 ⟨rfl, rfl⟩) | (go_at_call 74; refine (l7ver_any _ _).mono ?_; rw [H1.out]; rintro e w1 ⟨rfl, rfl⟩))
      go_region_held3 (fun w' => Hid (Below w.heap.size w w') ∧ w'.cell? ⟨w.heap.size, 1, none⟩ = some (.int .i64 e) ∧ w'.cell? ⟨w.heap.size, 2, none⟩ = some (.int .i64 k))
        (exact ⟨HB, y1, y2⟩)
        ((go_at_call 59; refine (l1dec_any _ (by omega) (by omega) _).mono ?_; rintro e w6 ⟨rfl, hB⟩; have y1 := (hB.cell (p := ⟨w.heap.size, 1, none⟩) (World.block_lt_of_cell? _ _ y1)).trans y1; have y2 := (hB.cell (p := ⟨w.heap.size, 2, none⟩) (World.block_lt_of_cell? _ _ y2)).trans y2; have HB := Lib.hid (below_via HB.out hB); clear hB))
      go_wp2
      go_ret
      first | exact ⟨congrArg (fun s => Ending.returned (.string s)) HR1.out.symm, HB.out⟩ | exact ⟨congrArg (fun s => Ending.returned (.string s)) HR2.out.symm, HB.out⟩
  · have hq2 : markB e k = false := by rw [hq]; simpa using hall
    have HR := Lib.hid (show markTx ok e k = ByteArray.empty by unfold markTx; rw [hq2]; rfl)
    clear hq hq2
    cases q1 <;> cases q2 <;> simp at hall
    all_goals
      go_enter Tryz.func68, Tryz.ntmps68
      go_wp2_with (first | (go_at_call 73; refine (l8who_any _ _).mono ?_; rw [H2.out]; rintro e w1 ⟨rfl, rfl⟩) | (go_at_call 74; refine (l7ver_any _ _).mono ?_; rw [H1.out]; rintro e w1 ⟨rfl, rfl⟩))
      go_ret
      exact ⟨congrArg (fun s => Ending.returned (.string s)) HR.out.symm, below_alloc (Below.refl _ _) _⟩
end Go.Proofs.YtbjlojmadellgaaGreatDoor
namespace Go.Proofs.YtbjlojmadellgaaGreatDoor
open Go.ChangeShapes Go.WideShapes Go.ChangeAt Go.RowKit
set_option linter.unusedVariables false
set_option maxRecDepth 100000

def slash : ByteArray := ⟨#[47]⟩
/-- A word, and the first k numbers, each behind a slash. -/
def nmTo (word : ByteArray) (ns : List Int) : Nat → ByteArray
  | 0 => word
  | k + 1 => nmTo word ns k ++ ⟨#[47]⟩ ++ decB (ns.getD k 0)
def allIn (ns : List Int) : Bool := ns.all fun n => inB n 0 1000000
def nameTx (word : ByteArray) (ns : List Int) : ByteArray := if allIn ns then nmTo word ns ns.length else ByteArray.empty
theorem allIn_yes {ns : List Int} (h : ∀ j (hj : j < ns.length), inB ns[j] 0 1000000 = true) : allIn ns = true := by
  unfold allIn
  rw [List.all_eq_true]
  intro n hn
  obtain ⟨j, hj, rfl⟩ := List.getElem_of_mem hn
  exact h j hj
theorem allIn_no {ns : List Int} {j : Nat} (hj : j < ns.length) (h : inB ns[j] 0 1000000 = false) : allIn ns = false := by
  unfold allIn
  rw [List.all_eq_false]
  exact ⟨ns[j], List.getElem_mem hj, by rw [h]; simp⟩
theorem name_no {word : ByteArray} {ns : List Int} (h : allIn ns = false) : nameTx word ns = ByteArray.empty := by unfold nameTx; rw [if_neg (by rw [h]; simp)]
theorem nmTo_list (word : ByteArray) (ns : List Int) : ∀ k, k ≤ ns.length → (nmTo word ns k).data.toList = word.data.toList ++ Lib.joinTail [47] ((ns.take k).map Lib.itoa)
  | 0, _ => by simp [nmTo, Lib.joinTail]
  | k + 1, h => by
    have hk : k < ns.length := h
    have ih := nmTo_list word ns k (by omega)
    have h3 : ((ns.take (k + 1)).map Lib.itoa) = (ns.take k).map Lib.itoa ++ [Lib.itoa ns[k]] := by
      rw [List.take_succ_eq_append_getElem hk, List.map_append]; rfl
    have h2 : Lib.joinTail [47] ((ns.take (k + 1)).map Lib.itoa) = Lib.joinTail [47] ((ns.take k).map Lib.itoa) ++ ([47] ++ Lib.itoa ns[k]) := by
      rw [h3]; simp [Lib.joinTail]
    rw [h2, nmTo, ByteArray.data_append, Array.toList_append, ByteArray.data_append, Array.toList_append, ih, decB_list, List.getD_eq_getElem?_getD, List.getElem?_eq_getElem hk]
    simp
theorem nm_join {word : ByteArray} {ns : List Int} (h : 0 < ns.length) : word ++ ⟨#[47]⟩ ++ joinB ⟨#[47]⟩ ns = nmTo word ns ns.length := by
  apply ba_eq
  rw [nmTo_list word ns ns.length (Nat.le_refl _), List.take_length]
  cases ns with
  | nil => simp at h
  | cons n r => simp [joinB, Lib.join_cons, Lib.joinTail]
theorem in_of {n : Int} (h : inB n 0 1000000 = true) : In64 n := by rw [inB_iff] at h; unfold In64; omega
theorem joinB_size {ns : List Int} (hl : ns.length ≤ 4) (h : ∀ n ∈ ns, In64 n) : (joinB ⟨#[47]⟩ ns).size ≤ 140737488355328 := by
  have := join_few (sep := ⟨#[47]⟩) hl hl (by decide) h
  simpa [joinB, ByteArray.size] using this
theorem nmTo_size {word : ByteArray} {ns : List Int} (hw : word.size ≤ 5) (h : ∀ j (hj : j < ns.length), inB ns[j] 0 1000000 = true) : ∀ k, k ≤ ns.length → (nmTo word ns k).size ≤ 5 + 21 * k
  | 0, _ => by simpa [nmTo] using hw
  | k + 1, hk => by
    have ih := nmTo_size hw h k (by omega)
    have hi := in_of (h k hk)
    unfold In64 at hi
    have hz := @decB_size ns[k] hi.1 (by omega)
    have e : ns.getD k 0 = ns[k] := by rw [List.getD_eq_getElem?_getD, List.getElem?_eq_getElem (by omega)]; rfl
    rw [nmTo, e, ByteArray.size_append, ByteArray.size_append]
    show _ + 1 + _ ≤ _
    omega

structure Nums0 (w : World) (g : Nat) (ns : List Int) : Prop where
  lt : g < w.heap.size
  cell : ∀ j (h : j < ns.length), w.cell? ⟨g, j, none⟩ = some (.int .i64 ns[j])
theorem Nums0.keep {w w1 : World} {g : Nat} {ns : List Int} (h : Nums0 w g ns) (hB : Below w.heap.size w w1) : Nums0 w1 g ns :=
  ⟨Nat.lt_of_lt_of_le h.lt hB.size, fun j hj => (hB.cell (p := ⟨g, j, none⟩) h.lt).trans (h.cell j hj)⟩
theorem nums0_new (w : World) (t : TypeId) (ns : List Int) : Nums0 (w.alloc (.cells (ns.map fun n => Value.int .i64 n).toArray t)) w.heap.size ns :=
  ⟨by simp, fun j hj => by
    have := heap_alloc_new w (.cells (ns.map fun n => Value.int .i64 n).toArray t)
    unfold World.cell?
    rw [this]
    simp [hj]⟩

set_option maxHeartbeats 2000000 in
theorem named_any (word : ByteArray) (g c : Nat) (ns : List Int) (w : World) (hw : word.size ≤ 5) (h0 : 0 < ns.length) (hl : ns.length ≤ 4) (hc : ns.length ≤ c) (h : Nums0 w g ns) (hT : Tabs w) :
    Calls Tryz.prog 92 #[.string word, .slice (some ⟨g, 0, none⟩) ns.length c] w (MadeTx (nameTx word ns) w) := by
  obtain ⟨N, hN⟩ : ∃ N, ns.length = N := ⟨_, rfl⟩
  have HN := Lib.hid hN
  have HS := Lib.hid h
  have HT := Lib.hid hT
  rw [hN] at h0 hl hc ⊢
  clear hN h hT
  go_enter Tryz.func92, Tryz.ntmps92
  go_wp2
  go_loop [9] (fun i => ∃ k : Nat, k ≤ N ∧ i = .int .i64 k ∧ Hid (∀ j, (hj : j < ns.length) → j < k → inB ns[j] 0 1000000 = true)) (fun i => N - (intOf i).toNat)
  case atStart => exact ⟨0, Nat.zero_le _, rfl, fun j hj hk => by omega⟩
  case round =>
    obtain ⟨k, hk, rfl, HA⟩ := hrel
    by_cases hlt : k < N
    · have hkl : k < ns.length := by rw [HN.out]; exact hlt
      have c0 := HS.out.cell k hkl
      obtain ⟨v, hv⟩ : ∃ v, ns[k] = v := ⟨_, rfl⟩
      rw [hv] at c0
      have HV := Lib.hid hv
      have HKL := Lib.hid hkl
      clear hv
      have hi0 : (0 : Int) ≤ (k : Int) := by omega
      have hi1 : (k : Int) < (N : Int) := by omega
      cases hq : inB v 0 1000000 with
      | true =>
        have HQ := Lib.hid hq
        clear hq
        go_wp2_with (go_at_call 100; refine (within_any _ _ _ _).mono ?_; rw [HQ.out]; rintro e w1 ⟨rfl, rfl⟩)
        go_round
        case rel =>
          refine ⟨k + 1, by omega, by go_num, fun j hj hjk => ?_⟩
          rcases Nat.lt_or_ge j k with h1 | h1
          · exact HA.out j hj h1
          · obtain rfl : j = k := by omega
            rw [HV.out]; exact HQ.out
        case measure => simp [intOf]; omega
      | false =>
        have HR := Lib.hid (name_no (word := word) (allIn_no HKL.out (by rw [HV.out]; exact hq)))
        have HQ := Lib.hid hq
        clear hq
        go_wp2_with (go_at_call 100; refine (within_any _ _ _ _).mono ?_; rw [HQ.out]; rintro e w1 ⟨rfl, rfl⟩)
        go_ret
        exact ⟨congrArg (fun s => Ending.returned (.string s)) HR.out.symm, Below.refl _ _⟩
    · obtain rfl : k = N := by omega
      have hall : ∀ j (hj : j < ns.length), inB ns[j] 0 1000000 = true := fun j hj => HA.out j hj (by rw [← HN.out]; exact hj)
      have hin : ∀ n ∈ ns, In64 n := fun n hn => by
        obtain ⟨j, hj, rfl⟩ := List.getElem_of_mem hn
        exact in_of (hall j hj)
      have hjs := joinB_size (by rw [HN.out]; exact hl) hin
      have hws : (word ++ ⟨#[47]⟩).size ≤ 6 := app_le (m := 5) (n := 1) hw (show (⟨#[47]⟩ : ByteArray).size ≤ 1 by decide)
      have HR := Lib.hid (show word ++ ⟨#[47]⟩ ++ joinB ⟨#[47]⟩ ns = nameTx word ns by
        unfold nameTx
        rw [if_pos (allIn_yes hall), nm_join (by rw [HN.out]; exact h0)])
      have HD := decimals_any ⟨#[47]⟩ g c ns w (by decide) (by rw [HN.out]; exact hl) (by rw [HN.out]; exact hc) ⟨HS.out.lt, HS.out.cell, hin⟩ HT.out
      rw [HN.out] at HD
      have HD := Lib.hid HD
      have hws2 : word.size ≤ 8388608 := by omega
      clear hall hin
      go_wp2_with fail
      refine HD.out.mono ?_
      rintro x w2 ⟨rfl, hB⟩
      have HB2 := Lib.hid hB
      clear hB
      go_wp2
      go_ret
      exact ⟨congrArg (fun s => Ending.returned (.string s)) HR.out, HB2.out⟩

def nameB (kind t e k p : Int) : ByteArray :=
  if kind = 1 then nameTx ⟨#[105, 110]⟩ [t]
  else if kind = 2 then nameTx ⟨#[99, 108, 97, 105, 109]⟩ [t]
  else if kind = 3 then nameTx ⟨#[109, 97, 114, 107]⟩ [t]
  else if kind = 4 then nameTx ⟨#[111, 117, 116]⟩ [t, e, k, p]
  else if kind = 5 then nameTx ⟨#[114, 101, 115]⟩ [t, e, k]
  else if kind = 6 then ⟨#[106, 111, 98]⟩ else ByteArray.empty

set_option maxHeartbeats 4000000 in
theorem nameof_any (kind t e k p : Int) (w : World) (hT : Tabs w) : Calls Tryz.prog 83 #[.int .i64 kind, .int .i64 t, .int .i64 e, .int .i64 k, .int .i64 p] w (MadeTx (nameB kind t e k p) w) := by
  have HT := Lib.hid hT
  clear hT
  by_cases h1 : kind = 1
  · subst h1
    have HR := Lib.hid (show nameB 1 t e k p = nameTx ⟨#[105, 110]⟩ [t] from rfl)
    go_enter Tryz.func83, Tryz.ntmps83
    go_wp2_with fail
    have hd := named_any ⟨#[105, 110]⟩ w.heap.size 1 [t] (w.alloc (.cells #[.int .i64 t] 2)) (by decide) (by simp) (by simp) (by simp) (nums0_new w 2 [t]) (HT.out.keep (below_alloc (Below.refl _ _) _))
    refine hd.mono ?_
    rintro x w2 ⟨rfl, hB⟩
    have HB2 := Lib.hid (below_via (below_alloc (Below.refl w.heap.size w) _) hB)
    clear hB hd
    go_wp2
    go_ret
    exact ⟨congrArg (fun s => Ending.returned (.string s)) HR.out.symm, HB2.out⟩
  by_cases h2 : kind = 2
  · subst h2
    have HR := Lib.hid (show nameB 2 t e k p = nameTx ⟨#[99, 108, 97, 105, 109]⟩ [t] from rfl)
    go_enter Tryz.func83, Tryz.ntmps83
    go_wp2_with fail
    have hd := named_any ⟨#[99, 108, 97, 105, 109]⟩ w.heap.size 1 [t] (w.alloc (.cells #[.int .i64 t] 2)) (by decide) (by simp) (by simp) (by simp) (nums0_new w 2 [t]) (HT.out.keep (below_alloc (Below.refl _ _) _))
    refine hd.mono ?_
    rintro x w2 ⟨rfl, hB⟩
    have HB2 := Lib.hid (below_via (below_alloc (Below.refl w.heap.size w) _) hB)
    clear hB hd
    go_wp2
    go_ret
    exact ⟨congrArg (fun s => Ending.returned (.string s)) HR.out.symm, HB2.out⟩
  by_cases h3 : kind = 3
  · subst h3
    have HR := Lib.hid (show nameB 3 t e k p = nameTx ⟨#[109, 97, 114, 107]⟩ [t] from rfl)
    go_enter Tryz.func83, Tryz.ntmps83
    go_wp2_with fail
    have hd := named_any ⟨#[109, 97, 114, 107]⟩ w.heap.size 1 [t] (w.alloc (.cells #[.int .i64 t] 2)) (by decide) (by simp) (by simp) (by simp) (nums0_new w 2 [t]) (HT.out.keep (below_alloc (Below.refl _ _) _))
    refine hd.mono ?_
    rintro x w2 ⟨rfl, hB⟩
    have HB2 := Lib.hid (below_via (below_alloc (Below.refl w.heap.size w) _) hB)
    clear hB hd
    go_wp2
    go_ret
    exact ⟨congrArg (fun s => Ending.returned (.string s)) HR.out.symm, HB2.out⟩
  by_cases h4 : kind = 4
  · subst h4
    have HR := Lib.hid (show nameB 4 t e k p = nameTx ⟨#[111, 117, 116]⟩ [t, e, k, p] from rfl)
    go_enter Tryz.func83, Tryz.ntmps83
    go_wp2_with fail
    have hd := named_any ⟨#[111, 117, 116]⟩ w.heap.size 4 [t, e, k, p] (w.alloc (.cells #[.int .i64 t, .int .i64 e, .int .i64 k, .int .i64 p] 2)) (by decide) (by simp) (by simp) (by simp) (nums0_new w 2 [t, e, k, p]) (HT.out.keep (below_alloc (Below.refl _ _) _))
    refine hd.mono ?_
    rintro x w2 ⟨rfl, hB⟩
    have HB2 := Lib.hid (below_via (below_alloc (Below.refl w.heap.size w) _) hB)
    clear hB hd
    go_wp2
    go_ret
    exact ⟨congrArg (fun s => Ending.returned (.string s)) HR.out.symm, HB2.out⟩
  by_cases h5 : kind = 5
  · subst h5
    have HR := Lib.hid (show nameB 5 t e k p = nameTx ⟨#[114, 101, 115]⟩ [t, e, k] from rfl)
    go_enter Tryz.func83, Tryz.ntmps83
    go_wp2_with fail
    have hd := named_any ⟨#[114, 101, 115]⟩ w.heap.size 3 [t, e, k] (w.alloc (.cells #[.int .i64 t, .int .i64 e, .int .i64 k] 2)) (by decide) (by simp) (by simp) (by simp) (nums0_new w 2 [t, e, k]) (HT.out.keep (below_alloc (Below.refl _ _) _))
    refine hd.mono ?_
    rintro x w2 ⟨rfl, hB⟩
    have HB2 := Lib.hid (below_via (below_alloc (Below.refl w.heap.size w) _) hB)
    clear hB hd
    go_wp2
    go_ret
    exact ⟨congrArg (fun s => Ending.returned (.string s)) HR.out.symm, HB2.out⟩
  by_cases h6 : kind = 6
  · subst h6
    have HR := Lib.hid (show nameB 6 t e k p = ⟨#[106, 111, 98]⟩ from rfl)
    go_enter Tryz.func83, Tryz.ntmps83
    go_wp2
    go_ret
    exact ⟨congrArg (fun s => Ending.returned (.string s)) HR.out.symm, Below.refl _ _⟩
  have HR := Lib.hid (show nameB kind t e k p = ByteArray.empty by unfold nameB; rw [if_neg h1, if_neg h2, if_neg h3, if_neg h4, if_neg h5, if_neg h6])
  have g1 : (kind == 1) = false := by simpa using h1
  have g2 : (kind == 2) = false := by simpa using h2
  have g3 : (kind == 3) = false := by simpa using h3
  have g4 : (kind == 4) = false := by simpa using h4
  have g5 : (kind == 5) = false := by simpa using h5
  have g6 : (kind == 6) = false := by simpa using h6
  clear h1 h2 h3 h4 h5 h6
  go_enter Tryz.func83, Tryz.ntmps83
  go_wp2
  go_ret
  exact ⟨congrArg (fun s => Ending.returned (.string s)) HR.out.symm, Below.refl _ _⟩
end Go.Proofs.YtbjlojmadellgaaGreatDoor
namespace Go.Proofs.YtbjlojmadellgaaGreatDoor
open Go.ChangeShapes Go.WideShapes Go.ChangeAt Go.RowKit
set_option linter.unusedVariables false
set_option maxRecDepth 100000

theorem nmTo_yes {word : ByteArray} {ns : List Int} (h : ∀ j (hj : j < ns.length), j < ns.length → inB ns[j] 0 1000000 = true) : nmTo word ns ns.length = nameTx word ns := by
  unfold nameTx; rw [if_pos (allIn_yes fun j hj => h j hj hj)]
theorem nmTo_size2 {word : ByteArray} {ns : List Int} (hw : word.size ≤ 5) : ∀ k, k ≤ ns.length → (∀ j (hj : j < ns.length), j < k → inB ns[j] 0 1000000 = true) → (nmTo word ns k).size ≤ 5 + 21 * k
  | 0, _, _ => by simpa [nmTo] using hw
  | k + 1, hk, h => by
    have ih := nmTo_size2 hw k (by omega) (fun j hj h1 => h j hj (by omega))
    have hi := in_of (h k hk (by omega))
    unfold In64 at hi
    have hz := @decB_size ns[k] hi.1 (by omega)
    have e : ns.getD k 0 = ns[k] := by rw [List.getD_eq_getElem?_getD, List.getElem?_eq_getElem (by omega)]; rfl
    rw [nmTo, e, ByteArray.size_append, ByteArray.size_append]
    show _ + 1 + _ ≤ _
    omega
theorem nmTo_next {word : ByteArray} {ns : List Int} {k : Nat} {v : Int} (h : k < ns.length) (hv : ns[k] = v) : nmTo word ns k ++ ⟨#[47]⟩ ++ decB v = nmTo word ns (k + 1) := by
  have e : ns.getD k 0 = ns[k] := by rw [List.getD_eq_getElem?_getD, List.getElem?_eq_getElem (by omega)]; rfl
  rw [nmTo, e, hv]

set_option maxHeartbeats 4000000 in
theorem snameof_any (kind t e k p : Int) (w : World) : Calls Tryz.prog 36 #[.int .i64 kind, .int .i64 t, .int .i64 e, .int .i64 k, .int .i64 p] w (MadeTx (nameB kind t e k p) w) := by
  by_cases h1 : kind = 1
  · subst h1
    obtain ⟨ns, hns⟩ : ∃ ns : List Int, [t] = ns := ⟨_, rfl⟩
    have HR := Lib.hid (show nameB 1 t e k p = nameTx ⟨#[105, 110]⟩ ns by rw [← hns]; rfl)
    have HN := Lib.hid (show ns.length = 1 by rw [← hns]; rfl)
    have HS := Lib.hid (show Nums0 (w.alloc (.cells #[.int .i64 t, .int .i64 e, .int .i64 k, .int .i64 p] 2)) w.heap.size ns from ⟨by simp, fun j hj => by
      rw [World.cell?_alloc_mark]
      subst hns
      have hj2 := hj
      simp only [List.length_cons, List.length_nil] at hj2
      match j, hj2 with
      | 0, _ => rfl⟩)
    have HI := Lib.hid (show inB 1 1 6 = true by decide)
    have HW := Lib.hid (show (⟨#[105, 110]⟩ : ByteArray).size ≤ 5 by decide)
    clear hns
    go_enter Tryz.func36, Tryz.ntmps36
    go_wp2_with (go_at_call 58; refine (l1in_any _ _ _ _).mono ?_; rw [HI.out]; rintro x w1 ⟨rfl, rfl⟩)
    have HB0 := Lib.hid (below_alloc (below_alloc (below_alloc (Below.refl w.heap.size w) (.cells #[.int .i64 t, .int .i64 e, .int .i64 k, .int .i64 p] 2)) (.cells #[.int .i64 1, .int .i64 1, .int .i64 1, .int .i64 4, .int .i64 3] 3)) (.cells #[.string ⟨#[105, 110]⟩, .string ⟨#[99, 108, 97, 105, 109]⟩, .string ⟨#[109, 97, 114, 107]⟩, .string ⟨#[111, 117, 116]⟩, .string ⟨#[114, 101, 115]⟩] 9))
    go_loopw [12, 13] (fun s i wr => ∃ j : Nat, j ≤ 1 ∧ i = .int .i64 j ∧ s = .string (nmTo ⟨#[105, 110]⟩ ns j) ∧ Hid (Below w.heap.size w wr ∧ Nums0 wr w.heap.size ns ∧ ∀ l, (hl : l < ns.length) → l < j → inB ns[l] 0 1000000 = true)) (fun _ i _ => 1 - (intOf i).toNat)
    case atStart => exact ⟨0, Nat.zero_le _, rfl, rfl, HB0.out, HS.out.keep (below_alloc (below_alloc (Below.refl _ _) _) _), fun j hj hk => by omega⟩
    case round =>
      obtain ⟨j, hj, rfl, rfl, HA⟩ := hrel
      clear HB0 HS
      have hsz := nmTo_size2 HW.out j (by rw [HN.out]; exact hj) HA.out.2.2
      by_cases hlt : j < 1
      · have hkl : j < ns.length := by rw [HN.out]; exact hlt
        have c0 := HA.out.2.1.cell j hkl
        obtain ⟨v, hv⟩ : ∃ v, ns[j] = v := ⟨_, rfl⟩
        rw [hv] at c0
        have HV := Lib.hid hv
        have HKL := Lib.hid hkl
        clear hv
        have hi0 : (0 : Int) ≤ (j : Int) := by omega
        have hi1 : (j : Int) < (1 : Int) := by omega
        have HNX := Lib.hid (nmTo_next (word := ⟨#[105, 110]⟩) HKL.out HV.out)
        obtain ⟨cur, hcur⟩ : ∃ cur, nmTo ⟨#[105, 110]⟩ ns j = cur := ⟨_, rfl⟩
        rw [hcur] at hsz HNX ⊢
        clear hcur
        cases hq : inB v 0 1000000 with
        | true =>
          have HQ := Lib.hid hq
          have hv0 : 0 ≤ v ∧ v ≤ 1000000 := inB_iff.1 hq
          have hz := @decB_size v (by omega) (by omega)
          clear hq
          go_wp2_with fail
          refine (l1in_any _ _ _ _).mono ?_
          rw [HQ.out]
          rintro x w1 ⟨rfl, rfl⟩
          go_wp2_with fail
          refine (l1dec_any v (by omega) (by omega) _).mono ?_
          rintro x w2 ⟨rfl, hB⟩
          have HB := Lib.hid (below_via HA.out.1 hB)
          have HNU := Lib.hid (HA.out.2.1.keep hB)
          clear hB c0
          go_wp2
          go_roundw
          case rel =>
            refine ⟨j + 1, by omega, by go_num, congrArg Value.string HNX.out, HB.out, HNU.out, fun l hl hlj => ?_⟩
            rcases Nat.lt_or_ge l j with h1 | h1
            · exact HA.out.2.2 l hl h1
            · obtain rfl : l = j := by omega
              rw [HV.out]; exact HQ.out
          case measure => simp [intOf]; omega
        | false =>
          have HRN := Lib.hid (name_no (word := ⟨#[105, 110]⟩) (allIn_no HKL.out (by rw [HV.out]; exact hq)))
          have HQ := Lib.hid hq
          clear hq
          go_wp2_with (go_at_call 58; refine (l1in_any _ _ _ _).mono ?_; rw [HQ.out]; rintro x w1 ⟨rfl, rfl⟩)
          go_ret
          exact ⟨congrArg (fun s => Ending.returned (.string s)) (by rw [HR.out, HRN.out]; rfl), HA.out.1⟩
      · obtain rfl : j = 1 := by omega
        have HE := Lib.hid (show nmTo ⟨#[105, 110]⟩ ns 1 = nameB 1 t e k p by
          rw [HR.out]
          have h2 := nmTo_yes (word := ⟨#[105, 110]⟩) (ns := ns) (fun l hl h3 => HA.out.2.2 l hl (by rw [← HN.out]; exact h3))
          rw [HN.out] at h2
          exact h2)
        go_wp2
        go_ret
        exact ⟨congrArg (fun s => Ending.returned (.string s)) HE.out, HA.out.1⟩
  by_cases h2 : kind = 2
  · subst h2
    obtain ⟨ns, hns⟩ : ∃ ns : List Int, [t] = ns := ⟨_, rfl⟩
    have HR := Lib.hid (show nameB 2 t e k p = nameTx ⟨#[99, 108, 97, 105, 109]⟩ ns by rw [← hns]; rfl)
    have HN := Lib.hid (show ns.length = 1 by rw [← hns]; rfl)
    have HS := Lib.hid (show Nums0 (w.alloc (.cells #[.int .i64 t, .int .i64 e, .int .i64 k, .int .i64 p] 2)) w.heap.size ns from ⟨by simp, fun j hj => by
      rw [World.cell?_alloc_mark]
      subst hns
      have hj2 := hj
      simp only [List.length_cons, List.length_nil] at hj2
      match j, hj2 with
      | 0, _ => rfl⟩)
    have HI := Lib.hid (show inB 2 1 6 = true by decide)
    have HW := Lib.hid (show (⟨#[99, 108, 97, 105, 109]⟩ : ByteArray).size ≤ 5 by decide)
    clear hns
    go_enter Tryz.func36, Tryz.ntmps36
    go_wp2_with (go_at_call 58; refine (l1in_any _ _ _ _).mono ?_; rw [HI.out]; rintro x w1 ⟨rfl, rfl⟩)
    have HB0 := Lib.hid (below_alloc (below_alloc (below_alloc (Below.refl w.heap.size w) (.cells #[.int .i64 t, .int .i64 e, .int .i64 k, .int .i64 p] 2)) (.cells #[.int .i64 1, .int .i64 1, .int .i64 1, .int .i64 4, .int .i64 3] 3)) (.cells #[.string ⟨#[105, 110]⟩, .string ⟨#[99, 108, 97, 105, 109]⟩, .string ⟨#[109, 97, 114, 107]⟩, .string ⟨#[111, 117, 116]⟩, .string ⟨#[114, 101, 115]⟩] 9))
    go_loopw [12, 13] (fun s i wr => ∃ j : Nat, j ≤ 1 ∧ i = .int .i64 j ∧ s = .string (nmTo ⟨#[99, 108, 97, 105, 109]⟩ ns j) ∧ Hid (Below w.heap.size w wr ∧ Nums0 wr w.heap.size ns ∧ ∀ l, (hl : l < ns.length) → l < j → inB ns[l] 0 1000000 = true)) (fun _ i _ => 1 - (intOf i).toNat)
    case atStart => exact ⟨0, Nat.zero_le _, rfl, rfl, HB0.out, HS.out.keep (below_alloc (below_alloc (Below.refl _ _) _) _), fun j hj hk => by omega⟩
    case round =>
      obtain ⟨j, hj, rfl, rfl, HA⟩ := hrel
      clear HB0 HS
      have hsz := nmTo_size2 HW.out j (by rw [HN.out]; exact hj) HA.out.2.2
      by_cases hlt : j < 1
      · have hkl : j < ns.length := by rw [HN.out]; exact hlt
        have c0 := HA.out.2.1.cell j hkl
        obtain ⟨v, hv⟩ : ∃ v, ns[j] = v := ⟨_, rfl⟩
        rw [hv] at c0
        have HV := Lib.hid hv
        have HKL := Lib.hid hkl
        clear hv
        have hi0 : (0 : Int) ≤ (j : Int) := by omega
        have hi1 : (j : Int) < (1 : Int) := by omega
        have HNX := Lib.hid (nmTo_next (word := ⟨#[99, 108, 97, 105, 109]⟩) HKL.out HV.out)
        obtain ⟨cur, hcur⟩ : ∃ cur, nmTo ⟨#[99, 108, 97, 105, 109]⟩ ns j = cur := ⟨_, rfl⟩
        rw [hcur] at hsz HNX ⊢
        clear hcur
        cases hq : inB v 0 1000000 with
        | true =>
          have HQ := Lib.hid hq
          have hv0 : 0 ≤ v ∧ v ≤ 1000000 := inB_iff.1 hq
          have hz := @decB_size v (by omega) (by omega)
          clear hq
          go_wp2_with fail
          refine (l1in_any _ _ _ _).mono ?_
          rw [HQ.out]
          rintro x w1 ⟨rfl, rfl⟩
          go_wp2_with fail
          refine (l1dec_any v (by omega) (by omega) _).mono ?_
          rintro x w2 ⟨rfl, hB⟩
          have HB := Lib.hid (below_via HA.out.1 hB)
          have HNU := Lib.hid (HA.out.2.1.keep hB)
          clear hB c0
          go_wp2
          go_roundw
          case rel =>
            refine ⟨j + 1, by omega, by go_num, congrArg Value.string HNX.out, HB.out, HNU.out, fun l hl hlj => ?_⟩
            rcases Nat.lt_or_ge l j with h1 | h1
            · exact HA.out.2.2 l hl h1
            · obtain rfl : l = j := by omega
              rw [HV.out]; exact HQ.out
          case measure => simp [intOf]; omega
        | false =>
          have HRN := Lib.hid (name_no (word := ⟨#[99, 108, 97, 105, 109]⟩) (allIn_no HKL.out (by rw [HV.out]; exact hq)))
          have HQ := Lib.hid hq
          clear hq
          go_wp2_with (go_at_call 58; refine (l1in_any _ _ _ _).mono ?_; rw [HQ.out]; rintro x w1 ⟨rfl, rfl⟩)
          go_ret
          exact ⟨congrArg (fun s => Ending.returned (.string s)) (by rw [HR.out, HRN.out]; rfl), HA.out.1⟩
      · obtain rfl : j = 1 := by omega
        have HE := Lib.hid (show nmTo ⟨#[99, 108, 97, 105, 109]⟩ ns 1 = nameB 2 t e k p by
          rw [HR.out]
          have h2 := nmTo_yes (word := ⟨#[99, 108, 97, 105, 109]⟩) (ns := ns) (fun l hl h3 => HA.out.2.2 l hl (by rw [← HN.out]; exact h3))
          rw [HN.out] at h2
          exact h2)
        go_wp2
        go_ret
        exact ⟨congrArg (fun s => Ending.returned (.string s)) HE.out, HA.out.1⟩
  by_cases h3 : kind = 3
  · subst h3
    obtain ⟨ns, hns⟩ : ∃ ns : List Int, [t] = ns := ⟨_, rfl⟩
    have HR := Lib.hid (show nameB 3 t e k p = nameTx ⟨#[109, 97, 114, 107]⟩ ns by rw [← hns]; rfl)
    have HN := Lib.hid (show ns.length = 1 by rw [← hns]; rfl)
    have HS := Lib.hid (show Nums0 (w.alloc (.cells #[.int .i64 t, .int .i64 e, .int .i64 k, .int .i64 p] 2)) w.heap.size ns from ⟨by simp, fun j hj => by
      rw [World.cell?_alloc_mark]
      subst hns
      have hj2 := hj
      simp only [List.length_cons, List.length_nil] at hj2
      match j, hj2 with
      | 0, _ => rfl⟩)
    have HI := Lib.hid (show inB 3 1 6 = true by decide)
    have HW := Lib.hid (show (⟨#[109, 97, 114, 107]⟩ : ByteArray).size ≤ 5 by decide)
    clear hns
    go_enter Tryz.func36, Tryz.ntmps36
    go_wp2_with (go_at_call 58; refine (l1in_any _ _ _ _).mono ?_; rw [HI.out]; rintro x w1 ⟨rfl, rfl⟩)
    have HB0 := Lib.hid (below_alloc (below_alloc (below_alloc (Below.refl w.heap.size w) (.cells #[.int .i64 t, .int .i64 e, .int .i64 k, .int .i64 p] 2)) (.cells #[.int .i64 1, .int .i64 1, .int .i64 1, .int .i64 4, .int .i64 3] 3)) (.cells #[.string ⟨#[105, 110]⟩, .string ⟨#[99, 108, 97, 105, 109]⟩, .string ⟨#[109, 97, 114, 107]⟩, .string ⟨#[111, 117, 116]⟩, .string ⟨#[114, 101, 115]⟩] 9))
    go_loopw [12, 13] (fun s i wr => ∃ j : Nat, j ≤ 1 ∧ i = .int .i64 j ∧ s = .string (nmTo ⟨#[109, 97, 114, 107]⟩ ns j) ∧ Hid (Below w.heap.size w wr ∧ Nums0 wr w.heap.size ns ∧ ∀ l, (hl : l < ns.length) → l < j → inB ns[l] 0 1000000 = true)) (fun _ i _ => 1 - (intOf i).toNat)
    case atStart => exact ⟨0, Nat.zero_le _, rfl, rfl, HB0.out, HS.out.keep (below_alloc (below_alloc (Below.refl _ _) _) _), fun j hj hk => by omega⟩
    case round =>
      obtain ⟨j, hj, rfl, rfl, HA⟩ := hrel
      clear HB0 HS
      have hsz := nmTo_size2 HW.out j (by rw [HN.out]; exact hj) HA.out.2.2
      by_cases hlt : j < 1
      · have hkl : j < ns.length := by rw [HN.out]; exact hlt
        have c0 := HA.out.2.1.cell j hkl
        obtain ⟨v, hv⟩ : ∃ v, ns[j] = v := ⟨_, rfl⟩
        rw [hv] at c0
        have HV := Lib.hid hv
        have HKL := Lib.hid hkl
        clear hv
        have hi0 : (0 : Int) ≤ (j : Int) := by omega
        have hi1 : (j : Int) < (1 : Int) := by omega
        have HNX := Lib.hid (nmTo_next (word := ⟨#[109, 97, 114, 107]⟩) HKL.out HV.out)
        obtain ⟨cur, hcur⟩ : ∃ cur, nmTo ⟨#[109, 97, 114, 107]⟩ ns j = cur := ⟨_, rfl⟩
        rw [hcur] at hsz HNX ⊢
        clear hcur
        cases hq : inB v 0 1000000 with
        | true =>
          have HQ := Lib.hid hq
          have hv0 : 0 ≤ v ∧ v ≤ 1000000 := inB_iff.1 hq
          have hz := @decB_size v (by omega) (by omega)
          clear hq
          go_wp2_with fail
          refine (l1in_any _ _ _ _).mono ?_
          rw [HQ.out]
          rintro x w1 ⟨rfl, rfl⟩
          go_wp2_with fail
          refine (l1dec_any v (by omega) (by omega) _).mono ?_
          rintro x w2 ⟨rfl, hB⟩
          have HB := Lib.hid (below_via HA.out.1 hB)
          have HNU := Lib.hid (HA.out.2.1.keep hB)
          clear hB c0
          go_wp2
          go_roundw
          case rel =>
            refine ⟨j + 1, by omega, by go_num, congrArg Value.string HNX.out, HB.out, HNU.out, fun l hl hlj => ?_⟩
            rcases Nat.lt_or_ge l j with h1 | h1
            · exact HA.out.2.2 l hl h1
            · obtain rfl : l = j := by omega
              rw [HV.out]; exact HQ.out
          case measure => simp [intOf]; omega
        | false =>
          have HRN := Lib.hid (name_no (word := ⟨#[109, 97, 114, 107]⟩) (allIn_no HKL.out (by rw [HV.out]; exact hq)))
          have HQ := Lib.hid hq
          clear hq
          go_wp2_with (go_at_call 58; refine (l1in_any _ _ _ _).mono ?_; rw [HQ.out]; rintro x w1 ⟨rfl, rfl⟩)
          go_ret
          exact ⟨congrArg (fun s => Ending.returned (.string s)) (by rw [HR.out, HRN.out]; rfl), HA.out.1⟩
      · obtain rfl : j = 1 := by omega
        have HE := Lib.hid (show nmTo ⟨#[109, 97, 114, 107]⟩ ns 1 = nameB 3 t e k p by
          rw [HR.out]
          have h2 := nmTo_yes (word := ⟨#[109, 97, 114, 107]⟩) (ns := ns) (fun l hl h3 => HA.out.2.2 l hl (by rw [← HN.out]; exact h3))
          rw [HN.out] at h2
          exact h2)
        go_wp2
        go_ret
        exact ⟨congrArg (fun s => Ending.returned (.string s)) HE.out, HA.out.1⟩
  by_cases h4 : kind = 4
  · subst h4
    obtain ⟨ns, hns⟩ : ∃ ns : List Int, [t, e, k, p] = ns := ⟨_, rfl⟩
    have HR := Lib.hid (show nameB 4 t e k p = nameTx ⟨#[111, 117, 116]⟩ ns by rw [← hns]; rfl)
    have HN := Lib.hid (show ns.length = 4 by rw [← hns]; rfl)
    have HS := Lib.hid (show Nums0 (w.alloc (.cells #[.int .i64 t, .int .i64 e, .int .i64 k, .int .i64 p] 2)) w.heap.size ns from ⟨by simp, fun j hj => by
      rw [World.cell?_alloc_mark]
      subst hns
      have hj2 := hj
      simp only [List.length_cons, List.length_nil] at hj2
      match j, hj2 with
      | 0, _ => rfl
      | 1, _ => rfl
      | 2, _ => rfl
      | 3, _ => rfl⟩)
    have HI := Lib.hid (show inB 4 1 6 = true by decide)
    have HW := Lib.hid (show (⟨#[111, 117, 116]⟩ : ByteArray).size ≤ 5 by decide)
    clear hns
    go_enter Tryz.func36, Tryz.ntmps36
    go_wp2_with (go_at_call 58; refine (l1in_any _ _ _ _).mono ?_; rw [HI.out]; rintro x w1 ⟨rfl, rfl⟩)
    have HB0 := Lib.hid (below_alloc (below_alloc (below_alloc (Below.refl w.heap.size w) (.cells #[.int .i64 t, .int .i64 e, .int .i64 k, .int .i64 p] 2)) (.cells #[.int .i64 1, .int .i64 1, .int .i64 1, .int .i64 4, .int .i64 3] 3)) (.cells #[.string ⟨#[105, 110]⟩, .string ⟨#[99, 108, 97, 105, 109]⟩, .string ⟨#[109, 97, 114, 107]⟩, .string ⟨#[111, 117, 116]⟩, .string ⟨#[114, 101, 115]⟩] 9))
    go_loopw [12, 13] (fun s i wr => ∃ j : Nat, j ≤ 4 ∧ i = .int .i64 j ∧ s = .string (nmTo ⟨#[111, 117, 116]⟩ ns j) ∧ Hid (Below w.heap.size w wr ∧ Nums0 wr w.heap.size ns ∧ ∀ l, (hl : l < ns.length) → l < j → inB ns[l] 0 1000000 = true)) (fun _ i _ => 4 - (intOf i).toNat)
    case atStart => exact ⟨0, Nat.zero_le _, rfl, rfl, HB0.out, HS.out.keep (below_alloc (below_alloc (Below.refl _ _) _) _), fun j hj hk => by omega⟩
    case round =>
      obtain ⟨j, hj, rfl, rfl, HA⟩ := hrel
      clear HB0 HS
      have hsz := nmTo_size2 HW.out j (by rw [HN.out]; exact hj) HA.out.2.2
      by_cases hlt : j < 4
      · have hkl : j < ns.length := by rw [HN.out]; exact hlt
        have c0 := HA.out.2.1.cell j hkl
        obtain ⟨v, hv⟩ : ∃ v, ns[j] = v := ⟨_, rfl⟩
        rw [hv] at c0
        have HV := Lib.hid hv
        have HKL := Lib.hid hkl
        clear hv
        have hi0 : (0 : Int) ≤ (j : Int) := by omega
        have hi1 : (j : Int) < (4 : Int) := by omega
        have HNX := Lib.hid (nmTo_next (word := ⟨#[111, 117, 116]⟩) HKL.out HV.out)
        obtain ⟨cur, hcur⟩ : ∃ cur, nmTo ⟨#[111, 117, 116]⟩ ns j = cur := ⟨_, rfl⟩
        rw [hcur] at hsz HNX ⊢
        clear hcur
        cases hq : inB v 0 1000000 with
        | true =>
          have HQ := Lib.hid hq
          have hv0 : 0 ≤ v ∧ v ≤ 1000000 := inB_iff.1 hq
          have hz := @decB_size v (by omega) (by omega)
          clear hq
          go_wp2_with fail
          refine (l1in_any _ _ _ _).mono ?_
          rw [HQ.out]
          rintro x w1 ⟨rfl, rfl⟩
          go_wp2_with fail
          refine (l1dec_any v (by omega) (by omega) _).mono ?_
          rintro x w2 ⟨rfl, hB⟩
          have HB := Lib.hid (below_via HA.out.1 hB)
          have HNU := Lib.hid (HA.out.2.1.keep hB)
          clear hB c0
          go_wp2
          go_roundw
          case rel =>
            refine ⟨j + 1, by omega, by go_num, congrArg Value.string HNX.out, HB.out, HNU.out, fun l hl hlj => ?_⟩
            rcases Nat.lt_or_ge l j with h1 | h1
            · exact HA.out.2.2 l hl h1
            · obtain rfl : l = j := by omega
              rw [HV.out]; exact HQ.out
          case measure => simp [intOf]; omega
        | false =>
          have HRN := Lib.hid (name_no (word := ⟨#[111, 117, 116]⟩) (allIn_no HKL.out (by rw [HV.out]; exact hq)))
          have HQ := Lib.hid hq
          clear hq
          go_wp2_with (go_at_call 58; refine (l1in_any _ _ _ _).mono ?_; rw [HQ.out]; rintro x w1 ⟨rfl, rfl⟩)
          go_ret
          exact ⟨congrArg (fun s => Ending.returned (.string s)) (by rw [HR.out, HRN.out]; rfl), HA.out.1⟩
      · obtain rfl : j = 4 := by omega
        have HE := Lib.hid (show nmTo ⟨#[111, 117, 116]⟩ ns 4 = nameB 4 t e k p by
          rw [HR.out]
          have h2 := nmTo_yes (word := ⟨#[111, 117, 116]⟩) (ns := ns) (fun l hl h3 => HA.out.2.2 l hl (by rw [← HN.out]; exact h3))
          rw [HN.out] at h2
          exact h2)
        go_wp2
        go_ret
        exact ⟨congrArg (fun s => Ending.returned (.string s)) HE.out, HA.out.1⟩
  by_cases h5 : kind = 5
  · subst h5
    obtain ⟨ns, hns⟩ : ∃ ns : List Int, [t, e, k] = ns := ⟨_, rfl⟩
    have HR := Lib.hid (show nameB 5 t e k p = nameTx ⟨#[114, 101, 115]⟩ ns by rw [← hns]; rfl)
    have HN := Lib.hid (show ns.length = 3 by rw [← hns]; rfl)
    have HS := Lib.hid (show Nums0 (w.alloc (.cells #[.int .i64 t, .int .i64 e, .int .i64 k, .int .i64 p] 2)) w.heap.size ns from ⟨by simp, fun j hj => by
      rw [World.cell?_alloc_mark]
      subst hns
      have hj2 := hj
      simp only [List.length_cons, List.length_nil] at hj2
      match j, hj2 with
      | 0, _ => rfl
      | 1, _ => rfl
      | 2, _ => rfl⟩)
    have HI := Lib.hid (show inB 5 1 6 = true by decide)
    have HW := Lib.hid (show (⟨#[114, 101, 115]⟩ : ByteArray).size ≤ 5 by decide)
    clear hns
    go_enter Tryz.func36, Tryz.ntmps36
    go_wp2_with (go_at_call 58; refine (l1in_any _ _ _ _).mono ?_; rw [HI.out]; rintro x w1 ⟨rfl, rfl⟩)
    have HB0 := Lib.hid (below_alloc (below_alloc (below_alloc (Below.refl w.heap.size w) (.cells #[.int .i64 t, .int .i64 e, .int .i64 k, .int .i64 p] 2)) (.cells #[.int .i64 1, .int .i64 1, .int .i64 1, .int .i64 4, .int .i64 3] 3)) (.cells #[.string ⟨#[105, 110]⟩, .string ⟨#[99, 108, 97, 105, 109]⟩, .string ⟨#[109, 97, 114, 107]⟩, .string ⟨#[111, 117, 116]⟩, .string ⟨#[114, 101, 115]⟩] 9))
    go_loopw [12, 13] (fun s i wr => ∃ j : Nat, j ≤ 3 ∧ i = .int .i64 j ∧ s = .string (nmTo ⟨#[114, 101, 115]⟩ ns j) ∧ Hid (Below w.heap.size w wr ∧ Nums0 wr w.heap.size ns ∧ ∀ l, (hl : l < ns.length) → l < j → inB ns[l] 0 1000000 = true)) (fun _ i _ => 3 - (intOf i).toNat)
    case atStart => exact ⟨0, Nat.zero_le _, rfl, rfl, HB0.out, HS.out.keep (below_alloc (below_alloc (Below.refl _ _) _) _), fun j hj hk => by omega⟩
    case round =>
      obtain ⟨j, hj, rfl, rfl, HA⟩ := hrel
      clear HB0 HS
      have hsz := nmTo_size2 HW.out j (by rw [HN.out]; exact hj) HA.out.2.2
      by_cases hlt : j < 3
      · have hkl : j < ns.length := by rw [HN.out]; exact hlt
        have c0 := HA.out.2.1.cell j hkl
        obtain ⟨v, hv⟩ : ∃ v, ns[j] = v := ⟨_, rfl⟩
        rw [hv] at c0
        have HV := Lib.hid hv
        have HKL := Lib.hid hkl
        clear hv
        have hi0 : (0 : Int) ≤ (j : Int) := by omega
        have hi1 : (j : Int) < (3 : Int) := by omega
        have HNX := Lib.hid (nmTo_next (word := ⟨#[114, 101, 115]⟩) HKL.out HV.out)
        obtain ⟨cur, hcur⟩ : ∃ cur, nmTo ⟨#[114, 101, 115]⟩ ns j = cur := ⟨_, rfl⟩
        rw [hcur] at hsz HNX ⊢
        clear hcur
        cases hq : inB v 0 1000000 with
        | true =>
          have HQ := Lib.hid hq
          have hv0 : 0 ≤ v ∧ v ≤ 1000000 := inB_iff.1 hq
          have hz := @decB_size v (by omega) (by omega)
          clear hq
          go_wp2_with fail
          refine (l1in_any _ _ _ _).mono ?_
          rw [HQ.out]
          rintro x w1 ⟨rfl, rfl⟩
          go_wp2_with fail
          refine (l1dec_any v (by omega) (by omega) _).mono ?_
          rintro x w2 ⟨rfl, hB⟩
          have HB := Lib.hid (below_via HA.out.1 hB)
          have HNU := Lib.hid (HA.out.2.1.keep hB)
          clear hB c0
          go_wp2
          go_roundw
          case rel =>
            refine ⟨j + 1, by omega, by go_num, congrArg Value.string HNX.out, HB.out, HNU.out, fun l hl hlj => ?_⟩
            rcases Nat.lt_or_ge l j with h1 | h1
            · exact HA.out.2.2 l hl h1
            · obtain rfl : l = j := by omega
              rw [HV.out]; exact HQ.out
          case measure => simp [intOf]; omega
        | false =>
          have HRN := Lib.hid (name_no (word := ⟨#[114, 101, 115]⟩) (allIn_no HKL.out (by rw [HV.out]; exact hq)))
          have HQ := Lib.hid hq
          clear hq
          go_wp2_with (go_at_call 58; refine (l1in_any _ _ _ _).mono ?_; rw [HQ.out]; rintro x w1 ⟨rfl, rfl⟩)
          go_ret
          exact ⟨congrArg (fun s => Ending.returned (.string s)) (by rw [HR.out, HRN.out]; rfl), HA.out.1⟩
      · obtain rfl : j = 3 := by omega
        have HE := Lib.hid (show nmTo ⟨#[114, 101, 115]⟩ ns 3 = nameB 5 t e k p by
          rw [HR.out]
          have h2 := nmTo_yes (word := ⟨#[114, 101, 115]⟩) (ns := ns) (fun l hl h3 => HA.out.2.2 l hl (by rw [← HN.out]; exact h3))
          rw [HN.out] at h2
          exact h2)
        go_wp2
        go_ret
        exact ⟨congrArg (fun s => Ending.returned (.string s)) HE.out, HA.out.1⟩
  by_cases h6 : kind = 6
  · subst h6
    have HR := Lib.hid (show nameB 6 t e k p = ⟨#[106, 111, 98]⟩ from rfl)
    have HI := Lib.hid (show inB 6 1 6 = true by decide)
    go_enter Tryz.func36, Tryz.ntmps36
    go_wp2_with (go_at_call 58; refine (l1in_any _ _ _ _).mono ?_; rw [HI.out]; rintro x w1 ⟨rfl, rfl⟩)
    go_ret
    exact ⟨congrArg (fun s => Ending.returned (.string s)) HR.out.symm, Below.refl _ _⟩
  have HR := Lib.hid (show nameB kind t e k p = ByteArray.empty by unfold nameB; rw [if_neg h1, if_neg h2, if_neg h3, if_neg h4, if_neg h5, if_neg h6])
  have HI := Lib.hid (show inB kind 1 6 = false by
    cases hq : inB kind 1 6 with
    | false => rfl
    | true => rw [inB_iff] at hq; omega)
  clear h1 h2 h3 h4 h5 h6
  go_enter Tryz.func36, Tryz.ntmps36
  go_wp2_with (go_at_call 58; refine (l1in_any _ _ _ _).mono ?_; rw [HI.out]; rintro x w1 ⟨rfl, rfl⟩)
  go_ret
  exact ⟨congrArg (fun s => Ending.returned (.string s)) HR.out.symm, Below.refl _ _⟩
end Go.Proofs.YtbjlojmadellgaaGreatDoor
