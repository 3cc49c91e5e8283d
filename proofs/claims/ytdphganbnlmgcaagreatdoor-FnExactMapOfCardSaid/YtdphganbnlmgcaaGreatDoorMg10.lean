/- Texts put together, as a claim holds at most sixty files. -/
import Derived.Test.YtdphganbnlmgcaaGreatDoorMg8
import Derived.Test.YtdphganbnlmgcaaGreatDoorTabs
import Derived.Test.YtdphganbnlmgcaaGreatDoorShelf
import Derived.Test.YtdphganbnlmgcaaGreatDoorMg1
import Derived.Test.YtdphganbnlmgcaaGreatDoorMg9
import Derived.Lib.Join
import Derived.Test.YtdphganbnlmgcaaGreatDoorMg3
import Derived.Test.YtdphganbnlmgcaaGreatDoorTabsR
import Derived.Test.YtdphganbnlmgcaaGreatDoorJobIn
namespace Go.Proofs.YtdphganbnlmgcaaGreatDoor
open Go.ChangeShapes Go.WideShapes Go.ChangeAt Go.RowKit
set_option linter.unusedVariables false
set_option maxRecDepth 100000

/-- The numbers ns in a row of cells. -/
structure Nums (w : World) (g : Nat) (ns : List Int) : Prop where
  lt : g < w.heap.size
  cell : ∀ j (h : j < ns.length), w.cell? ⟨g, j, none⟩ = some (.int .i64 ns[j])
  ok : ∀ n ∈ ns, In64 n
theorem Nums.keep {w w1 : World} {g : Nat} {ns : List Int} (h : Nums w g ns) (hB : Below w.heap.size w w1) : Nums w1 g ns :=
  ⟨Nat.lt_of_lt_of_le h.lt hB.size, fun j hj => (hB.cell (p := ⟨g, j, none⟩) h.lt).trans (h.cell j hj), h.ok⟩

theorem join_few {ns : List Int} {sep : ByteArray} {N : Nat} (hl : N ≤ 4) (hn : ns.length ≤ 4) (hsep : sep.size ≤ 1) (h : ∀ n ∈ ns, In64 n) : (Lib.join (ns.map Lib.itoa) sep.data.toList).length ≤ 140737488355328 := by
  cases ns with
  | nil => simp [Lib.join_nil]
  | cons n r =>
    have hb : ∀ (l : List Int), (∀ n ∈ l, In64 n) → Lib.lens (l.map Lib.itoa) ≤ 20 * l.length := by
      intro l
      induction l with
      | nil => intro _; simp [Lib.lens]
      | cons a t ih =>
        intro ht
        have h1 := itoa_len (ht a (by simp)).1 (by have := (ht a (by simp)).2; omega)
        have h2 := ih (fun x hx => ht x (by simp [hx]))
        simp only [Lib.lens, List.map_cons, List.sum_cons, List.length_cons] at h2 ⊢
        omega
    have h1 := hb (n :: r) h
    rw [List.map_cons, Lib.join_length]
    rw [List.map_cons] at h1
    have h2 : sep.data.toList.length * (r.map Lib.itoa).length ≤ 1 * 4 := by
      apply Nat.mul_le_mul
      · simpa using hsep
      · simp at hn ⊢; omega
    simp only [List.length_cons] at h1 hn
    omega
def joinB (sep : ByteArray) (ns : List Int) : ByteArray := ⟨(Lib.join (ns.map Lib.itoa) sep.data.toList).toArray⟩

end Go.Proofs.YtdphganbnlmgcaaGreatDoor
namespace Go.Proofs.YtdphganbnlmgcaaGreatDoor
open Go.ChangeShapes Go.WideShapes Go.ChangeAt Go.RowKit
set_option linter.unusedVariables false
set_option maxRecDepth 100000

def insTx (op n : Int) (s : ByteArray) : ByteArray :=
  if op = 1 then ⟨#[102]⟩ ++ decB n else if op = 2 then ⟨#[116, 58]⟩ ++ s else if op = 3 then ⟨#[110]⟩ ++ decB n else textB op.toNat
def txAt (l : Instrs) (i : Nat) : ByteArray := insTx (ins0 l i) (ins1 l i) (ins2 l i)
def progTo (l : Instrs) : Nat → ByteArray
  | 0 => ByteArray.empty
  | k + 1 => (if 0 < k then progTo l k ++ ⟨#[32]⟩ else progTo l k) ++ txAt l k
def progTx (l : Instrs) : ByteArray := if progB l then progTo l l.length else ByteArray.empty
def txsOf (l : Instrs) (n : Nat) : List ByteArray := (List.range n).map (txAt l)

theorem join_snoc (xs : List (List UInt8)) (x sep : List UInt8) (h : xs ≠ []) : Lib.join (xs ++ [x]) sep = Lib.join xs sep ++ sep ++ x := by
  cases xs with
  | nil => exact absurd rfl h
  | cons a r =>
    rw [List.cons_append, Lib.join_cons, Lib.join_cons]
    simp [Lib.joinTail]
theorem join_prog (l : Instrs) : ∀ n, Lib.join ((txsOf l n).map (·.data.toList)) [32] = (progTo l n).data.toList
  | 0 => rfl
  | n + 1 => by
    have e : (txsOf l (n + 1)).map (·.data.toList) = (txsOf l n).map (·.data.toList) ++ [(txAt l n).data.toList] := by
      simp [txsOf, List.range_succ]
    rw [e]
    by_cases hn : n = 0
    · subst hn
      simp [txsOf, Lib.join_one, progTo]
    · have hne : (txsOf l n).map (·.data.toList) ≠ [] := by
        intro h
        have := congrArg List.length h
        simp [txsOf] at this
        exact hn this
      rw [join_snoc _ _ _ hne, join_prog l n]
      show _ = ((if 0 < n then progTo l n ++ ⟨#[32]⟩ else progTo l n) ++ txAt l n).data.toList
      rw [if_pos (by omega)]
      simp
theorem prog_ins {l : Instrs} (h : progB l = true) {k : Nat} (hk : k < l.length) : instrB (ins0 l k) (ins1 l k) (ins2 l k) = true := by
  cases hi : instrB (ins0 l k) (ins1 l k) (ins2 l k) with
  | true => rfl
  | false =>
    have := prog_bad (k := k + 1) (by omega) (stk_wrong hi)
    rw [h] at this
    cases this
theorem prog_few {l : Instrs} (h : progB l = true) : l.length ≤ 30 := by
  by_cases h30 : l.length ≤ 30
  · exact h30
  · rw [prog_long h30] at h; cases h
theorem pushB_size {s : ByteArray} (h : pushB s = true) : s.size ≤ 20 := by
  unfold pushB at h
  simp only [Bool.and_eq_true, decide_eq_true_eq] at h
  omega
theorem text_few (x : Nat) : (textB x).size ≤ 6 := by
  unfold textB
  split <;> decide
theorem ins_ways {op n : Int} {s : ByteArray} (h : instrB op n s = true) :
    (op = 1 ∧ s.size = 0) ∨ (op = 2 ∧ s.size ≤ 20) ∨ (op = 3 ∧ s.size = 0) ∨ ∃ x : Nat, op = (x : Int) + 4 ∧ x < 11 ∧ s.size = 0 := by
  unfold instrB at h
  split at h
  · simp only [Bool.and_eq_true, decide_eq_true_eq] at h; exact .inl ⟨by assumption, h.2⟩
  · split at h
    · simp only [Bool.and_eq_true, decide_eq_true_eq] at h; exact .inr (.inl ⟨by assumption, pushB_size h.2⟩)
    · split at h
      · simp only [decide_eq_true_eq] at h; exact .inr (.inr (.inl ⟨by assumption, h⟩))
      · simp only [Bool.and_eq_true, decide_eq_true_eq] at h
        exact .inr (.inr (.inr ⟨(op - 4).toNat, by omega, by omega, h.2.2⟩))
theorem insTx_size {op n : Int} {s : ByteArray} (h : instrB op n s = true) (hn : In64 n) : (insTx op n s).size ≤ 22 := by
  have hd : (decB n).size ≤ 20 := decB_size hn.1 (by have := hn.2; omega)
  unfold insTx
  rcases ins_ways h with ⟨rfl, h0⟩ | ⟨rfl, h0⟩ | ⟨rfl, h0⟩ | ⟨x, rfl, hx, h0⟩
  · rw [if_pos rfl, ByteArray.size_append]; show 1 + _ ≤ _; omega
  · rw [if_neg (by decide), if_pos rfl, ByteArray.size_append]; show 2 + _ ≤ _; omega
  · rw [if_neg (by decide), if_neg (by decide), if_pos rfl, ByteArray.size_append]; show 1 + _ ≤ _; omega
  · rw [if_neg (by omega), if_neg (by omega), if_neg (by omega)]
    have := text_few ((x : Int) + 4).toNat
    omega
theorem progTo_size {l : Instrs} (h : progB l = true) (hn : ∀ i, i < l.length → In64 (ins1 l i)) : ∀ k, k ≤ l.length → (progTo l k).size ≤ 23 * k
  | 0, _ => by show (0 : Nat) ≤ _; omega
  | k + 1, hk => by
    have h1 := progTo_size h hn k (by omega)
    have h2 := insTx_size (prog_ins h (show k < l.length by omega)) (hn k (by omega))
    show ((if 0 < k then progTo l k ++ ⟨#[32]⟩ else progTo l k) ++ txAt l k).size ≤ _
    rw [ByteArray.size_append]
    have h3 : (txAt l k).size ≤ 22 := h2
    split
    · rw [ByteArray.size_append]; show _ + 1 + _ ≤ _; omega
    · omega

structure TabsPT (w : World) : Prop where
  pow : Tabs w
  forms : TabsP w
theorem TabsPT.keep {w w' : World} (h : TabsPT w) (hB : Below w.heap.size w w') : TabsPT w' := ⟨h.pow.keep hB, h.forms.keep hB⟩
theorem tabspt_of {W : World} (h : laidMet Tryz.prog [("math/bits.deBruijn32tab", Rows.laid_math_bits_deBruijn32tab), ("math/bits.deBruijn64tab", Rows.laid_math_bits_deBruijn64tab), ("internal/strconv.uint64pow10", Rows.laid_internal_strconv_uint64pow10), ("loop.example/g00703/impl.opForms", Rows.laid_loop_example_g00703_impl_opForms)] W) : TabsPT W :=
  ⟨Lib.tabIs_of_head (k := .u64) (zs := Lib.pow10Tab) gPow gPowType Tryz.underlying218 Tryz.underlying132 gU64Cells gPowCells h.tail.tail, tabsp_of h.tail.tail.tail⟩
end Go.Proofs.YtdphganbnlmgcaaGreatDoor
namespace Go.Proofs.YtdphganbnlmgcaaGreatDoor
open Go.ChangeShapes Go.WideShapes Go.ChangeAt Go.RowKit Go.Joins
set_option linter.unusedVariables false
set_option maxRecDepth 100000

structure TabsRP (w : World) : Prop where
  num : TabsR w
  forms : TabsP w
theorem TabsRP.keep {w w' : World} (h : TabsRP w) (hB : Below w.heap.size w w') : TabsRP w' := ⟨h.num.keep hB, h.forms.keep hB⟩
theorem TabsRP.pt {w : World} (h : TabsRP w) : TabsPT w := ⟨h.num.pow, h.forms⟩
theorem tabsrp_of {W : World} (hsh : W.ShapedOpen Tryz.prog) (h : laidMet Tryz.prog [("math/bits.deBruijn32tab", Rows.laid_math_bits_deBruijn32tab), ("math/bits.deBruijn64tab", Rows.laid_math_bits_deBruijn64tab), ("internal/strconv.uint64pow10", Rows.laid_internal_strconv_uint64pow10), ("strconv.ErrRange", Rows.laid_strconv_ErrRange), ("strconv.ErrSyntax", Rows.laid_strconv_ErrSyntax), ("loop.example/g00703/impl.opForms", Rows.laid_loop_example_g00703_impl_opForms)] W) : TabsRP W := by
  obtain ⟨a0, s0, hv0, -, -, -⟩ := laid_sentinel (nm := "*errors.errorString") h.tail.tail.tail gRng gRngType Tryz.underlying190 rowES Tryz.underlying226 Tryz.underlying228 rfl rfl Tryz.underlying9 cellsES cellsStr1
  obtain ⟨a1, s1, hv1, -, -, -⟩ := laid_sentinel (nm := "*errors.errorString") h.tail.tail.tail.tail gSyn gSynType Tryz.underlying190 rowES Tryz.underlying226 Tryz.underlying228 rfl rfl Tryz.underlying9 cellsES cellsStr1
  have hp : Tabs W := Lib.tabIs_of_head (k := .u64) (zs := Lib.pow10Tab) gPow gPowType Tryz.underlying218 Tryz.underlying132 gU64Cells gPowCells h.tail.tail
  exact ⟨⟨hp, ⟨_, _, by simpa using World.var?_cell gSyn hv1 0⟩, ⟨_, _, by simpa using World.var?_cell gRng hv0 0⟩,
    Go.Proofs.cell_of_shapedOpen_int (zero := #[.int .i64 0]) (t := 3) hsh (of_decide_eq_true (by kernel_rfl)) (by kernel_rfl) rfl (by kernel_rfl) (by kernel_rfl) Tryz.underlying3⟩,
    tabsp_of h.tail.tail.tail.tail.tail⟩
end Go.Proofs.YtdphganbnlmgcaaGreatDoor
namespace Go.Proofs.YtdphganbnlmgcaaGreatDoor
open Go.ChangeShapes Go.WideShapes Go.ChangeAt Go.RowKit Go.Deep
set_option linter.unusedVariables false
set_option maxRecDepth 100000

theorem in64_wfN {n : Int} (h : (Lit.int .i64 n).wf = true) : In64 n := by
  exact bounds_i64 h
theorem ins_of_trodN {H : Type} {enc : TypeId × Value → H} {w : World} {base : Nat} {spare : Nat → Bool} {held : Bool} {fuel : Nat} {cs : List Value} {x : DataW H × List MemPlace}
    (h : DataW.trod enc Tryz.prog w base spare held fuel 80 cs = some x) : ∃ (x0 : Int) (x1 : Int) (x2 : ByteArray), cs = [.int .i64 x0, .int .i64 x1, .string x2] ∧ x2.size ≤ maxLen ∧ In64 x1 := by
  obtain ⟨y0, y1, y2, m, _, hl, h0, h1, h2⟩ := trod_struct3 Tryz.underlying80 h
  rw [cellsInstr] at hl
  obtain ⟨x0, e0, _, _⟩ := DataW.trod_int Tryz.underlying2 h0
  obtain ⟨x1, e1, _, w1⟩ := DataW.trod_int Tryz.underlying2 h1
  obtain ⟨x2, e2, _, hs2⟩ := DataW.trod_string Tryz.underlying9 h2
  match cs, hl with
  | [c0, c1, c2], _ =>
    have k0 : Tryz.prog.cellsOf 9 = 1 := by kernel_rfl
    have k1 : Tryz.prog.cellsOf 2 = 1 := by kernel_rfl
    simp [k1] at e0
    simp [k1] at e1
    simp [k0] at e2
    exact ⟨x0, x1, x2, by rw [e0, e1, e2], hs2, in64_wfN w1⟩

theorem inss_of_trodN {H : Type} {enc : TypeId × Value → H} {w : World} {base : Nat} {spare : Nat → Bool} {held : Bool} {fuel : Nat} {a : Option Addr} {len cap : Nat} {x : DataW H × List MemPlace}
    (h : DataW.trod enc Tryz.prog w base spare held fuel 22 [.slice a len cap] = some x) : ∃ l, InstrsAt w a len l ∧ ∀ i, i < len → In64 (ins1 l i) := by
  rcases open_slice Tryz.underlying22 h with ⟨hcs, _⟩ | ⟨ad, len', cap', m, n, D, Pl, hcs, _, hl, hm, hmm, _, hx⟩
  · simp at hcs
    obtain ⟨rfl, rfl, rfl⟩ := hcs
    exact ⟨[], ⟨rfl, Nat.zero_le _, fun i hi => by omega, .inl rfl⟩, fun i hi => by omega⟩
  · simp at hcs
    obtain ⟨rfl, rfl, rfl⟩ := hcs
    by_cases h0 : len = 0
    · subst h0
      exact ⟨[], ⟨rfl, Nat.zero_le _, fun i hi => by omega, .inl rfl⟩, fun i hi => by omega⟩
    · have hlm : len ≤ m := by rw [hmm]; split <;> omega
      rw [cellsInstr] at hx
      obtain ⟨b, off, spot⟩ := ad
      have hall : ∀ i, i < len → ∃ r : Int × Int × ByteArray, (w.cell? (((⟨b, off, spot⟩ : Addr).add (i * 3))) = some (.int .i64 r.1) ∧ w.cell? (((⟨b, off, spot⟩ : Addr).add (i * 3)).add 1) = some (.int .i64 r.2.1) ∧ w.cell? (((⟨b, off, spot⟩ : Addr).add (i * 3)).add 2) = some (.string r.2.2)) ∧ (r.2.2.size ≤ maxLen ∧ In64 r.2.1) := by
        intro i hi
        obtain ⟨cs', h1, h2⟩ := hx i (by omega)
        obtain ⟨x0, x1, x2, rfl, hs2⟩ := ins_of_trodN h2
        obtain ⟨_, _, hc⟩ := World.cells?_some h1
        refine ⟨(x0, x1, x2), ⟨?_, ?_, ?_⟩, hs2⟩
        · have := hc 0 (by simp)
          simpa [Addr.add] using this
        · have := hc 1 (by simp)
          simpa [Addr.add] using this
        · have := hc 2 (by simp)
          simpa [Addr.add] using this
      obtain ⟨R, hR⟩ := choose_lt hall
      have hspot : spot = none := by
        have := World.cell?_spot (hR 0 (by omega)).1.1
        simpa [Addr.add] using this
      subst hspot
      have hget : ∀ i, i < len → ((List.range len).map R).getD i (0, 0, ByteArray.empty) = R i := by
        intro i hi
        rw [List.getD_eq_getElem?_getD, List.getElem?_map, List.getElem?_range hi]; rfl
      refine ⟨(List.range len).map R, ⟨by simp, by omega, fun i hi => ?_, .inr ⟨b, off, rfl, ?_, fun i hi => ?_⟩⟩, fun i hi => ?_⟩
      · unfold ins2; rw [hget i hi]; exact (hR i hi).2.1
      · have := World.block_lt_of_cell? _ _ (hR 0 (by omega)).1.1
        simpa [Addr.add] using this
      · have h1 := (hR i hi).1
        unfold ins0 ins1 ins2
        rw [hget i hi]
        simpa only [add_ins] using h1
      · unfold ins1; rw [hget i hi]; exact (hR i hi).2.2
end Go.Proofs.YtdphganbnlmgcaaGreatDoor
namespace Go.Proofs.YtdphganbnlmgcaaGreatDoor
open Go.ChangeShapes Go.WideShapes Go.ChangeAt Go.RowKit Go.Deep Go.Joins
set_option linter.unusedVariables false
set_option maxRecDepth 100000

theorem inss_sliceN {H : Type} {enc : TypeId × Value → H} {w : World} {base : Nat} {spare : Nat → Bool} {held : Bool} {fuel : Nat} {c : Value} {x : DataW H × List MemPlace}
    (h : DataW.trod enc Tryz.prog w base spare held fuel 22 [c] = some x) : ∃ a la ca l, c = .slice a la ca ∧ InstrsAt w a la l ∧ ∀ i, i < la → In64 (ins1 l i) := by
  have h' := h
  rcases open_slice Tryz.underlying22 h with ⟨hcs, _⟩ | ⟨ad, len', cap', m, n, D, Pl, hcs, _⟩
  · simp at hcs
    subst hcs
    obtain ⟨l, hl⟩ := inss_of_trodN h'
    exact ⟨_, _, _, l, rfl, hl⟩
  · simp at hcs
    subst hcs
    obtain ⟨l, hl⟩ := inss_of_trodN h'
    exact ⟨_, _, _, l, rfl, hl⟩
theorem job_of_trodN {H : Type} {enc : TypeId × Value → H} {w : World} {base : Nat} {spare : Nat → Bool} {held : Bool} {r : Reach} {b0 : Nat} {v : Value} {d : DataW H} {ps : List MemPlace}
    (hv : Value.okWide Tryz.prog w r b0 25 v) (h : DataW.Trod enc Tryz.prog w base spare held 25 v d ps) :
    ∃ p pl pc e1 o1 n1 s sl sc l m, (JobAt w p pl l s sl m ∧ ∀ i, i < pl → In64 (ins1 l i)) ∧ v = .agg #[.slice p pl pc, .bool e1, .int .i64 o1, .int .i64 n1, .slice s sl sc] := by
  obtain ⟨c0, c1, c2, c3, c4, y0, y1, y2, y3, y4, n, rfl, h0, h1, h2, h3, h4⟩ := open_agg5 Tryz.underlying25 (by kernel_rfl) cellsJob hv h
  obtain ⟨p, pl, pc, l, rfl, hl, hN⟩ := inss_sliceN h0
  obtain ⟨e1, q1, _⟩ := DataW.trod_bool Tryz.underlying4 h1
  obtain ⟨o1, q2, _⟩ := DataW.trod_int Tryz.underlying2 h2
  obtain ⟨n1, q3, _⟩ := DataW.trod_int Tryz.underlying2 h3
  obtain ⟨s, sl, sc, m, rfl, hm⟩ := strs_slice h4
  simp at q1 q2 q3
  subst q1 q2 q3
  exact ⟨p, pl, pc, e1, o1, n1, s, sl, sc, l, m, ⟨⟨hl, hm⟩, hN⟩, rfl⟩
end Go.Proofs.YtdphganbnlmgcaaGreatDoor
