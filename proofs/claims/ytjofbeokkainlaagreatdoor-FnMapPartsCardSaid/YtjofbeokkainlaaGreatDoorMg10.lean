/- Texts put together, as a claim holds at most sixty files. -/
import Derived.Test.YtjofbeokkainlaaGreatDoorMg8
import Derived.Test.YtjofbeokkainlaaGreatDoorTabs
import Derived.Test.YtjofbeokkainlaaGreatDoorShelf
import Derived.Test.YtjofbeokkainlaaGreatDoorMg1
import Derived.Test.YtjofbeokkainlaaGreatDoorMg9
import Derived.Lib.Join
import Derived.Test.YtjofbeokkainlaaGreatDoorTabsP
import Derived.Test.YtjofbeokkainlaaGreatDoorTabsR
import Derived.Test.YtjofbeokkainlaaGreatDoorMg11
import Derived.Test.YtjofbeokkainlaaGreatDoorMg12
import Derived.Test.YtjofbeokkainlaaGreatDoorMg0
import Derived.Test.YtjofbeokkainlaaGreatDoorMg15
namespace Go.Proofs.YtjofbeokkainlaaGreatDoor
open Go.ChangeShapes Go.WideShapes Go.ChangeAt Go.RowKit
set_option linter.unusedVariables false
set_option maxRecDepth 100000

/-- The numbers ns in a row of cells. -/
structure Nums (w : World) (g : Nat) (ns : List Int) : Prop where
  lt : g < w.heap.size
  cell : ∀ j (h : j < ns.length), w.cell? ⟨g, j, none⟩ = some (.int .i64 ns[j])
  ok : ∀ n ∈ ns, In64 n
theorem Nums.keep {w w1 : World} {g : Nat} {ns : List Int} (h : Nums w g ns) (hB : Below w.heap.size w w1) : Nums w1 g ns :=
  ⟨Nat.lt_of_lt_of_le h.lt hB.size, fun j hj => (hB.cell (p := ⟨g, j, none⟩) h.lt).trans (h.cell j hj), h.ok⟩

theorem join_few {ns : List Int} {sep : ByteArray} {N : Nat} (hl : N ≤ 4) (hn : ns.length ≤ 4) (hsep : sep.size ≤ 1) (h : ∀ n ∈ ns, In64 n) : (Lib.join (ns.map Lib.itoa) sep.data.toList).length ≤ 140737488355328 := by
  cases ns with
  | nil => simp [Lib.join_nil]
  | cons n r =>
    have hb : ∀ (l : List Int), (∀ n ∈ l, In64 n) → Lib.lens (l.map Lib.itoa) ≤ 20 * l.length := by
      intro l
      induction l with
      | nil => intro _; simp [Lib.lens]
      | cons a t ih =>
        intro ht
        have h1 := itoa_len (ht a (by simp)).1 (by have := (ht a (by simp)).2; omega)
        have h2 := ih (fun x hx => ht x (by simp [hx]))
        simp only [Lib.lens, List.map_cons, List.sum_cons, List.length_cons] at h2 ⊢
        omega
    have h1 := hb (n :: r) h
    rw [List.map_cons, Lib.join_length]
    rw [List.map_cons] at h1
    have h2 : sep.data.toList.length * (r.map Lib.itoa).length ≤ 1 * 4 := by
      apply Nat.mul_le_mul
      · simpa using hsep
      · simp at hn ⊢; omega
    simp only [List.length_cons] at h1 hn
    omega
def joinB (sep : ByteArray) (ns : List Int) : ByteArray := ⟨(Lib.join (ns.map Lib.itoa) sep.data.toList).toArray⟩

end Go.Proofs.YtjofbeokkainlaaGreatDoor
namespace Go.Proofs.YtjofbeokkainlaaGreatDoor
open Go.ChangeShapes Go.WideShapes Go.ChangeAt Go.RowKit
set_option linter.unusedVariables false
set_option maxRecDepth 100000

def insTx (op n : Int) (s : ByteArray) : ByteArray :=
  if op = 1 then ⟨#[102]⟩ ++ decB n else if op = 2 then ⟨#[116, 58]⟩ ++ s else if op = 3 then ⟨#[110]⟩ ++ decB n else textB op.toNat
def txAt (l : Instrs) (i : Nat) : ByteArray := insTx (ins0 l i) (ins1 l i) (ins2 l i)
def progTo (l : Instrs) : Nat → ByteArray
  | 0 => ByteArray.empty
  | k + 1 => (if 0 < k then progTo l k ++ ⟨#[32]⟩ else progTo l k) ++ txAt l k
def progTx (l : Instrs) : ByteArray := if progB l then progTo l l.length else ByteArray.empty
def txsOf (l : Instrs) (n : Nat) : List ByteArray := (List.range n).map (txAt l)

theorem join_snoc (xs : List (List UInt8)) (x sep : List UInt8) (h : xs ≠ []) : Lib.join (xs ++ [x]) sep = Lib.join xs sep ++ sep ++ x := by
  cases xs with
  | nil => exact absurd rfl h
  | cons a r =>
    rw [List.cons_append, Lib.join_cons, Lib.join_cons]
    simp [Lib.joinTail]
theorem join_prog (l : Instrs) : ∀ n, Lib.join ((txsOf l n).map (·.data.toList)) [32] = (progTo l n).data.toList
  | 0 => rfl
  | n + 1 => by
    have e : (txsOf l (n + 1)).map (·.data.toList) = (txsOf l n).map (·.data.toList) ++ [(txAt l n).data.toList] := by
      simp [txsOf, List.range_succ]
    rw [e]
    by_cases hn : n = 0
    · subst hn
      simp [txsOf, Lib.join_one, progTo]
    · have hne : (txsOf l n).map (·.data.toList) ≠ [] := by
        intro h
        have := congrArg List.length h
        simp [txsOf] at this
        exact hn this
      rw [join_snoc _ _ _ hne, join_prog l n]
      show _ = ((if 0 < n then progTo l n ++ ⟨#[32]⟩ else progTo l n) ++ txAt l n).data.toList
      rw [if_pos (by omega)]
      simp
theorem prog_ins {l : Instrs} (h : progB l = true) {k : Nat} (hk : k < l.length) : instrB (ins0 l k) (ins1 l k) (ins2 l k) = true := by
  cases hi : instrB (ins0 l k) (ins1 l k) (ins2 l k) with
  | true => rfl
  | false =>
    have := prog_bad (k := k + 1) (by omega) (stk_wrong hi)
    rw [h] at this
    cases this
theorem prog_few {l : Instrs} (h : progB l = true) : l.length ≤ 30 := by
  by_cases h30 : l.length ≤ 30
  · exact h30
  · rw [prog_long h30] at h; cases h
theorem pushB_size {s : ByteArray} (h : pushB s = true) : s.size ≤ 20 := by
  unfold pushB at h
  simp only [Bool.and_eq_true, decide_eq_true_eq] at h
  omega
theorem text_few (x : Nat) : (textB x).size ≤ 6 := by
  unfold textB
  split <;> decide
theorem ins_ways {op n : Int} {s : ByteArray} (h : instrB op n s = true) :
    (op = 1 ∧ s.size = 0) ∨ (op = 2 ∧ s.size ≤ 20) ∨ (op = 3 ∧ s.size = 0) ∨ ∃ x : Nat, op = (x : Int) + 4 ∧ x < 11 ∧ s.size = 0 := by
  unfold instrB at h
  split at h
  · simp only [Bool.and_eq_true, decide_eq_true_eq] at h; exact .inl ⟨by assumption, h.2⟩
  · split at h
    · simp only [Bool.and_eq_true, decide_eq_true_eq] at h; exact .inr (.inl ⟨by assumption, pushB_size h.2⟩)
    · split at h
      · simp only [decide_eq_true_eq] at h; exact .inr (.inr (.inl ⟨by assumption, h⟩))
      · simp only [Bool.and_eq_true, decide_eq_true_eq] at h
        exact .inr (.inr (.inr ⟨(op - 4).toNat, by omega, by omega, h.2.2⟩))
theorem insTx_size {op n : Int} {s : ByteArray} (h : instrB op n s = true) (hn : In64 n) : (insTx op n s).size ≤ 22 := by
  have hd : (decB n).size ≤ 20 := decB_size hn.1 (by have := hn.2; omega)
  unfold insTx
  rcases ins_ways h with ⟨rfl, h0⟩ | ⟨rfl, h0⟩ | ⟨rfl, h0⟩ | ⟨x, rfl, hx, h0⟩
  · rw [if_pos rfl, ByteArray.size_append]; show 1 + _ ≤ _; omega
  · rw [if_neg (by decide), if_pos rfl, ByteArray.size_append]; show 2 + _ ≤ _; omega
  · rw [if_neg (by decide), if_neg (by decide), if_pos rfl, ByteArray.size_append]; show 1 + _ ≤ _; omega
  · rw [if_neg (by omega), if_neg (by omega), if_neg (by omega)]
    have := text_few ((x : Int) + 4).toNat
    omega
theorem progTo_size {l : Instrs} (h : progB l = true) (hn : ∀ i, i < l.length → In64 (ins1 l i)) : ∀ k, k ≤ l.length → (progTo l k).size ≤ 23 * k
  | 0, _ => by show (0 : Nat) ≤ _; omega
  | k + 1, hk => by
    have h1 := progTo_size h hn k (by omega)
    have h2 := insTx_size (prog_ins h (show k < l.length by omega)) (hn k (by omega))
    show ((if 0 < k then progTo l k ++ ⟨#[32]⟩ else progTo l k) ++ txAt l k).size ≤ _
    rw [ByteArray.size_append]
    have h3 : (txAt l k).size ≤ 22 := h2
    split
    · rw [ByteArray.size_append]; show _ + 1 + _ ≤ _; omega
    · omega

structure TabsPT (w : World) : Prop where
  pow : Tabs w
  forms : TabsP w
theorem TabsPT.keep {w w' : World} (h : TabsPT w) (hB : Below w.heap.size w w') : TabsPT w' := ⟨h.pow.keep hB, h.forms.keep hB⟩
theorem tabspt_of {W : World} (h : laidMet Tryz.prog [("math/bits.deBruijn32tab", Rows.laid_math_bits_deBruijn32tab), ("math/bits.deBruijn64tab", Rows.laid_math_bits_deBruijn64tab), ("internal/strconv.uint64pow10", Rows.laid_internal_strconv_uint64pow10), ("loop.example/g00703/impl.opForms", Rows.laid_loop_example_g00703_impl_opForms)] W) : TabsPT W :=
  ⟨Lib.tabIs_of_head (k := .u64) (zs := Lib.pow10Tab) gPow gPowType Tryz.underlying211 Tryz.underlying115 gU64Cells gPowCells h.tail.tail, tabsp_of h.tail.tail.tail⟩
end Go.Proofs.YtjofbeokkainlaaGreatDoor
namespace Go.Proofs.YtjofbeokkainlaaGreatDoor
open Go.ChangeShapes Go.WideShapes Go.ChangeAt Go.RowKit Go.Joins
set_option linter.unusedVariables false
set_option maxRecDepth 100000

structure TabsRP (w : World) : Prop where
  num : TabsR w
  forms : TabsP w
theorem TabsRP.keep {w w' : World} (h : TabsRP w) (hB : Below w.heap.size w w') : TabsRP w' := ⟨h.num.keep hB, h.forms.keep hB⟩
theorem TabsRP.pt {w : World} (h : TabsRP w) : TabsPT w := ⟨h.num.pow, h.forms⟩
theorem tabsrp_of {W : World} (hsh : W.ShapedOpen Tryz.prog) (h : laidMet Tryz.prog [("math/bits.deBruijn32tab", Rows.laid_math_bits_deBruijn32tab), ("math/bits.deBruijn64tab", Rows.laid_math_bits_deBruijn64tab), ("internal/strconv.uint64pow10", Rows.laid_internal_strconv_uint64pow10), ("strconv.ErrRange", Rows.laid_strconv_ErrRange), ("strconv.ErrSyntax", Rows.laid_strconv_ErrSyntax), ("loop.example/g00703/impl.opForms", Rows.laid_loop_example_g00703_impl_opForms)] W) : TabsRP W := by
  obtain ⟨a0, s0, hv0, -, -, -⟩ := laid_sentinel (nm := "*errors.errorString") h.tail.tail.tail gRng gRngType Tryz.underlying186 rowES Tryz.underlying219 Tryz.underlying221 rfl rfl Tryz.underlying9 cellsES cellsStr1
  obtain ⟨a1, s1, hv1, -, -, -⟩ := laid_sentinel (nm := "*errors.errorString") h.tail.tail.tail.tail gSyn gSynType Tryz.underlying186 rowES Tryz.underlying219 Tryz.underlying221 rfl rfl Tryz.underlying9 cellsES cellsStr1
  have hp : Tabs W := Lib.tabIs_of_head (k := .u64) (zs := Lib.pow10Tab) gPow gPowType Tryz.underlying211 Tryz.underlying115 gU64Cells gPowCells h.tail.tail
  exact ⟨⟨hp, ⟨_, _, by simpa using World.var?_cell gSyn hv1 0⟩, ⟨_, _, by simpa using World.var?_cell gRng hv0 0⟩,
    Go.Proofs.cell_of_shapedOpen_int (zero := #[.int .i64 0]) (t := 3) hsh (of_decide_eq_true (by kernel_rfl)) (by kernel_rfl) rfl (by kernel_rfl) (by kernel_rfl) Tryz.underlying3⟩,
    tabsp_of h.tail.tail.tail.tail.tail⟩
end Go.Proofs.YtjofbeokkainlaaGreatDoor
namespace Go.Proofs.YtjofbeokkainlaaGreatDoor
open Go.ChangeShapes Go.WideShapes Go.ChangeAt Go.RowKit
set_option linter.unusedVariables false
set_option maxRecDepth 100000

def FineI (l : Instrs) : Prop := ∀ x ∈ l, In64 x.2.1 ∧ x.2.2.size ≤ 25
theorem fine_app {l m : Instrs} (h : FineI l) (k : FineI m) : FineI (l ++ m) := fun x hx => by
  rcases List.mem_append.1 hx with e | e
  · exact h x e
  · exact k x e
theorem fine_nil : FineI [] := fun x hx => by cases hx
theorem fine_cons {x : Int × Int × ByteArray} {l : Instrs} (h1 : In64 x.2.1) (h2 : x.2.2.size ≤ 25) (h : FineI l) : FineI (x :: l) := fun y hy => by
  rcases List.mem_cons.1 hy with e | e
  · subst e; exact ⟨h1, h2⟩
  · exact h y e
theorem wf_in64 {n : Int} (h : (Lit.int .i64 n).wf = true) : In64 n := by
  exact bounds_i64 h
theorem fine_num {op n : Int} {l : Instrs} (h1 : In64 n) (h : FineI l) : FineI ((op, n, ByteArray.empty) :: l) := fine_cons h1 (Nat.zero_le _) h
theorem fine_txt {op : Int} {s : ByteArray} {l : Instrs} (h1 : s.size ≤ 25) (h : FineI l) : FineI ((op, 0, s) :: l) := fine_cons (show In64 0 from ⟨by decide, by decide⟩) h1 h
structure DrawnI (w wr : World) (r : Nat) (a : Option Addr) (len cap : Nat) (v : Value) (n : Nat) (W : Instrs) : Prop where
  own : wr.ownsRow w.heap.size 89 3 v n (cellsI W)
  size : W.length = n
  went : Went w r a len cap wr
  fine : FineI W
theorem went_row {w w1 w2 : World} {r : Nat} {a : Option Addr} {len cap : Nat} {row : Option Nat} (h : Went w r a len cap w1) (hg : w1.grownBy w2 row) (hr : r < w.heap.size) (hrow : ∀ k, row = some k → w.heap.size ≤ k) : Went w r a len cap w2 := by
  have hne : ∀ i, i < w.heap.size → some i ≠ row := fun i hi e => by have := hrow i e.symm; omega
  refine ⟨⟨hg.os.trans h.grown.os, hg.tape.trans h.grown.tape, hg.output.trans h.grown.output, Nat.le_trans h.grown.size hg.size, fun i hi hn => ?_⟩, ?_⟩
  · exact (hg.block i (Nat.lt_of_lt_of_le hi h.grown.size) (hne i hi)).trans (h.grown.block i hi hn)
  · refine h.rdr.below ⟨hg.os, hg.tape, hg.output, hg.size, fun k hk => ?_⟩
    exact hg.block k (Nat.lt_of_lt_of_le (by omega) h.grown.size) (hne k (by omega))
theorem own_wentI {w w1 : World} {base r : Nat} {a : Option Addr} {len cap : Nat} {e : TypeId} {size : Nat} {v : Value} {n : Nat} {xs : List Value} (h : w.ownsRow base e size v n xs) (hw : Went w r a len cap w1) (hr : r < base) : w1.ownsRow base e size v n xs :=
  h.kept hw.grown (by
    by_cases hv : v.ownBlock = none
    · exact .inl hv
    · refine .inr fun he => ?_
      have := (h.lt r he).1
      omega)
theorem DrawnI.trans {w wr w1 : World} {r : Nat} {a : Option Addr} {len cap : Nat} {v : Value} {n : Nat} {W : Instrs} (h : DrawnI w wr r a len cap v n W) (hr : r < w.heap.size) (hw : Went wr r a len cap w1) : DrawnI w w1 r a len cap v n W :=
  ⟨own_wentI h.own hw hr, h.size, h.went.trans hw, h.fine⟩
theorem DrawnI.alloc {w wr : World} {r : Nat} {a : Option Addr} {len cap : Nat} {v : Value} {n : Nat} {W : Instrs} (h : DrawnI w wr r a len cap v n W) (o : Obj) : DrawnI w (wr.alloc o) r a len cap v n W :=
  ⟨h.own.alloc o, h.size, h.went.alloc o, h.fine⟩
theorem DrawnI.add {w wr w1 : World} {r : Nat} {a : Option Addr} {len cap : Nat} {v v' : Value} {n m : Nat} {W L : Instrs} (h : DrawnI w wr r a len cap v n W) (hr : r < w.heap.size) (hL : FineI L) (hm : L.length = m)
    (hown : w1.ownsRow w.heap.size 89 3 v' (n + m) (cellsI W ++ cellsI L)) (hg : wr.grownBy w1 v.ownBlock) : DrawnI w w1 r a len cap v' (n + m) (W ++ L) :=
  ⟨by rw [cellsI_app]; exact hown, by rw [List.length_append, h.size, hm], went_row h.went hg hr (fun k hk => (h.own.lt k hk).1), fine_app h.fine hL⟩
theorem own_src {w : World} {base n cp : Nat} {q : Option Addr} {l : Instrs} (h : w.ownsRow base 89 3 (.slice q n cp) n (cellsI l)) (h0 : 0 < n) (hn : l.length = n) :
    ∃ g, q = some ⟨g, 0, none⟩ ∧ base ≤ g ∧ ∀ j u, (cellsI l)[j]? = some u → w.cell? ((⟨g, 0, none⟩ : Addr).add j) = some u := by
  obtain ⟨g, cur, rfl, hb, hr, hs⟩ := own_insrow h h0
  refine ⟨g, rfl, hb, fun j u hj => ?_⟩
  have hlt : j < n * 3 := by
    have := (List.getElem?_eq_some_iff.1 hj).1
    rw [cellsI_len, hn] at this
    exact this
  have := h.cellAt j hlt
  rw [hj] at this
  have e : ((⟨g, 0, none⟩ : Addr).add j) = ⟨g, j, none⟩ := by simp [Addr.add]; omega
  rw [e]; exact this
theorem cellsI_one : ∀ l : Instrs, ∀ u ∈ cellsI l, u.oneCell' = true
  | [], u, hu => by cases hu
  | x :: t, u, hu => by
    rcases List.mem_cons.1 hu with e | hu
    · subst e; rfl
    rcases List.mem_cons.1 hu with e | hu
    · subst e; rfl
    rcases List.mem_cons.1 hu with e | hu
    · subst e; rfl
    exact cellsI_one t u hu
theorem lit_new (w : World) (cs : Array Value) (t : TypeId) : ∀ j u, cs.toList[j]? = some u → (w.alloc (.cells cs t)).cell? ((⟨w.heap.size, 0, none⟩ : Addr).add j) = some u := by
  intro j u hj
  have e : ((⟨w.heap.size, 0, none⟩ : Addr).add j) = ⟨w.heap.size, j, none⟩ := by simp [Addr.add]; omega
  rw [e]
  have h := Row.new w t cs
  unfold Row at h
  unfold World.cell?
  rw [h]
  simpa using hj
/-- The end of a method that draws instructions into a row of its own. -/
def RdIns (lo hi : Nat) (w : World) (r : Nat) (a : Option Addr) (len cap : Nat) (e : Ending) (w' : World) : Prop :=
  ∃ (q : Option Addr) (n cp : Nat) (W : Instrs), e = .returned (.slice q n cp) ∧ lo ≤ n ∧ n ≤ hi ∧ DrawnI w w' r a len cap (.slice q n cp) n W
theorem RdIns.lit {lo hi : Nat} {w w1 : World} {r : Nat} {a : Option Addr} {len cap : Nat} (hw : Went w r a len cap w1) (cs : Array Value) (n : Nat) (W : Instrs) (hl : lo ≤ n) (hh : n ≤ hi) (h4 : n ≤ 4) (hc : cs.toList = cellsI W) (hn : W.length = n) (hf : FineI W) :
    RdIns lo hi w r a len cap (.returned (.slice (some ⟨w1.heap.size, 0, none⟩) n n)) (w1.alloc (.cells cs 89)) := by
  refine ⟨_, _, _, W, rfl, hl, hh, ?_, hn, hw.alloc _, hf⟩
  have := World.ownsRow_lit (base := w.heap.size) (e := 89) (size := 3) w1 cs n hw.size (by unfold maxLen; omega) (by
    have := congrArg List.length hc
    rw [cellsI_len, hn] at this
    simpa using this)
  rw [hc] at this
  exact this
end Go.Proofs.YtjofbeokkainlaaGreatDoor
namespace Go.Proofs.YtjofbeokkainlaaGreatDoor
open Go.ChangeShapes Go.WideShapes Go.ChangeAt Go.RowKit
set_option linter.unusedVariables false
set_option maxRecDepth 100000

theorem in_small {n : Int} (h0 : -1000 ≤ n) (h1 : n ≤ 1000) : In64 n := ⟨by omega, by omega⟩
set_option maxHeartbeats 4000000 in
theorem textof_any (w : World) (r : Nat) (a : Option Addr) (len cap : Nat) (h : Rdr w r a len cap) :
    Calls Tryz.prog 73 #[.pointer (some ⟨r, 0, none⟩)] w (RdIns 1 4 w r a len cap) := by
  have HG := Lib.hid (Went.refl h)
  clear h
  go_enter Tryz.func73, Tryz.ntmps73
  go_wp2_with fail
  refine (below_any _ _ _ _ _ _ HG.out.rdr (by decide) (by decide)).mono ?_
  rintro e w1 ⟨⟨x, hx1, hx2, rfl⟩, hw⟩
  have HG := Lib.hid (HG.out.trans hw)
  clear hw
  by_cases h0 : x = 0
  · subst h0
    go_wp2_with fail
    refine (word1_any _ _ _ _ _ HG.out.rdr).mono ?_
    rintro e w2 ⟨⟨s, hs, rfl⟩, hw⟩
    have HG := Lib.hid (HG.out.trans hw)
    have HS := Lib.hid hs
    clear hw hs
    go_wp2
    go_ret
    exact RdIns.lit HG.out _ 1 [(2, 0, s)] (by decide) (by decide) (by decide) rfl rfl (fine_txt (Nat.le_trans HS.out (by decide)) fine_nil)
  have e0 : ((x : Int) == 0) = false := by rw [beq_eq_false_iff_ne]; exact h0
  by_cases h1 : x = 1
  · subst h1
    clear e0 h0
    go_wp2_with fail
    refine (below_any _ _ _ _ _ _ HG.out.rdr (by decide) (by decide)).mono ?_
    rintro e w2 ⟨⟨y, hy1, hy2, rfl⟩, hw⟩
    have HG := Lib.hid (HG.out.trans hw)
    have HY := Lib.hid (in_small (n := y) (by omega) (by omega))
    clear hw
    go_wp2
    go_ret
    exact RdIns.lit HG.out _ 3 [(2, 0, ⟨#[107]⟩), (1, y, ByteArray.empty), (4, 0, ByteArray.empty)] (by decide) (by decide) (by decide) rfl rfl (fine_txt (by decide) (fine_num HY.out (fine_num (in_small (by decide) (by decide)) fine_nil)))
  have e1 : ((x : Int) == 1) = false := by rw [beq_eq_false_iff_ne]; exact h1
  by_cases h2 : x = 2
  · subst h2
    clear e0 h0 e1 h1
    go_wp2_with fail
    refine (below_any _ _ _ _ _ _ HG.out.rdr (by decide) (by decide)).mono ?_
    rintro e w2 ⟨⟨y, hy1, hy2, rfl⟩, hw⟩
    have HG := Lib.hid (HG.out.trans hw)
    have HY := Lib.hid (in_small (n := y) (by omega) (by omega))
    clear hw
    go_wp2
    go_ret
    exact RdIns.lit HG.out _ 3 [(1, y, ByteArray.empty), (5, 0, ByteArray.empty), (7, 0, ByteArray.empty)] (by decide) (by decide) (by decide) rfl rfl (fine_num HY.out (fine_num (in_small (by decide) (by decide)) (fine_num (in_small (by decide) (by decide)) fine_nil)))
  have e2 : ((x : Int) == 2) = false := by rw [beq_eq_false_iff_ne]; exact h2
  clear h0 h1 h2
  go_wp2_with fail
  refine (below_any _ _ _ _ _ _ HG.out.rdr (by decide) (by decide)).mono ?_
  rintro e w2 ⟨⟨y, hy1, hy2, rfl⟩, hw⟩
  have HG := Lib.hid (HG.out.trans hw)
  have HY := Lib.hid (in_small (n := y) (by omega) (by omega))
  clear hw
  go_wp2
  go_ret
  exact RdIns.lit HG.out _ 1 [(1, y, ByteArray.empty)] (by decide) (by decide) (by decide) rfl rfl (fine_num HY.out fine_nil)

set_option maxHeartbeats 4000000 in
theorem numof_any (w : World) (r : Nat) (a : Option Addr) (len cap : Nat) (h : Rdr w r a len cap) :
    Calls Tryz.prog 74 #[.pointer (some ⟨r, 0, none⟩)] w (RdIns 1 4 w r a len cap) := by
  have HG := Lib.hid (Went.refl h)
  clear h
  go_enter Tryz.func74, Tryz.ntmps74
  go_wp2_with fail
  refine (below_any _ _ _ _ _ _ HG.out.rdr (by decide) (by decide)).mono ?_
  rintro e w1 ⟨⟨x, hx1, hx2, rfl⟩, hw⟩
  have HG := Lib.hid (HG.out.trans hw)
  clear hw
  by_cases h0 : x = 0
  · subst h0
    go_wp2_with fail
    refine (num_any _ _ _ _ _ HG.out.rdr).mono ?_
    rintro e w2 ⟨⟨y, hy, rfl⟩, hw⟩
    have HG := Lib.hid (HG.out.trans hw)
    have HY := Lib.hid (wf_in64 hy)
    clear hw hy
    go_wp2
    go_ret
    exact RdIns.lit HG.out _ 1 [(3, y, ByteArray.empty)] (by decide) (by decide) (by decide) rfl rfl (fine_num HY.out fine_nil)
  have e0 : ((x : Int) == 0) = false := by rw [beq_eq_false_iff_ne]; exact h0
  by_cases h1 : x = 1
  · subst h1
    clear e0 h0
    go_wp2_with fail
    refine (num_any _ _ _ _ _ HG.out.rdr).mono ?_
    rintro e w2 ⟨⟨y, hy, rfl⟩, hw⟩
    have HG := Lib.hid (HG.out.trans hw)
    have HY := Lib.hid (wf_in64 hy)
    clear hw hy
    go_wp2
    go_ret
    exact RdIns.lit HG.out _ 1 [(3, y, ByteArray.empty)] (by decide) (by decide) (by decide) rfl rfl (fine_num HY.out fine_nil)
  have e1 : ((x : Int) == 1) = false := by rw [beq_eq_false_iff_ne]; exact h1
  by_cases h2 : x = 2
  · subst h2
    clear e0 h0 e1 h1
    go_wp2_with fail
    refine (below_any _ _ _ _ _ _ HG.out.rdr (by decide) (by decide)).mono ?_
    rintro e w2 ⟨⟨y, hy1, hy2, rfl⟩, hw⟩
    have HG := Lib.hid (HG.out.trans hw)
    have HY := Lib.hid (in_small (n := y) (by omega) (by omega))
    clear hw
    go_wp2
    go_ret
    exact RdIns.lit HG.out _ 2 [(1, y, ByteArray.empty), (6, 0, ByteArray.empty)] (by decide) (by decide) (by decide) rfl rfl (fine_num HY.out (fine_num (in_small (by decide) (by decide)) fine_nil))
  have e2 : ((x : Int) == 2) = false := by rw [beq_eq_false_iff_ne]; exact h2
  by_cases h3 : x = 3
  · subst h3
    clear e0 h0 e1 h1 e2 h2
    go_wp2_with fail
    refine (below_any _ _ _ _ _ _ HG.out.rdr (by decide) (by decide)).mono ?_
    rintro e w2 ⟨⟨y, hy1, hy2, rfl⟩, hw⟩
    have HG := Lib.hid (HG.out.trans hw)
    have HY := Lib.hid (in_small (n := y) (by omega) (by omega))
    clear hw
    go_wp2_with fail
    refine (below_any _ _ _ _ _ _ HG.out.rdr (by decide) (by decide)).mono ?_
    rintro e w3 ⟨⟨z, hz1, hz2, rfl⟩, hw⟩
    have HG := Lib.hid (HG.out.trans hw)
    clear hw
    go_wp2
    go_ret
    exact RdIns.lit HG.out _ 4 [(1, 1, ByteArray.empty), (6, 0, ByteArray.empty), (3, y, ByteArray.empty), (8 + z, 0, ByteArray.empty)] (by decide) (by decide) (by decide) rfl rfl (fine_num (in_small (by decide) (by decide)) (fine_num (in_small (by decide) (by decide)) (fine_num HY.out (fine_num (in_small (by decide) (by decide)) fine_nil))))
  have e3 : ((x : Int) == 3) = false := by rw [beq_eq_false_iff_ne]; exact h3
  by_cases h4 : x = 4
  · subst h4
    clear e0 h0 e1 h1 e2 h2 e3 h3
    go_wp2
    go_ret
    exact RdIns.lit HG.out _ 3 [(1, 0, ByteArray.empty), (1, 1, ByteArray.empty), (12, 0, ByteArray.empty)] (by decide) (by decide) (by decide) rfl rfl (fine_num (in_small (by decide) (by decide)) (fine_num (in_small (by decide) (by decide)) (fine_num (in_small (by decide) (by decide)) fine_nil)))
  have e4 : ((x : Int) == 4) = false := by rw [beq_eq_false_iff_ne]; exact h4
  by_cases h5 : x = 5
  · subst h5
    clear e0 h0 e1 h1 e2 h2 e3 h3 e4 h4
    go_wp2
    go_ret
    exact RdIns.lit HG.out _ 2 [(1, 0, ByteArray.empty), (5, 0, ByteArray.empty)] (by decide) (by decide) (by decide) rfl rfl (fine_num (in_small (by decide) (by decide)) (fine_num (in_small (by decide) (by decide)) fine_nil))
  have e5 : ((x : Int) == 5) = false := by rw [beq_eq_false_iff_ne]; exact h5
  clear h0 h1 h2 h3 h4 h5
  go_wp2
  go_ret
  exact RdIns.lit HG.out _ 1 [(3, 1, ByteArray.empty)] (by decide) (by decide) (by decide) rfl rfl (fine_num (in_small (by decide) (by decide)) fine_nil)
end Go.Proofs.YtjofbeokkainlaaGreatDoor
namespace Go.Proofs.YtjofbeokkainlaaGreatDoor
open Go.ChangeShapes Go.WideShapes Go.ChangeAt Go.RowKit
set_option linter.unusedVariables false
set_option maxRecDepth 100000

set_option maxHeartbeats 8000000 in
theorem rprog_any (w : World) (r : Nat) (a : Option Addr) (len cap : Nat) (h : Rdr w r a len cap) :
    Calls Tryz.prog 43 #[.pointer (some ⟨r, 0, none⟩)] w (RdIns 0 26 w r a len cap) := by
  obtain ⟨i0, hi, hz0, hz1, hz2⟩ := info_parts infoInstr
  have HRL := Lib.hid h.lt
  have H0 := Lib.hid (show DrawnI w (w.alloc (.cells #[] 89)) r a len cap (.slice (some ⟨w.heap.size, 0, none⟩) 0 0) 0 [] from ⟨World.ownsRow_lit w #[] 0 (Nat.le_refl _) (Nat.zero_le _) rfl, rfl, (Went.refl h).alloc _, fine_nil⟩)
  clear h
  go_enter Tryz.func43, Tryz.ntmps43
  go_wp2_with fail
  refine (below_any _ _ _ _ _ _ H0.out.went.rdr (by decide) (by decide)).mono ?_
  rintro e w1 ⟨⟨x, hx1, hx2, rfl⟩, hw⟩
  have HD := Lib.hid (H0.out.trans HRL.out hw)
  clear hw H0
  go_wp2_with fail
  go_loopw [3, 4] (fun v i wr => ∃ (k n : Nat) (q : Option Addr) (cp : Nat) (W : Instrs), i = .int .i64 k ∧ v = .slice q n cp ∧ n + 13 * k ≤ 26 ∧ Hid (DrawnI w wr r a len cap (.slice q n cp) n W)) (fun _ i _ => (intOf i).toNat)
  case atStart => exact ⟨(1 + x).toNat, 0, _, _, [], by rw [Int.toNat_of_nonneg (by omega)], rfl, by omega, HD⟩
  case round =>
    obtain ⟨k, n, q, cp, W, rfl, rfl, hk, HS⟩ := hrel
    clear HD
    by_cases hk0 : 0 < k
    · obtain ⟨m, rfl⟩ : ∃ m, k = m + 1 := ⟨k - 1, by omega⟩
      go_wp2_with fail
      refine (textof_any _ _ _ _ _ HS.out.went.rdr).mono ?_
      rintro e wa ⟨qa, na, ca, La, rfl, hla, hha, hd⟩
      have HF := Lib.hid hd.fine
      have HZ := Lib.hid hd.size
      obtain ⟨ga, rfl, hga, hce⟩ := own_src hd.own (by omega) hd.size
      have HCE := Lib.hid hce
      have HS := Lib.hid (HS.out.trans HRL.out hd.went)
      have HO := Lib.hid HS.out.own
      clear hd hce hga
      go_wp2_with (at_builtin; (refine wpList_append_own _ rfl _ _ 24 rfl w.heap.size 89 i0 _ 3 32 Tryz.underlying24 hi hz0 hz1 hz2 rfl (by decide) _ _ _ rfl HO.out ⟨ga, 0, none⟩ na ca (cellsI La) rfl (by rw [cellsI_len, HZ.out]) HCE.out (cellsI_one _) (by unfold maxLen; omega) (by omega) HS.out.went.size ?_); intro v' w3 hown1 hgrow hnil; have HO1 := Lib.hid hown1; have HG := Lib.hid hgrow; clear hown1 hgrow hnil)
      obtain ⟨q1, cp1, rfl⟩ := own_form HO1.out
      have HS := Lib.hid (HS.out.add HRL.out HF.out HZ.out HO1.out HG.out)
      clear HO HO1 HG HCE HF HZ
      go_wp2_with fail
      refine (numof_any _ _ _ _ _ HS.out.went.rdr).mono ?_
      rintro e wb ⟨qb, nb, cb, Lb, rfl, hlb, hhb, hd⟩
      have HF := Lib.hid hd.fine
      have HZ := Lib.hid hd.size
      obtain ⟨gb, rfl, hga, hce⟩ := own_src hd.own (by omega) hd.size
      have HCE := Lib.hid hce
      have HS := Lib.hid (HS.out.trans HRL.out hd.went)
      have HO := Lib.hid HS.out.own
      clear hd hce hga
      go_wp2_with (at_builtin; (refine wpList_append_own _ rfl _ _ 24 rfl w.heap.size 89 i0 _ 3 32 Tryz.underlying24 hi hz0 hz1 hz2 rfl (by decide) _ _ _ rfl HO.out ⟨gb, 0, none⟩ nb cb (cellsI Lb) rfl (by rw [cellsI_len, HZ.out]) HCE.out (cellsI_one _) (by unfold maxLen; omega) (by omega) HS.out.went.size ?_); intro v' w3 hown1 hgrow hnil; have HO1 := Lib.hid hown1; have HG := Lib.hid hgrow; clear hown1 hgrow hnil)
      obtain ⟨q1, cp1, rfl⟩ := own_form HO1.out
      have HS := Lib.hid (HS.out.add HRL.out HF.out HZ.out HO1.out HG.out)
      clear HO HO1 HG HCE HF HZ
      go_wp2_with fail
      refine (once_any _ _ _ _ _ _ HS.out.went.rdr (by decide) (by decide)).mono ?_
      rintro e w5 ⟨⟨y, rfl⟩, hw⟩
      have HS := Lib.hid (HS.out.trans HRL.out hw)
      clear hw
      cases y
      · have HO := Lib.hid HS.out.own
        go_wp2_with (at_builtin; (refine wpList_append_own _ rfl _ _ 24 rfl w.heap.size 89 i0 _ 3 32 Tryz.underlying24 hi hz0 hz1 hz2 rfl (by decide) _ _ _ rfl (HO.out.alloc _) ⟨w5.heap.size, 0, none⟩ 1 1 [.int .i64 13, .int .i64 0, .string ⟨#[]⟩] rfl rfl (three_new _ _ _ _ _) (three_cells _ _ _) (by unfold maxLen; omega) (by omega) (Nat.le_trans HS.out.went.size (by simp)) ?_); intro v' w3 hown1 hgrow hnil; have HO1 := Lib.hid hown1; have HG := Lib.hid hgrow; clear hown1 hgrow hnil)
        obtain ⟨q1, cp1, rfl⟩ := own_form HO1.out
        have HS := Lib.hid ((HS.out.alloc _).add (L := [(13, 0, ByteArray.empty)]) HRL.out (fine_num (in_small (by decide) (by decide)) fine_nil) rfl HO1.out HG.out)
        clear HO HO1 HG
        go_roundw
        case rel => exact ⟨m, _, q1, cp1, _, by go_num, rfl, by omega, HS⟩
        case measure => simp [intOf]
      · go_wp2_with fail
        refine (numof_any _ _ _ _ _ HS.out.went.rdr).mono ?_
        rintro e wc ⟨qc, nc, cc, Lc, rfl, hlc, hhc, hd⟩
        have HF := Lib.hid hd.fine
        have HZ := Lib.hid hd.size
        obtain ⟨gc, rfl, hga, hce⟩ := own_src hd.own (by omega) hd.size
        have HCE := Lib.hid hce
        have HS := Lib.hid (HS.out.trans HRL.out hd.went)
        have HO := Lib.hid HS.out.own
        clear hd hce hga
        go_wp2_with (first | (at_builtin; (refine wpList_append_own _ rfl _ _ 24 rfl w.heap.size 89 i0 _ 3 32 Tryz.underlying24 hi hz0 hz1 hz2 rfl (by decide) _ _ _ rfl HO.out ⟨gc, 0, none⟩ nc cc (cellsI Lc) rfl (by rw [cellsI_len, HZ.out]) HCE.out (cellsI_one _) (by unfold maxLen; omega) (by omega) HS.out.went.size ?_); intro v' w3 hown1 hgrow hnil; obtain ⟨q1, cp1, rfl⟩ := own_form hown1; have HS2 := Lib.hid (HS.out.add HRL.out HF.out HZ.out hown1 hgrow); have HO2 := Lib.hid HS2.out.own; clear hown1 hgrow hnil) | (at_builtin; (refine wpList_append_own _ rfl _ _ 24 rfl w.heap.size 89 i0 _ 3 32 Tryz.underlying24 hi hz0 hz1 hz2 rfl (by decide) _ _ _ rfl (HO2.out.alloc _) ⟨w3.heap.size, 0, none⟩ 1 1 [.int .i64 14, .int .i64 0, .string ⟨#[]⟩] rfl rfl (three_new _ _ _ _ _) (three_cells _ _ _) (by unfold maxLen; omega) (by omega) (Nat.le_trans HS2.out.went.size (by simp)) ?_); intro v' w4 hown1 hgrow hnil; have HO1 := Lib.hid hown1; have HG := Lib.hid hgrow; clear hown1 hgrow hnil))
        obtain ⟨q1, cp1, rfl⟩ := own_form HO1.out
        have HS := Lib.hid ((HS2.out.alloc _).add (L := [(14, 0, ByteArray.empty)]) HRL.out (fine_num (in_small (by decide) (by decide)) fine_nil) rfl HO1.out HG.out)
        clear HO HO1 HG HO2 HS2 HF HZ HCE
        go_roundw
        case rel => exact ⟨m, _, q1, cp1, _, by go_num, rfl, by omega, HS⟩
        case measure => simp [intOf]
    · obtain rfl : k = 0 := by omega
      go_wp2
      go_ret
      exact ⟨q, n, cp, W, rfl, Nat.zero_le _, by omega, HS.out⟩
end Go.Proofs.YtjofbeokkainlaaGreatDoor
namespace Go.Proofs.YtjofbeokkainlaaGreatDoor
open Go.ChangeShapes Go.WideShapes Go.ChangeAt Go.RowKit
set_option linter.unusedVariables false
set_option maxRecDepth 100000

theorem block_alloc {w : World} {B : Nat} (h : B < w.heap.size) (o : Obj) : (w.alloc o).heap[B]? = w.heap[B]? := by
  show (w.heap.push o)[B]? = _
  rw [Array.getElem?_push, if_neg (Nat.ne_of_lt h)]

theorem frozen_none {w : World} {B : Nat} {E : TypeId} {cur : Array Value} (h : w.heap[B]? = some (.cells cur E (0, 0))) {j : Nat} : w.frozen? ⟨B, j, none⟩ = false := by simp [World.frozen?, h]

theorem block_set {w : World} {B : Nat} {E : TypeId} {cur : Array Value} (h : w.heap[B]? = some (.cells cur E (0, 0))) (j : Nat) (x : Value) : (w.setCell ⟨B, j, none⟩ x).heap[B]? = some (.cells (cur.setIfInBounds j x) E (0, 0)) := by
  have hlt := lt_of_block h
  have h' : w.heap[B] = .cells cur E (0, 0) := by simpa [Array.getElem?_eq_getElem hlt] using h
  show (w.heap.modify B _)[B]? = _
  rw [Array.getElem?_eq_getElem (by simpa using hlt), Array.getElem_modify_self, h']
  rfl

theorem Went.put {w w1 : World} {r : Nat} {a : Option Addr} {len cap : Nat} (h : Went w r a len cap w1) {B : Nat} (hB : w.heap.size ≤ B) (hr : r < B) (j : Nat) (v : Value) : Went w r a len cap (w1.setCell ⟨B, j, none⟩ v) :=
  ⟨⟨h.grown.os, h.grown.tape, h.grown.output, by simpa [World.setCell] using h.grown.size, fun k hk hn => (Below.heap_setCell _ _ _ _ (show k ≠ B by omega)).trans (h.grown.block k hk hn)⟩, h.rdr.below ((Below.refl _ _).setCell (show r + 1 ≤ B by omega) _)⟩

def RdRec (w : World) (r : Nat) (a : Option Addr) (len cap : Nat) (e : Ending) (w' : World) : Prop := (∃ (s : ByteArray) (n : Int), s.size ≤ 41 ∧ (Lit.int .i64 n).wf = true ∧ e = .returned (recV s n)) ∧ Went w r a len cap w'

end Go.Proofs.YtjofbeokkainlaaGreatDoor
namespace Go.Proofs.YtjofbeokkainlaaGreatDoor
open Go.ChangeShapes Go.WideShapes Go.ChangeAt Go.RowKit
set_option linter.unusedVariables false
set_option maxRecDepth 100000

def tabNm : Array Value := #[.string ⟨#[99, 97, 116]⟩, .string ⟨#[108, 101, 110]⟩, .string ⟨#[105, 110, 116]⟩, .string ⟨#[115, 116, 114]⟩, .string ⟨#[97, 100, 100]⟩, .string ⟨#[115, 117, 98]⟩, .string ⟨#[109, 117, 108]⟩, .string ⟨#[108, 101, 115, 115]⟩, .string ⟨#[115, 97, 109, 101]⟩, .string ⟨#[101, 109, 105, 116]⟩, .string ⟨#[101, 109, 105, 116, 105, 102]⟩]
theorem tabNm_at (x : Nat) (h : x < 11) : tabNm[x]? = some (.string (textB (x + 4))) := by
  rcases (by omega : x = 0 ∨ x = 1 ∨ x = 2 ∨ x = 3 ∨ x = 4 ∨ x = 5 ∨ x = 6 ∨ x = 7 ∨ x = 8 ∨ x = 9 ∨ x = 10) with rfl | rfl | rfl | rfl | rfl | rfl | rfl | rfl | rfl | rfl | rfl <;> rfl
def MadeNames (w : World) (e : Ending) (w' : World) : Prop := e = .returned (.slice (some ⟨w.heap.size, 0, none⟩) 11 11) ∧ (∀ x, x < 11 → w'.cell? ⟨w.heap.size, x, none⟩ = some (.string (textB (x + 4)))) ∧ Below w.heap.size w w'
theorem empty_app (s : ByteArray) : ByteArray.empty ++ s = s := by
  apply ByteArray.ext
  simp
theorem app_empty {s t : ByteArray} (h : t.size = 0) : s ++ t = s := by
  have : t = ByteArray.empty := ByteArray.ext (Array.eq_empty_of_size_eq_zero h)
  rw [this]
  apply ByteArray.ext
  simp

def MadeTxtP (s : ByteArray) (w : World) (e : Ending) (w' : World) : Prop := e = .returned (.string s) ∧ Below w.heap.size w w'

end Go.Proofs.YtjofbeokkainlaaGreatDoor
namespace Go.Proofs.YtjofbeokkainlaaGreatDoor
open Go.ChangeShapes Go.WideShapes Go.ChangeAt Go.RowKit
set_option linter.unusedVariables false
set_option maxRecDepth 100000

theorem progTo_step (l : Instrs) (k : Nat) (h : 0 < k) : progTo l (k + 1) = progTo l k ++ ⟨#[32]⟩ ++ txAt l k := by
  show (if 0 < k then progTo l k ++ ⟨#[32]⟩ else progTo l k) ++ txAt l k = _
  rw [if_pos h]

theorem field_num (y : Nat) (h : y = 1 ∨ y = 3) : fieldB y = ⟨#[78]⟩ := by rcases h with rfl | rfl <;> rfl
theorem field_other {y : Nat} (h0 : y < 15) (h1 : y ≠ 1) (h3 : y ≠ 3) : ¬ fieldB y = ⟨#[78]⟩ := by
  rcases (by omega : y = 0 ∨ y = 2 ∨ y = 4 ∨ y = 5 ∨ y = 6 ∨ y = 7 ∨ y = 8 ∨ y = 9 ∨ y = 10 ∨ y = 11 ∨ y = 12 ∨ y = 13 ∨ y = 14) with rfl | rfl | rfl | rfl | rfl | rfl | rfl | rfl | rfl | rfl | rfl | rfl | rfl <;> decide

end Go.Proofs.YtjofbeokkainlaaGreatDoor
namespace Go.Proofs.YtjofbeokkainlaaGreatDoor
open Go.ChangeShapes Go.WideShapes Go.ChangeAt Go.RowKit
set_option linter.unusedVariables false
set_option maxRecDepth 100000

theorem Went.more {w w1 w2 : World} {r : Nat} {a : Option Addr} {len cap : Nat} {row : Option Nat} (h : Went w r a len cap w1) (hg : w1.grownBy w2 row) (hr : r < w.heap.size) (hrow : ∀ k, row = some k → w.heap.size ≤ k) : Went w r a len cap w2 :=
  ⟨⟨hg.os.trans h.grown.os, hg.tape.trans h.grown.tape, hg.output.trans h.grown.output, Nat.le_trans h.size hg.size, fun i hi hn => (hg.block i (Nat.lt_of_lt_of_le hi h.size) (fun e => by have := hrow i e.symm; omega)).trans (h.grown.block i hi hn)⟩,
   h.rdr.below ⟨hg.os, hg.tape, hg.output, hg.size, fun k hk => hg.block k (by have := h.rdr.lt; omega) (fun e => by have := hrow k e.symm; omega)⟩⟩
theorem own_went {w w1 : World} {base r : Nat} {a : Option Addr} {len cap : Nat} {e : TypeId} {size : Nat} {v : Value} {n : Nat} {xs : List Value} (h : w.ownsRow base e size v n xs) (hw : Went w r a len cap w1) (hr : r < base) : w1.ownsRow base e size v n xs :=
  h.kept hw.grown (by
    by_cases hv : v.ownBlock = none
    · exact .inl hv
    · refine .inr fun he => ?_
      have := (h.lt r he).1
      omega)
end Go.Proofs.YtjofbeokkainlaaGreatDoor
