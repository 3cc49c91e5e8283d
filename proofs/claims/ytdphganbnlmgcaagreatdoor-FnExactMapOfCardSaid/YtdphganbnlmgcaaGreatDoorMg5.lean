/- Texts put together, as a claim holds at most sixty files. -/
import Derived.Test.YtdphganbnlmgcaaGreatDoorMg2
import Derived.Test.YtdphganbnlmgcaaGreatDoorMg4
import Derived.Lib.Join
import Derived.Test.YtdphganbnlmgcaaGreatDoorMg0
import Derived.Laws.BytesArg
namespace Go.Proofs.YtdphganbnlmgcaaGreatDoor
open Go.ChangeShapes Go.WideShapes Go.ChangeAt Go.RowKit
set_option linter.unusedVariables false
set_option maxRecDepth 100000

def insTx (op n : Int) (s : ByteArray) : ByteArray :=
  if op = 1 then ⟨#[102]⟩ ++ decB n else if op = 2 then ⟨#[116, 58]⟩ ++ s else if op = 3 then ⟨#[110]⟩ ++ decB n else textB op.toNat
def txAt (l : Instrs) (i : Nat) : ByteArray := insTx (ins0 l i) (ins1 l i) (ins2 l i)
def progTo (l : Instrs) : Nat → ByteArray
  | 0 => ByteArray.empty
  | k + 1 => (if 0 < k then progTo l k ++ ⟨#[32]⟩ else progTo l k) ++ txAt l k
def progTx (l : Instrs) : ByteArray := if progB l then progTo l l.length else ByteArray.empty
def txsOf (l : Instrs) (n : Nat) : List ByteArray := (List.range n).map (txAt l)

theorem join_snoc (xs : List (List UInt8)) (x sep : List UInt8) (h : xs ≠ []) : Lib.join (xs ++ [x]) sep = Lib.join xs sep ++ sep ++ x := by
  cases xs with
  | nil => exact absurd rfl h
  | cons a r =>
    rw [List.cons_append, Lib.join_cons, Lib.join_cons]
    simp [Lib.joinTail]
theorem join_prog (l : Instrs) : ∀ n, Lib.join ((txsOf l n).map (·.data.toList)) [32] = (progTo l n).data.toList
  | 0 => rfl
  | n + 1 => by
    have e : (txsOf l (n + 1)).map (·.data.toList) = (txsOf l n).map (·.data.toList) ++ [(txAt l n).data.toList] := by
      simp [txsOf, List.range_succ]
    rw [e]
    by_cases hn : n = 0
    · subst hn
      simp [txsOf, Lib.join_one, progTo]
    · have hne : (txsOf l n).map (·.data.toList) ≠ [] := by
        intro h
        have := congrArg List.length h
        simp [txsOf] at this
        exact hn this
      rw [join_snoc _ _ _ hne, join_prog l n]
      show _ = ((if 0 < n then progTo l n ++ ⟨#[32]⟩ else progTo l n) ++ txAt l n).data.toList
      rw [if_pos (by omega)]
      simp
theorem prog_ins {l : Instrs} (h : progB l = true) {k : Nat} (hk : k < l.length) : instrB (ins0 l k) (ins1 l k) (ins2 l k) = true := by
  cases hi : instrB (ins0 l k) (ins1 l k) (ins2 l k) with
  | true => rfl
  | false =>
    have := prog_bad (k := k + 1) (by omega) (stk_wrong hi)
    rw [h] at this
    cases this
theorem prog_few {l : Instrs} (h : progB l = true) : l.length ≤ 30 := by
  by_cases h30 : l.length ≤ 30
  · exact h30
  · rw [prog_long h30] at h; cases h
theorem pushB_size {s : ByteArray} (h : pushB s = true) : s.size ≤ 20 := by
  unfold pushB at h
  simp only [Bool.and_eq_true, decide_eq_true_eq] at h
  omega
theorem text_few (x : Nat) : (textB x).size ≤ 6 := by
  unfold textB
  split <;> decide
theorem ins_ways {op n : Int} {s : ByteArray} (h : instrB op n s = true) :
    (op = 1 ∧ s.size = 0) ∨ (op = 2 ∧ s.size ≤ 20) ∨ (op = 3 ∧ s.size = 0) ∨ ∃ x : Nat, op = (x : Int) + 4 ∧ x < 11 ∧ s.size = 0 := by
  unfold instrB at h
  split at h
  · simp only [Bool.and_eq_true, decide_eq_true_eq] at h; exact .inl ⟨by assumption, h.2⟩
  · split at h
    · simp only [Bool.and_eq_true, decide_eq_true_eq] at h; exact .inr (.inl ⟨by assumption, pushB_size h.2⟩)
    · split at h
      · simp only [decide_eq_true_eq] at h; exact .inr (.inr (.inl ⟨by assumption, h⟩))
      · simp only [Bool.and_eq_true, decide_eq_true_eq] at h
        exact .inr (.inr (.inr ⟨(op - 4).toNat, by omega, by omega, h.2.2⟩))
theorem insTx_size {op n : Int} {s : ByteArray} (h : instrB op n s = true) (hn : In64 n) : (insTx op n s).size ≤ 22 := by
  have hd : (decB n).size ≤ 20 := decB_size hn.1 (by have := hn.2; omega)
  unfold insTx
  rcases ins_ways h with ⟨rfl, h0⟩ | ⟨rfl, h0⟩ | ⟨rfl, h0⟩ | ⟨x, rfl, hx, h0⟩
  · rw [if_pos rfl, ByteArray.size_append]; show 1 + _ ≤ _; omega
  · rw [if_neg (by decide), if_pos rfl, ByteArray.size_append]; show 2 + _ ≤ _; omega
  · rw [if_neg (by decide), if_neg (by decide), if_pos rfl, ByteArray.size_append]; show 1 + _ ≤ _; omega
  · rw [if_neg (by omega), if_neg (by omega), if_neg (by omega)]
    have := text_few ((x : Int) + 4).toNat
    omega
theorem progTo_size {l : Instrs} (h : progB l = true) (hn : ∀ i, i < l.length → In64 (ins1 l i)) : ∀ k, k ≤ l.length → (progTo l k).size ≤ 23 * k
  | 0, _ => by show (0 : Nat) ≤ _; omega
  | k + 1, hk => by
    have h1 := progTo_size h hn k (by omega)
    have h2 := insTx_size (prog_ins h (show k < l.length by omega)) (hn k (by omega))
    show ((if 0 < k then progTo l k ++ ⟨#[32]⟩ else progTo l k) ++ txAt l k).size ≤ _
    rw [ByteArray.size_append]
    have h3 : (txAt l k).size ≤ 22 := h2
    split
    · rw [ByteArray.size_append]; show _ + 1 + _ ≤ _; omega
    · omega

structure TabsPT (w : World) : Prop where
  pow : Tabs w
  forms : TabsP w
theorem TabsPT.keep {w w' : World} (h : TabsPT w) (hB : Below w.heap.size w w') : TabsPT w' := ⟨h.pow.keep hB, h.forms.keep hB⟩
theorem tabspt_of {W : World} (h : laidMet Tryz.prog [("math/bits.deBruijn32tab", Rows.laid_math_bits_deBruijn32tab), ("math/bits.deBruijn64tab", Rows.laid_math_bits_deBruijn64tab), ("internal/strconv.uint64pow10", Rows.laid_internal_strconv_uint64pow10), ("loop.example/g00703/impl.opForms", Rows.laid_loop_example_g00703_impl_opForms)] W) : TabsPT W :=
  ⟨Lib.tabIs_of_head (k := .u64) (zs := Lib.pow10Tab) gPow gPowType Tryz.underlying218 Tryz.underlying132 gU64Cells gPowCells h.tail.tail, tabsp_of h.tail.tail.tail⟩
end Go.Proofs.YtdphganbnlmgcaaGreatDoor
namespace Go.Proofs.YtdphganbnlmgcaaGreatDoor
open Go.ChangeShapes Go.WideShapes Go.ChangeAt Go.RowKit Go.Joins
set_option linter.unusedVariables false
set_option maxRecDepth 100000

structure TabsRP (w : World) : Prop where
  num : TabsR w
  forms : TabsP w
theorem TabsRP.keep {w w' : World} (h : TabsRP w) (hB : Below w.heap.size w w') : TabsRP w' := ⟨h.num.keep hB, h.forms.keep hB⟩
theorem TabsRP.pt {w : World} (h : TabsRP w) : TabsPT w := ⟨h.num.pow, h.forms⟩
theorem tabsrp_of {W : World} (hsh : W.ShapedOpen Tryz.prog) (h : laidMet Tryz.prog [("math/bits.deBruijn32tab", Rows.laid_math_bits_deBruijn32tab), ("math/bits.deBruijn64tab", Rows.laid_math_bits_deBruijn64tab), ("internal/strconv.uint64pow10", Rows.laid_internal_strconv_uint64pow10), ("strconv.ErrRange", Rows.laid_strconv_ErrRange), ("strconv.ErrSyntax", Rows.laid_strconv_ErrSyntax), ("loop.example/g00703/impl.opForms", Rows.laid_loop_example_g00703_impl_opForms)] W) : TabsRP W := by
  obtain ⟨a0, s0, hv0, -, -, -⟩ := laid_sentinel (nm := "*errors.errorString") h.tail.tail.tail gRng gRngType Tryz.underlying190 rowES Tryz.underlying226 Tryz.underlying228 rfl rfl Tryz.underlying9 cellsES cellsStr1
  obtain ⟨a1, s1, hv1, -, -, -⟩ := laid_sentinel (nm := "*errors.errorString") h.tail.tail.tail.tail gSyn gSynType Tryz.underlying190 rowES Tryz.underlying226 Tryz.underlying228 rfl rfl Tryz.underlying9 cellsES cellsStr1
  have hp : Tabs W := Lib.tabIs_of_head (k := .u64) (zs := Lib.pow10Tab) gPow gPowType Tryz.underlying218 Tryz.underlying132 gU64Cells gPowCells h.tail.tail
  exact ⟨⟨hp, ⟨_, _, by simpa using World.var?_cell gSyn hv1 0⟩, ⟨_, _, by simpa using World.var?_cell gRng hv0 0⟩,
    Go.Proofs.cell_of_shapedOpen_int (zero := #[.int .i64 0]) (t := 3) hsh (of_decide_eq_true (by kernel_rfl)) (by kernel_rfl) rfl (by kernel_rfl) (by kernel_rfl) Tryz.underlying3⟩,
    tabsp_of h.tail.tail.tail.tail.tail⟩
end Go.Proofs.YtdphganbnlmgcaaGreatDoor
namespace Go.Proofs.YtdphganbnlmgcaaGreatDoor
open Go.ChangeShapes Go.WideShapes Go.ChangeAt Go.RowKit
set_option linter.unusedVariables false
set_option maxRecDepth 100000

abbrev Strs := List ByteArray
def strAt (l : Strs) (i : Nat) : ByteArray := l.getD i ByteArray.empty

/-- The slice (a, len, cap) holds the texts l. -/
structure StrsAt (w : World) (a : Option Addr) (len : Nat) (l : Strs) : Prop where
  length : l.length = len
  max : len ≤ maxLen
  sizes : ∀ i, i < len → (strAt l i).size ≤ maxLen
  src : len = 0 ∨ ∃ b off, a = some ⟨b, off, none⟩ ∧ b < w.heap.size ∧ ∀ i, i < len → w.cell? ⟨b, off + i, none⟩ = some (.string (strAt l i))

theorem StrsAt.keep {w w1 : World} {a : Option Addr} {len : Nat} {l : Strs} (h : StrsAt w a len l) (hB : Below w.heap.size w w1) : StrsAt w1 a len l := by
  refine ⟨h.length, h.max, h.sizes, ?_⟩
  rcases h.src with h0 | ⟨b, off, ha, hb, hc⟩
  · exact .inl h0
  · exact .inr ⟨b, off, ha, Nat.lt_of_lt_of_le hb hB.size, fun i hi => (hB.cell (p := ⟨b, off + i, none⟩) hb).trans (hc i hi)⟩

set_option maxHeartbeats 1000000 in
theorem eqstrs_same (a1 a2 : Option Addr) (len cap1 cap2 : Nat) (l : Strs) (w : World) (h1 : StrsAt w a1 len l) (h2 : StrsAt w a2 len l) :
    Calls Tryz.prog 28 #[.slice a1 len cap1, .slice a2 len cap2] w (MadeBool true w) := by
  have hm := h1.max
  unfold maxLen at hm
  have HR1 := Lib.hid h1
  have HR2 := Lib.hid h2
  clear h1 h2
  go_enter Tryz.func28, Tryz.ntmps28
  go_wp2
  go_loopw [5] (fun i wr => ∃ k : Nat, k ≤ len ∧ i = .int .i64 k ∧ Hid (Below w.heap.size w wr)) (fun i _ => len - (intOf i).toNat)
  case atStart => exact ⟨0, Nat.zero_le _, rfl, Below.refl _ _⟩
  case round =>
    obtain ⟨k, hk, rfl, HW⟩ := hrel
    by_cases hlt : k < len
    · rcases HR1.out.src with hz | ⟨b1, off1, rfl, hb1, hc1⟩
      · omega
      · rcases HR2.out.src with hz | ⟨b2, off2, rfl, hb2, hc2⟩
        · omega
        · have c0 := (HW.out.cell (p := ⟨b1, off1 + k, none⟩) hb1).trans (hc1 k hlt)
          have d0 := (HW.out.cell (p := ⟨b2, off2 + k, none⟩) hb2).trans (hc2 k hlt)
          have hi1 : (k : Int) < (len : Int) := by omega
          have hi0 : (0 : Int) ≤ (k : Int) := by omega
          clear hc1 hc2 hb1 hb2
          go_wp2_with fail
          go_quiet (fail)
          go_wp2
          go_roundw
          case rel => exact ⟨k + 1, by omega, by go_num, below_drewN HW.out _⟩
          case measure => simp [intOf]; omega
    · go_wp2
      go_ret
      exact ⟨rfl, HW.out⟩

def mtAux (k : Nat) (o : List UInt8) : List UInt8 := if h : k = 0 then o else mtAux (k / 10) (UInt8.ofNat (48 + k % 10) :: o)
termination_by k
decreasing_by omega
theorem mtAux_zero (o : List UInt8) : mtAux 0 o = o := by unfold mtAux; rfl
theorem mtAux_step (k : Nat) (o : List UInt8) (h : 0 < k) : mtAux k o = mtAux (k / 10) (UInt8.ofNat (48 + k % 10) :: o) := by
  rw [mtAux, dif_neg (by omega)]
/-- The text of mark number k. -/
def mtext (k : Nat) : ByteArray := ⟨#[109]⟩ ++ ⟨(mtAux k []).toArray⟩

theorem digit_cons (K : Nat) (O : ByteArray) : (strOfNums [(48 : Int) + (K : Int) % 10] ++ O).data.toList = UInt8.ofNat (48 + K % 10) :: O.data.toList := by
  have e : ((48 : Int) + (K : Int) % 10).toNat = 48 + K % 10 := by omega
  simp [strOfNums, e]
theorem mtext_of (O : ByteArray) (k0 : Nat) (h : mtAux 0 O.data.toList = mtAux k0 []) : (⟨#[109]⟩ : ByteArray) ++ O = mtext k0 := by
  unfold mtext
  rw [← h, mtAux_zero]

def MadeStr (s : ByteArray) (w : World) (e : Ending) (w' : World) : Prop := e = .returned (.string s) ∧ Below w.heap.size w w'

set_option maxHeartbeats 1000000 in
theorem marktext_any (k0 : Nat) (w : World) (h1 : 1 ≤ k0) (h2 : k0 ≤ 1099511627776) :
    Calls Tryz.prog 54 #[.int .i64 k0] w (MadeStr (mtext k0) w) := by
  have kc : ∀ (wx : World) (y : Int), (convert 120 9 (.slice (some ⟨wx.heap.size, 0, none⟩) 1 1)).run Tryz.prog (wx.alloc (.cells #[.int .u8 y] 5)) = .ok (.string (strOfNums [y])) (wx.alloc (.cells #[.int .u8 y] 5)) := fun wx y =>
    run_convert_bytes_arg _ _ _ Tryz.underlying120 Tryz.underlying5 wx.heap.size 0 1 1 [y] rfl (fun i hi => by
      obtain rfl : i = 0 := by omega
      exact cell_of_one (heap_alloc_new _ _)) _ Tryz.underlying9
  have hn : ¬ (k0 : Int) ≤ 0 := by omega
  go_enter Tryz.func54, Tryz.ntmps54
  go_wp2
  go_loopw [0, 3] (fun t o wr => ∃ (K : Nat) (O : ByteArray), t = .int .i64 K ∧ o = .string O ∧ O.size + K ≤ k0 ∧ Hid (Below w.heap.size w wr ∧ mtAux K O.data.toList = mtAux k0 [])) (fun t _ _ => (intOf t).toNat)
  case atStart => exact ⟨k0, ByteArray.empty, rfl, rfl, by show 0 + k0 ≤ k0; omega, Below.refl _ _, rfl⟩
  case round =>
    obtain ⟨K, O, rfl, rfl, hsz, HW⟩ := hrel
    by_cases hK : 0 < K
    · have hb1 : 0 ≤ (48 : Int) + (K : Int) % 10 := by omega
      have hb2 : (48 : Int) + (K : Int) % 10 ≤ 57 := by omega
      have hso : (strOfNums [(48 : Int) + (K : Int) % 10]).size ≤ 1 := Nat.le_refl 1
      have hdig := Lib.hid (digit_cons K O)
      go_wp2
      go_roundw
      case rel => exact ⟨K / 10, _, by go_num, rfl, by rw [ByteArray.size_append]; omega, below_alloc HW.out.1 _, by rw [hdig.out, ← mtAux_step _ _ hK]; exact HW.out.2⟩
      case measure => simp [intOf]; omega
    · obtain rfl : K = 0 := by omega
      have HO := Lib.hid (mtext_of O k0 HW.out.2)
      go_wp2
      go_ret
      exact ⟨congrArg (fun s => Ending.returned (.string s)) HO.out, HW.out.1⟩

/-- Row B holds the marks from number k0 on in its first n cells. -/
def Marked (cur : Array Value) (k0 n : Nat) : Prop := ∀ j, j < n → cur[j]? = some (.string (mtext (k0 + j)))
/-- The end of marking: the next number; the row is marked; nothing else that was there has changed. -/
def MadeMarks (B : Nat) (E : TypeId) (k0 len n : Nat) (w : World) (e : Ending) (w' : World) : Prop :=
  e = .returned (.int .i64 ((k0 + len : Nat) : Int)) ∧ w.grownBy w' (some B) ∧ ∃ cur, Row w' B E cur ∧ cur.size = n ∧ Marked cur k0 len

theorem Marked.step {cur : Array Value} {k0 k : Nat} (h : Marked cur k0 k) (hk : k < cur.size) : Marked (cur.setIfInBounds k (.string (mtext (k0 + k)))) k0 (k + 1) := by
  intro j hj
  rcases Nat.lt_or_ge j k with hlt | hge
  · rw [Array.getElem?_setIfInBounds_ne (by omega)]; exact h j hlt
  · obtain rfl : j = k := by omega
    simp [hk]

set_option maxHeartbeats 1000000 in
theorem markstrs_any (B len cap k0 n : Nat) (E : TypeId) (cur0 : Array Value) (w : World) (h : Row w B E cur0) (hn : cur0.size = n) (hl : len ≤ n) (h1 : 1 ≤ k0) (h2 : k0 + len ≤ 1099511627776) :
    Calls Tryz.prog 30 #[.slice (some ⟨B, 0, none⟩) len cap, .int .i64 k0] w (MadeMarks B E k0 len n w) := by
  have HR := Lib.hid h
  have HN := Lib.hid hn
  clear h hn
  go_enter Tryz.func30, Tryz.ntmps30
  go_wp2
  go_loopw [1, 5] (fun t i wr => ∃ k : Nat, k ≤ len ∧ i = .int .i64 k ∧ t = .int .i64 ((k0 + k : Nat) : Int) ∧ Hid (w.grownBy wr (some B) ∧ ∃ cur, Row wr B E cur ∧ cur.size = n ∧ Marked cur k0 k)) (fun _ i _ => len - (intOf i).toNat)
  case atStart => exact ⟨0, Nat.zero_le _, rfl, rfl, World.grownBy.refl _ _, cur0, HR.out, HN.out, fun j hj => by omega⟩
  case round =>
    obtain ⟨k, hk, rfl, rfl, HW⟩ := hrel
    clear HR HN
    by_cases hlt : k < len
    · obtain ⟨q, hq⟩ : ∃ q, k0 + k = q := ⟨_, rfl⟩
      rw [hq]
      have hq1 : 1 ≤ q := by omega
      have hq2 : q < 1099511627776 := by omega
      have HQ := Lib.hid hq
      clear hq
      go_wp2_with fail
      refine (marktext_any q _ hq1 (by omega)).mono ?_
      rintro e w2 ⟨rfl, hB⟩
      obtain ⟨hg, cur, hr, hs, hm⟩ := HW.out
      have hr2 := hr.keep hB
      have hA0 := hr2.cell (j := k) (by omega)
      have hf0 := hr2.free k
      have HG := Lib.hid (show w.grownBy w2 (some B) from ⟨hB.os.trans hg.os, hB.tape.trans hg.tape, hB.output.trans hg.output, Nat.le_trans hg.size hB.size, fun i hi hne => (hB.block i (Nat.lt_of_lt_of_le hi hg.size)).trans (hg.block i hi hne)⟩)
      have HR2 := Lib.hid hr2
      have HS := Lib.hid hs
      have HM := Lib.hid hm
      generalize cur[k] = x0 at hA0
      clear hB hg hr hr2 hs hm HW
      go_wp2
      go_roundw
      case rel => exact ⟨k + 1, by omega, by go_num, by have := HQ.out; go_num, ⟨HG.out.os, HG.out.tape, HG.out.output, by have := HG.out.size; simpa [World.setCell] using this, fun i hi hne => (Below.heap_setCell _ _ _ _ (fun e => hne (by rw [e]))).trans (HG.out.block i hi hne)⟩, _, HR2.out.set _ _, by simpa using HS.out, by rw [← HQ.out]; exact HM.out.step (by have := HS.out; omega)⟩
      case measure => simp [intOf]; omega
    · obtain rfl : k = len := by omega
      go_wp2
      go_ret
      exact ⟨rfl, HW.out.1, HW.out.2⟩
end Go.Proofs.YtdphganbnlmgcaaGreatDoor
