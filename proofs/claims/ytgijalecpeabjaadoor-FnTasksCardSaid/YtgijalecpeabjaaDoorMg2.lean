/- Texts put together, as a claim holds at most sixty files. -/
import Derived.Test.YtgijalecpeabjaaDoorMg1
import Derived.Lib.LaidTab
import Derived.Stop.LaidErr
import Derived.KernelRfl
import Derived.Deep.Strs
import Derived.Test.YtgijalecpeabjaaDoorMg0
import Derived.Laws.BytesArg
namespace Go.Proofs.YtgijalecpeabjaaDoor
open Go.ChangeShapes Go.WideShapes Go.ChangeAt Go.RowKit
set_option linter.unusedVariables false
set_option maxRecDepth 100000

def textB : Nat → ByteArray
  | 1 => ⟨#[102]⟩ | 2 => ⟨#[116, 58]⟩ | 3 => ⟨#[110]⟩ | 4 => ⟨#[99, 97, 116]⟩ | 5 => ⟨#[108, 101, 110]⟩ | 6 => ⟨#[105, 110, 116]⟩ | 7 => ⟨#[115, 116, 114]⟩
  | 8 => ⟨#[97, 100, 100]⟩ | 9 => ⟨#[115, 117, 98]⟩ | 10 => ⟨#[109, 117, 108]⟩ | 11 => ⟨#[108, 101, 115, 115]⟩ | 12 => ⟨#[115, 97, 109, 101]⟩ | 13 => ⟨#[101, 109, 105, 116]⟩
  | 14 => ⟨#[101, 109, 105, 116, 105, 102]⟩ | _ => ByteArray.empty
def fieldB : Nat → ByteArray
  | 1 => ⟨#[78]⟩ | 2 => ⟨#[83]⟩ | 3 => ⟨#[78]⟩ | _ => ByteArray.empty
def formsD {H : Type} : List (DataW H) := (List.range 15).map fun x => .agg [.lit (.string (textB x).data.toList), .lit (.string (fieldB x).data.toList), .lit (.string (takesB x).data.toList), .lit (.string (givesB x).data.toList)]

structure TabsP (w : World) : Prop where
  lt : 0 < w.heap.size
  cell : ∀ x, x < 15 → w.cell? ⟨0, x * 4, none⟩ = some (.string (textB x)) ∧ w.cell? ⟨0, x * 4 + 1, none⟩ = some (.string (fieldB x)) ∧
    w.cell? ⟨0, x * 4 + 2, none⟩ = some (.string (takesB x)) ∧ w.cell? ⟨0, x * 4 + 3, none⟩ = some (.string (givesB x))
theorem TabsP.keep {w w' : World} (h : TabsP w) (hB : Below w.heap.size w w') : TabsP w' :=
  ⟨Nat.lt_of_lt_of_le h.lt hB.size, fun x hx => ⟨(hB.cell (p := ⟨_, x * 4, none⟩) h.lt).trans (h.cell x hx).1, (hB.cell (p := ⟨_, x * 4 + 1, none⟩) h.lt).trans (h.cell x hx).2.1,
    (hB.cell (p := ⟨_, x * 4 + 2, none⟩) h.lt).trans (h.cell x hx).2.2.1, (hB.cell (p := ⟨_, x * 4 + 3, none⟩) h.lt).trans (h.cell x hx).2.2.2⟩⟩

theorem gForms : Tryd.prog.globalNamed "loop.example/g00703/impl.opForms" = some 0 := by kernel_rfl
theorem gFormsType : (Tryd.prog.globals[0]?).map (·.type) = some 63 := by kernel_rfl
theorem formsCells : Tryd.prog.cellsOf 63 = 60 := by kernel_rfl
theorem formCells : Tryd.prog.cellsOf 62 = 4 := by kernel_rfl
theorem strCellsP : Tryd.prog.cellsOf 9 = 1 := by kernel_rfl
theorem forms_data {H : Type} : (Rows.laid_loop_example_g00703_impl_opForms : DataW H) = .agg formsD := by rfl

theorem bytes_eq {s u : ByteArray} (h : s.data.toList = u.data.toList) : s = u := ByteArray.ext (Array.toList_inj.1 h)

theorem form_read {H : Type} {enc : TypeId × Value → H} {w : World} {base : Nat} {sp : Nat → Bool} {held : Bool} {fuel : Nat} {cs : List Value} {a b c d : ByteArray} {p : List MemPlace}
    (h : DataW.trod enc Tryd.prog w base sp held fuel 62 cs = some (.agg [.lit (.string a.data.toList), .lit (.string b.data.toList), .lit (.string c.data.toList), .lit (.string d.data.toList)], p)) :
    cs = [.string a, .string b, .string c, .string d] := by
  obtain ⟨xs, n, _, hx, hl, hlen, hf⟩ := DataW.trod_struct Tryd.underlying62 h
  rw [formCells] at hl
  match xs, hlen, cs, hl with
  | [y0, y1, y2, y3], _, [c0, c1, c2, c3], _ =>
    have k : Tryd.prog.cellsOf 9 = 1 := strCellsP
    have h0 := hf 0 _ rfl
    have h1 := hf 1 _ rfl
    have h2 := hf 2 _ rfl
    have h3 := hf 3 _ rfl
    obtain ⟨s0, e0, f0, _⟩ := DataW.trod_string Tryd.underlying9 h0
    obtain ⟨s1, e1, f1, _⟩ := DataW.trod_string Tryd.underlying9 h1
    obtain ⟨s2, e2, f2, _⟩ := DataW.trod_string Tryd.underlying9 h2
    obtain ⟨s3, e3, f3, _⟩ := DataW.trod_string Tryd.underlying9 h3
    simp [k] at e0 e1 e2 e3 f0 f1 f2 f3
    simp [f0, f1, f2, f3] at hx
    obtain ⟨⟨g0, g1, g2, g3⟩, _⟩ := hx
    rw [e0, e1, e2, e3, bytes_eq (by simp [g0] : a.data.toList = s0.data.toList), bytes_eq (by simp [g1] : b.data.toList = s1.data.toList), bytes_eq (by simp [g2] : c.data.toList = s2.data.toList), bytes_eq (by simp [g3] : d.data.toList = s3.data.toList)]

theorem tabsp_of_head {W : World} {rest} (h : laidMet Tryd.prog (("loop.example/g00703/impl.opForms", Rows.laid_loop_example_g00703_impl_opForms) :: rest) W) : TabsP W := by
  obtain ⟨ps, ⟨g', t', cs, fuel, p, q, hg', ht', hvar, hd, _, _⟩, _⟩ := h
  obtain rfl := Option.some.inj (gForms.symm.trans hg')
  obtain rfl := Option.some.inj (gFormsType.symm.trans ht')
  rw [forms_data] at hd
  have hcell := World.var?_cell gForms hvar
  have hall : ∀ x, x < 15 → cs[x * 4]? = some (.string (textB x)) ∧ cs[x * 4 + 1]? = some (.string (fieldB x)) ∧ cs[x * 4 + 2]? = some (.string (takesB x)) ∧ cs[x * 4 + 3]? = some (.string (givesB x)) := by
    cases fuel with
    | zero => simp [DataW.trod] at hd
    | succ fuel =>
      simp only [DataW.trod, Tryd.underlying63, formCells, formsCells] at hd
      split at hd
      · rename_i hl
        obtain ⟨xs, hm, hx⟩ := Option.map_eq_some_iff.1 hd
        have hxs : xs.map (·.1) = (formsD : List (DataW Unit)) := by
          have := congrArg Prod.fst hx
          simpa using this
        intro x hlt
        obtain ⟨b, hb, hf⟩ := Lib.mapM_at hm x x (by simp [hlt])
        have h2 : (xs.map (·.1))[x]? = some b.1 := by simp [hb]
        rw [hxs] at h2
        simp only [formsD, List.getElem?_map, List.getElem?_range hlt, Option.map_some, Option.some.injEq] at h2
        obtain ⟨b1, b2⟩ := b
        simp only at h2
        subst h2
        have hcs := form_read hf
        have hget : ∀ j, j < 4 → cs[x * 4 + j]? = ((cs.toList.drop (x * 4)).take 4)[j]? := fun j hj => by
          rw [List.getElem?_take_of_lt hj, List.getElem?_drop, Array.getElem?_toList]
        simp only [hcs] at hget
        exact ⟨by simpa using hget 0 (by omega), by simpa using hget 1 (by omega), by simpa using hget 2 (by omega), by simpa using hget 3 (by omega)⟩
      · cases hd
  have hat : ∀ j v, cs[j]? = some v → W.cell? ⟨0, j, none⟩ = some v := fun j v hj => by
    rw [hcell j]; simpa using hj
  refine ⟨World.block_lt_of_cell? _ _ (hat 0 _ (hall 0 (by omega)).1), fun x hx => ⟨hat _ _ (hall x hx).1, hat _ _ (hall x hx).2.1, hat _ _ (hall x hx).2.2.1, hat _ _ (hall x hx).2.2.2⟩⟩
theorem tabsp_of {W : World} (h : laidMet Tryd.prog [("loop.example/g00703/impl.opForms", Rows.laid_loop_example_g00703_impl_opForms)] W) : TabsP W := tabsp_of_head h
end Go.Proofs.YtgijalecpeabjaaDoor
namespace Go.Proofs.YtgijalecpeabjaaDoor
open Go.ChangeShapes Go.WideShapes Go.ChangeAt Go.RowKit
set_option linter.unusedVariables false
set_option maxRecDepth 100000

abbrev Strs := List ByteArray
def strAt (l : Strs) (i : Nat) : ByteArray := l.getD i ByteArray.empty

/-- The slice (a, len, cap) holds the texts l. -/
structure StrsAt (w : World) (a : Option Addr) (len : Nat) (l : Strs) : Prop where
  length : l.length = len
  max : len ≤ maxLen
  sizes : ∀ i, i < len → (strAt l i).size ≤ maxLen
  src : len = 0 ∨ ∃ b off, a = some ⟨b, off, none⟩ ∧ b < w.heap.size ∧ ∀ i, i < len → w.cell? ⟨b, off + i, none⟩ = some (.string (strAt l i))

theorem StrsAt.keep {w w1 : World} {a : Option Addr} {len : Nat} {l : Strs} (h : StrsAt w a len l) (hB : Below w.heap.size w w1) : StrsAt w1 a len l := by
  refine ⟨h.length, h.max, h.sizes, ?_⟩
  rcases h.src with h0 | ⟨b, off, ha, hb, hc⟩
  · exact .inl h0
  · exact .inr ⟨b, off, ha, Nat.lt_of_lt_of_le hb hB.size, fun i hi => (hB.cell (p := ⟨b, off + i, none⟩) hb).trans (hc i hi)⟩

set_option maxHeartbeats 1000000 in
theorem eqstrs_same (a1 a2 : Option Addr) (len cap1 cap2 : Nat) (l : Strs) (w : World) (h1 : StrsAt w a1 len l) (h2 : StrsAt w a2 len l) :
    Calls Tryd.prog 63 #[.slice a1 len cap1, .slice a2 len cap2] w (MadeBool true w) := by
  have hm := h1.max
  unfold maxLen at hm
  have HR1 := Lib.hid h1
  have HR2 := Lib.hid h2
  clear h1 h2
  go_enter Tryd.func63, Tryd.ntmps63
  go_wp2
  go_loopw [5] (fun i wr => ∃ k : Nat, k ≤ len ∧ i = .int .i64 k ∧ Hid (Below w.heap.size w wr)) (fun i _ => len - (intOf i).toNat)
  case atStart => exact ⟨0, Nat.zero_le _, rfl, Below.refl _ _⟩
  case round =>
    obtain ⟨k, hk, rfl, HW⟩ := hrel
    by_cases hlt : k < len
    · rcases HR1.out.src with hz | ⟨b1, off1, rfl, hb1, hc1⟩
      · omega
      · rcases HR2.out.src with hz | ⟨b2, off2, rfl, hb2, hc2⟩
        · omega
        · have c0 := (HW.out.cell (p := ⟨b1, off1 + k, none⟩) hb1).trans (hc1 k hlt)
          have d0 := (HW.out.cell (p := ⟨b2, off2 + k, none⟩) hb2).trans (hc2 k hlt)
          have hi1 : (k : Int) < (len : Int) := by omega
          have hi0 : (0 : Int) ≤ (k : Int) := by omega
          clear hc1 hc2 hb1 hb2
          go_wp2_with fail
          go_quiet (fail)
          go_wp2
          go_roundw
          case rel => exact ⟨k + 1, by omega, by go_num, below_drewN HW.out _⟩
          case measure => simp [intOf]; omega
    · go_wp2
      go_ret
      exact ⟨rfl, HW.out⟩

def mtAux (k : Nat) (o : List UInt8) : List UInt8 := if h : k = 0 then o else mtAux (k / 10) (UInt8.ofNat (48 + k % 10) :: o)
termination_by k
decreasing_by omega
theorem mtAux_zero (o : List UInt8) : mtAux 0 o = o := by unfold mtAux; rfl
theorem mtAux_step (k : Nat) (o : List UInt8) (h : 0 < k) : mtAux k o = mtAux (k / 10) (UInt8.ofNat (48 + k % 10) :: o) := by
  rw [mtAux, dif_neg (by omega)]
/-- The text of mark number k. -/
def mtext (k : Nat) : ByteArray := ⟨#[109]⟩ ++ ⟨(mtAux k []).toArray⟩

theorem digit_cons (K : Nat) (O : ByteArray) : (strOfNums [(48 : Int) + (K : Int) % 10] ++ O).data.toList = UInt8.ofNat (48 + K % 10) :: O.data.toList := by
  have e : ((48 : Int) + (K : Int) % 10).toNat = 48 + K % 10 := by omega
  simp [strOfNums, e]
theorem mtext_of (O : ByteArray) (k0 : Nat) (h : mtAux 0 O.data.toList = mtAux k0 []) : (⟨#[109]⟩ : ByteArray) ++ O = mtext k0 := by
  unfold mtext
  rw [← h, mtAux_zero]

def MadeStr (s : ByteArray) (w : World) (e : Ending) (w' : World) : Prop := e = .returned (.string s) ∧ Below w.heap.size w w'

set_option maxHeartbeats 1000000 in
theorem marktext_any (k0 : Nat) (w : World) (h1 : 1 ≤ k0) (h2 : k0 ≤ 1099511627776) :
    Calls Tryd.prog 50 #[.int .i64 k0] w (MadeStr (mtext k0) w) := by
  have kc : ∀ (wx : World) (y : Int), (convert 34 9 (.slice (some ⟨wx.heap.size, 0, none⟩) 1 1)).run Tryd.prog (wx.alloc (.cells #[.int .u8 y] 5)) = .ok (.string (strOfNums [y])) (wx.alloc (.cells #[.int .u8 y] 5)) := fun wx y =>
    run_convert_bytes_arg _ _ _ Tryd.underlying34 Tryd.underlying5 wx.heap.size 0 1 1 [y] rfl (fun i hi => by
      obtain rfl : i = 0 := by omega
      exact cell_of_one (heap_alloc_new _ _)) _ Tryd.underlying9
  have hn : ¬ (k0 : Int) ≤ 0 := by omega
  go_enter Tryd.func50, Tryd.ntmps50
  go_wp2
  go_loopw [0, 3] (fun t o wr => ∃ (K : Nat) (O : ByteArray), t = .int .i64 K ∧ o = .string O ∧ O.size + K ≤ k0 ∧ Hid (Below w.heap.size w wr ∧ mtAux K O.data.toList = mtAux k0 [])) (fun t _ _ => (intOf t).toNat)
  case atStart => exact ⟨k0, ByteArray.empty, rfl, rfl, by show 0 + k0 ≤ k0; omega, Below.refl _ _, rfl⟩
  case round =>
    obtain ⟨K, O, rfl, rfl, hsz, HW⟩ := hrel
    by_cases hK : 0 < K
    · have hb1 : 0 ≤ (48 : Int) + (K : Int) % 10 := by omega
      have hb2 : (48 : Int) + (K : Int) % 10 ≤ 57 := by omega
      have hso : (strOfNums [(48 : Int) + (K : Int) % 10]).size ≤ 1 := Nat.le_refl 1
      have hdig := Lib.hid (digit_cons K O)
      go_wp2
      go_roundw
      case rel => exact ⟨K / 10, _, by go_num, rfl, by rw [ByteArray.size_append]; omega, below_alloc HW.out.1 _, by rw [hdig.out, ← mtAux_step _ _ hK]; exact HW.out.2⟩
      case measure => simp [intOf]; omega
    · obtain rfl : K = 0 := by omega
      have HO := Lib.hid (mtext_of O k0 HW.out.2)
      go_wp2
      go_ret
      exact ⟨congrArg (fun s => Ending.returned (.string s)) HO.out, HW.out.1⟩

/-- Row B holds the marks from number k0 on in its first n cells. -/
def Marked (cur : Array Value) (k0 n : Nat) : Prop := ∀ j, j < n → cur[j]? = some (.string (mtext (k0 + j)))
/-- The end of marking: the next number; the row is marked; nothing else that was there has changed. -/
def MadeMarks (B : Nat) (E : TypeId) (k0 len n : Nat) (w : World) (e : Ending) (w' : World) : Prop :=
  e = .returned (.int .i64 ((k0 + len : Nat) : Int)) ∧ w.grownBy w' (some B) ∧ ∃ cur, Row w' B E cur ∧ cur.size = n ∧ Marked cur k0 len

theorem Marked.step {cur : Array Value} {k0 k : Nat} (h : Marked cur k0 k) (hk : k < cur.size) : Marked (cur.setIfInBounds k (.string (mtext (k0 + k)))) k0 (k + 1) := by
  intro j hj
  rcases Nat.lt_or_ge j k with hlt | hge
  · rw [Array.getElem?_setIfInBounds_ne (by omega)]; exact h j hlt
  · obtain rfl : j = k := by omega
    simp [hk]

end Go.Proofs.YtgijalecpeabjaaDoor
namespace Go.Proofs.YtgijalecpeabjaaDoor
open Go.ChangeShapes Go.WideShapes Go.ChangeAt Go.RowKit
set_option linter.unusedVariables false
set_option maxRecDepth 100000

theorem marktextI_any (x : Int) (k0 : Nat) (w : World) (hx : x = (k0 : Int)) (h1 : 1 ≤ k0) (h2 : k0 ≤ 1099511627776) :
    Calls Tryd.prog 50 #[.int .i64 x] w (MadeStr (mtext k0) w) := by
  subst hx
  exact marktext_any k0 w h1 h2
theorem grown_belowI {w a b : World} {row : Option Nat} (hg : w.grownBy a row) (hB : Below a.heap.size a b) : w.grownBy b row :=
  ⟨hB.os.trans hg.os, hB.tape.trans hg.tape, hB.output.trans hg.output, Nat.le_trans hg.size hB.size, fun i hi hne => (hB.block i (Nat.lt_of_lt_of_le hi hg.size)).trans (hg.block i hi hne)⟩
theorem grown_setI {w a : World} {B : Nat} (hg : w.grownBy a (some B)) (j : Nat) (x : Value) : w.grownBy (a.setCell ⟨B, j, none⟩ x) (some B) :=
  ⟨hg.os, hg.tape, hg.output, by have := hg.size; simpa [World.setCell] using this, fun i hi hne => (Below.heap_setCell _ _ _ _ (fun e => hne (by rw [e]))).trans (hg.block i hi hne)⟩
end Go.Proofs.YtgijalecpeabjaaDoor
