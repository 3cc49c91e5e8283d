/- Texts put together, as a claim holds at most sixty files. -/
import Derived.Test.YtblpebdjbenphaaMg2
import Derived.Test.YtblpebdjbenphaaMg1
import Derived.OwnWalk
import Derived.WalkKit
import Derived.ProofKit
import Derived.OpenShut
import Derived.WalkLawsBesides
import Derived.Deep.QuietTactic
import Derived.BigQuiet
import Derived.Deep.RegionHeld3
import Derived.Lib.Hide
import Derived.Outline
import Derived.Test.YtblpebdjbenphaaMg3
namespace Go.Proofs.Ytblpebdjbenphaa
open Go.ChangeShapes Go.WideShapes Go.ChangeAt Go.RowKit
set_option linter.unusedVariables false
set_option maxRecDepth 100000

def RdHurt (w : World) (r : Nat) (a : Option Addr) (len cap : Nat) (e : Ending) (w' : World) : Prop :=
  ∃ (k : Int) (b : ByteArray) (v : Int) (d : ByteArray), b.size ≤ 41 ∧ d.size ≤ 30001 ∧ e = .returned (.agg #[.int .i64 k, .string b, .int .i64 v, .string d]) ∧ Went w r a len cap w'
structure DH (w wr : World) (r : Nat) (a : Option Addr) (len cap : Nat) (A : Array Value) : Prop where
  went : Went w r a len cap wr
  box : Row wr w.heap.size 57 A
  res : Row wr (w.heap.size + 1) 57 #[.int .i64 0, .string ⟨#[]⟩, .int .i64 0, .string ⟨#[]⟩]
theorem DH.step {w wr w1 : World} {r : Nat} {a : Option Addr} {len cap : Nat} {A : Array Value} (h : DH w wr r a len cap A) (hr : r < w.heap.size) (hw : Went wr r a len cap w1) : DH w w1 r a len cap A :=
  ⟨h.went.trans hw, h.box.grown hw.grown (by intro e; injection e with e; omega), h.res.grown hw.grown (by intro e; injection e with e; omega)⟩
theorem DH.alloc {w wr : World} {r : Nat} {a : Option Addr} {len cap : Nat} {A : Array Value} (h : DH w wr r a len cap A) (o : Obj) : DH w (wr.alloc o) r a len cap A :=
  ⟨h.went.alloc _, h.box.alloc _, h.res.alloc _⟩
theorem DH.set {w wr : World} {r : Nat} {a : Option Addr} {len cap : Nat} {A : Array Value} (h : DH w wr r a len cap A) (hr : r < w.heap.size) (j : Nat) (v : Value) : DH w (wr.setCell ⟨w.heap.size, j, none⟩ v) r a len cap (A.setIfInBounds j v) :=
  ⟨went_set h.went hr (Nat.le_refl _) j v, h.box.set j v, h.res.other (by omega) j v⟩

set_option maxHeartbeats 4000000 in
theorem hurtcmd_any (k : Int) (b : ByteArray) (v : Int) (d : ByteArray) (w : World) (r : Nat) (a : Option Addr) (len cap : Nat) (h : Rdr w r a len cap) (hb : b.size ≤ 41) (hd : d.size ≤ 30001) :
    Calls Try.prog 29 #[.pointer (some ⟨r, 0, none⟩), .agg #[.int .i64 k, .string b, .int .i64 v, .string d]] w (RdHurt w r a len cap) := by
  have HR := Lib.hid h.lt
  have HBS := Lib.hid hb
  have HDS := Lib.hid hd
  have HD := Lib.hid (show DH w ((w.alloc (.cells #[.int .i64 k, .string b, .int .i64 v, .string d] 57)).alloc (.cells #[.int .i64 0, .string ⟨#[]⟩, .int .i64 0, .string ⟨#[]⟩] 57)) r a len cap #[.int .i64 k, .string b, .int .i64 v, .string d] from
    ⟨((Went.refl h).alloc _).alloc _, (Row.new w 57 #[.int .i64 k, .string b, .int .i64 v, .string d]).alloc _, by
      have := Row.new (w.alloc (.cells #[.int .i64 k, .string b, .int .i64 v, .string d] 57)) 57 #[.int .i64 0, .string ⟨#[]⟩, .int .i64 0, .string ⟨#[]⟩]
      simpa using this⟩)
  clear h hb hd
  go_enter Try.func29, Try.ntmps29
  go_wp2_with fail
  refine (below_any _ _ _ _ _ _ HD.out.went.rdr (by decide) (by decide)).mono ?_
  rintro e w1 ⟨⟨x, hx1, hx2, rfl⟩, hw⟩
  have HD := Lib.hid (HD.out.step HR.out hw)
  clear hw
  by_cases e0 : x = 0
  · subst e0
    go_wp2_with fail
    refine (off_any _ _ _ _ _ _ _ HD.out.went.rdr (by decide) (by decide) (by decide)).mono ?_
    rintro e w2 ⟨⟨z, hz, rfl⟩, hw⟩
    have HD := Lib.hid (HD.out.step HR.out hw)
    clear hw hz
    have c0 := HD.out.box.cell (j := 0) (by simp)
    have c1 := HD.out.box.cell (j := 1) (by simp)
    have c2 := HD.out.box.cell (j := 2) (by simp)
    have c3 := HD.out.box.cell (j := 3) (by simp)
    have fr0 := HD.out.box.free 0
    have fr1 := HD.out.box.free 1
    have fr2 := HD.out.box.free 2
    have fr3 := HD.out.box.free 3
    simp at c0 c1 c2 c3
    have y0 := HD.out.res.cell (j := 0) (by simp)
    have y1 := HD.out.res.cell (j := 1) (by simp)
    have y2 := HD.out.res.cell (j := 2) (by simp)
    have y3 := HD.out.res.cell (j := 3) (by simp)
    have f0 := HD.out.res.free 0
    have f1 := HD.out.res.free 1
    have f2 := HD.out.res.free 2
    have f3 := HD.out.res.free 3
    simp at y0 y1 y2 y3
    have HD := Lib.hid (HD.out.set HR.out 0 (.int .i64 z))
    go_wp2
    have hbF := ((((HD.out.res.set 0 (.int .i64 z)).set 1 (.string b)).set 2 (.int .i64 v)).set 3 (.string d))
    unfold Row at hbF
    exact bodyPost_ret (v := .agg #[.int .i64 z, .string b, .int .i64 v, .string d]) (by simp [results, Try.results29, go_sem, World.cell?, hbF]) rfl ⟨_, _, _, _, HBS.out, HDS.out, rfl, went_set (went_set (went_set (went_set HD.out.went HR.out (by omega) 0 _) HR.out (by omega) 1 _) HR.out (by omega) 2 _) HR.out (by omega) 3 _⟩
  have n0 : (x == 0) = false := by rw [beq_eq_false_iff_ne]; exact e0
  by_cases e1 : x = 1
  · subst e1
    go_wp2_with fail
    refine (below_any _ _ _ _ _ _ (HD.out.went.rdr.alloc _) (by decide) (by decide)).mono ?_
    rintro e w2 ⟨⟨y, hy1, hy2, rfl⟩, hw⟩
    obtain ⟨t, ht, hct⟩ := tab_cell (m := 41) (hw.block (k := w1.heap.size) (heap_alloc_new _ _) (Nat.ne_of_gt HD.out.went.rdr.lt)) (by decide) y hy1 (by show y < 5; omega)
    have HD := Lib.hid ((HD.out.alloc _).step HR.out hw)
    have HT := Lib.hid ht
    clear hw ht
    have c0 := HD.out.box.cell (j := 0) (by simp)
    have c1 := HD.out.box.cell (j := 1) (by simp)
    have c2 := HD.out.box.cell (j := 2) (by simp)
    have c3 := HD.out.box.cell (j := 3) (by simp)
    have fr0 := HD.out.box.free 0
    have fr1 := HD.out.box.free 1
    have fr2 := HD.out.box.free 2
    have fr3 := HD.out.box.free 3
    simp at c0 c1 c2 c3
    have y0 := HD.out.res.cell (j := 0) (by simp)
    have y1 := HD.out.res.cell (j := 1) (by simp)
    have y2 := HD.out.res.cell (j := 2) (by simp)
    have y3 := HD.out.res.cell (j := 3) (by simp)
    have f0 := HD.out.res.free 0
    have f1 := HD.out.res.free 1
    have f2 := HD.out.res.free 2
    have f3 := HD.out.res.free 3
    simp at y0 y1 y2 y3
    have HD := Lib.hid (HD.out.set HR.out 1 (.string t))
    go_wp2
    have hbF := ((((HD.out.res.set 0 (.int .i64 k)).set 1 (.string t)).set 2 (.int .i64 v)).set 3 (.string d))
    unfold Row at hbF
    exact bodyPost_ret (v := .agg #[.int .i64 k, .string t, .int .i64 v, .string d]) (by simp [results, Try.results29, go_sem, World.cell?, hbF]) rfl ⟨_, _, _, _, HT.out, HDS.out, rfl, went_set (went_set (went_set (went_set HD.out.went HR.out (by omega) 0 _) HR.out (by omega) 1 _) HR.out (by omega) 2 _) HR.out (by omega) 3 _⟩
  have n1 : (x == 1) = false := by rw [beq_eq_false_iff_ne]; exact e1
  by_cases e2 : x = 2
  · subst e2
    go_wp2_with fail
    refine (off_any _ _ _ _ _ _ _ HD.out.went.rdr (by decide) (by decide) (by decide)).mono ?_
    rintro e w2 ⟨⟨z, hz, rfl⟩, hw⟩
    have HD := Lib.hid (HD.out.step HR.out hw)
    clear hw hz
    have c0 := HD.out.box.cell (j := 0) (by simp)
    have c1 := HD.out.box.cell (j := 1) (by simp)
    have c2 := HD.out.box.cell (j := 2) (by simp)
    have c3 := HD.out.box.cell (j := 3) (by simp)
    have fr0 := HD.out.box.free 0
    have fr1 := HD.out.box.free 1
    have fr2 := HD.out.box.free 2
    have fr3 := HD.out.box.free 3
    simp at c0 c1 c2 c3
    have y0 := HD.out.res.cell (j := 0) (by simp)
    have y1 := HD.out.res.cell (j := 1) (by simp)
    have y2 := HD.out.res.cell (j := 2) (by simp)
    have y3 := HD.out.res.cell (j := 3) (by simp)
    have f0 := HD.out.res.free 0
    have f1 := HD.out.res.free 1
    have f2 := HD.out.res.free 2
    have f3 := HD.out.res.free 3
    simp at y0 y1 y2 y3
    have HD := Lib.hid (HD.out.set HR.out 2 (.int .i64 z))
    go_wp2
    have hbF := ((((HD.out.res.set 0 (.int .i64 k)).set 1 (.string b)).set 2 (.int .i64 z)).set 3 (.string d))
    unfold Row at hbF
    exact bodyPost_ret (v := .agg #[.int .i64 k, .string b, .int .i64 z, .string d]) (by simp [results, Try.results29, go_sem, World.cell?, hbF]) rfl ⟨_, _, _, _, HBS.out, HDS.out, rfl, went_set (went_set (went_set (went_set HD.out.went HR.out (by omega) 0 _) HR.out (by omega) 1 _) HR.out (by omega) 2 _) HR.out (by omega) 3 _⟩
  have n2 : (x == 2) = false := by rw [beq_eq_false_iff_ne]; exact e2
  by_cases e3 : x = 3
  · subst e3
    go_wp2_with fail
    refine (data_any _ _ _ _ _ HD.out.went.rdr).mono ?_
    rintro e w2 ⟨⟨z, hz, rfl⟩, hw⟩
    have HD := Lib.hid (HD.out.step HR.out hw)
    have HZ := Lib.hid hz
    clear hw hz
    have c0 := HD.out.box.cell (j := 0) (by simp)
    have c1 := HD.out.box.cell (j := 1) (by simp)
    have c2 := HD.out.box.cell (j := 2) (by simp)
    have c3 := HD.out.box.cell (j := 3) (by simp)
    have fr0 := HD.out.box.free 0
    have fr1 := HD.out.box.free 1
    have fr2 := HD.out.box.free 2
    have fr3 := HD.out.box.free 3
    simp at c0 c1 c2 c3
    have y0 := HD.out.res.cell (j := 0) (by simp)
    have y1 := HD.out.res.cell (j := 1) (by simp)
    have y2 := HD.out.res.cell (j := 2) (by simp)
    have y3 := HD.out.res.cell (j := 3) (by simp)
    have f0 := HD.out.res.free 0
    have f1 := HD.out.res.free 1
    have f2 := HD.out.res.free 2
    have f3 := HD.out.res.free 3
    simp at y0 y1 y2 y3
    have HD := Lib.hid (HD.out.set HR.out 3 (.string z))
    go_wp2
    have hbF := ((((HD.out.res.set 0 (.int .i64 k)).set 1 (.string b)).set 2 (.int .i64 v)).set 3 (.string z))
    unfold Row at hbF
    exact bodyPost_ret (v := .agg #[.int .i64 k, .string b, .int .i64 v, .string z]) (by simp [results, Try.results29, go_sem, World.cell?, hbF]) rfl ⟨_, _, _, _, HBS.out, HZ.out, rfl, went_set (went_set (went_set (went_set HD.out.went HR.out (by omega) 0 _) HR.out (by omega) 1 _) HR.out (by omega) 2 _) HR.out (by omega) 3 _⟩
  have n3 : (x == 3) = false := by rw [beq_eq_false_iff_ne]; exact e3
  have c0 := HD.out.box.cell (j := 0) (by simp)
  have c1 := HD.out.box.cell (j := 1) (by simp)
  have c2 := HD.out.box.cell (j := 2) (by simp)
  have c3 := HD.out.box.cell (j := 3) (by simp)
  have fr0 := HD.out.box.free 0
  have fr1 := HD.out.box.free 1
  have fr2 := HD.out.box.free 2
  have fr3 := HD.out.box.free 3
  simp at c0 c1 c2 c3
  have y0 := HD.out.res.cell (j := 0) (by simp)
  have y1 := HD.out.res.cell (j := 1) (by simp)
  have y2 := HD.out.res.cell (j := 2) (by simp)
  have y3 := HD.out.res.cell (j := 3) (by simp)
  have f0 := HD.out.res.free 0
  have f1 := HD.out.res.free 1
  have f2 := HD.out.res.free 2
  have f3 := HD.out.res.free 3
  simp at y0 y1 y2 y3
  go_wp2
  have hbF := ((((HD.out.res.set 0 (.int .i64 k)).set 1 (.string b)).set 2 (.int .i64 v)).set 3 (.string d))
  unfold Row at hbF
  exact bodyPost_ret (v := .agg #[.int .i64 k, .string b, .int .i64 v, .string d]) (by simp [results, Try.results29, go_sem, World.cell?, hbF]) rfl ⟨_, _, _, _, HBS.out, HDS.out, rfl, went_set (went_set (went_set (went_set HD.out.went HR.out (by omega) 0 _) HR.out (by omega) 1 _) HR.out (by omega) 2 _) HR.out (by omega) 3 _⟩
end Go.Proofs.Ytblpebdjbenphaa
namespace Go.Proofs.Ytblpebdjbenphaa
open Go.ChangeShapes Go.WideShapes Go.ChangeAt Go.RowKit
set_option linter.unusedVariables false
set_option maxRecDepth 100000

abbrev Cmds := List (Int × ByteArray × Int × ByteArray)
def cmd0 (l : Cmds) (i : Nat) : Int := (l.getD i (0, ByteArray.empty, 0, ByteArray.empty)).1
def cmd1 (l : Cmds) (i : Nat) : ByteArray := (l.getD i (0, ByteArray.empty, 0, ByteArray.empty)).2.1
def cmd2 (l : Cmds) (i : Nat) : Int := (l.getD i (0, ByteArray.empty, 0, ByteArray.empty)).2.2.1
def cmd3 (l : Cmds) (i : Nat) : ByteArray := (l.getD i (0, ByteArray.empty, 0, ByteArray.empty)).2.2.2

/-- The slice (a, len, cap) holds the values l. -/
structure CmdsAt (w : World) (a : Option Addr) (len : Nat) (l : Cmds) : Prop where
  length : l.length = len
  max : len ≤ maxLen
  keys : ∀ i, i < len → (cmd1 l i).size ≤ maxLen ∧ (cmd3 l i).size ≤ maxLen
  src : len = 0 ∨ ∃ b off, a = some ⟨b, off, none⟩ ∧ b < w.heap.size ∧ ∀ i, i < len → w.cell? ⟨b, off + i * 4, none⟩ = some (.int .i64 (cmd0 l i)) ∧ w.cell? ⟨b, off + i * 4 + 1, none⟩ = some (.string (cmd1 l i)) ∧ w.cell? ⟨b, off + i * 4 + 2, none⟩ = some (.int .i64 (cmd2 l i)) ∧ w.cell? ⟨b, off + i * 4 + 3, none⟩ = some (.string (cmd3 l i))

theorem CmdsAt.keep {w w1 : World} {a : Option Addr} {len : Nat} {l : Cmds} (h : CmdsAt w a len l) (hB : Below w.heap.size w w1) : CmdsAt w1 a len l := by
  refine ⟨h.length, h.max, h.keys, ?_⟩
  rcases h.src with h0 | ⟨b, off, ha, hb, hc⟩
  · exact .inl h0
  · exact .inr ⟨b, off, ha, Nat.lt_of_lt_of_le hb hB.size, fun i hi => ⟨(hB.cell (p := ⟨b, off + i * 4, none⟩) hb).trans (hc i hi).1, (hB.cell (p := ⟨b, off + i * 4 + 1, none⟩) hb).trans (hc i hi).2.1, (hB.cell (p := ⟨b, off + i * 4 + 2, none⟩) hb).trans (hc i hi).2.2.1, (hB.cell (p := ⟨b, off + i * 4 + 3, none⟩) hb).trans (hc i hi).2.2.2⟩⟩

theorem CmdsAt.put {w : World} {a : Option Addr} {len : Nat} {l : Cmds} (h : CmdsAt w a len l) {X : Nat} (hne : ∀ b off, a = some ⟨b, off, none⟩ → b ≠ X) (j : Nat) (v : Value) : CmdsAt (w.setCell ⟨X, j, none⟩ v) a len l := by
  refine ⟨h.length, h.max, h.keys, ?_⟩
  rcases h.src with h0 | ⟨b, off, ha, hb, hc⟩
  · exact .inl h0
  · have e : ∀ o, (w.setCell ⟨X, j, none⟩ v).cell? ⟨b, o, none⟩ = w.cell? ⟨b, o, none⟩ := fun o => by
      simp only [World.cell?, Below.heap_setCell w ⟨X, j, none⟩ v b (hne b off ha)]
    exact .inr ⟨b, off, ha, by simpa [World.setCell] using hb, fun i hi => by simpa only [e] using hc i hi⟩

def CmdSized1 (left : Int) (x1 : ByteArray) (x3 : ByteArray) (w : World) (e : Ending) (w' : World) : Prop :=
  ∃ x : Int, -1 ≤ x ∧ x ≤ left ∧ e = .returned (.int .i64 x) ∧ Below w.heap.size w w' ∧ (0 ≤ x → x1.size ≤ 1048576 ∧ x3.size ≤ 1048576)

def CmdSized (len : Nat) (l : Cmds) (w : World) (e : Ending) (w' : World) : Prop :=
  ∃ x : Int, -1 ≤ x ∧ x ≤ 1048576 ∧ e = .returned (.int .i64 x) ∧ Below w.heap.size w w' ∧ (0 ≤ x → len ≤ 1048576 ∧ ∀ i, i < len → (cmd1 l i).size ≤ 1048576 ∧ (cmd3 l i).size ≤ 1048576)

theorem infoCmd : (Try.prog.info? 57).map (fun i => (i.zero, i.size, i.bytes)) = some (some (.agg #[.int .i64 0, .string ByteArray.empty, .int .i64 0, .string ByteArray.empty]), 4, 48) := by kernel_rfl

def CmdLaid (cur : Array Value) (l : Cmds) (k : Nat) : Prop := ∀ j, j < k → cur[j * 4]? = some (.int .i64 (cmd0 l j)) ∧ cur[j * 4 + 1]? = some (.string (cmd1 l j)) ∧ cur[j * 4 + 2]? = some (.int .i64 (cmd2 l j)) ∧ cur[j * 4 + 3]? = some (.string (cmd3 l j))
theorem CmdLaid.step {cur : Array Value} {l : Cmds} {k len : Nat} (h : CmdLaid cur l k) (hs : cur.size = len * 4) (hk : k < len) :
    CmdLaid ((((cur.setIfInBounds (k * 4) (.int .i64 (cmd0 l k))).setIfInBounds (k * 4 + 1) (.string (cmd1 l k))).setIfInBounds (k * 4 + 2) (.int .i64 (cmd2 l k))).setIfInBounds (k * 4 + 3) (.string (cmd3 l k))) l (k + 1) := by
  intro j hj
  rcases Nat.lt_or_ge j k with hlt | hge
  · obtain ⟨e0, e1, e2, e3⟩ := h j hlt
    refine ⟨?_, ?_, ?_, ?_⟩
    · rw [Array.getElem?_setIfInBounds_ne (by omega), Array.getElem?_setIfInBounds_ne (by omega), Array.getElem?_setIfInBounds_ne (by omega), Array.getElem?_setIfInBounds_ne (by omega)]; exact e0
    · rw [Array.getElem?_setIfInBounds_ne (by omega), Array.getElem?_setIfInBounds_ne (by omega), Array.getElem?_setIfInBounds_ne (by omega), Array.getElem?_setIfInBounds_ne (by omega)]; exact e1
    · rw [Array.getElem?_setIfInBounds_ne (by omega), Array.getElem?_setIfInBounds_ne (by omega), Array.getElem?_setIfInBounds_ne (by omega), Array.getElem?_setIfInBounds_ne (by omega)]; exact e2
    · rw [Array.getElem?_setIfInBounds_ne (by omega), Array.getElem?_setIfInBounds_ne (by omega), Array.getElem?_setIfInBounds_ne (by omega), Array.getElem?_setIfInBounds_ne (by omega)]; exact e3
  · obtain rfl : j = k := by omega
    refine ⟨?_, ?_, ?_, ?_⟩
    · rw [Array.getElem?_setIfInBounds_ne (by omega), Array.getElem?_setIfInBounds_ne (by omega), Array.getElem?_setIfInBounds_ne (by omega)]; rw [Array.getElem?_setIfInBounds_self_of_lt (by first | omega | (simp only [Array.size_setIfInBounds]; omega))]
    · rw [Array.getElem?_setIfInBounds_ne (by omega), Array.getElem?_setIfInBounds_ne (by omega)]; rw [Array.getElem?_setIfInBounds_self_of_lt (by first | omega | (simp only [Array.size_setIfInBounds]; omega))]
    · rw [Array.getElem?_setIfInBounds_ne (by omega)]; rw [Array.getElem?_setIfInBounds_self_of_lt (by first | omega | (simp only [Array.size_setIfInBounds]; omega))]
    · rw [Array.getElem?_setIfInBounds_self_of_lt (by first | omega | (simp only [Array.size_setIfInBounds]; omega))]

theorem CmdsAt.ofRow {w : World} {B len : Nat} {E : TypeId} {cur : Array Value} {l : Cmds} (h : Row w B E cur) (hl : l.length = len) (hm : len ≤ maxLen) (hk : ∀ i, i < len → (cmd1 l i).size ≤ maxLen ∧ (cmd3 l i).size ≤ maxLen) (hlaid : CmdLaid cur l len) : CmdsAt w (some ⟨B, 0, none⟩) len l := by
  refine ⟨hl, hm, hk, .inr ⟨B, 0, rfl, h.lt, fun i hi => ?_⟩⟩
  obtain ⟨e0, e1, e2, e3⟩ := hlaid i hi
  unfold Row at h
  simp [World.cell?, h, e0, e1, e2, e3]

def MadeCmd (x0 : Int) (x1 : ByteArray) (x2 : Int) (x3 : ByteArray) (w : World) (e : Ending) (w' : World) : Prop := e = .returned (.agg #[.int .i64 x0, .string x1, .int .i64 x2, .string x3]) ∧ Below w.heap.size w w'

/-- The end of the laws' copy: a new slice of the same values. -/
def MadeCmds (len : Nat) (l : Cmds) (w : World) (e : Ending) (w' : World) : Prop :=
  e = .returned (.slice (some ⟨w.heap.size, 0, none⟩) len len) ∧ CmdsAt w' (some ⟨w.heap.size, 0, none⟩) len l ∧ Below w.heap.size w w' ∧ ∃ cur, Row w' w.heap.size 57 cur ∧ cur.size = len * 4

end Go.Proofs.Ytblpebdjbenphaa
