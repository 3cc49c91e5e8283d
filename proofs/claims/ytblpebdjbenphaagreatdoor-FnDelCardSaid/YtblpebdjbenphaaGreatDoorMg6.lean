/- Texts put together, as a claim holds at most sixty files. -/
import Derived.Test.YtblpebdjbenphaaGreatDoorMg3
import Derived.Test.YtblpebdjbenphaaGreatDoorMg0
import Derived.OwnWalk
import Derived.WalkKit
import Derived.ProofKit
import Derived.OpenShut
import Derived.WalkLawsBesides
import Derived.Deep.QuietTactic
import Derived.BigQuiet
import Derived.Deep.RegionHeld3
import Derived.Lib.Hide
import Derived.Outline
import Derived.Lib.Strings
namespace Go.Proofs.YtblpebdjbenphaaGreatDoor
open Go.ChangeShapes Go.WideShapes Go.ChangeAt Go.RowKit
set_option linter.unusedVariables false
set_option maxRecDepth 100000

def RdHurt (w : World) (r : Nat) (a : Option Addr) (len cap : Nat) (e : Ending) (w' : World) : Prop :=
  ∃ (k : Int) (b : ByteArray) (v : Int) (d : ByteArray), b.size ≤ 41 ∧ d.size ≤ 30001 ∧ e = .returned (.agg #[.int .i64 k, .string b, .int .i64 v, .string d]) ∧ Went w r a len cap w'
structure DH (w wr : World) (r : Nat) (a : Option Addr) (len cap : Nat) (A : Array Value) : Prop where
  went : Went w r a len cap wr
  box : Row wr w.heap.size 52 A
  res : Row wr (w.heap.size + 1) 52 #[.int .i64 0, .string ⟨#[]⟩, .int .i64 0, .string ⟨#[]⟩]
theorem DH.step {w wr w1 : World} {r : Nat} {a : Option Addr} {len cap : Nat} {A : Array Value} (h : DH w wr r a len cap A) (hr : r < w.heap.size) (hw : Went wr r a len cap w1) : DH w w1 r a len cap A :=
  ⟨h.went.trans hw, h.box.grown hw.grown (by intro e; injection e with e; omega), h.res.grown hw.grown (by intro e; injection e with e; omega)⟩
theorem DH.alloc {w wr : World} {r : Nat} {a : Option Addr} {len cap : Nat} {A : Array Value} (h : DH w wr r a len cap A) (o : Obj) : DH w (wr.alloc o) r a len cap A :=
  ⟨h.went.alloc _, h.box.alloc _, h.res.alloc _⟩
theorem DH.set {w wr : World} {r : Nat} {a : Option Addr} {len cap : Nat} {A : Array Value} (h : DH w wr r a len cap A) (hr : r < w.heap.size) (j : Nat) (v : Value) : DH w (wr.setCell ⟨w.heap.size, j, none⟩ v) r a len cap (A.setIfInBounds j v) :=
  ⟨went_set h.went hr (Nat.le_refl _) j v, h.box.set j v, h.res.other (by omega) j v⟩

set_option maxHeartbeats 4000000 in
theorem hurtcmd_any (k : Int) (b : ByteArray) (v : Int) (d : ByteArray) (w : World) (r : Nat) (a : Option Addr) (len cap : Nat) (h : Rdr w r a len cap) (hb : b.size ≤ 41) (hd : d.size ≤ 30001) :
    Calls Tryz.prog 35 #[.pointer (some ⟨r, 0, none⟩), .agg #[.int .i64 k, .string b, .int .i64 v, .string d]] w (RdHurt w r a len cap) := by
  have HR := Lib.hid h.lt
  have HBS := Lib.hid hb
  have HDS := Lib.hid hd
  have HD := Lib.hid (show DH w ((w.alloc (.cells #[.int .i64 k, .string b, .int .i64 v, .string d] 52)).alloc (.cells #[.int .i64 0, .string ⟨#[]⟩, .int .i64 0, .string ⟨#[]⟩] 52)) r a len cap #[.int .i64 k, .string b, .int .i64 v, .string d] from
    ⟨((Went.refl h).alloc _).alloc _, (Row.new w 52 #[.int .i64 k, .string b, .int .i64 v, .string d]).alloc _, by
      have := Row.new (w.alloc (.cells #[.int .i64 k, .string b, .int .i64 v, .string d] 52)) 52 #[.int .i64 0, .string ⟨#[]⟩, .int .i64 0, .string ⟨#[]⟩]
      simpa using this⟩)
  clear h hb hd
  go_enter Tryz.func35, Tryz.ntmps35
  go_wp2_with fail
  refine (below_any _ _ _ _ _ _ HD.out.went.rdr (by decide) (by decide)).mono ?_
  rintro e w1 ⟨⟨x, hx1, hx2, rfl⟩, hw⟩
  have HD := Lib.hid (HD.out.step HR.out hw)
  clear hw
  by_cases e0 : x = 0
  · subst e0
    go_wp2_with fail
    refine (off_any _ _ _ _ _ _ _ HD.out.went.rdr (by decide) (by decide) (by decide)).mono ?_
    rintro e w2 ⟨⟨z, hz, rfl⟩, hw⟩
    have HD := Lib.hid (HD.out.step HR.out hw)
    clear hw hz
    have c0 := HD.out.box.cell (j := 0) (by simp)
    have c1 := HD.out.box.cell (j := 1) (by simp)
    have c2 := HD.out.box.cell (j := 2) (by simp)
    have c3 := HD.out.box.cell (j := 3) (by simp)
    have fr0 := HD.out.box.free 0
    have fr1 := HD.out.box.free 1
    have fr2 := HD.out.box.free 2
    have fr3 := HD.out.box.free 3
    simp at c0 c1 c2 c3
    have y0 := HD.out.res.cell (j := 0) (by simp)
    have y1 := HD.out.res.cell (j := 1) (by simp)
    have y2 := HD.out.res.cell (j := 2) (by simp)
    have y3 := HD.out.res.cell (j := 3) (by simp)
    have f0 := HD.out.res.free 0
    have f1 := HD.out.res.free 1
    have f2 := HD.out.res.free 2
    have f3 := HD.out.res.free 3
    simp at y0 y1 y2 y3
    have HD := Lib.hid (HD.out.set HR.out 0 (.int .i64 z))
    go_wp2
    have hbF := ((((HD.out.res.set 0 (.int .i64 z)).set 1 (.string b)).set 2 (.int .i64 v)).set 3 (.string d))
    unfold Row at hbF
    exact bodyPost_ret (v := .agg #[.int .i64 z, .string b, .int .i64 v, .string d]) (by simp [results, Tryz.results35, go_sem, World.cell?, hbF]) rfl ⟨_, _, _, _, HBS.out, HDS.out, rfl, went_set (went_set (went_set (went_set HD.out.went HR.out (by omega) 0 _) HR.out (by omega) 1 _) HR.out (by omega) 2 _) HR.out (by omega) 3 _⟩
  have n0 : (x == 0) = false := by rw [beq_eq_false_iff_ne]; exact e0
  by_cases e1 : x = 1
  · subst e1
    go_wp2_with fail
    refine (below_any _ _ _ _ _ _ (HD.out.went.rdr.alloc _) (by decide) (by decide)).mono ?_
    rintro e w2 ⟨⟨y, hy1, hy2, rfl⟩, hw⟩
    obtain ⟨t, ht, hct⟩ := tab_cell (m := 41) (hw.block (k := w1.heap.size) (heap_alloc_new _ _) (Nat.ne_of_gt HD.out.went.rdr.lt)) (by decide) y hy1 (by show y < 5; omega)
    have HD := Lib.hid ((HD.out.alloc _).step HR.out hw)
    have HT := Lib.hid ht
    clear hw ht
    have c0 := HD.out.box.cell (j := 0) (by simp)
    have c1 := HD.out.box.cell (j := 1) (by simp)
    have c2 := HD.out.box.cell (j := 2) (by simp)
    have c3 := HD.out.box.cell (j := 3) (by simp)
    have fr0 := HD.out.box.free 0
    have fr1 := HD.out.box.free 1
    have fr2 := HD.out.box.free 2
    have fr3 := HD.out.box.free 3
    simp at c0 c1 c2 c3
    have y0 := HD.out.res.cell (j := 0) (by simp)
    have y1 := HD.out.res.cell (j := 1) (by simp)
    have y2 := HD.out.res.cell (j := 2) (by simp)
    have y3 := HD.out.res.cell (j := 3) (by simp)
    have f0 := HD.out.res.free 0
    have f1 := HD.out.res.free 1
    have f2 := HD.out.res.free 2
    have f3 := HD.out.res.free 3
    simp at y0 y1 y2 y3
    have HD := Lib.hid (HD.out.set HR.out 1 (.string t))
    go_wp2
    have hbF := ((((HD.out.res.set 0 (.int .i64 k)).set 1 (.string t)).set 2 (.int .i64 v)).set 3 (.string d))
    unfold Row at hbF
    exact bodyPost_ret (v := .agg #[.int .i64 k, .string t, .int .i64 v, .string d]) (by simp [results, Tryz.results35, go_sem, World.cell?, hbF]) rfl ⟨_, _, _, _, HT.out, HDS.out, rfl, went_set (went_set (went_set (went_set HD.out.went HR.out (by omega) 0 _) HR.out (by omega) 1 _) HR.out (by omega) 2 _) HR.out (by omega) 3 _⟩
  have n1 : (x == 1) = false := by rw [beq_eq_false_iff_ne]; exact e1
  by_cases e2 : x = 2
  · subst e2
    go_wp2_with fail
    refine (off_any _ _ _ _ _ _ _ HD.out.went.rdr (by decide) (by decide) (by decide)).mono ?_
    rintro e w2 ⟨⟨z, hz, rfl⟩, hw⟩
    have HD := Lib.hid (HD.out.step HR.out hw)
    clear hw hz
    have c0 := HD.out.box.cell (j := 0) (by simp)
    have c1 := HD.out.box.cell (j := 1) (by simp)
    have c2 := HD.out.box.cell (j := 2) (by simp)
    have c3 := HD.out.box.cell (j := 3) (by simp)
    have fr0 := HD.out.box.free 0
    have fr1 := HD.out.box.free 1
    have fr2 := HD.out.box.free 2
    have fr3 := HD.out.box.free 3
    simp at c0 c1 c2 c3
    have y0 := HD.out.res.cell (j := 0) (by simp)
    have y1 := HD.out.res.cell (j := 1) (by simp)
    have y2 := HD.out.res.cell (j := 2) (by simp)
    have y3 := HD.out.res.cell (j := 3) (by simp)
    have f0 := HD.out.res.free 0
    have f1 := HD.out.res.free 1
    have f2 := HD.out.res.free 2
    have f3 := HD.out.res.free 3
    simp at y0 y1 y2 y3
    have HD := Lib.hid (HD.out.set HR.out 2 (.int .i64 z))
    go_wp2
    have hbF := ((((HD.out.res.set 0 (.int .i64 k)).set 1 (.string b)).set 2 (.int .i64 z)).set 3 (.string d))
    unfold Row at hbF
    exact bodyPost_ret (v := .agg #[.int .i64 k, .string b, .int .i64 z, .string d]) (by simp [results, Tryz.results35, go_sem, World.cell?, hbF]) rfl ⟨_, _, _, _, HBS.out, HDS.out, rfl, went_set (went_set (went_set (went_set HD.out.went HR.out (by omega) 0 _) HR.out (by omega) 1 _) HR.out (by omega) 2 _) HR.out (by omega) 3 _⟩
  have n2 : (x == 2) = false := by rw [beq_eq_false_iff_ne]; exact e2
  by_cases e3 : x = 3
  · subst e3
    go_wp2_with fail
    refine (data_any _ _ _ _ _ HD.out.went.rdr).mono ?_
    rintro e w2 ⟨⟨z, hz, rfl⟩, hw⟩
    have HD := Lib.hid (HD.out.step HR.out hw)
    have HZ := Lib.hid hz
    clear hw hz
    have c0 := HD.out.box.cell (j := 0) (by simp)
    have c1 := HD.out.box.cell (j := 1) (by simp)
    have c2 := HD.out.box.cell (j := 2) (by simp)
    have c3 := HD.out.box.cell (j := 3) (by simp)
    have fr0 := HD.out.box.free 0
    have fr1 := HD.out.box.free 1
    have fr2 := HD.out.box.free 2
    have fr3 := HD.out.box.free 3
    simp at c0 c1 c2 c3
    have y0 := HD.out.res.cell (j := 0) (by simp)
    have y1 := HD.out.res.cell (j := 1) (by simp)
    have y2 := HD.out.res.cell (j := 2) (by simp)
    have y3 := HD.out.res.cell (j := 3) (by simp)
    have f0 := HD.out.res.free 0
    have f1 := HD.out.res.free 1
    have f2 := HD.out.res.free 2
    have f3 := HD.out.res.free 3
    simp at y0 y1 y2 y3
    have HD := Lib.hid (HD.out.set HR.out 3 (.string z))
    go_wp2
    have hbF := ((((HD.out.res.set 0 (.int .i64 k)).set 1 (.string b)).set 2 (.int .i64 v)).set 3 (.string z))
    unfold Row at hbF
    exact bodyPost_ret (v := .agg #[.int .i64 k, .string b, .int .i64 v, .string z]) (by simp [results, Tryz.results35, go_sem, World.cell?, hbF]) rfl ⟨_, _, _, _, HBS.out, HZ.out, rfl, went_set (went_set (went_set (went_set HD.out.went HR.out (by omega) 0 _) HR.out (by omega) 1 _) HR.out (by omega) 2 _) HR.out (by omega) 3 _⟩
  have n3 : (x == 3) = false := by rw [beq_eq_false_iff_ne]; exact e3
  have c0 := HD.out.box.cell (j := 0) (by simp)
  have c1 := HD.out.box.cell (j := 1) (by simp)
  have c2 := HD.out.box.cell (j := 2) (by simp)
  have c3 := HD.out.box.cell (j := 3) (by simp)
  have fr0 := HD.out.box.free 0
  have fr1 := HD.out.box.free 1
  have fr2 := HD.out.box.free 2
  have fr3 := HD.out.box.free 3
  simp at c0 c1 c2 c3
  have y0 := HD.out.res.cell (j := 0) (by simp)
  have y1 := HD.out.res.cell (j := 1) (by simp)
  have y2 := HD.out.res.cell (j := 2) (by simp)
  have y3 := HD.out.res.cell (j := 3) (by simp)
  have f0 := HD.out.res.free 0
  have f1 := HD.out.res.free 1
  have f2 := HD.out.res.free 2
  have f3 := HD.out.res.free 3
  simp at y0 y1 y2 y3
  go_wp2
  have hbF := ((((HD.out.res.set 0 (.int .i64 k)).set 1 (.string b)).set 2 (.int .i64 v)).set 3 (.string d))
  unfold Row at hbF
  exact bodyPost_ret (v := .agg #[.int .i64 k, .string b, .int .i64 v, .string d]) (by simp [results, Tryz.results35, go_sem, World.cell?, hbF]) rfl ⟨_, _, _, _, HBS.out, HDS.out, rfl, went_set (went_set (went_set (went_set HD.out.went HR.out (by omega) 0 _) HR.out (by omega) 1 _) HR.out (by omega) 2 _) HR.out (by omega) 3 _⟩
end Go.Proofs.YtblpebdjbenphaaGreatDoor
namespace Go.Proofs.YtblpebdjbenphaaGreatDoor
open Go.ChangeShapes Go.WideShapes Go.ChangeAt Go.RowKit
set_option linter.unusedVariables false
set_option maxRecDepth 100000

abbrev Cmds := List (Int × ByteArray × Int × ByteArray)
def cmd0 (l : Cmds) (i : Nat) : Int := (l.getD i (0, ByteArray.empty, 0, ByteArray.empty)).1
def cmd1 (l : Cmds) (i : Nat) : ByteArray := (l.getD i (0, ByteArray.empty, 0, ByteArray.empty)).2.1
def cmd2 (l : Cmds) (i : Nat) : Int := (l.getD i (0, ByteArray.empty, 0, ByteArray.empty)).2.2.1
def cmd3 (l : Cmds) (i : Nat) : ByteArray := (l.getD i (0, ByteArray.empty, 0, ByteArray.empty)).2.2.2

/-- The slice (a, len, cap) holds the values l. -/
structure CmdsAt (w : World) (a : Option Addr) (len : Nat) (l : Cmds) : Prop where
  length : l.length = len
  max : len ≤ maxLen
  keys : ∀ i, i < len → (cmd1 l i).size ≤ maxLen ∧ (cmd3 l i).size ≤ maxLen
  src : len = 0 ∨ ∃ b off, a = some ⟨b, off, none⟩ ∧ b < w.heap.size ∧ ∀ i, i < len → w.cell? ⟨b, off + i * 4, none⟩ = some (.int .i64 (cmd0 l i)) ∧ w.cell? ⟨b, off + i * 4 + 1, none⟩ = some (.string (cmd1 l i)) ∧ w.cell? ⟨b, off + i * 4 + 2, none⟩ = some (.int .i64 (cmd2 l i)) ∧ w.cell? ⟨b, off + i * 4 + 3, none⟩ = some (.string (cmd3 l i))

theorem CmdsAt.keep {w w1 : World} {a : Option Addr} {len : Nat} {l : Cmds} (h : CmdsAt w a len l) (hB : Below w.heap.size w w1) : CmdsAt w1 a len l := by
  refine ⟨h.length, h.max, h.keys, ?_⟩
  rcases h.src with h0 | ⟨b, off, ha, hb, hc⟩
  · exact .inl h0
  · exact .inr ⟨b, off, ha, Nat.lt_of_lt_of_le hb hB.size, fun i hi => ⟨(hB.cell (p := ⟨b, off + i * 4, none⟩) hb).trans (hc i hi).1, (hB.cell (p := ⟨b, off + i * 4 + 1, none⟩) hb).trans (hc i hi).2.1, (hB.cell (p := ⟨b, off + i * 4 + 2, none⟩) hb).trans (hc i hi).2.2.1, (hB.cell (p := ⟨b, off + i * 4 + 3, none⟩) hb).trans (hc i hi).2.2.2⟩⟩

theorem CmdsAt.put {w : World} {a : Option Addr} {len : Nat} {l : Cmds} (h : CmdsAt w a len l) {X : Nat} (hne : ∀ b off, a = some ⟨b, off, none⟩ → b ≠ X) (j : Nat) (v : Value) : CmdsAt (w.setCell ⟨X, j, none⟩ v) a len l := by
  refine ⟨h.length, h.max, h.keys, ?_⟩
  rcases h.src with h0 | ⟨b, off, ha, hb, hc⟩
  · exact .inl h0
  · have e : ∀ o, (w.setCell ⟨X, j, none⟩ v).cell? ⟨b, o, none⟩ = w.cell? ⟨b, o, none⟩ := fun o => by
      simp only [World.cell?, Below.heap_setCell w ⟨X, j, none⟩ v b (hne b off ha)]
    exact .inr ⟨b, off, ha, by simpa [World.setCell] using hb, fun i hi => by simpa only [e] using hc i hi⟩

def CmdSized1 (left : Int) (x1 : ByteArray) (x3 : ByteArray) (w : World) (e : Ending) (w' : World) : Prop :=
  ∃ x : Int, -1 ≤ x ∧ x ≤ left ∧ e = .returned (.int .i64 x) ∧ Below w.heap.size w w' ∧ (0 ≤ x → x1.size ≤ 1048576 ∧ x3.size ≤ 1048576)

def CmdSized (len : Nat) (l : Cmds) (w : World) (e : Ending) (w' : World) : Prop :=
  ∃ x : Int, -1 ≤ x ∧ x ≤ 1048576 ∧ e = .returned (.int .i64 x) ∧ Below w.heap.size w w' ∧ (0 ≤ x → len ≤ 1048576 ∧ ∀ i, i < len → (cmd1 l i).size ≤ 1048576 ∧ (cmd3 l i).size ≤ 1048576)

theorem infoCmd : (Tryz.prog.info? 52).map (fun i => (i.zero, i.size, i.bytes)) = some (some (.agg #[.int .i64 0, .string ByteArray.empty, .int .i64 0, .string ByteArray.empty]), 4, 48) := by kernel_rfl

def CmdLaid (cur : Array Value) (l : Cmds) (k : Nat) : Prop := ∀ j, j < k → cur[j * 4]? = some (.int .i64 (cmd0 l j)) ∧ cur[j * 4 + 1]? = some (.string (cmd1 l j)) ∧ cur[j * 4 + 2]? = some (.int .i64 (cmd2 l j)) ∧ cur[j * 4 + 3]? = some (.string (cmd3 l j))
theorem CmdLaid.step {cur : Array Value} {l : Cmds} {k len : Nat} (h : CmdLaid cur l k) (hs : cur.size = len * 4) (hk : k < len) :
    CmdLaid ((((cur.setIfInBounds (k * 4) (.int .i64 (cmd0 l k))).setIfInBounds (k * 4 + 1) (.string (cmd1 l k))).setIfInBounds (k * 4 + 2) (.int .i64 (cmd2 l k))).setIfInBounds (k * 4 + 3) (.string (cmd3 l k))) l (k + 1) := by
  intro j hj
  rcases Nat.lt_or_ge j k with hlt | hge
  · obtain ⟨e0, e1, e2, e3⟩ := h j hlt
    refine ⟨?_, ?_, ?_, ?_⟩
    · rw [Array.getElem?_setIfInBounds_ne (by omega), Array.getElem?_setIfInBounds_ne (by omega), Array.getElem?_setIfInBounds_ne (by omega), Array.getElem?_setIfInBounds_ne (by omega)]; exact e0
    · rw [Array.getElem?_setIfInBounds_ne (by omega), Array.getElem?_setIfInBounds_ne (by omega), Array.getElem?_setIfInBounds_ne (by omega), Array.getElem?_setIfInBounds_ne (by omega)]; exact e1
    · rw [Array.getElem?_setIfInBounds_ne (by omega), Array.getElem?_setIfInBounds_ne (by omega), Array.getElem?_setIfInBounds_ne (by omega), Array.getElem?_setIfInBounds_ne (by omega)]; exact e2
    · rw [Array.getElem?_setIfInBounds_ne (by omega), Array.getElem?_setIfInBounds_ne (by omega), Array.getElem?_setIfInBounds_ne (by omega), Array.getElem?_setIfInBounds_ne (by omega)]; exact e3
  · obtain rfl : j = k := by omega
    refine ⟨?_, ?_, ?_, ?_⟩
    · rw [Array.getElem?_setIfInBounds_ne (by omega), Array.getElem?_setIfInBounds_ne (by omega), Array.getElem?_setIfInBounds_ne (by omega)]; rw [Array.getElem?_setIfInBounds_self_of_lt (by first | omega | (simp only [Array.size_setIfInBounds]; omega))]
    · rw [Array.getElem?_setIfInBounds_ne (by omega), Array.getElem?_setIfInBounds_ne (by omega)]; rw [Array.getElem?_setIfInBounds_self_of_lt (by first | omega | (simp only [Array.size_setIfInBounds]; omega))]
    · rw [Array.getElem?_setIfInBounds_ne (by omega)]; rw [Array.getElem?_setIfInBounds_self_of_lt (by first | omega | (simp only [Array.size_setIfInBounds]; omega))]
    · rw [Array.getElem?_setIfInBounds_self_of_lt (by first | omega | (simp only [Array.size_setIfInBounds]; omega))]

theorem CmdsAt.ofRow {w : World} {B len : Nat} {E : TypeId} {cur : Array Value} {l : Cmds} (h : Row w B E cur) (hl : l.length = len) (hm : len ≤ maxLen) (hk : ∀ i, i < len → (cmd1 l i).size ≤ maxLen ∧ (cmd3 l i).size ≤ maxLen) (hlaid : CmdLaid cur l len) : CmdsAt w (some ⟨B, 0, none⟩) len l := by
  refine ⟨hl, hm, hk, .inr ⟨B, 0, rfl, h.lt, fun i hi => ?_⟩⟩
  obtain ⟨e0, e1, e2, e3⟩ := hlaid i hi
  unfold Row at h
  simp [World.cell?, h, e0, e1, e2, e3]

def MadeCmd (x0 : Int) (x1 : ByteArray) (x2 : Int) (x3 : ByteArray) (w : World) (e : Ending) (w' : World) : Prop := e = .returned (.agg #[.int .i64 x0, .string x1, .int .i64 x2, .string x3]) ∧ Below w.heap.size w w'

/-- The end of the laws' copy: a new slice of the same values. -/
def MadeCmds (len : Nat) (l : Cmds) (w : World) (e : Ending) (w' : World) : Prop :=
  e = .returned (.slice (some ⟨w.heap.size, 0, none⟩) len len) ∧ CmdsAt w' (some ⟨w.heap.size, 0, none⟩) len l ∧ Below w.heap.size w w' ∧ ∃ cur, Row w' w.heap.size 52 cur ∧ cur.size = len * 4

end Go.Proofs.YtblpebdjbenphaaGreatDoor
namespace Go.Proofs.YtblpebdjbenphaaGreatDoor
open Go.ChangeShapes Go.WideShapes Go.ChangeAt Go.RowKit
set_option linter.unusedVariables false
set_option maxRecDepth 100000

def kbB (c : Int) : Bool := decide (97 ≤ c ∧ c ≤ 122 ∨ 48 ≤ c ∧ c ≤ 57 ∨ c = 45 ∨ c = 47)
def keyB (s : ByteArray) : Bool := decide (1 ≤ s.size ∧ s.size ≤ 40) && s.data.toList.all fun c => kbB c.toNat
def inB (n lo hi : Int) : Bool := decide (lo ≤ n ∧ n ≤ hi)
theorem inB_iff {n lo hi : Int} : inB n lo hi = true ↔ lo ≤ n ∧ n ≤ hi := by unfold inB; simp
def SameBool (b : Bool) (w : World) (e : Ending) (w' : World) : Prop := e = .returned (.bool b) ∧ w = w'

theorem within_any (n lo hi : Int) (w : World) : Calls Tryz.prog 50 #[.int .i64 n, .int .i64 lo, .int .i64 hi] w (SameBool (inB n lo hi) w) := by
  by_cases h1 : lo ≤ n
  · have H := Lib.hid (show inB n lo hi = decide (n ≤ hi) by unfold inB; simp [h1])
    go_enter Tryz.func50, Tryz.ntmps50
    go_wp2
    go_ret
    exact ⟨ret_bool H.out.symm, rfl⟩
  · have H := Lib.hid (show inB n lo hi = false by unfold inB; simp [h1])
    go_enter Tryz.func50, Tryz.ntmps50
    go_wp2
    go_ret
    exact ⟨ret_bool H.out.symm, rfl⟩
theorem l1in_any (n lo hi : Int) (w : World) : Calls Tryz.prog 32 #[.int .i64 n, .int .i64 lo, .int .i64 hi] w (SameBool (inB n lo hi) w) := by
  by_cases h1 : lo ≤ n
  · have H := Lib.hid (show inB n lo hi = decide (n ≤ hi) by unfold inB; simp [h1])
    go_enter Tryz.func32, Tryz.ntmps32
    go_wp2
    go_ret
    exact ⟨ret_bool H.out.symm, rfl⟩
  · have H := Lib.hid (show inB n lo hi = false by unfold inB; simp [h1])
    go_enter Tryz.func32, Tryz.ntmps32
    go_wp2
    go_ret
    exact ⟨ret_bool H.out.symm, rfl⟩
theorem verok_any (n : Int) (w : World) : Calls Tryz.prog 44 #[.int .i64 n] w (SameBool (inB n 1 1000000) w) := by
  go_enter Tryz.func44, Tryz.ntmps44
  go_wp2_with (go_at_call 50; refine (within_any _ _ _ _).mono ?_; rintro e w' ⟨rfl, rfl⟩)
  go_ret
  exact ⟨rfl, rfl⟩
theorem l7ver_any (n : Int) (w : World) : Calls Tryz.prog 22 #[.int .i64 n] w (SameBool (inB n 1 1000000) w) := by
  go_enter Tryz.func22, Tryz.ntmps22
  go_wp2_with (go_at_call 32; refine (l1in_any _ _ _ _).mono ?_; rintro e w' ⟨rfl, rfl⟩)
  go_ret
  exact ⟨rfl, rfl⟩
theorem dataok_any (s : ByteArray) (w : World) : Calls Tryz.prog 45 #[.string s] w (SameBool (decide ((s.size : Int) ≤ 30000)) w) := by
  go_enter Tryz.func45, Tryz.ntmps45
  go_wp2
  go_ret
  exact ⟨rfl, rfl⟩

set_option maxHeartbeats 1000000 in
theorem keybyte_any (c : Int) (h0 : 0 ≤ c) (h1 : c ≤ 255) (w : World) : Calls Tryz.prog 64 #[.int .u8 c] w (SameBool (kbB c) w) := by
  cases h : kbB c with
  | true =>
    have hc : 97 ≤ c ∧ c ≤ 122 ∨ 48 ≤ c ∧ c ≤ 57 ∨ c = 45 ∨ c = 47 := by unfold kbB at h; simpa using h
    clear h
    go_enter Tryz.func64, Tryz.ntmps64
    go_wp2
    all_goals
      go_ret
      refine ⟨ret_bool ?_, rfl⟩
      first | rfl | (exact decide_eq_true (by omega)) | (rw [beq_iff_eq]; omega) | (simp only [Bool.or_eq_true, beq_iff_eq]; omega)
  | false =>
    have hc : ¬ (97 ≤ c ∧ c ≤ 122 ∨ 48 ≤ c ∧ c ≤ 57 ∨ c = 45 ∨ c = 47) := by unfold kbB at h; simpa using h
    clear h
    go_enter Tryz.func64, Tryz.ntmps64
    go_wp2
    all_goals
      go_ret
      refine ⟨ret_bool ?_, rfl⟩
      first | rfl | (exact decide_eq_false (by omega)) | (rw [beq_eq_false_iff_ne]; omega) | (simp only [Bool.or_eq_false_iff, decide_eq_false_iff_not, beq_eq_false_iff_ne, ne_eq]; omega)

theorem get_list (s : ByteArray) (k : Nat) (h : k < s.size) : s.data.toList[k]'(by simpa using h) = s[k] := rfl
theorem key_all {s : ByteArray} (h1 : 1 ≤ s.size) (h2 : s.size ≤ 40) (h : ∀ k, (hk : k < s.size) → kbB s[k].toNat = true) : keyB s = true := by
  unfold keyB
  rw [decide_eq_true ⟨h1, h2⟩, Bool.true_and, List.all_eq_true]
  intro c hc
  obtain ⟨k, hk, rfl⟩ := List.mem_iff_getElem.1 hc
  exact h k (by simpa using hk)
theorem key_bad {s : ByteArray} {k : Nat} (hk : k < s.size) (h : kbB s[k].toNat = false) : keyB s = false := by
  unfold keyB
  rw [Bool.and_eq_false_iff]
  refine .inr ?_
  rw [List.all_eq_false]
  exact ⟨s[k], by rw [← get_list s k hk]; exact List.getElem_mem _, by rw [h]; simp⟩
theorem key_size {s : ByteArray} (h : ¬ (1 ≤ s.size ∧ s.size ≤ 40)) : keyB s = false := by
  unfold keyB
  rw [decide_eq_false h]; rfl
theorem key_len {s : ByteArray} (h : keyB s = true) : 1 ≤ s.size ∧ s.size ≤ 40 := by
  unfold keyB at h
  rw [Bool.and_eq_true, decide_eq_true_eq] at h
  exact h.1
theorem empty_of_size {s : ByteArray} (h : s.size = 0) : s.toList = [] := by
  have : s.data.toList = [] := List.length_eq_zero_iff.1 (by simpa using h)
  rw [Lib.toList_data]; exact this
theorem not_empty {s : ByteArray} (h : 1 ≤ s.size) : ¬ s.toList = [] := fun e => by
  rw [Lib.toList_data] at e
  have e' : s.data.toList.length = 0 := by rw [e]; rfl
  have e2 : s.size = s.data.toList.length := by simp
  omega

set_option maxHeartbeats 1000000 in
theorem keyok_any (s : ByteArray) (w : World) (hs : s.size ≤ maxLen) : Calls Tryz.prog 43 #[.string s] w (SameBool (keyB s) w) := by
  unfold maxLen at hs
  by_cases h0 : s.size = 0
  · have HK := Lib.hid (key_size (s := s) (by omega))
    have he := empty_of_size h0
    have he2 : s.toList.isEmpty = true := by simpa using he
    clear h0
    go_enter Tryz.func43, Tryz.ntmps43
    go_wp2
    go_ret
    exact ⟨ret_bool HK.out.symm, rfl⟩
  · have he := not_empty (s := s) (by omega)
    have he2 : s.toList.isEmpty = false := by simpa using he
    by_cases h1 : 40 < s.size
    · have HK := Lib.hid (key_size (s := s) (by omega))
      have h2 : (40 : Int) < (s.size : Int) := by omega
      go_enter Tryz.func43, Tryz.ntmps43
      go_wp2
      go_ret
      exact ⟨ret_bool HK.out.symm, rfl⟩
    · have h2 : (s.size : Int) ≤ 40 := by omega
      go_enter Tryz.func43, Tryz.ntmps43
      go_wp2
      go_loop [3] (fun i => ∃ k : Nat, k ≤ s.size ∧ i = .int .i64 k ∧ Hid (∀ j, (hj : j < s.size) → j < k → kbB s[j].toNat = true)) (fun i => s.size - (intOf i).toNat)
      case atStart => exact ⟨0, Nat.zero_le _, rfl, Lib.hid fun j _ h => by omega⟩
      case round =>
        obtain ⟨k, hk, rfl, HW⟩ := hrel
        by_cases hlt : k < s.size
        · have hb0 : (0 : Int) ≤ (s[k].toNat : Int) := by omega
          have hb1 : (s[k].toNat : Int) ≤ 255 := by have := s[k].toNat_lt; omega
          cases hq : kbB s[k].toNat with
          | true =>
            have HQ := Lib.hid hq
            clear hq
            go_wp2_with (go_at_call 64; refine (keybyte_any _ hb0 hb1 _).mono ?_; rw [HQ.out]; rintro e w' ⟨rfl, rfl⟩)
            go_round
            case rel => exact ⟨k + 1, by omega, by go_num, Lib.hid fun j hj h => by
              rcases Nat.lt_or_ge j k with h | h
              · exact HW.out j hj h
              · obtain rfl : j = k := by omega
                exact HQ.out⟩
            case measure => simp [intOf]; omega
          | false =>
            have HQ := Lib.hid hq
            have HK := Lib.hid (key_bad hlt hq)
            clear hq
            go_wp2_with (go_at_call 64; refine (keybyte_any _ hb0 hb1 _).mono ?_; rw [HQ.out]; rintro e w' ⟨rfl, rfl⟩)
            go_ret
            exact ⟨ret_bool HK.out.symm, rfl⟩
        · have HK := Lib.hid (key_all (s := s) (by omega) (by omega) (fun j hj => HW.out j hj (by omega)))
          go_wp2
          go_ret
          exact ⟨ret_bool HK.out.symm, rfl⟩

set_option maxHeartbeats 2000000 in
theorem l7key_any (s : ByteArray) (w : World) (hs : s.size ≤ maxLen) : Calls Tryz.prog 21 #[.string s] w (SameBool (keyB s) w) := by
  unfold maxLen at hs
  go_enter Tryz.func21, Tryz.ntmps21
  go_wp2
  go_loop [3] (fun i => ∃ k : Nat, k ≤ s.size ∧ i = .int .i64 k ∧ Hid (∀ j, (hj : j < s.size) → j < k → kbB s[j].toNat = true)) (fun i => s.size - (intOf i).toNat)
  case atStart => exact ⟨0, Nat.zero_le _, rfl, Lib.hid fun j _ h => by omega⟩
  case round =>
    obtain ⟨k, hk, rfl, HW⟩ := hrel
    by_cases hlt : k < s.size
    · have hb0 : (0 : Int) ≤ (s[k].toNat : Int) := by omega
      have hb1 : (s[k].toNat : Int) ≤ 255 := by have := s[k].toNat_lt; omega
      cases hq : kbB s[k].toNat with
      | true =>
        have hc : 97 ≤ (s[k].toNat : Int) ∧ (s[k].toNat : Int) ≤ 122 ∨ 48 ≤ (s[k].toNat : Int) ∧ (s[k].toNat : Int) ≤ 57 ∨ (s[k].toNat : Int) = 45 ∨ (s[k].toNat : Int) = 47 := by unfold kbB at hq; simpa using hq
        have HQ := Lib.hid hq
        clear hq
        go_wp2
        all_goals first
          | (exfalso; omega)
          | (exfalso; simp only [Bool.not_eq_true', beq_eq_false_iff_ne, ne_eq] at *; omega)
          | (go_round
             case rel => exact ⟨k + 1, by omega, by go_num, Lib.hid fun j hj h => by
               rcases Nat.lt_or_ge j k with h | h
               · exact HW.out j hj h
               · obtain rfl : j = k := by omega
                 exact HQ.out⟩
             case measure => simp [intOf]; omega)
      | false =>
        have hc : ¬ (97 ≤ (s[k].toNat : Int) ∧ (s[k].toNat : Int) ≤ 122 ∨ 48 ≤ (s[k].toNat : Int) ∧ (s[k].toNat : Int) ≤ 57 ∨ (s[k].toNat : Int) = 45 ∨ (s[k].toNat : Int) = 47) := by unfold kbB at hq; simpa using hq
        have HK := Lib.hid (key_bad hlt hq)
        clear hq
        have e45 : ((s[k].toNat : Int) == 45) = false := by rw [beq_eq_false_iff_ne]; omega
        have e47 : ((s[k].toNat : Int) == 47) = false := by rw [beq_eq_false_iff_ne]; omega
        rcases (show (97 ≤ (s[k].toNat : Int) ∧ 122 < (s[k].toNat : Int) ∧ 48 ≤ (s[k].toNat : Int) ∧ 57 < (s[k].toNat : Int)) ∨ ((s[k].toNat : Int) < 97 ∧ (s[k].toNat : Int) < 48) ∨ ((s[k].toNat : Int) < 97 ∧ 48 ≤ (s[k].toNat : Int) ∧ 57 < (s[k].toNat : Int)) by omega) with ⟨a1, a2, a3, a4⟩ | ⟨a1, a2⟩ | ⟨a1, a2, a3⟩
        · have d1 : decide ((s[k].toNat : Int) ≤ 122) = false := decide_eq_false (by omega)
          have d2 : decide ((s[k].toNat : Int) ≤ 57) = false := decide_eq_false (by omega)
          clear hc
          go_wp2
          go_ret
          exact ⟨ret_bool HK.out.symm, rfl⟩
        · clear hc
          go_wp2
          go_ret
          exact ⟨ret_bool HK.out.symm, rfl⟩
        · have d2 : decide ((s[k].toNat : Int) ≤ 57) = false := decide_eq_false (by omega)
          clear hc
          go_wp2
          go_ret
          exact ⟨ret_bool HK.out.symm, rfl⟩
    · have HK := Lib.hid (show inB s.size 1 40 = keyB s by
        by_cases h : 1 ≤ s.size ∧ s.size ≤ 40
        · rw [key_all (s := s) h.1 h.2 (fun j hj => HW.out j hj (by omega)), inB_iff]; omega
        · rw [key_size h]; unfold inB; exact decide_eq_false (by omega))
      go_wp2_with (go_at_call 32; refine (l1in_any _ _ _ _).mono ?_; rintro e w' ⟨rfl, rfl⟩)
      go_ret
      exact ⟨ret_bool HK.out, rfl⟩
end Go.Proofs.YtblpebdjbenphaaGreatDoor
