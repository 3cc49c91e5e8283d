
/- Drawn commands of a store whose objects may be read. -/
import Derived.Test.YtblpebdjbenphaaMg2
import Derived.Test.YtblpebdjbenphaaMg5
import Derived.Deep.RegionWith
import Derived.BigRegion
namespace Go.Proofs.Ytblpebdjbenphaa
open Go.ChangeShapes Go.WideShapes Go.ChangeAt Go.RowKit
set_option linter.unusedVariables false
set_option maxRecDepth 100000

def RdCmdG (w : World) (r : Nat) (a : Option Addr) (len cap : Nat) (e : Ending) (w' : World) : Prop :=
  ∃ (k : Int) (b : ByteArray) (v : Int) (d : ByteArray), b.size ≤ 41 ∧ d.size ≤ 30001 ∧ e = .returned (.agg #[.int .i64 k, .string b, .int .i64 v, .string d]) ∧ Went w r a len cap w'
/-- What the walk holds: the reader, the store's box, the result's place, the command. -/
structure DG (w wr : World) (r : Nat) (a : Option Addr) (len cap : Nat) (X : Array Value) (C : Nat) (A : Array Value) : Prop where
  went : Went w r a len cap wr
  box : Row wr w.heap.size 27 X
  res : Row wr (w.heap.size + 1) 57 #[.int .i64 0, .string ⟨#[]⟩, .int .i64 0, .string ⟨#[]⟩]
  row : Row wr C 57 A
theorem DG.step {w wr w1 : World} {r : Nat} {a : Option Addr} {len cap C : Nat} {X A : Array Value} (h : DG w wr r a len cap X C A) (hr : r < w.heap.size) (hC : w.heap.size < C) (hw : Went wr r a len cap w1) : DG w w1 r a len cap X C A :=
  ⟨h.went.trans hw, h.box.grown hw.grown (by intro e; injection e with e; omega), h.res.grown hw.grown (by intro e; injection e with e; omega), h.row.grown hw.grown (by intro e; injection e with e; omega)⟩
theorem DG.set {w wr : World} {r : Nat} {a : Option Addr} {len cap C : Nat} {X A : Array Value} (h : DG w wr r a len cap X C A) (hr : r < w.heap.size) (hC : w.heap.size + 1 < C) (j : Nat) (v : Value) : DG w (wr.setCell ⟨C, j, none⟩ v) r a len cap X C (A.setIfInBounds j v) :=
  ⟨went_set h.went hr (by omega) j v, h.box.other (by omega) j v, h.res.other (by omega) j v, h.row.set j v⟩
/-- A store into a block that is none of these. -/
theorem DG.far {w wr : World} {r : Nat} {a : Option Addr} {len cap C Y : Nat} {X A : Array Value} (h : DG w wr r a len cap X C A) (hr : r < w.heap.size) (hC : w.heap.size + 1 < C) (hY : C < Y) (j : Nat) (v : Value) : DG w (wr.setCell ⟨Y, j, none⟩ v) r a len cap X C A :=
  ⟨went_set h.went hr (by omega) j v, h.box.other (by omega) j v, h.res.other (by omega) j v, h.row.other (by omega) j v⟩
theorem DG.al {w wr : World} {r : Nat} {a : Option Addr} {len cap C : Nat} {X A : Array Value} (h : DG w wr r a len cap X C A) (o : Obj) : DG w (wr.alloc o) r a len cap X C A :=
  ⟨h.went.alloc o, h.box.alloc o, h.res.alloc o, h.row.alloc o⟩
theorem objs_src {w : World} {b o n : Nat} {L : Objs} (h : ObjsAt w (some ⟨b, o, none⟩) n L) (hn : 0 < n) : b < w.heap.size ∧ ∀ i, i < n → w.cell? ⟨b, o + i * 3, none⟩ = some (.string (obj0 L i)) ∧ w.cell? ⟨b, o + i * 3 + 1, none⟩ = some (.int .i64 (obj1 L i)) ∧ w.cell? ⟨b, o + i * 3 + 2, none⟩ = some (.string (obj2 L i)) := by
  rcases h.src with hz | ⟨b', o', he, hb, hc⟩
  · omega
  · simp only [Option.some.injEq, Addr.mk.injEq, and_true] at he
    obtain ⟨rfl, rfl⟩ := he
    exact ⟨hb, hc⟩
theorem objs_went {w wr : World} {r : Nat} {a q : Option Addr} {len cap n : Nat} {L : Objs} (h : ObjsAt w q n L) (hw : Went w r a len cap wr) (hne : ∀ b off, q = some ⟨b, off, none⟩ → b ≠ r) : ObjsAt wr q n L := by
  refine ⟨h.length, h.max, h.keys, ?_⟩
  rcases h.src with h0 | ⟨b, off, hq, hb, hc⟩
  · exact .inl h0
  · have e : ∀ o, wr.cell? ⟨b, o, none⟩ = w.cell? ⟨b, o, none⟩ := fun o => World.cell?_of_block (hw.grown.block b hb (by intro e; injection e with e; exact hne b off hq e))
    exact .inr ⟨b, off, hq, Nat.lt_of_lt_of_le hb hw.size, fun i hi => by simpa only [e] using hc i hi⟩

theorem cell_far3 {b X j j1 j2 : Nat} (w : World) (x y z : Value) (h : b ≠ X) (o : Nat) : (((w.setCell ⟨X, j, none⟩ x).setCell ⟨X, j1, none⟩ y).setCell ⟨X, j2, none⟩ z).cell? ⟨b, o, none⟩ = w.cell? ⟨b, o, none⟩ :=
  World.cell?_of_block ((Below.heap_setCell _ _ _ _ h).trans ((Below.heap_setCell _ _ _ _ h).trans (Below.heap_setCell _ _ _ _ h)))

set_option maxHeartbeats 8000000 in
theorem drawcmdG_any (w : World) (r : Nat) (a : Option Addr) (len cap : Nat) (q g : Option Addr) (n cq m dg : Nat) (L : Objs) (h : Rdr w r a len cap) (ho : ObjsAt w q n L) (hk : ∀ i, i < n → (obj0 L i).size ≤ 41) (hfew : n ≤ 1048576) (hne : ∀ b off, q = some ⟨b, off, none⟩ → b ≠ r) :
    Calls Try.prog 30 #[.pointer (some ⟨r, 0, none⟩), .agg #[.slice q n cq, .slice g m dg]] w (RdCmdG w r a len cap) := by
  have hnm := ho.max
  unfold maxLen at hnm
  have H := Lib.hid h
  have HR := Lib.hid h.lt
  have HO := Lib.hid ho
  have HKY := Lib.hid hk
  have HNE := Lib.hid hne
  have HBX := Lib.hid ((Row.new w 27 #[.slice q n cq, .slice g m dg]).alloc (.cells #[.int .i64 0, .string ⟨#[]⟩, .int .i64 0, .string ⟨#[]⟩] 57))
  have HRS := Lib.hid (show Row _ (w.heap.size + 1) 57 _ from by
    have := Row.new (w.alloc (.cells #[.slice q n cq, .slice g m dg] 27)) 57 #[.int .i64 0, .string ⟨#[]⟩, .int .i64 0, .string ⟨#[]⟩]
    simpa using this)
  have HW := Lib.hid (((Went.refl h).alloc (.cells #[.slice q n cq, .slice g m dg] 27)).alloc (.cells #[.int .i64 0, .string ⟨#[]⟩, .int .i64 0, .string ⟨#[]⟩] 57))
  clear h ho hk hne
  go_enter Try.func30, Try.ntmps30
  go_wp2_with fail
  refine (below_any _ _ _ _ _ _ HW.out.rdr (by decide) (by decide)).mono ?_
  rintro e w1 ⟨⟨x, hx1, hx2, rfl⟩, hw⟩
  have hne1 : some r ≠ some w.heap.size := by intro e; injection e with e; have := HR.out; omega
  have hne2 : some r ≠ some (w.heap.size + 1) := by intro e; injection e with e; have := HR.out; omega
  have HBX := Lib.hid (HBX.out.grown hw.grown hne1)
  have HRS := Lib.hid (HRS.out.grown hw.grown hne2)
  have HW := Lib.hid (HW.out.trans hw)
  clear hw
  go_wp2_with fail
  refine (name_any _ _ _ _ _ HW.out.rdr).mono ?_
  rintro e w2 ⟨⟨b, hb, rfl⟩, hw⟩
  have HBX := Lib.hid (HBX.out.grown hw.grown hne1)
  have HRS := Lib.hid (HRS.out.grown hw.grown hne2)
  have HW := Lib.hid (HW.out.trans hw)
  have HNB := Lib.hid (show b.size ≤ 41 by omega)
  have hCw : w.heap.size + 1 < w2.heap.size := HRS.out.lt
  clear hw hb
  rcases (by omega : x = 0 ∨ x = 1 ∨ x = 2) with rfl | rfl | rfl
  · skip
    have HD := Lib.hid (show DG w (w2.alloc (.cells #[.int .i64 0, .string ⟨#[]⟩, .int .i64 0, .string ⟨#[]⟩] 57)) r a len cap #[.slice q n cq, .slice g m dg] w2.heap.size #[.int .i64 0, .string ⟨#[]⟩, .int .i64 0, .string ⟨#[]⟩] from ⟨HW.out.alloc _, HBX.out.alloc _, HRS.out.alloc _, Row.new _ _ _⟩)
    obtain ⟨C, hC⟩ : ∃ C, w2.heap.size = C := ⟨_, rfl⟩
    rw [hC] at HD hCw
    obtain ⟨w3, hw3⟩ : ∃ w3, w2.alloc (.cells #[.int .i64 0, .string ⟨#[]⟩, .int .i64 0, .string ⟨#[]⟩] 57) = w3 := ⟨_, rfl⟩
    rw [hw3] at HD
    have hCw0 : w.heap.size < C := by omega
    clear HBX HRS HW
    have bx0 := HD.out.box.cell (j := 0) (by simp)
    have bx1 := HD.out.box.cell (j := 1) (by simp)
    simp at bx0 bx1
    have c0 := HD.out.row.cell (j := 0) (by simp)
    have c1 := HD.out.row.cell (j := 1) (by simp)
    have c2 := HD.out.row.cell (j := 2) (by simp)
    have c3 := HD.out.row.cell (j := 3) (by simp)
    have fr0 := HD.out.row.free 0
    have fr1 := HD.out.row.free 1
    have fr2 := HD.out.row.free 2
    have fr3 := HD.out.row.free 3
    simp at c0 c1 c2 c3
    have y0 := HD.out.res.cell (j := 0) (by simp)
    have y1 := HD.out.res.cell (j := 1) (by simp)
    have y2 := HD.out.res.cell (j := 2) (by simp)
    have y3 := HD.out.res.cell (j := 3) (by simp)
    have f0 := HD.out.res.free 0
    have f1 := HD.out.res.free 1
    have f2 := HD.out.res.free 2
    have f3 := HD.out.res.free 3
    simp at y0 y1 y2 y3
    by_cases hn : 0 < n
    · skip
      have hn1 : (0 : Int) < (n : Int) := by omega
      have HD := Lib.hid ((((HD.out.set HR.out hCw 0 (.int .i64 1)).set HR.out hCw 1 (.string b)).set HR.out hCw 2 (.int .i64 0)).set HR.out hCw 3 (.string ⟨#[]⟩))
      go_wp2_with fail
      clear bx0 bx1 c0 c1 c2 c3 fr0 fr1 fr2 fr3 y0 y1 y2 y3 f0 f1 f2 f3
      refine (data_any _ _ _ _ _ HD.out.went.rdr).mono ?_
      rintro e w5 ⟨⟨d, hd, rfl⟩, hw⟩
      have HD := Lib.hid (HD.out.step HR.out hCw0 hw)
      have HDZ := Lib.hid hd
      clear hw hd
      have bx0 := HD.out.box.cell (j := 0) (by simp)
      have bx1 := HD.out.box.cell (j := 1) (by simp)
      simp at bx0 bx1
      have c0 := HD.out.row.cell (j := 0) (by simp)
      have c1 := HD.out.row.cell (j := 1) (by simp)
      have c2 := HD.out.row.cell (j := 2) (by simp)
      have c3 := HD.out.row.cell (j := 3) (by simp)
      have fr0 := HD.out.row.free 0
      have fr1 := HD.out.row.free 1
      have fr2 := HD.out.row.free 2
      have fr3 := HD.out.row.free 3
      simp at c0 c1 c2 c3
      have y0 := HD.out.res.cell (j := 0) (by simp)
      have y1 := HD.out.res.cell (j := 1) (by simp)
      have y2 := HD.out.res.cell (j := 2) (by simp)
      have y3 := HD.out.res.cell (j := 3) (by simp)
      have f0 := HD.out.res.free 0
      have f1 := HD.out.res.free 1
      have f2 := HD.out.res.free 2
      have f3 := HD.out.res.free 3
      simp at y0 y1 y2 y3
      have HD := Lib.hid (HD.out.set HR.out hCw 3 (.string d))
      go_wp2
      have hbF := ((((HD.out.res.set 0 (.int .i64 1)).set 1 (.string b)).set 2 (.int .i64 0)).set 3 (.string d))
      unfold Row at hbF
      exact bodyPost_ret (v := .agg #[.int .i64 1, .string b, .int .i64 0, .string d]) (by simp [results, Try.results30, go_sem, World.cell?, hbF]) rfl ⟨_, _, _, _, HNB.out, HDZ.out, rfl, went_set (went_set (went_set (went_set HD.out.went HR.out (by omega) 0 _) HR.out (by omega) 1 _) HR.out (by omega) 2 _) HR.out (by omega) 3 _⟩
    · skip
      have hn1 : ¬ (0 : Int) < (n : Int) := by omega
      have HD := Lib.hid ((((HD.out.set HR.out hCw 0 (.int .i64 1)).set HR.out hCw 1 (.string b)).set HR.out hCw 2 (.int .i64 0)).set HR.out hCw 3 (.string ⟨#[]⟩))
      go_wp2_with fail
      clear bx0 bx1 c0 c1 c2 c3 fr0 fr1 fr2 fr3 y0 y1 y2 y3 f0 f1 f2 f3
      refine (data_any _ _ _ _ _ HD.out.went.rdr).mono ?_
      rintro e w5 ⟨⟨d, hd, rfl⟩, hw⟩
      have HD := Lib.hid (HD.out.step HR.out hCw0 hw)
      have HDZ := Lib.hid hd
      clear hw hd
      have bx0 := HD.out.box.cell (j := 0) (by simp)
      have bx1 := HD.out.box.cell (j := 1) (by simp)
      simp at bx0 bx1
      have c0 := HD.out.row.cell (j := 0) (by simp)
      have c1 := HD.out.row.cell (j := 1) (by simp)
      have c2 := HD.out.row.cell (j := 2) (by simp)
      have c3 := HD.out.row.cell (j := 3) (by simp)
      have fr0 := HD.out.row.free 0
      have fr1 := HD.out.row.free 1
      have fr2 := HD.out.row.free 2
      have fr3 := HD.out.row.free 3
      simp at c0 c1 c2 c3
      have y0 := HD.out.res.cell (j := 0) (by simp)
      have y1 := HD.out.res.cell (j := 1) (by simp)
      have y2 := HD.out.res.cell (j := 2) (by simp)
      have y3 := HD.out.res.cell (j := 3) (by simp)
      have f0 := HD.out.res.free 0
      have f1 := HD.out.res.free 1
      have f2 := HD.out.res.free 2
      have f3 := HD.out.res.free 3
      simp at y0 y1 y2 y3
      have HD := Lib.hid (HD.out.set HR.out hCw 3 (.string d))
      go_wp2
      have hbF := ((((HD.out.res.set 0 (.int .i64 1)).set 1 (.string b)).set 2 (.int .i64 0)).set 3 (.string d))
      unfold Row at hbF
      exact bodyPost_ret (v := .agg #[.int .i64 1, .string b, .int .i64 0, .string d]) (by simp [results, Try.results30, go_sem, World.cell?, hbF]) rfl ⟨_, _, _, _, HNB.out, HDZ.out, rfl, went_set (went_set (went_set (went_set HD.out.went HR.out (by omega) 0 _) HR.out (by omega) 1 _) HR.out (by omega) 2 _) HR.out (by omega) 3 _⟩
  · skip
    have HD := Lib.hid (show DG w (w2.alloc (.cells #[.int .i64 0, .string ⟨#[]⟩, .int .i64 0, .string ⟨#[]⟩] 57)) r a len cap #[.slice q n cq, .slice g m dg] w2.heap.size #[.int .i64 0, .string ⟨#[]⟩, .int .i64 0, .string ⟨#[]⟩] from ⟨HW.out.alloc _, HBX.out.alloc _, HRS.out.alloc _, Row.new _ _ _⟩)
    obtain ⟨C, hC⟩ : ∃ C, w2.heap.size = C := ⟨_, rfl⟩
    rw [hC] at HD hCw
    obtain ⟨w3, hw3⟩ : ∃ w3, w2.alloc (.cells #[.int .i64 0, .string ⟨#[]⟩, .int .i64 0, .string ⟨#[]⟩] 57) = w3 := ⟨_, rfl⟩
    rw [hw3] at HD
    have hCw0 : w.heap.size < C := by omega
    clear HBX HRS HW
    have bx0 := HD.out.box.cell (j := 0) (by simp)
    have bx1 := HD.out.box.cell (j := 1) (by simp)
    simp at bx0 bx1
    have c0 := HD.out.row.cell (j := 0) (by simp)
    have c1 := HD.out.row.cell (j := 1) (by simp)
    have c2 := HD.out.row.cell (j := 2) (by simp)
    have c3 := HD.out.row.cell (j := 3) (by simp)
    have fr0 := HD.out.row.free 0
    have fr1 := HD.out.row.free 1
    have fr2 := HD.out.row.free 2
    have fr3 := HD.out.row.free 3
    simp at c0 c1 c2 c3
    have y0 := HD.out.res.cell (j := 0) (by simp)
    have y1 := HD.out.res.cell (j := 1) (by simp)
    have y2 := HD.out.res.cell (j := 2) (by simp)
    have y3 := HD.out.res.cell (j := 3) (by simp)
    have f0 := HD.out.res.free 0
    have f1 := HD.out.res.free 1
    have f2 := HD.out.res.free 2
    have f3 := HD.out.res.free 3
    simp at y0 y1 y2 y3
    by_cases hn : 0 < n
    · skip
      have hn1 : (0 : Int) < (n : Int) := by omega
      have HD := Lib.hid ((((HD.out.set HR.out hCw 0 (.int .i64 2)).set HR.out hCw 1 (.string b)).set HR.out hCw 2 (.int .i64 0)).set HR.out hCw 3 (.string ⟨#[]⟩))
      go_wp2_with fail
      clear bx0 bx1 c0 c1 c2 c3 fr0 fr1 fr2 fr3 y0 y1 y2 y3 f0 f1 f2 f3
      refine (once_any _ _ _ _ _ _ HD.out.went.rdr (by decide) (by decide)).mono ?_
      rintro e wo5 ⟨⟨o5, rfl⟩, hw⟩
      have HD := Lib.hid (HD.out.step HR.out hCw0 hw)
      clear hw
      cases o5
      · skip
        have bx0 := HD.out.box.cell (j := 0) (by simp)
        have bx1 := HD.out.box.cell (j := 1) (by simp)
        simp at bx0 bx1
        have c0 := HD.out.row.cell (j := 0) (by simp)
        have c1 := HD.out.row.cell (j := 1) (by simp)
        have c2 := HD.out.row.cell (j := 2) (by simp)
        have c3 := HD.out.row.cell (j := 3) (by simp)
        have fr0 := HD.out.row.free 0
        have fr1 := HD.out.row.free 1
        have fr2 := HD.out.row.free 2
        have fr3 := HD.out.row.free 3
        simp at c0 c1 c2 c3
        obtain ⟨ob, oo, rfl⟩ : ∃ b o, q = some ⟨b, o, none⟩ := by
          rcases HO.out.src with hz | ⟨b, o, hq, _⟩
          · omega
          · exact ⟨b, o, hq⟩
        have hi0 : (0 : Int) < (n : Int) := by omega
        go_wp2_with fail
        clear bx0 bx1 c0 c1 c2 c3 fr0 fr1 fr2 fr3
        refine wp_region_noPanic ?_
        have HD := Lib.hid (HD.out.step HR.out hCw0 ((Went.refl HD.out.went.rdr).drewN 1))
        refine wp_region_held_drew (S := (fun w' => w'.cell? ⟨w.heap.size, 0, none⟩ = some (.slice (some ⟨ob, oo, none⟩) n cq))) (by kernel_rfl) (by have h := HD.out.box.cell (j := 0) (by simp); simpa using h) (fun HS => ?_)
        obtain ⟨v0, hv0⟩ : ∃ x, wo5.drew = x := ⟨_, rfl⟩
        have HD : Hid (DG w v0 r a len cap _ C _) := (by rw [← hv0]; exact HD)
        rw [hv0] at HS ⊢
        clear hv0
        refine held_take (i := 0) (d := 27) (v := .pointer (some ⟨w.heap.size, 0, none⟩)) rfl rfl (by kernel_rfl) (by kernel_rfl) (by kernel_rfl) (by kernel_rfl) (fun wx hS => by go_simp) HS ?_
        refine held_take (i := 1) (d := 28) (v := .slice (some ⟨ob, oo, none⟩) n cq) rfl rfl (by kernel_rfl) (by kernel_rfl) (by kernel_rfl) (by kernel_rfl) (fun wx hS => by go_simp) HS ?_
        refine held_take (i := 2) (d := 29) (v := .pointer (some ⟨r, 0, none⟩)) rfl rfl (by kernel_rfl) (by kernel_rfl) (by kernel_rfl) (by kernel_rfl) (fun wx hS => by go_simp) HS ?_
        refine held_take (i := 3) (d := 30) (v := .pointer (some ⟨w.heap.size, 0, none⟩)) rfl rfl (by kernel_rfl) (by kernel_rfl) (by kernel_rfl) (by kernel_rfl) (fun wx hS => by go_simp) HS ?_
        refine held_take (i := 4) (d := 31) (v := .slice (some ⟨ob, oo, none⟩) n cq) rfl rfl (by kernel_rfl) (by kernel_rfl) (by kernel_rfl) (by kernel_rfl) (fun wx hS => by go_simp) HS ?_
        refine held_take (i := 5) (d := 32) (v := .int .i64 (n : Int)) rfl rfl (by kernel_rfl) (by kernel_rfl) (by kernel_rfl) (by kernel_rfl) (fun wx hS => by go_simp) HS ?_
        refine wpAnyH_ready (rs := [6, 9]) (by kernel_rfl) (by simp) (AllReadyH.cons rfl (fun K hK => ?_) (AllReadyH.cons rfl (fun K hK => ?_) AllReadyH.nil))
        · skip
          go_simp
          refine (below_any _ _ _ _ _ _ HD.out.went.rdr (by omega) (by omega)).mono ?_
          rintro e v1 ⟨⟨ix, hx1, hx2, rfl⟩, hw⟩
          have HD := Lib.hid (HD.out.step HR.out hCw0 hw)
          clear hw
          obtain ⟨k, rfl⟩ : ∃ k : Nat, ix = k := ⟨ix.toNat, by omega⟩
          have hkn : k < n := (by omega)
          have hk0 : (0 : Int) ≤ (k : Int) := (by omega)
          have hk1 : (k : Int) < (n : Int) := (by omega)
          obtain ⟨hob, hoc⟩ := objs_src (objs_went HO.out HD.out.went HNE.out) hn
          obtain ⟨o0, o1, o2⟩ := hoc k hkn
          obtain ⟨kk, hkk⟩ : ∃ x, obj0 L k = x := ⟨_, rfl⟩
          obtain ⟨vv, hvv⟩ : ∃ x, obj1 L k = x := ⟨_, rfl⟩
          obtain ⟨dd, hdd⟩ : ∃ x, obj2 L k = x := ⟨_, rfl⟩
          rw [hkk] at o0
          rw [hvv] at o1
          rw [hdd] at o2
          have HKK := Lib.hid (show kk.size ≤ 41 by rw [← hkk]; exact HKY.out k hkn)
          refine hK.out _ _ (by have h := HD.out.box.cell (j := 0) (by simp); simpa using h) (fun HS => ?_)
          clear hK K hkk hvv hdd hoc
          refine held_mono (S' := (fun w' => w'.cell? ⟨w.heap.size, 0, none⟩ = some (.slice (some ⟨ob, oo, none⟩) n cq) ∧ w'.cell? ⟨ob, oo + k * 3, none⟩ = some (.string kk) ∧ w'.cell? ⟨ob, oo + k * 3 + 1, none⟩ = some (.int .i64 vv) ∧ w'.cell? ⟨ob, oo + k * 3 + 2, none⟩ = some (.string dd))) (fun w' h => h.1) ?_
          have HS : (fun w' => w'.cell? ⟨w.heap.size, 0, none⟩ = some (.slice (some ⟨ob, oo, none⟩) n cq) ∧ w'.cell? ⟨ob, oo + k * 3, none⟩ = some (.string kk) ∧ w'.cell? ⟨ob, oo + k * 3 + 1, none⟩ = some (.int .i64 vv) ∧ w'.cell? ⟨ob, oo + k * 3 + 2, none⟩ = some (.string dd)) v1 := ⟨HS, o0, o1, o2⟩
          refine held_take (i := 7) (d := 34) (v := .pointer (some ⟨ob, oo + k * 3, none⟩)) rfl rfl (by kernel_rfl) (by kernel_rfl) (by kernel_rfl) (by kernel_rfl) (fun wx hS => by go_simp) HS ?_
          refine held_take (i := 8) (d := 35) (v := .agg #[.string kk, .int .i64 vv, .string dd]) rfl rfl (by kernel_rfl) (by kernel_rfl) (by kernel_rfl) (by kernel_rfl) (fun wx hS => by have q0 := hS.2.1; have q1 := hS.2.2.1; have q2 := hS.2.2.2; go_simp) HS ?_
          refine wpAnyH_ready (rs := [9]) (by kernel_rfl) (by simp) (AllReadyH.cons rfl (fun K hK => ?_) AllReadyH.nil)
          go_simp
          have HT := Lib.hid (Row.new v1 31 #[.string ⟨#[]⟩, .int .i64 0, .string ⟨#[]⟩])
          have HTL := Lib.hid (show C < v1.heap.size from HD.out.row.lt)
          have HTR := Lib.hid (show r < v1.heap.size from Nat.lt_of_lt_of_le HR.out HD.out.went.size)
          have HD := Lib.hid (HD.out.al (.cells #[.string ⟨#[]⟩, .int .i64 0, .string ⟨#[]⟩] 31))
          obtain ⟨tb, htb⟩ : ∃ x, v1.heap.size = x := ⟨_, rfl⟩
          obtain ⟨v2, hv1⟩ : ∃ x, v1.alloc (.cells #[.string ⟨#[]⟩, .int .i64 0, .string ⟨#[]⟩] 31) = x := ⟨_, rfl⟩
          have o0 := ((below_alloc (Below.refl v1.heap.size v1) (.cells #[.string ⟨#[]⟩, .int .i64 0, .string ⟨#[]⟩] 31)).cell (p := ⟨ob, oo + k * 3, none⟩) hob).trans o0
          have o1 := ((below_alloc (Below.refl v1.heap.size v1) (.cells #[.string ⟨#[]⟩, .int .i64 0, .string ⟨#[]⟩] 31)).cell (p := ⟨ob, oo + k * 3 + 1, none⟩) hob).trans o1
          have o2 := ((below_alloc (Below.refl v1.heap.size v1) (.cells #[.string ⟨#[]⟩, .int .i64 0, .string ⟨#[]⟩] 31)).cell (p := ⟨ob, oo + k * 3 + 2, none⟩) hob).trans o2
          rw [hv1] at HD o0 o1 o2 ⊢
          have HT := Lib.hid (show Row v2 tb 31 #[.string ⟨#[]⟩, .int .i64 0, .string ⟨#[]⟩] by rw [← hv1, ← htb]; exact HT.out)
          rw [htb] at HTL HTR ⊢
          refine hK.out _ _ ⟨(by have h := HD.out.box.cell (j := 0) (by simp); simpa using h), o0, o1, o2⟩ (fun HS => ?_)
          clear hK K hv1
          refine wpAnyH_ready (rs := [10]) (by kernel_rfl) (by simp) (AllReadyH.cons rfl (fun K hK => ?_) AllReadyH.nil)
          have hob3 : ob < tb := by omega
          have t0 := HT.out.cell (j := 0) (by simp)
          have t1 := HT.out.cell (j := 1) (by simp)
          have t2 := HT.out.cell (j := 2) (by simp)
          have tf0 := HT.out.free 0
          have tf1 := HT.out.free 1
          have tf2 := HT.out.free 2
          simp at t0 t1 t2
          go_simp
          have HDN := Lib.hid (((HD.out.far HR.out hCw HTL.out 0 (.string kk)).far HR.out hCw HTL.out 1 (.int .i64 vv)).far HR.out hCw HTL.out 2 (.string dd))
          have HTN := Lib.hid (((HT.out.set 0 (.string kk)).set 1 (.int .i64 vv)).set 2 (.string dd))
          obtain ⟨y, hy⟩ : ∃ x, ((v2.setCell ⟨tb, 0, none⟩ (.string kk)).setCell ⟨tb, 1, none⟩ (.int .i64 vv)).setCell ⟨tb, 2, none⟩ (.string dd) = x := ⟨_, rfl⟩
          have o0 := (cell_far3 (X := tb) (j := 0) (j1 := 1) (j2 := 2) v2 (.string kk) (.int .i64 vv) (.string dd) (by omega) (oo + k * 3)).trans o0
          have o1 := (cell_far3 (X := tb) (j := 0) (j1 := 1) (j2 := 2) v2 (.string kk) (.int .i64 vv) (.string dd) (by omega) (oo + k * 3 + 1)).trans o1
          have o2 := (cell_far3 (X := tb) (j := 0) (j1 := 1) (j2 := 2) v2 (.string kk) (.int .i64 vv) (.string dd) (by omega) (oo + k * 3 + 2)).trans o2
          rw [hy] at HDN HTN o0 o1 o2 ⊢
          obtain ⟨hob2, hoc2⟩ := objs_src (objs_went HO.out HDN.out.went HNE.out) hn
          have HD := HDN
          have HT := HTN
          simp at HT
          refine hK.out _ _ ⟨(by have h := HD.out.box.cell (j := 0) (by simp); simpa using h), o0, o1, o2⟩ (fun HS => ?_)
          clear hK K HDN HTN t0 t1 t2 tf0 tf1 tf2 hob2 hoc2 hy
          refine wpAnyH_done (by kernel_rfl) (NoPanic.normal ?_) _
          obtain ⟨y2, hy2⟩ : ∃ x, y.setCell ⟨C, 1, none⟩ (.string kk) = x := ⟨_, rfl⟩
          have hD2 : DG w y2 r a len cap _ C _ := (by rw [← hy2]; exact HD.out.set HR.out hCw 1 (.string kk))
          have hT2 : Row y2 tb 31 #[.string kk, .int .i64 vv, .string dd] := (by rw [← hy2]; exact HT.out.other (by have := HTL.out; omega) 1 (.string kk))
          obtain ⟨y3, hy3⟩ : ∃ x, y2.setCell ⟨C, 2, none⟩ (.int .i64 vv) = x := ⟨_, rfl⟩
          have hD3 : DG w y3 r a len cap _ C _ := (by rw [← hy3]; exact hD2.set HR.out hCw 2 (.int .i64 vv))
          have HD3 := Lib.hid hD3
          have t0 := HT.out.cell (j := 0) (by simp)
          have t1 := hT2.cell (j := 1) (by simp)
          simp at t0 t1
          have g1 := HD.out.row.cell (j := 1) (by simp)
          have g2 := hD2.row.cell (j := 2) (by simp)
          simp at g1 g2
          have gf1 := HD.out.row.free 1
          have gf2 := hD2.row.free 2
          have b3 := hD3.row.cell (j := 0) (by simp)
          have b4 := hD3.row.cell (j := 2) (by simp)
          simp at b3 b4
          clear hD2 hT2 hD3 HT HD
          have HD := HD3
          clear HD3
          by_cases hv : vv = 0
          · skip
            subst hv
            go_wp2_with fail
            clear t0 t1 g1 g2 gf1 gf2 b3 b4
            refine (below_any _ _ _ _ _ _ HD.out.went.rdr (by decide) (by decide)).mono ?_
            rintro e w4 ⟨⟨yy, hy1', hy2', rfl⟩, hw⟩
            have HD := Lib.hid (HD.out.step HR.out hCw0 hw)
            clear hw
            have bx0 := HD.out.box.cell (j := 0) (by simp)
            have bx1 := HD.out.box.cell (j := 1) (by simp)
            simp at bx0 bx1
            have c0 := HD.out.row.cell (j := 0) (by simp)
            have c1 := HD.out.row.cell (j := 1) (by simp)
            have c2 := HD.out.row.cell (j := 2) (by simp)
            have c3 := HD.out.row.cell (j := 3) (by simp)
            have fr0 := HD.out.row.free 0
            have fr1 := HD.out.row.free 1
            have fr2 := HD.out.row.free 2
            have fr3 := HD.out.row.free 3
            simp at c0 c1 c2 c3
            have HD := Lib.hid (HD.out.set HR.out hCw 2 (.int .i64 (1 + yy)))
            go_wp2_with fail
            clear bx0 bx1 c0 c1 c2 c3 fr0 fr1 fr2 fr3
            refine (data_any _ _ _ _ _ HD.out.went.rdr).mono ?_
            rintro e w5 ⟨⟨d, hd, rfl⟩, hw⟩
            have HD := Lib.hid (HD.out.step HR.out hCw0 hw)
            have HDZ := Lib.hid hd
            clear hw hd
            have bx0 := HD.out.box.cell (j := 0) (by simp)
            have bx1 := HD.out.box.cell (j := 1) (by simp)
            simp at bx0 bx1
            have c0 := HD.out.row.cell (j := 0) (by simp)
            have c1 := HD.out.row.cell (j := 1) (by simp)
            have c2 := HD.out.row.cell (j := 2) (by simp)
            have c3 := HD.out.row.cell (j := 3) (by simp)
            have fr0 := HD.out.row.free 0
            have fr1 := HD.out.row.free 1
            have fr2 := HD.out.row.free 2
            have fr3 := HD.out.row.free 3
            simp at c0 c1 c2 c3
            have y0 := HD.out.res.cell (j := 0) (by simp)
            have y1 := HD.out.res.cell (j := 1) (by simp)
            have y2 := HD.out.res.cell (j := 2) (by simp)
            have y3 := HD.out.res.cell (j := 3) (by simp)
            have f0 := HD.out.res.free 0
            have f1 := HD.out.res.free 1
            have f2 := HD.out.res.free 2
            have f3 := HD.out.res.free 3
            simp at y0 y1 y2 y3
            have HD := Lib.hid (HD.out.set HR.out hCw 3 (.string d))
            go_wp2
            have hbF := ((((HD.out.res.set 0 (.int .i64 2)).set 1 (.string kk)).set 2 (.int .i64 (1 + yy))).set 3 (.string d))
            unfold Row at hbF
            exact bodyPost_ret (v := .agg #[.int .i64 2, .string kk, .int .i64 (1 + yy), .string d]) (by simp [results, Try.results30, go_sem, World.cell?, hbF]) rfl ⟨_, _, _, _, HKK.out, HDZ.out, rfl, went_set (went_set (went_set (went_set HD.out.went HR.out (by omega) 0 _) HR.out (by omega) 1 _) HR.out (by omega) 2 _) HR.out (by omega) 3 _⟩
          · skip
            have hvb : (vv == 0) = false := by simpa using hv
            go_wp2_with fail
            clear t0 t1 g1 g2 gf1 gf2 b3 b4
            refine (once_any _ _ _ _ _ _ HD.out.went.rdr (by decide) (by decide)).mono ?_
            rintro e wo8 ⟨⟨o8, rfl⟩, hw⟩
            have HD := Lib.hid (HD.out.step HR.out hCw0 hw)
            clear hw
            cases o8
            · skip
              have bx0 := HD.out.box.cell (j := 0) (by simp)
              have bx1 := HD.out.box.cell (j := 1) (by simp)
              simp at bx0 bx1
              have c0 := HD.out.row.cell (j := 0) (by simp)
              have c1 := HD.out.row.cell (j := 1) (by simp)
              have c2 := HD.out.row.cell (j := 2) (by simp)
              have c3 := HD.out.row.cell (j := 3) (by simp)
              have fr0 := HD.out.row.free 0
              have fr1 := HD.out.row.free 1
              have fr2 := HD.out.row.free 2
              have fr3 := HD.out.row.free 3
              simp at c0 c1 c2 c3
              go_wp2_with fail
              clear bx0 bx1 c0 c1 c2 c3 fr0 fr1 fr2 fr3
              refine (data_any _ _ _ _ _ HD.out.went.rdr).mono ?_
              rintro e w5 ⟨⟨d, hd, rfl⟩, hw⟩
              have HD := Lib.hid (HD.out.step HR.out hCw0 hw)
              have HDZ := Lib.hid hd
              clear hw hd
              have bx0 := HD.out.box.cell (j := 0) (by simp)
              have bx1 := HD.out.box.cell (j := 1) (by simp)
              simp at bx0 bx1
              have c0 := HD.out.row.cell (j := 0) (by simp)
              have c1 := HD.out.row.cell (j := 1) (by simp)
              have c2 := HD.out.row.cell (j := 2) (by simp)
              have c3 := HD.out.row.cell (j := 3) (by simp)
              have fr0 := HD.out.row.free 0
              have fr1 := HD.out.row.free 1
              have fr2 := HD.out.row.free 2
              have fr3 := HD.out.row.free 3
              simp at c0 c1 c2 c3
              have y0 := HD.out.res.cell (j := 0) (by simp)
              have y1 := HD.out.res.cell (j := 1) (by simp)
              have y2 := HD.out.res.cell (j := 2) (by simp)
              have y3 := HD.out.res.cell (j := 3) (by simp)
              have f0 := HD.out.res.free 0
              have f1 := HD.out.res.free 1
              have f2 := HD.out.res.free 2
              have f3 := HD.out.res.free 3
              simp at y0 y1 y2 y3
              have HD := Lib.hid (HD.out.set HR.out hCw 3 (.string d))
              go_wp2
              have hbF := ((((HD.out.res.set 0 (.int .i64 2)).set 1 (.string kk)).set 2 (.int .i64 vv)).set 3 (.string d))
              unfold Row at hbF
              exact bodyPost_ret (v := .agg #[.int .i64 2, .string kk, .int .i64 vv, .string d]) (by simp [results, Try.results30, go_sem, World.cell?, hbF]) rfl ⟨_, _, _, _, HKK.out, HDZ.out, rfl, went_set (went_set (went_set (went_set HD.out.went HR.out (by omega) 0 _) HR.out (by omega) 1 _) HR.out (by omega) 2 _) HR.out (by omega) 3 _⟩
            · skip
              have bx0 := HD.out.box.cell (j := 0) (by simp)
              have bx1 := HD.out.box.cell (j := 1) (by simp)
              simp at bx0 bx1
              have c0 := HD.out.row.cell (j := 0) (by simp)
              have c1 := HD.out.row.cell (j := 1) (by simp)
              have c2 := HD.out.row.cell (j := 2) (by simp)
              have c3 := HD.out.row.cell (j := 3) (by simp)
              have fr0 := HD.out.row.free 0
              have fr1 := HD.out.row.free 1
              have fr2 := HD.out.row.free 2
              have fr3 := HD.out.row.free 3
              simp at c0 c1 c2 c3
              go_wp2_with fail
              clear bx0 bx1 c0 c1 c2 c3 fr0 fr1 fr2 fr3
              refine (below_any _ _ _ _ _ _ HD.out.went.rdr (by decide) (by decide)).mono ?_
              rintro e w4 ⟨⟨yy, hy1', hy2', rfl⟩, hw⟩
              have HD := Lib.hid (HD.out.step HR.out hCw0 hw)
              clear hw
              have bx0 := HD.out.box.cell (j := 0) (by simp)
              have bx1 := HD.out.box.cell (j := 1) (by simp)
              simp at bx0 bx1
              have c0 := HD.out.row.cell (j := 0) (by simp)
              have c1 := HD.out.row.cell (j := 1) (by simp)
              have c2 := HD.out.row.cell (j := 2) (by simp)
              have c3 := HD.out.row.cell (j := 3) (by simp)
              have fr0 := HD.out.row.free 0
              have fr1 := HD.out.row.free 1
              have fr2 := HD.out.row.free 2
              have fr3 := HD.out.row.free 3
              simp at c0 c1 c2 c3
              have HD := Lib.hid (HD.out.set HR.out hCw 2 (.int .i64 (1 + yy)))
              go_wp2_with fail
              clear bx0 bx1 c0 c1 c2 c3 fr0 fr1 fr2 fr3
              refine (data_any _ _ _ _ _ HD.out.went.rdr).mono ?_
              rintro e w5 ⟨⟨d, hd, rfl⟩, hw⟩
              have HD := Lib.hid (HD.out.step HR.out hCw0 hw)
              have HDZ := Lib.hid hd
              clear hw hd
              have bx0 := HD.out.box.cell (j := 0) (by simp)
              have bx1 := HD.out.box.cell (j := 1) (by simp)
              simp at bx0 bx1
              have c0 := HD.out.row.cell (j := 0) (by simp)
              have c1 := HD.out.row.cell (j := 1) (by simp)
              have c2 := HD.out.row.cell (j := 2) (by simp)
              have c3 := HD.out.row.cell (j := 3) (by simp)
              have fr0 := HD.out.row.free 0
              have fr1 := HD.out.row.free 1
              have fr2 := HD.out.row.free 2
              have fr3 := HD.out.row.free 3
              simp at c0 c1 c2 c3
              have y0 := HD.out.res.cell (j := 0) (by simp)
              have y1 := HD.out.res.cell (j := 1) (by simp)
              have y2 := HD.out.res.cell (j := 2) (by simp)
              have y3 := HD.out.res.cell (j := 3) (by simp)
              have f0 := HD.out.res.free 0
              have f1 := HD.out.res.free 1
              have f2 := HD.out.res.free 2
              have f3 := HD.out.res.free 3
              simp at y0 y1 y2 y3
              have HD := Lib.hid (HD.out.set HR.out hCw 3 (.string d))
              go_wp2
              have hbF := ((((HD.out.res.set 0 (.int .i64 2)).set 1 (.string kk)).set 2 (.int .i64 (1 + yy))).set 3 (.string d))
              unfold Row at hbF
              exact bodyPost_ret (v := .agg #[.int .i64 2, .string kk, .int .i64 (1 + yy), .string d]) (by simp [results, Try.results30, go_sem, World.cell?, hbF]) rfl ⟨_, _, _, _, HKK.out, HDZ.out, rfl, went_set (went_set (went_set (went_set HD.out.went HR.out (by omega) 0 _) HR.out (by omega) 1 _) HR.out (by omega) 2 _) HR.out (by omega) 3 _⟩
        · skip
          have HSZ := Lib.hid (show w.heap.size ≤ v0.heap.size from HD.out.went.size)
          go_simp
          have HT := Lib.hid (Row.new v0 31 #[.string ⟨#[]⟩, .int .i64 0, .string ⟨#[]⟩])
          have HTL := Lib.hid (show C < v0.heap.size from HD.out.row.lt)
          have HTR := Lib.hid (show r < v0.heap.size from Nat.lt_of_lt_of_le HR.out HD.out.went.size)
          have HD := Lib.hid (HD.out.al (.cells #[.string ⟨#[]⟩, .int .i64 0, .string ⟨#[]⟩] 31))
          obtain ⟨tb, htb⟩ : ∃ x, v0.heap.size = x := ⟨_, rfl⟩
          obtain ⟨v1, hv1⟩ : ∃ x, v0.alloc (.cells #[.string ⟨#[]⟩, .int .i64 0, .string ⟨#[]⟩] 31) = x := ⟨_, rfl⟩
          rw [hv1] at HD ⊢
          have HT := Lib.hid (show Row v1 tb 31 #[.string ⟨#[]⟩, .int .i64 0, .string ⟨#[]⟩] by rw [← hv1, ← htb]; exact HT.out)
          have hob0 : ob < tb := by
            have h := (objs_src HO.out hn).1
            have h2 := HD.out.went.size
            have h3 := HTR.out
            have h4 : w.heap.size ≤ v0.heap.size := HSZ.out
            omega
          rw [htb] at HTL HTR ⊢
          refine hK.out _ _ (by have h := HD.out.box.cell (j := 0) (by simp); simpa using h) (fun HS => ?_)
          clear hK K hv1
          refine wpAnyH_ready (rs := [6]) (by kernel_rfl) (by simp) (AllReadyH.cons rfl (fun K hK => ?_) AllReadyH.nil)
          go_simp
          refine (below_any _ _ _ _ _ _ HD.out.went.rdr (by omega) (by omega)).mono ?_
          rintro e v2 ⟨⟨ix, hx1, hx2, rfl⟩, hw⟩
          have HD := Lib.hid (HD.out.step HR.out hCw0 hw)
          have HT := Lib.hid (HT.out.grown hw.grown (by intro e; injection e with e; have := HTR.out; omega))
          clear hw
          obtain ⟨k, rfl⟩ : ∃ k : Nat, ix = k := ⟨ix.toNat, by omega⟩
          have hkn : k < n := (by omega)
          have hk0 : (0 : Int) ≤ (k : Int) := (by omega)
          have hk1 : (k : Int) < (n : Int) := (by omega)
          obtain ⟨hob, hoc⟩ := objs_src (objs_went HO.out HD.out.went HNE.out) hn
          obtain ⟨o0, o1, o2⟩ := hoc k hkn
          obtain ⟨kk, hkk⟩ : ∃ x, obj0 L k = x := ⟨_, rfl⟩
          obtain ⟨vv, hvv⟩ : ∃ x, obj1 L k = x := ⟨_, rfl⟩
          obtain ⟨dd, hdd⟩ : ∃ x, obj2 L k = x := ⟨_, rfl⟩
          rw [hkk] at o0
          rw [hvv] at o1
          rw [hdd] at o2
          have HKK := Lib.hid (show kk.size ≤ 41 by rw [← hkk]; exact HKY.out k hkn)
          refine hK.out _ _ (by have h := HD.out.box.cell (j := 0) (by simp); simpa using h) (fun HS => ?_)
          clear hK K hkk hvv hdd hoc
          refine held_mono (S' := (fun w' => w'.cell? ⟨w.heap.size, 0, none⟩ = some (.slice (some ⟨ob, oo, none⟩) n cq) ∧ w'.cell? ⟨ob, oo + k * 3, none⟩ = some (.string kk) ∧ w'.cell? ⟨ob, oo + k * 3 + 1, none⟩ = some (.int .i64 vv) ∧ w'.cell? ⟨ob, oo + k * 3 + 2, none⟩ = some (.string dd))) (fun w' h => h.1) ?_
          have HS : (fun w' => w'.cell? ⟨w.heap.size, 0, none⟩ = some (.slice (some ⟨ob, oo, none⟩) n cq) ∧ w'.cell? ⟨ob, oo + k * 3, none⟩ = some (.string kk) ∧ w'.cell? ⟨ob, oo + k * 3 + 1, none⟩ = some (.int .i64 vv) ∧ w'.cell? ⟨ob, oo + k * 3 + 2, none⟩ = some (.string dd)) v2 := ⟨HS, o0, o1, o2⟩
          refine held_take (i := 7) (d := 34) (v := .pointer (some ⟨ob, oo + k * 3, none⟩)) rfl rfl (by kernel_rfl) (by kernel_rfl) (by kernel_rfl) (by kernel_rfl) (fun wx hS => by go_simp) HS ?_
          refine held_take (i := 8) (d := 35) (v := .agg #[.string kk, .int .i64 vv, .string dd]) rfl rfl (by kernel_rfl) (by kernel_rfl) (by kernel_rfl) (by kernel_rfl) (fun wx hS => by have q0 := hS.2.1; have q1 := hS.2.2.1; have q2 := hS.2.2.2; go_simp) HS ?_
          refine wpAnyH_ready (rs := [10]) (by kernel_rfl) (by simp) (AllReadyH.cons rfl (fun K hK => ?_) AllReadyH.nil)
          have hob3 : ob < tb := hob0
          have t0 := HT.out.cell (j := 0) (by simp)
          have t1 := HT.out.cell (j := 1) (by simp)
          have t2 := HT.out.cell (j := 2) (by simp)
          have tf0 := HT.out.free 0
          have tf1 := HT.out.free 1
          have tf2 := HT.out.free 2
          simp at t0 t1 t2
          go_simp
          have HDN := Lib.hid (((HD.out.far HR.out hCw HTL.out 0 (.string kk)).far HR.out hCw HTL.out 1 (.int .i64 vv)).far HR.out hCw HTL.out 2 (.string dd))
          have HTN := Lib.hid (((HT.out.set 0 (.string kk)).set 1 (.int .i64 vv)).set 2 (.string dd))
          obtain ⟨y, hy⟩ : ∃ x, ((v2.setCell ⟨tb, 0, none⟩ (.string kk)).setCell ⟨tb, 1, none⟩ (.int .i64 vv)).setCell ⟨tb, 2, none⟩ (.string dd) = x := ⟨_, rfl⟩
          have o0 := (cell_far3 (X := tb) (j := 0) (j1 := 1) (j2 := 2) v2 (.string kk) (.int .i64 vv) (.string dd) (by omega) (oo + k * 3)).trans o0
          have o1 := (cell_far3 (X := tb) (j := 0) (j1 := 1) (j2 := 2) v2 (.string kk) (.int .i64 vv) (.string dd) (by omega) (oo + k * 3 + 1)).trans o1
          have o2 := (cell_far3 (X := tb) (j := 0) (j1 := 1) (j2 := 2) v2 (.string kk) (.int .i64 vv) (.string dd) (by omega) (oo + k * 3 + 2)).trans o2
          rw [hy] at HDN HTN o0 o1 o2 ⊢
          obtain ⟨hob2, hoc2⟩ := objs_src (objs_went HO.out HDN.out.went HNE.out) hn
          have HD := HDN
          have HT := HTN
          simp at HT
          refine hK.out _ _ ⟨(by have h := HD.out.box.cell (j := 0) (by simp); simpa using h), o0, o1, o2⟩ (fun HS => ?_)
          clear hK K HDN HTN t0 t1 t2 tf0 tf1 tf2 hob2 hoc2 hy
          refine wpAnyH_done (by kernel_rfl) (NoPanic.normal ?_) _
          obtain ⟨y2, hy2⟩ : ∃ x, y.setCell ⟨C, 1, none⟩ (.string kk) = x := ⟨_, rfl⟩
          have hD2 : DG w y2 r a len cap _ C _ := (by rw [← hy2]; exact HD.out.set HR.out hCw 1 (.string kk))
          have hT2 : Row y2 tb 31 #[.string kk, .int .i64 vv, .string dd] := (by rw [← hy2]; exact HT.out.other (by have := HTL.out; omega) 1 (.string kk))
          obtain ⟨y3, hy3⟩ : ∃ x, y2.setCell ⟨C, 2, none⟩ (.int .i64 vv) = x := ⟨_, rfl⟩
          have hD3 : DG w y3 r a len cap _ C _ := (by rw [← hy3]; exact hD2.set HR.out hCw 2 (.int .i64 vv))
          have HD3 := Lib.hid hD3
          have t0 := HT.out.cell (j := 0) (by simp)
          have t1 := hT2.cell (j := 1) (by simp)
          simp at t0 t1
          have g1 := HD.out.row.cell (j := 1) (by simp)
          have g2 := hD2.row.cell (j := 2) (by simp)
          simp at g1 g2
          have gf1 := HD.out.row.free 1
          have gf2 := hD2.row.free 2
          have b3 := hD3.row.cell (j := 0) (by simp)
          have b4 := hD3.row.cell (j := 2) (by simp)
          simp at b3 b4
          clear hD2 hT2 hD3 HT HD
          have HD := HD3
          clear HD3
          by_cases hv : vv = 0
          · skip
            subst hv
            go_wp2_with fail
            clear t0 t1 g1 g2 gf1 gf2 b3 b4
            refine (below_any _ _ _ _ _ _ HD.out.went.rdr (by decide) (by decide)).mono ?_
            rintro e w4 ⟨⟨yy, hy1', hy2', rfl⟩, hw⟩
            have HD := Lib.hid (HD.out.step HR.out hCw0 hw)
            clear hw
            have bx0 := HD.out.box.cell (j := 0) (by simp)
            have bx1 := HD.out.box.cell (j := 1) (by simp)
            simp at bx0 bx1
            have c0 := HD.out.row.cell (j := 0) (by simp)
            have c1 := HD.out.row.cell (j := 1) (by simp)
            have c2 := HD.out.row.cell (j := 2) (by simp)
            have c3 := HD.out.row.cell (j := 3) (by simp)
            have fr0 := HD.out.row.free 0
            have fr1 := HD.out.row.free 1
            have fr2 := HD.out.row.free 2
            have fr3 := HD.out.row.free 3
            simp at c0 c1 c2 c3
            have HD := Lib.hid (HD.out.set HR.out hCw 2 (.int .i64 (1 + yy)))
            go_wp2_with fail
            clear bx0 bx1 c0 c1 c2 c3 fr0 fr1 fr2 fr3
            refine (data_any _ _ _ _ _ HD.out.went.rdr).mono ?_
            rintro e w5 ⟨⟨d, hd, rfl⟩, hw⟩
            have HD := Lib.hid (HD.out.step HR.out hCw0 hw)
            have HDZ := Lib.hid hd
            clear hw hd
            have bx0 := HD.out.box.cell (j := 0) (by simp)
            have bx1 := HD.out.box.cell (j := 1) (by simp)
            simp at bx0 bx1
            have c0 := HD.out.row.cell (j := 0) (by simp)
            have c1 := HD.out.row.cell (j := 1) (by simp)
            have c2 := HD.out.row.cell (j := 2) (by simp)
            have c3 := HD.out.row.cell (j := 3) (by simp)
            have fr0 := HD.out.row.free 0
            have fr1 := HD.out.row.free 1
            have fr2 := HD.out.row.free 2
            have fr3 := HD.out.row.free 3
            simp at c0 c1 c2 c3
            have y0 := HD.out.res.cell (j := 0) (by simp)
            have y1 := HD.out.res.cell (j := 1) (by simp)
            have y2 := HD.out.res.cell (j := 2) (by simp)
            have y3 := HD.out.res.cell (j := 3) (by simp)
            have f0 := HD.out.res.free 0
            have f1 := HD.out.res.free 1
            have f2 := HD.out.res.free 2
            have f3 := HD.out.res.free 3
            simp at y0 y1 y2 y3
            have HD := Lib.hid (HD.out.set HR.out hCw 3 (.string d))
            go_wp2
            have hbF := ((((HD.out.res.set 0 (.int .i64 2)).set 1 (.string kk)).set 2 (.int .i64 (1 + yy))).set 3 (.string d))
            unfold Row at hbF
            exact bodyPost_ret (v := .agg #[.int .i64 2, .string kk, .int .i64 (1 + yy), .string d]) (by simp [results, Try.results30, go_sem, World.cell?, hbF]) rfl ⟨_, _, _, _, HKK.out, HDZ.out, rfl, went_set (went_set (went_set (went_set HD.out.went HR.out (by omega) 0 _) HR.out (by omega) 1 _) HR.out (by omega) 2 _) HR.out (by omega) 3 _⟩
          · skip
            have hvb : (vv == 0) = false := by simpa using hv
            go_wp2_with fail
            clear t0 t1 g1 g2 gf1 gf2 b3 b4
            refine (once_any _ _ _ _ _ _ HD.out.went.rdr (by decide) (by decide)).mono ?_
            rintro e wo8 ⟨⟨o8, rfl⟩, hw⟩
            have HD := Lib.hid (HD.out.step HR.out hCw0 hw)
            clear hw
            cases o8
            · skip
              have bx0 := HD.out.box.cell (j := 0) (by simp)
              have bx1 := HD.out.box.cell (j := 1) (by simp)
              simp at bx0 bx1
              have c0 := HD.out.row.cell (j := 0) (by simp)
              have c1 := HD.out.row.cell (j := 1) (by simp)
              have c2 := HD.out.row.cell (j := 2) (by simp)
              have c3 := HD.out.row.cell (j := 3) (by simp)
              have fr0 := HD.out.row.free 0
              have fr1 := HD.out.row.free 1
              have fr2 := HD.out.row.free 2
              have fr3 := HD.out.row.free 3
              simp at c0 c1 c2 c3
              go_wp2_with fail
              clear bx0 bx1 c0 c1 c2 c3 fr0 fr1 fr2 fr3
              refine (data_any _ _ _ _ _ HD.out.went.rdr).mono ?_
              rintro e w5 ⟨⟨d, hd, rfl⟩, hw⟩
              have HD := Lib.hid (HD.out.step HR.out hCw0 hw)
              have HDZ := Lib.hid hd
              clear hw hd
              have bx0 := HD.out.box.cell (j := 0) (by simp)
              have bx1 := HD.out.box.cell (j := 1) (by simp)
              simp at bx0 bx1
              have c0 := HD.out.row.cell (j := 0) (by simp)
              have c1 := HD.out.row.cell (j := 1) (by simp)
              have c2 := HD.out.row.cell (j := 2) (by simp)
              have c3 := HD.out.row.cell (j := 3) (by simp)
              have fr0 := HD.out.row.free 0
              have fr1 := HD.out.row.free 1
              have fr2 := HD.out.row.free 2
              have fr3 := HD.out.row.free 3
              simp at c0 c1 c2 c3
              have y0 := HD.out.res.cell (j := 0) (by simp)
              have y1 := HD.out.res.cell (j := 1) (by simp)
              have y2 := HD.out.res.cell (j := 2) (by simp)
              have y3 := HD.out.res.cell (j := 3) (by simp)
              have f0 := HD.out.res.free 0
              have f1 := HD.out.res.free 1
              have f2 := HD.out.res.free 2
              have f3 := HD.out.res.free 3
              simp at y0 y1 y2 y3
              have HD := Lib.hid (HD.out.set HR.out hCw 3 (.string d))
              go_wp2
              have hbF := ((((HD.out.res.set 0 (.int .i64 2)).set 1 (.string kk)).set 2 (.int .i64 vv)).set 3 (.string d))
              unfold Row at hbF
              exact bodyPost_ret (v := .agg #[.int .i64 2, .string kk, .int .i64 vv, .string d]) (by simp [results, Try.results30, go_sem, World.cell?, hbF]) rfl ⟨_, _, _, _, HKK.out, HDZ.out, rfl, went_set (went_set (went_set (went_set HD.out.went HR.out (by omega) 0 _) HR.out (by omega) 1 _) HR.out (by omega) 2 _) HR.out (by omega) 3 _⟩
            · skip
              have bx0 := HD.out.box.cell (j := 0) (by simp)
              have bx1 := HD.out.box.cell (j := 1) (by simp)
              simp at bx0 bx1
              have c0 := HD.out.row.cell (j := 0) (by simp)
              have c1 := HD.out.row.cell (j := 1) (by simp)
              have c2 := HD.out.row.cell (j := 2) (by simp)
              have c3 := HD.out.row.cell (j := 3) (by simp)
              have fr0 := HD.out.row.free 0
              have fr1 := HD.out.row.free 1
              have fr2 := HD.out.row.free 2
              have fr3 := HD.out.row.free 3
              simp at c0 c1 c2 c3
              go_wp2_with fail
              clear bx0 bx1 c0 c1 c2 c3 fr0 fr1 fr2 fr3
              refine (below_any _ _ _ _ _ _ HD.out.went.rdr (by decide) (by decide)).mono ?_
              rintro e w4 ⟨⟨yy, hy1', hy2', rfl⟩, hw⟩
              have HD := Lib.hid (HD.out.step HR.out hCw0 hw)
              clear hw
              have bx0 := HD.out.box.cell (j := 0) (by simp)
              have bx1 := HD.out.box.cell (j := 1) (by simp)
              simp at bx0 bx1
              have c0 := HD.out.row.cell (j := 0) (by simp)
              have c1 := HD.out.row.cell (j := 1) (by simp)
              have c2 := HD.out.row.cell (j := 2) (by simp)
              have c3 := HD.out.row.cell (j := 3) (by simp)
              have fr0 := HD.out.row.free 0
              have fr1 := HD.out.row.free 1
              have fr2 := HD.out.row.free 2
              have fr3 := HD.out.row.free 3
              simp at c0 c1 c2 c3
              have HD := Lib.hid (HD.out.set HR.out hCw 2 (.int .i64 (1 + yy)))
              go_wp2_with fail
              clear bx0 bx1 c0 c1 c2 c3 fr0 fr1 fr2 fr3
              refine (data_any _ _ _ _ _ HD.out.went.rdr).mono ?_
              rintro e w5 ⟨⟨d, hd, rfl⟩, hw⟩
              have HD := Lib.hid (HD.out.step HR.out hCw0 hw)
              have HDZ := Lib.hid hd
              clear hw hd
              have bx0 := HD.out.box.cell (j := 0) (by simp)
              have bx1 := HD.out.box.cell (j := 1) (by simp)
              simp at bx0 bx1
              have c0 := HD.out.row.cell (j := 0) (by simp)
              have c1 := HD.out.row.cell (j := 1) (by simp)
              have c2 := HD.out.row.cell (j := 2) (by simp)
              have c3 := HD.out.row.cell (j := 3) (by simp)
              have fr0 := HD.out.row.free 0
              have fr1 := HD.out.row.free 1
              have fr2 := HD.out.row.free 2
              have fr3 := HD.out.row.free 3
              simp at c0 c1 c2 c3
              have y0 := HD.out.res.cell (j := 0) (by simp)
              have y1 := HD.out.res.cell (j := 1) (by simp)
              have y2 := HD.out.res.cell (j := 2) (by simp)
              have y3 := HD.out.res.cell (j := 3) (by simp)
              have f0 := HD.out.res.free 0
              have f1 := HD.out.res.free 1
              have f2 := HD.out.res.free 2
              have f3 := HD.out.res.free 3
              simp at y0 y1 y2 y3
              have HD := Lib.hid (HD.out.set HR.out hCw 3 (.string d))
              go_wp2
              have hbF := ((((HD.out.res.set 0 (.int .i64 2)).set 1 (.string kk)).set 2 (.int .i64 (1 + yy))).set 3 (.string d))
              unfold Row at hbF
              exact bodyPost_ret (v := .agg #[.int .i64 2, .string kk, .int .i64 (1 + yy), .string d]) (by simp [results, Try.results30, go_sem, World.cell?, hbF]) rfl ⟨_, _, _, _, HKK.out, HDZ.out, rfl, went_set (went_set (went_set (went_set HD.out.went HR.out (by omega) 0 _) HR.out (by omega) 1 _) HR.out (by omega) 2 _) HR.out (by omega) 3 _⟩
      · skip
        have bx0 := HD.out.box.cell (j := 0) (by simp)
        have bx1 := HD.out.box.cell (j := 1) (by simp)
        simp at bx0 bx1
        have c0 := HD.out.row.cell (j := 0) (by simp)
        have c1 := HD.out.row.cell (j := 1) (by simp)
        have c2 := HD.out.row.cell (j := 2) (by simp)
        have c3 := HD.out.row.cell (j := 3) (by simp)
        have fr0 := HD.out.row.free 0
        have fr1 := HD.out.row.free 1
        have fr2 := HD.out.row.free 2
        have fr3 := HD.out.row.free 3
        simp at c0 c1 c2 c3
        go_wp2_with fail
        clear bx0 bx1 c0 c1 c2 c3 fr0 fr1 fr2 fr3
        refine (below_any _ _ _ _ _ _ HD.out.went.rdr (by decide) (by decide)).mono ?_
        rintro e w4 ⟨⟨y, hy1', hy2', rfl⟩, hw⟩
        have HD := Lib.hid (HD.out.step HR.out hCw0 hw)
        clear hw
        have bx0 := HD.out.box.cell (j := 0) (by simp)
        have bx1 := HD.out.box.cell (j := 1) (by simp)
        simp at bx0 bx1
        have c0 := HD.out.row.cell (j := 0) (by simp)
        have c1 := HD.out.row.cell (j := 1) (by simp)
        have c2 := HD.out.row.cell (j := 2) (by simp)
        have c3 := HD.out.row.cell (j := 3) (by simp)
        have fr0 := HD.out.row.free 0
        have fr1 := HD.out.row.free 1
        have fr2 := HD.out.row.free 2
        have fr3 := HD.out.row.free 3
        simp at c0 c1 c2 c3
        have HD := Lib.hid (HD.out.set HR.out hCw 2 (.int .i64 (1 + y)))
        go_wp2_with fail
        clear bx0 bx1 c0 c1 c2 c3 fr0 fr1 fr2 fr3
        refine (data_any _ _ _ _ _ HD.out.went.rdr).mono ?_
        rintro e w5 ⟨⟨d, hd, rfl⟩, hw⟩
        have HD := Lib.hid (HD.out.step HR.out hCw0 hw)
        have HDZ := Lib.hid hd
        clear hw hd
        have bx0 := HD.out.box.cell (j := 0) (by simp)
        have bx1 := HD.out.box.cell (j := 1) (by simp)
        simp at bx0 bx1
        have c0 := HD.out.row.cell (j := 0) (by simp)
        have c1 := HD.out.row.cell (j := 1) (by simp)
        have c2 := HD.out.row.cell (j := 2) (by simp)
        have c3 := HD.out.row.cell (j := 3) (by simp)
        have fr0 := HD.out.row.free 0
        have fr1 := HD.out.row.free 1
        have fr2 := HD.out.row.free 2
        have fr3 := HD.out.row.free 3
        simp at c0 c1 c2 c3
        have y0 := HD.out.res.cell (j := 0) (by simp)
        have y1 := HD.out.res.cell (j := 1) (by simp)
        have y2 := HD.out.res.cell (j := 2) (by simp)
        have y3 := HD.out.res.cell (j := 3) (by simp)
        have f0 := HD.out.res.free 0
        have f1 := HD.out.res.free 1
        have f2 := HD.out.res.free 2
        have f3 := HD.out.res.free 3
        simp at y0 y1 y2 y3
        have HD := Lib.hid (HD.out.set HR.out hCw 3 (.string d))
        go_wp2
        have hbF := ((((HD.out.res.set 0 (.int .i64 2)).set 1 (.string b)).set 2 (.int .i64 (1 + y))).set 3 (.string d))
        unfold Row at hbF
        exact bodyPost_ret (v := .agg #[.int .i64 2, .string b, .int .i64 (1 + y), .string d]) (by simp [results, Try.results30, go_sem, World.cell?, hbF]) rfl ⟨_, _, _, _, HNB.out, HDZ.out, rfl, went_set (went_set (went_set (went_set HD.out.went HR.out (by omega) 0 _) HR.out (by omega) 1 _) HR.out (by omega) 2 _) HR.out (by omega) 3 _⟩
    · skip
      have hn1 : ¬ (0 : Int) < (n : Int) := by omega
      have HD := Lib.hid ((((HD.out.set HR.out hCw 0 (.int .i64 2)).set HR.out hCw 1 (.string b)).set HR.out hCw 2 (.int .i64 0)).set HR.out hCw 3 (.string ⟨#[]⟩))
      go_wp2_with fail
      clear bx0 bx1 c0 c1 c2 c3 fr0 fr1 fr2 fr3 y0 y1 y2 y3 f0 f1 f2 f3
      refine (below_any _ _ _ _ _ _ HD.out.went.rdr (by decide) (by decide)).mono ?_
      rintro e w4 ⟨⟨y, hy1', hy2', rfl⟩, hw⟩
      have HD := Lib.hid (HD.out.step HR.out hCw0 hw)
      clear hw
      have bx0 := HD.out.box.cell (j := 0) (by simp)
      have bx1 := HD.out.box.cell (j := 1) (by simp)
      simp at bx0 bx1
      have c0 := HD.out.row.cell (j := 0) (by simp)
      have c1 := HD.out.row.cell (j := 1) (by simp)
      have c2 := HD.out.row.cell (j := 2) (by simp)
      have c3 := HD.out.row.cell (j := 3) (by simp)
      have fr0 := HD.out.row.free 0
      have fr1 := HD.out.row.free 1
      have fr2 := HD.out.row.free 2
      have fr3 := HD.out.row.free 3
      simp at c0 c1 c2 c3
      have HD := Lib.hid (HD.out.set HR.out hCw 2 (.int .i64 (1 + y)))
      go_wp2_with fail
      clear bx0 bx1 c0 c1 c2 c3 fr0 fr1 fr2 fr3
      refine (data_any _ _ _ _ _ HD.out.went.rdr).mono ?_
      rintro e w5 ⟨⟨d, hd, rfl⟩, hw⟩
      have HD := Lib.hid (HD.out.step HR.out hCw0 hw)
      have HDZ := Lib.hid hd
      clear hw hd
      have bx0 := HD.out.box.cell (j := 0) (by simp)
      have bx1 := HD.out.box.cell (j := 1) (by simp)
      simp at bx0 bx1
      have c0 := HD.out.row.cell (j := 0) (by simp)
      have c1 := HD.out.row.cell (j := 1) (by simp)
      have c2 := HD.out.row.cell (j := 2) (by simp)
      have c3 := HD.out.row.cell (j := 3) (by simp)
      have fr0 := HD.out.row.free 0
      have fr1 := HD.out.row.free 1
      have fr2 := HD.out.row.free 2
      have fr3 := HD.out.row.free 3
      simp at c0 c1 c2 c3
      have y0 := HD.out.res.cell (j := 0) (by simp)
      have y1 := HD.out.res.cell (j := 1) (by simp)
      have y2 := HD.out.res.cell (j := 2) (by simp)
      have y3 := HD.out.res.cell (j := 3) (by simp)
      have f0 := HD.out.res.free 0
      have f1 := HD.out.res.free 1
      have f2 := HD.out.res.free 2
      have f3 := HD.out.res.free 3
      simp at y0 y1 y2 y3
      have HD := Lib.hid (HD.out.set HR.out hCw 3 (.string d))
      go_wp2
      have hbF := ((((HD.out.res.set 0 (.int .i64 2)).set 1 (.string b)).set 2 (.int .i64 (1 + y))).set 3 (.string d))
      unfold Row at hbF
      exact bodyPost_ret (v := .agg #[.int .i64 2, .string b, .int .i64 (1 + y), .string d]) (by simp [results, Try.results30, go_sem, World.cell?, hbF]) rfl ⟨_, _, _, _, HNB.out, HDZ.out, rfl, went_set (went_set (went_set (went_set HD.out.went HR.out (by omega) 0 _) HR.out (by omega) 1 _) HR.out (by omega) 2 _) HR.out (by omega) 3 _⟩
  · skip
    have HD := Lib.hid (show DG w (w2.alloc (.cells #[.int .i64 0, .string ⟨#[]⟩, .int .i64 0, .string ⟨#[]⟩] 57)) r a len cap #[.slice q n cq, .slice g m dg] w2.heap.size #[.int .i64 0, .string ⟨#[]⟩, .int .i64 0, .string ⟨#[]⟩] from ⟨HW.out.alloc _, HBX.out.alloc _, HRS.out.alloc _, Row.new _ _ _⟩)
    obtain ⟨C, hC⟩ : ∃ C, w2.heap.size = C := ⟨_, rfl⟩
    rw [hC] at HD hCw
    obtain ⟨w3, hw3⟩ : ∃ w3, w2.alloc (.cells #[.int .i64 0, .string ⟨#[]⟩, .int .i64 0, .string ⟨#[]⟩] 57) = w3 := ⟨_, rfl⟩
    rw [hw3] at HD
    have hCw0 : w.heap.size < C := by omega
    clear HBX HRS HW
    have bx0 := HD.out.box.cell (j := 0) (by simp)
    have bx1 := HD.out.box.cell (j := 1) (by simp)
    simp at bx0 bx1
    have c0 := HD.out.row.cell (j := 0) (by simp)
    have c1 := HD.out.row.cell (j := 1) (by simp)
    have c2 := HD.out.row.cell (j := 2) (by simp)
    have c3 := HD.out.row.cell (j := 3) (by simp)
    have fr0 := HD.out.row.free 0
    have fr1 := HD.out.row.free 1
    have fr2 := HD.out.row.free 2
    have fr3 := HD.out.row.free 3
    simp at c0 c1 c2 c3
    have y0 := HD.out.res.cell (j := 0) (by simp)
    have y1 := HD.out.res.cell (j := 1) (by simp)
    have y2 := HD.out.res.cell (j := 2) (by simp)
    have y3 := HD.out.res.cell (j := 3) (by simp)
    have f0 := HD.out.res.free 0
    have f1 := HD.out.res.free 1
    have f2 := HD.out.res.free 2
    have f3 := HD.out.res.free 3
    simp at y0 y1 y2 y3
    by_cases hn : 0 < n
    · skip
      have hn1 : (0 : Int) < (n : Int) := by omega
      have HD := Lib.hid ((((HD.out.set HR.out hCw 0 (.int .i64 3)).set HR.out hCw 1 (.string b)).set HR.out hCw 2 (.int .i64 0)).set HR.out hCw 3 (.string ⟨#[]⟩))
      go_wp2_with fail
      clear bx0 bx1 c0 c1 c2 c3 fr0 fr1 fr2 fr3 y0 y1 y2 y3 f0 f1 f2 f3
      refine (once_any _ _ _ _ _ _ HD.out.went.rdr (by decide) (by decide)).mono ?_
      rintro e wo5 ⟨⟨o5, rfl⟩, hw⟩
      have HD := Lib.hid (HD.out.step HR.out hCw0 hw)
      clear hw
      cases o5
      · skip
        have bx0 := HD.out.box.cell (j := 0) (by simp)
        have bx1 := HD.out.box.cell (j := 1) (by simp)
        simp at bx0 bx1
        have c0 := HD.out.row.cell (j := 0) (by simp)
        have c1 := HD.out.row.cell (j := 1) (by simp)
        have c2 := HD.out.row.cell (j := 2) (by simp)
        have c3 := HD.out.row.cell (j := 3) (by simp)
        have fr0 := HD.out.row.free 0
        have fr1 := HD.out.row.free 1
        have fr2 := HD.out.row.free 2
        have fr3 := HD.out.row.free 3
        simp at c0 c1 c2 c3
        obtain ⟨ob, oo, rfl⟩ : ∃ b o, q = some ⟨b, o, none⟩ := by
          rcases HO.out.src with hz | ⟨b, o, hq, _⟩
          · omega
          · exact ⟨b, o, hq⟩
        have hi0 : (0 : Int) < (n : Int) := by omega
        go_wp2_with fail
        clear bx0 bx1 c0 c1 c2 c3 fr0 fr1 fr2 fr3
        refine wp_region_noPanic ?_
        have HD := Lib.hid (HD.out.step HR.out hCw0 ((Went.refl HD.out.went.rdr).drewN 1))
        refine wp_region_held_drew (S := (fun w' => w'.cell? ⟨w.heap.size, 0, none⟩ = some (.slice (some ⟨ob, oo, none⟩) n cq))) (by kernel_rfl) (by have h := HD.out.box.cell (j := 0) (by simp); simpa using h) (fun HS => ?_)
        obtain ⟨v0, hv0⟩ : ∃ x, wo5.drew = x := ⟨_, rfl⟩
        have HD : Hid (DG w v0 r a len cap _ C _) := (by rw [← hv0]; exact HD)
        rw [hv0] at HS ⊢
        clear hv0
        refine held_take (i := 0) (d := 27) (v := .pointer (some ⟨w.heap.size, 0, none⟩)) rfl rfl (by kernel_rfl) (by kernel_rfl) (by kernel_rfl) (by kernel_rfl) (fun wx hS => by go_simp) HS ?_
        refine held_take (i := 1) (d := 28) (v := .slice (some ⟨ob, oo, none⟩) n cq) rfl rfl (by kernel_rfl) (by kernel_rfl) (by kernel_rfl) (by kernel_rfl) (fun wx hS => by go_simp) HS ?_
        refine held_take (i := 2) (d := 29) (v := .pointer (some ⟨r, 0, none⟩)) rfl rfl (by kernel_rfl) (by kernel_rfl) (by kernel_rfl) (by kernel_rfl) (fun wx hS => by go_simp) HS ?_
        refine held_take (i := 3) (d := 30) (v := .pointer (some ⟨w.heap.size, 0, none⟩)) rfl rfl (by kernel_rfl) (by kernel_rfl) (by kernel_rfl) (by kernel_rfl) (fun wx hS => by go_simp) HS ?_
        refine held_take (i := 4) (d := 31) (v := .slice (some ⟨ob, oo, none⟩) n cq) rfl rfl (by kernel_rfl) (by kernel_rfl) (by kernel_rfl) (by kernel_rfl) (fun wx hS => by go_simp) HS ?_
        refine held_take (i := 5) (d := 32) (v := .int .i64 (n : Int)) rfl rfl (by kernel_rfl) (by kernel_rfl) (by kernel_rfl) (by kernel_rfl) (fun wx hS => by go_simp) HS ?_
        refine wpAnyH_ready (rs := [6, 9]) (by kernel_rfl) (by simp) (AllReadyH.cons rfl (fun K hK => ?_) (AllReadyH.cons rfl (fun K hK => ?_) AllReadyH.nil))
        · skip
          go_simp
          refine (below_any _ _ _ _ _ _ HD.out.went.rdr (by omega) (by omega)).mono ?_
          rintro e v1 ⟨⟨ix, hx1, hx2, rfl⟩, hw⟩
          have HD := Lib.hid (HD.out.step HR.out hCw0 hw)
          clear hw
          obtain ⟨k, rfl⟩ : ∃ k : Nat, ix = k := ⟨ix.toNat, by omega⟩
          have hkn : k < n := (by omega)
          have hk0 : (0 : Int) ≤ (k : Int) := (by omega)
          have hk1 : (k : Int) < (n : Int) := (by omega)
          obtain ⟨hob, hoc⟩ := objs_src (objs_went HO.out HD.out.went HNE.out) hn
          obtain ⟨o0, o1, o2⟩ := hoc k hkn
          obtain ⟨kk, hkk⟩ : ∃ x, obj0 L k = x := ⟨_, rfl⟩
          obtain ⟨vv, hvv⟩ : ∃ x, obj1 L k = x := ⟨_, rfl⟩
          obtain ⟨dd, hdd⟩ : ∃ x, obj2 L k = x := ⟨_, rfl⟩
          rw [hkk] at o0
          rw [hvv] at o1
          rw [hdd] at o2
          have HKK := Lib.hid (show kk.size ≤ 41 by rw [← hkk]; exact HKY.out k hkn)
          refine hK.out _ _ (by have h := HD.out.box.cell (j := 0) (by simp); simpa using h) (fun HS => ?_)
          clear hK K hkk hvv hdd hoc
          refine held_mono (S' := (fun w' => w'.cell? ⟨w.heap.size, 0, none⟩ = some (.slice (some ⟨ob, oo, none⟩) n cq) ∧ w'.cell? ⟨ob, oo + k * 3, none⟩ = some (.string kk) ∧ w'.cell? ⟨ob, oo + k * 3 + 1, none⟩ = some (.int .i64 vv) ∧ w'.cell? ⟨ob, oo + k * 3 + 2, none⟩ = some (.string dd))) (fun w' h => h.1) ?_
          have HS : (fun w' => w'.cell? ⟨w.heap.size, 0, none⟩ = some (.slice (some ⟨ob, oo, none⟩) n cq) ∧ w'.cell? ⟨ob, oo + k * 3, none⟩ = some (.string kk) ∧ w'.cell? ⟨ob, oo + k * 3 + 1, none⟩ = some (.int .i64 vv) ∧ w'.cell? ⟨ob, oo + k * 3 + 2, none⟩ = some (.string dd)) v1 := ⟨HS, o0, o1, o2⟩
          refine held_take (i := 7) (d := 34) (v := .pointer (some ⟨ob, oo + k * 3, none⟩)) rfl rfl (by kernel_rfl) (by kernel_rfl) (by kernel_rfl) (by kernel_rfl) (fun wx hS => by go_simp) HS ?_
          refine held_take (i := 8) (d := 35) (v := .agg #[.string kk, .int .i64 vv, .string dd]) rfl rfl (by kernel_rfl) (by kernel_rfl) (by kernel_rfl) (by kernel_rfl) (fun wx hS => by have q0 := hS.2.1; have q1 := hS.2.2.1; have q2 := hS.2.2.2; go_simp) HS ?_
          refine wpAnyH_ready (rs := [9]) (by kernel_rfl) (by simp) (AllReadyH.cons rfl (fun K hK => ?_) AllReadyH.nil)
          go_simp
          have HT := Lib.hid (Row.new v1 31 #[.string ⟨#[]⟩, .int .i64 0, .string ⟨#[]⟩])
          have HTL := Lib.hid (show C < v1.heap.size from HD.out.row.lt)
          have HTR := Lib.hid (show r < v1.heap.size from Nat.lt_of_lt_of_le HR.out HD.out.went.size)
          have HD := Lib.hid (HD.out.al (.cells #[.string ⟨#[]⟩, .int .i64 0, .string ⟨#[]⟩] 31))
          obtain ⟨tb, htb⟩ : ∃ x, v1.heap.size = x := ⟨_, rfl⟩
          obtain ⟨v2, hv1⟩ : ∃ x, v1.alloc (.cells #[.string ⟨#[]⟩, .int .i64 0, .string ⟨#[]⟩] 31) = x := ⟨_, rfl⟩
          have o0 := ((below_alloc (Below.refl v1.heap.size v1) (.cells #[.string ⟨#[]⟩, .int .i64 0, .string ⟨#[]⟩] 31)).cell (p := ⟨ob, oo + k * 3, none⟩) hob).trans o0
          have o1 := ((below_alloc (Below.refl v1.heap.size v1) (.cells #[.string ⟨#[]⟩, .int .i64 0, .string ⟨#[]⟩] 31)).cell (p := ⟨ob, oo + k * 3 + 1, none⟩) hob).trans o1
          have o2 := ((below_alloc (Below.refl v1.heap.size v1) (.cells #[.string ⟨#[]⟩, .int .i64 0, .string ⟨#[]⟩] 31)).cell (p := ⟨ob, oo + k * 3 + 2, none⟩) hob).trans o2
          rw [hv1] at HD o0 o1 o2 ⊢
          have HT := Lib.hid (show Row v2 tb 31 #[.string ⟨#[]⟩, .int .i64 0, .string ⟨#[]⟩] by rw [← hv1, ← htb]; exact HT.out)
          rw [htb] at HTL HTR ⊢
          refine hK.out _ _ ⟨(by have h := HD.out.box.cell (j := 0) (by simp); simpa using h), o0, o1, o2⟩ (fun HS => ?_)
          clear hK K hv1
          refine wpAnyH_ready (rs := [10]) (by kernel_rfl) (by simp) (AllReadyH.cons rfl (fun K hK => ?_) AllReadyH.nil)
          have hob3 : ob < tb := by omega
          have t0 := HT.out.cell (j := 0) (by simp)
          have t1 := HT.out.cell (j := 1) (by simp)
          have t2 := HT.out.cell (j := 2) (by simp)
          have tf0 := HT.out.free 0
          have tf1 := HT.out.free 1
          have tf2 := HT.out.free 2
          simp at t0 t1 t2
          go_simp
          have HDN := Lib.hid (((HD.out.far HR.out hCw HTL.out 0 (.string kk)).far HR.out hCw HTL.out 1 (.int .i64 vv)).far HR.out hCw HTL.out 2 (.string dd))
          have HTN := Lib.hid (((HT.out.set 0 (.string kk)).set 1 (.int .i64 vv)).set 2 (.string dd))
          obtain ⟨y, hy⟩ : ∃ x, ((v2.setCell ⟨tb, 0, none⟩ (.string kk)).setCell ⟨tb, 1, none⟩ (.int .i64 vv)).setCell ⟨tb, 2, none⟩ (.string dd) = x := ⟨_, rfl⟩
          have o0 := (cell_far3 (X := tb) (j := 0) (j1 := 1) (j2 := 2) v2 (.string kk) (.int .i64 vv) (.string dd) (by omega) (oo + k * 3)).trans o0
          have o1 := (cell_far3 (X := tb) (j := 0) (j1 := 1) (j2 := 2) v2 (.string kk) (.int .i64 vv) (.string dd) (by omega) (oo + k * 3 + 1)).trans o1
          have o2 := (cell_far3 (X := tb) (j := 0) (j1 := 1) (j2 := 2) v2 (.string kk) (.int .i64 vv) (.string dd) (by omega) (oo + k * 3 + 2)).trans o2
          rw [hy] at HDN HTN o0 o1 o2 ⊢
          obtain ⟨hob2, hoc2⟩ := objs_src (objs_went HO.out HDN.out.went HNE.out) hn
          have HD := HDN
          have HT := HTN
          simp at HT
          refine hK.out _ _ ⟨(by have h := HD.out.box.cell (j := 0) (by simp); simpa using h), o0, o1, o2⟩ (fun HS => ?_)
          clear hK K HDN HTN t0 t1 t2 tf0 tf1 tf2 hob2 hoc2 hy
          refine wpAnyH_done (by kernel_rfl) (NoPanic.normal ?_) _
          obtain ⟨y2, hy2⟩ : ∃ x, y.setCell ⟨C, 1, none⟩ (.string kk) = x := ⟨_, rfl⟩
          have hD2 : DG w y2 r a len cap _ C _ := (by rw [← hy2]; exact HD.out.set HR.out hCw 1 (.string kk))
          have hT2 : Row y2 tb 31 #[.string kk, .int .i64 vv, .string dd] := (by rw [← hy2]; exact HT.out.other (by have := HTL.out; omega) 1 (.string kk))
          obtain ⟨y3, hy3⟩ : ∃ x, y2.setCell ⟨C, 2, none⟩ (.int .i64 vv) = x := ⟨_, rfl⟩
          have hD3 : DG w y3 r a len cap _ C _ := (by rw [← hy3]; exact hD2.set HR.out hCw 2 (.int .i64 vv))
          have HD3 := Lib.hid hD3
          have t0 := HT.out.cell (j := 0) (by simp)
          have t1 := hT2.cell (j := 1) (by simp)
          simp at t0 t1
          have g1 := HD.out.row.cell (j := 1) (by simp)
          have g2 := hD2.row.cell (j := 2) (by simp)
          simp at g1 g2
          have gf1 := HD.out.row.free 1
          have gf2 := hD2.row.free 2
          have b3 := hD3.row.cell (j := 0) (by simp)
          have b4 := hD3.row.cell (j := 2) (by simp)
          simp at b3 b4
          clear hD2 hT2 hD3 HT HD
          have HD := HD3
          clear HD3
          by_cases hv : vv = 0
          · skip
            subst hv
            go_wp2_with fail
            clear t0 t1 g1 g2 gf1 gf2 b3 b4
            refine (below_any _ _ _ _ _ _ HD.out.went.rdr (by decide) (by decide)).mono ?_
            rintro e w4 ⟨⟨yy, hy1', hy2', rfl⟩, hw⟩
            have HD := Lib.hid (HD.out.step HR.out hCw0 hw)
            clear hw
            have bx0 := HD.out.box.cell (j := 0) (by simp)
            have bx1 := HD.out.box.cell (j := 1) (by simp)
            simp at bx0 bx1
            have c0 := HD.out.row.cell (j := 0) (by simp)
            have c1 := HD.out.row.cell (j := 1) (by simp)
            have c2 := HD.out.row.cell (j := 2) (by simp)
            have c3 := HD.out.row.cell (j := 3) (by simp)
            have fr0 := HD.out.row.free 0
            have fr1 := HD.out.row.free 1
            have fr2 := HD.out.row.free 2
            have fr3 := HD.out.row.free 3
            simp at c0 c1 c2 c3
            have HD := Lib.hid (HD.out.set HR.out hCw 2 (.int .i64 (1 + yy)))
            have z0 := HD.out.res.cell (j := 0) (by simp)
            have z1 := HD.out.res.cell (j := 1) (by simp)
            have z2 := HD.out.res.cell (j := 2) (by simp)
            have z3 := HD.out.res.cell (j := 3) (by simp)
            have f0 := HD.out.res.free 0
            have f1 := HD.out.res.free 1
            have f2 := HD.out.res.free 2
            have f3 := HD.out.res.free 3
            simp at z0 z1 z2 z3
            go_wp2
            have hbF := ((((HD.out.res.set 0 (.int .i64 3)).set 1 (.string kk)).set 2 (.int .i64 (1 + yy))).set 3 (.string ⟨#[]⟩))
            unfold Row at hbF
            exact bodyPost_ret (v := .agg #[.int .i64 3, .string kk, .int .i64 (1 + yy), .string ⟨#[]⟩]) (by simp [results, Try.results30, go_sem, World.cell?, hbF]) rfl ⟨_, _, _, _, HKK.out, (by decide), rfl, went_set (went_set (went_set (went_set HD.out.went HR.out (by omega) 0 _) HR.out (by omega) 1 _) HR.out (by omega) 2 _) HR.out (by omega) 3 _⟩
          · skip
            have hvb : (vv == 0) = false := by simpa using hv
            go_wp2_with fail
            clear t0 t1 g1 g2 gf1 gf2 b3 b4
            refine (once_any _ _ _ _ _ _ HD.out.went.rdr (by decide) (by decide)).mono ?_
            rintro e wo8 ⟨⟨o8, rfl⟩, hw⟩
            have HD := Lib.hid (HD.out.step HR.out hCw0 hw)
            clear hw
            cases o8
            · skip
              have bx0 := HD.out.box.cell (j := 0) (by simp)
              have bx1 := HD.out.box.cell (j := 1) (by simp)
              simp at bx0 bx1
              have c0 := HD.out.row.cell (j := 0) (by simp)
              have c1 := HD.out.row.cell (j := 1) (by simp)
              have c2 := HD.out.row.cell (j := 2) (by simp)
              have c3 := HD.out.row.cell (j := 3) (by simp)
              have fr0 := HD.out.row.free 0
              have fr1 := HD.out.row.free 1
              have fr2 := HD.out.row.free 2
              have fr3 := HD.out.row.free 3
              simp at c0 c1 c2 c3
              have y0 := HD.out.res.cell (j := 0) (by simp)
              have y1 := HD.out.res.cell (j := 1) (by simp)
              have y2 := HD.out.res.cell (j := 2) (by simp)
              have y3 := HD.out.res.cell (j := 3) (by simp)
              have f0 := HD.out.res.free 0
              have f1 := HD.out.res.free 1
              have f2 := HD.out.res.free 2
              have f3 := HD.out.res.free 3
              simp at y0 y1 y2 y3
              go_wp2
              have hbF := ((((HD.out.res.set 0 (.int .i64 3)).set 1 (.string kk)).set 2 (.int .i64 vv)).set 3 (.string ⟨#[]⟩))
              unfold Row at hbF
              exact bodyPost_ret (v := .agg #[.int .i64 3, .string kk, .int .i64 vv, .string ⟨#[]⟩]) (by simp [results, Try.results30, go_sem, World.cell?, hbF]) rfl ⟨_, _, _, _, HKK.out, (by decide), rfl, went_set (went_set (went_set (went_set HD.out.went HR.out (by omega) 0 _) HR.out (by omega) 1 _) HR.out (by omega) 2 _) HR.out (by omega) 3 _⟩
            · skip
              have bx0 := HD.out.box.cell (j := 0) (by simp)
              have bx1 := HD.out.box.cell (j := 1) (by simp)
              simp at bx0 bx1
              have c0 := HD.out.row.cell (j := 0) (by simp)
              have c1 := HD.out.row.cell (j := 1) (by simp)
              have c2 := HD.out.row.cell (j := 2) (by simp)
              have c3 := HD.out.row.cell (j := 3) (by simp)
              have fr0 := HD.out.row.free 0
              have fr1 := HD.out.row.free 1
              have fr2 := HD.out.row.free 2
              have fr3 := HD.out.row.free 3
              simp at c0 c1 c2 c3
              go_wp2_with fail
              clear bx0 bx1 c0 c1 c2 c3 fr0 fr1 fr2 fr3
              refine (below_any _ _ _ _ _ _ HD.out.went.rdr (by decide) (by decide)).mono ?_
              rintro e w4 ⟨⟨yy, hy1', hy2', rfl⟩, hw⟩
              have HD := Lib.hid (HD.out.step HR.out hCw0 hw)
              clear hw
              have bx0 := HD.out.box.cell (j := 0) (by simp)
              have bx1 := HD.out.box.cell (j := 1) (by simp)
              simp at bx0 bx1
              have c0 := HD.out.row.cell (j := 0) (by simp)
              have c1 := HD.out.row.cell (j := 1) (by simp)
              have c2 := HD.out.row.cell (j := 2) (by simp)
              have c3 := HD.out.row.cell (j := 3) (by simp)
              have fr0 := HD.out.row.free 0
              have fr1 := HD.out.row.free 1
              have fr2 := HD.out.row.free 2
              have fr3 := HD.out.row.free 3
              simp at c0 c1 c2 c3
              have HD := Lib.hid (HD.out.set HR.out hCw 2 (.int .i64 (1 + yy)))
              have z0 := HD.out.res.cell (j := 0) (by simp)
              have z1 := HD.out.res.cell (j := 1) (by simp)
              have z2 := HD.out.res.cell (j := 2) (by simp)
              have z3 := HD.out.res.cell (j := 3) (by simp)
              have f0 := HD.out.res.free 0
              have f1 := HD.out.res.free 1
              have f2 := HD.out.res.free 2
              have f3 := HD.out.res.free 3
              simp at z0 z1 z2 z3
              go_wp2
              have hbF := ((((HD.out.res.set 0 (.int .i64 3)).set 1 (.string kk)).set 2 (.int .i64 (1 + yy))).set 3 (.string ⟨#[]⟩))
              unfold Row at hbF
              exact bodyPost_ret (v := .agg #[.int .i64 3, .string kk, .int .i64 (1 + yy), .string ⟨#[]⟩]) (by simp [results, Try.results30, go_sem, World.cell?, hbF]) rfl ⟨_, _, _, _, HKK.out, (by decide), rfl, went_set (went_set (went_set (went_set HD.out.went HR.out (by omega) 0 _) HR.out (by omega) 1 _) HR.out (by omega) 2 _) HR.out (by omega) 3 _⟩
        · skip
          have HSZ := Lib.hid (show w.heap.size ≤ v0.heap.size from HD.out.went.size)
          go_simp
          have HT := Lib.hid (Row.new v0 31 #[.string ⟨#[]⟩, .int .i64 0, .string ⟨#[]⟩])
          have HTL := Lib.hid (show C < v0.heap.size from HD.out.row.lt)
          have HTR := Lib.hid (show r < v0.heap.size from Nat.lt_of_lt_of_le HR.out HD.out.went.size)
          have HD := Lib.hid (HD.out.al (.cells #[.string ⟨#[]⟩, .int .i64 0, .string ⟨#[]⟩] 31))
          obtain ⟨tb, htb⟩ : ∃ x, v0.heap.size = x := ⟨_, rfl⟩
          obtain ⟨v1, hv1⟩ : ∃ x, v0.alloc (.cells #[.string ⟨#[]⟩, .int .i64 0, .string ⟨#[]⟩] 31) = x := ⟨_, rfl⟩
          rw [hv1] at HD ⊢
          have HT := Lib.hid (show Row v1 tb 31 #[.string ⟨#[]⟩, .int .i64 0, .string ⟨#[]⟩] by rw [← hv1, ← htb]; exact HT.out)
          have hob0 : ob < tb := by
            have h := (objs_src HO.out hn).1
            have h2 := HD.out.went.size
            have h3 := HTR.out
            have h4 : w.heap.size ≤ v0.heap.size := HSZ.out
            omega
          rw [htb] at HTL HTR ⊢
          refine hK.out _ _ (by have h := HD.out.box.cell (j := 0) (by simp); simpa using h) (fun HS => ?_)
          clear hK K hv1
          refine wpAnyH_ready (rs := [6]) (by kernel_rfl) (by simp) (AllReadyH.cons rfl (fun K hK => ?_) AllReadyH.nil)
          go_simp
          refine (below_any _ _ _ _ _ _ HD.out.went.rdr (by omega) (by omega)).mono ?_
          rintro e v2 ⟨⟨ix, hx1, hx2, rfl⟩, hw⟩
          have HD := Lib.hid (HD.out.step HR.out hCw0 hw)
          have HT := Lib.hid (HT.out.grown hw.grown (by intro e; injection e with e; have := HTR.out; omega))
          clear hw
          obtain ⟨k, rfl⟩ : ∃ k : Nat, ix = k := ⟨ix.toNat, by omega⟩
          have hkn : k < n := (by omega)
          have hk0 : (0 : Int) ≤ (k : Int) := (by omega)
          have hk1 : (k : Int) < (n : Int) := (by omega)
          obtain ⟨hob, hoc⟩ := objs_src (objs_went HO.out HD.out.went HNE.out) hn
          obtain ⟨o0, o1, o2⟩ := hoc k hkn
          obtain ⟨kk, hkk⟩ : ∃ x, obj0 L k = x := ⟨_, rfl⟩
          obtain ⟨vv, hvv⟩ : ∃ x, obj1 L k = x := ⟨_, rfl⟩
          obtain ⟨dd, hdd⟩ : ∃ x, obj2 L k = x := ⟨_, rfl⟩
          rw [hkk] at o0
          rw [hvv] at o1
          rw [hdd] at o2
          have HKK := Lib.hid (show kk.size ≤ 41 by rw [← hkk]; exact HKY.out k hkn)
          refine hK.out _ _ (by have h := HD.out.box.cell (j := 0) (by simp); simpa using h) (fun HS => ?_)
          clear hK K hkk hvv hdd hoc
          refine held_mono (S' := (fun w' => w'.cell? ⟨w.heap.size, 0, none⟩ = some (.slice (some ⟨ob, oo, none⟩) n cq) ∧ w'.cell? ⟨ob, oo + k * 3, none⟩ = some (.string kk) ∧ w'.cell? ⟨ob, oo + k * 3 + 1, none⟩ = some (.int .i64 vv) ∧ w'.cell? ⟨ob, oo + k * 3 + 2, none⟩ = some (.string dd))) (fun w' h => h.1) ?_
          have HS : (fun w' => w'.cell? ⟨w.heap.size, 0, none⟩ = some (.slice (some ⟨ob, oo, none⟩) n cq) ∧ w'.cell? ⟨ob, oo + k * 3, none⟩ = some (.string kk) ∧ w'.cell? ⟨ob, oo + k * 3 + 1, none⟩ = some (.int .i64 vv) ∧ w'.cell? ⟨ob, oo + k * 3 + 2, none⟩ = some (.string dd)) v2 := ⟨HS, o0, o1, o2⟩
          refine held_take (i := 7) (d := 34) (v := .pointer (some ⟨ob, oo + k * 3, none⟩)) rfl rfl (by kernel_rfl) (by kernel_rfl) (by kernel_rfl) (by kernel_rfl) (fun wx hS => by go_simp) HS ?_
          refine held_take (i := 8) (d := 35) (v := .agg #[.string kk, .int .i64 vv, .string dd]) rfl rfl (by kernel_rfl) (by kernel_rfl) (by kernel_rfl) (by kernel_rfl) (fun wx hS => by have q0 := hS.2.1; have q1 := hS.2.2.1; have q2 := hS.2.2.2; go_simp) HS ?_
          refine wpAnyH_ready (rs := [10]) (by kernel_rfl) (by simp) (AllReadyH.cons rfl (fun K hK => ?_) AllReadyH.nil)
          have hob3 : ob < tb := hob0
          have t0 := HT.out.cell (j := 0) (by simp)
          have t1 := HT.out.cell (j := 1) (by simp)
          have t2 := HT.out.cell (j := 2) (by simp)
          have tf0 := HT.out.free 0
          have tf1 := HT.out.free 1
          have tf2 := HT.out.free 2
          simp at t0 t1 t2
          go_simp
          have HDN := Lib.hid (((HD.out.far HR.out hCw HTL.out 0 (.string kk)).far HR.out hCw HTL.out 1 (.int .i64 vv)).far HR.out hCw HTL.out 2 (.string dd))
          have HTN := Lib.hid (((HT.out.set 0 (.string kk)).set 1 (.int .i64 vv)).set 2 (.string dd))
          obtain ⟨y, hy⟩ : ∃ x, ((v2.setCell ⟨tb, 0, none⟩ (.string kk)).setCell ⟨tb, 1, none⟩ (.int .i64 vv)).setCell ⟨tb, 2, none⟩ (.string dd) = x := ⟨_, rfl⟩
          have o0 := (cell_far3 (X := tb) (j := 0) (j1 := 1) (j2 := 2) v2 (.string kk) (.int .i64 vv) (.string dd) (by omega) (oo + k * 3)).trans o0
          have o1 := (cell_far3 (X := tb) (j := 0) (j1 := 1) (j2 := 2) v2 (.string kk) (.int .i64 vv) (.string dd) (by omega) (oo + k * 3 + 1)).trans o1
          have o2 := (cell_far3 (X := tb) (j := 0) (j1 := 1) (j2 := 2) v2 (.string kk) (.int .i64 vv) (.string dd) (by omega) (oo + k * 3 + 2)).trans o2
          rw [hy] at HDN HTN o0 o1 o2 ⊢
          obtain ⟨hob2, hoc2⟩ := objs_src (objs_went HO.out HDN.out.went HNE.out) hn
          have HD := HDN
          have HT := HTN
          simp at HT
          refine hK.out _ _ ⟨(by have h := HD.out.box.cell (j := 0) (by simp); simpa using h), o0, o1, o2⟩ (fun HS => ?_)
          clear hK K HDN HTN t0 t1 t2 tf0 tf1 tf2 hob2 hoc2 hy
          refine wpAnyH_done (by kernel_rfl) (NoPanic.normal ?_) _
          obtain ⟨y2, hy2⟩ : ∃ x, y.setCell ⟨C, 1, none⟩ (.string kk) = x := ⟨_, rfl⟩
          have hD2 : DG w y2 r a len cap _ C _ := (by rw [← hy2]; exact HD.out.set HR.out hCw 1 (.string kk))
          have hT2 : Row y2 tb 31 #[.string kk, .int .i64 vv, .string dd] := (by rw [← hy2]; exact HT.out.other (by have := HTL.out; omega) 1 (.string kk))
          obtain ⟨y3, hy3⟩ : ∃ x, y2.setCell ⟨C, 2, none⟩ (.int .i64 vv) = x := ⟨_, rfl⟩
          have hD3 : DG w y3 r a len cap _ C _ := (by rw [← hy3]; exact hD2.set HR.out hCw 2 (.int .i64 vv))
          have HD3 := Lib.hid hD3
          have t0 := HT.out.cell (j := 0) (by simp)
          have t1 := hT2.cell (j := 1) (by simp)
          simp at t0 t1
          have g1 := HD.out.row.cell (j := 1) (by simp)
          have g2 := hD2.row.cell (j := 2) (by simp)
          simp at g1 g2
          have gf1 := HD.out.row.free 1
          have gf2 := hD2.row.free 2
          have b3 := hD3.row.cell (j := 0) (by simp)
          have b4 := hD3.row.cell (j := 2) (by simp)
          simp at b3 b4
          clear hD2 hT2 hD3 HT HD
          have HD := HD3
          clear HD3
          by_cases hv : vv = 0
          · skip
            subst hv
            go_wp2_with fail
            clear t0 t1 g1 g2 gf1 gf2 b3 b4
            refine (below_any _ _ _ _ _ _ HD.out.went.rdr (by decide) (by decide)).mono ?_
            rintro e w4 ⟨⟨yy, hy1', hy2', rfl⟩, hw⟩
            have HD := Lib.hid (HD.out.step HR.out hCw0 hw)
            clear hw
            have bx0 := HD.out.box.cell (j := 0) (by simp)
            have bx1 := HD.out.box.cell (j := 1) (by simp)
            simp at bx0 bx1
            have c0 := HD.out.row.cell (j := 0) (by simp)
            have c1 := HD.out.row.cell (j := 1) (by simp)
            have c2 := HD.out.row.cell (j := 2) (by simp)
            have c3 := HD.out.row.cell (j := 3) (by simp)
            have fr0 := HD.out.row.free 0
            have fr1 := HD.out.row.free 1
            have fr2 := HD.out.row.free 2
            have fr3 := HD.out.row.free 3
            simp at c0 c1 c2 c3
            have HD := Lib.hid (HD.out.set HR.out hCw 2 (.int .i64 (1 + yy)))
            have z0 := HD.out.res.cell (j := 0) (by simp)
            have z1 := HD.out.res.cell (j := 1) (by simp)
            have z2 := HD.out.res.cell (j := 2) (by simp)
            have z3 := HD.out.res.cell (j := 3) (by simp)
            have f0 := HD.out.res.free 0
            have f1 := HD.out.res.free 1
            have f2 := HD.out.res.free 2
            have f3 := HD.out.res.free 3
            simp at z0 z1 z2 z3
            go_wp2
            have hbF := ((((HD.out.res.set 0 (.int .i64 3)).set 1 (.string kk)).set 2 (.int .i64 (1 + yy))).set 3 (.string ⟨#[]⟩))
            unfold Row at hbF
            exact bodyPost_ret (v := .agg #[.int .i64 3, .string kk, .int .i64 (1 + yy), .string ⟨#[]⟩]) (by simp [results, Try.results30, go_sem, World.cell?, hbF]) rfl ⟨_, _, _, _, HKK.out, (by decide), rfl, went_set (went_set (went_set (went_set HD.out.went HR.out (by omega) 0 _) HR.out (by omega) 1 _) HR.out (by omega) 2 _) HR.out (by omega) 3 _⟩
          · skip
            have hvb : (vv == 0) = false := by simpa using hv
            go_wp2_with fail
            clear t0 t1 g1 g2 gf1 gf2 b3 b4
            refine (once_any _ _ _ _ _ _ HD.out.went.rdr (by decide) (by decide)).mono ?_
            rintro e wo8 ⟨⟨o8, rfl⟩, hw⟩
            have HD := Lib.hid (HD.out.step HR.out hCw0 hw)
            clear hw
            cases o8
            · skip
              have bx0 := HD.out.box.cell (j := 0) (by simp)
              have bx1 := HD.out.box.cell (j := 1) (by simp)
              simp at bx0 bx1
              have c0 := HD.out.row.cell (j := 0) (by simp)
              have c1 := HD.out.row.cell (j := 1) (by simp)
              have c2 := HD.out.row.cell (j := 2) (by simp)
              have c3 := HD.out.row.cell (j := 3) (by simp)
              have fr0 := HD.out.row.free 0
              have fr1 := HD.out.row.free 1
              have fr2 := HD.out.row.free 2
              have fr3 := HD.out.row.free 3
              simp at c0 c1 c2 c3
              have y0 := HD.out.res.cell (j := 0) (by simp)
              have y1 := HD.out.res.cell (j := 1) (by simp)
              have y2 := HD.out.res.cell (j := 2) (by simp)
              have y3 := HD.out.res.cell (j := 3) (by simp)
              have f0 := HD.out.res.free 0
              have f1 := HD.out.res.free 1
              have f2 := HD.out.res.free 2
              have f3 := HD.out.res.free 3
              simp at y0 y1 y2 y3
              go_wp2
              have hbF := ((((HD.out.res.set 0 (.int .i64 3)).set 1 (.string kk)).set 2 (.int .i64 vv)).set 3 (.string ⟨#[]⟩))
              unfold Row at hbF
              exact bodyPost_ret (v := .agg #[.int .i64 3, .string kk, .int .i64 vv, .string ⟨#[]⟩]) (by simp [results, Try.results30, go_sem, World.cell?, hbF]) rfl ⟨_, _, _, _, HKK.out, (by decide), rfl, went_set (went_set (went_set (went_set HD.out.went HR.out (by omega) 0 _) HR.out (by omega) 1 _) HR.out (by omega) 2 _) HR.out (by omega) 3 _⟩
            · skip
              have bx0 := HD.out.box.cell (j := 0) (by simp)
              have bx1 := HD.out.box.cell (j := 1) (by simp)
              simp at bx0 bx1
              have c0 := HD.out.row.cell (j := 0) (by simp)
              have c1 := HD.out.row.cell (j := 1) (by simp)
              have c2 := HD.out.row.cell (j := 2) (by simp)
              have c3 := HD.out.row.cell (j := 3) (by simp)
              have fr0 := HD.out.row.free 0
              have fr1 := HD.out.row.free 1
              have fr2 := HD.out.row.free 2
              have fr3 := HD.out.row.free 3
              simp at c0 c1 c2 c3
              go_wp2_with fail
              clear bx0 bx1 c0 c1 c2 c3 fr0 fr1 fr2 fr3
              refine (below_any _ _ _ _ _ _ HD.out.went.rdr (by decide) (by decide)).mono ?_
              rintro e w4 ⟨⟨yy, hy1', hy2', rfl⟩, hw⟩
              have HD := Lib.hid (HD.out.step HR.out hCw0 hw)
              clear hw
              have bx0 := HD.out.box.cell (j := 0) (by simp)
              have bx1 := HD.out.box.cell (j := 1) (by simp)
              simp at bx0 bx1
              have c0 := HD.out.row.cell (j := 0) (by simp)
              have c1 := HD.out.row.cell (j := 1) (by simp)
              have c2 := HD.out.row.cell (j := 2) (by simp)
              have c3 := HD.out.row.cell (j := 3) (by simp)
              have fr0 := HD.out.row.free 0
              have fr1 := HD.out.row.free 1
              have fr2 := HD.out.row.free 2
              have fr3 := HD.out.row.free 3
              simp at c0 c1 c2 c3
              have HD := Lib.hid (HD.out.set HR.out hCw 2 (.int .i64 (1 + yy)))
              have z0 := HD.out.res.cell (j := 0) (by simp)
              have z1 := HD.out.res.cell (j := 1) (by simp)
              have z2 := HD.out.res.cell (j := 2) (by simp)
              have z3 := HD.out.res.cell (j := 3) (by simp)
              have f0 := HD.out.res.free 0
              have f1 := HD.out.res.free 1
              have f2 := HD.out.res.free 2
              have f3 := HD.out.res.free 3
              simp at z0 z1 z2 z3
              go_wp2
              have hbF := ((((HD.out.res.set 0 (.int .i64 3)).set 1 (.string kk)).set 2 (.int .i64 (1 + yy))).set 3 (.string ⟨#[]⟩))
              unfold Row at hbF
              exact bodyPost_ret (v := .agg #[.int .i64 3, .string kk, .int .i64 (1 + yy), .string ⟨#[]⟩]) (by simp [results, Try.results30, go_sem, World.cell?, hbF]) rfl ⟨_, _, _, _, HKK.out, (by decide), rfl, went_set (went_set (went_set (went_set HD.out.went HR.out (by omega) 0 _) HR.out (by omega) 1 _) HR.out (by omega) 2 _) HR.out (by omega) 3 _⟩
      · skip
        have bx0 := HD.out.box.cell (j := 0) (by simp)
        have bx1 := HD.out.box.cell (j := 1) (by simp)
        simp at bx0 bx1
        have c0 := HD.out.row.cell (j := 0) (by simp)
        have c1 := HD.out.row.cell (j := 1) (by simp)
        have c2 := HD.out.row.cell (j := 2) (by simp)
        have c3 := HD.out.row.cell (j := 3) (by simp)
        have fr0 := HD.out.row.free 0
        have fr1 := HD.out.row.free 1
        have fr2 := HD.out.row.free 2
        have fr3 := HD.out.row.free 3
        simp at c0 c1 c2 c3
        go_wp2_with fail
        clear bx0 bx1 c0 c1 c2 c3 fr0 fr1 fr2 fr3
        refine (below_any _ _ _ _ _ _ HD.out.went.rdr (by decide) (by decide)).mono ?_
        rintro e w4 ⟨⟨y, hy1', hy2', rfl⟩, hw⟩
        have HD := Lib.hid (HD.out.step HR.out hCw0 hw)
        clear hw
        have bx0 := HD.out.box.cell (j := 0) (by simp)
        have bx1 := HD.out.box.cell (j := 1) (by simp)
        simp at bx0 bx1
        have c0 := HD.out.row.cell (j := 0) (by simp)
        have c1 := HD.out.row.cell (j := 1) (by simp)
        have c2 := HD.out.row.cell (j := 2) (by simp)
        have c3 := HD.out.row.cell (j := 3) (by simp)
        have fr0 := HD.out.row.free 0
        have fr1 := HD.out.row.free 1
        have fr2 := HD.out.row.free 2
        have fr3 := HD.out.row.free 3
        simp at c0 c1 c2 c3
        have HD := Lib.hid (HD.out.set HR.out hCw 2 (.int .i64 (1 + y)))
        have z0 := HD.out.res.cell (j := 0) (by simp)
        have z1 := HD.out.res.cell (j := 1) (by simp)
        have z2 := HD.out.res.cell (j := 2) (by simp)
        have z3 := HD.out.res.cell (j := 3) (by simp)
        have f0 := HD.out.res.free 0
        have f1 := HD.out.res.free 1
        have f2 := HD.out.res.free 2
        have f3 := HD.out.res.free 3
        simp at z0 z1 z2 z3
        go_wp2
        have hbF := ((((HD.out.res.set 0 (.int .i64 3)).set 1 (.string b)).set 2 (.int .i64 (1 + y))).set 3 (.string ⟨#[]⟩))
        unfold Row at hbF
        exact bodyPost_ret (v := .agg #[.int .i64 3, .string b, .int .i64 (1 + y), .string ⟨#[]⟩]) (by simp [results, Try.results30, go_sem, World.cell?, hbF]) rfl ⟨_, _, _, _, HNB.out, (by decide), rfl, went_set (went_set (went_set (went_set HD.out.went HR.out (by omega) 0 _) HR.out (by omega) 1 _) HR.out (by omega) 2 _) HR.out (by omega) 3 _⟩
    · skip
      have hn1 : ¬ (0 : Int) < (n : Int) := by omega
      have HD := Lib.hid ((((HD.out.set HR.out hCw 0 (.int .i64 3)).set HR.out hCw 1 (.string b)).set HR.out hCw 2 (.int .i64 0)).set HR.out hCw 3 (.string ⟨#[]⟩))
      go_wp2_with fail
      clear bx0 bx1 c0 c1 c2 c3 fr0 fr1 fr2 fr3 y0 y1 y2 y3 f0 f1 f2 f3
      refine (below_any _ _ _ _ _ _ HD.out.went.rdr (by decide) (by decide)).mono ?_
      rintro e w4 ⟨⟨y, hy1', hy2', rfl⟩, hw⟩
      have HD := Lib.hid (HD.out.step HR.out hCw0 hw)
      clear hw
      have bx0 := HD.out.box.cell (j := 0) (by simp)
      have bx1 := HD.out.box.cell (j := 1) (by simp)
      simp at bx0 bx1
      have c0 := HD.out.row.cell (j := 0) (by simp)
      have c1 := HD.out.row.cell (j := 1) (by simp)
      have c2 := HD.out.row.cell (j := 2) (by simp)
      have c3 := HD.out.row.cell (j := 3) (by simp)
      have fr0 := HD.out.row.free 0
      have fr1 := HD.out.row.free 1
      have fr2 := HD.out.row.free 2
      have fr3 := HD.out.row.free 3
      simp at c0 c1 c2 c3
      have HD := Lib.hid (HD.out.set HR.out hCw 2 (.int .i64 (1 + y)))
      have z0 := HD.out.res.cell (j := 0) (by simp)
      have z1 := HD.out.res.cell (j := 1) (by simp)
      have z2 := HD.out.res.cell (j := 2) (by simp)
      have z3 := HD.out.res.cell (j := 3) (by simp)
      have f0 := HD.out.res.free 0
      have f1 := HD.out.res.free 1
      have f2 := HD.out.res.free 2
      have f3 := HD.out.res.free 3
      simp at z0 z1 z2 z3
      go_wp2
      have hbF := ((((HD.out.res.set 0 (.int .i64 3)).set 1 (.string b)).set 2 (.int .i64 (1 + y))).set 3 (.string ⟨#[]⟩))
      unfold Row at hbF
      exact bodyPost_ret (v := .agg #[.int .i64 3, .string b, .int .i64 (1 + y), .string ⟨#[]⟩]) (by simp [results, Try.results30, go_sem, World.cell?, hbF]) rfl ⟨_, _, _, _, HNB.out, (by decide), rfl, went_set (went_set (went_set (went_set HD.out.went HR.out (by omega) 0 _) HR.out (by omega) 1 _) HR.out (by omega) 2 _) HR.out (by omega) 3 _⟩
end Go.Proofs.Ytblpebdjbenphaa
