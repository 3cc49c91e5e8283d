/- Texts put together, as a claim holds at most sixty files. -/
import Derived.Test.YtblpebdjbenphaaMg4
import Derived.Test.YtblpebdjbenphaaRows
import Derived.WalkKit
import Derived.RegionTactic
import Derived.Deep.RegionHeld3
namespace Go.Proofs.Ytblpebdjbenphaa
open Go.ChangeShapes Go.WideShapes Go.ChangeAt Go.RowKit
set_option linter.unusedVariables false
set_option maxRecDepth 100000

def sameT (s u : ByteArray) : Bool := s.toList == u.toList
def getAux (key : ByteArray) : Objs → (ByteArray × Int × ByteArray) × Bool
  | [] => ((⟨#[]⟩, 0, ⟨#[]⟩), false)
  | r :: t => if sameT r.1 key then (r, true) else getAux key t
theorem getAux_hit (key : ByteArray) : ∀ (l : Objs) (k : Nat), k < l.length → (∀ j, j < k → sameT (obj0 l j) key = false) → sameT (obj0 l k) key = true → getAux key l = ((obj0 l k, obj1 l k, obj2 l k), true)
  | [], k, hk, _, _ => by simp at hk
  | r :: t, 0, _, _, h => by
    have h' : sameT r.1 key = true := h
    unfold getAux; rw [if_pos h']; rfl
  | r :: t, k + 1, hk, hb, h => by
    have h' : sameT r.1 key = false := hb 0 (by omega)
    unfold getAux
    rw [if_neg (by rw [h']; simp)]
    exact getAux_hit key t k (by simpa using hk) (fun j hj => hb (j + 1) (by omega)) h
theorem getAux_none (key : ByteArray) : ∀ (l : Objs), (∀ j, j < l.length → sameT (obj0 l j) key = false) → getAux key l = ((⟨#[]⟩, 0, ⟨#[]⟩), false)
  | [], _ => rfl
  | r :: t, hb => by
    have h' : sameT r.1 key = false := hb 0 (by simp)
    unfold getAux
    rw [if_neg (by rw [h']; simp)]
    exact getAux_none key t (fun j hj => hb (j + 1) (by simpa using hj))
def goneAux (key : ByteArray) : Gones → Int
  | [] => 0
  | r :: t => if sameT r.1 key then r.2 else goneAux key t
theorem goneAux_hit (key : ByteArray) : ∀ (l : Gones) (k : Nat), k < l.length → (∀ j, j < k → sameT (gone0 l j) key = false) → sameT (gone0 l k) key = true → goneAux key l = gone1 l k
  | [], k, hk, _, _ => by simp at hk
  | r :: t, 0, _, _, h => by
    have h' : sameT r.1 key = true := h
    unfold goneAux; rw [if_pos h']; rfl
  | r :: t, k + 1, hk, hb, h => by
    have h' : sameT r.1 key = false := hb 0 (by omega)
    unfold goneAux
    rw [if_neg (by rw [h']; simp)]
    exact goneAux_hit key t k (by simpa using hk) (fun j hj => hb (j + 1) (by omega)) h
theorem goneAux_none (key : ByteArray) : ∀ (l : Gones), (∀ j, j < l.length → sameT (gone0 l j) key = false) → goneAux key l = 0
  | [], _ => rfl
  | r :: t, hb => by
    have h' : sameT r.1 key = false := hb 0 (by simp)
    unfold goneAux
    rw [if_neg (by rw [h']; simp)]
    exact goneAux_none key t (fun j hj => hb (j + 1) (by simpa using hj))
def verB (key : ByteArray) (l : Objs) (m : Gones) : Int := if (getAux key l).2 then (getAux key l).1.2.1 else goneAux key m

theorem row_new (w : World) (cur : Array Value) (T : TypeId) : Row (w.alloc (.cells cur T)) w.heap.size T cur := by
  have := heap_alloc_new w (.cells cur T)
  simpa [Row] using this
theorem row_new1 (w : World) (o : Obj) (cur : Array Value) (T : TypeId) : Row ((w.alloc o).alloc (.cells cur T)) (w.heap.size + 1) T cur := by
  have := row_new (w.alloc o) cur T
  simpa using this
theorem Row.al {w : World} {B : Nat} {E : TypeId} {cur : Array Value} (h : Row w B E cur) (o : Obj) : Row (w.alloc o) B E cur := h.keep (below_alloc (Below.refl _ _) _)

def MadeGet (p : (ByteArray × Int × ByteArray) × Bool) (w : World) (e : Ending) (w' : World) : Prop := e = .returned (.tuple #[.agg #[.string p.1.1, .int .i64 p.1.2.1, .string p.1.2.2], .bool p.2]) ∧ Below w.heap.size w w'
structure GC (w : World) (bx rs : Array Value) (wr : World) : Prop where
  below : Below w.heap.size w wr
  box : Row wr w.heap.size 27 bx
  res : Row wr (w.heap.size + 1) 31 rs
theorem GC.al {w wr : World} {bx rs : Array Value} (h : GC w bx rs wr) (o : Obj) : GC w bx rs (wr.alloc o) := ⟨below_alloc h.below _, h.box.al o, h.res.al o⟩
theorem ret_get {s d : ByteArray} {v : Int} {b : Bool} {p : (ByteArray × Int × ByteArray) × Bool} (h : p = ((s, v, d), b)) : Ending.returned (.tuple #[.agg #[.string s, .int .i64 v, .string d], .bool b]) = .returned (.tuple #[.agg #[.string p.1.1, .int .i64 p.1.2.1, .string p.1.2.2], .bool p.2]) := by rw [h]

set_option maxHeartbeats 1000000 in
theorem sget_any (a g : Option Addr) (la ca lg cg : Nat) (l : Objs) (m : Gones) (key : ByteArray) (w : World) (h : StoAt w a la l g lg m) :
    Calls Try.prog 8 #[.agg #[.slice a la ca, .slice g lg cg], .string key] w (MadeGet (getAux key l) w) := by
  have hm := h.o.max
  unfold maxLen at hm
  have HS := Lib.hid h
  have HL := Lib.hid h.o.length
  clear h
  go_enter Try.func8, Try.ntmps8
  go_wp2
  go_loopw [6] (fun i wr => ∃ k : Nat, k ≤ la ∧ i = .int .i64 k ∧ Hid (GC w #[.slice a la ca, .slice g lg cg] #[.string ByteArray.empty, .int .i64 0, .string ByteArray.empty] wr ∧ ∀ j, j < k → sameT (obj0 l j) key = false)) (fun i _ => la - (intOf i).toNat)
  case atStart => exact ⟨0, Nat.zero_le _, rfl, ⟨below_alloc (below_alloc (Below.refl _ _) _) _, (row_new _ _ _).al _, row_new1 _ _ _ _⟩, fun j hj => by omega⟩
  case round =>
    obtain ⟨k, hk, rfl, HW⟩ := hrel
    have b0 := HW.out.1.box.cell (j := 0) (by simp)
    have r0 := HW.out.1.res.cell (j := 0) (by simp)
    have r1 := HW.out.1.res.cell (j := 1) (by simp)
    have r2 := HW.out.1.res.cell (j := 2) (by simp)
    have f0 := HW.out.1.res.free 0
    have f1 := HW.out.1.res.free 1
    have f2 := HW.out.1.res.free 2
    simp at b0 r0 r1 r2
    by_cases hlt : k < la
    · rcases HS.out.o.src with hz | ⟨b, off, rfl, hb, hc⟩
      · omega
      · have c0 := (HW.out.1.below.cell (p := ⟨b, off + k * 3, none⟩) hb).trans (hc k hlt).1
        have c1 := (HW.out.1.below.cell (p := ⟨b, off + k * 3 + 1, none⟩) hb).trans (hc k hlt).2.1
        have c2 := (HW.out.1.below.cell (p := ⟨b, off + k * 3 + 2, none⟩) hb).trans (hc k hlt).2.2
        clear hc hb
        cases hsk : sameT (obj0 l k) key with
        | true =>
          have HQ := Lib.hid (getAux_hit key l k (by rw [HL.out]; exact hlt) HW.out.2 hsk)
          have hs2 : ((obj0 l k).toList == key.toList) = true := hsk
          clear hsk
          go_wp2
          have hb := ((HW.out.1.res.set 0 (.string (obj0 l k))).set 1 (.int .i64 (obj1 l k))).set 2 (.string (obj2 l k))
          unfold Row at hb
          exact bodyPost_ret (v := .tuple #[.agg #[.string (obj0 l k), .int .i64 (obj1 l k), .string (obj2 l k)], .bool true]) (by simp [results, Try.results8, go_sem, World.cell?, hb]) rfl ⟨ret_get HQ.out, ((HW.out.1.below.setCell (by show w.heap.size ≤ w.heap.size + 1; omega) _).setCell (by show w.heap.size ≤ w.heap.size + 1; omega) _).setCell (by show w.heap.size ≤ w.heap.size + 1; omega) _⟩
        | false =>
          have HQ := Lib.hid hsk
          have hs2 : ((obj0 l k).toList == key.toList) = false := hsk
          clear hsk
          go_wp2
          go_roundw
          case rel => exact ⟨k + 1, by omega, by go_num, HW.out.1, fun j hj => by
            rcases Nat.lt_or_ge j k with h | h
            · exact HW.out.2 j h
            · obtain rfl : j = k := by omega
              exact HQ.out⟩
          case measure => simp [intOf]; omega
    · obtain rfl : k = la := by omega
      have HQ := Lib.hid (getAux_none key l (by rw [HL.out]; exact HW.out.2))
      go_wp2
      have hb := ((HW.out.1.res.set 0 (.string ⟨#[]⟩)).set 1 (.int .i64 0)).set 2 (.string ⟨#[]⟩)
      unfold Row at hb
      exact bodyPost_ret (v := .tuple #[.agg #[.string ⟨#[]⟩, .int .i64 0, .string ⟨#[]⟩], .bool false]) (by simp [results, Try.results8, go_sem, World.cell?, hb]) rfl ⟨ret_get HQ.out, ((HW.out.1.below.setCell (by show w.heap.size ≤ w.heap.size + 1; omega) _).setCell (by show w.heap.size ≤ w.heap.size + 1; omega) _).setCell (by show w.heap.size ≤ w.heap.size + 1; omega) _⟩

set_option maxHeartbeats 1000000 in
theorem get_any (a g : Option Addr) (la ca lg cg : Nat) (l : Objs) (m : Gones) (key : ByteArray) (w : World) (h : StoAt w a la l g lg m) :
    Calls Try.prog 7 #[.agg #[.slice a la ca, .slice g lg cg], .string key] w (MadeGet (getAux key l) w) := by
  have hm := h.o.max
  unfold maxLen at hm
  have HS := Lib.hid h
  have HL := Lib.hid h.o.length
  clear h
  go_enter Try.func7, Try.ntmps7
  go_wp2
  go_loopw [11] (fun i wr => ∃ k : Nat, k ≤ la ∧ i = .int .i64 k ∧ Hid (GC w #[.slice a la ca, .slice g lg cg] #[.string ByteArray.empty, .int .i64 0, .string ByteArray.empty] wr ∧ ∀ j, j < k → sameT (obj0 l j) key = false)) (fun i _ => la - (intOf i).toNat)
  case atStart => exact ⟨0, Nat.zero_le _, rfl, ⟨below_alloc (below_alloc (Below.refl _ _) _) _, (row_new _ _ _).al _, row_new1 _ _ _ _⟩, fun j hj => by omega⟩
  case round =>
    obtain ⟨k, hk, rfl, HW⟩ := hrel
    have r0 := HW.out.1.res.cell (j := 0) (by simp)
    have r1 := HW.out.1.res.cell (j := 1) (by simp)
    have r2 := HW.out.1.res.cell (j := 2) (by simp)
    have f0 := HW.out.1.res.free 0
    have f1 := HW.out.1.res.free 1
    have f2 := HW.out.1.res.free 2
    have hz := HW.out.1.res.lt
    simp at r0 r1 r2
    by_cases hlt : k < la
    · rcases HS.out.o.src with hz | ⟨b, off, rfl, hb, hc⟩
      · omega
      · have c0 := (HW.out.1.below.cell (p := ⟨b, off + k * 3, none⟩) hb).trans (hc k hlt).1
        have c1 := (HW.out.1.below.cell (p := ⟨b, off + k * 3 + 1, none⟩) hb).trans (hc k hlt).2.1
        have c2 := (HW.out.1.below.cell (p := ⟨b, off + k * 3 + 2, none⟩) hb).trans (hc k hlt).2.2
        clear hc hb
        cases hsk : sameT (obj0 l k) key with
        | true =>
          have HQ := Lib.hid (getAux_hit key l k (by rw [HL.out]; exact hlt) HW.out.2 hsk)
          have hs2 : ((obj0 l k).toList == key.toList) = true := hsk
          clear hsk
          go_wp2
          have hb := (((HW.out.1.res.set 0 (.string (obj0 l k))).set 1 (.int .i64 (obj1 l k))).set 2 (.string (obj2 l k))).al (.cells #[.string (obj0 l k), .int .i64 (obj1 l k), .string (obj2 l k)] 31)
          unfold Row at hb
          exact bodyPost_ret (v := .tuple #[.agg #[.string (obj0 l k), .int .i64 (obj1 l k), .string (obj2 l k)], .bool true]) (by simp [results, Try.results7, go_sem, World.cell?, hb]) rfl ⟨ret_get HQ.out, below_alloc (((HW.out.1.below.setCell (by show w.heap.size ≤ w.heap.size + 1; omega) _).setCell (by show w.heap.size ≤ w.heap.size + 1; omega) _).setCell (by show w.heap.size ≤ w.heap.size + 1; omega) _) _⟩
        | false =>
          have HQ := Lib.hid hsk
          have hs2 : ((obj0 l k).toList == key.toList) = false := hsk
          clear hsk
          go_wp2
          go_roundw
          case rel => exact ⟨k + 1, by omega, by go_num, HW.out.1.al _, fun j hj => by
            rcases Nat.lt_or_ge j k with h | h
            · exact HW.out.2 j h
            · obtain rfl : j = k := by omega
              exact HQ.out⟩
          case measure => simp [intOf]; omega
    · obtain rfl : k = la := by omega
      have HQ := Lib.hid (getAux_none key l (by rw [HL.out]; exact HW.out.2))
      go_wp2
      have hb := ((HW.out.1.res.set 0 (.string ⟨#[]⟩)).set 1 (.int .i64 0)).set 2 (.string ⟨#[]⟩)
      unfold Row at hb
      exact bodyPost_ret (v := .tuple #[.agg #[.string ⟨#[]⟩, .int .i64 0, .string ⟨#[]⟩], .bool false]) (by simp [results, Try.results7, go_sem, World.cell?, hb]) rfl ⟨ret_get HQ.out, ((HW.out.1.below.setCell (by show w.heap.size ≤ w.heap.size + 1; omega) _).setCell (by show w.heap.size ≤ w.heap.size + 1; omega) _).setCell (by show w.heap.size ≤ w.heap.size + 1; omega) _⟩

structure GD (w : World) (bx : Array Value) (wr : World) : Prop where
  below : Below w.heap.size w wr
  box : Row wr w.heap.size 27 bx

theorem ver_yes {key : ByteArray} {l : Objs} {m : Gones} {q : (ByteArray × Int × ByteArray) × Bool} (h : getAux key l = q) (hb : q.2 = true) : verB key l m = q.1.2.1 := by unfold verB; rw [h, hb]; rfl
theorem ver_no {key : ByteArray} {l : Objs} {m : Gones} {q : (ByteArray × Int × ByteArray) × Bool} (h : getAux key l = q) (hb : q.2 = false) : verB key l m = goneAux key m := by unfold verB; rw [h, hb]; rfl

set_option maxHeartbeats 1000000 in
theorem sver_any (a g : Option Addr) (la ca lg cg : Nat) (l : Objs) (m : Gones) (key : ByteArray) (w : World) (h : StoAt w a la l g lg m) :
    Calls Try.prog 12 #[.agg #[.slice a la ca, .slice g lg cg], .string key] w (MadeInt (verB key l m) w) := by
  have hm := h.d.max
  unfold maxLen at hm
  have HB := Lib.hid (below_alloc (Below.refl w.heap.size w) (.cells #[.slice a la ca, .slice g lg cg] 27))
  have HX := Lib.hid (row_new w #[.slice a la ca, .slice g lg cg] 27)
  have HS := Lib.hid h
  have HL := Lib.hid h.d.length
  clear h
  obtain ⟨⟨⟨s, v, d⟩, b⟩, hq⟩ : ∃ q, getAux key l = q := ⟨_, rfl⟩
  have HQ := Lib.hid hq
  clear hq
  go_enter Try.func12, Try.ntmps12
  go_wp2_with fail
  refine (sget_any _ _ _ _ _ _ l m _ _ (HS.out.keep HB.out)).mono ?_
  rw [HQ.out]
  rintro e w1 ⟨rfl, hB⟩
  have HX := Lib.hid (HX.out.keep hB)
  have HB := Lib.hid (below_via HB.out hB)
  clear hB
  cases b with
  | true =>
    have HV := Lib.hid (ver_yes (m := m) HQ.out rfl)
    go_wp2
    go_ret
    exact ⟨ret_int' HV.out.symm, below_alloc HB.out _⟩
  | false =>
    have HV := Lib.hid (ver_no (m := m) HQ.out rfl)
    have HX := Lib.hid (HX.out.al (.cells #[.string s, .int .i64 v, .string d] 31))
    have HB := Lib.hid (below_alloc HB.out (.cells #[.string s, .int .i64 v, .string d] 31))
    go_wp2
    go_loopw [7] (fun i wr => ∃ k : Nat, k ≤ lg ∧ i = .int .i64 k ∧ Hid (GD w #[.slice a la ca, .slice g lg cg] wr ∧ ∀ j, j < k → sameT (gone0 m j) key = false)) (fun i _ => lg - (intOf i).toNat)
    case atStart => exact ⟨0, Nat.zero_le _, rfl, ⟨HB.out, HX.out⟩, fun j hj => by omega⟩
    case round =>
      obtain ⟨k, hk, rfl, HW⟩ := hrel
      have b1 := HW.out.1.box.cell (j := 1) (by simp)
      simp at b1
      by_cases hlt : k < lg
      · rcases HS.out.d.src with hz | ⟨bk, off, rfl, hb, hc⟩
        · omega
        · have c0 := (HW.out.1.below.cell (p := ⟨bk, off + k * 2, none⟩) hb).trans (hc k hlt).1
          have c1 := (HW.out.1.below.cell (p := ⟨bk, off + k * 2 + 1, none⟩) hb).trans (hc k hlt).2
          clear hc hb
          cases hsk : sameT (gone0 m k) key with
          | true =>
            have HG := Lib.hid (goneAux_hit key m k (by rw [HL.out]; exact hlt) HW.out.2 hsk)
            have hs2 : ((gone0 m k).toList == key.toList) = true := hsk
            clear hsk
            go_wp2
            go_ret
            exact ⟨ret_int' (HV.out.trans HG.out).symm, HW.out.1.below⟩
          | false =>
            have HG := Lib.hid hsk
            have hs2 : ((gone0 m k).toList == key.toList) = false := hsk
            clear hsk
            go_wp2
            go_roundw
            case rel => exact ⟨k + 1, by omega, by go_num, HW.out.1, fun j hj => by
              rcases Nat.lt_or_ge j k with h | h
              · exact HW.out.2 j h
              · obtain rfl : j = k := by omega
                exact HG.out⟩
            case measure => simp [intOf]; omega
      · obtain rfl : k = lg := by omega
        have HG := Lib.hid (goneAux_none key m (by rw [HL.out]; exact HW.out.2))
        go_wp2
        go_ret
        exact ⟨ret_int' (HV.out.trans HG.out).symm, HW.out.1.below⟩

set_option maxHeartbeats 1000000 in
theorem ver_any (a g : Option Addr) (la ca lg cg : Nat) (l : Objs) (m : Gones) (key : ByteArray) (w : World) (h : StoAt w a la l g lg m) :
    Calls Try.prog 11 #[.agg #[.slice a la ca, .slice g lg cg], .string key] w (MadeInt (verB key l m) w) := by
  have hm := h.d.max
  unfold maxLen at hm
  have HB := Lib.hid (below_alloc (Below.refl w.heap.size w) (.cells #[.slice a la ca, .slice g lg cg] 27))
  have HX := Lib.hid (row_new w #[.slice a la ca, .slice g lg cg] 27)
  have HS := Lib.hid h
  have HL := Lib.hid h.d.length
  clear h
  obtain ⟨⟨⟨s, v, d⟩, b⟩, hq⟩ : ∃ q, getAux key l = q := ⟨_, rfl⟩
  have HQ := Lib.hid hq
  clear hq
  go_enter Try.func11, Try.ntmps11
  go_wp2_with fail
  refine (get_any _ _ _ _ _ _ l m _ _ (HS.out.keep HB.out)).mono ?_
  rw [HQ.out]
  rintro e w1 ⟨rfl, hB⟩
  have HX := Lib.hid (HX.out.keep hB)
  have HB := Lib.hid (below_via HB.out hB)
  clear hB
  cases b with
  | true =>
    have HV := Lib.hid (ver_yes (m := m) HQ.out rfl)
    go_wp2
    go_ret
    exact ⟨ret_int' HV.out.symm, below_alloc HB.out _⟩
  | false =>
    have HV := Lib.hid (ver_no (m := m) HQ.out rfl)
    have HX := Lib.hid (HX.out.al (.cells #[.string s, .int .i64 v, .string d] 31))
    have HB := Lib.hid (below_alloc HB.out (.cells #[.string s, .int .i64 v, .string d] 31))
    have x1 := HX.out.cell (j := 1) (by simp)
    simp at x1
    go_wp2
    go_loopw [21] (fun i wr => ∃ k : Nat, k ≤ lg ∧ i = .int .i64 k ∧ Hid (Below w.heap.size w wr ∧ ∀ j, j < k → sameT (gone0 m j) key = false)) (fun i _ => lg - (intOf i).toNat)
    case atStart => exact ⟨0, Nat.zero_le _, rfl, HB.out, fun j hj => by omega⟩
    case round =>
      obtain ⟨k, hk, rfl, HW⟩ := hrel
      by_cases hlt : k < lg
      · rcases HS.out.d.src with hz | ⟨bk, off, rfl, hb, hc⟩
        · omega
        · have c0 := (HW.out.1.cell (p := ⟨bk, off + k * 2, none⟩) hb).trans (hc k hlt).1
          have c1 := (HW.out.1.cell (p := ⟨bk, off + k * 2 + 1, none⟩) hb).trans (hc k hlt).2
          clear hc hb
          cases hsk : sameT (gone0 m k) key with
          | true =>
            have HG := Lib.hid (goneAux_hit key m k (by rw [HL.out]; exact hlt) HW.out.2 hsk)
            have hs2 : ((gone0 m k).toList == key.toList) = true := hsk
            clear hsk
            go_wp2
            go_ret
            exact ⟨ret_int' (HV.out.trans HG.out).symm, below_alloc HW.out.1 _⟩
          | false =>
            have HG := Lib.hid hsk
            have hs2 : ((gone0 m k).toList == key.toList) = false := hsk
            clear hsk
            go_wp2
            go_roundw
            case rel => exact ⟨k + 1, by omega, by go_num, below_alloc HW.out.1 _, fun j hj => by
              rcases Nat.lt_or_ge j k with h | h
              · exact HW.out.2 j h
              · obtain rfl : j = k := by omega
                exact HG.out⟩
            case measure => simp [intOf]; omega
      · obtain rfl : k = lg := by omega
        have HG := Lib.hid (goneAux_none key m (by rw [HL.out]; exact HW.out.2))
        go_wp2
        go_ret
        exact ⟨ret_int' (HV.out.trans HG.out).symm, HW.out.1⟩
end Go.Proofs.Ytblpebdjbenphaa
namespace Go.Proofs.Ytblpebdjbenphaa
set_option linter.unusedVariables false

section
variable {P : Program} {ops : Array Oper} {Q : Exit → Act → World → Prop} {md : Region.Mode} {S : World → Prop}

theorem held_take {i d : Nat} {oi : Oper} {v : Value} {fuel : Nat} {listed : Array Bool} {a : Act} {w : World} (hi : ops[i]? = some oi) (hd : oi.dst = some d)
    (hs : Region.noSelect ops = true) (hf : Region.free md ops listed i = true) (hr : (Region.ready md ops listed).contains i = true)
    (hw : Region.wanted oi (yielded ops a.tmps) = true) (hy : ∀ w, S w → (execOp a.eval oi).run P w = .ok (.value v) w) (hS : S w)
    (h : wpAnyH P md ops (NoPanic Q) S fuel (listed.setIfInBounds i true) { a with tmps := a.tmps.setIfInBounds d v } w) : wpAnyH P md ops (NoPanic Q) S (fuel + 1) listed a w :=
  wpAnyH_take hi hs hf hr (fun _ _ _ h => h) (Or.inl ⟨hw, hy⟩) hS (by rw [hd]; exact h)

theorem held_skip {i d : Nat} {oi : Oper} {fuel : Nat} {listed : Array Bool} {a : Act} {w : World} (hi : ops[i]? = some oi) (hd : oi.dst = some d)
    (hs : Region.noSelect ops = true) (hf : Region.free md ops listed i = true) (hr : (Region.ready md ops listed).contains i = true)
    (hw : Region.wanted oi (yielded ops a.tmps) = false) (hS : S w)
    (h : wpAnyH P md ops (NoPanic Q) S fuel (listed.setIfInBounds i true) { a with tmps := a.tmps.setIfInBounds d undef } w) : wpAnyH P md ops (NoPanic Q) S (fuel + 1) listed a w :=
  wpAnyH_take hi hs hf hr (fun _ _ _ h => h) (Or.inr ⟨hw, rfl⟩) hS (by rw [hd]; exact h)
/-- A stronger condition may be taken on the way. -/
theorem held_mono {S' : World → Prop} (hs : ∀ w, S' w → S w) : ∀ {fuel : Nat} {listed : Array Bool} {a : Act} {w : World}, wpAnyH P md ops Q S' fuel listed a w → wpAnyH P md ops Q S fuel listed a w
  | 0, _, _, _, h => h
  | fuel + 1, _, _, _, h => ⟨h.1, fun i hi => wpOp_mono (fun a' w' h' => ⟨hs w' h'.1, held_mono hs h'.2⟩) (h.2 i hi)⟩
end
end Go.Proofs.Ytblpebdjbenphaa
