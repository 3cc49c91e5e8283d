/- Texts put together, as a claim holds at most sixty files. -/
import Derived.Test.YtbjlojmadellgaaGreatDoorMg13
import Derived.Test.YtbjlojmadellgaaGreatDoorMg10
import Derived.Test.YtbjlojmadellgaaGreatDoorRMarkP
import Derived.Test.YtbjlojmadellgaaGreatDoorRMarkS
import Derived.Test.YtbjlojmadellgaaGreatDoorRClaimP
import Derived.Test.YtbjlojmadellgaaGreatDoorRClaimS
import Derived.Test.YtbjlojmadellgaaGreatDoorMg1
import Derived.Test.YtbjlojmadellgaaGreatDoorMg0
import Derived.Deep.Slices
import Derived.Deep.Strs
namespace Go.Proofs.YtbjlojmadellgaaGreatDoor
open Go.ChangeShapes Go.WideShapes Go.ChangeAt Go.RowKit
set_option linter.unusedVariables false
set_option maxRecDepth 100000

theorem getAux_at (key : ByteArray) : ∀ l : Objs, getAux key l = ((⟨#[]⟩, 0, ⟨#[]⟩), false) ∨ ∃ k, k < l.length ∧ getAux key l = ((obj0 l k, obj1 l k, obj2 l k), true)
  | [] => .inl rfl
  | r :: t => by
    unfold getAux
    split
    · exact .inr ⟨0, by simp, rfl⟩
    · rcases getAux_at key t with h | ⟨k, hk, h⟩
      · exact .inl h
      · exact .inr ⟨k + 1, by simpa using hk, h⟩
/-- The text of the object with a key, and whether there is one. -/
def dataOf (l : Objs) (key : ByteArray) : ByteArray := (getAux key l).1.2.2
theorem data_size {l : Objs} {key : ByteArray} (h : ∀ i, i < l.length → (obj2 l i).size ≤ 1048576) : (dataOf l key).size ≤ 1048576 := by
  unfold dataOf
  rcases getAux_at key l with h1 | ⟨k, hk, h1⟩
  · rw [h1]; exact Nat.zero_le _
  · rw [h1]; exact h k hk
theorem data_none {l : Objs} {key : ByteArray} (h : (getAux key l).2 = false) : dataOf l key = ⟨#[]⟩ := by
  unfold dataOf
  rcases getAux_at key l with h1 | ⟨k, hk, h1⟩
  · rw [h1]
  · rw [h1] at h; cases h
/-- The mark that a store has of a task. -/
def markS (l : Objs) (t : Int) : Option (Bool × Int × Int) := rmark (dataOf l (nameB 3 t 0 0 0)).data.toList
def claimS (l : Objs) (t : Int) : Option (Int × Int × Int) := rclaim (dataOf l (nameB 2 t 0 0 0)).data.toList
theorem rmark_empty : rmark (⟨#[]⟩ : ByteArray).data.toList = none := by rfl
theorem rclaim_empty : rclaim (⟨#[]⟩ : ByteArray).data.toList = none := by rfl
theorem markS_none {l : Objs} {t : Int} (h : (getAux (nameB 3 t 0 0 0) l).2 = false) : markS l t = none := by
  unfold markS; rw [data_none h, rmark_empty]
theorem claimS_none {l : Objs} {t : Int} (h : (getAux (nameB 2 t 0 0 0) l).2 = false) : claimS l t = none := by
  unfold claimS; rw [data_none h, rclaim_empty]
theorem rm_form (o : Option (Bool × Int × Int)) : ∃ (a : Bool) (e k : Int) (x : Bool), rmV o = .tuple #[.agg #[.bool a, .int .i64 e, .int .i64 k], .bool x] ∧ (o = none → a = false ∧ e = 0 ∧ k = 0) ∧ x = o.isSome := by
  cases o with
  | none => exact ⟨false, 0, 0, false, rfl, fun _ => ⟨rfl, rfl, rfl⟩, rfl⟩
  | some p => exact ⟨p.1, p.2.1, p.2.2, true, rfl, fun h => (by cases h), rfl⟩
theorem rc_form (o : Option (Int × Int × Int)) : ∃ (a e k : Int) (x : Bool), rcV o = .tuple #[.agg #[.int .i64 a, .int .i64 e, .int .i64 k], .bool x] ∧ (o = none → a = 0 ∧ e = 0 ∧ k = 0) ∧ x = o.isSome := by
  cases o with
  | none => exact ⟨0, 0, 0, false, rfl, fun _ => ⟨rfl, rfl, rfl⟩, rfl⟩
  | some p => exact ⟨p.1, p.2.1, p.2.2, true, rfl, fun h => (by cases h), rfl⟩
end Go.Proofs.YtbjlojmadellgaaGreatDoor
namespace Go.Proofs.YtbjlojmadellgaaGreatDoor
open Go.ChangeShapes Go.WideShapes Go.ChangeAt Go.RowKit Go.Deep
set_option linter.unusedVariables false
set_option maxRecDepth 100000

theorem add_obj (b off i : Nat) : (⟨b, off, none⟩ : Addr).add i = ⟨b, off + i, none⟩ := by
  unfold Addr.add; split <;> simp_all

theorem cofObjN : Tryz.prog.cellsOf 94 = 3 := by kernel_rfl

theorem obj_of_trod {H : Type} {enc : TypeId × Value → H} {w : World} {base : Nat} {spare : Nat → Bool} {held : Bool} {fuel : Nat} {cs : List Value} {x : DataW H × List MemPlace}
    (h : DataW.trod enc Tryz.prog w base spare held fuel 94 cs = some x) : ∃ (x0 : ByteArray) (x1 : Int) (x2 : ByteArray), cs = [.string x0, .int .i64 x1, .string x2] ∧ x0.size ≤ maxLen ∧ x2.size ≤ maxLen := by
  obtain ⟨y0, y1, y2, m, _, hl, h0, h1, h2⟩ := trod_struct3 Tryz.underlying94 h
  rw [cofObjN] at hl
  obtain ⟨x0, e0, _, hs0⟩ := DataW.trod_string Tryz.underlying9 h0
  obtain ⟨x1, e1, _, _⟩ := DataW.trod_int Tryz.underlying2 h1
  obtain ⟨x2, e2, _, hs2⟩ := DataW.trod_string Tryz.underlying9 h2
  match cs, hl with
  | [c0, c1, c2], _ =>
    have k0 : Tryz.prog.cellsOf 9 = 1 := by kernel_rfl
    have k1 : Tryz.prog.cellsOf 2 = 1 := by kernel_rfl
    simp [k0] at e0
    simp [k1] at e1
    simp [k0] at e2
    exact ⟨x0, x1, x2, by rw [e0, e1, e2], hs0, hs2⟩

theorem objs_of_trod {H : Type} {enc : TypeId × Value → H} {w : World} {base : Nat} {spare : Nat → Bool} {held : Bool} {fuel : Nat} {a : Option Addr} {len cap : Nat} {x : DataW H × List MemPlace}
    (h : DataW.trod enc Tryz.prog w base spare held fuel 26 [.slice a len cap] = some x) : ∃ l, ObjsAt w a len l := by
  rcases open_slice Tryz.underlying26 h with ⟨hcs, _⟩ | ⟨ad, len', cap', m, n, D, Pl, hcs, _, hl, hm, hmm, _, hx⟩
  · simp at hcs
    obtain ⟨rfl, rfl, rfl⟩ := hcs
    exact ⟨[], rfl, Nat.zero_le _, fun i hi => by omega, .inl rfl⟩
  · simp at hcs
    obtain ⟨rfl, rfl, rfl⟩ := hcs
    by_cases h0 : len = 0
    · subst h0
      exact ⟨[], rfl, Nat.zero_le _, fun i hi => by omega, .inl rfl⟩
    · have hlm : len ≤ m := by rw [hmm]; split <;> omega
      rw [cofObjN] at hx
      obtain ⟨b, off, spot⟩ := ad
      have hall : ∀ i, i < len → ∃ r : ByteArray × Int × ByteArray, (w.cell? (((⟨b, off, spot⟩ : Addr).add (i * 3))) = some (.string r.1) ∧ w.cell? (((⟨b, off, spot⟩ : Addr).add (i * 3)).add 1) = some (.int .i64 r.2.1) ∧ w.cell? (((⟨b, off, spot⟩ : Addr).add (i * 3)).add 2) = some (.string r.2.2)) ∧ (r.1.size ≤ maxLen ∧ r.2.2.size ≤ maxLen) := by
        intro i hi
        obtain ⟨cs', h1, h2⟩ := hx i (by omega)
        obtain ⟨x0, x1, x2, rfl, hs0, hs2⟩ := obj_of_trod h2
        obtain ⟨_, _, hc⟩ := World.cells?_some h1
        refine ⟨(x0, x1, x2), ⟨?_, ?_, ?_⟩, ⟨hs0, hs2⟩⟩
        · have := hc 0 (by simp)
          simpa [Addr.add] using this
        · have := hc 1 (by simp)
          simpa [Addr.add] using this
        · have := hc 2 (by simp)
          simpa [Addr.add] using this
      obtain ⟨R, hR⟩ := choose_lt hall
      have hspot : spot = none := by
        have := World.cell?_spot (hR 0 (by omega)).1.1
        simpa [Addr.add] using this
      subst hspot
      have hget : ∀ i, i < len → ((List.range len).map R).getD i (ByteArray.empty, 0, ByteArray.empty) = R i := by
        intro i hi
        rw [List.getD_eq_getElem?_getD, List.getElem?_map, List.getElem?_range hi]; rfl
      refine ⟨(List.range len).map R, by simp, by omega, fun i hi => ?_, .inr ⟨b, off, rfl, ?_, fun i hi => ?_⟩⟩
      · unfold obj0 obj2; rw [hget i hi]; exact (hR i hi).2
      · have := World.block_lt_of_cell? _ _ (hR 0 (by omega)).1.1
        simpa [Addr.add] using this
      · have h1 := (hR i hi).1
        unfold obj0 obj1 obj2
        rw [hget i hi]
        simpa only [add_obj] using h1
end Go.Proofs.YtbjlojmadellgaaGreatDoor
namespace Go.Proofs.YtbjlojmadellgaaGreatDoor
open Go.ChangeShapes Go.WideShapes Go.ChangeAt Go.RowKit Go.Deep
set_option linter.unusedVariables false
set_option maxRecDepth 100000

theorem add_gone (b off i : Nat) : (⟨b, off, none⟩ : Addr).add i = ⟨b, off + i, none⟩ := by
  unfold Addr.add; split <;> simp_all

theorem cofGoneN : Tryz.prog.cellsOf 97 = 2 := by kernel_rfl

theorem gone_of_trod {H : Type} {enc : TypeId × Value → H} {w : World} {base : Nat} {spare : Nat → Bool} {held : Bool} {fuel : Nat} {cs : List Value} {x : DataW H × List MemPlace}
    (h : DataW.trod enc Tryz.prog w base spare held fuel 97 cs = some x) : ∃ (x0 : ByteArray) (x1 : Int), cs = [.string x0, .int .i64 x1] ∧ x0.size ≤ maxLen := by
  obtain ⟨y0, y1, m, _, hl, h0, h1⟩ := trod_struct2 Tryz.underlying97 h
  rw [cofGoneN] at hl
  obtain ⟨x0, e0, _, hs0⟩ := DataW.trod_string Tryz.underlying9 h0
  obtain ⟨x1, e1, _, _⟩ := DataW.trod_int Tryz.underlying2 h1
  match cs, hl with
  | [c0, c1], _ =>
    have k0 : Tryz.prog.cellsOf 9 = 1 := by kernel_rfl
    have k1 : Tryz.prog.cellsOf 2 = 1 := by kernel_rfl
    simp [k0] at e0
    simp [k1] at e1
    exact ⟨x0, x1, by rw [e0, e1], hs0⟩

theorem gones_of_trod {H : Type} {enc : TypeId × Value → H} {w : World} {base : Nat} {spare : Nat → Bool} {held : Bool} {fuel : Nat} {a : Option Addr} {len cap : Nat} {x : DataW H × List MemPlace}
    (h : DataW.trod enc Tryz.prog w base spare held fuel 27 [.slice a len cap] = some x) : ∃ l, GonesAt w a len l := by
  rcases open_slice Tryz.underlying27 h with ⟨hcs, _⟩ | ⟨ad, len', cap', m, n, D, Pl, hcs, _, hl, hm, hmm, _, hx⟩
  · simp at hcs
    obtain ⟨rfl, rfl, rfl⟩ := hcs
    exact ⟨[], rfl, Nat.zero_le _, fun i hi => by omega, .inl rfl⟩
  · simp at hcs
    obtain ⟨rfl, rfl, rfl⟩ := hcs
    by_cases h0 : len = 0
    · subst h0
      exact ⟨[], rfl, Nat.zero_le _, fun i hi => by omega, .inl rfl⟩
    · have hlm : len ≤ m := by rw [hmm]; split <;> omega
      rw [cofGoneN] at hx
      obtain ⟨b, off, spot⟩ := ad
      have hall : ∀ i, i < len → ∃ r : ByteArray × Int, (w.cell? (((⟨b, off, spot⟩ : Addr).add (i * 2))) = some (.string r.1) ∧ w.cell? (((⟨b, off, spot⟩ : Addr).add (i * 2)).add 1) = some (.int .i64 r.2)) ∧ (r.1.size ≤ maxLen) := by
        intro i hi
        obtain ⟨cs', h1, h2⟩ := hx i (by omega)
        obtain ⟨x0, x1, rfl, hs0⟩ := gone_of_trod h2
        obtain ⟨_, _, hc⟩ := World.cells?_some h1
        refine ⟨(x0, x1), ⟨?_, ?_⟩, hs0⟩
        · have := hc 0 (by simp)
          simpa [Addr.add] using this
        · have := hc 1 (by simp)
          simpa [Addr.add] using this
      obtain ⟨R, hR⟩ := choose_lt hall
      have hspot : spot = none := by
        have := World.cell?_spot (hR 0 (by omega)).1.1
        simpa [Addr.add] using this
      subst hspot
      have hget : ∀ i, i < len → ((List.range len).map R).getD i (ByteArray.empty, 0) = R i := by
        intro i hi
        rw [List.getD_eq_getElem?_getD, List.getElem?_map, List.getElem?_range hi]; rfl
      refine ⟨(List.range len).map R, by simp, by omega, fun i hi => ?_, .inr ⟨b, off, rfl, ?_, fun i hi => ?_⟩⟩
      · unfold gone0; rw [hget i hi]; exact (hR i hi).2
      · have := World.block_lt_of_cell? _ _ (hR 0 (by omega)).1.1
        simpa [Addr.add] using this
      · have h1 := (hR i hi).1
        unfold gone0 gone1
        rw [hget i hi]
        simpa only [add_gone] using h1
end Go.Proofs.YtbjlojmadellgaaGreatDoor
namespace Go.Proofs.YtbjlojmadellgaaGreatDoor
open Go.ChangeShapes Go.WideShapes Go.ChangeAt Go.RowKit Go.Deep
set_option linter.unusedVariables false
set_option maxRecDepth 100000

theorem objs_slice {H : Type} {enc : TypeId × Value → H} {w : World} {base : Nat} {spare : Nat → Bool} {held : Bool} {fuel : Nat} {c : Value} {x : DataW H × List MemPlace}
    (h : DataW.trod enc Tryz.prog w base spare held fuel 26 [c] = some x) : ∃ a la ca l, c = .slice a la ca ∧ ObjsAt w a la l := by
  have h' := h
  rcases open_slice Tryz.underlying26 h with ⟨hcs, _⟩ | ⟨ad, len', cap', m, n, D, Pl, hcs, _⟩
  · simp at hcs
    subst hcs
    obtain ⟨l, hl⟩ := objs_of_trod h'
    exact ⟨_, _, _, l, rfl, hl⟩
  · simp at hcs
    subst hcs
    obtain ⟨l, hl⟩ := objs_of_trod h'
    exact ⟨_, _, _, l, rfl, hl⟩
theorem gones_slice {H : Type} {enc : TypeId × Value → H} {w : World} {base : Nat} {spare : Nat → Bool} {held : Bool} {fuel : Nat} {c : Value} {x : DataW H × List MemPlace}
    (h : DataW.trod enc Tryz.prog w base spare held fuel 27 [c] = some x) : ∃ a la ca l, c = .slice a la ca ∧ GonesAt w a la l := by
  have h' := h
  rcases open_slice Tryz.underlying27 h with ⟨hcs, _⟩ | ⟨ad, len', cap', m, n, D, Pl, hcs, _⟩
  · simp at hcs
    subst hcs
    obtain ⟨l, hl⟩ := gones_of_trod h'
    exact ⟨_, _, _, l, rfl, hl⟩
  · simp at hcs
    subst hcs
    obtain ⟨l, hl⟩ := gones_of_trod h'
    exact ⟨_, _, _, l, rfl, hl⟩
end Go.Proofs.YtbjlojmadellgaaGreatDoor
