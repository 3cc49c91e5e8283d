
/- What ReadRun computes in the program and in its model: the records of a text, if they are a run, in a row of its own. Only new blocks are made. -/
import Derived.Test.YtonipfhigkkhnaaTake
import Derived.Test.YtonipfhigkkhnaaRs
import Derived.Test.YtonipfhigkkhnaaRuns5
import Derived.Deep.Onto
namespace Go.Proofs.Ytonipfhigkkhnaa
open Go.ChangeShapes Go.WideShapes Go.ChangeAt Go.RowKit
set_option linter.unusedVariables false
set_option maxRecDepth 100000

/-- The end of a function that returns records in a row of its own, and a bool. -/
def MadeRsB (W : Recs) (b : Bool) (w : World) (e : Ending) (w' : World) : Prop :=
  ∃ q cp, e = .returned (.tuple #[.slice q W.length cp, .bool b]) ∧ Rs w.heap.size w' q W ∧ Below w.heap.size w w'

theorem maders_none {s : ByteArray} {w w' : World} (h : readB s = none) (hB : Below w.heap.size w w') : MadeRsB (readW s) (readK s) w (.returned (.tuple #[.slice none 0 0, .bool false])) w' := by
  obtain ⟨h1, h2⟩ := read_none h
  rw [h1, h2]
  exact ⟨none, 0, rfl, .inl rfl, hB⟩

def sliceN : Value → Nat | .slice _ n _ => n | _ => 0
/-- The records so far; the reader is block B. -/
structure ReadSt (s : ByteArray) (w wr : World) (v : Value) (k at0 : Nat) : Prop where
  pos : posK s k = some at0
  own : wr.ownsRow (w.heap.size + 1) 33 2 v k (cellsL (recsK s k))
  rdr : Row wr w.heap.size 83 #[.string s, .int .i64 at0]
  below : Below w.heap.size w wr

theorem ReadSt.keep {s : ByteArray} {w wr w1 : World} {v : Value} {k at0 : Nat} (h : ReadSt s w wr v k at0) (hB : Below wr.heap.size wr w1) : ReadSt s w w1 v k at0 :=
  ⟨h.pos, own_below h.own hB, h.rdr.keep hB, below_via h.below hB⟩
theorem own_up {w : World} {base base' : Nat} {e : TypeId} {size : Nat} {v : Value} {n : Nat} {xs : List Value} (h : w.ownsRow base e size v n xs) (hb : base' ≤ base) : w.ownsRow base' e size v n xs := h.mono hb

theorem read_end {s : ByteArray} {w wr : World} {q : Option Addr} {cp k at0 : Nat} (h : ReadSt s w wr (.slice q k cp) k at0) (hk : k ≤ 600) (ha : at0 = s.size) (hr : runOkB (recsK s k) = true) :
    MadeRsB (readW s) (readK s) w (.returned (.tuple #[.slice q k cp, .bool true])) wr := by
  obtain ⟨h1, h2⟩ := read_some (read_yes (by rw [h.pos, ha]) hk hr)
  rw [h1, h2]
  have ho : wr.ownsRow w.heap.size 33 2 (.slice q (recsK s k).length cp) (recsK s k).length (cellsL (recsK s k)) := by
    rw [recsK_len]; exact own_up h.own (Nat.le_succ _)
  exact ⟨q, cp, by rw [recsK_len], rs_of_own ho, h.below⟩

theorem recs_own {s : ByteArray} {base : Nat} {w : World} {q : Option Addr} {cp k : Nat} (h : w.ownsRow base 33 2 (.slice q k cp) k (cellsL (recsK s k))) (hk : k ≤ 1048576) (hs : s.size ≤ 1048576) : RecsAt w q k (recsK s k) := by
  have ho : w.ownsRow base 33 2 (.slice q (recsK s k).length cp) (recsK s k).length (cellsL (recsK s k)) := by rw [recsK_len]; exact h
  refine recs_of_rs (rs_of_own ho) (recsK_len s k) (by unfold maxLen; omega) fun i hi => ?_
  have := recsK_keys s k i hi
  unfold maxLen; omega

set_option maxHeartbeats 4000000 in
theorem readrun_any (s : ByteArray) (w : World) (hs : s.size ≤ 1048576) :
    Calls Try.prog 31 #[.string s] w (MadeRsB (readW s) (readK s) w) := by
  obtain ⟨i0, hi, hz0, hz1, hz2⟩ := info_parts infoRec
  have H0 := Lib.hid (show ReadSt s w (w.alloc (.cells #[.string s, .int .i64 0] 83)) (.slice none 0 0) 0 0 from ⟨rfl, World.ownsRow_nil _ _ _ _, Row.new w 83 #[.string s, .int .i64 0], below_alloc (Below.refl _ _) _⟩)
  go_enter Try.func31, Try.ntmps31
  go_wp2
  go_loopw [4] (fun v wr => ∃ (k at0 : Nat) (q : Option Addr) (cp : Nat), v = .slice q k cp ∧ k ≤ 600 ∧ at0 ≤ s.size ∧ Hid (ReadSt s w wr v k at0)) (fun v _ => 601 - sliceN v)
  case atStart => exact ⟨0, 0, _, _, rfl, by omega, Nat.zero_le _, H0.out⟩
  case round =>
    obtain ⟨k, at0, q, cp, rfl, hk, ha, HS⟩ := hrel
    clear H0
    by_cases hlt : at0 < s.size
    · have hd : decide ((at0 : Int) < (s.size : Int)) = true := by simp; omega
      go_wp2_with fail
      refine (more_any s at0 _ _ _ HS.out.rdr).mono ?_
      rw [hd]
      rintro e w1 ⟨rfl, hB⟩
      have HS := Lib.hid (HS.out.keep hB)
      clear hB hd
      go_wp2_with fail
      by_cases hfit : keyEnd s at0 + 8 ≤ s.size
      · refine (take_yes s at0 _ _ _ HS.out.rdr hs hlt hfit).mono ?_
        rintro e w2 ⟨rfl, hrow, hg⟩
        have hpos := posK_step HS.out.pos (fits_yes hlt hfit)
        have hown := HS.out.own.kept hg (by
          by_cases hv : (Value.slice q k cp).ownBlock = none
          · exact .inl hv
          · refine .inr fun he => ?_
            have := (HS.out.own.lt _ he).1
            omega)
        have HO := Lib.hid hown
        have HRW := Lib.hid hrow
        have HP := Lib.hid hpos
        have HB := Lib.hid (HS.out.below.grown hg HS.out.below.size (fun j hj => by cases hj; exact Nat.le_refl _))
        have HRS := Lib.hid (recsK_step HS.out.pos)
        generalize recAt s at0 = r at HRS
        obtain ⟨key, num⟩ := r
        generalize hz : keyEnd s at0 + 8 = z at HRW HP
        have hzs : z ≤ s.size := by omega
        clear hrow hg hpos hown hz hfit
        by_cases h600 : k = 600
        · have hd6 : (((k : Nat) : Int) == 600) = true := by simp; omega
          have HQ := Lib.hid (maders_none (read_many HS.out.pos hlt (by omega)) HB.out)
          have HQ := fun w2 (h : Below w.heap.size w w2) => maders_none (w' := w2) (read_many HS.out.pos hlt (by omega)) h
          have HQ := Lib.hid HQ
          clear h600
          go_wp2
          go_ret2
          exact HQ.out _ (by first | exact HB.out | exact below_alloc HB.out _)
        · have hd6 : (((k : Nat) : Int) == 600) = false := by simp; omega
          go_wp2_with (at_builtin; (refine wpList_append_own _ rfl _ _ 39 rfl (w.heap.size + 1) 33 i0 _ 2 24 Try.underlying39 hi hz0 hz1 hz2 rfl (by decide) _ _ _ rfl ((HO.out.alloc _).alloc _) ⟨w2.heap.size + 1, 0, none⟩ 1 1 [.string key, .int .i64 num] rfl rfl (two_new1 _ _ _ _ _) (two_cells _ _) (by unfold maxLen; omega) (by omega) (Nat.le_trans (Nat.succ_le_of_lt HRW.out.lt) (below_alloc (below_alloc (Below.refl _ _) _) _).size) ?_); intro v' w3 hown1 hgrow hnil; have HO1 := Lib.hid hown1; have HG := Lib.hid hgrow; clear hown1 hgrow hnil)
          obtain ⟨q1, cp1, rfl⟩ := own_form HO1.out
          go_roundw
          case rel =>
            have hnb : (Value.slice q k cp).ownBlock ≠ some w.heap.size := fun he => by
              have := (HO.out.lt _ he).1
              omega
            have hr3 : Row w3 w.heap.size 83 #[.string s, .int .i64 z] := ((HRW.out.alloc _).alloc _).grown HG.out hnb
            have hb : Below w.heap.size w w3 := (below_alloc (below_alloc HB.out _) _).grown HG.out (below_alloc (below_alloc HB.out _) _).size (fun j hj => Nat.le_of_succ_le (HO.out.lt j hj).1)
            have ho := HO1.out
            rw [← cellsL_snoc, ← HRS.out] at ho
            exact ⟨k + 1, z, q1, cp1, rfl, by omega, hzs, HP.out, ho, hr3, hb⟩
          case measure => simp [sliceN]; omega
      · refine (take_no s at0 _ _ _ HS.out.rdr hs hlt hfit).mono ?_
        rintro e w2 ⟨rfl, hB⟩
        have HQ := Lib.hid (maders_none (read_unfit HS.out.pos hlt (fits_no hfit)) (below_alloc (below_via HS.out.below hB) (.cells #[.string ByteArray.empty, .int .i64 0] 33)))
        clear hB hfit
        go_wp2
        go_ret2
        exact HQ.out
    · have hd : decide ((at0 : Int) < (s.size : Int)) = false := by simp; omega
      go_wp2_with fail
      refine (more_any s at0 _ _ _ HS.out.rdr).mono ?_
      rw [hd]
      rintro e w1 ⟨rfl, hB⟩
      have HS := Lib.hid (HS.out.keep hB)
      have hae : at0 = s.size := by omega
      clear hB hd
      go_wp2_with fail
      cases hr : runOkB (recsK s k) with
      | false =>
        have HR := Lib.hid hr
        have HQ := fun w2 (h : Below w.heap.size w w2) => maders_none (w' := w2) (read_bad (by rw [HS.out.pos, hae]) hr) h
        have HQ := Lib.hid HQ
        clear hr hae
        refine (runok_any _ _ _ _ _ (recs_own HS.out.own (by omega) hs)).mono ?_
        rw [HR.out]
        rintro e w2 ⟨rfl, hB⟩
        have HB := Lib.hid (below_via HS.out.below hB)
        clear hB
        go_wp2
        go_ret2
        exact HQ.out _ HB.out
      | true =>
        have HR := Lib.hid hr
        have HA := Lib.hid hae
        clear hr hae
        refine (runok_any _ _ _ _ _ (recs_own HS.out.own (by omega) hs)).mono ?_
        rw [HR.out]
        rintro e w2 ⟨rfl, hB⟩
        have HQ := Lib.hid (read_end (HS.out.keep hB) hk HA.out HR.out)
        clear hB
        go_wp2
        go_ret2
        exact HQ.out
end Go.Proofs.Ytonipfhigkkhnaa
