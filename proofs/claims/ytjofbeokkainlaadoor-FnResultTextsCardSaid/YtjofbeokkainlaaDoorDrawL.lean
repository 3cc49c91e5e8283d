
/- Drawn lines and texts of lines: at most 12 texts of at most 400 bytes each; only the reader's position and new blocks change. -/
import Derived.Test.YtjofbeokkainlaaDoorMg13
import Derived.Test.YtjofbeokkainlaaDoorMg3
import Derived.Test.YtjofbeokkainlaaDoorMg32
import Derived.Test.YtjofbeokkainlaaDoorMg2
namespace Go.Proofs.YtjofbeokkainlaaDoor
open Go.ChangeShapes Go.WideShapes Go.ChangeAt Go.RowKit
set_option linter.unusedVariables false
set_option maxRecDepth 100000

theorem strs_of_own {w : World} {base n : Nat} {q : Option Addr} {cp : Nat} {W : Strs} (h : w.ownsRow base 9 1 (.slice q n cp) n (W.map Value.string)) (hn : W.length = n) (hm : n ≤ maxLen) (hs : ∀ x ∈ W, x.size ≤ maxLen) : StrsAt w q n W := by
  refine ⟨hn, hm, fun i hi => ?_, ?_⟩
  · unfold strAt
    rw [List.getD_eq_getElem?_getD, List.getElem?_eq_getElem (by omega)]
    exact hs _ (List.getElem_mem _)
  · by_cases h0 : n = 0
    · exact .inl h0
    · rcases h.2 with ⟨h1, h2⟩ | ⟨g, cap, cur, hv, _, hh, _⟩
      · simp only [Value.slice.injEq] at h1; omega
      · simp only [Value.slice.injEq, true_and] at hv
        obtain ⟨rfl, rfl⟩ := hv
        refine .inr ⟨g, 0, rfl, lt_of_block hh, fun i hi => ?_⟩
        have hiW : i < W.length := by omega
        rw [Nat.zero_add, h.cellAt i (by omega)]
        unfold strAt
        rw [List.getD_eq_getElem?_getD]
        simp [hiW]

structure DrawnL (w wr : World) (r : Nat) (a : Option Addr) (len cap : Nat) (v : Value) (W : Strs) : Prop where
  own : wr.ownsRow w.heap.size 9 1 v W.length (W.map Value.string)
  went : Went w r a len cap wr
  short : ∀ x ∈ W, x.size ≤ 400

theorem DrawnL.trans {w wr w1 : World} {r : Nat} {a : Option Addr} {len cap : Nat} {v : Value} {W : Strs} (h : DrawnL w wr r a len cap v W) (hr : r < w.heap.size) (hw : Went wr r a len cap w1) : DrawnL w w1 r a len cap v W :=
  ⟨own_went h.own hw hr, h.went.trans hw, h.short⟩
theorem DrawnL.add {w wr w1 : World} {r : Nat} {a : Option Addr} {len cap : Nat} {v v' : Value} {W : Strs} {s : ByteArray} {o : Obj} (h : DrawnL w wr r a len cap v W) (hr : r < w.heap.size) (hs : s.size ≤ 400)
    (hown : w1.ownsRow w.heap.size 9 1 v' (W.length + 1) (W.map Value.string ++ [.string s])) (hg : (wr.alloc o).grownBy w1 v.ownBlock) : DrawnL w w1 r a len cap v' (W ++ [s]) :=
  ⟨by simpa using hown, (h.went.alloc o).more hg hr (fun k hk => (h.own.lt k hk).1), fun x hx => by
    rcases List.mem_append.1 hx with hx | hx
    · exact h.short x hx
    · simp at hx; subst hx; exact hs⟩

def sliceLen : Value → Nat | .slice _ n _ => n | _ => 0
/-- The end of a method that draws at most n texts of at most 400 bytes. -/
def RdLines (n : Nat) (w : World) (r : Nat) (a : Option Addr) (len cap : Nat) (e : Ending) (w' : World) : Prop :=
  ∃ (q : Option Addr) (cp : Nat) (W : Strs), e = .returned (.slice q W.length cp) ∧ W.length ≤ n ∧ DrawnL w w' r a len cap (.slice q W.length cp) W

set_option maxHeartbeats 4000000 in
theorem linesofd_any (w : World) (r : Nat) (a : Option Addr) (len cap : Nat) (h : Rdr w r a len cap) :
    Calls Tryd.prog 21 #[.pointer (some ⟨r, 0, none⟩)] w (RdLines 12 w r a len cap) := by
  obtain ⟨i0, hi, hz0, hz1, hz2⟩ := info_parts infoStr
  have HRL := Lib.hid h.lt
  have hlm := h.max
  unfold maxLen at hlm
  have H0 := Lib.hid (show DrawnL w (w.alloc (.cells #[] 9)) r a len cap (.slice (some ⟨w.heap.size, 0, none⟩) 0 0) [] from ⟨World.ownsRow_lit w #[] 0 (Nat.le_refl _) (Nat.zero_le _) rfl, (Went.refl h).alloc _, by simp⟩)
  clear h
  go_enter Tryd.func21, Tryd.ntmps21
  go_wp2_with fail
  refine (below_any _ _ _ _ _ _ H0.out.went.rdr (by decide) (by decide)).mono ?_
  rintro e w1 ⟨⟨x, hx1, hx2, rfl⟩, hw⟩
  have HD := Lib.hid (H0.out.trans HRL.out hw)
  clear hw H0
  go_wp2_with fail
  go_loopw [3, 4] (fun v i wr => ∃ (k : Nat) (q : Option Addr) (cp : Nat) (W : Strs), i = .int .i64 k ∧ v = .slice q W.length cp ∧ W.length + k ≤ 4 ∧ Hid (DrawnL w wr r a len cap v W)) (fun _ i _ => (intOf i).toNat)
  case atStart => exact ⟨x.toNat, _, _, [], by rw [Int.toNat_of_nonneg hx1], rfl, by simp; omega, HD.out⟩
  case round =>
    obtain ⟨k, q, cp, W, rfl, rfl, hk4, HS⟩ := hrel
    clear HD
    obtain ⟨wl, hwl⟩ : ∃ wl, W.length = wl := ⟨_, rfl⟩
    rw [hwl] at HS hk4 ⊢
    have HWL := Lib.hid hwl
    clear hwl
    by_cases hk : 0 < k
    · go_wp2_with fail
      refine (lineof_any _ _ _ _ _ HS.out.went.rdr).mono ?_
      rintro e w2 ⟨⟨u, hu, rfl⟩, hw⟩
      have HS2 := Lib.hid (HS.out.trans HRL.out hw)
      have HU := Lib.hid hu
      have HO := Lib.hid (by have := HS2.out.own; rw [HWL.out] at this; exact this)
      clear hw hu HS
      obtain ⟨m, rfl⟩ : ∃ m, k = m + 1 := ⟨k - 1, by omega⟩
      go_wp2_with (at_builtin; (refine wpList_append_own _ rfl _ _ 36 rfl w.heap.size 9 i0 _ 1 16 Tryd.underlying36 hi hz0 hz1 hz2 rfl (by decide) _ _ _ rfl (HO.out.alloc _) ⟨w2.heap.size, 0, none⟩ 1 1 [.string u] rfl rfl (one_new _ _ _) (fun u hu => by simp at hu; subst hu; rfl) (by unfold maxLen; omega) (by omega) (Nat.le_trans HS2.out.went.size (by simp)) ?_); intro v' w3 hown1 hgrow hnil; have HO1 := Lib.hid hown1; have HG := Lib.hid hgrow; clear hown1 hgrow hnil)
      obtain ⟨q1, cp1, rfl⟩ := own_form HO1.out
      go_roundw
      case rel =>
        have ho := HO1.out
        rw [← HWL.out] at ho
        have hnew := HS2.out.add HRL.out HU.out ho HG.out
        rw [HWL.out] at hnew
        exact ⟨m, q1, cp1, W ++ [u], by go_num, by rw [← HWL.out]; simp, by rw [List.length_append, HWL.out]; simp; omega, hnew⟩
      case measure => simp [intOf]
    · obtain rfl : k = 0 := by omega
      have hw4 : wl ≤ 4 := by omega
      go_wp2_with fail
      refine (below_any _ _ _ _ _ _ HS.out.went.rdr (by decide) (by decide)).mono ?_
      rintro e w2 ⟨⟨y, hy1, hy2, rfl⟩, hw⟩
      have HS := Lib.hid (HS.out.trans HRL.out hw)
      have HO := Lib.hid (by have := HS.out.own; rw [HWL.out] at this; exact this)
      clear hw
      obtain ⟨j0, hj, hy0, hyy1, hyy2⟩ := info_parts infoByte
      go_wp2_with (at_builtin; (refine wpList_append_own _ rfl _ _ 36 rfl w.heap.size 9 i0 _ 1 16 Tryd.underlying36 hi hz0 hz1 hz2 rfl (by decide) _ _ _ rfl (HO.out.alloc _) ⟨w2.heap.size, 0, none⟩ 1 1 [.string ⟨#[97, 10, 98]⟩] rfl rfl (one_new _ _ _) (fun u hu => by simp at hu; subst hu; rfl) (by unfold maxLen; omega) (by omega) (Nat.le_trans HS.out.went.size (by simp)) ?_); intro v' w3 hown1 hgrow hnil; have HO1 := Lib.hid hown1; have HG := Lib.hid hgrow; clear hown1 hgrow hnil)
      · refine (below_any _ _ _ _ _ _ HS.out.went.rdr (by decide) (by decide)).mono ?_
        rintro e w3 ⟨⟨z, hz3, hz4, rfl⟩, hw⟩
        have HS := Lib.hid (HS.out.trans HRL.out hw)
        have HO := Lib.hid (by have := HS.out.own; rw [HWL.out] at this; exact this)
        clear hw
        obtain ⟨n, hn⟩ : ∃ n : Nat, 199 + z = (n : Int) := ⟨(199 + z).toNat, by omega⟩
        have hn49 : n ≤ 201 := by omega
        go_wp2_with (first
          | (at_make; (refine wpList_make_full _ rfl _ _ 22 rfl w3.heap.size 5 j0 _ 1 Tryd.underlying22 hj hy0 hyy1 .i64 .i64 _ _ n rfl rfl rfl rfl (by rw [hyy2]; omega) (by unfold maxLen; omega) (Nat.le_refl _) ?_); intro w4 hown hgrow; have hzt := zeros_text hown; have hzs : (strOfNums (List.replicate n 0)).size ≤ 201 := (by simp [strOfNums, ByteArray.size]; omega); have HS4 := Lib.hid (DrawnL.mk (HS.out.own.kept hgrow (by by_cases hv : (Value.slice q wl cp).ownBlock = none; exact .inl hv; exact .inr hv)) (HS.out.went.more hgrow HRL.out (fun k hk => by cases hk)) HS.out.short : DrawnL w w4 r a len cap (.slice q wl cp) W); have HO4 := Lib.hid (show w4.ownsRow w.heap.size 9 1 (.slice q wl cp) wl (W.map Value.string) from HWL.out ▸ HS4.out.own); clear hown hgrow)
          | (at_builtin; (refine wpList_append_own _ rfl _ _ 36 rfl w.heap.size 9 i0 _ 1 16 Tryd.underlying36 hi hz0 hz1 hz2 rfl (by decide) _ _ _ rfl (HO4.out.alloc _) ⟨w4.heap.size, 0, none⟩ 1 1 [.string (strOfNums (List.replicate n 0))] rfl rfl (one_new _ _ _) (fun u hu => by simp at hu; subst hu; rfl) (by unfold maxLen; omega) (by omega) (Nat.le_trans HS4.out.went.size (by simp)) ?_); intro v' w5 hown1 hgrow hnil; have HO1 := Lib.hid hown1; have HG := Lib.hid hgrow; clear hown1 hgrow hnil))
        obtain ⟨q1, cp1, rfl⟩ := own_form HO1.out
        have ho := HO1.out
        rw [← HWL.out] at ho
        have hnew := HS4.out.add HRL.out (by omega) ho HG.out
        have HNEW := Lib.hid hnew
        clear ho hnew
        go_ret
        exact ⟨q1, cp1, W ++ [strOfNums (List.replicate n 0)], by rw [List.length_append, HWL.out]; rfl, by rw [List.length_append, HWL.out]; simp; omega, by have := HNEW.out; rw [List.length_append, HWL.out]; rw [HWL.out] at this; exact this⟩
      · obtain ⟨q1, cp1, rfl⟩ := own_form HO1.out
        have ho := HO1.out
        rw [← HWL.out] at ho
        have hnew := HS.out.add HRL.out (by decide) ho HG.out
        have HNEW := Lib.hid hnew
        clear ho hnew
        go_ret
        exact ⟨q1, cp1, W ++ [⟨#[97, 10, 98]⟩], by rw [List.length_append, HWL.out]; rfl, by rw [List.length_append, HWL.out]; simp; omega, by have := HNEW.out; rw [List.length_append, HWL.out]; rw [HWL.out] at this; exact this⟩
      · have hy2 : y = 2 := by have : (y == 2) = true := by assumption
                               simpa using this
        subst hy2
        go_loopw [3] (fun v wr => ∃ (q : Option Addr) (cp : Nat) (W : Strs), v = .slice q W.length cp ∧ W.length ≤ 12 ∧ Hid (DrawnL w wr r a len cap v W)) (fun v _ => 12 - sliceLen v)
        case atStart => exact ⟨q, cp, W, by rw [HWL.out], by rw [HWL.out]; omega, HS.out⟩
        case round =>
          obtain ⟨q, cp, W, rfl, hW12, HS⟩ := hrel
          obtain ⟨wl, hwl⟩ : ∃ wl, W.length = wl := ⟨_, rfl⟩
          rw [hwl] at HS hW12 ⊢
          have HWL := Lib.hid hwl
          clear hwl
          have hcode := HS.out.went.rdr.code
          have HO := Lib.hid (by have := HS.out.own; rw [HWL.out] at this; exact this)
          by_cases hlt : (wl : Int) < 9 + (len : Int) % 3
          · have hlt12 : wl < 12 := by omega
            go_wp2_with (at_builtin; (refine wpList_append_own _ rfl _ _ 36 rfl w.heap.size 9 i0 _ 1 16 Tryd.underlying36 hi hz0 hz1 hz2 rfl (by decide) _ _ _ rfl (HO.out.alloc _) ⟨_, 0, none⟩ 1 1 [.string ⟨#[120]⟩] rfl rfl (one_new _ _ _) (fun u hu => by simp at hu; subst hu; rfl) (by unfold maxLen; omega) (by omega) (Nat.le_trans HS.out.went.size (by simp)) ?_); intro v' w3 hown1 hgrow hnil; have HO1 := Lib.hid hown1; have HG := Lib.hid hgrow; clear hown1 hgrow hnil)
            obtain ⟨q1, cp1, rfl⟩ := own_form HO1.out
            go_roundw
            case rel =>
              have ho := HO1.out
              rw [← HWL.out] at ho
              have hnew := HS.out.add HRL.out (by decide) ho HG.out
              rw [HWL.out] at hnew
              (repeat apply Exists.intro)
              refine ⟨?_, rfl⟩
              exact ⟨q1, cp1, W ++ [(⟨#[120]⟩ : ByteArray)], by rw [← HWL.out]; simp, by rw [List.length_append, HWL.out]; simp; omega, Lib.hid hnew⟩
            case measure => simp [sliceLen]; omega
          · go_wp2
            go_ret
            exact ⟨q, cp, W, by rw [HWL.out]; rfl, by rw [HWL.out]; exact hW12, by rw [HWL.out]; exact HS.out⟩
      · go_ret
        exact ⟨q, cp, W, by rw [HWL.out]; rfl, by rw [HWL.out]; omega, by rw [HWL.out]; exact HS.out⟩

/-- What is drawn: at most 12 texts of at most 400 bytes. -/
def DrewLines (w : World) (e : Ending) (w' : World) : Prop := ∃ (q : Option Addr) (cp : Nat) (W : Strs), e = .returned (.slice q W.length cp) ∧ W.length ≤ 12 ∧ (∀ x ∈ W, x.size ≤ 400) ∧ StrsAt w' q W.length W ∧ Below w.heap.size w w'

theorem DrawnL.strs {w wr : World} {r : Nat} {a : Option Addr} {len cap : Nat} {q : Option Addr} {cp : Nat} {W : Strs} (h : DrawnL w wr r a len cap (.slice q W.length cp) W) (h12 : W.length ≤ 12) : StrsAt wr q W.length W :=
  strs_of_own h.own rfl (by unfold maxLen; omega) (fun x hx => by have := h.short x hx; unfold maxLen; omega)

theorem linesTx_size {l : Strs} (h : l.length ≤ 12) (hs : ∀ x ∈ l, x.size ≤ 400) : (linesTx l).size ≤ 4812 := by
  unfold linesTx textTo
  rw [List.take_length]
  have := joinN_len (bytesOf l) 400 (fun x hx => by
    obtain ⟨s, hs', rfl⟩ := List.mem_map.1 hx
    simpa using hs s hs')
  have hl : (bytesOf l).length = l.length := by simp [bytesOf]
  show (joinN (bytesOf l)).length ≤ 4812
  rw [hl] at this
  omega

end Go.Proofs.YtjofbeokkainlaaDoor
