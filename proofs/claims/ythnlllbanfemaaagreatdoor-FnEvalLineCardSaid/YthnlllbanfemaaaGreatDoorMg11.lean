/- Texts put together, as a claim holds at most sixty files. -/
import Derived.Test.YthnlllbanfemaaaGreatDoorMg10
import Derived.Test.YthnlllbanfemaaaGreatDoorMg8
import Derived.Test.YthnlllbanfemaaaGreatDoorMg7
import Derived.Test.YthnlllbanfemaaaGreatDoorMg0
namespace Go.Proofs.YthnlllbanfemaaaGreatDoor
open Go.ChangeShapes Go.WideShapes Go.ChangeAt Go.RowKit
set_option linter.unusedVariables false
set_option maxRecDepth 100000

structure DrawnE (w wr : World) (r : Nat) (a : Option Addr) (len cap : Nat) (pv : Value) (pn : Nat) (W : Instrs) (sv : Value) (sn : Nat) (M : Strs) : Prop where
  d : DrawnI w wr r a len cap pv pn W
  own : wr.ownsRow w.heap.size 9 1 sv sn (M.map Value.string)
  size : M.length = sn
  short : ∀ x ∈ M, x.size ≤ 60
theorem DrawnE.trans {w wr w1 : World} {r : Nat} {a : Option Addr} {len cap : Nat} {pv : Value} {pn : Nat} {W : Instrs} {sv : Value} {sn : Nat} {M : Strs} (h : DrawnE w wr r a len cap pv pn W sv sn M) (hr : r < w.heap.size) (hw : Went wr r a len cap w1) : DrawnE w w1 r a len cap pv pn W sv sn M :=
  ⟨h.d.trans hr hw, own_went h.own hw hr, h.size, h.short⟩
theorem below_went {w w1 : World} {r : Nat} {a : Option Addr} {len cap : Nat} (h : Rdr w r a len cap) (hB : Below w.heap.size w w1) : Went w r a len cap w1 := by
  have := (Went.refl h)
  exact ⟨⟨hB.os, hB.tape, hB.output, hB.size, fun k hk _ => hB.block k hk⟩, h.below (hB.mono (by have := h.lt; omega))⟩
theorem DrawnE.below {w wr w1 : World} {r : Nat} {a : Option Addr} {len cap : Nat} {pv : Value} {pn : Nat} {W : Instrs} {sv : Value} {sn : Nat} {M : Strs} (h : DrawnE w wr r a len cap pv pn W sv sn M) (hr : r < w.heap.size) (hB : Below wr.heap.size wr w1) : DrawnE w w1 r a len cap pv pn W sv sn M :=
  h.trans hr (below_went h.d.went.rdr hB)
theorem DrawnE.add {w wr w1 : World} {r : Nat} {a : Option Addr} {len cap : Nat} {pv : Value} {pn : Nat} {W : Instrs} {sv sv' : Value} {sn : Nat} {M : Strs} {T : ByteArray} {o : Obj} (h : DrawnE w wr r a len cap pv pn W sv sn M) (hr : r < w.heap.size) (hT : T.size ≤ 60)
    (hown : w1.ownsRow w.heap.size 9 1 sv' (sn + 1) (M.map Value.string ++ [.string T])) (hg : (wr.alloc o).grownBy w1 sv.ownBlock) : DrawnE w w1 r a len cap pv pn W sv' (sn + 1) (M ++ [T]) := by
  have hrow : ∀ k, sv.ownBlock = some k → w.heap.size ≤ k := fun k hk => (h.own.lt k hk).1
  have h1 := own_below h.d.own (below_alloc (Below.refl _ _) o)
  have h2 := own_below h.own (below_alloc (Below.refl _ _) o)
  refine ⟨⟨ot_own_grown h1 hg (ot_own_apartT h1 h2 (by decide)), h.d.size, went_row (h.d.went.alloc o) hg hr hrow, h.d.fine⟩, by simpa using hown, by rw [List.length_append, h.size]; rfl, fun x hx => ?_⟩
  rcases List.mem_append.1 hx with e | e
  · exact h.short x e
  · simp only [List.mem_singleton] at e
    rw [e]; exact hT
theorem DrawnE.fresh {w wr w1 : World} {r : Nat} {a : Option Addr} {len cap : Nat} {pv : Value} {pn : Nat} {W : Instrs} (h : DrawnI w wr r a len cap pv pn W) (hr : r < w.heap.size) {g n : Nat} (hB : Below wr.heap.size wr w1) (hown : w1.ownsRow wr.heap.size 9 1 (.slice (some ⟨g, 0, none⟩) n n) n ((List.replicate n ByteArray.empty).map Value.string)) : DrawnE w w1 r a len cap pv pn W (.slice (some ⟨g, 0, none⟩) n n) n (List.replicate n ByteArray.empty) := by
  refine ⟨h.trans hr (below_went h.went.rdr hB), ?_, List.length_replicate, fun x hx => by rw [List.eq_of_mem_replicate hx]; exact Nat.zero_le _⟩
  refine ⟨hown.1, ?_⟩
  rcases hown.2 with h1 | ⟨g', cap', cur, h1, h2, h3⟩
  · exact .inl h1
  · exact .inr ⟨g', cap', cur, h1, Nat.le_trans h.went.size h2, h3⟩
theorem made_strsE (n : Nat) : (madeCells (Value.string ByteArray.empty).cells (n * 1)).toList = (List.replicate n ByteArray.empty).map Value.string := by
  refine List.ext_getElem? fun i => ?_
  by_cases hi : i < n
  · simp [madeCells, Value.cells, hi, Nat.mod_one]
  · rw [List.getElem?_eq_none (by simp [madeCells]; omega), List.getElem?_eq_none (by simp; omega)]
theorem strs_of_ownE {w : World} {base n : Nat} {q : Option Addr} {cp : Nat} {W : Strs} (h : w.ownsRow base 9 1 (.slice q n cp) n (W.map Value.string)) (hn : W.length = n) (hm : n ≤ maxLen) (hs : ∀ x ∈ W, x.size ≤ maxLen) : StrsAt w q n W := by
  refine ⟨hn, hm, fun i hi => ?_, ?_⟩
  · unfold strAt
    rw [List.getD_eq_getElem?_getD, List.getElem?_eq_getElem (by omega)]
    exact hs _ (List.getElem_mem _)
  · by_cases h0 : n = 0
    · exact .inl h0
    · rcases h.2 with ⟨h1, h2⟩ | ⟨g, cap, cur, hv, _, hh, _⟩
      · simp only [Value.slice.injEq] at h1; omega
      · simp only [Value.slice.injEq, true_and] at hv
        obtain ⟨rfl, rfl⟩ := hv
        refine .inr ⟨g, 0, rfl, lt_of_block hh, fun i hi => ?_⟩
        have hiW : i < W.length := by omega
        rw [Nat.zero_add, h.cellAt i (by omega)]
        unfold strAt
        rw [List.getD_eq_getElem?_getD]
        simp [hiW]
/-- Drawn arguments of Eval. -/
def DrewEval (w : World) (e : Ending) (w' : World) : Prop := ∃ (q : Option Addr) (n cp : Nat) (W : Instrs) (sq : Option Addr) (sn sc : Nat) (M : Strs),
  e = .returned (.tuple #[.slice q n cp, .slice sq sn sc]) ∧ n ≤ 80 ∧ n ≤ cp ∧ cp ≤ maxLen ∧ (q = none → cp = 0) ∧ sn ≤ 25 ∧ sn ≤ sc ∧ sc ≤ maxLen ∧ (sq = none → sc = 0) ∧ (∀ x ∈ M, x.size ≤ 60) ∧ FineI W ∧ InstrsAt w' q n W ∧ (∀ i, i < n → In64 (ins1 W i)) ∧ StrsAt w' sq sn M ∧ Below w.heap.size w w'
theorem ot_caps {w : World} {base n c : Nat} {q : Option Addr} {e : TypeId} {size : Nat} {xs : List Value} (h : w.ownsRow base e size (.slice q n c) n xs) : (q = none → c = 0) ∧ n ≤ c ∧ c ≤ maxLen := by
  rcases h.2 with ⟨h1, h2⟩ | ⟨g, cap, cur, hv, _, _, h3, h4, _⟩
  · simp only [Value.slice.injEq] at h1; exact ⟨fun _ => h1.2.2, by omega, by unfold maxLen; omega⟩
  · simp only [Value.slice.injEq] at hv
    obtain ⟨rfl, _, rfl⟩ := hv
    exact ⟨(fun h => by cases h), h3, h4⟩
theorem DrawnE.out {w0 w wr : World} {r : Nat} {a : Option Addr} {len cap : Nat} {q : Option Addr} {n cp : Nat} {W : Instrs} {sq : Option Addr} {sn sc : Nat} {M : Strs} (h : DrawnE w wr r a len cap (.slice q n cp) n W (.slice sq sn sc) sn M) (hn : n ≤ 80) (hs : sn ≤ 25) (hB : Below w0.heap.size w0 w) (hr : w0.heap.size = r) : DrewEval w0 (.returned (.tuple #[.slice q n cp, .slice sq sn sc])) wr := by
  have h1 := ot_caps h.d.own
  have h2 := ot_caps h.own
  refine ⟨q, n, cp, W, sq, sn, sc, M, rfl, hn, h1.2.1, h1.2.2, h1.1, hs, h2.2.1, h2.2.2, h2.1, h.short, h.d.fine, ?_, fun i hi => (fine_at h.d.fine (by rw [h.d.size]; exact hi)).1, strs_of_ownE h.own h.size (by unfold maxLen; omega) (fun x hx => by have := h.short x hx; unfold maxLen; omega), h.d.went.under hB (by rw [hr]; exact Nat.le_refl _) hB.size⟩
  exact own_inss h.d.own h.d.size (by unfold maxLen; omega) (fun i hi => by have := (fine_at h.d.fine (k := i) (by rw [h.d.size]; exact hi)).2; unfold maxLen; omega)

set_option maxHeartbeats 8000000 in
theorem draweval_any (w : World) (a : Option Addr) (len cap : Nat) (h : Src w a len) : Calls Tryz.prog 27 #[.slice a len cap] w (DrewEval w) := by
  obtain ⟨i0, hi, hz0, hz1, hz2⟩ := info_parts infoStr
  obtain ⟨j0, hj, hy0, hyy1, hyy2⟩ := info_parts infoByte
  have H := Lib.hid h
  clear h
  go_enter Tryz.func27, Tryz.ntmps27
  go_wp2_with fail
  refine (open_any _ _ _ _ H.out).mono ?_
  rintro e w1 ⟨rfl, hb, hr⟩
  have HB := Lib.hid hb
  have HR := Lib.hid hr
  have HLT := Lib.hid hr.lt
  obtain ⟨r, hre⟩ : ∃ r, w.heap.size = r := ⟨_, rfl⟩
  rw [hre] at HR HLT ⊢
  have HRE := Lib.hid hre
  clear hb hr hre
  go_wp2_with fail
  refine (rprog_any _ _ _ _ _ HR.out).mono ?_
  rintro e w2 ⟨q, n, cp, W, rfl, _, hn, hd⟩
  have HD := Lib.hid hd
  clear hd
  go_wp2_with fail
  refine (hurtprog_any w1 w2 r a len cap q n cp W HLT.out HD.out hn).mono ?_
  rintro e w3 ⟨q, n, cp, W, rfl, hn, hd⟩
  have HD := Lib.hid hd.d
  have HW3 := Lib.hid hd.d.went.size
  have HE0 := Lib.hid (show DrawnE w1 (w3.alloc (.cells #[] 9)) r a len cap (.slice q n cp) n W (.slice (some ⟨w3.heap.size, 0, none⟩) 0 0) 0 [] from ⟨hd.d.alloc _, World.ownsRow_lit w3 #[] 0 hd.d.went.size (Nat.zero_le _) rfl, rfl, by simp⟩)
  clear hd
  go_wp2_with fail
  refine (below_any _ _ _ _ _ _ HE0.out.d.went.rdr (by decide) (by decide)).mono ?_
  rintro e w4 ⟨⟨x, hx1, hx2, rfl⟩, hw⟩
  have HE := Lib.hid (HE0.out.trans HLT.out hw)
  clear hw HE0 HD
  go_wp2_with fail
  go_loopw [6, 7] (fun v i wr => ∃ (k sn : Nat) (sq : Option Addr) (sc : Nat) (M : Strs), i = .int .i64 k ∧ v = .slice sq sn sc ∧ sn + k ≤ 4 ∧ Hid (DrawnE w1 wr r a len cap (.slice q n cp) n W (.slice sq sn sc) sn M)) (fun _ i _ => (intOf i).toNat)
  case atStart => exact ⟨x.toNat, 0, _, _, [], by rw [Int.toNat_of_nonneg hx1], rfl, by omega, HE⟩
  case round =>
    clear HE
    obtain ⟨k, sn, sq, sc, M, rfl, rfl, hk4, HS⟩ := hrel
    by_cases hk : 0 < k
    · go_wp2_with fail
      refine (word1_any _ _ _ _ _ HS.out.d.went.rdr).mono ?_
      rintro e w5 ⟨⟨u, hu, rfl⟩, hw⟩
      have HS2 := Lib.hid (HS.out.trans HLT.out hw)
      have HU := Lib.hid hu
      clear hw hu HS
      obtain ⟨m, rfl⟩ : ∃ m, k = m + 1 := ⟨k - 1, by omega⟩
      go_wp2_with (at_builtin; (refine wpList_append_own _ rfl _ _ 23 rfl w1.heap.size 9 i0 _ 1 16 Tryz.underlying23 hi hz0 hz1 hz2 rfl (by decide) _ _ _ rfl (HS2.out.own.alloc _) ⟨w5.heap.size, 0, none⟩ 1 1 [.string u] rfl rfl (one_new _ _ _) (fun u hu => by simp at hu; subst hu; rfl) (by unfold maxLen; omega) (by omega) (Nat.le_trans HS2.out.d.went.size (by simp)) ?_); intro v' w6 hown1 hgrow hnil; obtain ⟨q1, cp1, rfl⟩ := own_form hown1; have HS6 := Lib.hid (HS2.out.add HLT.out (by have := HU.out; omega) hown1 hgrow); clear hown1 hgrow hnil)
      go_roundw
      case rel => exact ⟨m, sn + 1, q1, cp1, M ++ [u], by go_num, rfl, by omega, HS6⟩
      case measure => simp [intOf]
    · obtain rfl : k = 0 := by omega
      go_wp2_with fail
      refine (below_any _ _ _ _ _ _ HS.out.d.went.rdr (by decide) (by decide)).mono ?_
      rintro e w5 ⟨⟨y, hy1, hy2, rfl⟩, hw⟩
      have HS2 := Lib.hid (HS.out.trans HLT.out hw)
      clear hw HS
      by_cases e0 : y = 0
      · subst e0
        go_wp2_with fail
        refine (below_any _ _ _ _ _ _ HS2.out.d.went.rdr (by decide) (by decide)).mono ?_
        rintro e w6 ⟨⟨z, hz3, hz4, rfl⟩, hw⟩
        have HS := Lib.hid (HS2.out.trans HLT.out hw)
        clear hw HS2
        obtain ⟨m, hm⟩ : ∃ m : Nat, 39 + z = (m : Int) := ⟨(39 + z).toNat, by omega⟩
        have hm49 : m ≤ 41 := by omega
        go_wp2_with (first
          | (at_make; (refine wpList_make_full _ rfl _ _ 40 rfl w6.heap.size 5 j0 _ 1 Tryz.underlying40 hj hy0 hyy1 .i64 .i64 _ _ m rfl rfl rfl rfl (by rw [hyy2]; omega) (by unfold maxLen; omega) (Nat.le_refl _) ?_); intro w7 hown hgrow; have hzt := zeros_text hown; have hzs : (strOfNums (List.replicate m 0)).size ≤ 60 := (by simp [strOfNums, ByteArray.size]; omega); have HS7 := Lib.hid (HS.out.below HLT.out ((Below.refl w6.heap.size w6).grown hgrow (Nat.le_refl _) (fun k hk => by cases hk))); clear hown hgrow)
          | (at_builtin; (refine wpList_append_own _ rfl _ _ 23 rfl w1.heap.size 9 i0 _ 1 16 Tryz.underlying23 hi hz0 hz1 hz2 rfl (by decide) _ _ _ rfl (HS7.out.own.alloc _) ⟨w7.heap.size, 0, none⟩ 1 1 [.string (strOfNums (List.replicate m 0))] rfl rfl (one_new _ _ _) (fun u hu => by simp at hu; subst hu; rfl) (by unfold maxLen; omega) (by omega) (Nat.le_trans HS7.out.d.went.size (by simp)) ?_); intro v' w8 hown1 hgrow hnil; obtain ⟨q1, cp1, rfl⟩ := own_form hown1; have HS8 := Lib.hid (HS7.out.add HLT.out hzs hown1 hgrow); clear hown1 hgrow hnil))
        go_ret2
        exact HS8.out.out hn (by omega) HB.out HRE.out
      · have q0 : ((y : Int) == 0) = false := by rw [beq_eq_false_iff_ne]; exact e0
        by_cases e1 : y = 1
        · subst e1
          go_wp2_with fail
          refine (below_any _ _ _ _ _ _ HS2.out.d.went.rdr (by decide) (by decide)).mono ?_
          rintro e w6 ⟨⟨z, hz3, hz4, rfl⟩, hw⟩
          have HS := Lib.hid (HS2.out.trans HLT.out hw)
          clear hw HS2
          obtain ⟨m, hm⟩ : ∃ m : Nat, 20 + z = (m : Int) := ⟨(20 + z).toNat, by omega⟩
          have hm49 : m ≤ 21 := by omega
          go_wp2_with (at_make; (refine wpList_make_full _ rfl _ _ 23 rfl w6.heap.size 9 i0 _ 1 Tryz.underlying23 hi hz0 hz1 .i64 .i64 _ _ m rfl rfl rfl rfl (by rw [hz2]; omega) (by unfold maxLen; omega) (Nat.le_refl _) ?_); intro w7 hown hgrow; have HS7 := Lib.hid (DrawnE.fresh HS.out.d HLT.out ((Below.refl w6.heap.size w6).grown hgrow (Nat.le_refl _) (fun k hk => by cases hk)) (by rw [← made_strsE]; exact hown)); clear hown hgrow)
          go_ret2
          exact HS7.out.out hn (by omega) HB.out HRE.out
        · have q1 : ((y : Int) == 1) = false := by rw [beq_eq_false_iff_ne]; exact e1
          go_wp2
          go_ret2
          exact HS2.out.out hn (by omega) HB.out HRE.out
end Go.Proofs.YthnlllbanfemaaaGreatDoor
namespace Go.Proofs.YthnlllbanfemaaaGreatDoor
open Go.ChangeShapes Go.WideShapes Go.ChangeAt Go.RowKit
set_option linter.unusedVariables false
set_option maxRecDepth 100000

def DrewLine (w : World) (e : Ending) (w' : World) : Prop := ∃ (q : Option Addr) (n cp : Nat) (W : Instrs) (each : Bool) (s : ByteArray),
  e = .returned (.tuple #[.slice q n cp, .bool each, .string s]) ∧ n ≤ 80 ∧ n ≤ cp ∧ cp ≤ maxLen ∧ s.size ≤ 400 ∧ InstrsAt w' q n W ∧ (∀ i, i < n → In64 (ins1 W i)) ∧ Below w.heap.size w w'

theorem DrawnI.line {w0 w wr : World} {r : Nat} {a : Option Addr} {len cap : Nat} {q : Option Addr} {n cp : Nat} {W : Instrs} {each : Bool} {s : ByteArray} (h : DrawnI w wr r a len cap (.slice q n cp) n W) (hn : n ≤ 80) (hs : s.size ≤ 400) (hB : Below w0.heap.size w0 w) (hr : w0.heap.size = r) : DrewLine w0 (.returned (.tuple #[.slice q n cp, .bool each, .string s])) wr := by
  have h1 := ot_caps h.own
  refine ⟨q, n, cp, W, each, s, rfl, hn, h1.2.1, h1.2.2, hs, ?_, fun i hi => (fine_at h.fine (by rw [h.size]; exact hi)).1, h.went.under hB (by rw [hr]; exact Nat.le_refl _) hB.size⟩
  exact own_inss h.own h.size (by unfold maxLen; omega) (fun i hi => by have := (fine_at h.fine (k := i) (by rw [h.size]; exact hi)).2; unfold maxLen; omega)

set_option maxHeartbeats 8000000 in
theorem drawevalline_any (w : World) (a : Option Addr) (len cap : Nat) (h : Src w a len) : Calls Tryz.prog 31 #[.slice a len cap] w (DrewLine w) := by
  obtain ⟨j0, hj, hy0', hyy1, hyy2⟩ := info_parts infoByte
  have H := Lib.hid h
  clear h
  go_enter Tryz.func31, Tryz.ntmps31
  go_wp2_with fail
  refine (open_any _ _ _ _ H.out).mono ?_
  rintro e w1 ⟨rfl, hb, hr⟩
  have HB := Lib.hid hb
  have HR := Lib.hid hr
  have HLT := Lib.hid hr.lt
  obtain ⟨r, hre⟩ : ∃ r, w.heap.size = r := ⟨_, rfl⟩
  rw [hre] at HR HLT ⊢
  have HRE := Lib.hid hre
  clear hb hr hre
  go_wp2_with fail
  refine (rprog_any _ _ _ _ _ HR.out).mono ?_
  rintro e w2 ⟨q, n, cp, W, rfl, _, hn, hd⟩
  have HD := Lib.hid hd
  clear hd
  go_wp2_with fail
  refine (hurtprog_any w1 w2 r a len cap q n cp W HLT.out HD.out hn).mono ?_
  rintro e w3 ⟨q, n, cp, W, rfl, hn, hd⟩
  have HD := Lib.hid hd.d
  clear hd
  go_wp2_with fail
  refine (once_any _ _ _ _ _ _ HD.out.went.rdr (by decide) (by decide)).mono ?_
  rintro e w4 ⟨⟨b, rfl⟩, hw⟩
  have HD := Lib.hid (HD.out.trans HLT.out hw)
  clear hw
  cases b
  · go_wp2_with fail
    refine (once_any _ _ _ _ _ _ HD.out.went.rdr (by decide) (by decide)).mono ?_
    rintro e w5 ⟨⟨b, rfl⟩, hw⟩
    have HD := Lib.hid (HD.out.trans HLT.out hw)
    clear hw
    go_wp2_with fail
    refine (lineof_any _ _ _ _ _ HD.out.went.rdr).mono ?_
    rintro e w6 ⟨⟨s, hs, rfl⟩, hw⟩
    have HD := Lib.hid (HD.out.trans HLT.out hw)
    clear hw
    go_wp2
    go_ret3
    exact HD.out.line hn hs HB.out HRE.out
  · go_wp2_with fail
    go_region_with (first
      | (go_at_call 55; (with_reducible refine (once_any _ _ _ _ _ _ HD.out.went.rdr.drew (by decide) (by decide)).mono ?_); rintro e w5 ⟨⟨b, rfl⟩, hw⟩; have HD5 := Lib.hid (HD.out.trans HLT.out (((Went.refl HD.out.went.rdr).drewN 1).trans hw)); clear hw)
      | (go_at_call 50; (with_reducible refine (below_any _ _ _ _ _ _ HD5.out.went.rdr (by decide) (by decide)).mono ?_); rintro e w6 ⟨⟨y, hy0, hy3, rfl⟩, hw⟩; have HD6 := Lib.hid (HD5.out.trans HLT.out hw); have hy2 : y ≤ 2 := (by omega); clear hw hy3; obtain ⟨m, hm⟩ : ∃ m : Nat, 199 + y = (m : Int) := ⟨(199 + y).toNat, by omega⟩; have hm49 : m ≤ 201 := (by omega); have hwm : IntKind.i64.wrap (m : Int) = (m : Int) := IntWalk.i64_in _ (by omega); obtain ⟨w7, hmk, hown, hgrow⟩ := run_make_full (P := Tryz.prog) w6 w6.heap.size 40 5 j0 _ 1 Tryz.underlying40 hj hy0' hyy1 .i64 .i64 m (by rw [hyy2]; omega) (by unfold maxLen; omega) (Nat.le_refl _); have hzt := zeros_text hown; have hzs : (strOfNums (List.replicate m 0)).size ≤ 400 := (by simp [strOfNums, ByteArray.size]; omega); have HD7 := Lib.hid (HD6.out.trans HLT.out (below_went HD6.out.went.rdr ((Below.refl w6.heap.size w6).grown hgrow (Nat.le_refl _) (fun k hk => by cases hk)))); clear hown hgrow; rw [← hwm] at hmk; clear hwm))
    go_wp2
    go_ret3
    exact HD7.out.line hn hzs HB.out HRE.out
end Go.Proofs.YthnlllbanfemaaaGreatDoor
namespace Go.Proofs.YthnlllbanfemaaaGreatDoor
open Go.ChangeShapes Go.WideShapes Go.ChangeAt Go.RowKit
set_option linter.unusedVariables false
set_option maxRecDepth 100000

def combN (op a b : Int) : Int := if op = 1 ∨ op = 4 then wrap64 (a + b) else if op = 2 then (if b < a then b else a) else if op = 3 then (if a < b then b else a) else 0

def Same (x : Int) (w : World) (e : Ending) (w' : World) : Prop := e = .returned (.int .i64 x) ∧ w = w'
theorem comb_sum (op a b : Int) (h : op = 1 ∨ op = 4) : wrap64 (a + b) = combN op a b := by unfold combN; rw [if_pos h]
theorem comb_lo (a b : Int) (h : b < a) : b = combN 2 a b := by unfold combN; rw [if_neg (by decide), if_pos rfl, if_pos h]
theorem comb_lo' (a b : Int) (h : ¬ b < a) : a = combN 2 a b := by unfold combN; rw [if_neg (by decide), if_pos rfl, if_neg h]
theorem comb_hi (a b : Int) (h : a < b) : b = combN 3 a b := by unfold combN; rw [if_neg (by decide), if_neg (by decide), if_pos rfl, if_pos h]
theorem comb_hi' (a b : Int) (h : ¬ a < b) : a = combN 3 a b := by unfold combN; rw [if_neg (by decide), if_neg (by decide), if_pos rfl, if_neg h]
theorem comb_no (op a b : Int) (h1 : op ≠ 1) (h2 : op ≠ 2) (h3 : op ≠ 3) (h4 : op ≠ 4) : 0 = combN op a b := by
  unfold combN; rw [if_neg (by omega), if_neg h2, if_neg h3]
theorem same_of {x y : Int} {w : World} (h : x = y) : Same y w (.returned (.int .i64 x)) w := ⟨by rw [h], rfl⟩

end Go.Proofs.YthnlllbanfemaaaGreatDoor
