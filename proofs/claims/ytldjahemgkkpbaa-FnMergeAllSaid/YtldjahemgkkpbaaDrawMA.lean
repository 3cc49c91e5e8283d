
/- Drawn runs in a row of the call's own. -/
import Derived.Test.YtldjahemgkkpbaaDrawRN
import Derived.Test.YtldjahemgkkpbaaMergeA
import Derived.Test.YtldjahemgkkpbaaWentM
import Derived.Test.YtldjahemgkkpbaaOwn
import Derived.Deep.AppendLies
namespace Go.Proofs.Ytldjahemgkkpbaa
open Go.ChangeShapes Go.WideShapes Go.ChangeAt Go.RowKit
set_option linter.unusedVariables false
set_option maxRecDepth 100000

theorem infoRecL : (Try.prog.info? 24).map (fun i => (i.zero, i.size, i.bytes)) = some (some (.slice none 0 0), 1, 24) := by kernel_rfl

theorem recs_grown {w w1 : World} {a : Option Addr} {n : Nat} {l : Recs} {row : Option Nat} (h : RecsAt w a n l) (hg : w.grownBy w1 row) (hne : 0 < n → ∀ b off, a = some ⟨b, off, none⟩ → row ≠ some b) : RecsAt w1 a n l := by
  refine ⟨h.length, h.max, h.keys, ?_⟩
  rcases h.src with h0 | ⟨b, off, ha, hb, hc⟩
  · exact .inl h0
  · by_cases h0 : n = 0
    · exact .inl h0
    · have hn := hne (by omega) b off ha
      refine .inr ⟨b, off, ha, Nat.lt_of_lt_of_le hb hg.size, fun i hi => ?_⟩
      exact ⟨(hg.cell_far ⟨b, off + i * 2, none⟩ hb (Ne.symm hn)).trans (hc i hi).1, (hg.cell_far ⟨b, off + i * 2 + 1, none⟩ hb (Ne.symm hn)).trans (hc i hi).2⟩

/-- One drawn run: readable, its room known, in a block of its own, that is not the row's. -/
structure MR (B : Nat) (row : Option Nat) (w : World) (p : Option Addr) (m c : Nat) (V : Recs) : Prop where
  recs : RecsAt w p m V
  nil : p = none → m = 0 ∧ c = 0
  cap : m ≤ c ∧ c ≤ maxLen ∧ m ≤ 601
  apart : 0 < m → ∀ b off, p = some ⟨b, off, none⟩ → B ≤ b ∧ row ≠ some b
structure MA (w : World) (r : Nat) (a : Option Addr) (len cap : Nat) (q : Option Addr) (n cp : Nat) (XS : List Value) (LS : List Recs) (wr : World) : Prop where
  went : Went w r a len cap wr
  own : wr.ownsRow w.heap.size 24 1 (.slice q n cp) n XS
  len : LS.length = n
  runs : ∀ i, i < n → ∃ p m c, XS[i]? = some (.slice p m c) ∧ MR w.heap.size (Value.slice q n cp).ownBlock wr p m c (LS.getD i [])
theorem MA.trans {w : World} {r : Nat} {a : Option Addr} {len cap : Nat} {q : Option Addr} {n cp : Nat} {XS : List Value} {LS : List Recs} {wr w2 : World} (h : MA w r a len cap q n cp XS LS wr) (hr : r < w.heap.size) (hw : Went wr r a len cap w2) : MA w r a len cap q n cp XS LS w2 := by
  refine ⟨h.went.trans hw, own_went h.own hw hr, h.len, fun i hi => ?_⟩
  obtain ⟨p, m, c, hx, h1, h2, h3, h4⟩ := h.runs i hi
  exact ⟨p, m, c, hx, recs_grown h1 hw.grown (fun h0 b off e he => by
    have := (h4 h0 b off e).1
    have : r = b := by simpa using he
    omega), h2, h3, h4⟩
theorem MA.add {w : World} {r : Nat} {a : Option Addr} {len cap : Nat} {q : Option Addr} {n cp : Nat} {XS : List Value} {LS : List Recs} {w2 w3 : World} {o : Obj} {g c1 : Nat} {p : Option Addr} {m c : Nat} {V : Recs} (h : MA w r a len cap q n cp XS LS w2) (hr : r < w.heap.size)
    (hv : MR w.heap.size (Value.slice q n cp).ownBlock w2 p m c V)
    (ho : w3.ownsRow w.heap.size 24 1 (.slice (some ⟨g, 0, none⟩) (n + 1) c1) (n + 1) (XS ++ [.slice p m c])) (hg : (w2.alloc o).grownBy w3 (Value.slice q n cp).ownBlock)
    (hl : (Value.slice q n cp).ownBlock = some g ∨ g = w2.heap.size + 1) : MA w r a len cap (some ⟨g, 0, none⟩) (n + 1) c1 (XS ++ [.slice p m c]) (LS ++ [V]) w3 := by
  have hone : ∀ {p m c V}, MR w.heap.size (Value.slice q n cp).ownBlock w2 p m c V → MR w.heap.size (Value.slice (some ⟨g, 0, none⟩) (n + 1) c1).ownBlock w3 p m c V := fun {p m c V} hm => by
    have hk : RecsAt (w2.alloc o) p m V := hm.recs.keep (below_alloc (Below.refl _ _) _)
    refine ⟨recs_grown hk hg (fun h0 b off e => (hm.apart h0 b off e).2), hm.nil, hm.cap, fun h0 b off e => ⟨(hm.apart h0 b off e).1, fun he => ?_⟩⟩
    have hgb : g = b := by simpa [Value.ownBlock] using he
    subst hgb
    rcases hl with hl | hl
    · exact (hm.apart h0 g off e).2 hl
    · rcases hm.recs.src with hz | ⟨b, off2, e2, hb, _⟩
      · omega
      · rw [e] at e2
        simp only [Option.some.injEq, Addr.mk.injEq] at e2
        omega
  have hxl : XS.length = n := by have := h.own.1; omega
  refine ⟨(h.went.alloc o).more hg hr (fun k hk => (h.own.lt k hk).1), ho, by simp [h.len], fun i hi => ?_⟩
  by_cases hin : i < n
  · obtain ⟨p', m', c', hx, hm⟩ := h.runs i hin
    refine ⟨p', m', c', by rw [List.getElem?_append_left (by rw [hxl]; exact hin)]; exact hx, ?_⟩
    have e : (LS ++ [V]).getD i [] = LS.getD i [] := by
      rw [List.getD_eq_getElem?_getD, List.getElem?_append_left (by rw [h.len]; exact hin), ← List.getD_eq_getElem?_getD]
    rw [e]
    exact hone hm
  · obtain rfl : i = n := by omega
    refine ⟨p, m, c, by rw [List.getElem?_append_right (by omega), hxl]; simp, ?_⟩
    have e : (LS ++ [V]).getD i [] = V := by
      rw [List.getD_eq_getElem?_getD, List.getElem?_append_right (by rw [h.len]; exact Nat.le_refl _), h.len]; simp
    rw [e]
    exact hone hv
theorem MA.runSc {w : World} {r : Nat} {a : Option Addr} {len cap : Nat} {q : Option Addr} {n cp : Nat} {XS : List Value} {LS : List Recs} {wr : World} (h : MA w r a len cap q n cp XS LS wr) : RunSc wr q n LS := by
  refine ⟨h.len, ?_⟩
  by_cases h0 : n = 0
  · exact .inl h0
  · obtain ⟨g, c, hq, _, hlt⟩ := h.own.form (by omega)
    simp only [Value.slice.injEq] at hq
    obtain ⟨rfl, _, rfl⟩ := hq
    refine .inr ⟨g, 0, rfl, hlt, fun i hi => ?_⟩
    obtain ⟨p, m, c, hx, hm⟩ := h.runs i hi
    refine ⟨p, m, c, ?_, hm.recs, hm.nil, hm.cap.1, hm.cap.2.1, by have := hm.cap.2.2; omega⟩
    rw [Nat.zero_add, h.own.cellAt i (by omega)]
    exact hx

def DrewMA (w : World) (e : Ending) (w' : World) : Prop :=
  ∃ (q : Option Addr) (n cp : Nat) (LS : List Recs), e = .returned (.slice q n cp) ∧ n ≤ 4 ∧ RunSc w' q n LS ∧ Below w.heap.size w w'

set_option maxHeartbeats 2000000 in
theorem drawma_any (w : World) (a : Option Addr) (len cap : Nat) (h : Src w a len) :
    Calls Try.prog 16 #[.slice a len cap] w (DrewMA w) := by
  obtain ⟨i0, hi, hz0, hz1, hz2⟩ := info_parts infoRecL
  have H := Lib.hid h
  clear h
  go_enter Try.func16, Try.ntmps16
  go_wp2_with fail
  refine (open_any _ _ _ _ H.out).mono ?_
  rintro e w1 ⟨rfl, hb, hr⟩
  have HB := Lib.hid hb
  have HR := Lib.hid hr
  obtain ⟨r, hrz⟩ : ∃ r, w.heap.size = r := ⟨_, rfl⟩
  have HZ := Lib.hid hrz
  rw [hrz] at HR
  have HRL := Lib.hid HR.out.lt
  have HM := Lib.hid (show MA w1 r a len cap (some ⟨w1.heap.size, 0, none⟩) 0 0 [] [] (w1.alloc (.cells #[] 24)) from
    ⟨(Went.refl HR.out).alloc _, World.ownsRow_lit w1 #[] 0 (Nat.le_refl _) (Nat.zero_le _) rfl, rfl, fun i hi => by omega⟩)
  have HEQ := Lib.hid (show w.heap.size = r from HZ.out)
  rw [hrz]
  clear hb hr hrz
  go_wp2_with fail
  refine (below_any _ _ _ _ _ _ HM.out.went.rdr (by decide) (by decide)).mono ?_
  rintro e w2 ⟨⟨x, hx1, hx2, rfl⟩, hw⟩
  have HM := Lib.hid (HM.out.trans HRL.out hw)
  clear hw HR
  go_wp2_with fail
  go_loopw [4, 5] (fun v i wr => ∃ (k n : Nat) (q : Option Addr) (cp : Nat) (XS : List Value) (LS : List Recs), i = .int .i64 k ∧ v = .slice q n cp ∧ n + k ≤ 4 ∧ Hid (MA w1 r a len cap q n cp XS LS wr)) (fun _ i _ => (intOf i).toNat)
  case atStart => exact ⟨x.toNat, 0, _, 0, [], [], by rw [Int.toNat_of_nonneg (by omega)], rfl, by omega, HM.out⟩
  case round =>
    obtain ⟨k, n, q, cp, XS, LS, rfl, rfl, hk4, HS⟩ := hrel
    clear HM
    by_cases hk : 0 < k
    · obtain ⟨m', rfl⟩ : ∃ m', k = m' + 1 := ⟨k - 1, by omega⟩
      go_wp2_with fail
      refine (rrunN_any _ _ _ _ _ HS.out.went.rdr).mono ?_
      rintro e w3 ⟨p, c, V, rfl, h6, hs, hre, hw, ⟨_, hc1, hc2, hc3⟩, hap⟩
      obtain ⟨m, hm⟩ : ∃ m, V.length = m := ⟨_, rfl⟩
      rw [hm] at h6 hre hc1 hap ⊢
      have HV := Lib.hid (show MR w1.heap.size (Value.slice q n cp).ownBlock w3 p m c V from ⟨hre, fun e => by
        have := hc3 e
        refine ⟨?_, this⟩
        omega, ⟨hc1, hc2, h6⟩, fun h0 b off e => by
        have h1 := hap h0 b off e
        have h2 := HS.out.went.size
        refine ⟨by omega, fun he => ?_⟩
        have := (HS.out.own.lt b he).2
        omega⟩)
      have HS := Lib.hid (HS.out.trans HRL.out hw)
      clear hre hs hw hc1 hc2 hc3 hap hm h6
      go_wp2_with (at_builtin; (refine wpList_append_lies _ rfl _ _ 37 rfl w1.heap.size 24 i0 _ 1 24 Try.underlying37 hi hz0 hz1 hz2 rfl (by decide) _ _ _ rfl (HS.out.own.alloc _) ⟨w3.heap.size, 0, none⟩ 1 1 [.slice p m c] rfl rfl (one_new _ _ _) (fun u hu => by simp at hu; subst hu; rfl) (by decide) (by unfold maxLen; omega) (by omega) (Nat.le_trans HS.out.went.size (by rw [World.size_alloc]; omega)) (w3.heap.size + 1) (by rw [World.size_alloc]) ?_); intro g c1 w4 hown hgrow hlies hgl; have HO := Lib.hid hown; have HG := Lib.hid hgrow; have HL := Lib.hid hlies; clear hown hgrow hlies)
      go_roundw
      case rel => exact ⟨m', n + 1, _, _, _, _, by go_num, rfl, by omega, Lib.hid (HS.out.add HRL.out HV.out HO.out HG.out HL.out)⟩
      case measure => simp [intOf]
    · obtain rfl : k = 0 := by omega
      go_wp2
      go_ret
      exact ⟨q, n, cp, LS, rfl, by omega, HS.out.runSc, HS.out.went.under HB.out (by rw [HEQ.out]; exact Nat.le_refl _) HB.out.size⟩
end Go.Proofs.Ytldjahemgkkpbaa
