
/- What is drawn for the laws on stores: a store, a key, a version, data. Only new blocks are made. -/
import Derived.Test.YtblpebdjbenphaaDrawOb
import Derived.Deep.RegionHeld3
namespace Go.Proofs.Ytblpebdjbenphaa
open Go.ChangeShapes Go.WideShapes Go.ChangeAt Go.RowKit
set_option linter.unusedVariables false
set_option maxRecDepth 100000

/-- A drawn store that may be read, appended to as a model does, and is not large. -/
structure StoD (w : World) (q1 : Option Addr) (n1 c1 : Nat) (q2 : Option Addr) (n2 c2 : Nat) (l : Objs) (m : Gones) : Prop where
  at_ : StoI w q1 n1 c1 l q2 n2 c2 m
  few1 : n1 ≤ 2000
  few2 : n2 ≤ 2000
  short : ShortS l m
theorem StoD.keep {w w1 : World} {q1 : Option Addr} {n1 c1 : Nat} {q2 : Option Addr} {n2 c2 : Nat} {l : Objs} {m : Gones} (h : StoD w q1 n1 c1 q2 n2 c2 l m) (hB : Below w.heap.size w w1) : StoD w1 q1 n1 c1 q2 n2 c2 l m := ⟨h.at_.keep hB, h.few1, h.few2, h.short⟩
theorem short_keys {l : Objs} {m : Gones} (h : ShortS l m) {n : Nat} (hn : l.length = n) : ∀ i, i < n → (obj0 l i).size ≤ 41 ∧ (obj2 l i).size ≤ 30001 := by
  intro i hi
  unfold obj0 obj2
  rw [List.getD_eq_getElem?_getD, List.getElem?_eq_getElem (by omega)]
  exact h.1 _ (List.getElem_mem _)
theorem short_gons {l : Objs} {m : Gones} (h : ShortS l m) {n : Nat} (hn : m.length = n) : ∀ i, i < n → (gone0 m i).size ≤ 41 := by
  intro i hi
  unfold gone0
  rw [List.getD_eq_getElem?_getD, List.getElem?_eq_getElem (by omega)]
  exact h.2 _ (List.getElem_mem _)
theorem own_nilA {w : World} {base : Nat} {e : TypeId} {size : Nat} {q : Option Addr} {n c : Nat} {xs : List Value} (h : w.ownsRow base e size (.slice q n c) n xs) : q = none → c = 0 := by
  intro hq
  rcases h.2 with ⟨h1, _⟩ | ⟨g, cap, cur, hv, _⟩
  · simp only [Value.slice.injEq] at h1; exact h1.2.2
  · simp only [Value.slice.injEq] at hv; rw [hv.1] at hq; cases hq
theorem stod_of {w : World} {base : Nat} {q1 : Option Addr} {n1 c1 : Nat} {q2 : Option Addr} {n2 c2 : Nat} {l : Objs} {m : Gones} (ho : w.ownsRow base 31 3 (.slice q1 n1 c1) n1 (cellsObj l)) (hg : w.ownsRow base 45 2 (.slice q2 n2 c2) n2 (cellsGone m)) (h1 : l.length = n1) (h2 : m.length = n2) (f1 : n1 ≤ 2000) (f2 : n2 ≤ 2000) (hs : ShortS l m) : StoD w q1 n1 c1 q2 n2 c2 l m := by
  have k1 := short_keys hs h1
  have k2 := short_gons hs h2
  have a1 := atB_own ho
  have a2 := atB_own hg
  refine ⟨⟨⟨objs_of_k (base := base) (by subst h1; exact objk_of_own ho) h1 (by unfold maxLen; omega) (fun i hi => ?_), gones_of_k (base := base) (by subst h2; exact gonek_of_own hg) h2 (by unfold maxLen; omega) (fun i hi => ?_)⟩, a1.2, a2.2, own_nilA ho, own_nilA hg⟩, f1, f2, hs⟩
  · have := k1 i hi; unfold maxLen; omega
  · have := k2 i hi; unfold maxLen; omega

/-- What the walk holds: the reader, the result's place, the store's variable, its rows. -/
structure DP (w : World) (r : Nat) (a : Option Addr) (len cap : Nat) (S : Nat) (q1 : Option Addr) (n1 c1 : Nat) (q2 : Option Addr) (n2 c2 : Nat) (l : Objs) (m : Gones) (wr : World) : Prop where
  below : Below w.heap.size w wr
  rdr : Rdr wr r a len cap
  rlo : w.heap.size < r
  res : Row wr w.heap.size 27 #[.slice none 0 0, .slice none 0 0]
  now : Row wr S 27 #[.slice q1 n1 c1, .slice q2 n2 c2]
  far : r < S
  o : wr.ownsRow (r + 1) 31 3 (.slice q1 n1 c1) n1 (cellsObj l)
  g : wr.ownsRow (r + 1) 45 2 (.slice q2 n2 c2) n2 (cellsGone m)
  len1 : l.length = n1
  len2 : m.length = n2
  few1 : n1 ≤ 2000
  few2 : n2 ≤ 2000
  short : ShortS l m
section
variable {w : World} {r : Nat} {a : Option Addr} {len cap S : Nat} {q1 : Option Addr} {n1 c1 : Nat} {q2 : Option Addr} {n2 c2 : Nat} {l : Objs} {m : Gones} {wr : World}
theorem DP.step {w2 : World} (h : DP w r a len cap S q1 n1 c1 q2 n2 c2 l m wr) (hw : Went wr r a len cap w2) : DP w r a len cap S q1 n1 c1 q2 n2 c2 l m w2 :=
  ⟨hw.under h.below (Nat.le_of_lt h.rlo) h.below.size, hw.rdr, h.rlo, h.res.grown hw.grown (by intro e; injection e with e; have := h.rlo; omega), h.now.grown hw.grown (by intro e; injection e with e; have := h.far; omega), h.far, own_went h.o hw (by omega), own_went h.g hw (by omega), h.len1, h.len2, h.few1, h.few2, h.short⟩
theorem DP.keep {w2 : World} (h : DP w r a len cap S q1 n1 c1 q2 n2 c2 l m wr) (hB : Below wr.heap.size wr w2) : DP w r a len cap S q1 n1 c1 q2 n2 c2 l m w2 :=
  ⟨below_via h.below hB, h.rdr.below (hB.mono (Nat.succ_le_of_lt h.rdr.lt)), h.rlo, h.res.keep hB, h.now.keep hB, h.far, own_below h.o hB, own_below h.g hB, h.len1, h.len2, h.few1, h.few2, h.short⟩
theorem DP.set {X : Nat} (h : DP w r a len cap S q1 n1 c1 q2 n2 c2 l m wr) (hX : S < X) (ho : ∀ g, (Value.slice q1 n1 c1).ownBlock = some g → X ≠ g) (hg : ∀ g, (Value.slice q2 n2 c2).ownBlock = some g → X ≠ g) (j : Nat) (v : Value) : DP w r a len cap S q1 n1 c1 q2 n2 c2 l m (wr.setCell ⟨X, j, none⟩ v) := by
  have hf := h.far
  have hl := h.rlo
  refine ⟨h.below.setCell (by show w.heap.size ≤ X; omega) v, h.rdr.below ?_, h.rlo, h.res.other (by omega) j v, h.now.other (by omega) j v, h.far, own_put h.o ho j v, own_put h.g hg j v, h.len1, h.len2, h.few1, h.few2, h.short⟩
  exact (Below.refl _ _).setCell (by show r + 1 ≤ X; omega) v
theorem DP.objs (h : DP w r a len cap S q1 n1 c1 q2 n2 c2 l m wr) : ObjsAt wr q1 n1 l ∧ (∀ i, i < n1 → (obj0 l i).size ≤ 41) ∧ n1 ≤ 1048576 ∧ ∀ b off, q1 = some ⟨b, off, none⟩ → b ≠ r := by
  refine ⟨(stod_of h.o h.g h.len1 h.len2 h.few1 h.few2 h.short).at_.at_.o, fun i hi => (short_keys h.short h.len1 i hi).1, by have := h.few1; omega, fun b off hq => ?_⟩
  rcases (atB_own h.o).1 with ⟨h0, _⟩ | ⟨g, hg, hb, _⟩
  · rw [h0] at hq; cases hq
  · rw [hg] at hq
    simp only [Option.some.injEq, Addr.mk.injEq, and_true] at hq
    omega
theorem DP.fin (h : DP w r a len cap S q1 n1 c1 q2 n2 c2 l m wr) : Below w.heap.size w ((wr.setCell ⟨w.heap.size, 0, none⟩ (.slice q1 n1 c1)).setCell ⟨w.heap.size, 1, none⟩ (.slice q2 n2 c2)) ∧ StoD ((wr.setCell ⟨w.heap.size, 0, none⟩ (.slice q1 n1 c1)).setCell ⟨w.heap.size, 1, none⟩ (.slice q2 n2 c2)) q1 n1 c1 q2 n2 c2 l m := by
  have hl := h.rlo
  have e1 : ∀ g, (Value.slice q1 n1 c1).ownBlock = some g → w.heap.size ≠ g := fun g hg => by have := (h.o.lt g hg).1; omega
  have e2 : ∀ g, (Value.slice q2 n2 c2).ownBlock = some g → w.heap.size ≠ g := fun g hg => by have := (h.g.lt g hg).1; omega
  exact ⟨(h.below.setCell (Nat.le_refl _) _).setCell (Nat.le_refl _) _, stod_of (own_put (own_put h.o e1 0 _) e1 1 _) (own_put (own_put h.g e2 0 _) e2 1 _) h.len1 h.len2 h.few1 h.few2 h.short⟩
end
/-- The reader has been opened and the store drawn and put into its variable. -/
theorem DP.start {w w1 w2 : World} {a : Option Addr} {len cap : Nat} {q1 : Option Addr} {n1 c1 : Nat} {q2 : Option Addr} {n2 c2 : Nat} {l : Objs} {m : Gones}
    (hb : Below (w.alloc (.cells #[.slice none 0 0, .slice none 0 0] 27)).heap.size (w.alloc (.cells #[.slice none 0 0, .slice none 0 0] 27)) w1) (hr : Rdr w1 (w.heap.size + 1) a len cap) (hw : Went w1 (w.heap.size + 1) a len cap w2)
    (f1 : n1 ≤ 2000) (f2 : n2 ≤ 2000) (h1 : l.length = n1) (h2 : m.length = n2) (hs : ShortS l m) (ho : w2.ownsRow w1.heap.size 31 3 (.slice q1 n1 c1) n1 (cellsObj l)) (hg : w2.ownsRow w1.heap.size 45 2 (.slice q2 n2 c2) n2 (cellsGone m)) :
    DP w (w.heap.size + 1) a len cap w2.heap.size q1 n1 c1 q2 n2 c2 l m (w2.alloc (.cells #[.slice q1 n1 c1, .slice q2 n2 c2] 27)) := by
  have hlt := hr.lt
  have hB1 : Below w.heap.size w w1 := ((Below.refl w.heap.size w).alloc (Nat.le_refl _) _).trans (hb.mono (by simp))
  have hB2 : Below w.heap.size w w2 := hw.under hB1 (by omega) hB1.size
  have hal := below_alloc (Below.refl w2.heap.size w2) (.cells #[.slice q1 n1 c1, .slice q2 n2 c2] 27)
  have hres : Row w1 w.heap.size 27 #[.slice none 0 0, .slice none 0 0] := (Row.new w _ _).keep hb
  exact ⟨below_via hB2 hal, hw.rdr.alloc _, by omega, (hres.grown hw.grown (by intro e; injection e with e; omega)).keep hal, Row.new _ _ _, hw.rdr.lt, own_below (own_low ho (by omega)) hal, own_below (own_low hg (by omega)) hal, h1, h2, f1, f2, hs⟩

theorem cell_far2 {b X j j1 : Nat} (w : World) (x y : Value) (h : b ≠ X) (o : Nat) : ((w.setCell ⟨X, j, none⟩ x).setCell ⟨X, j1, none⟩ y).drew.cell? ⟨b, o, none⟩ = w.cell? ⟨b, o, none⟩ :=
  World.cell?_of_block ((Below.heap_setCell _ _ _ _ h).trans (Below.heap_setCell _ _ _ _ h))
theorem DP.fin_g {w : World} {r : Nat} {a : Option Addr} {len cap S : Nat} {q1 : Option Addr} {n1 c1 : Nat} {q2 : Option Addr} {n2 c2 : Nat} {l : Objs} {m : Gones} {wr : World} (h : DP w r a len cap S q1 n1 c1 q2 n2 c2 l m wr) : GonesAt wr q2 n2 m := (stod_of h.o h.g h.len1 h.len2 h.few1 h.few2 h.short).at_.at_.d
def DrewPut (w : World) (e : Ending) (w' : World) : Prop :=
  ∃ (q1 : Option Addr) (n1 c1 : Nat) (q2 : Option Addr) (n2 c2 : Nat) (l : Objs) (m : Gones) (key : ByteArray) (ver : Int) (data : ByteArray), e = .returned (.tuple #[.agg #[.slice q1 n1 c1, .slice q2 n2 c2], .string key, .int .i64 ver, .string data]) ∧ StoD w' q1 n1 c1 q2 n2 c2 l m ∧ key.size ≤ 41 ∧ data.size ≤ 30001 ∧ Below w.heap.size w w'

set_option maxHeartbeats 8000000 in
theorem drawput_any (w : World) (a : Option Addr) (len cap : Nat) (h : Src w a len) :
    Calls Try.prog 18 #[.slice a len cap] w (DrewPut w) := by
  have H := Lib.hid (h.below ((Below.refl w.heap.size w).alloc (Nat.le_refl _) (.cells #[.slice none 0 0, .slice none 0 0] 27)))
  clear h
  go_enter Try.func18, Try.ntmps18
  go_wp2_with fail
  refine (open_any _ _ _ _ H.out).mono ?_
  rintro e w1 ⟨rfl, hb, hr⟩
  have e0 : (w.alloc (.cells #[.slice none 0 0, .slice none 0 0] 27)).heap.size = w.heap.size + 1 := by simp
  have HB := Lib.hid hb
  rw [e0] at hr ⊢
  have HR := Lib.hid hr
  clear hb hr e0
  go_wp2_with fail
  refine (drawobjects_any _ _ _ _ _ HR.out).mono ?_
  rintro e w2 ⟨q1, n1, c1, q2, n2, c2, l, m, rfl, hw, hf1, hf2, hl, hm, hs, ho, hg⟩
  have HD := Lib.hid (DP.start HB.out HR.out hw hf1 hf2 hl hm hs ho hg)
  clear hw hf1 hf2 hl hm hs ho hg HB HR
  obtain ⟨S, hS⟩ : ∃ S, w2.heap.size = S := ⟨_, rfl⟩
  obtain ⟨w3, hw3⟩ : ∃ x, w2.alloc (.cells #[.slice q1 n1 c1, .slice q2 n2 c2] 27) = x := ⟨_, rfl⟩
  rw [hS, hw3] at HD
  have k0 := HD.out.now.cell (j := 0) (by simp)
  have k1 := HD.out.now.cell (j := 1) (by simp)
  simp at k0 k1
  go_wp2_with fail
  clear hS hw3 k0 k1
  refine (drawcmdG_any _ _ _ _ _ q1 q2 n1 c1 n2 c2 l HD.out.rdr HD.out.objs.1 HD.out.objs.2.1 HD.out.objs.2.2.1 HD.out.objs.2.2.2).mono ?_
  rintro e w4 ⟨kd, b, v, d, hb, hd, rfl, hw⟩
  have HD := Lib.hid (HD.out.step hw)
  clear hw
  go_wp2_with fail
  refine (hurtcmd_any _ _ _ _ _ _ _ _ _ HD.out.rdr hb hd).mono ?_
  rintro e w5 ⟨kd, b, v, d, hb, hd, rfl, hw⟩
  have HD := Lib.hid (HD.out.step hw)
  have HKB := Lib.hid hb
  have HKD := Lib.hid hd
  clear hw hb hd
  have HC := Lib.hid (Row.new w5 57 #[.int .i64 kd, .string b, .int .i64 v, .string d])
  have HSC := Lib.hid (show S < w5.heap.size from HD.out.now.lt)
  have HO1 := Lib.hid (show ∀ g, (Value.slice q1 n1 c1).ownBlock = some g → g < w5.heap.size from own_lt HD.out.o)
  have HO2 := Lib.hid (show ∀ g, (Value.slice q2 n2 c2).ownBlock = some g → g < w5.heap.size from own_lt HD.out.g)
  have HD := Lib.hid (HD.out.keep (below_alloc (Below.refl _ _) (.cells #[.int .i64 kd, .string b, .int .i64 v, .string d] 57)))
  obtain ⟨C, hC⟩ : ∃ C, w5.heap.size = C := ⟨_, rfl⟩
  obtain ⟨w6, hw6⟩ : ∃ x, w5.alloc (.cells #[.int .i64 kd, .string b, .int .i64 v, .string d] 57) = x := ⟨_, rfl⟩
  rw [hC] at HC HSC HO1 HO2
  rw [hw6] at HC HD
  have HX1 := Lib.hid (show ∀ g', (Value.slice q1 n1 c1).ownBlock = some g' → C ≠ g' from fun g' hg' => by have := HO1.out g' hg'; omega)
  have HX2 := Lib.hid (show ∀ g', (Value.slice q2 n2 c2).ownBlock = some g' → C ≠ g' from fun g' hg' => by have := HO2.out g' hg'; omega)
  by_cases hk : kd = 1
  · subst hk
    by_cases hn : 0 < n1
    · skip
      have k0 := HD.out.now.cell (j := 0) (by simp)
      have k1 := HD.out.now.cell (j := 1) (by simp)
      have y0 := HC.out.cell (j := 0) (by simp)
      have y1 := HC.out.cell (j := 1) (by simp)
      have y2 := HC.out.cell (j := 2) (by simp)
      have y3 := HC.out.cell (j := 3) (by simp)
      have fr1 := HC.out.free 1
      have fr2 := HC.out.free 2
      simp at k0 k1 y0 y1 y2 y3
      have hn0 : (0 : Int) < (n1 : Int) := by omega
      obtain ⟨g, rfl, hgb, hgl, _⟩ := obj_head HD.out.o hn HD.out.len1
      obtain ⟨hob, hoc⟩ := objs_src HD.out.objs.1 hn
      obtain ⟨o0, o1, o2⟩ := hoc 0 hn
      have HK0 := Lib.hid (HD.out.objs.2.1 0 hn)
      simp only [Nat.zero_mul, Nat.zero_add] at o0 o1 o2
      obtain ⟨kk, hkk⟩ : ∃ x, obj0 l 0 = x := ⟨_, rfl⟩
      obtain ⟨vv, hvv⟩ : ∃ x, obj1 l 0 = x := ⟨_, rfl⟩
      rw [hkk] at o0 HK0
      rw [hvv] at o1
      clear hoc hkk hvv hob o2 hgb hgl
      have hgC : g ≠ C := by have := HO1.out g rfl; omega
      have HD := Lib.hid ((HD.out.set HSC.out HX1.out HX2.out 1 (.string kk)).set HSC.out HX1.out HX2.out 2 (.int .i64 vv))
      have HC := Lib.hid ((HC.out.set 1 (.string kk)).set 2 (.int .i64 vv))
      obtain ⟨w7, hw7⟩ : ∃ x, (w6.setCell ⟨C, 1, none⟩ (.string kk)).setCell ⟨C, 2, none⟩ (.int .i64 vv) = x := ⟨_, rfl⟩
      rw [hw7] at HD HC
      simp only [List.setIfInBounds_toArray, List.set_cons_zero, List.set_cons_succ] at HC
      go_wp2_with fail
      clear hw7 o0 o1
      clear k0 k1 y0 y1 y2 y3 fr1 fr2
      have k0 := HD.out.now.cell (j := 0) (by simp)
      have k1 := HD.out.now.cell (j := 1) (by simp)
      have y0 := HC.out.cell (j := 0) (by simp)
      have y1 := HC.out.cell (j := 1) (by simp)
      have y2 := HC.out.cell (j := 2) (by simp)
      have y3 := HC.out.cell (j := 3) (by simp)
      simp at k0 k1 y0 y1 y2 y3
      have r0 := HD.out.res.cell (j := 0) (by simp)
      have r1 := HD.out.res.cell (j := 1) (by simp)
      have rf0 := HD.out.res.free 0
      have rf1 := HD.out.res.free 1
      simp at r0 r1
      have hSw : S ≠ w.heap.size := by have := HD.out.far; have := HD.out.rlo; omega
      have hCw : C ≠ w.heap.size := by have := HD.out.far; have := HD.out.rlo; have := HSC.out; omega
      have HFIN := Lib.hid HD.out.fin
      have HRS := Lib.hid (show Row ((w7.setCell ⟨w.heap.size, 0, none⟩ (.slice (some ⟨g, 0, none⟩) n1 c1)).setCell ⟨w.heap.size, 1, none⟩ (.slice q2 n2 c2)).drew w.heap.size 27 _ from ((HD.out.res.set 0 (.slice (some ⟨g, 0, none⟩) n1 c1)).set 1 (.slice q2 n2 c2)))
      have z0 : ((w7.setCell ⟨w.heap.size, 0, none⟩ (.slice (some ⟨g, 0, none⟩) n1 c1)).setCell ⟨w.heap.size, 1, none⟩ (.slice q2 n2 c2)).drew.cell? ⟨S, 0, none⟩ = some (.slice (some ⟨g, 0, none⟩) n1 c1) := (cell_far2 _ _ _ hSw 0).trans k0
      have z1 : ((w7.setCell ⟨w.heap.size, 0, none⟩ (.slice (some ⟨g, 0, none⟩) n1 c1)).setCell ⟨w.heap.size, 1, none⟩ (.slice q2 n2 c2)).drew.cell? ⟨S, 1, none⟩ = some (.slice q2 n2 c2) := (cell_far2 _ _ _ hSw 1).trans k1
      have z2 : ((w7.setCell ⟨w.heap.size, 0, none⟩ (.slice (some ⟨g, 0, none⟩) n1 c1)).setCell ⟨w.heap.size, 1, none⟩ (.slice q2 n2 c2)).drew.cell? ⟨C, 1, none⟩ = some (.string kk) := (cell_far2 _ _ _ hCw 1).trans y1
      have z3 : ((w7.setCell ⟨w.heap.size, 0, none⟩ (.slice (some ⟨g, 0, none⟩) n1 c1)).setCell ⟨w.heap.size, 1, none⟩ (.slice q2 n2 c2)).drew.cell? ⟨C, 2, none⟩ = some (.int .i64 vv) := (cell_far2 _ _ _ hCw 2).trans y2
      have z4 : ((w7.setCell ⟨w.heap.size, 0, none⟩ (.slice (some ⟨g, 0, none⟩) n1 c1)).setCell ⟨w.heap.size, 1, none⟩ (.slice q2 n2 c2)).drew.cell? ⟨C, 3, none⟩ = some (.string d) := (cell_far2 _ _ _ hCw 3).trans y3
      go_region_held3 (fun w' => w'.cell? ⟨S, 0, none⟩ = some (.slice (some ⟨g, 0, none⟩) n1 c1) ∧ w'.cell? ⟨S, 1, none⟩ = some (.slice q2 n2 c2) ∧ w'.cell? ⟨C, 1, none⟩ = some (.string kk) ∧ w'.cell? ⟨C, 2, none⟩ = some (.int .i64 vv) ∧ w'.cell? ⟨C, 3, none⟩ = some (.string d)) (first | exact ⟨z0, z1, z2, z3, z4⟩ | go_keep) (fail)
      go_wp2
      have hbF := HRS.out
      unfold Row at hbF
      simp only [List.setIfInBounds_toArray, List.set_cons_zero, List.set_cons_succ] at hbF
      exact bodyPost_ret (v := .tuple #[.agg #[.slice (some ⟨g, 0, none⟩) n1 c1, .slice q2 n2 c2], .string kk, .int .i64 vv, .string d]) (by simp [results, Try.results18, go_sem, World.cell?, hbF]) rfl ⟨(some ⟨g, 0, none⟩), n1, c1, q2, n2, c2, l, m, kk, vv, d, rfl, HFIN.out.2.keep (Below.refl _ _).drew, HK0.out, HKD.out, HFIN.out.1.drew⟩
    · have hn0 : ¬ (0 : Int) < (n1 : Int) := by omega
      have k0 := HD.out.now.cell (j := 0) (by simp)
      have k1 := HD.out.now.cell (j := 1) (by simp)
      have y0 := HC.out.cell (j := 0) (by simp)
      have y1 := HC.out.cell (j := 1) (by simp)
      have y2 := HC.out.cell (j := 2) (by simp)
      have y3 := HC.out.cell (j := 3) (by simp)
      have fr1 := HC.out.free 1
      have fr2 := HC.out.free 2
      simp at k0 k1 y0 y1 y2 y3
      go_wp2_with fail
      clear k0 k1 y0 y1 y2 y3 fr1 fr2
      have k0 := HD.out.now.cell (j := 0) (by simp)
      have k1 := HD.out.now.cell (j := 1) (by simp)
      have y0 := HC.out.cell (j := 0) (by simp)
      have y1 := HC.out.cell (j := 1) (by simp)
      have y2 := HC.out.cell (j := 2) (by simp)
      have y3 := HC.out.cell (j := 3) (by simp)
      simp at k0 k1 y0 y1 y2 y3
      have r0 := HD.out.res.cell (j := 0) (by simp)
      have r1 := HD.out.res.cell (j := 1) (by simp)
      have rf0 := HD.out.res.free 0
      have rf1 := HD.out.res.free 1
      simp at r0 r1
      have hSw : S ≠ w.heap.size := by have := HD.out.far; have := HD.out.rlo; omega
      have hCw : C ≠ w.heap.size := by have := HD.out.far; have := HD.out.rlo; have := HSC.out; omega
      have HFIN := Lib.hid HD.out.fin
      have HRS := Lib.hid (show Row ((w6.setCell ⟨w.heap.size, 0, none⟩ (.slice q1 n1 c1)).setCell ⟨w.heap.size, 1, none⟩ (.slice q2 n2 c2)).drew w.heap.size 27 _ from ((HD.out.res.set 0 (.slice q1 n1 c1)).set 1 (.slice q2 n2 c2)))
      have z0 : ((w6.setCell ⟨w.heap.size, 0, none⟩ (.slice q1 n1 c1)).setCell ⟨w.heap.size, 1, none⟩ (.slice q2 n2 c2)).drew.cell? ⟨S, 0, none⟩ = some (.slice q1 n1 c1) := (cell_far2 _ _ _ hSw 0).trans k0
      have z1 : ((w6.setCell ⟨w.heap.size, 0, none⟩ (.slice q1 n1 c1)).setCell ⟨w.heap.size, 1, none⟩ (.slice q2 n2 c2)).drew.cell? ⟨S, 1, none⟩ = some (.slice q2 n2 c2) := (cell_far2 _ _ _ hSw 1).trans k1
      have z2 : ((w6.setCell ⟨w.heap.size, 0, none⟩ (.slice q1 n1 c1)).setCell ⟨w.heap.size, 1, none⟩ (.slice q2 n2 c2)).drew.cell? ⟨C, 1, none⟩ = some (.string b) := (cell_far2 _ _ _ hCw 1).trans y1
      have z3 : ((w6.setCell ⟨w.heap.size, 0, none⟩ (.slice q1 n1 c1)).setCell ⟨w.heap.size, 1, none⟩ (.slice q2 n2 c2)).drew.cell? ⟨C, 2, none⟩ = some (.int .i64 v) := (cell_far2 _ _ _ hCw 2).trans y2
      have z4 : ((w6.setCell ⟨w.heap.size, 0, none⟩ (.slice q1 n1 c1)).setCell ⟨w.heap.size, 1, none⟩ (.slice q2 n2 c2)).drew.cell? ⟨C, 3, none⟩ = some (.string d) := (cell_far2 _ _ _ hCw 3).trans y3
      go_region_held3 (fun w' => w'.cell? ⟨S, 0, none⟩ = some (.slice q1 n1 c1) ∧ w'.cell? ⟨S, 1, none⟩ = some (.slice q2 n2 c2) ∧ w'.cell? ⟨C, 1, none⟩ = some (.string b) ∧ w'.cell? ⟨C, 2, none⟩ = some (.int .i64 v) ∧ w'.cell? ⟨C, 3, none⟩ = some (.string d)) (first | exact ⟨z0, z1, z2, z3, z4⟩ | go_keep) (fail)
      go_wp2
      have hbF := HRS.out
      unfold Row at hbF
      simp only [List.setIfInBounds_toArray, List.set_cons_zero, List.set_cons_succ] at hbF
      exact bodyPost_ret (v := .tuple #[.agg #[.slice q1 n1 c1, .slice q2 n2 c2], .string b, .int .i64 v, .string d]) (by simp [results, Try.results18, go_sem, World.cell?, hbF]) rfl ⟨q1, n1, c1, q2, n2, c2, l, m, b, v, d, rfl, HFIN.out.2.keep (Below.refl _ _).drew, HKB.out, HKD.out, HFIN.out.1.drew⟩
  · have hk1 : (kd == 1) = false := by rw [beq_eq_false_iff_ne]; exact hk
    have k0 := HD.out.now.cell (j := 0) (by simp)
    have k1 := HD.out.now.cell (j := 1) (by simp)
    have y0 := HC.out.cell (j := 0) (by simp)
    have y1 := HC.out.cell (j := 1) (by simp)
    have y2 := HC.out.cell (j := 2) (by simp)
    have y3 := HC.out.cell (j := 3) (by simp)
    have fr1 := HC.out.free 1
    have fr2 := HC.out.free 2
    simp at k0 k1 y0 y1 y2 y3
    clear hk
    go_wp2_with fail
    clear k0 k1 y0 y1 y2 y3 fr1 fr2
    have k0 := HD.out.now.cell (j := 0) (by simp)
    have k1 := HD.out.now.cell (j := 1) (by simp)
    have y0 := HC.out.cell (j := 0) (by simp)
    have y1 := HC.out.cell (j := 1) (by simp)
    have y2 := HC.out.cell (j := 2) (by simp)
    have y3 := HC.out.cell (j := 3) (by simp)
    simp at k0 k1 y0 y1 y2 y3
    have r0 := HD.out.res.cell (j := 0) (by simp)
    have r1 := HD.out.res.cell (j := 1) (by simp)
    have rf0 := HD.out.res.free 0
    have rf1 := HD.out.res.free 1
    simp at r0 r1
    have hSw : S ≠ w.heap.size := by have := HD.out.far; have := HD.out.rlo; omega
    have hCw : C ≠ w.heap.size := by have := HD.out.far; have := HD.out.rlo; have := HSC.out; omega
    have HFIN := Lib.hid HD.out.fin
    have HRS := Lib.hid (show Row ((w6.setCell ⟨w.heap.size, 0, none⟩ (.slice q1 n1 c1)).setCell ⟨w.heap.size, 1, none⟩ (.slice q2 n2 c2)).drew w.heap.size 27 _ from ((HD.out.res.set 0 (.slice q1 n1 c1)).set 1 (.slice q2 n2 c2)))
    have z0 : ((w6.setCell ⟨w.heap.size, 0, none⟩ (.slice q1 n1 c1)).setCell ⟨w.heap.size, 1, none⟩ (.slice q2 n2 c2)).drew.cell? ⟨S, 0, none⟩ = some (.slice q1 n1 c1) := (cell_far2 _ _ _ hSw 0).trans k0
    have z1 : ((w6.setCell ⟨w.heap.size, 0, none⟩ (.slice q1 n1 c1)).setCell ⟨w.heap.size, 1, none⟩ (.slice q2 n2 c2)).drew.cell? ⟨S, 1, none⟩ = some (.slice q2 n2 c2) := (cell_far2 _ _ _ hSw 1).trans k1
    have z2 : ((w6.setCell ⟨w.heap.size, 0, none⟩ (.slice q1 n1 c1)).setCell ⟨w.heap.size, 1, none⟩ (.slice q2 n2 c2)).drew.cell? ⟨C, 1, none⟩ = some (.string b) := (cell_far2 _ _ _ hCw 1).trans y1
    have z3 : ((w6.setCell ⟨w.heap.size, 0, none⟩ (.slice q1 n1 c1)).setCell ⟨w.heap.size, 1, none⟩ (.slice q2 n2 c2)).drew.cell? ⟨C, 2, none⟩ = some (.int .i64 v) := (cell_far2 _ _ _ hCw 2).trans y2
    have z4 : ((w6.setCell ⟨w.heap.size, 0, none⟩ (.slice q1 n1 c1)).setCell ⟨w.heap.size, 1, none⟩ (.slice q2 n2 c2)).drew.cell? ⟨C, 3, none⟩ = some (.string d) := (cell_far2 _ _ _ hCw 3).trans y3
    go_region_held3 (fun w' => w'.cell? ⟨S, 0, none⟩ = some (.slice q1 n1 c1) ∧ w'.cell? ⟨S, 1, none⟩ = some (.slice q2 n2 c2) ∧ w'.cell? ⟨C, 1, none⟩ = some (.string b) ∧ w'.cell? ⟨C, 2, none⟩ = some (.int .i64 v) ∧ w'.cell? ⟨C, 3, none⟩ = some (.string d)) (first | exact ⟨z0, z1, z2, z3, z4⟩ | go_keep) (fail)
    go_wp2
    have hbF := HRS.out
    unfold Row at hbF
    simp only [List.setIfInBounds_toArray, List.set_cons_zero, List.set_cons_succ] at hbF
    exact bodyPost_ret (v := .tuple #[.agg #[.slice q1 n1 c1, .slice q2 n2 c2], .string b, .int .i64 v, .string d]) (by simp [results, Try.results18, go_sem, World.cell?, hbF]) rfl ⟨q1, n1, c1, q2, n2, c2, l, m, b, v, d, rfl, HFIN.out.2.keep (Below.refl _ _).drew, HKB.out, HKD.out, HFIN.out.1.drew⟩

def DrewCre (w : World) (e : Ending) (w' : World) : Prop :=
  ∃ (q1 : Option Addr) (n1 c1 : Nat) (q2 : Option Addr) (n2 c2 : Nat) (l : Objs) (m : Gones) (key : ByteArray) (data : ByteArray), e = .returned (.tuple #[.agg #[.slice q1 n1 c1, .slice q2 n2 c2], .string key, .string data]) ∧ StoD w' q1 n1 c1 q2 n2 c2 l m ∧ key.size ≤ 41 ∧ data.size ≤ 30001 ∧ Below w.heap.size w w'

end Go.Proofs.Ytblpebdjbenphaa
