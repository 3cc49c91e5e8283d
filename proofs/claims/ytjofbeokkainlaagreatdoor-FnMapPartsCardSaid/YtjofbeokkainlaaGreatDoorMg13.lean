/- Texts put together, as a claim holds at most sixty files. -/
import Derived.Test.YtjofbeokkainlaaGreatDoorMg10
import Derived.Maps.AppendAt
import Derived.Test.YtjofbeokkainlaaGreatDoorMg12
import Derived.Test.YtjofbeokkainlaaGreatDoorMg16
import Derived.Test.YtjofbeokkainlaaGreatDoorMg2
namespace Go.Proofs.YtjofbeokkainlaaGreatDoor
open Go.ChangeShapes Go.WideShapes Go.ChangeAt Go.RowKit
set_option linter.unusedVariables false
set_option maxRecDepth 100000

theorem cellsI_setN : ∀ (W : Instrs) (k : Nat) (x : Int), k < W.length → cellsI (W.set k (ins0 W k, x, ins2 W k)) = (cellsI W).set (k * 3 + 1) (.int .i64 x)
  | [], k, x, h => by simp at h
  | a :: t, 0, x, _ => rfl
  | a :: t, k + 1, x, h => by
    obtain ⟨e0, e1, e2⟩ := ins_cons a t k
    rw [e0, e2, List.set_cons_succ]
    have ih := cellsI_setN t k x (by simpa using h)
    have e : (k + 1) * 3 + 1 = k * 3 + 1 + 1 + 1 + 1 := by omega
    rw [e]
    show _ :: _ :: _ :: cellsI (t.set k (ins0 t k, x, ins2 t k)) = _
    rw [ih]; rfl
theorem cellsI_setS : ∀ (W : Instrs) (k : Nat) (s : ByteArray), k < W.length → cellsI (W.set k (ins0 W k, ins1 W k, s)) = (cellsI W).set (k * 3 + 2) (.string s)
  | [], k, x, h => by simp at h
  | a :: t, 0, x, _ => rfl
  | a :: t, k + 1, x, h => by
    obtain ⟨e0, e1, e2⟩ := ins_cons a t k
    rw [e0, e1, List.set_cons_succ]
    have ih := cellsI_setS t k x (by simpa using h)
    have e : (k + 1) * 3 + 2 = k * 3 + 2 + 1 + 1 + 1 := by omega
    rw [e]
    show _ :: _ :: _ :: cellsI (t.set k (ins0 t k, ins1 t k, x)) = _
    rw [ih]; rfl
theorem fine_at {W : Instrs} (h : FineI W) {k : Nat} (hk : k < W.length) : In64 (ins1 W k) ∧ (ins2 W k).size ≤ 25 := by
  have e : W.getD k (0, 0, ByteArray.empty) = W[k] := by rw [List.getD_eq_getElem?_getD, List.getElem?_eq_getElem hk]; rfl
  unfold ins1 ins2
  rw [e]
  exact h _ (List.getElem_mem hk)
theorem own_setI {w : World} {base n cp g j : Nat} {xs : List Value} (h : w.ownsRow base 89 3 (.slice (some ⟨g, 0, none⟩) n cp) n xs) (v : Value) :
    (w.setCell ⟨g, j, none⟩ v).ownsRow base 89 3 (.slice (some ⟨g, 0, none⟩) n cp) n (xs.set j v) := by
  refine ⟨by rw [List.length_set]; exact h.1, ?_⟩
  rcases h.2 with ⟨h1, _⟩ | ⟨g', cap, cur, hv, hb, hh, h1, h2, h3, h4⟩
  · simp at h1
  · simp only [Value.slice.injEq, Option.some.injEq, Addr.mk.injEq, and_true, true_and] at hv
    obtain ⟨rfl, rfl⟩ := hv
    refine .inr ⟨g, cp, cur.setIfInBounds j v, rfl, hb, block_set hh j v, h1, h2, by simpa using h3, ?_⟩
    rw [← h4, Array.toList_setIfInBounds, List.take_set]
theorem DrawnI.setN {w wr : World} {r : Nat} {a : Option Addr} {len cap n cp g k : Nat} {W : Instrs} {x : Int} (h : DrawnI w wr r a len cap (.slice (some ⟨g, 0, none⟩) n cp) n W) (hr : r < w.heap.size) (hg : w.heap.size ≤ g) (hk : k < n) (hx : In64 x) :
    DrawnI w (wr.setCell ⟨g, k * 3 + 1, none⟩ (.int .i64 x)) r a len cap (.slice (some ⟨g, 0, none⟩) n cp) n (W.set k (ins0 W k, x, ins2 W k)) := by
  have hkW : k < W.length := by rw [h.size]; exact hk
  refine ⟨by rw [cellsI_setN W k x hkW]; exact own_setI h.own _, by rw [List.length_set]; exact h.size, h.went.put hg (by omega) _ _, fun y hy => ?_⟩
  rcases List.mem_or_eq_of_mem_set hy with e | e
  · exact h.fine y e
  · subst e; exact ⟨hx, (fine_at h.fine hkW).2⟩
theorem DrawnI.setS {w wr : World} {r : Nat} {a : Option Addr} {len cap n cp g k : Nat} {W : Instrs} {x : ByteArray} (h : DrawnI w wr r a len cap (.slice (some ⟨g, 0, none⟩) n cp) n W) (hr : r < w.heap.size) (hg : w.heap.size ≤ g) (hk : k < n) (hx : x.size ≤ 25) :
    DrawnI w (wr.setCell ⟨g, k * 3 + 2, none⟩ (.string x)) r a len cap (.slice (some ⟨g, 0, none⟩) n cp) n (W.set k (ins0 W k, ins1 W k, x)) := by
  have hkW : k < W.length := by rw [h.size]; exact hk
  refine ⟨by rw [cellsI_setS W k x hkW]; exact own_setI h.own _, by rw [List.length_set]; exact h.size, h.went.put hg (by omega) _ _, fun y hy => ?_⟩
  rcases List.mem_or_eq_of_mem_set hy with e | e
  · exact h.fine y e
  · subst e; exact ⟨(fine_at h.fine hkW).1, hx⟩
theorem DrawnI.place {w wr : World} {r : Nat} {a : Option Addr} {len cap n cp k : Nat} {q : Option Addr} {W : Instrs} (h : DrawnI w wr r a len cap (.slice q n cp) n W) (hk : k < n) :
    ∃ g, q = some ⟨g, 0, none⟩ ∧ w.heap.size ≤ g ∧ (∃ v, wr.cell? ⟨g, k * 3 + 1, none⟩ = some v) ∧ (∃ v, wr.cell? ⟨g, k * 3 + 2, none⟩ = some v) ∧ ∀ o, wr.frozen? ⟨g, o, none⟩ = false := by
  obtain ⟨g, cur, rfl, hb, hrow, hs⟩ := own_insrow h.own (by omega)
  exact ⟨g, rfl, hb, ⟨_, hrow.cell (by omega)⟩, ⟨_, hrow.cell (by omega)⟩, hrow.free⟩

/-- Which blocks stay: all but the reader's and row G. -/
def KeptBut (w0 w' : World) (r : Nat) (G : Option Nat) : Prop := ∀ i, i < w0.heap.size → i ≠ r → some i ≠ G → w'.heap[i]? = w0.heap[i]?
structure DrawnK (w w0 wr : World) (G : Option Nat) (r : Nat) (a : Option Addr) (len cap : Nat) (v : Value) (n : Nat) (W : Instrs) : Prop where
  d : DrawnI w wr r a len cap v n W
  kept : KeptBut w0 wr r G
  size : w0.heap.size ≤ wr.heap.size
  row : v.ownBlock = G ∨ ∀ k, v.ownBlock = some k → w0.heap.size ≤ k
theorem DrawnK.own {w w0 wr : World} {G : Option Nat} {r : Nat} {a : Option Addr} {len cap : Nat} {v : Value} {n : Nat} {W : Instrs} (h : DrawnK w w0 wr G r a len cap v n W) : wr.ownsRow w.heap.size 89 3 v n (cellsI W) := h.d.own
theorem DrawnK.went {w w0 wr : World} {G : Option Nat} {r : Nat} {a : Option Addr} {len cap : Nat} {v : Value} {n : Nat} {W : Instrs} (h : DrawnK w w0 wr G r a len cap v n W) : Went w r a len cap wr := h.d.went
theorem DrawnK.trans {w w0 wr w1 : World} {G : Option Nat} {r : Nat} {a : Option Addr} {len cap : Nat} {v : Value} {n : Nat} {W : Instrs} (h : DrawnK w w0 wr G r a len cap v n W) (hr : r < w.heap.size) (hw : Went wr r a len cap w1) : DrawnK w w0 w1 G r a len cap v n W :=
  ⟨h.d.trans hr hw, fun i hi hn hg => (hw.grown.block i (Nat.lt_of_lt_of_le hi h.size) (fun e => hn (Option.some.inj e))).trans (h.kept i hi hn hg), Nat.le_trans h.size hw.size, h.row⟩
theorem DrawnK.alloc {w w0 wr : World} {G : Option Nat} {r : Nat} {a : Option Addr} {len cap : Nat} {v : Value} {n : Nat} {W : Instrs} (h : DrawnK w w0 wr G r a len cap v n W) (o : Obj) : DrawnK w w0 (wr.alloc o) G r a len cap v n W :=
  ⟨h.d.alloc o, fun i hi hn hg => ((World.grownBy_alloc wr o none).block i (Nat.lt_of_lt_of_le hi h.size) (by simp)).trans (h.kept i hi hn hg), Nat.le_trans h.size (by simp), h.row⟩
theorem DrawnK.add {w w0 wr w1 : World} {G : Option Nat} {r : Nat} {a : Option Addr} {len cap : Nat} {v v' : Value} {n m : Nat} {W L : Instrs} (h : DrawnK w w0 wr G r a len cap v n W) (hr : r < w.heap.size) (hL : FineI L) (hm : L.length = m)
    (hown : w1.ownsRow w.heap.size 89 3 v' (n + m) (cellsI W ++ cellsI L)) (hg : wr.grownBy w1 v.ownBlock) (hat : v'.ownBlock = v.ownBlock ∨ v'.ownBlock = some wr.heap.size) : DrawnK w w0 w1 G r a len cap v' (n + m) (W ++ L) := by
  refine ⟨h.d.add hr hL hm hown hg, fun i hi hn hG => ?_, Nat.le_trans h.size hg.size, ?_⟩
  · refine (hg.block i (Nat.lt_of_lt_of_le hi h.size) (fun e => ?_)).trans (h.kept i hi hn hG)
    rcases h.row with h1 | h1
    · exact hG (e.trans h1)
    · have := h1 i e.symm
      omega
  · rcases hat with e | e
    · rw [e]; exact h.row
    · right
      intro k hk
      rw [e] at hk
      injection hk with hk
      have := h.size
      omega
theorem DrawnK.ofPut {w w0 wr : World} {r : Nat} {a : Option Addr} {len cap n cp g : Nat} {W W' : Instrs} (h : DrawnK w w0 wr (some g) r a len cap (.slice (some ⟨g, 0, none⟩) n cp) n W) (j : Nat) (x : Value) (hd : DrawnI w (wr.setCell ⟨g, j, none⟩ x) r a len cap (.slice (some ⟨g, 0, none⟩) n cp) n W') :
    DrawnK w w0 (wr.setCell ⟨g, j, none⟩ x) (some g) r a len cap (.slice (some ⟨g, 0, none⟩) n cp) n W' :=
  ⟨hd, fun i hi hn hG => (Below.heap_setCell wr ⟨g, j, none⟩ x i (fun e => hG (by rw [e]))).trans (h.kept i hi hn hG), by simpa [World.setCell] using h.size, .inl rfl⟩
theorem DrawnK.start {w wr : World} {r : Nat} {a : Option Addr} {len cap : Nat} {v : Value} {n : Nat} {W : Instrs} (h : DrawnI w wr r a len cap v n W) : DrawnK w wr wr v.ownBlock r a len cap v n W := ⟨h, fun _ _ _ _ => rfl, Nat.le_refl _, .inl rfl⟩

/-- The end of hurting a drawn program: a drawn program. -/
def RdHurt (w0 w : World) (G : Option Nat) (r : Nat) (a : Option Addr) (len cap : Nat) (e : Ending) (w' : World) : Prop :=
  ∃ (q : Option Addr) (n cp : Nat) (W : Instrs), e = .returned (.slice q n cp) ∧ n ≤ 80 ∧ DrawnK w0 w w' G r a len cap (.slice q n cp) n W
set_option maxHeartbeats 8000000 in
theorem hurtprog_any (w w0 : World) (r : Nat) (a : Option Addr) (len cap : Nat) (q : Option Addr) (n cp : Nat) (W : Instrs) (hr : r < w.heap.size) (h : DrawnI w w0 r a len cap (.slice q n cp) n W) (hn26 : n ≤ 26) :
    Calls Tryz.prog 42 #[.pointer (some ⟨r, 0, none⟩), .slice q n cp] w0 (RdHurt w w0 (Value.slice q n cp).ownBlock r a len cap) := by
  obtain ⟨i0, hi, hz0, hz1, hz2⟩ := info_parts infoInstr
  have HRL := Lib.hid hr
  have HS := Lib.hid (DrawnK.start h)
  obtain ⟨G, hG⟩ : ∃ G, (Value.slice q n cp).ownBlock = G := ⟨_, rfl⟩
  have HGQ := Lib.hid hG
  rw [hG] at HS ⊢
  clear h hr hG
  obtain ⟨M, hM, hM1, hM2, hM3⟩ : ∃ M : Nat, (max (n : Int) 1) = (M : Int) ∧ 1 ≤ M ∧ M ≤ 26 ∧ (0 < n → M = n) := by
    by_cases h0 : n = 0
    · exact ⟨1, by subst h0; decide, by omega, by omega, by omega⟩
    · exact ⟨n, by omega, by omega, by omega, fun _ => rfl⟩
  have HM3 := Lib.hid hM3
  clear hM3
  go_enter Tryz.func42, Tryz.ntmps42
  go_wp2_with fail
  refine (below_any _ _ _ _ _ _ HS.out.went.rdr (by omega) (by omega)).mono ?_
  rintro e w1 ⟨⟨y, ha1, ha2, rfl⟩, hw⟩
  have HS := Lib.hid (HS.out.trans HRL.out hw)
  clear hw
  obtain ⟨k, rfl⟩ : ∃ k : Nat, y = (k : Int) := ⟨y.toNat, by omega⟩
  have hkM : k < M := by omega
  clear ha1 ha2 hM
  go_wp2_with fail
  refine (below_any _ _ _ _ _ _ HS.out.went.rdr (by decide) (by decide)).mono ?_
  rintro e w2 ⟨⟨x, hx1, hx2, rfl⟩, hw⟩
  have HS := Lib.hid (HS.out.trans HRL.out hw)
  clear hw
  by_cases h0 : x = 0
  · subst h0
    go_wp2_with fail
    refine (off_any _ _ _ _ _ _ _ HS.out.went.rdr (by decide) (by decide) (by decide)).mono ?_
    rintro e w3 ⟨⟨y, hy, rfl⟩, hw⟩
    have HS := Lib.hid (HS.out.trans HRL.out hw)
    clear hw hy
    have HO := Lib.hid HS.out.own
    go_wp2_with (at_builtin; (refine wpList_append_own_at _ rfl _ _ 24 rfl w.heap.size 89 i0 _ 3 32 Tryz.underlying24 hi hz0 hz1 hz2 rfl (by decide) _ _ _ rfl (HO.out.alloc _) ⟨w3.heap.size, 0, none⟩ 1 1 [.int .i64 y, .int .i64 0, .string ⟨#[]⟩] rfl rfl (three_new _ _ _ _ _) (three_cells _ _ _) (by unfold maxLen; omega) (by omega) (Nat.le_trans HS.out.went.size (by simp)) ?_); intro v' w9 hown1 hgrow hnil hat; obtain ⟨q1, cp1, rfl⟩ := own_form hown1; have HS9 := Lib.hid ((HS.out.alloc _).add (L := [(y, 0, ByteArray.empty)]) HRL.out (fine_num (in_small (by decide) (by decide)) fine_nil) rfl hown1 hgrow hat); clear hown1 hgrow hnil hat)
    go_ret
    exact ⟨q1, _, cp1, _, rfl, by omega, HS9.out⟩
  have e0 : ((x : Int) == 0) = false := by rw [beq_eq_false_iff_ne]; exact h0
  by_cases h1 : x = 1
  · subst h1
    clear e0 h0
    by_cases hn0 : 0 < n
    · have hn1 : (0 : Int) < (n : Int) := by omega
      have hkn : k < n := by have := HM3.out hn0; omega
      have hi0 : (0 : Int) ≤ (k : Int) := by omega
      have hi1 : (k : Int) < (n : Int) := by omega
      go_wp2_with fail
      refine (off_any _ _ _ _ _ _ _ HS.out.went.rdr (by decide) (by decide) (by decide)).mono ?_
      rintro e w3 ⟨⟨y, hy, rfl⟩, hw⟩
      have HS := Lib.hid (HS.out.trans HRL.out hw)
      have HY := Lib.hid (wf_in64 hy)
      obtain ⟨g, rfl, hg, ⟨v1, hc1⟩, _, hfz⟩ := HS.out.d.place hkn
      have HG := Lib.hid hg
      obtain rfl := HGQ.out
      have hf1 := hfz (k * 3 + 1)
      clear hw hy hg hfz
      go_wp2
      go_ret
      exact ⟨_, n, cp, _, rfl, by omega, HS.out.ofPut _ _ (HS.out.d.setN HRL.out HG.out hkn HY.out)⟩
    · have hn1 : ¬ (0 : Int) < (n : Int) := by omega
      go_wp2
      go_ret
      exact ⟨q, n, cp, W, rfl, by omega, HS.out⟩
  have e1 : ((x : Int) == 1) = false := by rw [beq_eq_false_iff_ne]; exact h1
  by_cases h2 : x = 2
  · subst h2
    clear e0 h0 e1 h1
    by_cases hn0 : 0 < n
    · have hn1 : (0 : Int) < (n : Int) := by omega
      have hkn : k < n := by have := HM3.out hn0; omega
      have hi0 : (0 : Int) ≤ (k : Int) := by omega
      have hi1 : (k : Int) < (n : Int) := by omega
      go_wp2_with fail
      refine (below_any _ _ _ _ _ _ (HS.out.alloc _).went.rdr (by decide) (by decide)).mono ?_
      rintro e w3 ⟨⟨y, hy1, hy2, rfl⟩, hw⟩
      obtain ⟨u, hu, hcu⟩ := tab_cell (m := 21) (hw.block (k := w2.heap.size) (heap_alloc_new _ _) (Nat.ne_of_gt HS.out.went.rdr.lt)) (by decide) y hy1 (by show y < 3; omega)
      have HS := Lib.hid ((HS.out.alloc _).trans HRL.out hw)
      have HU := Lib.hid hu
      obtain ⟨g, rfl, hg, _, ⟨v2, hc2⟩, hfz⟩ := HS.out.d.place hkn
      have HG := Lib.hid hg
      obtain rfl := HGQ.out
      have hf2 := hfz (k * 3 + 2)
      clear hw hu hg hfz
      go_wp2
      go_ret
      exact ⟨_, n, cp, _, rfl, by omega, HS.out.ofPut _ _ (HS.out.d.setS HRL.out HG.out hkn (Nat.le_trans HU.out (by decide)))⟩
    · have hn1 : ¬ (0 : Int) < (n : Int) := by omega
      go_wp2
      go_ret
      exact ⟨q, n, cp, W, rfl, by omega, HS.out⟩
  have e2 : ((x : Int) == 2) = false := by rw [beq_eq_false_iff_ne]; exact h2
  by_cases h3 : x = 3
  · subst h3
    clear e0 h0 e1 h1 e2 h2
    go_wp2
    go_loopw [1, 6] (fun v i wr => ∃ (j m : Nat) (q : Option Addr) (cp : Nat) (W : Instrs), j ≤ 16 ∧ i = .int .i64 j ∧ v = .slice q m cp ∧ m ≤ 26 + 3 * j ∧ Hid (DrawnK w w0 wr G r a len cap (.slice q m cp) m W)) (fun _ i _ => 16 - (intOf i).toNat)
    case atStart => exact ⟨0, n, q, cp, W, by omega, rfl, rfl, by omega, HS⟩
    case round =>
      clear HS
      obtain ⟨j, m, q, cp, W, hj, rfl, rfl, hm, HS⟩ := hrel
      by_cases hj16 : j < 16
      · have hj1 : (j : Int) < 16 := by omega
        go_wp2_with fail
        refine (below_any _ _ _ _ _ _ HS.out.went.rdr (by decide) (by decide)).mono ?_
        rintro e w3 ⟨⟨y, hy1, hy2, rfl⟩, hw⟩
        have HS := Lib.hid (HS.out.trans HRL.out hw)
        clear hw
        by_cases hmy : (m : Int) < 30 + y
        · have HO := Lib.hid HS.out.own
          go_wp2_with (at_builtin; (refine wpList_append_own_at _ rfl _ _ 24 rfl w.heap.size 89 i0 _ 3 32 Tryz.underlying24 hi hz0 hz1 hz2 rfl (by decide) _ _ _ rfl (HO.out.alloc _) ⟨w3.heap.size, 0, none⟩ 3 3 [.int .i64 2, .int .i64 0, .string ⟨#[]⟩, .int .i64 3, .int .i64 0, .string ⟨#[]⟩, .int .i64 13, .int .i64 0, .string ⟨#[]⟩] rfl rfl (lit_new _ _ _) (cellsI_one [(2, 0, ByteArray.empty), (3, 0, ByteArray.empty), (13, 0, ByteArray.empty)]) (by unfold maxLen; omega) (by omega) (Nat.le_trans HS.out.went.size (by simp)) ?_); intro v' w9 hown1 hgrow hnil hat; obtain ⟨q1, cp1, rfl⟩ := own_form hown1; have HS9 := Lib.hid ((HS.out.alloc _).add (L := [(2, 0, ByteArray.empty), (3, 0, ByteArray.empty), (13, 0, ByteArray.empty)]) HRL.out (fine_num (in_small (by decide) (by decide)) (fine_num (in_small (by decide) (by decide)) (fine_num (in_small (by decide) (by decide)) fine_nil))) rfl hown1 hgrow hat); clear hown1 hgrow hnil hat)
          go_roundw
          case rel => exact ⟨j + 1, m + 3, q1, cp1, _, by omega, by go_num, rfl, by omega, HS9⟩
          case measure => simp [intOf]; omega
        · go_wp2
          go_ret
          exact ⟨q, m, cp, W, rfl, by omega, HS.out⟩
      · have hj1 : ¬ (j : Int) < 16 := by omega
        go_wp2
        go_ret
        exact ⟨q, m, cp, W, rfl, by omega, HS.out⟩
  have e3 : ((x : Int) == 3) = false := by rw [beq_eq_false_iff_ne]; exact h3
  clear h0 h1 h2 h3
  go_wp2
  go_ret
  exact ⟨q, n, cp, W, rfl, by omega, HS.out⟩
end Go.Proofs.YtjofbeokkainlaaGreatDoor
namespace Go.Proofs.YtjofbeokkainlaaGreatDoor
open Go.ChangeShapes Go.WideShapes Go.ChangeAt Go.RowKit
set_option linter.unusedVariables false
set_option maxRecDepth 100000

theorem DrawnI.ins {w wr : World} {r : Nat} {a : Option Addr} {len cap n cp : Nat} {q : Option Addr} {W : Instrs} (h : DrawnI w wr r a len cap (.slice q n cp) n W) (hn : n ≤ 80) : InstrsAt wr q n W ∧ ∀ i, i < n → In64 (ins1 W i) :=
  ⟨own_inss h.own h.size (by unfold maxLen; omega) (fun i hi => by have := (fine_at h.fine (k := i) (by rw [h.size]; exact hi)).2; unfold maxLen; omega), fun i hi => (fine_at h.fine (by rw [h.size]; exact hi)).1⟩
/-- A drawn program. -/
def DrewProg (w : World) (e : Ending) (w' : World) : Prop := ∃ (q : Option Addr) (n cp : Nat) (W : Instrs), e = .returned (.slice q n cp) ∧ n ≤ 80 ∧ InstrsAt w' q n W ∧ (∀ i, i < n → In64 (ins1 W i)) ∧ Below w.heap.size w w'
theorem progTx_size {l : Instrs} (hn : ∀ i, i < l.length → In64 (ins1 l i)) : (progTx l).size ≤ 690 := by
  unfold progTx
  split
  · rename_i h
    have := progTo_size h hn _ (Nat.le_refl _)
    have := prog_few h
    omega
  · exact Nat.zero_le _
/-- A drawn text. -/
def DrewTx (m : Nat) (w : World) (e : Ending) (w' : World) : Prop := ∃ t : ByteArray, t.size ≤ m ∧ e = .returned (.string t) ∧ Below w.heap.size w w'
end Go.Proofs.YtjofbeokkainlaaGreatDoor
namespace Go.Proofs.YtjofbeokkainlaaGreatDoor
open Go.ChangeShapes Go.WideShapes Go.ChangeAt Go.RowKit
set_option linter.unusedVariables false
set_option maxRecDepth 100000

structure DrawnJ (w wr : World) (r : Nat) (a : Option Addr) (len cap : Nat) (pv : Value) (pn : Nat) (W : Instrs) (sv : Value) (sn : Nat) (M : Strs) : Prop where
  d : DrawnI w wr r a len cap pv pn W
  own : wr.ownsRow w.heap.size 9 1 sv sn (M.map Value.string)
  size : M.length = sn
  short : ∀ x ∈ M, x.size ≤ 5000
  apart : ∀ g, pv.ownBlock = some g → sv.ownBlock ≠ some g
section
variable {w wr w1 : World} {r : Nat} {a : Option Addr} {len cap : Nat} {pv : Value} {pn : Nat} {W : Instrs} {sv : Value} {sn : Nat} {M : Strs}
theorem DrawnJ.trans (h : DrawnJ w wr r a len cap pv pn W sv sn M) (hr : r < w.heap.size) (hw : Went wr r a len cap w1) : DrawnJ w w1 r a len cap pv pn W sv sn M :=
  ⟨h.d.trans hr hw, own_went h.own hw hr, h.size, h.short, h.apart⟩
theorem DrawnI.below (h : DrawnI w wr r a len cap pv pn W) (hB : Below wr.heap.size wr w1) (hr : r < w.heap.size) : DrawnI w w1 r a len cap pv pn W :=
  ⟨own_below h.own hB, h.size, went_row h.went (row := none) ⟨hB.os, hB.tape, hB.output, hB.size, fun k hk _ => hB.block k hk⟩ hr (fun k hk => by cases hk), h.fine⟩
theorem DrawnJ.below (h : DrawnJ w wr r a len cap pv pn W sv sn M) (hB : Below wr.heap.size wr w1) (hr : r < w.heap.size) : DrawnJ w w1 r a len cap pv pn W sv sn M :=
  ⟨h.d.below hB hr, own_below h.own hB, h.size, h.short, h.apart⟩
theorem DrawnI.setOther {J : Nat} (h : DrawnI w wr r a len cap pv pn W) (hr : r < w.heap.size) (hJ : w.heap.size ≤ J) (hp : pv.ownBlock ≠ some J) (j : Nat) (v : Value) : DrawnI w (wr.setCell ⟨J, j, none⟩ v) r a len cap pv pn W :=
  ⟨h.own.kept (row := some J) (grown_setCell (World.grownBy.refl _ _) _ _) (.inr hp), h.size, h.went.put hJ (by omega) j v, h.fine⟩
theorem DrawnJ.setOther {J : Nat} (h : DrawnJ w wr r a len cap pv pn W sv sn M) (hr : r < w.heap.size) (hJ : w.heap.size ≤ J) (hp : pv.ownBlock ≠ some J) (hs : sv.ownBlock ≠ some J) (j : Nat) (v : Value) : DrawnJ w (wr.setCell ⟨J, j, none⟩ v) r a len cap pv pn W sv sn M :=
  ⟨h.d.setOther hr hJ hp j v, h.own.kept (row := some J) (grown_setCell (World.grownBy.refl _ _) _ _) (.inr hs), h.size, h.short, h.apart⟩
theorem DrawnJ.add {sv' : Value} {T : ByteArray} {o : Obj} (h : DrawnJ w wr r a len cap pv pn W sv sn M) (hr : r < w.heap.size) (hT : T.size ≤ 5000)
    (hown : w1.ownsRow w.heap.size 9 1 sv' (sn + 1) (M.map Value.string ++ [.string T])) (hg : (wr.alloc o).grownBy w1 sv.ownBlock) (hat : sv'.ownBlock = sv.ownBlock ∨ sv'.ownBlock = some (wr.alloc o).heap.size) : DrawnJ w w1 r a len cap pv pn W sv' (sn + 1) (M ++ [T]) := by
  have hrow : ∀ k, sv.ownBlock = some k → w.heap.size ≤ k := fun k hk => (h.own.lt k hk).1
  refine ⟨⟨(h.d.own.alloc o).kept hg ?_, h.d.size, went_row (h.d.went.alloc o) hg hr hrow, h.d.fine⟩, by simpa using hown, by rw [List.length_append, h.size]; rfl, fun x hx => ?_, fun g hpg e => ?_⟩
  · cases hp : pv.ownBlock with
    | none => exact .inl rfl
    | some g => exact .inr (fun e => h.apart g hp e.symm)
  · rcases List.mem_append.1 hx with e | e
    · exact h.short x e
    · simp only [List.mem_singleton] at e
      rw [e]; exact hT
  · rcases hat with e2 | e2
    · rw [e2] at e; exact h.apart g hpg e
    · rw [e2] at e
      injection e with e
      have := (h.d.own.lt g hpg).2
      simp at e
      omega
end
theorem own_wider {w : World} {base base' : Nat} {e : TypeId} {size : Nat} {v : Value} {n : Nat} {xs : List Value} (h : w.ownsRow base' e size v n xs) (hb : base ≤ base') : w.ownsRow base e size v n xs := by
  refine ⟨h.1, ?_⟩
  rcases h.2 with h1 | ⟨g, cap, cur, h1, h2, h3⟩
  · exact .inl h1
  · exact .inr ⟨g, cap, cur, h1, Nat.le_trans hb h2, h3⟩
theorem DrawnJ.wider {w wb wr : World} {r : Nat} {a : Option Addr} {len cap : Nat} {pv : Value} {pn : Nat} {W : Instrs} {sv : Value} {sn : Nat} {M : Strs} (h : DrawnJ wb wr r a len cap pv pn W sv sn M) (hw : Went w r a len cap wb) : DrawnJ w wr r a len cap pv pn W sv sn M :=
  ⟨⟨own_wider h.d.own hw.size, h.d.size, hw.trans h.d.went, h.d.fine⟩, own_wider h.own hw.size, h.size, h.short, h.apart⟩
/-- The end of drawing a job. -/
def RdJob (w : World) (r : Nat) (a : Option Addr) (len cap : Nat) (e : Ending) (w' : World) : Prop :=
  ∃ (pq : Option Addr) (pn pc : Nat) (W : Instrs) (sq : Option Addr) (sn sc : Nat) (M : Strs) (e1 : Bool) (o1 n1 : Int), e = .returned (.agg #[.slice pq pn pc, .bool e1, .int .i64 o1, .int .i64 n1, .slice sq sn sc]) ∧ pn ≤ 26 ∧ sn ≤ 3 ∧ DrawnJ w w' r a len cap (.slice pq pn pc) pn W (.slice sq sn sc) sn M
theorem Row.went {w w1 : World} {r B : Nat} {a : Option Addr} {len cap : Nat} {E : TypeId} {cur : Array Value} (h : Row w B E cur) (hw : Went w r a len cap w1) (hne : B ≠ r) : Row w1 B E cur := hw.block h hne

set_option maxHeartbeats 8000000 in
theorem rjob_any (w : World) (r : Nat) (a : Option Addr) (len cap : Nat) (h : Rdr w r a len cap) :
    Calls Tryz.prog 20 #[.pointer (some ⟨r, 0, none⟩)] w (RdJob w r a len cap) := by
  obtain ⟨i0, hi, hz0, hz1, hz2⟩ := info_parts infoStr
  obtain ⟨wb, hwb⟩ : ∃ wb, w.alloc (.cells #[.slice none 0 0, .bool false, .int .i64 0, .int .i64 0, .slice none 0 0] 27) = wb := ⟨_, rfl⟩
  have HWB := Lib.hid hwb
  obtain ⟨R, hR⟩ : ∃ R, w.heap.size = R := ⟨_, rfl⟩
  have HRR := Lib.hid (show Row wb R 27 #[.slice none 0 0, .bool false, .int .i64 0, .int .i64 0, .slice none 0 0] from by rw [← hwb, ← hR]; exact row_new _ _ _)
  have HBB := Lib.hid (show Below w.heap.size w wb from hwb ▸ below_alloc (Below.refl _ _) _)
  have HRr := Lib.hid (show R ≠ r by have := h.lt; omega)
  have HRW := Lib.hid (show r < R by have := h.lt; omega)
  have HRB := Lib.hid (show R < wb.heap.size by have := HRR.out.lt; exact this)
  have HRL := Lib.hid (show r < wb.heap.size by have := h.lt; have := HRB.out; omega)
  have HRD := Lib.hid (show Rdr wb r a len cap from hwb ▸ h.alloc _)
  have HWW := Lib.hid (show Went w r a len cap wb from hwb ▸ (Went.refl h).alloc _)
  have HRE := Lib.hid hR
  clear h hwb
  go_enter Tryz.func20, Tryz.ntmps20
  go_wp2_with fail
  rw [HWB.out]
  clear hR
  refine (rprog_any _ _ _ _ _ HRD.out).mono ?_
  rintro e w1 ⟨pq, pn, pc, W, rfl, _, hpn, hd⟩
  have HD := Lib.hid hd
  have HRR := Lib.hid (HRR.out.went hd.went HRr.out)
  clear hd
  go_wp2_with fail
  refine (once_any _ _ _ _ _ _ HD.out.went.rdr (by decide) (by decide)).mono ?_
  rintro e w2 ⟨⟨e1, rfl⟩, hw⟩
  have HD := Lib.hid (HD.out.trans HRL.out hw)
  have HRR := Lib.hid (HRR.out.went hw HRr.out)
  clear hw
  go_wp2_with fail
  refine (below_any _ _ _ _ _ _ HD.out.went.rdr (by decide) (by decide)).mono ?_
  rintro e w3 ⟨⟨y, hy1, hy2, rfl⟩, hw⟩
  have HD := Lib.hid (HD.out.trans HRL.out hw)
  have HRR := Lib.hid (HRR.out.went hw HRr.out)
  clear hw
  go_wp2_with fail
  refine (below_any _ _ _ _ _ _ HD.out.went.rdr (by decide) (by decide)).mono ?_
  rintro e w4 ⟨⟨z, hz1', hz2', rfl⟩, hw⟩
  have HD := Lib.hid (HD.out.trans HRL.out hw)
  have HRR := Lib.hid (HRR.out.went hw HRr.out)
  clear hw
  go_wp2_with fail
  obtain ⟨J, hJ⟩ : ∃ J, w4.heap.size = J := ⟨_, rfl⟩
  have HJb := Lib.hid (show wb.heap.size ≤ J by rw [← hJ]; exact HD.out.went.size)
  have HJp := Lib.hid (show (Value.slice pq pn pc).ownBlock ≠ some J from fun e => by have := (HD.out.own.lt J e).2; omega)
  have HJr := Lib.hid (show J ≠ r by have := HRL.out; have := HJb.out; omega)
  have HJR := Lib.hid (show R ≠ J by have := HRB.out; have := HJb.out; omega)
  refine (below_any _ _ _ _ _ _ (HD.out.alloc _).went.rdr (by decide) (by decide)).mono ?_
  rintro e w5 ⟨⟨x, hx1, hx2, rfl⟩, hw⟩
  have HD := Lib.hid ((HD.out.alloc _).trans HRL.out hw)
  have HRR := Lib.hid ((HRR.out.al _).went hw HRr.out)
  have HRJ := Lib.hid ((show Row _ J _ _ from hJ ▸ row_new w4 #[.slice pq pn pc, .bool e1, .int .i64 (1 + y), .int .i64 (1 + z), .slice none 0 0] 27).went hw HJr.out)
  have HS := Lib.hid (show DrawnJ wb w5 r a len cap (.slice pq pn pc) pn W (.slice none 0 0) 0 [] from ⟨HD.out, ⟨rfl, .inl ⟨rfl, rfl⟩⟩, rfl, by simp, fun g hg e => by cases e⟩)
  rw [hJ]
  clear hw hJ HD
  go_wp2_with fail
  go_loopw [4] (fun i wr => ∃ (k sn : Nat) (sq : Option Addr) (sc : Nat) (M : Strs), i = .int .i64 k ∧ sn + k ≤ 3 ∧ Hid (DrawnJ wb wr r a len cap (.slice pq pn pc) pn W (.slice sq sn sc) sn M) ∧ Hid (Row wr R 27 #[.slice none 0 0, .bool false, .int .i64 0, .int .i64 0, .slice none 0 0]) ∧ Hid (Row wr J 27 #[.slice pq pn pc, .bool e1, .int .i64 (1 + y), .int .i64 (1 + z), .slice sq sn sc]) ∧ Hid ((Value.slice sq sn sc).ownBlock ≠ some J)) (fun i _ => (intOf i).toNat)
  case atStart => exact ⟨(1 + x).toNat, 0, none, 0, [], by rw [Int.toNat_of_nonneg (by omega)], by omega, HS, HRR, HRJ, Lib.hid (by intro e; cases e)⟩
  case round =>
    clear HS HRR HRJ
    obtain ⟨k, sn, sq, sc, M, rfl, hk, HS, HRR, HRJ, HSJ⟩ := hrel
    by_cases hk0 : 0 < k
    · obtain ⟨m, rfl⟩ : ∃ m, k = m + 1 := ⟨k - 1, by omega⟩
      go_wp2_with fail
      refine (linesofd_any _ _ _ _ _ HS.out.d.went.rdr).mono ?_
      rintro e w6 ⟨lq, lcp, L, rfl, hL12, hdl⟩
      have HST := Lib.hid (hdl.strs hL12)
      have HLZ := Lib.hid (linesTx_size hL12 hdl.short)
      have HS := Lib.hid (HS.out.trans HRL.out hdl.went)
      have HRR := Lib.hid (HRR.out.went hdl.went HRr.out)
      have HRJ := Lib.hid (HRJ.out.went hdl.went HJr.out)
      clear hdl
      go_wp2_with fail
      refine (slinestext_any lq L.length lcp L _ HST.out).mono ?_
      rintro e w7 ⟨rfl, hB⟩
      have HS := Lib.hid (HS.out.below hB HRL.out)
      have HRR := Lib.hid (HRR.out.keep hB)
      have HRJ := Lib.hid (HRJ.out.keep hB)
      obtain ⟨T, hT⟩ : ∃ T, (if rightB L = true then linesTx L else ByteArray.empty) = T := ⟨_, rfl⟩
      obtain ⟨b, hb⟩ : ∃ b, rightB L = b := ⟨_, rfl⟩
      have HTZ := Lib.hid (show T.size ≤ 5000 by
        rw [← hT]
        split
        · have := HLZ.out; omega
        · exact Nat.zero_le _)
      rw [hT, hb]
      have y4 := HRJ.out.cell (j := 4) (by simp)
      simp at y4
      have HO := Lib.hid HS.out.own
      clear hB hT hb HST
      go_wp2_with (at_builtin; (refine wpList_append_own_at _ rfl _ _ 25 rfl wb.heap.size 9 i0 _ 1 16 Tryz.underlying25 hi hz0 hz1 hz2 rfl (by decide) _ _ _ rfl (HO.out.alloc _) ⟨w7.heap.size, 0, none⟩ 1 1 [.string T] rfl rfl (one_new _ _ _) (fun u hu => by simp at hu; subst hu; rfl) (by unfold maxLen; omega) (by omega) (Nat.le_trans HS.out.d.went.size (by simp)) ?_); intro v' w8 hown1 hgrow hnil hat; obtain ⟨q1, cp1, rfl⟩ := own_form hown1; have HJ8 := Lib.hid ((HRJ.out.al _).grown hgrow (fun e => HSJ.out e)); have HR8 := Lib.hid ((HRR.out.al _).grown hgrow (fun e => by have h1 := (HO.out.lt R e).1; have h2 := HRB.out; omega)); have HS8 := Lib.hid (HS.out.add HRL.out HTZ.out hown1 hgrow hat); have HSJ8 := Lib.hid (show (Value.slice q1 (sn + 1) cp1).ownBlock ≠ some J from fun e => by rcases hat with h1 | h1 <;> rw [h1] at e <;> first | exact HSJ.out e | (injection e with e; have h3 := HRJ.out.lt; simp at e; omega)); have z4 := HJ8.out.cell (j := 4) (by simp); have f4 := HJ8.out.free 4; simp at z4; clear hown1 hgrow hnil hat y4)
      go_roundw
      case rel => exact ⟨m, sn + 1, q1, cp1, _, by go_num, by omega, Lib.hid (HS8.out.setOther HRL.out HJb.out HJp.out HSJ8.out _ _), Lib.hid (HR8.out.other HJR.out _ _), Lib.hid (HJ8.out.set 4 _), HSJ8⟩
      case measure => simp [intOf]
    · obtain rfl : k = 0 := by omega
      have y0 := HRJ.out.cell (j := 0) (by simp)
      have y1 := HRJ.out.cell (j := 1) (by simp)
      have y2 := HRJ.out.cell (j := 2) (by simp)
      have y3 := HRJ.out.cell (j := 3) (by simp)
      have y4 := HRJ.out.cell (j := 4) (by simp)
      have r0 := HRR.out.cell (j := 0) (by simp)
      have r1 := HRR.out.cell (j := 1) (by simp)
      have r2 := HRR.out.cell (j := 2) (by simp)
      have r3 := HRR.out.cell (j := 3) (by simp)
      have r4 := HRR.out.cell (j := 4) (by simp)
      have f0 := HRR.out.free 0
      have f1 := HRR.out.free 1
      have f2 := HRR.out.free 2
      have f3 := HRR.out.free 3
      have f4 := HRR.out.free 4
      simp at y0 y1 y2 y3 y4 r0 r1 r2 r3 r4
      go_wp2
      have hrw : r < w.heap.size := by have h1 := HRE.out; have h2 := HRW.out; omega
      have hpR : (Value.slice pq pn pc).ownBlock ≠ some R := fun e => by have h1 := (HS.out.d.own.lt R e).1; have h2 := HRB.out; omega
      have hsR : (Value.slice sq sn sc).ownBlock ≠ some R := fun e => by have h1 := (HS.out.own.lt R e).1; have h2 := HRB.out; omega
      have hbR : w.heap.size ≤ R := by rw [HRE.out]; exact Nat.le_refl _
      have hbF := ((((HRR.out.set 0 (.slice pq pn pc)).set 1 (.bool e1)).set 2 (.int .i64 (1 + y))).set 3 (.int .i64 (1 + z))).set 4 (.slice sq sn sc)
      unfold Row at hbF
      exact bodyPost_ret (v := .agg #[.slice pq pn pc, .bool e1, .int .i64 (1 + y), .int .i64 (1 + z), .slice sq sn sc]) (by simp [results, Tryz.results20, go_sem, World.cell?, hbF]) rfl
        ⟨pq, pn, pc, W, sq, sn, sc, M, e1, 1 + y, 1 + z, rfl, hpn, by omega, (((((HS.out.wider HWW.out).setOther hrw hbR hpR hsR 0 _).setOther hrw hbR hpR hsR 1 _).setOther hrw hbR hpR hsR 2 _).setOther hrw hbR hpR hsR 3 _).setOther hrw hbR hpR hsR 4 _⟩
end Go.Proofs.YtjofbeokkainlaaGreatDoor
namespace Go.Proofs.YtjofbeokkainlaaGreatDoor
open Go.ChangeShapes Go.WideShapes Go.ChangeAt Go.RowKit
set_option linter.unusedVariables false
set_option maxRecDepth 100000

structure DrawnF (w wr : World) (r : Nat) (a : Option Addr) (len cap : Nat) (pv : Value) (pn : Nat) (W : Instrs) (sv : Value) (sn : Nat) (M : Strs) : Prop where
  d : DrawnI w wr r a len cap pv pn W
  own : wr.ownsRow w.heap.size 9 1 sv sn (M.map Value.string)
  size : M.length = sn
  short : ∀ x ∈ M, x.size ≤ 5000
section
variable {w wr w1 : World} {r : Nat} {a : Option Addr} {len cap : Nat} {pv : Value} {pn : Nat} {W : Instrs} {sv : Value} {sn : Nat} {M : Strs}
theorem DrawnJ.f (h : DrawnJ w wr r a len cap pv pn W sv sn M) : DrawnF w wr r a len cap pv pn W sv sn M := ⟨h.d, h.own, h.size, h.short⟩
theorem DrawnJ.alloc (h : DrawnJ w wr r a len cap pv pn W sv sn M) (o : Obj) : DrawnJ w (wr.alloc o) r a len cap pv pn W sv sn M := ⟨h.d.alloc o, h.own.alloc o, h.size, h.short, h.apart⟩
theorem DrawnF.setOther {J : Nat} (h : DrawnF w wr r a len cap pv pn W sv sn M) (hr : r < w.heap.size) (hJ : w.heap.size ≤ J) (hp : pv.ownBlock ≠ some J) (hs : sv.ownBlock ≠ some J) (j : Nat) (v : Value) : DrawnF w (wr.setCell ⟨J, j, none⟩ v) r a len cap pv pn W sv sn M :=
  ⟨h.d.setOther hr hJ hp j v, h.own.kept (row := some J) (grown_setCell (World.grownBy.refl _ _) _ _) (.inr hs), h.size, h.short⟩
theorem own_same {wa wb : World} {base : Nat} {e : TypeId} {size : Nat} {v : Value} {n : Nat} {xs : List Value} (h : wa.ownsRow base e size v n xs) (hk : ∀ g, v.ownBlock = some g → wb.heap[g]? = wa.heap[g]?) : wb.ownsRow base e size v n xs := by
  refine ⟨h.1, ?_⟩
  rcases h.2 with h1 | ⟨g, cp, cur, rfl, h2, h3, h4⟩
  · exact .inl h1
  · exact .inr ⟨g, cp, cur, rfl, h2, (hk g rfl).trans h3, h4⟩
end
theorem DrawnF.job {w wr : World} {r : Nat} {a : Option Addr} {len cap pn pc sn sc : Nat} {pq sq : Option Addr} {W : Instrs} {M : Strs} (h : DrawnF w wr r a len cap (.slice pq pn pc) pn W (.slice sq sn sc) sn M) (hp : pn ≤ 80) (hs : sn ≤ 5) : JobAt wr pq pn W sq sn M ∧ ∀ i, i < sn → (strAt M i).size ≤ 5000 := by
  refine ⟨⟨(h.d.ins hp).1, strs_of_own h.own h.size (by unfold maxLen; omega) (fun x hx => by have := h.short x hx; unfold maxLen; omega)⟩, fun i hi => ?_⟩
  have hl := h.size
  unfold strAt
  rw [List.getD_eq_getElem?_getD, List.getElem?_eq_getElem (by omega)]
  exact h.short _ (List.getElem_mem _)
theorem made_strs (n : Nat) : (madeCells (Value.string ByteArray.empty).cells (n * 1)).toList = (List.replicate n ByteArray.empty).map Value.string := by
  refine List.ext_getElem? fun i => ?_
  by_cases hi : i < n
  · simp [madeCells, Value.cells, hi, Nat.mod_one]
  · rw [List.getElem?_eq_none (by simp [madeCells]; omega), List.getElem?_eq_none (by simp; omega)]

/-- The end of drawing a job that may be hurt: one that may be read. -/
def RdHurtJ (w : World) (r : Nat) (a : Option Addr) (len cap : Nat) (e : Ending) (w' : World) : Prop :=
  ∃ (pq : Option Addr) (pn pc : Nat) (W : Instrs) (sq : Option Addr) (sn sc : Nat) (M : Strs) (e1 : Bool) (o1 n1 : Int), e = .returned (.agg #[.slice pq pn pc, .bool e1, .int .i64 o1, .int .i64 n1, .slice sq sn sc]) ∧ JobAt w' pq pn W sq sn M ∧ sn ≤ 5 ∧ (∀ i, i < sn → (strAt M i).size ≤ 5000) ∧ (∀ b off, pq = some ⟨b, off, none⟩ → w.heap.size ≤ b) ∧ (∀ b off, sq = some ⟨b, off, none⟩ → w.heap.size ≤ b) ∧ Went w r a len cap w' ∧ ∀ i, i < pn → In64 (ins1 W i)
theorem own_ge {w : World} {base : Nat} {e : TypeId} {size : Nat} {q : Option Addr} {n cp : Nat} {xs : List Value} (h : w.ownsRow base e size (.slice q n cp) n xs) : ∀ b off, q = some ⟨b, off, none⟩ → base ≤ b := fun b off hq => by
  subst hq
  exact (h.lt b rfl).1
set_option maxHeartbeats 16000000 in
theorem hurtjob_any (w w0 : World) (r : Nat) (a : Option Addr) (len cap : Nat) (pq : Option Addr) (pn pc : Nat) (W : Instrs) (sq : Option Addr) (sn sc : Nat) (M : Strs) (e1 : Bool) (o1 n1 : Int) (hr : r < w.heap.size) (h : DrawnJ w w0 r a len cap (.slice pq pn pc) pn W (.slice sq sn sc) sn M) (hpn : pn ≤ 26) (hsn : sn ≤ 3) :
    Calls Tryz.prog 19 #[.pointer (some ⟨r, 0, none⟩), .agg #[.slice pq pn pc, .bool e1, .int .i64 o1, .int .i64 n1, .slice sq sn sc]] w0 (RdHurtJ w r a len cap) := by
  obtain ⟨i0, hi, hz0, hz1, hz2⟩ := info_parts infoStr
  obtain ⟨X, hX⟩ : ∃ X, w0.heap.size = X := ⟨_, rfl⟩
  obtain ⟨w1, hw1⟩ : ∃ w1, (w0.alloc (.cells #[.slice pq pn pc, .bool e1, .int .i64 o1, .int .i64 n1, .slice sq sn sc] 27)).alloc (.cells #[.slice none 0 0, .bool false, .int .i64 0, .int .i64 0, .slice none 0 0] 27) = w1 := ⟨_, rfl⟩
  have HW1 := Lib.hid hw1
  have HXX := Lib.hid (show Row w1 X 27 #[.slice pq pn pc, .bool e1, .int .i64 o1, .int .i64 n1, .slice sq sn sc] from by rw [← hw1, ← hX]; exact (row_new _ _ _).al _)
  have HRR := Lib.hid (show Row w1 (X + 1) 27 #[.slice none 0 0, .bool false, .int .i64 0, .int .i64 0, .slice none 0 0] from by rw [← hw1, ← hX]; exact row_new1 _ _ _ _)
  have HS := Lib.hid (show DrawnJ w w1 r a len cap (.slice pq pn pc) pn W (.slice sq sn sc) sn M from hw1 ▸ (h.alloc _).alloc _)
  have HRL := Lib.hid hr
  have HwX := Lib.hid (show w.heap.size ≤ X by rw [← hX]; exact h.d.went.size)
  have HpX := Lib.hid (show ∀ g, (Value.slice pq pn pc).ownBlock = some g → g < X from fun g hg => by rw [← hX]; exact (h.d.own.lt g hg).2)
  have HsX := Lib.hid (show ∀ g, (Value.slice sq sn sc).ownBlock = some g → g < X from fun g hg => by rw [← hX]; exact (h.own.lt g hg).2)
  have HX1 := Lib.hid (show w1.heap.size = X + 2 by rw [← hw1, ← hX]; simp)
  have HXr := Lib.hid (show X ≠ r ∧ X + 1 ≠ r by have := HwX.out; omega)
  go_enter Tryz.func19, Tryz.ntmps19
  go_wp2_with fail
  clear hX hw1 h hr
  refine (below_any _ _ _ _ _ _ HS.out.d.went.rdr (by decide) (by decide)).mono ?_
  rintro e w2 ⟨⟨x, hx1, hx2, rfl⟩, hw⟩
  have HS := Lib.hid (HS.out.trans HRL.out hw)
  have HXX := Lib.hid (HXX.out.went hw HXr.out.1)
  have HRR := Lib.hid (HRR.out.went hw HXr.out.2)
  have HX2 := Lib.hid (show X + 2 ≤ w2.heap.size by rw [← HX1.out]; exact hw.size)
  clear hw
  by_cases h0 : x = 0
  · subst h0
    have y0 := HXX.out.cell (j := 0) (by simp)
    have y1 := HXX.out.cell (j := 1) (by simp)
    have y2 := HXX.out.cell (j := 2) (by simp)
    have y3 := HXX.out.cell (j := 3) (by simp)
    have y4 := HXX.out.cell (j := 4) (by simp)
    simp at y0 y1 y2 y3 y4
    go_wp2_with fail
    refine (hurtprog_any w w2 r a len cap pq pn pc W HRL.out HS.out.d hpn).mono ?_
    rintro e w3 ⟨q3, n3, c3, W3, rfl, hn3, hk⟩
    have HK := Lib.hid hk
    have HXX := Lib.hid (show Row w3 X _ _ from (hk.kept X (by have := HX2.out; omega) HXr.out.1 (fun e => by have := HpX.out _ e.symm; omega)).trans HXX.out)
    have HRR := Lib.hid (show Row w3 (X + 1) _ _ from (hk.kept (X + 1) (by have := HX2.out; omega) HXr.out.2 (fun e => by have := HpX.out _ e.symm; omega)).trans HRR.out)
    have HO := Lib.hid (own_same HS.out.own (fun g hg => hk.kept g (HS.out.own.lt g hg).2 (by have h1 := (HS.out.own.lt g hg).1; have h2 := HRL.out; omega) (fun e => HS.out.apart g e.symm hg)))
    have HPX3 := Lib.hid (show ∀ g, (Value.slice q3 n3 c3).ownBlock = some g → g ≠ X ∧ g ≠ X + 1 from fun g hg => by
      rcases hk.row with h1 | h1
      · have := HpX.out g (h1 ▸ hg); omega
      · have h2 := h1 g hg; have h3 := HX2.out; omega)
    clear hk y0 y1 y2 y3 y4
    have y0 := HXX.out.cell (j := 0) (by simp)
    have y1 := HXX.out.cell (j := 1) (by simp)
    have y2 := HXX.out.cell (j := 2) (by simp)
    have y3 := HXX.out.cell (j := 3) (by simp)
    have y4 := HXX.out.cell (j := 4) (by simp)
    simp at y0 y1 y2 y3 y4
    have r0 := HRR.out.cell (j := 0) (by simp)
    have r1 := HRR.out.cell (j := 1) (by simp)
    have r2 := HRR.out.cell (j := 2) (by simp)
    have r3 := HRR.out.cell (j := 3) (by simp)
    have r4 := HRR.out.cell (j := 4) (by simp)
    simp at r0 r1 r2 r3 r4
    have f0 := HRR.out.free 0
    have f1 := HRR.out.free 1
    have f2 := HRR.out.free 2
    have f3 := HRR.out.free 3
    have f4 := HRR.out.free 4
    have g0 := HXX.out.free 0
    go_wp2
    have hwR : w.heap.size ≤ X + 1 := by have := HwX.out; omega
    have hF := ((((((show DrawnF w w3 r a len cap (.slice q3 n3 c3) n3 W3 (.slice sq sn sc) sn M from ⟨HK.out.d, HO.out, HS.out.size, HS.out.short⟩).setOther HRL.out HwX.out (fun e => (HPX3.out _ e).1 rfl) (fun e => by have := HsX.out _ e; omega) 0 (.slice q3 n3 c3)).setOther HRL.out hwR (fun e => (HPX3.out _ e).2 rfl) (fun e => by have := HsX.out _ e; omega) 0 (.slice q3 n3 c3)).setOther HRL.out hwR (fun e => (HPX3.out _ e).2 rfl) (fun e => by have := HsX.out _ e; omega) 1 (.bool e1)).setOther HRL.out hwR (fun e => (HPX3.out _ e).2 rfl) (fun e => by have := HsX.out _ e; omega) 2 (.int .i64 o1)).setOther HRL.out hwR (fun e => (HPX3.out _ e).2 rfl) (fun e => by have := HsX.out _ e; omega) 3 (.int .i64 n1)).setOther HRL.out hwR (fun e => (HPX3.out _ e).2 rfl) (fun e => by have := HsX.out _ e; omega) 4 (.slice sq sn sc)
    have hbF := (((((HRR.out.other (show X + 1 ≠ X by omega) 0 (.slice q3 n3 c3)).set 0 (.slice q3 n3 c3)).set 1 (.bool e1)).set 2 (.int .i64 o1)).set 3 (.int .i64 n1)).set 4 (.slice sq sn sc)
    unfold Row at hbF
    exact bodyPost_ret (v := .agg #[.slice q3 n3 c3, .bool e1, .int .i64 o1, .int .i64 n1, .slice sq sn sc]) (by simp [results, Tryz.results19, go_sem, World.cell?, hbF]) rfl
      ⟨q3, n3, c3, W3, sq, sn, sc, M, e1, o1, n1, rfl, (hF.job (by omega) (by omega)).1, (by omega), (hF.job (by omega) (by omega)).2, own_ge hF.d.own, own_ge hF.own, hF.d.went, (hF.d.ins (by omega)).2⟩
  have e0 : ((x : Int) == 0) = false := by rw [beq_eq_false_iff_ne]; exact h0
  by_cases h1 : x = 1
  · subst h1
    clear e0 h0
    go_wp2_with fail
    refine (off_any _ _ _ _ _ _ _ HS.out.d.went.rdr (by decide) (by decide) (by decide)).mono ?_
    rintro e w3 ⟨⟨y, hy, rfl⟩, hw⟩
    have HS := Lib.hid (HS.out.trans HRL.out hw)
    have HXX := Lib.hid (HXX.out.went hw HXr.out.1)
    have HRR := Lib.hid (HRR.out.went hw HXr.out.2)
    clear hw hy
    have y0 := HXX.out.cell (j := 0) (by simp)
    have y1 := HXX.out.cell (j := 1) (by simp)
    have y2 := HXX.out.cell (j := 2) (by simp)
    have y3 := HXX.out.cell (j := 3) (by simp)
    have y4 := HXX.out.cell (j := 4) (by simp)
    simp at y0 y1 y2 y3 y4
    have r0 := HRR.out.cell (j := 0) (by simp)
    have r1 := HRR.out.cell (j := 1) (by simp)
    have r2 := HRR.out.cell (j := 2) (by simp)
    have r3 := HRR.out.cell (j := 3) (by simp)
    have r4 := HRR.out.cell (j := 4) (by simp)
    simp at r0 r1 r2 r3 r4
    have f0 := HRR.out.free 0
    have f1 := HRR.out.free 1
    have f2 := HRR.out.free 2
    have f3 := HRR.out.free 3
    have f4 := HRR.out.free 4
    have g0 := HXX.out.free 2
    go_wp2
    have hwR : w.heap.size ≤ X + 1 := by have := HwX.out; omega
    have hF := (((((HS.out.f.setOther HRL.out HwX.out (fun e => by have := HpX.out _ e; omega) (fun e => by have := HsX.out _ e; omega) 2 (.int .i64 y)).setOther HRL.out hwR (fun e => by have := HpX.out _ e; omega) (fun e => by have := HsX.out _ e; omega) 0 (.slice pq pn pc)).setOther HRL.out hwR (fun e => by have := HpX.out _ e; omega) (fun e => by have := HsX.out _ e; omega) 1 (.bool e1)).setOther HRL.out hwR (fun e => by have := HpX.out _ e; omega) (fun e => by have := HsX.out _ e; omega) 2 (.int .i64 y)).setOther HRL.out hwR (fun e => by have := HpX.out _ e; omega) (fun e => by have := HsX.out _ e; omega) 3 (.int .i64 n1)).setOther HRL.out hwR (fun e => by have := HpX.out _ e; omega) (fun e => by have := HsX.out _ e; omega) 4 (.slice sq sn sc)
    have hbF := (((((HRR.out.other (show X + 1 ≠ X by omega) 2 (.int .i64 y)).set 0 (.slice pq pn pc)).set 1 (.bool e1)).set 2 (.int .i64 y)).set 3 (.int .i64 n1)).set 4 (.slice sq sn sc)
    unfold Row at hbF
    exact bodyPost_ret (v := .agg #[.slice pq pn pc, .bool e1, .int .i64 y, .int .i64 n1, .slice sq sn sc]) (by simp [results, Tryz.results19, go_sem, World.cell?, hbF]) rfl
      ⟨pq, pn, pc, W, sq, sn, sc, M, e1, y, n1, rfl, (hF.job (by omega) (by omega)).1, (by omega), (hF.job (by omega) (by omega)).2, own_ge hF.d.own, own_ge hF.own, hF.d.went, (hF.d.ins (by omega)).2⟩
  have e1X : ((x : Int) == 1) = false := by rw [beq_eq_false_iff_ne]; exact h1
  by_cases h2 : x = 2
  · subst h2
    clear e0 h0 e1X h1
    go_wp2_with fail
    refine (off_any _ _ _ _ _ _ _ HS.out.d.went.rdr (by decide) (by decide) (by decide)).mono ?_
    rintro e w3 ⟨⟨y, hy, rfl⟩, hw⟩
    have HS := Lib.hid (HS.out.trans HRL.out hw)
    have HXX := Lib.hid (HXX.out.went hw HXr.out.1)
    have HRR := Lib.hid (HRR.out.went hw HXr.out.2)
    clear hw hy
    have y0 := HXX.out.cell (j := 0) (by simp)
    have y1 := HXX.out.cell (j := 1) (by simp)
    have y2 := HXX.out.cell (j := 2) (by simp)
    have y3 := HXX.out.cell (j := 3) (by simp)
    have y4 := HXX.out.cell (j := 4) (by simp)
    simp at y0 y1 y2 y3 y4
    have r0 := HRR.out.cell (j := 0) (by simp)
    have r1 := HRR.out.cell (j := 1) (by simp)
    have r2 := HRR.out.cell (j := 2) (by simp)
    have r3 := HRR.out.cell (j := 3) (by simp)
    have r4 := HRR.out.cell (j := 4) (by simp)
    simp at r0 r1 r2 r3 r4
    have f0 := HRR.out.free 0
    have f1 := HRR.out.free 1
    have f2 := HRR.out.free 2
    have f3 := HRR.out.free 3
    have f4 := HRR.out.free 4
    have g0 := HXX.out.free 3
    go_wp2
    have hwR : w.heap.size ≤ X + 1 := by have := HwX.out; omega
    have hF := (((((HS.out.f.setOther HRL.out HwX.out (fun e => by have := HpX.out _ e; omega) (fun e => by have := HsX.out _ e; omega) 3 (.int .i64 y)).setOther HRL.out hwR (fun e => by have := HpX.out _ e; omega) (fun e => by have := HsX.out _ e; omega) 0 (.slice pq pn pc)).setOther HRL.out hwR (fun e => by have := HpX.out _ e; omega) (fun e => by have := HsX.out _ e; omega) 1 (.bool e1)).setOther HRL.out hwR (fun e => by have := HpX.out _ e; omega) (fun e => by have := HsX.out _ e; omega) 2 (.int .i64 o1)).setOther HRL.out hwR (fun e => by have := HpX.out _ e; omega) (fun e => by have := HsX.out _ e; omega) 3 (.int .i64 y)).setOther HRL.out hwR (fun e => by have := HpX.out _ e; omega) (fun e => by have := HsX.out _ e; omega) 4 (.slice sq sn sc)
    have hbF := (((((HRR.out.other (show X + 1 ≠ X by omega) 3 (.int .i64 y)).set 0 (.slice pq pn pc)).set 1 (.bool e1)).set 2 (.int .i64 o1)).set 3 (.int .i64 y)).set 4 (.slice sq sn sc)
    unfold Row at hbF
    exact bodyPost_ret (v := .agg #[.slice pq pn pc, .bool e1, .int .i64 o1, .int .i64 y, .slice sq sn sc]) (by simp [results, Tryz.results19, go_sem, World.cell?, hbF]) rfl
      ⟨pq, pn, pc, W, sq, sn, sc, M, e1, o1, y, rfl, (hF.job (by omega) (by omega)).1, (by omega), (hF.job (by omega) (by omega)).2, own_ge hF.d.own, own_ge hF.own, hF.d.went, (hF.d.ins (by omega)).2⟩
  have e2 : ((x : Int) == 2) = false := by rw [beq_eq_false_iff_ne]; exact h2
  by_cases h3 : x = 3
  · subst h3
    clear e0 h0 e1X h1 e2 h2
    have y0 := HXX.out.cell (j := 0) (by simp)
    have y1 := HXX.out.cell (j := 1) (by simp)
    have y2 := HXX.out.cell (j := 2) (by simp)
    have y3 := HXX.out.cell (j := 3) (by simp)
    have y4 := HXX.out.cell (j := 4) (by simp)
    simp at y0 y1 y2 y3 y4
    have HO := Lib.hid HS.out.own
    go_wp2_with (at_builtin; (refine wpList_append_own_at _ rfl _ _ 25 rfl w.heap.size 9 i0 _ 1 16 Tryz.underlying25 hi hz0 hz1 hz2 rfl (by decide) _ _ _ rfl (HO.out.alloc _) ⟨w2.heap.size, 0, none⟩ 1 1 [.string ⟨#[120]⟩] rfl rfl (one_new _ _ _) (fun u hu => by simp at hu; subst hu; rfl) (by unfold maxLen; omega) (by omega) (Nat.le_trans HS.out.d.went.size (by simp)) ?_); intro v' w3 hown1 hgrow hnil hat; obtain ⟨q1, cp1, rfl⟩ := own_form hown1; have HX3 := Lib.hid ((HXX.out.al _).grown hgrow (fun e => by have := HsX.out _ e; omega)); have HR3 := Lib.hid ((HRR.out.al _).grown hgrow (fun e => by have := HsX.out _ e; omega)); have HS3 := Lib.hid (HS.out.add HRL.out (T := ⟨#[120]⟩) (by decide) hown1 hgrow hat); have HSX3 := Lib.hid (show ∀ g, (Value.slice q1 (sn + 1) cp1).ownBlock = some g → g ≠ X ∧ g ≠ X + 1 from fun g hg => by rcases hat with h1 | h1 <;> rw [h1] at hg <;> first | (have := HsX.out g hg; omega) | (injection hg with hg; have h3 := HX2.out; simp at hg; omega)); have y0 := HX3.out.cell (j := 0) (by simp); have y1 := HX3.out.cell (j := 1) (by simp); have y2 := HX3.out.cell (j := 2) (by simp); have y3 := HX3.out.cell (j := 3) (by simp); have z4 := HX3.out.cell (j := 4) (by simp); have g4 := HX3.out.free 4; have r0 := HR3.out.cell (j := 0) (by simp); have r1 := HR3.out.cell (j := 1) (by simp); have r2 := HR3.out.cell (j := 2) (by simp); have r3 := HR3.out.cell (j := 3) (by simp); have r4 := HR3.out.cell (j := 4) (by simp); have f0 := HR3.out.free 0; have f1 := HR3.out.free 1; have f2 := HR3.out.free 2; have f3 := HR3.out.free 3; have f4 := HR3.out.free 4; simp at y0 y1 y2 y3 z4 r0 r1 r2 r3 r4; clear hown1 hgrow hnil hat)
    have hwR : w.heap.size ≤ X + 1 := by have := HwX.out; omega
    have hF := (((((HS3.out.f.setOther HRL.out HwX.out (fun e => by have := HpX.out _ e; omega) (fun e => (HSX3.out _ e).1 rfl) 4 (.slice q1 (sn + 1) cp1)).setOther HRL.out hwR (fun e => by have := HpX.out _ e; omega) (fun e => (HSX3.out _ e).2 rfl) 0 (.slice pq pn pc)).setOther HRL.out hwR (fun e => by have := HpX.out _ e; omega) (fun e => (HSX3.out _ e).2 rfl) 1 (.bool e1)).setOther HRL.out hwR (fun e => by have := HpX.out _ e; omega) (fun e => (HSX3.out _ e).2 rfl) 2 (.int .i64 o1)).setOther HRL.out hwR (fun e => by have := HpX.out _ e; omega) (fun e => (HSX3.out _ e).2 rfl) 3 (.int .i64 n1)).setOther HRL.out hwR (fun e => by have := HpX.out _ e; omega) (fun e => (HSX3.out _ e).2 rfl) 4 (.slice q1 (sn + 1) cp1)
    have hbF := (((((HR3.out.other (show X + 1 ≠ X by omega) 4 (.slice q1 (sn + 1) cp1)).set 0 (.slice pq pn pc)).set 1 (.bool e1)).set 2 (.int .i64 o1)).set 3 (.int .i64 n1)).set 4 (.slice q1 (sn + 1) cp1)
    unfold Row at hbF
    exact bodyPost_ret (v := .agg #[.slice pq pn pc, .bool e1, .int .i64 o1, .int .i64 n1, .slice q1 (sn + 1) cp1]) (by simp [results, Tryz.results19, go_sem, World.cell?, hbF]) rfl
      ⟨pq, pn, pc, W, q1, (sn + 1), cp1, _, e1, o1, n1, rfl, (hF.job (by omega) (by omega)).1, (by omega), (hF.job (by omega) (by omega)).2, own_ge hF.d.own, own_ge hF.own, hF.d.went, (hF.d.ins (by omega)).2⟩
  have e3 : ((x : Int) == 3) = false := by rw [beq_eq_false_iff_ne]; exact h3
  by_cases h4 : x = 4
  · subst h4
    clear e0 h0 e1X h1 e2 h2 e3 h3
    go_wp2_with fail
    refine (below_any _ _ _ _ _ _ HS.out.d.went.rdr (by decide) (by decide)).mono ?_
    rintro e w3 ⟨⟨z, hz3, hz4, rfl⟩, hw⟩
    have HS := Lib.hid (HS.out.trans HRL.out hw)
    have HXX := Lib.hid (HXX.out.went hw HXr.out.1)
    have HRR := Lib.hid (HRR.out.went hw HXr.out.2)
    have HX3 := Lib.hid (show X + 2 ≤ w3.heap.size from Nat.le_trans HX2.out hw.size)
    clear hw
    obtain ⟨n, hn⟩ : ∃ n : Nat, 5 * z = (n : Int) := ⟨(5 * z).toNat, by omega⟩
    have hn5 : n ≤ 5 := by omega
    go_wp2_with (at_make; (refine wpList_make_full _ rfl _ _ 25 rfl w3.heap.size 9 i0 _ 1 Tryz.underlying25 hi hz0 hz1 .i64 .i64 _ _ n rfl rfl rfl rfl (by rw [hz2]; omega) (by unfold maxLen; omega) (Nat.le_refl _) ?_); intro w4 hown hgrow; have HN := Lib.hid hown; have HB4 := Lib.hid ((Below.refl w3.heap.size w3).grown hgrow (Nat.le_refl _) (fun k hk => by cases hk)); have HX4 := Lib.hid (HXX.out.keep HB4.out); have HR4 := Lib.hid (HRR.out.keep HB4.out); have y0 := HX4.out.cell (j := 0) (by simp); have y1 := HX4.out.cell (j := 1) (by simp); have y2 := HX4.out.cell (j := 2) (by simp); have y3 := HX4.out.cell (j := 3) (by simp); have z4 := HX4.out.cell (j := 4) (by simp); have g4 := HX4.out.free 4; have r0 := HR4.out.cell (j := 0) (by simp); have r1 := HR4.out.cell (j := 1) (by simp); have r2 := HR4.out.cell (j := 2) (by simp); have r3 := HR4.out.cell (j := 3) (by simp); have r4 := HR4.out.cell (j := 4) (by simp); have f0 := HR4.out.free 0; have f1 := HR4.out.free 1; have f2 := HR4.out.free 2; have f3 := HR4.out.free 3; have f4 := HR4.out.free 4; simp at y0 y1 y2 y3 z4 r0 r1 r2 r3 r4; clear hown hgrow)
    have HS4 := Lib.hid (HS.out.below HB4.out HRL.out)
    have HF4 := Lib.hid (show DrawnF w w4 r a len cap (.slice pq pn pc) pn W (.slice (some ⟨w3.heap.size, 0, none⟩) n n) n (List.replicate n ByteArray.empty) from ⟨HS4.out.d, by rw [← made_strs]; exact own_wider HN.out HS.out.d.went.size, List.length_replicate, fun x hx => by rw [List.eq_of_mem_replicate hx]; exact Nat.zero_le _⟩)
    have HSX4 := Lib.hid (show ∀ g, (Value.slice (some ⟨w3.heap.size, 0, none⟩) n n).ownBlock = some g → g ≠ X ∧ g ≠ X + 1 from fun g hg => by injection hg with hg; have h3 := HX3.out; simp at hg; omega)
    have hwR : w.heap.size ≤ X + 1 := by have := HwX.out; omega
    have hF := (((((HF4.out.setOther HRL.out HwX.out (fun e => by have := HpX.out _ e; omega) (fun e => (HSX4.out _ e).1 rfl) 4 (.slice (some ⟨w3.heap.size, 0, none⟩) n n)).setOther HRL.out hwR (fun e => by have := HpX.out _ e; omega) (fun e => (HSX4.out _ e).2 rfl) 0 (.slice pq pn pc)).setOther HRL.out hwR (fun e => by have := HpX.out _ e; omega) (fun e => (HSX4.out _ e).2 rfl) 1 (.bool e1)).setOther HRL.out hwR (fun e => by have := HpX.out _ e; omega) (fun e => (HSX4.out _ e).2 rfl) 2 (.int .i64 o1)).setOther HRL.out hwR (fun e => by have := HpX.out _ e; omega) (fun e => (HSX4.out _ e).2 rfl) 3 (.int .i64 n1)).setOther HRL.out hwR (fun e => by have := HpX.out _ e; omega) (fun e => (HSX4.out _ e).2 rfl) 4 (.slice (some ⟨w3.heap.size, 0, none⟩) n n)
    have hbF := (((((HR4.out.other (show X + 1 ≠ X by omega) 4 (.slice (some ⟨w3.heap.size, 0, none⟩) n n)).set 0 (.slice pq pn pc)).set 1 (.bool e1)).set 2 (.int .i64 o1)).set 3 (.int .i64 n1)).set 4 (.slice (some ⟨w3.heap.size, 0, none⟩) n n)
    unfold Row at hbF
    exact bodyPost_ret (v := .agg #[.slice pq pn pc, .bool e1, .int .i64 o1, .int .i64 n1, .slice (some ⟨w3.heap.size, 0, none⟩) n n]) (by simp [results, Tryz.results19, go_sem, World.cell?, hbF]) rfl
      ⟨pq, pn, pc, W, _, n, n, _, e1, o1, n1, rfl, (hF.job (by omega) (by omega)).1, (by omega), (hF.job (by omega) (by omega)).2, own_ge hF.d.own, own_ge hF.own, hF.d.went, (hF.d.ins (by omega)).2⟩
  have e4 : ((x : Int) == 4) = false := by rw [beq_eq_false_iff_ne]; exact h4
  clear h0 h1 h2 h3 h4
  have y0 := HXX.out.cell (j := 0) (by simp)
  have y1 := HXX.out.cell (j := 1) (by simp)
  have y2 := HXX.out.cell (j := 2) (by simp)
  have y3 := HXX.out.cell (j := 3) (by simp)
  have y4 := HXX.out.cell (j := 4) (by simp)
  simp at y0 y1 y2 y3 y4
  have r0 := HRR.out.cell (j := 0) (by simp)
  have r1 := HRR.out.cell (j := 1) (by simp)
  have r2 := HRR.out.cell (j := 2) (by simp)
  have r3 := HRR.out.cell (j := 3) (by simp)
  have r4 := HRR.out.cell (j := 4) (by simp)
  simp at r0 r1 r2 r3 r4
  have f0 := HRR.out.free 0
  have f1 := HRR.out.free 1
  have f2 := HRR.out.free 2
  have f3 := HRR.out.free 3
  have f4 := HRR.out.free 4
  go_wp2
  have hwR : w.heap.size ≤ X + 1 := by have := HwX.out; omega
  have hF := (((((HS.out.f).setOther HRL.out hwR (fun e => by have := HpX.out _ e; omega) (fun e => by have := HsX.out _ e; omega) 0 (.slice pq pn pc)).setOther HRL.out hwR (fun e => by have := HpX.out _ e; omega) (fun e => by have := HsX.out _ e; omega) 1 (.bool e1)).setOther HRL.out hwR (fun e => by have := HpX.out _ e; omega) (fun e => by have := HsX.out _ e; omega) 2 (.int .i64 o1)).setOther HRL.out hwR (fun e => by have := HpX.out _ e; omega) (fun e => by have := HsX.out _ e; omega) 3 (.int .i64 n1)).setOther HRL.out hwR (fun e => by have := HpX.out _ e; omega) (fun e => by have := HsX.out _ e; omega) 4 (.slice sq sn sc)
  have hbF := (((((HRR.out).set 0 (.slice pq pn pc)).set 1 (.bool e1)).set 2 (.int .i64 o1)).set 3 (.int .i64 n1)).set 4 (.slice sq sn sc)
  unfold Row at hbF
  exact bodyPost_ret (v := .agg #[.slice pq pn pc, .bool e1, .int .i64 o1, .int .i64 n1, .slice sq sn sc]) (by simp [results, Tryz.results19, go_sem, World.cell?, hbF]) rfl
    ⟨pq, pn, pc, W, sq, sn, sc, M, e1, o1, n1, rfl, (hF.job (by omega) (by omega)).1, (by omega), (hF.job (by omega) (by omega)).2, own_ge hF.d.own, own_ge hF.own, hF.d.went, (hF.d.ins (by omega)).2⟩
end Go.Proofs.YtjofbeokkainlaaGreatDoor
