/- Texts put together, as a claim holds at most sixty files. -/
import Derived.Test.YthnlllbanfemaaaGreatDoorMg9
import Derived.Maps.AppendAt
import Derived.Test.YthnlllbanfemaaaGreatDoorMg7
import Derived.Test.YthnlllbanfemaaaGreatDoorMg4
namespace Go.Proofs.YthnlllbanfemaaaGreatDoor
open Go.ChangeShapes Go.WideShapes Go.ChangeAt Go.RowKit
set_option linter.unusedVariables false
set_option maxRecDepth 100000

theorem cellsI_setN : ∀ (W : Instrs) (k : Nat) (x : Int), k < W.length → cellsI (W.set k (ins0 W k, x, ins2 W k)) = (cellsI W).set (k * 3 + 1) (.int .i64 x)
  | [], k, x, h => by simp at h
  | a :: t, 0, x, _ => rfl
  | a :: t, k + 1, x, h => by
    obtain ⟨e0, e1, e2⟩ := ins_cons a t k
    rw [e0, e2, List.set_cons_succ]
    have ih := cellsI_setN t k x (by simpa using h)
    have e : (k + 1) * 3 + 1 = k * 3 + 1 + 1 + 1 + 1 := by omega
    rw [e]
    show _ :: _ :: _ :: cellsI (t.set k (ins0 t k, x, ins2 t k)) = _
    rw [ih]; rfl
theorem cellsI_setS : ∀ (W : Instrs) (k : Nat) (s : ByteArray), k < W.length → cellsI (W.set k (ins0 W k, ins1 W k, s)) = (cellsI W).set (k * 3 + 2) (.string s)
  | [], k, x, h => by simp at h
  | a :: t, 0, x, _ => rfl
  | a :: t, k + 1, x, h => by
    obtain ⟨e0, e1, e2⟩ := ins_cons a t k
    rw [e0, e1, List.set_cons_succ]
    have ih := cellsI_setS t k x (by simpa using h)
    have e : (k + 1) * 3 + 2 = k * 3 + 2 + 1 + 1 + 1 := by omega
    rw [e]
    show _ :: _ :: _ :: cellsI (t.set k (ins0 t k, ins1 t k, x)) = _
    rw [ih]; rfl
theorem fine_at {W : Instrs} (h : FineI W) {k : Nat} (hk : k < W.length) : In64 (ins1 W k) ∧ (ins2 W k).size ≤ 25 := by
  have e : W.getD k (0, 0, ByteArray.empty) = W[k] := by rw [List.getD_eq_getElem?_getD, List.getElem?_eq_getElem hk]; rfl
  unfold ins1 ins2
  rw [e]
  exact h _ (List.getElem_mem hk)
theorem own_setI {w : World} {base n cp g j : Nat} {xs : List Value} (h : w.ownsRow base 52 3 (.slice (some ⟨g, 0, none⟩) n cp) n xs) (v : Value) :
    (w.setCell ⟨g, j, none⟩ v).ownsRow base 52 3 (.slice (some ⟨g, 0, none⟩) n cp) n (xs.set j v) := by
  refine ⟨by rw [List.length_set]; exact h.1, ?_⟩
  rcases h.2 with ⟨h1, _⟩ | ⟨g', cap, cur, hv, hb, hh, h1, h2, h3, h4⟩
  · simp at h1
  · simp only [Value.slice.injEq, Option.some.injEq, Addr.mk.injEq, and_true, true_and] at hv
    obtain ⟨rfl, rfl⟩ := hv
    refine .inr ⟨g, cp, cur.setIfInBounds j v, rfl, hb, block_set hh j v, h1, h2, by simpa using h3, ?_⟩
    rw [← h4, Array.toList_setIfInBounds, List.take_set]
theorem DrawnI.setN {w wr : World} {r : Nat} {a : Option Addr} {len cap n cp g k : Nat} {W : Instrs} {x : Int} (h : DrawnI w wr r a len cap (.slice (some ⟨g, 0, none⟩) n cp) n W) (hr : r < w.heap.size) (hg : w.heap.size ≤ g) (hk : k < n) (hx : In64 x) :
    DrawnI w (wr.setCell ⟨g, k * 3 + 1, none⟩ (.int .i64 x)) r a len cap (.slice (some ⟨g, 0, none⟩) n cp) n (W.set k (ins0 W k, x, ins2 W k)) := by
  have hkW : k < W.length := by rw [h.size]; exact hk
  refine ⟨by rw [cellsI_setN W k x hkW]; exact own_setI h.own _, by rw [List.length_set]; exact h.size, h.went.put hg (by omega) _ _, fun y hy => ?_⟩
  rcases List.mem_or_eq_of_mem_set hy with e | e
  · exact h.fine y e
  · subst e; exact ⟨hx, (fine_at h.fine hkW).2⟩
theorem DrawnI.setS {w wr : World} {r : Nat} {a : Option Addr} {len cap n cp g k : Nat} {W : Instrs} {x : ByteArray} (h : DrawnI w wr r a len cap (.slice (some ⟨g, 0, none⟩) n cp) n W) (hr : r < w.heap.size) (hg : w.heap.size ≤ g) (hk : k < n) (hx : x.size ≤ 25) :
    DrawnI w (wr.setCell ⟨g, k * 3 + 2, none⟩ (.string x)) r a len cap (.slice (some ⟨g, 0, none⟩) n cp) n (W.set k (ins0 W k, ins1 W k, x)) := by
  have hkW : k < W.length := by rw [h.size]; exact hk
  refine ⟨by rw [cellsI_setS W k x hkW]; exact own_setI h.own _, by rw [List.length_set]; exact h.size, h.went.put hg (by omega) _ _, fun y hy => ?_⟩
  rcases List.mem_or_eq_of_mem_set hy with e | e
  · exact h.fine y e
  · subst e; exact ⟨(fine_at h.fine hkW).1, hx⟩
theorem DrawnI.place {w wr : World} {r : Nat} {a : Option Addr} {len cap n cp k : Nat} {q : Option Addr} {W : Instrs} (h : DrawnI w wr r a len cap (.slice q n cp) n W) (hk : k < n) :
    ∃ g, q = some ⟨g, 0, none⟩ ∧ w.heap.size ≤ g ∧ (∃ v, wr.cell? ⟨g, k * 3 + 1, none⟩ = some v) ∧ (∃ v, wr.cell? ⟨g, k * 3 + 2, none⟩ = some v) ∧ ∀ o, wr.frozen? ⟨g, o, none⟩ = false := by
  obtain ⟨g, cur, rfl, hb, hrow, hs⟩ := own_insrow h.own (by omega)
  exact ⟨g, rfl, hb, ⟨_, hrow.cell (by omega)⟩, ⟨_, hrow.cell (by omega)⟩, hrow.free⟩

/-- Which blocks stay: all but the reader's and row G. -/
def KeptBut (w0 w' : World) (r : Nat) (G : Option Nat) : Prop := ∀ i, i < w0.heap.size → i ≠ r → some i ≠ G → w'.heap[i]? = w0.heap[i]?
structure DrawnK (w w0 wr : World) (G : Option Nat) (r : Nat) (a : Option Addr) (len cap : Nat) (v : Value) (n : Nat) (W : Instrs) : Prop where
  d : DrawnI w wr r a len cap v n W
  kept : KeptBut w0 wr r G
  size : w0.heap.size ≤ wr.heap.size
  row : v.ownBlock = G ∨ ∀ k, v.ownBlock = some k → w0.heap.size ≤ k
theorem DrawnK.own {w w0 wr : World} {G : Option Nat} {r : Nat} {a : Option Addr} {len cap : Nat} {v : Value} {n : Nat} {W : Instrs} (h : DrawnK w w0 wr G r a len cap v n W) : wr.ownsRow w.heap.size 52 3 v n (cellsI W) := h.d.own
theorem DrawnK.went {w w0 wr : World} {G : Option Nat} {r : Nat} {a : Option Addr} {len cap : Nat} {v : Value} {n : Nat} {W : Instrs} (h : DrawnK w w0 wr G r a len cap v n W) : Went w r a len cap wr := h.d.went
theorem DrawnK.trans {w w0 wr w1 : World} {G : Option Nat} {r : Nat} {a : Option Addr} {len cap : Nat} {v : Value} {n : Nat} {W : Instrs} (h : DrawnK w w0 wr G r a len cap v n W) (hr : r < w.heap.size) (hw : Went wr r a len cap w1) : DrawnK w w0 w1 G r a len cap v n W :=
  ⟨h.d.trans hr hw, fun i hi hn hg => (hw.grown.block i (Nat.lt_of_lt_of_le hi h.size) (fun e => hn (Option.some.inj e))).trans (h.kept i hi hn hg), Nat.le_trans h.size hw.size, h.row⟩
theorem DrawnK.alloc {w w0 wr : World} {G : Option Nat} {r : Nat} {a : Option Addr} {len cap : Nat} {v : Value} {n : Nat} {W : Instrs} (h : DrawnK w w0 wr G r a len cap v n W) (o : Obj) : DrawnK w w0 (wr.alloc o) G r a len cap v n W :=
  ⟨h.d.alloc o, fun i hi hn hg => ((World.grownBy_alloc wr o none).block i (Nat.lt_of_lt_of_le hi h.size) (by simp)).trans (h.kept i hi hn hg), Nat.le_trans h.size (by simp), h.row⟩
theorem DrawnK.add {w w0 wr w1 : World} {G : Option Nat} {r : Nat} {a : Option Addr} {len cap : Nat} {v v' : Value} {n m : Nat} {W L : Instrs} (h : DrawnK w w0 wr G r a len cap v n W) (hr : r < w.heap.size) (hL : FineI L) (hm : L.length = m)
    (hown : w1.ownsRow w.heap.size 52 3 v' (n + m) (cellsI W ++ cellsI L)) (hg : wr.grownBy w1 v.ownBlock) (hat : v'.ownBlock = v.ownBlock ∨ v'.ownBlock = some wr.heap.size) : DrawnK w w0 w1 G r a len cap v' (n + m) (W ++ L) := by
  refine ⟨h.d.add hr hL hm hown hg, fun i hi hn hG => ?_, Nat.le_trans h.size hg.size, ?_⟩
  · refine (hg.block i (Nat.lt_of_lt_of_le hi h.size) (fun e => ?_)).trans (h.kept i hi hn hG)
    rcases h.row with h1 | h1
    · exact hG (e.trans h1)
    · have := h1 i e.symm
      omega
  · rcases hat with e | e
    · rw [e]; exact h.row
    · right
      intro k hk
      rw [e] at hk
      injection hk with hk
      have := h.size
      omega
theorem DrawnK.ofPut {w w0 wr : World} {r : Nat} {a : Option Addr} {len cap n cp g : Nat} {W W' : Instrs} (h : DrawnK w w0 wr (some g) r a len cap (.slice (some ⟨g, 0, none⟩) n cp) n W) (j : Nat) (x : Value) (hd : DrawnI w (wr.setCell ⟨g, j, none⟩ x) r a len cap (.slice (some ⟨g, 0, none⟩) n cp) n W') :
    DrawnK w w0 (wr.setCell ⟨g, j, none⟩ x) (some g) r a len cap (.slice (some ⟨g, 0, none⟩) n cp) n W' :=
  ⟨hd, fun i hi hn hG => (Below.heap_setCell wr ⟨g, j, none⟩ x i (fun e => hG (by rw [e]))).trans (h.kept i hi hn hG), by simpa [World.setCell] using h.size, .inl rfl⟩
theorem DrawnK.start {w wr : World} {r : Nat} {a : Option Addr} {len cap : Nat} {v : Value} {n : Nat} {W : Instrs} (h : DrawnI w wr r a len cap v n W) : DrawnK w wr wr v.ownBlock r a len cap v n W := ⟨h, fun _ _ _ _ => rfl, Nat.le_refl _, .inl rfl⟩

/-- The end of hurting a drawn program: a drawn program. -/
def RdHurt (w0 w : World) (G : Option Nat) (r : Nat) (a : Option Addr) (len cap : Nat) (e : Ending) (w' : World) : Prop :=
  ∃ (q : Option Addr) (n cp : Nat) (W : Instrs), e = .returned (.slice q n cp) ∧ n ≤ 80 ∧ DrawnK w0 w w' G r a len cap (.slice q n cp) n W
set_option maxHeartbeats 8000000 in
theorem hurtprog_any (w w0 : World) (r : Nat) (a : Option Addr) (len cap : Nat) (q : Option Addr) (n cp : Nat) (W : Instrs) (hr : r < w.heap.size) (h : DrawnI w w0 r a len cap (.slice q n cp) n W) (hn26 : n ≤ 26) :
    Calls Tryz.prog 48 #[.pointer (some ⟨r, 0, none⟩), .slice q n cp] w0 (RdHurt w w0 (Value.slice q n cp).ownBlock r a len cap) := by
  obtain ⟨i0, hi, hz0, hz1, hz2⟩ := info_parts infoInstr
  have HRL := Lib.hid hr
  have HS := Lib.hid (DrawnK.start h)
  obtain ⟨G, hG⟩ : ∃ G, (Value.slice q n cp).ownBlock = G := ⟨_, rfl⟩
  have HGQ := Lib.hid hG
  rw [hG] at HS ⊢
  clear h hr hG
  obtain ⟨M, hM, hM1, hM2, hM3⟩ : ∃ M : Nat, (max (n : Int) 1) = (M : Int) ∧ 1 ≤ M ∧ M ≤ 26 ∧ (0 < n → M = n) := by
    by_cases h0 : n = 0
    · exact ⟨1, by subst h0; decide, by omega, by omega, by omega⟩
    · exact ⟨n, by omega, by omega, by omega, fun _ => rfl⟩
  have HM3 := Lib.hid hM3
  clear hM3
  go_enter Tryz.func48, Tryz.ntmps48
  go_wp2_with fail
  refine (below_any _ _ _ _ _ _ HS.out.went.rdr (by omega) (by omega)).mono ?_
  rintro e w1 ⟨⟨y, ha1, ha2, rfl⟩, hw⟩
  have HS := Lib.hid (HS.out.trans HRL.out hw)
  clear hw
  obtain ⟨k, rfl⟩ : ∃ k : Nat, y = (k : Int) := ⟨y.toNat, by omega⟩
  have hkM : k < M := by omega
  clear ha1 ha2 hM
  go_wp2_with fail
  refine (below_any _ _ _ _ _ _ HS.out.went.rdr (by decide) (by decide)).mono ?_
  rintro e w2 ⟨⟨x, hx1, hx2, rfl⟩, hw⟩
  have HS := Lib.hid (HS.out.trans HRL.out hw)
  clear hw
  by_cases h0 : x = 0
  · subst h0
    go_wp2_with fail
    refine (off_any _ _ _ _ _ _ _ HS.out.went.rdr (by decide) (by decide) (by decide)).mono ?_
    rintro e w3 ⟨⟨y, hy, rfl⟩, hw⟩
    have HS := Lib.hid (HS.out.trans HRL.out hw)
    clear hw hy
    have HO := Lib.hid HS.out.own
    go_wp2_with (at_builtin; (refine wpList_append_own_at _ rfl _ _ 29 rfl w.heap.size 52 i0 _ 3 32 Tryz.underlying29 hi hz0 hz1 hz2 rfl (by decide) _ _ _ rfl (HO.out.alloc _) ⟨w3.heap.size, 0, none⟩ 1 1 [.int .i64 y, .int .i64 0, .string ⟨#[]⟩] rfl rfl (three_new _ _ _ _ _) (three_cells _ _ _) (by unfold maxLen; omega) (by omega) (Nat.le_trans HS.out.went.size (by simp)) ?_); intro v' w9 hown1 hgrow hnil hat; obtain ⟨q1, cp1, rfl⟩ := own_form hown1; have HS9 := Lib.hid ((HS.out.alloc _).add (L := [(y, 0, ByteArray.empty)]) HRL.out (fine_num (in_small (by decide) (by decide)) fine_nil) rfl hown1 hgrow hat); clear hown1 hgrow hnil hat)
    go_ret
    exact ⟨q1, _, cp1, _, rfl, by omega, HS9.out⟩
  have e0 : ((x : Int) == 0) = false := by rw [beq_eq_false_iff_ne]; exact h0
  by_cases h1 : x = 1
  · subst h1
    clear e0 h0
    by_cases hn0 : 0 < n
    · have hn1 : (0 : Int) < (n : Int) := by omega
      have hkn : k < n := by have := HM3.out hn0; omega
      have hi0 : (0 : Int) ≤ (k : Int) := by omega
      have hi1 : (k : Int) < (n : Int) := by omega
      go_wp2_with fail
      refine (off_any _ _ _ _ _ _ _ HS.out.went.rdr (by decide) (by decide) (by decide)).mono ?_
      rintro e w3 ⟨⟨y, hy, rfl⟩, hw⟩
      have HS := Lib.hid (HS.out.trans HRL.out hw)
      have HY := Lib.hid (wf_in64 hy)
      obtain ⟨g, rfl, hg, ⟨v1, hc1⟩, _, hfz⟩ := HS.out.d.place hkn
      have HG := Lib.hid hg
      obtain rfl := HGQ.out
      have hf1 := hfz (k * 3 + 1)
      clear hw hy hg hfz
      go_wp2
      go_ret
      exact ⟨_, n, cp, _, rfl, by omega, HS.out.ofPut _ _ (HS.out.d.setN HRL.out HG.out hkn HY.out)⟩
    · have hn1 : ¬ (0 : Int) < (n : Int) := by omega
      go_wp2
      go_ret
      exact ⟨q, n, cp, W, rfl, by omega, HS.out⟩
  have e1 : ((x : Int) == 1) = false := by rw [beq_eq_false_iff_ne]; exact h1
  by_cases h2 : x = 2
  · subst h2
    clear e0 h0 e1 h1
    by_cases hn0 : 0 < n
    · have hn1 : (0 : Int) < (n : Int) := by omega
      have hkn : k < n := by have := HM3.out hn0; omega
      have hi0 : (0 : Int) ≤ (k : Int) := by omega
      have hi1 : (k : Int) < (n : Int) := by omega
      go_wp2_with fail
      refine (below_any _ _ _ _ _ _ (HS.out.alloc _).went.rdr (by decide) (by decide)).mono ?_
      rintro e w3 ⟨⟨y, hy1, hy2, rfl⟩, hw⟩
      obtain ⟨u, hu, hcu⟩ := tab_cell (m := 21) (hw.block (k := w2.heap.size) (heap_alloc_new _ _) (Nat.ne_of_gt HS.out.went.rdr.lt)) (by decide) y hy1 (by show y < 3; omega)
      have HS := Lib.hid ((HS.out.alloc _).trans HRL.out hw)
      have HU := Lib.hid hu
      obtain ⟨g, rfl, hg, _, ⟨v2, hc2⟩, hfz⟩ := HS.out.d.place hkn
      have HG := Lib.hid hg
      obtain rfl := HGQ.out
      have hf2 := hfz (k * 3 + 2)
      clear hw hu hg hfz
      go_wp2
      go_ret
      exact ⟨_, n, cp, _, rfl, by omega, HS.out.ofPut _ _ (HS.out.d.setS HRL.out HG.out hkn (Nat.le_trans HU.out (by decide)))⟩
    · have hn1 : ¬ (0 : Int) < (n : Int) := by omega
      go_wp2
      go_ret
      exact ⟨q, n, cp, W, rfl, by omega, HS.out⟩
  have e2 : ((x : Int) == 2) = false := by rw [beq_eq_false_iff_ne]; exact h2
  by_cases h3 : x = 3
  · subst h3
    clear e0 h0 e1 h1 e2 h2
    go_wp2
    go_loopw [1, 6] (fun v i wr => ∃ (j m : Nat) (q : Option Addr) (cp : Nat) (W : Instrs), j ≤ 16 ∧ i = .int .i64 j ∧ v = .slice q m cp ∧ m ≤ 26 + 3 * j ∧ Hid (DrawnK w w0 wr G r a len cap (.slice q m cp) m W)) (fun _ i _ => 16 - (intOf i).toNat)
    case atStart => exact ⟨0, n, q, cp, W, by omega, rfl, rfl, by omega, HS⟩
    case round =>
      clear HS
      obtain ⟨j, m, q, cp, W, hj, rfl, rfl, hm, HS⟩ := hrel
      by_cases hj16 : j < 16
      · have hj1 : (j : Int) < 16 := by omega
        go_wp2_with fail
        refine (below_any _ _ _ _ _ _ HS.out.went.rdr (by decide) (by decide)).mono ?_
        rintro e w3 ⟨⟨y, hy1, hy2, rfl⟩, hw⟩
        have HS := Lib.hid (HS.out.trans HRL.out hw)
        clear hw
        by_cases hmy : (m : Int) < 30 + y
        · have HO := Lib.hid HS.out.own
          go_wp2_with (at_builtin; (refine wpList_append_own_at _ rfl _ _ 29 rfl w.heap.size 52 i0 _ 3 32 Tryz.underlying29 hi hz0 hz1 hz2 rfl (by decide) _ _ _ rfl (HO.out.alloc _) ⟨w3.heap.size, 0, none⟩ 3 3 [.int .i64 2, .int .i64 0, .string ⟨#[]⟩, .int .i64 3, .int .i64 0, .string ⟨#[]⟩, .int .i64 13, .int .i64 0, .string ⟨#[]⟩] rfl rfl (lit_new _ _ _) (cellsI_one [(2, 0, ByteArray.empty), (3, 0, ByteArray.empty), (13, 0, ByteArray.empty)]) (by unfold maxLen; omega) (by omega) (Nat.le_trans HS.out.went.size (by simp)) ?_); intro v' w9 hown1 hgrow hnil hat; obtain ⟨q1, cp1, rfl⟩ := own_form hown1; have HS9 := Lib.hid ((HS.out.alloc _).add (L := [(2, 0, ByteArray.empty), (3, 0, ByteArray.empty), (13, 0, ByteArray.empty)]) HRL.out (fine_num (in_small (by decide) (by decide)) (fine_num (in_small (by decide) (by decide)) (fine_num (in_small (by decide) (by decide)) fine_nil))) rfl hown1 hgrow hat); clear hown1 hgrow hnil hat)
          go_roundw
          case rel => exact ⟨j + 1, m + 3, q1, cp1, _, by omega, by go_num, rfl, by omega, HS9⟩
          case measure => simp [intOf]; omega
        · go_wp2
          go_ret
          exact ⟨q, m, cp, W, rfl, by omega, HS.out⟩
      · have hj1 : ¬ (j : Int) < 16 := by omega
        go_wp2
        go_ret
        exact ⟨q, m, cp, W, rfl, by omega, HS.out⟩
  have e3 : ((x : Int) == 3) = false := by rw [beq_eq_false_iff_ne]; exact h3
  clear h0 h1 h2 h3
  go_wp2
  go_ret
  exact ⟨q, n, cp, W, rfl, by omega, HS.out⟩
end Go.Proofs.YthnlllbanfemaaaGreatDoor
namespace Go.Proofs.YthnlllbanfemaaaGreatDoor
open Go.ChangeShapes Go.WideShapes Go.ChangeAt Go.RowKit
set_option linter.unusedVariables false
set_option maxRecDepth 100000

theorem Went.more {w w1 w2 : World} {r : Nat} {a : Option Addr} {len cap : Nat} {row : Option Nat} (h : Went w r a len cap w1) (hg : w1.grownBy w2 row) (hr : r < w.heap.size) (hrow : ∀ k, row = some k → w.heap.size ≤ k) : Went w r a len cap w2 :=
  ⟨⟨hg.os.trans h.grown.os, hg.tape.trans h.grown.tape, hg.output.trans h.grown.output, Nat.le_trans h.size hg.size, fun i hi hn => (hg.block i (Nat.lt_of_lt_of_le hi h.size) (fun e => by have := hrow i e.symm; omega)).trans (h.grown.block i hi hn)⟩,
   h.rdr.below ⟨hg.os, hg.tape, hg.output, hg.size, fun k hk => hg.block k (by have := h.rdr.lt; omega) (fun e => by have := hrow k e.symm; omega)⟩⟩
theorem own_went {w w1 : World} {base r : Nat} {a : Option Addr} {len cap : Nat} {e : TypeId} {size : Nat} {v : Value} {n : Nat} {xs : List Value} (h : w.ownsRow base e size v n xs) (hw : Went w r a len cap w1) (hr : r < base) : w1.ownsRow base e size v n xs :=
  h.kept hw.grown (by
    by_cases hv : v.ownBlock = none
    · exact .inl hv
    · refine .inr fun he => ?_
      have := (h.lt r he).1
      omega)
end Go.Proofs.YthnlllbanfemaaaGreatDoor
namespace Go.Proofs.YthnlllbanfemaaaGreatDoor
open Go.ChangeShapes Go.WideShapes Go.ChangeAt Go.RowKit
set_option linter.unusedVariables false
set_option maxRecDepth 100000

theorem ot_own_grown {w w1 : World} {base : Nat} {e : TypeId} {size n : Nat} {v : Value} {xs : List Value} {row : Option Nat} (h : w.ownsRow base e size v n xs) (hg : w.grownBy w1 row) (hne : ∀ g, v.ownBlock = some g → row ≠ some g) : w1.ownsRow base e size v n xs :=
  h.kept hg (by
    cases hv : v.ownBlock with
    | none => exact .inl rfl
    | some g => exact .inr (fun he => hne g hv he.symm))
theorem ot_own_put {w : World} {base X : Nat} {e : TypeId} {size n : Nat} {v : Value} {xs : List Value} (h : w.ownsRow base e size v n xs) (hne : ∀ g, v.ownBlock = some g → X ≠ g) (j : Nat) (x : Value) : (w.setCell ⟨X, j, none⟩ x).ownsRow base e size v n xs := by
  refine ⟨h.1, ?_⟩
  rcases h.2 with h2 | ⟨g, cap, cur, hv, hb, hh, r⟩
  · exact .inl h2
  · refine .inr ⟨g, cap, cur, hv, hb, ?_, r⟩
    have hX := hne g (by rw [hv]; rfl)
    exact (Below.heap_setCell w ⟨X, j, none⟩ x g (fun he => hX he.symm)).trans hh
theorem ot_own_ne_row {w : World} {base X : Nat} {e T : TypeId} {size n : Nat} {v : Value} {xs : List Value} {cur : Array Value} (h : w.ownsRow base e size v n xs) (r : Row w X T cur) (hT : T ≠ e) : ∀ g, v.ownBlock = some g → X ≠ g := by
  intro g hg he
  subst he
  rcases h.2 with ⟨h2, _⟩ | ⟨g', cap, cur', hv, _, hh, _⟩
  · rw [h2] at hg; cases hg
  · rw [hv] at hg
    simp only [Value.ownBlock, Option.some.injEq] at hg
    subst hg
    unfold Row at r
    rw [hh] at r
    simp only [Option.some.injEq, Obj.cells.injEq] at r
    exact hT r.2.1.symm
theorem ot_own_apartT {w : World} {b1 b2 : Nat} {e1 e2 : TypeId} {s1 s2 n1 n2 : Nat} {v1 v2 : Value} {x1 x2 : List Value} (h : w.ownsRow b1 e1 s1 v1 n1 x1) (k : w.ownsRow b2 e2 s2 v2 n2 x2) (hne : e1 ≠ e2) : ∀ g, v1.ownBlock = some g → v2.ownBlock ≠ some g := by
  intro g hg he
  rcases h.2 with ⟨h2, _⟩ | ⟨g', cap, cur, hv, _, hh, _⟩
  · rw [h2] at hg; cases hg
  · rw [hv] at hg
    simp only [Value.ownBlock, Option.some.injEq] at hg
    subst hg
    exact ot_own_ne_row k (show Row w g' e1 cur from hh) hne g' he rfl
theorem ot_row_grownT {w w1 : World} {base X : Nat} {e T : TypeId} {size n : Nat} {v : Value} {xs : List Value} {cur : Array Value} (r : Row w X T cur) (h : w.ownsRow base e size v n xs) (hT : T ≠ e) (hg : w.grownBy w1 v.ownBlock) : Row w1 X T cur :=
  r.grown hg (fun he => ot_own_ne_row h r hT X he rfl)
theorem ot_row_new (w : World) (cur : Array Value) (T : TypeId) : Row (w.alloc (.cells cur T)) w.heap.size T cur := by
  have := heap_alloc_new w (.cells cur T)
  simpa [Row] using this
theorem Row.otAl {w : World} {B : Nat} {E : TypeId} {cur : Array Value} (h : Row w B E cur) (o : Obj) : Row (w.alloc o) B E cur := h.keep (below_alloc (Below.refl _ _) _)
theorem Row.otPut {w : World} {B : Nat} {E : TypeId} {cur : Array Value} (h : Row w B E cur) {X : Nat} (hne : B ≠ X) (j : Nat) (v : Value) : Row (w.setCell ⟨X, j, none⟩ v) B E cur := (Below.heap_setCell w ⟨X, j, none⟩ v B hne).trans h
/-- The last element dropped: the row still holds what is ahead of it. -/
theorem ot_take {w : World} {base : Nat} {e : TypeId} {size : Nat} {q : Option Addr} {n c : Nat} {xs : List Value} (h : w.ownsRow base e size (.slice q n c) n xs) {k : Nat} (hk : k ≤ n) (hn : 0 < n) : w.ownsRow base e size (.slice q k c) k (xs.take (k * size)) := by
  have hl := h.1
  refine ⟨by rw [List.length_take, hl]; exact Nat.min_eq_left (Nat.mul_le_mul_right _ hk), ?_⟩
  rcases h.2 with ⟨_, h0⟩ | ⟨g, cap, cur, hv, hb, hh, h1, h2, h3, h4⟩
  · omega
  · simp only [Value.slice.injEq] at hv
    obtain ⟨rfl, _, rfl⟩ := hv
    refine .inr ⟨g, c, cur, rfl, hb, hh, by omega, h2, h3, ?_⟩
    rw [← h4, List.take_take, Nat.min_eq_left (Nat.mul_le_mul_right _ hk)]
end Go.Proofs.YthnlllbanfemaaaGreatDoor
