/- Texts put together, as a claim holds at most sixty files. -/
import Derived.Test.YthnlllbanfemaaaGreatDoorMg4
import Derived.Lib.AppendStr
import Derived.Test.YthnlllbanfemaaaGreatDoorMg13
import Derived.Test.YthnlllbanfemaaaGreatDoorMg2
import Derived.Test.YthnlllbanfemaaaGreatDoorMg12
import Derived.Test.YthnlllbanfemaaaGreatDoorMg10
namespace Go.Proofs.YthnlllbanfemaaaGreatDoor
open Go.ChangeShapes Go.WideShapes Go.ChangeAt Go.RowKit

theorem cat_runp {P : Program} {w : World} (a b : ByteArray) (n : Nat) (ha : a.size ≤ n) (hb : b.size ≤ n) (hn : n ≤ 4611686018427387903 := by decide) : (Op.stringOp .add a b).run P w = .ok (.string (a ++ b)) w :=
  run_string_add_sum w a b (by omega)
end Go.Proofs.YthnlllbanfemaaaGreatDoor
namespace Go.Proofs.YthnlllbanfemaaaGreatDoor
open Go.ChangeShapes Go.WideShapes Go.ChangeAt Go.RowKit
set_option linter.unusedVariables false
set_option maxRecDepth 100000

theorem cell_keepP {w w' : World} {p : Addr} {v : Value} (hB : Below w.heap.size w w') (h : w.cell? p = some v) : w'.cell? p = some v := (hB.cell (World.block_lt_of_cell? _ _ h)).trans h
def CutS (s t : ByteArray) (w : World) (e : Ending) (w' : World) : Prop := w = w' ∧
  ((t.size ≤ s.size ∧ s.extract (s.size - t.size) s.size = t ∧ e = .returned (.tuple #[.string (s.extract 0 (s.size - t.size)), .bool true])) ∨
   (¬ (t.size ≤ s.size ∧ s.extract (s.size - t.size) s.size = t) ∧ e = .returned (.tuple #[.string s, .bool false])))
set_option maxHeartbeats 2000000 in
theorem cutsuf_any (s t : ByteArray) (w : World) (hs : s.size ≤ 1000) (ht : t.size ≤ 1000) : Calls Tryz.prog 54 #[.string s, .string t] w (CutS s t w) := by
  by_cases hlt : t.size ≤ s.size
  · have hsub : (s.size : Int) - (t.size : Int) = ((s.size - t.size : Nat) : Int) := by omega
    have hge : (t.size : Int) ≤ (s.size : Int) := by omega
    by_cases hq : s.extract (s.size - t.size) s.size = t
    · have HQ := Lib.hid hq
      have hq2 : ((s.extract (s.size - t.size) s.size).toList == t.toList) = true := ba_eqv hq
      clear hq
      go_enter Tryz.func54, Tryz.ntmps54
      go_wp2
      go_ret2
      exact ⟨rfl, .inl ⟨hlt, HQ.out, rfl⟩⟩
    · have HQ := Lib.hid hq
      have hq2 : ((s.extract (s.size - t.size) s.size).toList == t.toList) = false := ba_nev hq
      clear hq
      go_enter Tryz.func54, Tryz.ntmps54
      go_wp2
      go_ret2
      exact ⟨rfl, .inr ⟨fun h => HQ.out h.2, rfl⟩⟩
  · have hge : ¬ (t.size : Int) ≤ (s.size : Int) := by omega
    go_enter Tryz.func54, Tryz.ntmps54
    go_wp2
    go_ret2
    exact ⟨rfl, .inr ⟨fun h => hlt h.1, rfl⟩⟩
end Go.Proofs.YthnlllbanfemaaaGreatDoor
namespace Go.Proofs.YthnlllbanfemaaaGreatDoor
open Go.ChangeShapes Go.WideShapes Go.ChangeAt Go.RowKit
set_option linter.unusedVariables false
set_option maxRecDepth 100000

def cellsTx (T : Strs) : List Value := T.map .string
def cellsNm (N : List Int) : List Value := N.map (.int .i64)
theorem infoNumM : (Tryz.prog.info? 2).map (fun i => (i.zero, i.size, i.bytes)) = some (some (.int .i64 0), 1, 8) := by kernel_rfl
/-- The machine lies in block M; its stacks lie in rows from block B on. -/
structure MSt (B M : Nat) (wv : Value) (w : World) (tq nq oq : Option Addr) (tc nc oc nt nn no : Nat) (T : Strs) (N : List Int) (O : Recs) : Prop where
  row : Row w M 119 #[wv, .slice tq nt tc, .slice nq nn nc, .slice oq no oc]
  tx : w.ownsRow B 9 1 (.slice tq nt tc) nt (cellsTx T)
  nm : w.ownsRow B 2 1 (.slice nq nn nc) nn (cellsNm N)
  rc : w.ownsRow B 54 2 (.slice oq no oc) no (cellsRc O)
  lt : T.length = nt
  ln : N.length = nn
  lo : O.length = no
  low : B ≤ M
  few : nt ≤ 100 ∧ nn ≤ 100 ∧ no ≤ 100
def MAt (B M : Nat) (wv : Value) (w : World) (T : Strs) (N : List Int) (O : Recs) : Prop := ∃ tq nq oq tc nc oc nt nn no, MSt B M wv w tq nq oq tc nc oc nt nn no T N O
theorem MSt.keep {B M : Nat} {wv : Value} {w w1 : World} {tq nq oq : Option Addr} {tc nc oc nt nn no : Nat} {T : Strs} {N : List Int} {O : Recs} (h : MSt B M wv w tq nq oq tc nc oc nt nn no T N O) (hB : Below w.heap.size w w1) : MSt B M wv w1 tq nq oq tc nc oc nt nn no T N O :=
  ⟨h.row.keep hB, own_below h.tx hB, own_below h.nm hB, own_below h.rc hB, h.lt, h.ln, h.lo, h.low, h.few⟩
theorem MAt.keep {B M : Nat} {wv : Value} {w w1 : World} {T : Strs} {N : List Int} {O : Recs} (h : MAt B M wv w T N O) (hB : Below w.heap.size w w1) : MAt B M wv w1 T N O := by
  obtain ⟨tq, nq, oq, tc, nc, oc, nt, nn, no, h⟩ := h
  exact ⟨tq, nq, oq, tc, nc, oc, nt, nn, no, h.keep hB⟩
theorem MSt.lts {B M : Nat} {wv : Value} {w : World} {tq nq oq : Option Addr} {tc nc oc nt nn no : Nat} {T : Strs} {N : List Int} {O : Recs} (h : MSt B M wv w tq nq oq tc nc oc nt nn no T N O) : B ≤ w.heap.size := Nat.le_of_lt (Nat.lt_of_le_of_lt h.low h.row.lt)
theorem MSt.push_tx (s : ByteArray) {B M : Nat} {wv : Value} {w w8 : World} {tq nq oq : Option Addr} {tc nc oc nt nn no : Nat} {T : Strs} {N : List Int} {O : Recs} (h : MSt B M wv w tq nq oq tc nc oc nt nn no T N O) {q' : Option Addr} {c' : Nat} (o : Obj) (hown : w8.ownsRow B 9 1 (.slice q' (nt + 1) c') (nt + 1) (cellsTx (T ++ [s]))) (hg : (w.alloc o).grownBy w8 (Value.slice tq nt tc).ownBlock) (hf : nt + 1 ≤ 100) :
    MSt B M wv (w8.setCell ⟨M, 1, none⟩ (.slice q' (nt + 1) c')) q' nq oq c' nc oc (nt + 1) nn no (T ++ [s]) N O ∧ Below B w (w8.setCell ⟨M, 1, none⟩ (.slice q' (nt + 1) c')) := by
  have hr : Row w8 M 119 #[wv, .slice tq nt tc, .slice nq nn nc, .slice oq no oc] := ot_row_grownT (h.row.otAl o) (own_below h.tx (below_alloc (Below.refl _ _) o)) (by decide) hg
  refine ⟨⟨?_, ot_own_put hown (ot_own_ne_row hown hr (by decide)) _ _, ot_own_put (ot_own_grown (own_below h.nm (below_alloc (Below.refl _ _) o)) hg (ot_own_apartT (own_below h.nm (below_alloc (Below.refl _ _) o)) (own_below h.tx (below_alloc (Below.refl _ _) o)) (by decide))) (ot_own_ne_row (ot_own_grown (own_below h.nm (below_alloc (Below.refl _ _) o)) hg (ot_own_apartT (own_below h.nm (below_alloc (Below.refl _ _) o)) (own_below h.tx (below_alloc (Below.refl _ _) o)) (by decide))) hr (by decide)) _ _, ot_own_put (ot_own_grown (own_below h.rc (below_alloc (Below.refl _ _) o)) hg (ot_own_apartT (own_below h.rc (below_alloc (Below.refl _ _) o)) (own_below h.tx (below_alloc (Below.refl _ _) o)) (by decide))) (ot_own_ne_row (ot_own_grown (own_below h.rc (below_alloc (Below.refl _ _) o)) hg (ot_own_apartT (own_below h.rc (below_alloc (Below.refl _ _) o)) (own_below h.tx (below_alloc (Below.refl _ _) o)) (by decide))) hr (by decide)) _ _, by rw [List.length_append, h.lt]; rfl, h.ln, h.lo, h.low, by have := hf; omega, h.few.2.1, h.few.2.2⟩, ?_⟩
  · have := hr.set 1 (.slice q' (nt + 1) c')
    simpa using this
  · exact (((Below.refl B w).alloc h.lts o).grown hg (Nat.le_trans h.lts (by simp)) (fun j hj => ((own_below h.tx (below_alloc (Below.refl _ _) o)).lt j hj).1)).setCell h.low _
theorem MSt.pop_tx {B M : Nat} {wv : Value} {w : World} {tq nq oq : Option Addr} {tc nc oc nt nn no : Nat} {T : Strs} {N : List Int} {O : Recs} (h : MSt B M wv w tq nq oq tc nc oc nt nn no T N O) {V : Strs} {s : ByteArray} {k : Nat} (hL : T = V ++ [s]) (hV : V.length = k) :
    MSt B M wv (w.setCell ⟨M, 1, none⟩ (.slice tq k tc)) tq nq oq tc nc oc k nn no V N O ∧ Below B w (w.setCell ⟨M, 1, none⟩ (.slice tq k tc)) ∧ nt = k + 1 := by
  have hk : nt = k + 1 := by have := h.lt; rw [hL, List.length_append, hV] at this; simpa using this.symm
  have hd : w.ownsRow B 9 1 (.slice tq k tc) k (cellsTx V) := by
    have := ot_take h.tx (k := k) (by omega) (by omega)
    have e : (cellsTx T).take (k * 1) = cellsTx V := by
      rw [hL]; unfold cellsTx
      rw [Nat.mul_one, List.map_append, List.take_left' (by rw [List.length_map, hV])]
    rw [e] at this
    exact this
  refine ⟨⟨?_, ot_own_put hd (ot_own_ne_row hd h.row (by decide)) _ _, ot_own_put h.nm (ot_own_ne_row h.nm h.row (by decide)) _ _, ot_own_put h.rc (ot_own_ne_row h.rc h.row (by decide)) _ _, hV, h.ln, h.lo, h.low, by have := h.few; omega, h.few.2.1, h.few.2.2⟩, (Below.refl B w).setCell h.low _, hk⟩
  have := h.row.set 1 (.slice tq k tc)
  simpa using this
theorem MSt.top_tx {B M : Nat} {wv : Value} {w : World} {tq nq oq : Option Addr} {tc nc oc nt nn no : Nat} {T : Strs} {N : List Int} {O : Recs} (h : MSt B M wv w tq nq oq tc nc oc nt nn no T N O) {V : Strs} {s : ByteArray} {k : Nat} (hL : T = V ++ [s]) (hV : V.length = k) :
    ∃ g, tq = some ⟨g, 0, none⟩ ∧ w.cell? ⟨g, k, none⟩ = some (.string s) ∧ nt = k + 1 ∧ k < tc ∧ tc ≤ maxLen := by
  have hk : nt = k + 1 := by have := h.lt; rw [hL, List.length_append, hV] at this; simpa using this.symm
  rcases h.tx.2 with ⟨_, h0⟩ | ⟨g, cap, cur, hv, hb, hh, h1, h2, h3, h4⟩
  · omega
  · simp only [Value.slice.injEq] at hv
    obtain ⟨rfl, _, rfl⟩ := hv
    refine ⟨g, rfl, ?_, hk, by omega, h2⟩
    have e : (cellsTx T)[k]? = some (.string s) := by
      rw [hL]; unfold cellsTx
      rw [List.map_append, List.getElem?_append_right (by rw [List.length_map, hV]; exact Nat.le_refl _), List.length_map, hV, Nat.sub_self]
      rfl
    rw [← h4, List.getElem?_take_of_lt (by omega)] at e
    simp only [World.cell?, hh]
    simpa using e
theorem MSt.push_nm (s : Int) {B M : Nat} {wv : Value} {w w8 : World} {tq nq oq : Option Addr} {tc nc oc nt nn no : Nat} {T : Strs} {N : List Int} {O : Recs} (h : MSt B M wv w tq nq oq tc nc oc nt nn no T N O) {q' : Option Addr} {c' : Nat} (o : Obj) (hown : w8.ownsRow B 2 1 (.slice q' (nn + 1) c') (nn + 1) (cellsNm (N ++ [s]))) (hg : (w.alloc o).grownBy w8 (Value.slice nq nn nc).ownBlock) (hf : nn + 1 ≤ 100) :
    MSt B M wv (w8.setCell ⟨M, 2, none⟩ (.slice q' (nn + 1) c')) tq q' oq tc c' oc nt (nn + 1) no T (N ++ [s]) O ∧ Below B w (w8.setCell ⟨M, 2, none⟩ (.slice q' (nn + 1) c')) := by
  have hr : Row w8 M 119 #[wv, .slice tq nt tc, .slice nq nn nc, .slice oq no oc] := ot_row_grownT (h.row.otAl o) (own_below h.nm (below_alloc (Below.refl _ _) o)) (by decide) hg
  refine ⟨⟨?_, ot_own_put (ot_own_grown (own_below h.tx (below_alloc (Below.refl _ _) o)) hg (ot_own_apartT (own_below h.tx (below_alloc (Below.refl _ _) o)) (own_below h.nm (below_alloc (Below.refl _ _) o)) (by decide))) (ot_own_ne_row (ot_own_grown (own_below h.tx (below_alloc (Below.refl _ _) o)) hg (ot_own_apartT (own_below h.tx (below_alloc (Below.refl _ _) o)) (own_below h.nm (below_alloc (Below.refl _ _) o)) (by decide))) hr (by decide)) _ _, ot_own_put hown (ot_own_ne_row hown hr (by decide)) _ _, ot_own_put (ot_own_grown (own_below h.rc (below_alloc (Below.refl _ _) o)) hg (ot_own_apartT (own_below h.rc (below_alloc (Below.refl _ _) o)) (own_below h.nm (below_alloc (Below.refl _ _) o)) (by decide))) (ot_own_ne_row (ot_own_grown (own_below h.rc (below_alloc (Below.refl _ _) o)) hg (ot_own_apartT (own_below h.rc (below_alloc (Below.refl _ _) o)) (own_below h.nm (below_alloc (Below.refl _ _) o)) (by decide))) hr (by decide)) _ _, h.lt, by rw [List.length_append, h.ln]; rfl, h.lo, h.low, h.few.1, by have := hf; omega, h.few.2.2⟩, ?_⟩
  · have := hr.set 2 (.slice q' (nn + 1) c')
    simpa using this
  · exact (((Below.refl B w).alloc h.lts o).grown hg (Nat.le_trans h.lts (by simp)) (fun j hj => ((own_below h.nm (below_alloc (Below.refl _ _) o)).lt j hj).1)).setCell h.low _
theorem MSt.pop_nm {B M : Nat} {wv : Value} {w : World} {tq nq oq : Option Addr} {tc nc oc nt nn no : Nat} {T : Strs} {N : List Int} {O : Recs} (h : MSt B M wv w tq nq oq tc nc oc nt nn no T N O) {V : List Int} {s : Int} {k : Nat} (hL : N = V ++ [s]) (hV : V.length = k) :
    MSt B M wv (w.setCell ⟨M, 2, none⟩ (.slice nq k nc)) tq nq oq tc nc oc nt k no T V O ∧ Below B w (w.setCell ⟨M, 2, none⟩ (.slice nq k nc)) ∧ nn = k + 1 := by
  have hk : nn = k + 1 := by have := h.ln; rw [hL, List.length_append, hV] at this; simpa using this.symm
  have hd : w.ownsRow B 2 1 (.slice nq k nc) k (cellsNm V) := by
    have := ot_take h.nm (k := k) (by omega) (by omega)
    have e : (cellsNm N).take (k * 1) = cellsNm V := by
      rw [hL]; unfold cellsNm
      rw [Nat.mul_one, List.map_append, List.take_left' (by rw [List.length_map, hV])]
    rw [e] at this
    exact this
  refine ⟨⟨?_, ot_own_put h.tx (ot_own_ne_row h.tx h.row (by decide)) _ _, ot_own_put hd (ot_own_ne_row hd h.row (by decide)) _ _, ot_own_put h.rc (ot_own_ne_row h.rc h.row (by decide)) _ _, h.lt, hV, h.lo, h.low, h.few.1, by have := h.few; omega, h.few.2.2⟩, (Below.refl B w).setCell h.low _, hk⟩
  have := h.row.set 2 (.slice nq k nc)
  simpa using this
theorem MSt.top_nm {B M : Nat} {wv : Value} {w : World} {tq nq oq : Option Addr} {tc nc oc nt nn no : Nat} {T : Strs} {N : List Int} {O : Recs} (h : MSt B M wv w tq nq oq tc nc oc nt nn no T N O) {V : List Int} {s : Int} {k : Nat} (hL : N = V ++ [s]) (hV : V.length = k) :
    ∃ g, nq = some ⟨g, 0, none⟩ ∧ w.cell? ⟨g, k, none⟩ = some (.int .i64 s) ∧ nn = k + 1 ∧ k < nc ∧ nc ≤ maxLen := by
  have hk : nn = k + 1 := by have := h.ln; rw [hL, List.length_append, hV] at this; simpa using this.symm
  rcases h.nm.2 with ⟨_, h0⟩ | ⟨g, cap, cur, hv, hb, hh, h1, h2, h3, h4⟩
  · omega
  · simp only [Value.slice.injEq] at hv
    obtain ⟨rfl, _, rfl⟩ := hv
    refine ⟨g, rfl, ?_, hk, by omega, h2⟩
    have e : (cellsNm N)[k]? = some (.int .i64 s) := by
      rw [hL]; unfold cellsNm
      rw [List.map_append, List.getElem?_append_right (by rw [List.length_map, hV]; exact Nat.le_refl _), List.length_map, hV, Nat.sub_self]
      rfl
    rw [← h4, List.getElem?_take_of_lt (by omega)] at e
    simp only [World.cell?, hh]
    simpa using e
theorem MSt.push_rc (s : ByteArray) (m : Int) {B M : Nat} {wv : Value} {w w8 : World} {tq nq oq : Option Addr} {tc nc oc nt nn no : Nat} {T : Strs} {N : List Int} {O : Recs} (h : MSt B M wv w tq nq oq tc nc oc nt nn no T N O) {q' : Option Addr} {c' : Nat} (o : Obj) (hown : w8.ownsRow B 54 2 (.slice q' (no + 1) c') (no + 1) (cellsRc (O ++ [(s, m)]))) (hg : (w.alloc o).grownBy w8 (Value.slice oq no oc).ownBlock) (hf : no + 1 ≤ 100) :
    MSt B M wv (w8.setCell ⟨M, 3, none⟩ (.slice q' (no + 1) c')) tq nq q' tc nc c' nt nn (no + 1) T N (O ++ [(s, m)]) ∧ Below B w (w8.setCell ⟨M, 3, none⟩ (.slice q' (no + 1) c')) := by
  have hr : Row w8 M 119 #[wv, .slice tq nt tc, .slice nq nn nc, .slice oq no oc] := ot_row_grownT (h.row.otAl o) (own_below h.rc (below_alloc (Below.refl _ _) o)) (by decide) hg
  refine ⟨⟨?_, ot_own_put (ot_own_grown (own_below h.tx (below_alloc (Below.refl _ _) o)) hg (ot_own_apartT (own_below h.tx (below_alloc (Below.refl _ _) o)) (own_below h.rc (below_alloc (Below.refl _ _) o)) (by decide))) (ot_own_ne_row (ot_own_grown (own_below h.tx (below_alloc (Below.refl _ _) o)) hg (ot_own_apartT (own_below h.tx (below_alloc (Below.refl _ _) o)) (own_below h.rc (below_alloc (Below.refl _ _) o)) (by decide))) hr (by decide)) _ _, ot_own_put (ot_own_grown (own_below h.nm (below_alloc (Below.refl _ _) o)) hg (ot_own_apartT (own_below h.nm (below_alloc (Below.refl _ _) o)) (own_below h.rc (below_alloc (Below.refl _ _) o)) (by decide))) (ot_own_ne_row (ot_own_grown (own_below h.nm (below_alloc (Below.refl _ _) o)) hg (ot_own_apartT (own_below h.nm (below_alloc (Below.refl _ _) o)) (own_below h.rc (below_alloc (Below.refl _ _) o)) (by decide))) hr (by decide)) _ _, ot_own_put hown (ot_own_ne_row hown hr (by decide)) _ _, h.lt, h.ln, by rw [List.length_append, h.lo]; rfl, h.low, h.few.1, h.few.2.1, by have := hf; omega⟩, ?_⟩
  · have := hr.set 3 (.slice q' (no + 1) c')
    simpa using this
  · exact (((Below.refl B w).alloc h.lts o).grown hg (Nat.le_trans h.lts (by simp)) (fun j hj => ((own_below h.rc (below_alloc (Below.refl _ _) o)).lt j hj).1)).setCell h.low _
end Go.Proofs.YthnlllbanfemaaaGreatDoor
