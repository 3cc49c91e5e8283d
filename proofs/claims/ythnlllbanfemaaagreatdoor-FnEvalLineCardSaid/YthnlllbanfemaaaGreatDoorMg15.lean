/- Texts put together, as a claim holds at most sixty files. -/
import Derived.Test.YthnlllbanfemaaaGreatDoorMg12
import Derived.Test.YthnlllbanfemaaaGreatDoorMg13
import Derived.Test.YthnlllbanfemaaaGreatDoorMg10
import Derived.Test.YthnlllbanfemaaaGreatDoorMg14
import Derived.Test.YthnlllbanfemaaaGreatDoorMg3
namespace Go.Proofs.YthnlllbanfemaaaGreatDoor
open Go.ChangeShapes Go.WideShapes Go.ChangeAt Go.RowKit
set_option linter.unusedVariables false
set_option maxRecDepth 100000

def cellsTx (T : Strs) : List Value := T.map .string
def cellsNm (N : List Int) : List Value := N.map (.int .i64)
theorem infoNumM : (Tryz.prog.info? 2).map (fun i => (i.zero, i.size, i.bytes)) = some (some (.int .i64 0), 1, 8) := by kernel_rfl
/-- The machine lies in block M; its stacks lie in rows from block B on. -/
structure MSt (B M : Nat) (wv : Value) (w : World) (tq nq oq : Option Addr) (tc nc oc nt nn no : Nat) (T : Strs) (N : List Int) (O : Recs) : Prop where
  row : Row w M 119 #[wv, .slice tq nt tc, .slice nq nn nc, .slice oq no oc]
  tx : w.ownsRow B 9 1 (.slice tq nt tc) nt (cellsTx T)
  nm : w.ownsRow B 2 1 (.slice nq nn nc) nn (cellsNm N)
  rc : w.ownsRow B 54 2 (.slice oq no oc) no (cellsRc O)
  lt : T.length = nt
  ln : N.length = nn
  lo : O.length = no
  low : B ≤ M
  few : nt ≤ 100 ∧ nn ≤ 100 ∧ no ≤ 100
def MAt (B M : Nat) (wv : Value) (w : World) (T : Strs) (N : List Int) (O : Recs) : Prop := ∃ tq nq oq tc nc oc nt nn no, MSt B M wv w tq nq oq tc nc oc nt nn no T N O
theorem MSt.keep {B M : Nat} {wv : Value} {w w1 : World} {tq nq oq : Option Addr} {tc nc oc nt nn no : Nat} {T : Strs} {N : List Int} {O : Recs} (h : MSt B M wv w tq nq oq tc nc oc nt nn no T N O) (hB : Below w.heap.size w w1) : MSt B M wv w1 tq nq oq tc nc oc nt nn no T N O :=
  ⟨h.row.keep hB, own_below h.tx hB, own_below h.nm hB, own_below h.rc hB, h.lt, h.ln, h.lo, h.low, h.few⟩
theorem MAt.keep {B M : Nat} {wv : Value} {w w1 : World} {T : Strs} {N : List Int} {O : Recs} (h : MAt B M wv w T N O) (hB : Below w.heap.size w w1) : MAt B M wv w1 T N O := by
  obtain ⟨tq, nq, oq, tc, nc, oc, nt, nn, no, h⟩ := h
  exact ⟨tq, nq, oq, tc, nc, oc, nt, nn, no, h.keep hB⟩
theorem MSt.lts {B M : Nat} {wv : Value} {w : World} {tq nq oq : Option Addr} {tc nc oc nt nn no : Nat} {T : Strs} {N : List Int} {O : Recs} (h : MSt B M wv w tq nq oq tc nc oc nt nn no T N O) : B ≤ w.heap.size := Nat.le_of_lt (Nat.lt_of_le_of_lt h.low h.row.lt)
theorem MSt.push_tx (s : ByteArray) {B M : Nat} {wv : Value} {w w8 : World} {tq nq oq : Option Addr} {tc nc oc nt nn no : Nat} {T : Strs} {N : List Int} {O : Recs} (h : MSt B M wv w tq nq oq tc nc oc nt nn no T N O) {q' : Option Addr} {c' : Nat} (o : Obj) (hown : w8.ownsRow B 9 1 (.slice q' (nt + 1) c') (nt + 1) (cellsTx (T ++ [s]))) (hg : (w.alloc o).grownBy w8 (Value.slice tq nt tc).ownBlock) (hf : nt + 1 ≤ 100) :
    MSt B M wv (w8.setCell ⟨M, 1, none⟩ (.slice q' (nt + 1) c')) q' nq oq c' nc oc (nt + 1) nn no (T ++ [s]) N O ∧ Below B w (w8.setCell ⟨M, 1, none⟩ (.slice q' (nt + 1) c')) := by
  have hr : Row w8 M 119 #[wv, .slice tq nt tc, .slice nq nn nc, .slice oq no oc] := ot_row_grownT (h.row.otAl o) (own_below h.tx (below_alloc (Below.refl _ _) o)) (by decide) hg
  refine ⟨⟨?_, ot_own_put hown (ot_own_ne_row hown hr (by decide)) _ _, ot_own_put (ot_own_grown (own_below h.nm (below_alloc (Below.refl _ _) o)) hg (ot_own_apartT (own_below h.nm (below_alloc (Below.refl _ _) o)) (own_below h.tx (below_alloc (Below.refl _ _) o)) (by decide))) (ot_own_ne_row (ot_own_grown (own_below h.nm (below_alloc (Below.refl _ _) o)) hg (ot_own_apartT (own_below h.nm (below_alloc (Below.refl _ _) o)) (own_below h.tx (below_alloc (Below.refl _ _) o)) (by decide))) hr (by decide)) _ _, ot_own_put (ot_own_grown (own_below h.rc (below_alloc (Below.refl _ _) o)) hg (ot_own_apartT (own_below h.rc (below_alloc (Below.refl _ _) o)) (own_below h.tx (below_alloc (Below.refl _ _) o)) (by decide))) (ot_own_ne_row (ot_own_grown (own_below h.rc (below_alloc (Below.refl _ _) o)) hg (ot_own_apartT (own_below h.rc (below_alloc (Below.refl _ _) o)) (own_below h.tx (below_alloc (Below.refl _ _) o)) (by decide))) hr (by decide)) _ _, by rw [List.length_append, h.lt]; rfl, h.ln, h.lo, h.low, by have := hf; omega, h.few.2.1, h.few.2.2⟩, ?_⟩
  · have := hr.set 1 (.slice q' (nt + 1) c')
    simpa using this
  · exact (((Below.refl B w).alloc h.lts o).grown hg (Nat.le_trans h.lts (by simp)) (fun j hj => ((own_below h.tx (below_alloc (Below.refl _ _) o)).lt j hj).1)).setCell h.low _
theorem MSt.pop_tx {B M : Nat} {wv : Value} {w : World} {tq nq oq : Option Addr} {tc nc oc nt nn no : Nat} {T : Strs} {N : List Int} {O : Recs} (h : MSt B M wv w tq nq oq tc nc oc nt nn no T N O) {V : Strs} {s : ByteArray} {k : Nat} (hL : T = V ++ [s]) (hV : V.length = k) :
    MSt B M wv (w.setCell ⟨M, 1, none⟩ (.slice tq k tc)) tq nq oq tc nc oc k nn no V N O ∧ Below B w (w.setCell ⟨M, 1, none⟩ (.slice tq k tc)) ∧ nt = k + 1 := by
  have hk : nt = k + 1 := by have := h.lt; rw [hL, List.length_append, hV] at this; simpa using this.symm
  have hd : w.ownsRow B 9 1 (.slice tq k tc) k (cellsTx V) := by
    have := ot_take h.tx (k := k) (by omega) (by omega)
    have e : (cellsTx T).take (k * 1) = cellsTx V := by
      rw [hL]; unfold cellsTx
      rw [Nat.mul_one, List.map_append, List.take_left' (by rw [List.length_map, hV])]
    rw [e] at this
    exact this
  refine ⟨⟨?_, ot_own_put hd (ot_own_ne_row hd h.row (by decide)) _ _, ot_own_put h.nm (ot_own_ne_row h.nm h.row (by decide)) _ _, ot_own_put h.rc (ot_own_ne_row h.rc h.row (by decide)) _ _, hV, h.ln, h.lo, h.low, by have := h.few; omega, h.few.2.1, h.few.2.2⟩, (Below.refl B w).setCell h.low _, hk⟩
  have := h.row.set 1 (.slice tq k tc)
  simpa using this
theorem MSt.top_tx {B M : Nat} {wv : Value} {w : World} {tq nq oq : Option Addr} {tc nc oc nt nn no : Nat} {T : Strs} {N : List Int} {O : Recs} (h : MSt B M wv w tq nq oq tc nc oc nt nn no T N O) {V : Strs} {s : ByteArray} {k : Nat} (hL : T = V ++ [s]) (hV : V.length = k) :
    ∃ g, tq = some ⟨g, 0, none⟩ ∧ w.cell? ⟨g, k, none⟩ = some (.string s) ∧ nt = k + 1 ∧ k < tc ∧ tc ≤ maxLen := by
  have hk : nt = k + 1 := by have := h.lt; rw [hL, List.length_append, hV] at this; simpa using this.symm
  rcases h.tx.2 with ⟨_, h0⟩ | ⟨g, cap, cur, hv, hb, hh, h1, h2, h3, h4⟩
  · omega
  · simp only [Value.slice.injEq] at hv
    obtain ⟨rfl, _, rfl⟩ := hv
    refine ⟨g, rfl, ?_, hk, by omega, h2⟩
    have e : (cellsTx T)[k]? = some (.string s) := by
      rw [hL]; unfold cellsTx
      rw [List.map_append, List.getElem?_append_right (by rw [List.length_map, hV]; exact Nat.le_refl _), List.length_map, hV, Nat.sub_self]
      rfl
    rw [← h4, List.getElem?_take_of_lt (by omega)] at e
    simp only [World.cell?, hh]
    simpa using e
theorem MSt.push_nm (s : Int) {B M : Nat} {wv : Value} {w w8 : World} {tq nq oq : Option Addr} {tc nc oc nt nn no : Nat} {T : Strs} {N : List Int} {O : Recs} (h : MSt B M wv w tq nq oq tc nc oc nt nn no T N O) {q' : Option Addr} {c' : Nat} (o : Obj) (hown : w8.ownsRow B 2 1 (.slice q' (nn + 1) c') (nn + 1) (cellsNm (N ++ [s]))) (hg : (w.alloc o).grownBy w8 (Value.slice nq nn nc).ownBlock) (hf : nn + 1 ≤ 100) :
    MSt B M wv (w8.setCell ⟨M, 2, none⟩ (.slice q' (nn + 1) c')) tq q' oq tc c' oc nt (nn + 1) no T (N ++ [s]) O ∧ Below B w (w8.setCell ⟨M, 2, none⟩ (.slice q' (nn + 1) c')) := by
  have hr : Row w8 M 119 #[wv, .slice tq nt tc, .slice nq nn nc, .slice oq no oc] := ot_row_grownT (h.row.otAl o) (own_below h.nm (below_alloc (Below.refl _ _) o)) (by decide) hg
  refine ⟨⟨?_, ot_own_put (ot_own_grown (own_below h.tx (below_alloc (Below.refl _ _) o)) hg (ot_own_apartT (own_below h.tx (below_alloc (Below.refl _ _) o)) (own_below h.nm (below_alloc (Below.refl _ _) o)) (by decide))) (ot_own_ne_row (ot_own_grown (own_below h.tx (below_alloc (Below.refl _ _) o)) hg (ot_own_apartT (own_below h.tx (below_alloc (Below.refl _ _) o)) (own_below h.nm (below_alloc (Below.refl _ _) o)) (by decide))) hr (by decide)) _ _, ot_own_put hown (ot_own_ne_row hown hr (by decide)) _ _, ot_own_put (ot_own_grown (own_below h.rc (below_alloc (Below.refl _ _) o)) hg (ot_own_apartT (own_below h.rc (below_alloc (Below.refl _ _) o)) (own_below h.nm (below_alloc (Below.refl _ _) o)) (by decide))) (ot_own_ne_row (ot_own_grown (own_below h.rc (below_alloc (Below.refl _ _) o)) hg (ot_own_apartT (own_below h.rc (below_alloc (Below.refl _ _) o)) (own_below h.nm (below_alloc (Below.refl _ _) o)) (by decide))) hr (by decide)) _ _, h.lt, by rw [List.length_append, h.ln]; rfl, h.lo, h.low, h.few.1, by have := hf; omega, h.few.2.2⟩, ?_⟩
  · have := hr.set 2 (.slice q' (nn + 1) c')
    simpa using this
  · exact (((Below.refl B w).alloc h.lts o).grown hg (Nat.le_trans h.lts (by simp)) (fun j hj => ((own_below h.nm (below_alloc (Below.refl _ _) o)).lt j hj).1)).setCell h.low _
theorem MSt.pop_nm {B M : Nat} {wv : Value} {w : World} {tq nq oq : Option Addr} {tc nc oc nt nn no : Nat} {T : Strs} {N : List Int} {O : Recs} (h : MSt B M wv w tq nq oq tc nc oc nt nn no T N O) {V : List Int} {s : Int} {k : Nat} (hL : N = V ++ [s]) (hV : V.length = k) :
    MSt B M wv (w.setCell ⟨M, 2, none⟩ (.slice nq k nc)) tq nq oq tc nc oc nt k no T V O ∧ Below B w (w.setCell ⟨M, 2, none⟩ (.slice nq k nc)) ∧ nn = k + 1 := by
  have hk : nn = k + 1 := by have := h.ln; rw [hL, List.length_append, hV] at this; simpa using this.symm
  have hd : w.ownsRow B 2 1 (.slice nq k nc) k (cellsNm V) := by
    have := ot_take h.nm (k := k) (by omega) (by omega)
    have e : (cellsNm N).take (k * 1) = cellsNm V := by
      rw [hL]; unfold cellsNm
      rw [Nat.mul_one, List.map_append, List.take_left' (by rw [List.length_map, hV])]
    rw [e] at this
    exact this
  refine ⟨⟨?_, ot_own_put h.tx (ot_own_ne_row h.tx h.row (by decide)) _ _, ot_own_put hd (ot_own_ne_row hd h.row (by decide)) _ _, ot_own_put h.rc (ot_own_ne_row h.rc h.row (by decide)) _ _, h.lt, hV, h.lo, h.low, h.few.1, by have := h.few; omega, h.few.2.2⟩, (Below.refl B w).setCell h.low _, hk⟩
  have := h.row.set 2 (.slice nq k nc)
  simpa using this
theorem MSt.top_nm {B M : Nat} {wv : Value} {w : World} {tq nq oq : Option Addr} {tc nc oc nt nn no : Nat} {T : Strs} {N : List Int} {O : Recs} (h : MSt B M wv w tq nq oq tc nc oc nt nn no T N O) {V : List Int} {s : Int} {k : Nat} (hL : N = V ++ [s]) (hV : V.length = k) :
    ∃ g, nq = some ⟨g, 0, none⟩ ∧ w.cell? ⟨g, k, none⟩ = some (.int .i64 s) ∧ nn = k + 1 ∧ k < nc ∧ nc ≤ maxLen := by
  have hk : nn = k + 1 := by have := h.ln; rw [hL, List.length_append, hV] at this; simpa using this.symm
  rcases h.nm.2 with ⟨_, h0⟩ | ⟨g, cap, cur, hv, hb, hh, h1, h2, h3, h4⟩
  · omega
  · simp only [Value.slice.injEq] at hv
    obtain ⟨rfl, _, rfl⟩ := hv
    refine ⟨g, rfl, ?_, hk, by omega, h2⟩
    have e : (cellsNm N)[k]? = some (.int .i64 s) := by
      rw [hL]; unfold cellsNm
      rw [List.map_append, List.getElem?_append_right (by rw [List.length_map, hV]; exact Nat.le_refl _), List.length_map, hV, Nat.sub_self]
      rfl
    rw [← h4, List.getElem?_take_of_lt (by omega)] at e
    simp only [World.cell?, hh]
    simpa using e
theorem MSt.push_rc (s : ByteArray) (m : Int) {B M : Nat} {wv : Value} {w w8 : World} {tq nq oq : Option Addr} {tc nc oc nt nn no : Nat} {T : Strs} {N : List Int} {O : Recs} (h : MSt B M wv w tq nq oq tc nc oc nt nn no T N O) {q' : Option Addr} {c' : Nat} (o : Obj) (hown : w8.ownsRow B 54 2 (.slice q' (no + 1) c') (no + 1) (cellsRc (O ++ [(s, m)]))) (hg : (w.alloc o).grownBy w8 (Value.slice oq no oc).ownBlock) (hf : no + 1 ≤ 100) :
    MSt B M wv (w8.setCell ⟨M, 3, none⟩ (.slice q' (no + 1) c')) tq nq q' tc nc c' nt nn (no + 1) T N (O ++ [(s, m)]) ∧ Below B w (w8.setCell ⟨M, 3, none⟩ (.slice q' (no + 1) c')) := by
  have hr : Row w8 M 119 #[wv, .slice tq nt tc, .slice nq nn nc, .slice oq no oc] := ot_row_grownT (h.row.otAl o) (own_below h.rc (below_alloc (Below.refl _ _) o)) (by decide) hg
  refine ⟨⟨?_, ot_own_put (ot_own_grown (own_below h.tx (below_alloc (Below.refl _ _) o)) hg (ot_own_apartT (own_below h.tx (below_alloc (Below.refl _ _) o)) (own_below h.rc (below_alloc (Below.refl _ _) o)) (by decide))) (ot_own_ne_row (ot_own_grown (own_below h.tx (below_alloc (Below.refl _ _) o)) hg (ot_own_apartT (own_below h.tx (below_alloc (Below.refl _ _) o)) (own_below h.rc (below_alloc (Below.refl _ _) o)) (by decide))) hr (by decide)) _ _, ot_own_put (ot_own_grown (own_below h.nm (below_alloc (Below.refl _ _) o)) hg (ot_own_apartT (own_below h.nm (below_alloc (Below.refl _ _) o)) (own_below h.rc (below_alloc (Below.refl _ _) o)) (by decide))) (ot_own_ne_row (ot_own_grown (own_below h.nm (below_alloc (Below.refl _ _) o)) hg (ot_own_apartT (own_below h.nm (below_alloc (Below.refl _ _) o)) (own_below h.rc (below_alloc (Below.refl _ _) o)) (by decide))) hr (by decide)) _ _, ot_own_put hown (ot_own_ne_row hown hr (by decide)) _ _, h.lt, h.ln, by rw [List.length_append, h.lo]; rfl, h.low, h.few.1, h.few.2.1, by have := hf; omega⟩, ?_⟩
  · have := hr.set 3 (.slice q' (no + 1) c')
    simpa using this
  · exact (((Below.refl B w).alloc h.lts o).grown hg (Nat.le_trans h.lts (by simp)) (fun j hj => ((own_below h.rc (below_alloc (Below.refl _ _) o)).lt j hj).1)).setCell h.low _
end Go.Proofs.YthnlllbanfemaaaGreatDoor
namespace Go.Proofs.YthnlllbanfemaaaGreatDoor
open Go.ChangeShapes Go.WideShapes Go.ChangeAt Go.RowKit
set_option linter.unusedVariables false
set_option maxRecDepth 100000

/-- The end of a method that turns the machine. -/
def MEnd (B M : Nat) (wv v : Value) (T : Strs) (N : List Int) (O : Recs) (w : World) (e : Ending) (w' : World) : Prop := e = .returned v ∧ MAt B M wv w' T N O ∧ Below B w w'
theorem one_at (w : World) (x : Value) (t : TypeId) : ∀ j u, [x][j]? = some u → (w.alloc (.cells #[x] t)).cell? ((⟨w.heap.size, 0, none⟩ : Addr).add j) = some u := one_new w x t

set_option maxHeartbeats 2000000 in
theorem pushText_any (B M : Nat) (wv : Value) (w : World) (T : Strs) (N : List Int) (O : Recs) (s : ByteArray) (h : MAt B M wv w T N O) (hf : T.length < 100) :
    Calls Tryz.prog 107 #[.pointer (some ⟨M, 0, none⟩), .string s] w (MEnd B M wv (.tuple #[]) (T ++ [s]) N O w) := by
  obtain ⟨tq, nq, oq, tc, nc, oc, nt, nn, no, h⟩ := h
  have hn : nt + 1 ≤ 100 := by have := h.lt; omega
  obtain ⟨i0, hi, hz0, hz1, hz2⟩ := info_parts infoStr
  have HM := Lib.hid h
  have HF := Lib.hid hn
  have HR := Lib.hid (h.row.otAl (.cells #[.string s] 9))
  have k0 := h.row.cell (j := 0) (by simp)
  have k1 := h.row.cell (j := 1) (by simp)
  have k2 := h.row.cell (j := 2) (by simp)
  have k3 := h.row.cell (j := 3) (by simp)
  simp at k0 k1 k2 k3
  have f1 := h.row.free 1
  have a1 : (w.alloc (.cells #[.string s] 9)).cell? ⟨M, 1, none⟩ = some (.slice tq nt tc) := (World.cell?_alloc_past _ _ _ h.row.lt).trans k1
  clear h hf
  go_enter Tryz.func107, Tryz.ntmps107
  go_wp2_with (at_builtin; (refine wpList_append_own _ rfl _ _ 23 rfl B 9 i0 _ 1 16 Tryz.underlying23 hi hz0 hz1 hz2 rfl (by decide) _ _ _ rfl (own_below HM.out.tx (below_alloc (Below.refl _ _) _)) ⟨w.heap.size, 0, none⟩ 1 1 [.string s] rfl rfl (one_at _ _ _) (fun u hu => by simp at hu; subst hu; rfl) (by unfold maxLen; omega) (by omega) (Nat.le_trans HM.out.lts (by simp)) ?_); intro v' w8 hown hgrow _; obtain ⟨q', c', rfl⟩ := own_form hown; have HP := Lib.hid (HM.out.push_tx s _ (by unfold cellsTx; rw [List.map_append]; exact hown) hgrow HF.out); have hr8 := Lib.hid (ot_row_grownT HR.out (own_below HM.out.tx (below_alloc (Below.refl _ _) _)) (by decide) hgrow); have f8 := hr8.out.free 1; have k8 := hr8.out.cell (j := 1) (by simp); simp at k8; clear hown hgrow hr8)
  go_end0
  exact ⟨rfl, ⟨_, _, _, _, _, _, _, _, _, HP.out.1⟩, HP.out.2⟩

set_option maxHeartbeats 2000000 in
theorem pushNum_any (B M : Nat) (wv : Value) (w : World) (T : Strs) (N : List Int) (O : Recs) (s : Int) (h : MAt B M wv w T N O) (hf : N.length < 100) :
    Calls Tryz.prog 111 #[.pointer (some ⟨M, 0, none⟩), .int .i64 s] w (MEnd B M wv (.tuple #[]) T (N ++ [s]) O w) := by
  obtain ⟨tq, nq, oq, tc, nc, oc, nt, nn, no, h⟩ := h
  have hn : nn + 1 ≤ 100 := by have := h.ln; omega
  obtain ⟨i0, hi, hz0, hz1, hz2⟩ := info_parts infoNumM
  have HM := Lib.hid h
  have HF := Lib.hid hn
  have HR := Lib.hid (h.row.otAl (.cells #[.int .i64 s] 2))
  have k0 := h.row.cell (j := 0) (by simp)
  have k1 := h.row.cell (j := 1) (by simp)
  have k2 := h.row.cell (j := 2) (by simp)
  have k3 := h.row.cell (j := 3) (by simp)
  simp at k0 k1 k2 k3
  have f1 := h.row.free 2
  have a2 : (w.alloc (.cells #[.int .i64 s] 2)).cell? ⟨M, 2, none⟩ = some (.slice nq nn nc) := (World.cell?_alloc_past _ _ _ h.row.lt).trans k2
  clear h hf
  go_enter Tryz.func111, Tryz.ntmps111
  go_wp2_with (at_builtin; (refine wpList_append_own _ rfl _ _ 117 rfl B 2 i0 _ 1 8 Tryz.underlying117 hi hz0 hz1 hz2 rfl (by decide) _ _ _ rfl (own_below HM.out.nm (below_alloc (Below.refl _ _) _)) ⟨w.heap.size, 0, none⟩ 1 1 [.int .i64 s] rfl rfl (one_at _ _ _) (fun u hu => by simp at hu; subst hu; rfl) (by unfold maxLen; omega) (by omega) (Nat.le_trans HM.out.lts (by simp)) ?_); intro v' w8 hown hgrow _; obtain ⟨q', c', rfl⟩ := own_form hown; have HP := Lib.hid (HM.out.push_nm s _ (by unfold cellsNm; rw [List.map_append]; exact hown) hgrow HF.out); have hr8 := Lib.hid (ot_row_grownT HR.out (own_below HM.out.nm (below_alloc (Below.refl _ _) _)) (by decide) hgrow); have f8 := hr8.out.free 2; have k8 := hr8.out.cell (j := 2) (by simp); simp at k8; clear hown hgrow hr8)
  go_end0
  exact ⟨rfl, ⟨_, _, _, _, _, _, _, _, _, HP.out.1⟩, HP.out.2⟩

set_option maxHeartbeats 2000000 in
theorem emit_any (B M : Nat) (wv : Value) (w : World) (T : Strs) (N : List Int) (O : Recs) (s : ByteArray) (m : Int) (h : MAt B M wv w T N O) (hf : O.length < 100) :
    Calls Tryz.prog 145 #[.pointer (some ⟨M, 0, none⟩), .string s, .int .i64 m] w (MEnd B M wv (.tuple #[]) T N (O ++ [(s, m)]) w) := by
  obtain ⟨tq, nq, oq, tc, nc, oc, nt, nn, no, h⟩ := h
  have hn : no + 1 ≤ 100 := by have := h.lo; omega
  have HM := Lib.hid h
  have HF := Lib.hid hn
  have HR := Lib.hid (h.row.otAl (.cells #[.string s, .int .i64 m] 54))
  have k0 := h.row.cell (j := 0) (by simp)
  have k1 := h.row.cell (j := 1) (by simp)
  have k2 := h.row.cell (j := 2) (by simp)
  have k3 := h.row.cell (j := 3) (by simp)
  simp at k0 k1 k2 k3
  have f1 := h.row.free 3
  clear h hf
  go_enter Tryz.func145, Tryz.ntmps145
  go_wp2_with (at_builtin; go_loud (refine append1_rc rfl _ _ rfl B (.slice oq no oc) no O rfl (own_below HM.out.rc (below_alloc (Below.refl _ _) _)) w.heap.size _ s m rfl (rc_new w _ _ _) (by omega) (Nat.le_trans HM.out.lts (by simp)) ?_); intro q' c' w8 hown hgrow; have HP := Lib.hid (HM.out.push_rc s m _ hown hgrow HF.out); have hr8 := Lib.hid (ot_row_grownT HR.out (own_below HM.out.rc (below_alloc (Below.refl _ _) _)) (by decide) hgrow); have f8 := hr8.out.free 3; have k8 := hr8.out.cell (j := 3) (by simp); simp at k8; clear hown hgrow hr8)
  go_end0
  exact ⟨rfl, ⟨_, _, _, _, _, _, _, _, _, HP.out.1⟩, HP.out.2⟩

set_option maxHeartbeats 2000000 in
theorem popText_any (B M : Nat) (wv : Value) (w : World) (T : Strs) (N : List Int) (O : Recs) (V : Strs) (s : ByteArray) (h : MAt B M wv w T N O) (hL : T = V ++ [s]) :
    Calls Tryz.prog 115 #[.pointer (some ⟨M, 0, none⟩)] w (MEnd B M wv (.string s) V N O w) := by
  obtain ⟨tq, nq, oq, tc, nc, oc, nt, nn, no, h⟩ := h
  have HM := Lib.hid (h.pop_tx hL rfl)
  obtain ⟨g, hg, ct, hk, hc, hcm⟩ := h.top_tx hL rfl
  have hfew := h.few
  obtain ⟨k, hkl⟩ : ∃ k, V.length = k := ⟨_, rfl⟩
  rw [hkl] at HM ct hk hc
  subst hg
  subst hk
  unfold maxLen at hcm
  have k0 := h.row.cell (j := 0) (by simp)
  have k1 := h.row.cell (j := 1) (by simp)
  have k2 := h.row.cell (j := 2) (by simp)
  have k3 := h.row.cell (j := 3) (by simp)
  simp at k0 k1 k2 k3
  have f1 := h.row.free 1
  have e1 : ((k : Int) + 1) - 1 = (k : Int) := by omega
  have sw : IntKind.i64.wrap ((k : Int) + 1 - 1) = (k : Int) := by rw [e1]; exact IntWalk.i64_in _ (by omega)
  clear h hL hkl
  go_enter Tryz.func115, Tryz.ntmps115
  go_wp2
  go_ret
  exact ⟨rfl, ⟨_, _, _, _, _, _, _, _, _, HM.out.1⟩, HM.out.2.1⟩

set_option maxHeartbeats 2000000 in
theorem popNum_any (B M : Nat) (wv : Value) (w : World) (T : Strs) (N : List Int) (O : Recs) (V : List Int) (s : Int) (h : MAt B M wv w T N O) (hL : N = V ++ [s]) :
    Calls Tryz.prog 118 #[.pointer (some ⟨M, 0, none⟩)] w (MEnd B M wv (.int .i64 s) T V O w) := by
  obtain ⟨tq, nq, oq, tc, nc, oc, nt, nn, no, h⟩ := h
  have HM := Lib.hid (h.pop_nm hL rfl)
  obtain ⟨g, hg, ct, hk, hc, hcm⟩ := h.top_nm hL rfl
  have hfew := h.few
  obtain ⟨k, hkl⟩ : ∃ k, V.length = k := ⟨_, rfl⟩
  rw [hkl] at HM ct hk hc
  subst hg
  subst hk
  unfold maxLen at hcm
  have k0 := h.row.cell (j := 0) (by simp)
  have k1 := h.row.cell (j := 1) (by simp)
  have k2 := h.row.cell (j := 2) (by simp)
  have k3 := h.row.cell (j := 3) (by simp)
  simp at k0 k1 k2 k3
  have f1 := h.row.free 2
  have e1 : ((k : Int) + 1) - 1 = (k : Int) := by omega
  have sw : IntKind.i64.wrap ((k : Int) + 1 - 1) = (k : Int) := by rw [e1]; exact IntWalk.i64_in _ (by omega)
  clear h hL hkl
  go_enter Tryz.func118, Tryz.ntmps118
  go_wp2
  go_ret
  exact ⟨rfl, ⟨_, _, _, _, _, _, _, _, _, HM.out.1⟩, HM.out.2.1⟩

theorem mword_any (B M : Nat) (wq : Option Addr) (wn wc : Nat) (ws : Strs) (w : World) (T : Strs) (N : List Int) (O : Recs) (i : Int) (h : MAt B M (.slice wq wn wc) w T N O) (hw : StrsAt w wq wn ws) (hi : 0 ≤ i) :
    Calls Tryz.prog 108 #[.pointer (some ⟨M, 0, none⟩), .int .i64 i] w fun e w' => e = .returned (.string (wordAt ws i)) ∧ w' = w := by
  obtain ⟨tq, nq, oq, tc, nc, oc, nt, nn, no, h⟩ := h
  have hl := hw.length
  have k0 := h.row.cell (j := 0) (by simp)
  have k1 := h.row.cell (j := 1) (by simp)
  have k2 := h.row.cell (j := 2) (by simp)
  have k3 := h.row.cell (j := 3) (by simp)
  simp at k0 k1 k2 k3
  clear h
  by_cases hlt : i < (wn : Int)
  · obtain ⟨j, rfl⟩ : ∃ j : Nat, i = j := ⟨i.toNat, by omega⟩
    rcases hw.src with h0 | ⟨b, off, rfl, _, hc⟩
    · omega
    have cw := hc j (by omega)
    have HR := Lib.hid (show wordAt ws j = strAt ws j by unfold wordAt; rw [if_pos (by omega)]; rfl)
    obtain ⟨x, hx⟩ : ∃ x, strAt ws j = x := ⟨_, rfl⟩
    rw [hx] at HR cw
    have hge : ¬ (wn : Int) ≤ (j : Int) := by omega
    clear hc hw hx
    go_enter Tryz.func108, Tryz.ntmps108
    go_wp2
    go_ret
    exact ⟨by rw [HR.out]; rfl, rfl⟩
  · have HR := Lib.hid (show wordAt ws i = ⟨#[]⟩ by unfold wordAt; rw [if_neg (by omega)]; rfl)
    have hge : (wn : Int) ≤ i := by omega
    clear hw
    go_enter Tryz.func108, Tryz.ntmps108
    go_wp2
    go_ret
    exact ⟨by rw [HR.out]; rfl, rfl⟩

/-- Whether the text that was pushed last is too long. -/
theorem toolong_any (B M : Nat) (wv : Value) (w : World) (T : Strs) (N : List Int) (O : Recs) (h : MAt B M wv w T N O) (b : Bool) (hb : (∀ V s, T = V ++ [s] → b = decide (40 < s.size)) ∧ (T = [] → b = false)) :
    Calls Tryz.prog 68 #[.pointer (some ⟨M, 0, none⟩)] w fun e w' => e = .returned (.bool b) ∧ w' = w := by
  obtain ⟨tq, nq, oq, tc, nc, oc, nt, nn, no, h⟩ := h
  have hfew := h.few
  rcases List.eq_nil_or_concat T with hT | ⟨V, s, hT⟩
  · have hb2 := hb.2 hT
    subst hb2
    have hn0 : nt = 0 := by have := h.lt; rw [hT] at this; exact this.symm
    subst hn0
    have k0 := h.row.cell (j := 0) (by simp)
    have k1 := h.row.cell (j := 1) (by simp)
    have k2 := h.row.cell (j := 2) (by simp)
    have k3 := h.row.cell (j := 3) (by simp)
    simp at k0 k1 k2 k3
    clear h hb
    have sw : IntKind.i64.wrap (-1) = -1 := by decide
    go_enter Tryz.func68, Tryz.ntmps68
    go_wp2
    go_ret
    exact ⟨rfl, rfl⟩
  · rw [List.concat_eq_append] at hT
    have hb2 := hb.1 V s hT
    obtain ⟨g, hg, ct, hk, hc, hcm⟩ := h.top_tx hT rfl
    obtain ⟨k, hkl⟩ : ∃ k, V.length = k := ⟨_, rfl⟩
    rw [hkl] at ct hk hc
    subst hg
    subst hk
    have e1 : ((k : Int) + 1) - 1 = (k : Int) := by omega
    have sw : IntKind.i64.wrap ((k : Int) + 1 - 1) = (k : Int) := by rw [e1]; exact IntWalk.i64_in _ (by omega)
    have HB := Lib.hid (show b = decide ((40 : Int) < (s.size : Int)) by rw [hb2]; exact decide_eq_decide.2 (by omega))
    have k0 := h.row.cell (j := 0) (by simp)
    have k1 := h.row.cell (j := 1) (by simp)
    have k2 := h.row.cell (j := 2) (by simp)
    have k3 := h.row.cell (j := 3) (by simp)
    simp at k0 k1 k2 k3
    clear h hb hT hb2 hkl
    have hk0 : (0 : Int) ≤ (k : Int) := by omega
    go_enter Tryz.func68, Tryz.ntmps68
    go_wp2
    go_ret
    exact ⟨by rw [HB.out]; rfl, rfl⟩
end Go.Proofs.YthnlllbanfemaaaGreatDoor
namespace Go.Proofs.YthnlllbanfemaaaGreatDoor
open Go.ChangeShapes Go.WideShapes Go.ChangeAt Go.RowKit
set_option linter.unusedVariables false
set_option maxRecDepth 100000

def MadeNum (o : Option Int) (w : World) (e : Ending) (w' : World) : Prop := e = .returned (.tuple #[.int .i64 (o.getD 0), .bool o.isSome]) ∧ Below w.heap.size w w'
theorem num_fail {o : Option Int} {w w' : World} (h : o = none) (hB : Below w.heap.size w w') : MadeNum o w (.returned (.tuple #[.int .i64 0, .bool false])) w' := by
  subst h
  exact ⟨rfl, hB⟩
theorem num_good {o : Option Int} {v : Int} {w w' : World} (h : o = some v) (hB : Below w.heap.size w w') : MadeNum o w (.returned (.tuple #[.int .i64 v, .bool true])) w' := by
  subst h
  exact ⟨rfl, hB⟩
theorem take_snoc (s : ByteArray) (k : Nat) (h : k < s.size) : s.data.toList.take (k + 1) = s.data.toList.take k ++ [s[k]] := by
  rw [List.take_succ_eq_append_getElem (by simpa using h)]; rfl
theorem pow_le18 {x k : Nat} (h : x < 10 ^ k) (hk : k ≤ 18) : x < 1000000000000000000 := Nat.lt_of_lt_of_le h (by have := Nat.pow_le_pow_right (n := 10) (by decide) hk; simpa using this)
theorem pow_le19 {x k : Nat} (h : x < 10 ^ k) (hk : k ≤ 19) : x < 10000000000000000000 := Nat.lt_of_lt_of_le h (by have := Nat.pow_le_pow_right (n := 10) (by decide) hk; simpa using this)
theorem val_lt0 {l : List UInt8} (h : ∀ c ∈ l, digit c) : valF 0 l < 10 ^ l.length := by
  have := valF_lt l 0 h
  simpa using this
/-- The digits so far. -/
structure NumSt (T : ByteArray) (k : Nat) (x : Nat) : Prop where
  dig : ∀ c ∈ T.data.toList.take k, digit c
  val : valF 0 (T.data.toList.take k) = x
theorem NumSt.lt {T : ByteArray} {k x : Nat} (h : NumSt T k x) (hk : k ≤ T.size) (h18 : k ≤ 18) : x < 1000000000000000000 := by
  have := val_lt0 h.dig
  rw [h.val, List.length_take] at this
  exact pow_le18 this (by omega)
theorem NumSt.step {T : ByteArray} {k x : Nat} (h : NumSt T k x) (hk : k < T.size) (hd : digit T[k]) : NumSt T (k + 1) (x * 10 + (T[k].toNat - 48)) :=
  ⟨fun c hc => by
    rw [take_snoc T k hk] at hc
    rcases List.mem_append.1 hc with h1 | h1
    · exact h.dig c h1
    · simp only [List.mem_singleton] at h1
      subst h1; exact hd, by rw [take_snoc T k hk, valF_snoc, h.val]⟩
theorem NumSt.all {T : ByteArray} {x : Nat} (h : NumSt T T.size x) : (∀ c ∈ T.data.toList, digit c) ∧ valF 0 T.data.toList = x := by
  have e : T.data.toList.take T.size = T.data.toList := List.take_of_length_le (by simp)
  exact ⟨by have := h.dig; rwa [e] at this, by have := h.val; rwa [e] at this⟩
theorem head_zero {T : ByteArray} {r : List UInt8} (h : T.data.toList = 48 :: r) : ∃ h0 : 0 < T.size, T[0] = 48 ∧ T.size = r.length + 1 := by
  have hs : T.size = r.length + 1 := by
    have := congrArg List.length h
    simpa using this
  refine ⟨by omega, ?_, hs⟩
  have h1 : T.data.toList[0]? = some 48 := by rw [h]; rfl
  have h2 : T.data.toList[0]? = some T[0] := by
    rw [List.getElem?_eq_getElem (by simpa using (show 0 < T.size by omega))]; rfl
  rw [h1] at h2
  injection h2 with h2
  exact h2.symm
theorem zero_head {T : ByteArray} (h0 : 0 < T.size) (h : T[0] = 48) : ∃ r, T.data.toList = 48 :: r ∧ T.size = r.length + 1 := by
  cases hl : T.data.toList with
  | nil =>
    have h2 : T.data.toList.length = T.size := by simp
    rw [hl] at h2
    exact absurd h2 (by simp; omega)
  | cons c r =>
    have h1 : T.data.toList[0]'(by simpa using h0) = T[0] := rfl
    simp only [hl, List.getElem_cons_zero] at h1
    rw [h] at h1
    subst h1
    refine ⟨r, rfl, ?_⟩
    have := congrArg List.length hl
    simpa using this
theorem byte_is {c : UInt8} {n : Nat} (h : c.toNat = n) (hn : n < 256) : c = UInt8.ofNat n := by
  subst h; simp

/-- What is known of a text and of what stands behind its sign. -/
structure SignAt (s T : ByteArray) (b : Bool) : Prop where
  tail : tailN s.data.toList = T.data.toList
  neg : negN s.data.toList = b
theorem mem_at {T : ByteArray} {k : Nat} (hk : k < T.size) : T[k] ∈ T.data.toList := by
  have : T[k] = T.data.toList[k]'(by simpa using hk) := rfl
  rw [this]; exact List.getElem_mem _
theorem no_byte {s T : ByteArray} {b : Bool} (h : SignAt s T b) {k : Nat} (hk : k < T.size) (hd : ¬ digit T[k]) : numD s.data.toList = none :=
  num_no_digit (by rw [h.tail]; exact mem_at hk) hd
theorem no_first {s T : ByteArray} {b : Bool} (h : SignAt s T b) (h0 : 0 < T.size) (hz : T[0] = 48) (h2 : 1 < T.size ∨ b = true) : numD s.data.toList = none := by
  obtain ⟨r, hr, hs⟩ := zero_head h0 hz
  refine num_no_zero (by rw [h.tail]; exact hr) ?_
  rcases h2 with h2 | h2
  · left; intro e; subst e; simp at hs; omega
  · right; rw [h.neg, h2]
theorem no_empty {s T : ByteArray} {b : Bool} (h : SignAt s T b) (h0 : T.size = 0) : numD s.data.toList = none :=
  num_no_len0 (by rw [h.tail]; exact List.length_eq_zero_iff.1 (by simpa using h0))
theorem no_long {s T : ByteArray} {b : Bool} (h : SignAt s T b) (h0 : 19 < T.size) : numD s.data.toList = none :=
  num_no_long (by rw [h.tail]; simpa using h0)
theorem no_big {s T : ByteArray} {b : Bool} (h : SignAt s T b) {x : Nat} (hx : NumSt T T.size x) (h2 : (b = false ∧ 9223372036854775808 ≤ x) ∨ (b = true ∧ 9223372036854775808 < x)) : numD s.data.toList = none :=
  num_no_big (by rw [h.tail, h.neg, hx.all.2]; exact h2)
def FirstOk (T : ByteArray) (b : Bool) : Prop := ∀ h0 : 0 < T.size, ¬ (T[0] = 48 ∧ (1 < T.size ∨ b = true))
theorem ne_nil {T : ByteArray} (h0 : 0 < T.size) : T.data.toList ≠ [] := by
  intro e
  have h2 : T.data.toList.length = T.size := by simp
  rw [e] at h2
  exact absurd h2 (by simp; omega)
theorem numst0 (T : ByteArray) : NumSt T 0 0 := ⟨fun c hc => by rw [List.take_zero] at hc; exact absurd hc (by simp), by rw [List.take_zero]; rfl⟩
theorem is_num {s T : ByteArray} {b : Bool} (h : SignAt s T b) {x : Nat} (hx : NumSt T T.size x) (h0 : 0 < T.size) (hz : ¬ (T[0] = 48 ∧ (1 < T.size ∨ b = true))) (hv : (b = false → x < 9223372036854775808) ∧ (b = true → x ≤ 9223372036854775808)) :
    numD s.data.toList = some (if b = true then -((x : Nat) : Int) else ((x : Nat) : Int)) := by
  have := @num_yes s.data.toList (by rw [h.tail]; exact ne_nil h0) (by rw [h.tail]; exact hx.all.1)
    (fun r hr => by
      rw [h.tail] at hr
      obtain ⟨h1, h2, h3⟩ := head_zero hr
      have h4 : ¬ (1 < T.size ∨ b = true) := fun e => hz ⟨h2, e⟩
      refine ⟨?_, ?_⟩
      · cases r with
        | nil => rfl
        | cons a t => exact absurd (.inl (by simp at h3; omega)) h4
      · rw [h.neg]
        cases b with
        | false => rfl
        | true => exact absurd (.inr rfl) h4)
    (by rw [h.tail, h.neg, hx.all.2]; exact hv)
  rw [h.tail, h.neg, hx.all.2] at this
  exact this
theorem sign_pos {s : ByteArray} (h : ¬ (1 < s.size ∧ ∃ h0 : 0 < s.size, s[0] = 45)) : SignAt s s false := by
  have hn : ¬ (1 < s.data.toList.length ∧ s.data.toList.head? = some 45) := by
    rintro ⟨h1, h2⟩
    have h1' : 1 < s.size := by simpa using h1
    refine h ⟨h1', by omega, ?_⟩
    rw [List.head?_eq_getElem?, List.getElem?_eq_getElem (by omega)] at h2
    injection h2
  exact ⟨by unfold tailN; rw [if_neg hn], decide_eq_false hn⟩
theorem sign_neg {s : ByteArray} (h1 : 1 < s.size) (h0 : 0 < s.size) (h : s[0] = 45) : SignAt s (s.extract 1 s.size) true := by
  have hn : 1 < s.data.toList.length ∧ s.data.toList.head? = some 45 := by
    refine ⟨by simpa using h1, ?_⟩
    rw [List.head?_eq_getElem?, List.getElem?_eq_getElem (by simpa using h0)]
    exact congrArg some h
  refine ⟨?_, decide_eq_true hn⟩
  unfold tailN
  rw [if_pos hn]
  have : (s.extract 1 s.size).data.toList = (s.data.toList.drop 1).take (s.size - 1) := by simp
  rw [this, List.take_of_length_le (by simp)]

set_option maxHeartbeats 4000000 in
theorem l1num_any (s : ByteArray) (w : World) (hs : s.size ≤ maxLen) : Calls Tryz.prog 63 #[.string s] w (MadeNum (numD s.data.toList) w) := by
  unfold maxLen at hs
  by_cases hsg : 1 < s.size ∧ ∃ h0 : 0 < s.size, s[0] = 45
  · obtain ⟨hs1, h0, h45⟩ := hsg
    have hb45 : ((s[0].toNat : Int) == 45) = true := by rw [h45]; rfl
    have HSG := Lib.hid (sign_neg hs1 h0 h45)
    have hTs : (s.extract 1 s.size).size = s.size - 1 := by rw [ByteArray.size_extract]; omega
    obtain ⟨T, hT⟩ : ∃ T, s.extract 1 s.size = T := ⟨_, rfl⟩
    rw [hT] at HSG hTs
    have hT1 : (T.size : Int) < (s.size : Int) := by omega
    have hT2 : 0 < T.size := by omega
    have hT3 : (1 : Int) ≤ (s.size : Int) := by omega
    have hs2 : (1 : Int) < (s.size : Int) := by omega
    have hT4 : ¬ (T.size : Int) < 1 := by omega
    clear h45 hTs
    by_cases hlen : T.size ≤ 19
    · have hT5 : ¬ (19 : Int) < (T.size : Int) := by omega
      by_cases hz : T[0] = 48
      · have hz2 : ((T[0].toNat : Int) == 48) = true := by rw [hz]; rfl
        have HR := Lib.hid (no_first HSG.out hT2 hz (.inr rfl))
        clear hz
        go_enter Tryz.func63, Tryz.ntmps63
        go_wp2
        all_goals
          go_ret2
          exact num_fail HR.out (Below.refl _ _)
      · have HZ := Lib.hid (show FirstOk T true from fun _ e => hz e.1)
        have hz2 : ((T[0].toNat : Int) == 48) = false := by
          rw [beq_eq_false_iff_ne]
          intro e
          exact hz (byte_is (n := 48) (by omega) (by decide))
        clear hz
        go_enter Tryz.func63, Tryz.ntmps63
        go_wp2
        go_loop [6, 7] (fun n i => ∃ (k x : Nat), k ≤ T.size ∧ i = .int .i64 k ∧ n = .int .u64 x ∧ Hid (NumSt T k x)) (fun _ i => T.size - (intOf i).toNat)
        case atStart => exact ⟨0, 0, Nat.zero_le _, rfl, rfl, Lib.hid (numst0 _)⟩
        case round =>
          obtain ⟨k, x, hk, rfl, rfl, HX⟩ := hrel
          by_cases hlt : k < T.size
          · have hi0 : (0 : Int) ≤ (k : Int) := by omega
            have hi1 : (k : Int) < (T.size : Int) := by omega
            have hx18 := HX.out.lt (Nat.le_of_lt hlt) (by omega)
            by_cases hd : digit T[k]
            · have HX2 := Lib.hid (HX.out.step hlt hd)
              unfold digit at hd
              obtain ⟨hd1, hd2⟩ := hd
              have hd3 : ¬ ((T[k].toNat : Nat) : Int) < 48 := by omega
              have hd4 : ¬ (57 : Int) < ((T[k].toNat : Nat) : Int) := by omega
              go_wp2
              go_round
              case rel => exact ⟨k + 1, _, by omega, by go_num, by go_num, HX2⟩
              case measure => simp [intOf]; omega
            · have HR := Lib.hid (no_byte HSG.out hlt hd)
              unfold digit at hd
              by_cases hd3 : ((T[k].toNat : Nat) : Int) < 48
              · clear hd
                go_wp2
                go_ret2
                exact num_fail HR.out (Below.refl _ _)
              · have hd4 : (57 : Int) < ((T[k].toNat : Nat) : Int) := by omega
                clear hd
                go_wp2
                go_ret2
                exact num_fail HR.out (Below.refl _ _)
          · obtain rfl : k = T.size := by omega
            have hx19 : (x : Int) < 10000000000000000000 := by
              have h1 := val_lt0 HX.out.all.1
              rw [HX.out.all.2] at h1
              have := pow_le19 h1 (by simpa using hlen)
              omega
            by_cases hbig : (9223372036854775808 : Int) < (x : Int)
            · have HR := Lib.hid (no_big HSG.out HX.out (.inr ⟨rfl, by omega⟩))
              go_wp2
              go_ret2
              exact num_fail HR.out (Below.refl _ _)
            · have HR := Lib.hid (is_num HSG.out HX.out hT2 (HZ.out hT2) ⟨fun h => by simp at h, fun _ => by omega⟩)
              obtain ⟨y, hy⟩ : ∃ y : Int, (if x = 0 then 0 else 18446744073709551616 - (x : Int)) = y := ⟨_, rfl⟩
              have e1 : IntKind.u64.wrap (-(x : Int)) = y := by rw [← hy]; simp [IntKind.wrap, IntKind.bits, IntKind.signed]; split <;> omega
              have e2 : IntKind.i64.wrap y = -(x : Int) := by rw [← hy]; simp [IntKind.wrap, IntKind.bits, IntKind.signed]; split <;> split <;> omega
              clear hy
              go_wp2
              go_ret2
              exact num_good HR.out (Below.refl _ _)

    · have hlen2 : (19 : Int) < (T.size : Int) := by omega
      have HR := Lib.hid (no_long HSG.out (by omega))
      go_enter Tryz.func63, Tryz.ntmps63
      go_wp2
      all_goals
        go_ret2
        exact num_fail HR.out (Below.refl _ _)
  · have HSG := Lib.hid (sign_pos hsg)
    by_cases h0 : 0 < s.size
    · by_cases hs1 : (1 : Int) < (s.size : Int)
      · have hb45 : ((s[0].toNat : Int) == 45) = false := by
          rw [beq_eq_false_iff_ne]
          intro e
          exact hsg ⟨by omega, h0, byte_is (n := 45) (by omega) (by decide)⟩
        clear hsg
        have hT4 : ¬ (s.size : Int) < 1 := by omega
        by_cases hlen : s.size ≤ 19
        · have hT5 : ¬ (19 : Int) < (s.size : Int) := by omega
          by_cases hz : s[0] = 48
          · have hz2 : ((s[0].toNat : Int) == 48) = true := by rw [hz]; rfl
            have h1 : 1 < s.size := by omega
            have HR := Lib.hid (no_first HSG.out h0 hz (.inl h1))
            clear hz
            go_enter Tryz.func63, Tryz.ntmps63
            go_wp2
            all_goals
              go_ret2
              exact num_fail HR.out (Below.refl _ _)
          · have HZ := Lib.hid (show FirstOk s false from fun _ e => hz e.1)
            have hz2 : ((s[0].toNat : Int) == 48) = false := by
              rw [beq_eq_false_iff_ne]
              intro e
              exact hz (byte_is (n := 48) (by omega) (by decide))
            clear hz
            go_enter Tryz.func63, Tryz.ntmps63
            go_wp2
            go_loop [6, 7] (fun n i => ∃ (k x : Nat), k ≤ s.size ∧ i = .int .i64 k ∧ n = .int .u64 x ∧ Hid (NumSt s k x)) (fun _ i => s.size - (intOf i).toNat)
            case atStart => exact ⟨0, 0, Nat.zero_le _, rfl, rfl, Lib.hid (numst0 _)⟩
            case round =>
              obtain ⟨k, x, hk, rfl, rfl, HX⟩ := hrel
              by_cases hlt : k < s.size
              · have hi0 : (0 : Int) ≤ (k : Int) := by omega
                have hi1 : (k : Int) < (s.size : Int) := by omega
                have hx18 := HX.out.lt (Nat.le_of_lt hlt) (by omega)
                by_cases hd : digit s[k]
                · have HX2 := Lib.hid (HX.out.step hlt hd)
                  unfold digit at hd
                  obtain ⟨hd1, hd2⟩ := hd
                  have hd3 : ¬ ((s[k].toNat : Nat) : Int) < 48 := by omega
                  have hd4 : ¬ (57 : Int) < ((s[k].toNat : Nat) : Int) := by omega
                  go_wp2
                  go_round
                  case rel => exact ⟨k + 1, _, by omega, by go_num, by go_num, HX2⟩
                  case measure => simp [intOf]; omega
                · have HR := Lib.hid (no_byte HSG.out hlt hd)
                  unfold digit at hd
                  by_cases hd3 : ((s[k].toNat : Nat) : Int) < 48
                  · clear hd
                    go_wp2
                    go_ret2
                    exact num_fail HR.out (Below.refl _ _)
                  · have hd4 : (57 : Int) < ((s[k].toNat : Nat) : Int) := by omega
                    clear hd
                    go_wp2
                    go_ret2
                    exact num_fail HR.out (Below.refl _ _)
              · obtain rfl : k = s.size := by omega
                have hx19 : (x : Int) < 10000000000000000000 := by
                  have h1 := val_lt0 HX.out.all.1
                  rw [HX.out.all.2] at h1
                  have := pow_le19 h1 (by simpa using hlen)
                  omega
                by_cases hbig : (9223372036854775808 : Int) ≤ (x : Int)
                · have HR := Lib.hid (no_big HSG.out HX.out (.inl ⟨rfl, by omega⟩))
                  go_wp2
                  go_ret2
                  exact num_fail HR.out (Below.refl _ _)
                · have HR := Lib.hid (is_num HSG.out HX.out h0 (HZ.out h0) ⟨fun _ => by omega, fun h => by simp at h⟩)
                  go_wp2
                  go_ret2
                  exact num_good HR.out (Below.refl _ _)

        · have hlen2 : (19 : Int) < (s.size : Int) := by omega
          have HR := Lib.hid (no_long HSG.out (by omega))
          go_enter Tryz.func63, Tryz.ntmps63
          go_wp2
          all_goals
            go_ret2
            exact num_fail HR.out (Below.refl _ _)
      · clear hsg
        have hT4 : ¬ (s.size : Int) < 1 := by omega
        by_cases hlen : s.size ≤ 19
        · have hT5 : ¬ (19 : Int) < (s.size : Int) := by omega
          by_cases hz : s[0] = 48
          · have hz2 : ((s[0].toNat : Int) == 48) = true := by rw [hz]; rfl
            have h1 : ¬ 1 < s.size := by omega
            have HZ := Lib.hid (show FirstOk s false from fun _ e => by rcases e.2 with e | e; exact h1 e; cases e)
            clear hz
            go_enter Tryz.func63, Tryz.ntmps63
            go_wp2
            go_loop [6, 7] (fun n i => ∃ (k x : Nat), k ≤ s.size ∧ i = .int .i64 k ∧ n = .int .u64 x ∧ Hid (NumSt s k x)) (fun _ i => s.size - (intOf i).toNat)
            case atStart => exact ⟨0, 0, Nat.zero_le _, rfl, rfl, Lib.hid (numst0 _)⟩
            case round =>
              obtain ⟨k, x, hk, rfl, rfl, HX⟩ := hrel
              by_cases hlt : k < s.size
              · have hi0 : (0 : Int) ≤ (k : Int) := by omega
                have hi1 : (k : Int) < (s.size : Int) := by omega
                have hx18 := HX.out.lt (Nat.le_of_lt hlt) (by omega)
                by_cases hd : digit s[k]
                · have HX2 := Lib.hid (HX.out.step hlt hd)
                  unfold digit at hd
                  obtain ⟨hd1, hd2⟩ := hd
                  have hd3 : ¬ ((s[k].toNat : Nat) : Int) < 48 := by omega
                  have hd4 : ¬ (57 : Int) < ((s[k].toNat : Nat) : Int) := by omega
                  go_wp2
                  go_round
                  case rel => exact ⟨k + 1, _, by omega, by go_num, by go_num, HX2⟩
                  case measure => simp [intOf]; omega
                · have HR := Lib.hid (no_byte HSG.out hlt hd)
                  unfold digit at hd
                  by_cases hd3 : ((s[k].toNat : Nat) : Int) < 48
                  · clear hd
                    go_wp2
                    go_ret2
                    exact num_fail HR.out (Below.refl _ _)
                  · have hd4 : (57 : Int) < ((s[k].toNat : Nat) : Int) := by omega
                    clear hd
                    go_wp2
                    go_ret2
                    exact num_fail HR.out (Below.refl _ _)
              · obtain rfl : k = s.size := by omega
                have hx19 : (x : Int) < 10000000000000000000 := by
                  have h1 := val_lt0 HX.out.all.1
                  rw [HX.out.all.2] at h1
                  have := pow_le19 h1 (by simpa using hlen)
                  omega
                by_cases hbig : (9223372036854775808 : Int) ≤ (x : Int)
                · have HR := Lib.hid (no_big HSG.out HX.out (.inl ⟨rfl, by omega⟩))
                  go_wp2
                  go_ret2
                  exact num_fail HR.out (Below.refl _ _)
                · have HR := Lib.hid (is_num HSG.out HX.out h0 (HZ.out h0) ⟨fun _ => by omega, fun h => by simp at h⟩)
                  go_wp2
                  go_ret2
                  exact num_good HR.out (Below.refl _ _)

          · have HZ := Lib.hid (show FirstOk s false from fun _ e => hz e.1)
            have hz2 : ((s[0].toNat : Int) == 48) = false := by
              rw [beq_eq_false_iff_ne]
              intro e
              exact hz (byte_is (n := 48) (by omega) (by decide))
            clear hz
            go_enter Tryz.func63, Tryz.ntmps63
            go_wp2
            go_loop [6, 7] (fun n i => ∃ (k x : Nat), k ≤ s.size ∧ i = .int .i64 k ∧ n = .int .u64 x ∧ Hid (NumSt s k x)) (fun _ i => s.size - (intOf i).toNat)
            case atStart => exact ⟨0, 0, Nat.zero_le _, rfl, rfl, Lib.hid (numst0 _)⟩
            case round =>
              obtain ⟨k, x, hk, rfl, rfl, HX⟩ := hrel
              by_cases hlt : k < s.size
              · have hi0 : (0 : Int) ≤ (k : Int) := by omega
                have hi1 : (k : Int) < (s.size : Int) := by omega
                have hx18 := HX.out.lt (Nat.le_of_lt hlt) (by omega)
                by_cases hd : digit s[k]
                · have HX2 := Lib.hid (HX.out.step hlt hd)
                  unfold digit at hd
                  obtain ⟨hd1, hd2⟩ := hd
                  have hd3 : ¬ ((s[k].toNat : Nat) : Int) < 48 := by omega
                  have hd4 : ¬ (57 : Int) < ((s[k].toNat : Nat) : Int) := by omega
                  go_wp2
                  go_round
                  case rel => exact ⟨k + 1, _, by omega, by go_num, by go_num, HX2⟩
                  case measure => simp [intOf]; omega
                · have HR := Lib.hid (no_byte HSG.out hlt hd)
                  unfold digit at hd
                  by_cases hd3 : ((s[k].toNat : Nat) : Int) < 48
                  · clear hd
                    go_wp2
                    go_ret2
                    exact num_fail HR.out (Below.refl _ _)
                  · have hd4 : (57 : Int) < ((s[k].toNat : Nat) : Int) := by omega
                    clear hd
                    go_wp2
                    go_ret2
                    exact num_fail HR.out (Below.refl _ _)
              · obtain rfl : k = s.size := by omega
                have hx19 : (x : Int) < 10000000000000000000 := by
                  have h1 := val_lt0 HX.out.all.1
                  rw [HX.out.all.2] at h1
                  have := pow_le19 h1 (by simpa using hlen)
                  omega
                by_cases hbig : (9223372036854775808 : Int) ≤ (x : Int)
                · have HR := Lib.hid (no_big HSG.out HX.out (.inl ⟨rfl, by omega⟩))
                  go_wp2
                  go_ret2
                  exact num_fail HR.out (Below.refl _ _)
                · have HR := Lib.hid (is_num HSG.out HX.out h0 (HZ.out h0) ⟨fun _ => by omega, fun h => by simp at h⟩)
                  go_wp2
                  go_ret2
                  exact num_good HR.out (Below.refl _ _)

        · have hlen2 : (19 : Int) < (s.size : Int) := by omega
          have HR := Lib.hid (no_long HSG.out (by omega))
          go_enter Tryz.func63, Tryz.ntmps63
          go_wp2
          all_goals
            go_ret2
            exact num_fail HR.out (Below.refl _ _)
    · clear hsg
      have hz0 : s.size = 0 := by omega
      have hT4 : (s.size : Int) < 1 := by omega
      have hs1 : ¬ (1 : Int) < (s.size : Int) := by omega
      have HR := Lib.hid (no_empty HSG.out hz0)
      go_enter Tryz.func63, Tryz.ntmps63
      go_wp2
      all_goals
        go_ret2
        exact num_fail HR.out (Below.refl _ _)
end Go.Proofs.YthnlllbanfemaaaGreatDoor
