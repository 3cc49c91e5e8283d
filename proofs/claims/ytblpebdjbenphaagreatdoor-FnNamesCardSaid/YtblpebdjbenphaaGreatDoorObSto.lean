
/- The program's store(): the store that a store in use has come to. -/
import Derived.Test.YtblpebdjbenphaaGreatDoorPerf
import Derived.Test.YtblpebdjbenphaaGreatDoorStoK
namespace Go.Proofs.YtblpebdjbenphaaGreatDoor
open Go.ChangeShapes Go.WideShapes Go.ChangeAt Go.RowKit Go.MuLone
set_option linter.unusedVariables false
set_option maxRecDepth 100000

theorem ObAt.grownX {base : Nat} {w w1 : World} {B b n : Nat} {q : Option Addr} {cp : Nat} {lk : Int} {E : Els} {row : Option Nat} (h : ObAt base w B b n q cp lk E) (hg : w.grownBy w1 row) (hB : row ≠ some B) (hb : row ≠ some b) (hq : ∀ a, q = some a → row ≠ some a.block) : ObAt base w1 B b n q cp lk E :=
  ⟨h.row.grown hg hB, h.map.grown hg (Ne.symm hb), own_grown h.keys hg (fun g hk => by
    cases q with
    | none => cases hk
    | some a => simp only [Value.ownBlock, Option.some.injEq] at hk; rw [← hk]; exact hq a rfl), h.geB, h.geb⟩
theorem ObAt.putX {base : Nat} {w : World} {B b n X : Nat} {q : Option Addr} {cp : Nat} {lk : Int} {E : Els} (h : ObAt base w B b n q cp lk E) (hB : X ≠ B) (hb : X ≠ b) (hq : ∀ a, q = some a → X ≠ a.block) (j : Nat) (v : Value) : ObAt base (w.setCell ⟨X, j, none⟩ v) B b n q cp lk E :=
  ⟨(Below.heap_setCell _ _ _ _ (Ne.symm hB)).trans h.row, h.map.put (Ne.symm hb) j v, own_put h.keys (fun g hk => by
    cases q with
    | none => cases hk
    | some a => simp only [Value.ownBlock, Option.some.injEq] at hk; rw [← hk]; exact hq a rfl) j v, h.geB, h.geb⟩
theorem Turn.grownX {B b : Nat} {q : Option Addr} {w w1 w2 : World} {row : Option Nat} (h : Turn B b q w w1) (k : w1.grownBy w2 row) (hr : ∀ g, row = some g → w.heap.size ≤ g) : Turn B b q w w2 :=
  ⟨k.os.trans h.os, k.tape.trans h.tape, k.output.trans h.output, Nat.le_trans h.size k.size, fun i hi h1 h2 h3 => (k.block i (Nat.lt_of_lt_of_le hi h.size) (fun he => by have := hr i he.symm; omega)).trans (h.block i hi h1 h2 h3)⟩
theorem Turn.putX {B b X : Nat} {q : Option Addr} {w w1 : World} (h : Turn B b q w w1) (hX : w.heap.size ≤ X) (j : Nat) (v : Value) : Turn B b q w (w1.setCell ⟨X, j, none⟩ v) :=
  ⟨h.os, h.tape, h.output, by have := h.size; simpa [World.setCell] using this, fun i hi h1 h2 h3 => (Below.heap_setCell _ _ _ _ (by show i ≠ X; omega)).trans (h.block i hi h1 h2 h3)⟩
/-- Where the three blocks lie. -/
structure Lt3 (N B b : Nat) (q : Option Addr) : Prop where
  B : B < N
  b : b < N
  q : ∀ a, q = some a → a.block < N
theorem ObAt.lt3 {base : Nat} {w : World} {B b n : Nat} {q : Option Addr} {cp : Nat} {lk : Int} {E : Els} (h : ObAt base w B b n q cp lk E) : Lt3 w.heap.size B b q := ⟨h.row.lt, h.map.lt, fun a ha => (keys_ge h.keys a ha).2⟩

structure SL (base : Nat) (w : World) (B b n : Nat) (q : Option Addr) (cp : Nat) (E : Els) (x y : Value) (q1 : Option Addr) (n1 c1 : Nat) (L : Objs) (q2 : Option Addr) (n2 c2 : Nat) (M : Gones) (wr : World) : Prop where
  ob : ObAt base wr B b n q cp 1 E
  turn : Turn B b q w wr
  res : Row wr w.heap.size 27 #[.slice none 0 0, .slice none 0 0]
  box : Row wr (w.heap.size + 1) 27 #[x, y]
  objs : wr.ownsRow (w.heap.size + 2) 34 3 (.slice q1 n1 c1) n1 (cellsObj L)
  gons : wr.ownsRow (w.heap.size + 2) 57 2 (.slice q2 n2 c2) n2 (cellsGone M)
  lt : Lt3 w.heap.size B b q
theorem SL.al {base : Nat} {w : World} {B b n : Nat} {q : Option Addr} {cp : Nat} {E : Els} {x y : Value} {q1 : Option Addr} {n1 c1 : Nat} {L : Objs} {q2 : Option Addr} {n2 c2 : Nat} {M : Gones} {wr : World} (h : SL base w B b n q cp E x y q1 n1 c1 L q2 n2 c2 M wr) (o : Obj) : SL base w B b n q cp E x y q1 n1 c1 L q2 n2 c2 M (wr.alloc o) :=
  ⟨h.ob.al o, h.turn.al o, h.res.keep (below_alloc (Below.refl _ _) o), h.box.keep (below_alloc (Below.refl _ _) o), own_below h.objs (below_alloc (Below.refl _ _) o), own_below h.gons (below_alloc (Below.refl _ _) o), h.lt⟩
theorem SL.growO {base : Nat} {w : World} {B b n : Nat} {q : Option Addr} {cp : Nat} {E : Els} {x y : Value} {q1 : Option Addr} {n1 c1 : Nat} {L : Objs} {q2 : Option Addr} {n2 c2 : Nat} {M : Gones} {wr w5 : World} (h : SL base w B b n q cp E x y q1 n1 c1 L q2 n2 c2 M wr) {q3 : Option Addr} {n3 c3 : Nat} {L3 : Objs} (hg : wr.grownBy w5 (Value.slice q1 n1 c1).ownBlock) (ho : w5.ownsRow (w.heap.size + 2) 34 3 (.slice q3 n3 c3) n3 (cellsObj L3)) : SL base w B b n q cp E x y q3 n3 c3 L3 q2 n2 c2 M w5 := by
  have hge := own_ge_of h.objs (Nat.le_refl _)
  refine ⟨h.ob.grownX hg (fun he => by have := hge _ he; have := h.lt.B; omega) (fun he => by have := hge _ he; have := h.lt.b; omega) (fun a ha he => by have := hge _ he; have := h.lt.q a ha; omega), h.turn.grownX hg (fun g he => by have := hge _ he; omega), h.res.grown hg (fun he => by have := hge _ he; omega), h.box.grown hg (fun he => by have := hge _ he; omega), ho, own_grown h.gons hg (own_apartT h.gons h.objs (by decide)), h.lt⟩
theorem SL.growG {base : Nat} {w : World} {B b n : Nat} {q : Option Addr} {cp : Nat} {E : Els} {x y : Value} {q1 : Option Addr} {n1 c1 : Nat} {L : Objs} {q2 : Option Addr} {n2 c2 : Nat} {M : Gones} {wr w5 : World} (h : SL base w B b n q cp E x y q1 n1 c1 L q2 n2 c2 M wr) {q3 : Option Addr} {n3 c3 : Nat} {M3 : Gones} (hg : wr.grownBy w5 (Value.slice q2 n2 c2).ownBlock) (ho : w5.ownsRow (w.heap.size + 2) 57 2 (.slice q3 n3 c3) n3 (cellsGone M3)) : SL base w B b n q cp E x y q1 n1 c1 L q3 n3 c3 M3 w5 := by
  have hge := own_ge_of h.gons (Nat.le_refl _)
  refine ⟨h.ob.grownX hg (fun he => by have := hge _ he; have := h.lt.B; omega) (fun he => by have := hge _ he; have := h.lt.b; omega) (fun a ha he => by have := hge _ he; have := h.lt.q a ha; omega), h.turn.grownX hg (fun g he => by have := hge _ he; omega), h.res.grown hg (fun he => by have := hge _ he; omega), h.box.grown hg (fun he => by have := hge _ he; omega), own_grown h.objs hg (own_apartT h.objs h.gons (by decide)), ho, h.lt⟩
theorem SL.put0 {base : Nat} {w : World} {B b n : Nat} {q : Option Addr} {cp : Nat} {E : Els} {x y : Value} {q1 : Option Addr} {n1 c1 : Nat} {L : Objs} {q2 : Option Addr} {n2 c2 : Nat} {M : Gones} {wr : World} (h : SL base w B b n q cp E x y q1 n1 c1 L q2 n2 c2 M wr) (v : Value) : SL base w B b n q cp E v y q1 n1 c1 L q2 n2 c2 M (wr.setCell ⟨w.heap.size + 1, 0, none⟩ v) :=
  ⟨h.ob.putX (by have := h.lt.B; omega) (by have := h.lt.b; omega) (fun a ha => by have := h.lt.q a ha; omega) 0 v, h.turn.putX (by omega) 0 v, (Below.heap_setCell _ _ _ _ (by show w.heap.size ≠ w.heap.size + 1; omega)).trans h.res, h.box.set 0 v, own_put h.objs (fun g hg => by have := (h.objs.lt g hg).1; omega) 0 v, own_put h.gons (fun g hg => by have := (h.gons.lt g hg).1; omega) 0 v, h.lt⟩
theorem SL.put1 {base : Nat} {w : World} {B b n : Nat} {q : Option Addr} {cp : Nat} {E : Els} {x y : Value} {q1 : Option Addr} {n1 c1 : Nat} {L : Objs} {q2 : Option Addr} {n2 c2 : Nat} {M : Gones} {wr : World} (h : SL base w B b n q cp E x y q1 n1 c1 L q2 n2 c2 M wr) (v : Value) : SL base w B b n q cp E x v q1 n1 c1 L q2 n2 c2 M (wr.setCell ⟨w.heap.size + 1, 1, none⟩ v) :=
  ⟨h.ob.putX (by have := h.lt.B; omega) (by have := h.lt.b; omega) (fun a ha => by have := h.lt.q a ha; omega) 1 v, h.turn.putX (by omega) 1 v, (Below.heap_setCell _ _ _ _ (by show w.heap.size ≠ w.heap.size + 1; omega)).trans h.res, h.box.set 1 v, own_put h.objs (fun g hg => by have := (h.objs.lt g hg).1; omega) 1 v, own_put h.gons (fun g hg => by have := (h.gons.lt g hg).1; omega) 1 v, h.lt⟩
/-- The store handed back, and the lock let go. -/
def MadeS (base B b n : Nat) (q : Option Addr) (cp : Nat) (E : Els) (w : World) (e : Ending) (w' : World) : Prop :=
  ∃ q1 n1 c1 q2 n2 c2, e = .returned (.agg #[.slice q1 n1 c1, .slice q2 n2 c2]) ∧ Turn B b q w w' ∧ ObAt base w' B b n q cp 0 E ∧ StoK w.heap.size w' q1 n1 c1 q2 n2 c2 (objsOf E) (gonsOf E)
theorem key_cell {base : Nat} {w : World} {q : Option Addr} {cp : Nat} {E : Els} (h : w.ownsRow base 9 1 (.slice q E.length cp) E.length ((ekeys E).map Value.string)) {k : Nat} (hk : k < E.length) : ∃ g, q = some ⟨g, 0, none⟩ ∧ w.cell? ⟨g, k, none⟩ = some (.string E[k].1) := by
  rcases h.2 with ⟨_, h3⟩ | ⟨g, cap, cur, hv, hg, hr, hc1, hc2, hcs, htk⟩
  · omega
  · simp only [Value.slice.injEq] at hv
    obtain ⟨rfl, -, rfl⟩ := hv
    have hrow : Row w g 9 cur := hr
    have : ((ekeys E).map Value.string)[k]? = some (.string E[k].1) := by
      unfold ekeys
      rw [List.getElem?_map, List.getElem?_map, List.getElem?_eq_getElem hk]; rfl
    rw [Nat.mul_one] at htk
    rw [← htk, List.getElem?_take, if_pos hk] at this
    have hc := row_cells_at hrow this
    rw [Nat.zero_add] at hc
    exact ⟨g, rfl, hc⟩

theorem gone_new1 (w : World) (o : Obj) (x0 : ByteArray) (x1 : Int) (t : TypeId) : ∀ j u, [Value.string x0, Value.int .i64 x1][j]? = some u → ((w.alloc o).alloc (.cells #[.string x0, .int .i64 x1] t)).cell? ((⟨w.heap.size + 1, 0, none⟩ : Addr).add j) = some u := by
  have := gone_new (w.alloc o) x0 x1 t
  rwa [show (w.alloc o).heap.size = w.heap.size + 1 by simp] at this
theorem obj_new1 (w : World) (o : Obj) (x0 : ByteArray) (x1 : Int) (x2 : ByteArray) (t : TypeId) : ∀ j u, [Value.string x0, Value.int .i64 x1, Value.string x2][j]? = some u → ((w.alloc o).alloc (.cells #[.string x0, .int .i64 x1, .string x2] t)).cell? ((⟨w.heap.size + 1, 0, none⟩ : Addr).add j) = some u := by
  have := obj_new (w.alloc o) x0 x1 x2 t
  rwa [show (w.alloc o).heap.size = w.heap.size + 1 by simp] at this
theorem SL.hbase {base : Nat} {w : World} {B b n : Nat} {q : Option Addr} {cp : Nat} {E : Els} {x y : Value} {q1 : Option Addr} {n1 c1 : Nat} {L : Objs} {q2 : Option Addr} {n2 c2 : Nat} {M : Gones} {wr : World} (h : SL base w B b n q cp E x y q1 n1 c1 L q2 n2 c2 M wr) : w.heap.size + 2 ≤ wr.heap.size := h.box.lt
theorem take_all {E : Els} {k : Nat} (h : k = E.length) : E.take k = E := by rw [h, List.take_length]

set_option maxHeartbeats 4000000 in
theorem store_any (base B b n cp : Nat) (q : Option Addr) (E : Els) (w : World) (h : ObAt base w B b n q cp 0 E) (hE : EP E) :
    Calls Tryz.prog 39 #[.pointer (some ⟨B, 0, none⟩)] w (MadeS base B b n q cp E w) := by
  have hfew := hE.few
  have hcap : E.length ≤ maxLen := by unfold maxLen; omega
  have HE := Lib.hid hE
  have HLT := Lib.hid h.lt3
  obtain ⟨W0, hW0⟩ : ∃ x, w.alloc (.cells #[.slice none 0 0, .slice none 0 0] 27) = x := ⟨_, rfl⟩
  have HO0 := Lib.hid (show ObAt base W0 B b n q cp 0 E by rw [← hW0]; exact h.al _)
  have HT0 := Lib.hid (show Turn B b q w W0 by rw [← hW0]; exact (Turn.refl B b q w).al _)
  have HR0 := Lib.hid (show Row W0 w.heap.size 27 #[.slice none 0 0, .slice none 0 0] by rw [← hW0]; exact row_new _ _ _)
  have HZ0 := Lib.hid (show W0.heap.size = w.heap.size + 1 by rw [← hW0]; simp)
  have HW0 := Lib.hid hW0
  clear h hE hW0
  have cB0 := HO0.out.cells.1
  have fB0 := HO0.out.row.free 0
  go_enter_defers Tryz.func39, Tryz.ntmps39
  go_wp2_with fail
  rw [HW0.out]
  refine (lock_free Tryz.muLib ⟨B, 0, none⟩ _ cB0 fB0).mono ?_
  rintro e w2 ⟨rfl, rfl⟩
  have hSL : SL base w B b n q cp E (.slice none 0 0) (.slice none 0 0) none 0 0 [] none 0 0 [] ((W0.setCell ⟨B, 0, none⟩ (.int .i32 1)).alloc (.cells #[.slice none 0 0, .slice none 0 0] 27)) := by
    have hs : (W0.setCell ⟨B, 0, none⟩ (.int .i32 1)).heap.size = w.heap.size + 1 := by simp [World.setCell]; exact HZ0.out
    refine ⟨(HO0.out.lock 1).al _, (HT0.out.set 0 _).al _, ?_, by rw [← hs]; exact row_new _ _ _, own_nilObj _ _, own_nilGone _ _, HLT.out⟩
    exact Row.keep (w := W0.setCell ⟨B, 0, none⟩ (.int .i32 1)) ((Below.heap_setCell _ _ _ _ (by show w.heap.size ≠ B; have := HLT.out.B; omega)).trans HR0.out) (below_alloc (Below.refl _ _) _)
  have HZ2 := Lib.hid (show (W0.setCell ⟨B, 0, none⟩ (.int .i32 1)).heap.size = w.heap.size + 1 by simp [World.setCell]; exact HZ0.out)
  obtain ⟨w2, hw2⟩ : ∃ x, W0.setCell ⟨B, 0, none⟩ (.int .i32 1) = x := ⟨_, rfl⟩
  rw [hw2] at hSL HZ2 ⊢
  clear cB0 fB0 HW0 HO0 HT0 HR0 HZ0 hw2
  have HS := Lib.hid hSL
  have c3 := hSL.ob.cells.2.2
  clear hSL
  go_wp2_with fail
  rw [HZ2.out]
  obtain ⟨w3, hw3⟩ : ∃ x, w2.alloc (.cells #[.slice none 0 0, .slice none 0 0] 27) = x := ⟨_, rfl⟩
  rw [hw3] at HS ⊢
  clear hw3 HZ2 c3
  go_loopw [19] (fun i wr => ∃ k : Nat, k ≤ E.length ∧ i = .int .i64 k ∧ ∃ q1 c1 q2 c2, Hid (SL base w B b n q cp E (.slice q1 (objsOf (E.take k)).length c1) (.slice q2 (gonsOf (E.take k)).length c2) q1 (objsOf (E.take k)).length c1 (objsOf (E.take k)) q2 (gonsOf (E.take k)).length c2 (gonsOf (E.take k)) wr)) (fun i _ => E.length - (intOf i).toNat)
  case atStart => exact ⟨0, Nat.zero_le _, rfl, none, 0, none, 0, HS.out⟩
  case round =>
    obtain ⟨k, hk, rfl, q1, c1, q2, c2, HW⟩ := hrel
    clear HS
    have x0 := HW.out.box.cell (j := 0) (by simp)
    have x1 := HW.out.box.cell (j := 1) (by simp)
    simp at x0 x1
    by_cases hlt : k < E.length
    · obtain ⟨g, rfl, hkc⟩ := key_cell HW.out.ob.keys hlt
      have hlen := objs_gons_len (E.take k)
      rw [List.length_take, Nat.min_eq_left hk] at hlen
      have HTO := Lib.hid (objsOf_take hlt)
      have HTG := Lib.hid (gonsOf_take hlt)
      have HL := Lib.hid (look_at HE.out.inc hlt)
      have HKS := Lib.hid (sizeKey (HE.out.ok _ (List.getElem_mem hlt)).1)
      obtain ⟨x, hx⟩ : ∃ x, E[k] = x := ⟨_, rfl⟩
      rw [hx] at HTO HTG HL HKS hkc
      obtain ⟨kk, v, d, gg⟩ := x
      have cm := HW.out.ob.cells.2.1
      have x0a := fun o => by have h := (HW.out.al o).box.cell (j := 0) (by simp); simp at h; exact h
      have x1a := fun o => by have h := (HW.out.al o).box.cell (j := 1) (by simp); simp at h; exact h
      clear hx
      cases gg with
      | true =>
        go_wp2_with (first
          | (at_lookup; go_loud (refine wpList_look_el _ rfl _ _ false rfl b n _ rfl HW.out.ob.map kk rfl HKS.out _ HL.out ?_); simp only [Option.getD_some, elV, Bool.false_eq_true, if_false])
          | (at_builtin; go_loud (refine append1_gone rfl _ _ rfl (w.heap.size + 2) (.slice q2 (gonsOf (E.take k)).length c2) _ (gonsOf (E.take k)) rfl ((HW.out.al (.cells #[.int .i64 v, .string d, .bool true] 94)).al (.cells #[.string kk, .int .i64 v] 57)).gons (wr.heap.size + 1) _ kk v rfl (gone_new1 wr _ kk v _) (by omega) ((HW.out.al (.cells #[.int .i64 v, .string d, .bool true] 94)).al (.cells #[.string kk, .int .i64 v] 57)).hbase ?_); intro q5 c5 w5 hown hgrow; have HW5 := Lib.hid (((HW.out.al (.cells #[.int .i64 v, .string d, .bool true] 94)).al (.cells #[.string kk, .int .i64 v] 57)).growG hgrow hown); have z1 := HW5.out.box.cell (j := 1) (by simp); have zf := HW5.out.box.free 1; simp at z1; clear hown hgrow))
        go_roundw
        case rel => exact ⟨k + 1, by omega, by go_num, q1, c1, q5, c5, by
          have hG := HTG.out
          have hO := HTO.out
          simp only [if_true, List.append_nil] at hG hO
          rw [hO, hG, List.length_append]; exact HW5.out.put1 _⟩
        case measure => simp [intOf]; omega
      | false =>
        go_wp2_with (first
          | (at_lookup; go_loud (refine wpList_look_el _ rfl _ _ false rfl b n _ rfl HW.out.ob.map kk rfl HKS.out _ HL.out ?_); simp only [Option.getD_some, elV, Bool.false_eq_true, if_false])
          | (at_builtin; go_loud (refine append1_obj rfl _ _ rfl (w.heap.size + 2) (.slice q1 (objsOf (E.take k)).length c1) _ (objsOf (E.take k)) rfl ((HW.out.al (.cells #[.int .i64 v, .string d, .bool false] 94)).al (.cells #[.string kk, .int .i64 v, .string d] 34)).objs (wr.heap.size + 1) _ kk v d rfl (obj_new1 wr _ kk v d _) (by omega) ((HW.out.al (.cells #[.int .i64 v, .string d, .bool false] 94)).al (.cells #[.string kk, .int .i64 v, .string d] 34)).hbase ?_); intro q5 c5 w5 hown hgrow; have HW5 := Lib.hid (((HW.out.al (.cells #[.int .i64 v, .string d, .bool false] 94)).al (.cells #[.string kk, .int .i64 v, .string d] 34)).growO hgrow hown); have z1 := HW5.out.box.cell (j := 0) (by simp); have zf := HW5.out.box.free 0; simp at z1; clear hown hgrow))
        go_roundw
        case rel => exact ⟨k + 1, by omega, by go_num, q5, c5, q2, c2, by
          have hG := HTG.out
          have hO := HTO.out
          simp only [Bool.false_eq_true, if_false, List.append_nil] at hG hO
          rw [hO, hG, List.length_append]; exact HW5.out.put0 _⟩
        case measure => simp [intOf]; omega
    · have hke : k = E.length := by omega
      rw [take_all hke] at HW x0 x1
      subst hke
      have r0 := HW.out.res.cell (j := 0) (by simp)
      have r1 := HW.out.res.cell (j := 1) (by simp)
      have f0 := HW.out.res.free 0
      have f1 := HW.out.res.free 1
      simp at r0 r1
      have HY := Lib.hid (show ObAt base ((wr.setCell ⟨w.heap.size, 0, none⟩ (.slice q1 (objsOf E).length c1)).setCell ⟨w.heap.size, 1, none⟩ (.slice q2 (gonsOf E).length c2)) B b n q cp 1 E from
        (HW.out.ob.putX (by have := HLT.out.B; omega) (by have := HLT.out.b; omega) (fun a ha => by have := HLT.out.q a ha; omega) 0 _).putX (by have := HLT.out.B; omega) (by have := HLT.out.b; omega) (fun a ha => by have := HLT.out.q a ha; omega) 1 _)
      have HB := Lib.hid (show Row (((wr.setCell ⟨w.heap.size, 0, none⟩ (.slice q1 (objsOf E).length c1)).setCell ⟨w.heap.size, 1, none⟩ (.slice q2 (gonsOf E).length c2)).setCell ⟨B, 0, none⟩ (.int .i32 0)) w.heap.size 27 #[.slice q1 (objsOf E).length c1, .slice q2 (gonsOf E).length c2] from
        (Below.heap_setCell _ _ _ _ (by show w.heap.size ≠ B; have := HLT.out.B; omega)).trans ((HW.out.res.set 0 (.slice q1 (objsOf E).length c1)).set 1 (.slice q2 (gonsOf E).length c2)))
      have HK := Lib.hid (made_k HW.out.objs HW.out.gons (Nat.le_refl _) (Nat.le_refl _) rfl rfl)
      have c4 := HY.out.cells.1
      have f4 := HY.out.row.free 0
      go_wp2
      refine leaves_cons (f := 58) (args := #[.pointer (some ⟨B, 0, none⟩)]) (by simp) (by simp [go_sem]) ?_
      refine (unlock_deferred Tryz.muLib ⟨B, 0, none⟩ .returning _ c4 f4).mono ?_
      rintro e u' w'' ⟨rfl, rfl, rfl⟩
      have hb := HB.out
      unfold Row at hb
      refine ⟨.agg #[.slice q1 (objsOf E).length c1, .slice q2 (gonsOf E).length c2], by simp [results, Tryz.results39, go_sem, World.cell?, hb], q1, _, c1, q2, _, c2, rfl, ((HW.out.turn.putX (Nat.le_refl _) 0 _).putX (Nat.le_refl _) 1 _).set 0 _, HY.out.lock 0, ?_⟩
      have k1 := HK.out.put (X := w.heap.size) (HK.out.at1.ne (by omega)) (HK.out.at2.ne (by omega)) 0 (.slice q1 (objsOf E).length c1)
      have k2 := k1.put (X := w.heap.size) (k1.at1.ne (by omega)) (k1.at2.ne (by omega)) 1 (.slice q2 (gonsOf E).length c2)
      have k3 := k2.put (X := B) (k2.at1.ne (by have := HLT.out.B; omega)) (k2.at2.ne (by have := HLT.out.B; omega)) 0 (.int .i32 0)
      exact k3.low (by omega)
end Go.Proofs.YtblpebdjbenphaaGreatDoor
