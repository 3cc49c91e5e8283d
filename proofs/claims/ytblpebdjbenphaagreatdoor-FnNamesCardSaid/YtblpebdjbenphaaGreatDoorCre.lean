
/- The program's create on its store in use. -/
import Derived.Test.YtblpebdjbenphaaGreatDoorPutD
import Derived.StillTailTactics
namespace Go.Proofs.YtblpebdjbenphaaGreatDoor
open Go.ChangeShapes Go.WideShapes Go.ChangeAt Go.RowKit
set_option linter.unusedVariables false
set_option maxRecDepth 100000

/-- The key has been inserted, the map has not been turned. -/
structure ObMid (base : Nat) (w : World) (B b n : Nat) (q : Option Addr) (cp : Nat) (lk : Int) (E : Els) (key : ByteArray) : Prop where
  row : Row w B 103 #[.int .i32 lk, .int .u32 0, .map (some b), .slice q (E.length + 1) cp]
  map : MapIs w b n (fun s => lookE s E)
  keys : w.ownsRow base 9 1 (.slice q (E.length + 1) cp) (E.length + 1) (((ekeys E).take (posT (ekeys E) key) ++ key :: (ekeys E).drop (posT (ekeys E) key)).map Value.string)
  geB : base ≤ B
  geb : base ≤ b
theorem ObMid.keep {base : Nat} {w w1 : World} {B b n : Nat} {q : Option Addr} {cp : Nat} {lk : Int} {E : Els} {key : ByteArray} (h : ObMid base w B b n q cp lk E key) (hB : Below w.heap.size w w1) : ObMid base w1 B b n q cp lk E key :=
  ⟨h.row.keep hB, h.map.keep hB, own_below h.keys hB, h.geB, h.geb⟩
theorem ins_len {K : Txts} {key : ByteArray} : (K.take (posT K key) ++ key :: K.drop (posT K key)).length = K.length + 1 := by
  have := posT_le K key
  simp only [List.length_append, List.length_take, List.length_cons, List.length_drop]; omega
theorem ObAt.ins {base : Nat} {w w3 : World} {B b n : Nat} {q q3 : Option Addr} {cp cp3 : Nat} {lk : Int} {E : Els} {key : ByteArray} (h : ObAt base w B b n q cp lk E)
    (ho : w3.ownsRow base 9 1 (.slice q3 ((ekeys E).take (posT (ekeys E) key) ++ key :: (ekeys E).drop (posT (ekeys E) key)).length cp3) ((ekeys E).take (posT (ekeys E) key) ++ key :: (ekeys E).drop (posT (ekeys E) key)).length (((ekeys E).take (posT (ekeys E) key) ++ key :: (ekeys E).drop (posT (ekeys E) key)).map Value.string))
    (hg : w.grownBy w3 (Value.slice q 0 0).ownBlock) : Row w3 B 103 #[.int .i32 lk, .int .u32 0, .map (some b), .slice q E.length cp] ∧ ObMid base (w3.setCell ⟨B, 3, none⟩ (.slice q3 (E.length + 1) cp3)) B b n q3 cp3 lk E key := by
  rw [ins_len, ekeys_len] at ho
  have hq : (Value.slice q 0 0).ownBlock = (Value.slice q E.length cp).ownBlock := by cases q <;> rfl
  rw [hq] at hg
  have hr := row_grownT h.row h.keys (by decide) hg
  have hm := h.map.grown hg (fun he => map_ne_own h.map h.keys b he.symm rfl)
  exact ⟨hr, hr.set 3 _, hm.put (map_ne_row hm hr) 3 _, own_put ho (own_ne_row ho hr (by decide)) 3 _, h.geB, h.geb⟩
theorem ObMid.put {base : Nat} {w w5 : World} {B b n : Nat} {q : Option Addr} {cp : Nat} {lk : Int} {E : Els} {key : ByteArray} {e : ElV} (h : ObMid base w B b n q cp lk E key) (hE : IncT (ekeys E)) (hl : lookE key E = none) (hm : MapIs w5 b (n + 1) (fun k => if sameT key k = true then some e else lookE k E)) (hg : w.grownBy w5 (some b)) : ObAt base w5 B b (n + 1) q cp lk (putE key e E) :=
  ⟨by rw [putE_len_new hE hl]; exact h.row.grown hg (fun he => map_ne_row h.map h.row (Option.some.inj he)), hm.as (fun s => (lookE_put E).symm) (Nat.le_refl _),
   by rw [putE_len_new hE hl, ekeys_new hE hl]; exact own_grown h.keys hg (fun x hx he => map_ne_own h.map h.keys x hx (Option.some.inj he)), h.geB, h.geb⟩
theorem ObMid.cells {base : Nat} {w : World} {B b n : Nat} {q : Option Addr} {cp : Nat} {lk : Int} {E : Els} {key : ByteArray} (h : ObMid base w B b n q cp lk E key) : w.cell? ⟨B, 2, none⟩ = some (.map (some b)) := by
  have h2 := h.row.cell (j := 2) (by simp)
  simp at h2
  exact h2

theorem ownq {w w3 : World} {q : Option Addr} {n c : Nat} (h : w.grownBy w3 (Value.slice q 0 0).ownBlock) : w.grownBy w3 (Value.slice q n c).ownBlock := by cases q <;> exact h
theorem Row.setB {w : World} {X B : Nat} {T T2 : TypeId} {cur c2 : Array Value} (r : Row w X T cur) (r2 : Row w B T2 c2) (hne : T ≠ T2) (j : Nat) (v : Value) : Row (w.setCell ⟨B, j, none⟩ v) X T cur := by
  have : X ≠ B := by
    intro he
    subst he
    unfold Row at r r2
    rw [r] at r2
    simp only [Option.some.injEq, Obj.cells.injEq] at r2
    exact hne r2.2.1
  unfold Row at r ⊢
  rw [← r]; exact Below.heap_setCell _ _ _ _ this

set_option maxHeartbeats 4000000 in
theorem pcreate_any (base B b n cp : Nat) (q : Option Addr) (lk : Int) (E : Els) (A : ErrA) (key data : ByteArray) (w : World) (h : ObAt base w B b n q cp lk E) (hA : Low base A w) (hE : EP E) (hk : key.size ≤ maxLen) (hn : n < 1000000) :
    Calls Tryz.prog 59 #[.pointer (some ⟨B, 0, none⟩), .string key, .string data] w (MadeC base B b n q lk (createE key data E).1 (.tuple #[.int .i64 (createE key data E).2.1, codeV A (createE key data E).2.2]) w) := by
  have hb := h.base
  have hfew := hE.few
  have HO := Lib.hid h
  have HE := Lib.hid hE
  have HK := Lib.hid hk
  have HM := Lib.hid h.map
  have HA := Lib.hid hA
  obtain ⟨cB0, cB2, cB3⟩ := h.cells
  have HOa := Lib.hid (fun o => h.al o)
  have cB3a := fun o => (h.al o).cells.2.2
  have cB2a := fun o => (h.al o).cells.2.1
  have e1 := hA.tab.c1
  have e2 := hA.tab.c2
  have e1 := fun o => ((below_alloc (Below.refl _ _) o).cell (World.block_lt_of_cell? _ _ e1)).trans e1
  have e2 := fun o => ((below_alloc (Below.refl _ _) o).cell (World.block_lt_of_cell? _ _ e2)).trans e2
  unfold errV at e1 e2
  clear h hA hE hk
  have HFAIL := Lib.hid (fun c : Int => fun (hc : createE key data E = (E, 0, c)) => (show ∀ o k, MadeC base B b n q lk (createE key data E).1 (.tuple #[.int .i64 (createE key data E).2.1, codeV A (createE key data E).2.2]) w (.returned (.tuple #[.int .i64 0, codeV A c])) ((w.alloc o).drewN k) from fun o k => by
    rw [hc]; exact ⟨rfl, ((Turn.refl B b q w).al o).below (below_drewN (Below.refl _ _) k), n, q, cp, Nat.le_succ _, (HO.out.al o).keep (below_drewN (Below.refl _ _) k)⟩))
  cases hl : lookE key E with
  | some e =>
    obtain ⟨v, d, g⟩ := e
    have HL := Lib.hid hl
    cases g with
    | false =>
      have HF := Lib.hid (HFAIL.out 2 (create_there hl rfl))
      clear hl HFAIL
      go_enter Tryz.func59, Tryz.ntmps59
      go_wp2_with (at_lookup; refine wpList_look_el _ rfl _ _ true rfl b n _ rfl HM.out key rfl HK.out _ HL.out ?_; simp only [Option.getD_some, Option.isSome_some, elV, if_true])
      go_quiet (fail)
      go_wp2
      go_ret2
      exact HF.out _ _
    | true =>
      by_cases hf : v = 1000000
      · have HF := Lib.hid (HFAIL.out 3 (create_full hl rfl hf))
        have hfb : (v == 1000000) = true := by simp [hf]
        clear hl HFAIL
        go_enter Tryz.func59, Tryz.ntmps59
        go_wp2_with (at_lookup; refine wpList_look_el _ rfl _ _ true rfl b n _ rfl HM.out key rfl HK.out _ HL.out ?_; simp only [Option.getD_some, Option.isSome_some, elV, if_true])
        go_quiet (fail)
        go_wp2
        go_ret2
        exact HF.out _ _
      · have hfb : (v == 1000000) = false := by simp [hf]
        have HR := Lib.hid (create_again (data := data) hl rfl hf)
        obtain ⟨hv1, hv2, -⟩ := ep_look HE.out hl
        clear HFAIL hl
        go_enter Tryz.func59, Tryz.ntmps59
        go_wp2_with (at_lookup; refine wpList_look_el _ rfl _ _ true rfl b n _ rfl HM.out key rfl HK.out _ HL.out ?_; simp only [Option.getD_some, Option.isSome_some, elV, if_true])
        obtain ⟨y, hy⟩ : ∃ y, w.alloc (.cells #[.int .i64 v, .string d, .bool true] 94) = y := ⟨_, rfl⟩
        have HOY := Lib.hid (show ObAt base y B b n q cp lk E by rw [← hy]; exact HOa.out _)
        have HTY := Lib.hid (show Turn B b q w y by rw [← hy]; exact (Turn.refl B b q w).al _)
        have HEY := Lib.hid (show Row y w.heap.size 94 #[.int .i64 v, .string d, .bool true] by rw [← hy]; exact row_new _ _ _)
        rw [hy]
        clear hy
        have y0 := HEY.out.cell (j := 0) (by simp)
        simp at y0
        have yB := HOY.out.cells.2.1
        clear cB0 cB2 cB3 cB2a cB3a e1 e2
        obtain ⟨yd, hyd⟩ : ∃ x, y.drew = x := ⟨_, rfl⟩
        have HYD := Lib.hid hyd
        have HOD := Lib.hid (show ObAt base yd B b n q cp lk E by rw [← hyd]; exact HOY.out.keep (Below.refl _ _).drew)
        have HTD := Lib.hid (show Turn B b q w yd by rw [← hyd]; exact HTY.out.drew)
        have HED := Lib.hid (show Row yd w.heap.size 94 #[.int .i64 v, .string d, .bool true] by rw [← hyd]; exact HEY.out.drewN 1)
        clear hyd
        go_still_tail 10, (by kernel_rfl)
        change wpList _ _ _ _ _ y.drew
        rw [HYD.out, IntWalk.i64_in (v + 1) (by omega)]
        clear y0 yB HYD HOY HTY HEY
        go_wp2_with (at_mapUpdate; go_loud (refine wpList_store_el _ rfl _ _ _ rfl b n _ rfl HOD.out.map (by unfold maxLen; omega) key rfl HK.out (v + 1, data, false) rfl ?_); intro w5 hm5 hg5; have HO5 := Lib.hid (HOD.out.put HE.out.inc (look_some HL.out) hm5 hg5); have HT5 := Lib.hid (HTD.out.grownMap hg5); have HE5 := Lib.hid (HED.out.grown hg5 (fun he => map_ne_row HOD.out.map HED.out (Option.some.inj he))); have z0 := HE5.out.cell (j := 0) (by simp); simp at z0; clear hm5 hg5)
        go_ret2
        rw [HR.out]
        exact ⟨rfl, HT5.out, n + 1, q, cp, Nat.le_refl _, HO5.out⟩
  | none =>
    have HL := Lib.hid hl
    by_cases hf : E.length = 1100
    · have HF := Lib.hid (HFAIL.out 3 (create_room hl hf))
      have hfb : ((E.length : Int) == 1100) = true := by simp [hf]
      clear hl HFAIL
      go_enter Tryz.func59, Tryz.ntmps59
      go_wp2_with (at_lookup; refine wpList_look_el _ rfl _ _ true rfl b n _ rfl HM.out key rfl HK.out _ HL.out ?_; simp only [Option.getD_none, Option.isSome_none, elV, el0, if_true])
      go_quiet (fail)
      go_wp2
      go_ret2
      exact HF.out _ _
    · have hfb : ((E.length : Int) == 1100) = false := by simp; omega
      have HR := Lib.hid (create_new (data := data) hl hf)
      clear hl HFAIL
      go_enter Tryz.func59, Tryz.ntmps59
      go_wp2_with (at_lookup; refine wpList_look_el _ rfl _ _ true rfl b n _ rfl HM.out key rfl HK.out _ HL.out ?_; simp only [Option.getD_none, Option.isSome_none, elV, el0, if_true])
      have HKa := Lib.hid (HOa.out (.cells #[.int .i64 0, .string ⟨#[]⟩, .bool false] 94))
      refine (search_any base E.length cp q (ekeys E) key _ HKa.out.keys HE.out.inc (by omega)).mono ?_
      rintro e w1 ⟨bb, rfl, k, rfl⟩
      obtain ⟨y, hy⟩ : ∃ y, (w.alloc (.cells #[.int .i64 0, .string ⟨#[]⟩, .bool false] 94)).drewN k = y := ⟨_, rfl⟩
      have HOY := Lib.hid (show ObAt base y B b n q cp lk E by rw [← hy]; exact HKa.out.keep (below_drewN (Below.refl _ _) k))
      have HTY := Lib.hid (show Turn B b q w y by rw [← hy]; exact ((Turn.refl B b q w).al _).below (below_drewN (Below.refl _ _) k))
      have HEY := Lib.hid (show Row y w.heap.size 94 #[.int .i64 0, .string ⟨#[]⟩, .bool false] by rw [← hy]; exact (row_new _ _ _).drewN k)
      rw [hy]
      clear hy HKa HOa
      have y3 := HOY.out.cells.2.2
      clear cB0 cB2 cB3 cB2a cB3a e1 e2
      obtain ⟨pos, hpos⟩ : ∃ pos, posT (ekeys E) key = pos := ⟨_, rfl⟩
      have hposl : pos ≤ E.length := by rw [← hpos, ← ekeys_len]; exact posT_le _ _
      rw [hpos]
      have HP := Lib.hid hpos
      clear hpos
      go_wp2_with fail
      have HOZ := Lib.hid (HOY.out.al (.cells #[.string key] 9))
      have HTZ := Lib.hid (HTY.out.al (.cells #[.string key] 9))
      have HEZ := Lib.hid (HEY.out.al (.cells #[.string key] 9))
      refine (insert_any base E.length cp pos y.heap.size _ q (ekeys E) key _ HOZ.out.keys (row_new _ _ _) (fun g hg he => by have := (keys_ge HOY.out.keys _ hg).2; rw [he] at this; exact Nat.lt_irrefl _ this) hposl (by omega) HOZ.out.base).mono ?_
      rintro e w3 ⟨q3, cp3, rfl, hown, hgrow⟩
      rw [← HP.out] at hown ⊢
      obtain ⟨hr3, hmid⟩ := HOZ.out.ins hown hgrow
      have HT3 := Lib.hid ((HTZ.out.grownKeys (n := 0) (c := 0) hgrow).set 3 (.slice q3 (E.length + 1) cp3))
      have HE3 := Lib.hid (((row_grownT HEZ.out HOZ.out.keys (by decide) (ownq (n := E.length) (c := cp) hgrow)) : Row w3 w.heap.size 94 _).setB hr3 (by decide) 3 (.slice q3 (E.length + 1) cp3))
      have hlen : ((ekeys E).take (posT (ekeys E) key) ++ key :: (ekeys E).drop (posT (ekeys E) key)).length = E.length + 1 := by rw [ins_len, ekeys_len]
      rw [hlen]
      have HM3 := Lib.hid hmid
      have fr3 := hr3.free 3
      have b3 := hr3.cell (j := 3) (by simp)
      simp at b3
      clear hlen hmid hown hgrow hr3 y3
      go_wp2_with fail
      obtain ⟨y2, hy2⟩ : ∃ x, w3.setCell ⟨B, 3, none⟩ (.slice q3 (E.length + 1) cp3) = x := ⟨_, rfl⟩
      rw [hy2] at HT3 HE3 HM3 ⊢
      clear hy2 fr3 b3
      have y0 := HE3.out.cell (j := 0) (by simp)
      simp at y0
      have yB := HM3.out.cells
      obtain ⟨yd, hyd⟩ : ∃ x, y2.drew = x := ⟨_, rfl⟩
      have HYD := Lib.hid hyd
      have HOD := Lib.hid (show ObMid base yd B b n q3 cp3 lk E key by rw [← hyd]; exact HM3.out.keep (Below.refl _ _).drew)
      have HTD := Lib.hid (show Turn B b q w yd by rw [← hyd]; exact HT3.out.drew)
      have HED := Lib.hid (show Row yd w.heap.size 94 #[.int .i64 0, .string ⟨#[]⟩, .bool false] by rw [← hyd]; exact HE3.out.drewN 1)
      clear hyd
      go_still_tail 10, (by kernel_rfl)
      change wpList _ _ _ _ _ y2.drew
      rw [HYD.out]
      try rw [IntWalk.i64_in (0 + 1) (by omega)]
      clear y0 yB HYD HM3 HT3 HE3
      go_wp2_with (at_mapUpdate; go_loud (refine wpList_store_el _ rfl _ _ _ rfl b n _ rfl HOD.out.map (by unfold maxLen; omega) key rfl HK.out (1, data, false) rfl ?_); intro w5 hm5 hg5; have HO5 := Lib.hid (HOD.out.put HE.out.inc HL.out hm5 hg5); have HT5 := Lib.hid (HTD.out.grownMap hg5); have HE5 := Lib.hid (HED.out.grown hg5 (fun he => map_ne_row HOD.out.map HED.out (Option.some.inj he))); have z0 := HE5.out.cell (j := 0) (by simp); simp at z0; clear hm5 hg5)
      go_ret2
      rw [HR.out]
      exact ⟨rfl, HT5.out, n + 1, q3, cp3, Nat.le_refl _, HO5.out⟩
end Go.Proofs.YtblpebdjbenphaaGreatDoor
