
/- The program's store in use: its lock, its map and its keys; made of a valid store. Only new blocks are made. -/
import Derived.Test.YtblpebdjbenphaaGreatDoorMg9
import Derived.Test.YtblpebdjbenphaaGreatDoorAllKeys
import Derived.Test.YtblpebdjbenphaaGreatDoorL7K
import Derived.Carry
namespace Go.Proofs.YtblpebdjbenphaaGreatDoor
open Go.ChangeShapes Go.WideShapes Go.ChangeAt Go.RowKit
set_option linter.unusedVariables false
set_option maxRecDepth 100000

/-- Block B holds the program's store in use: the elements E; the lock's word is lk. -/
structure ObAt (base : Nat) (w : World) (B b n : Nat) (q : Option Addr) (cp : Nat) (lk : Int) (E : Els) : Prop where
  row : Row w B 103 #[.int .i32 lk, .int .u32 0, .map (some b), .slice q E.length cp]
  map : MapIs w b n (fun s => lookE s E)
  keys : w.ownsRow base 9 1 (.slice q E.length cp) E.length ((ekeys E).map Value.string)
  geB : base ≤ B
  geb : base ≤ b
theorem map_ne_row {w : World} {b n X : Nat} {g : ByteArray → Option ElV} {T : TypeId} {cur : Array Value} (h : MapIs w b n g) (r : Row w X T cur) : b ≠ X := by
  intro he
  subst he
  obtain ⟨es, clock, hb, _⟩ := h
  unfold Row at r
  rw [hb] at r
  cases r
theorem map_ne_own {w : World} {b n base : Nat} {g : ByteArray → Option ElV} {e : TypeId} {size k : Nat} {v : Value} {xs : List Value} (h : MapIs w b n g) (o : w.ownsRow base e size v k xs) : ∀ x, v.ownBlock = some x → b ≠ x := by
  intro x hx he
  rcases o.2 with ⟨h2, _⟩ | ⟨g', cap, cur, hv, _, hh, _⟩
  · rw [h2] at hx; cases hx
  · rw [hv] at hx
    simp only [Value.ownBlock, Option.some.injEq] at hx
    subst hx
    exact map_ne_row h (show Row w g' e cur from hh) he
theorem ObAt.keep {base : Nat} {w w1 : World} {B b n : Nat} {q : Option Addr} {cp : Nat} {lk : Int} {E : Els} (h : ObAt base w B b n q cp lk E) (hB : Below w.heap.size w w1) : ObAt base w1 B b n q cp lk E :=
  ⟨h.row.keep hB, h.map.keep hB, own_below h.keys hB, h.geB, h.geb⟩
theorem ObAt.al {base : Nat} {w : World} {B b n : Nat} {q : Option Addr} {cp : Nat} {lk : Int} {E : Els} (h : ObAt base w B b n q cp lk E) (o : Obj) : ObAt base (w.alloc o) B b n q cp lk E := h.keep (below_alloc (Below.refl _ _) o)
theorem ObAt.lock {base : Nat} {w : World} {B b n : Nat} {q : Option Addr} {cp : Nat} {lk : Int} {E : Els} (h : ObAt base w B b n q cp lk E) (lk2 : Int) : ObAt base (w.setCell ⟨B, 0, none⟩ (.int .i32 lk2)) B b n q cp lk2 E :=
  ⟨h.row.set 0 _, h.map.put (map_ne_row h.map h.row) 0 _, own_put h.keys (own_ne_row h.keys h.row (by decide)) 0 _, h.geB, h.geb⟩
theorem ObAt.cells {base : Nat} {w : World} {B b n : Nat} {q : Option Addr} {cp : Nat} {lk : Int} {E : Els} (h : ObAt base w B b n q cp lk E) :
    w.cell? ⟨B, 0, none⟩ = some (.int .i32 lk) ∧ w.cell? ⟨B, 2, none⟩ = some (.map (some b)) ∧ w.cell? ⟨B, 3, none⟩ = some (.slice q E.length cp) := by
  have h0 := h.row.cell (j := 0) (by simp)
  have h2 := h.row.cell (j := 2) (by simp)
  have h3 := h.row.cell (j := 3) (by simp)
  simp at h0 h2 h3
  exact ⟨h0, h2, h3⟩
def MadeObs (E : Els) (w : World) (e : Ending) (w' : World) : Prop := ∃ B b n q cp, e = .returned (.pointer (some ⟨B, 0, none⟩)) ∧ ObAt w.heap.size w' B b n q cp 0 E ∧ n ≤ 1100 ∧ Below w.heap.size w w'

def allE (l : Objs) (m : Gones) : Els := l.map tagO ++ m.map tagG
theorem allE_len (l : Objs) (m : Gones) : (allE l m).length = l.length + m.length := by unfold allE; simp
theorem allE_o (l : Objs) (m : Gones) (k : Nat) (h : k < l.length) : (allE l m)[k]? = some (obj0 l k, obj1 l k, obj2 l k, false) := by
  unfold allE
  rw [List.getElem?_append_left (by simpa using h), List.getElem?_map, List.getElem?_eq_getElem h]
  unfold obj0 obj1 obj2
  rw [List.getD_eq_getElem?_getD, List.getElem?_eq_getElem h]
  rfl
theorem allE_g (l : Objs) (m : Gones) (k : Nat) (h : k < m.length) : (allE l m)[l.length + k]? = some (gone0 m k, gone1 m k, ⟨#[]⟩, true) := by
  unfold allE
  rw [List.getElem?_append_right (by simp), List.getElem?_map, List.length_map, Nat.add_sub_cancel_left, List.getElem?_eq_getElem h]
  unfold gone0 gone1
  rw [List.getD_eq_getElem?_getD, List.getElem?_eq_getElem h]
  rfl
theorem look_step {F : Els} (hF : F.Pairwise (fun a b => a.1 ≠ b.1)) {k : Nat} {x : ByteArray × ElV} (h : F[k]? = some x) (s : ByteArray) : lookE s (F.take (k + 1)) = if sameT x.1 s = true then some x.2 else lookE s (F.take k) := by
  obtain ⟨hk, hx⟩ := List.getElem?_eq_some_iff.1 h
  rw [take_snoc F k hk, hx]
  refine lookE_snoc (fun y hy => ?_)
  obtain ⟨i, hi, rfl⟩ := List.getElem_of_mem hy
  rw [List.length_take] at hi
  rw [List.getElem_take, ← hx]
  exact (List.pairwise_iff_getElem.1 hF) i k (by omega) hk (by omega)

theorem run_makeMapN (n : Int) (w : World) : (Instr.makeMap 92 (some (.int .i64 n))).run Tryz.prog w = .ok (.map (some w.heap.size)) (w.alloc (.map #[] 0)) := by kernel_rfl

set_option maxHeartbeats 4000000 in
theorem objectsof_any (a g : Option Addr) (la ca lg cg : Nat) (l : Objs) (m : Gones) (w : World) (h : StoAt w a la l g lg m) (hp : StoP l m) :
    Calls Tryz.prog 37 #[.agg #[.slice a la ca, .slice g lg cg]] w (MadeObs (elsOf l m) w) := by
  have hmm := run_makeMapN
  have hl0 := h.o.length
  have hl1 := h.d.length
  have hfew := hp.few
  rw [hl0, hl1] at hfew
  have HS := Lib.hid h
  have HP := Lib.hid hp
  have HL := Lib.hid (And.intro hl0 hl1)
  have HF := Lib.hid (show (allE l m).Pairwise (fun a b => a.1 ≠ b.1) from ((els_perm l m).pairwise_iff (fun hab he => hab he.symm)).1 (apart_inc (ep_of hp).inc))
  have HB0 := Lib.hid (below_alloc (Below.refl w.heap.size w) (.cells #[.slice a la ca, .slice g lg cg] 27))
  have HX0 := Lib.hid (row_new w #[.slice a la ca, .slice g lg cg] 27)
  have hEl : (elsOf l m).length = la + lg := by
    have := objs_gons_len (elsOf l m)
    rw [els_back.1, els_back.2, hl0, hl1] at this
    exact this.symm
  have HEL := Lib.hid hEl
  clear h hp hl0 hl1 hEl
  go_enter Tryz.func37, Tryz.ntmps37
  go_wp2_with fail
  refine (allkeysO_any _ _ _ _ _ _ l m _ (HS.out.keep HB0.out) (by omega)).mono ?_
  rintro e w1 ⟨q, cp, rfl, hks, hB⟩
  rw [mergeT_len, okeys_len, gkeys_len, HL.out.1, HL.out.2] at hks ⊢
  have HB1 := Lib.hid (below_via HB0.out hB)
  have HX1 := Lib.hid (HX0.out.keep hB)
  have HK1 := Lib.hid (strs_own_low hks (show w.heap.size ≤ _ from HB0.out.size))
  clear hks hB HB0 HX0
  have HB2 := Lib.hid (below_alloc HB1.out (.map #[] 0))
  have HX2 := Lib.hid (HX1.out.al (.map #[] 0))
  have HK2 := Lib.hid (own_below HK1.out (below_alloc (Below.refl _ _) (.map #[] 0)))
  have HM2 := Lib.hid (MapIs.made w1)
  have hBm := HB1.out.size
  have b0 := HX2.out.cell (j := 0) (by simp)
  simp at b0
  go_wp2_with fail
  obtain ⟨Bm, hBe⟩ : ∃ Bm, w1.heap.size = Bm := ⟨_, rfl⟩
  rw [hBe] at HM2 hBm ⊢
  clear HB1 HX1 HK1
  go_loopw [17] (fun i wr => ∃ k : Nat, k ≤ la ∧ i = .int .i64 k ∧ Hid (Below w.heap.size w wr ∧ Row wr w.heap.size 27 #[.slice a la ca, .slice g lg cg] ∧ wr.ownsRow w.heap.size 9 1 (.slice q (la + lg) cp) (la + lg) ((mergeT (okeys l) (gkeys m)).map Value.string) ∧ MapIs wr Bm k (fun s => lookE s ((allE l m).take k)))) (fun i _ => la - (intOf i).toNat)
  case atStart => exact ⟨0, Nat.zero_le _, rfl, HB2.out, HX2.out, HK2.out, HM2.out.as (fun s => rfl) (Nat.le_refl _)⟩
  case round =>
    obtain ⟨k, hk, rfl, HW⟩ := hrel
    clear HB2 HX2 HK2 HM2 b0
    have b0 := HW.out.2.1.cell (j := 0) (by simp)
    have b1 := HW.out.2.1.cell (j := 1) (by simp)
    simp at b0 b1
    by_cases hlt : k < la
    · rcases HS.out.o.src with hz | ⟨bb, off, rfl, hb, hc⟩
      · omega
      · have c0 := (HW.out.1.cell (p := ⟨bb, off + k * 3, none⟩) hb).trans (hc k hlt).1
        have c1 := (HW.out.1.cell (p := ⟨bb, off + k * 3 + 1, none⟩) hb).trans (hc k hlt).2.1
        have c2 := (HW.out.1.cell (p := ⟨bb, off + k * 3 + 2, none⟩) hb).trans (hc k hlt).2.2
        clear hc hb
        have HST := Lib.hid (look_step HF.out (allE_o l m k (by rw [HL.out.1]; exact hlt)))
        obtain ⟨kk, hkk⟩ : ∃ s, obj0 l k = s := ⟨_, rfl⟩
        obtain ⟨vv, hvv⟩ : ∃ s, obj1 l k = s := ⟨_, rfl⟩
        obtain ⟨dd, hdd⟩ : ∃ s, obj2 l k = s := ⟨_, rfl⟩
        have hks : kk.size ≤ maxLen := by rw [← hkk]; exact (HS.out.o.keys k hlt).1
        have HKS := Lib.hid hks
        rw [hkk] at c0 HST
        rw [hvv] at c1 HST
        rw [hdd] at c2 HST
        have HBA := Lib.hid (below_alloc HW.out.1 (.cells #[.string kk, .int .i64 vv, .string dd] 34))
        have HXA := Lib.hid (HW.out.2.1.al (.cells #[.string kk, .int .i64 vv, .string dd] 34))
        have HKA := Lib.hid (own_below HW.out.2.2.1 (below_alloc (Below.refl _ _) (.cells #[.string kk, .int .i64 vv, .string dd] 34)))
        have HMA := Lib.hid (HW.out.2.2.2.keep (below_alloc (Below.refl _ _) (.cells #[.string kk, .int .i64 vv, .string dd] 34)))
        clear hkk hvv hdd hks HW b1
        go_wp2_with (at_mapUpdate; go_loud (refine wpList_store_el _ rfl _ _ _ rfl Bm k _ rfl HMA.out (by unfold maxLen; omega) kk rfl HKS.out (vv, dd, false) rfl ?_; intro w5 hm5 hg5; have HM5 := Lib.hid hm5; have HB5 := Lib.hid (HBA.out.grown hg5 HBA.out.size (fun x hx => by simp only [Option.some.injEq] at hx; omega)); have HX5 := Lib.hid (HXA.out.grown hg5 (fun he => map_ne_row HMA.out HXA.out (Option.some.inj he))); have HK5 := Lib.hid (own_grown HKA.out hg5 (fun x hx he => map_ne_own HMA.out HKA.out x hx (Option.some.inj he))); clear hm5 hg5))
        go_roundw
        case rel => exact ⟨k + 1, by omega, by go_num, HB5.out, HX5.out, HK5.out, HM5.out.as (fun s => (HST.out s).symm) (Nat.le_refl _)⟩
        case measure => simp [intOf]; omega
    · obtain rfl : la = k := by omega
      have HWO := Lib.hid (And.intro HW.out.1 HW.out.2.2)
      clear HW
      go_wp2_with fail
      go_loopw [33] (fun i wr => ∃ k : Nat, k ≤ lg ∧ i = .int .i64 k ∧ Hid (Below w.heap.size w wr ∧ wr.ownsRow w.heap.size 9 1 (.slice q (la + lg) cp) (la + lg) ((mergeT (okeys l) (gkeys m)).map Value.string) ∧ MapIs wr Bm (la + k) (fun s => lookE s ((allE l m).take (la + k))))) (fun i _ => lg - (intOf i).toNat)
      case atStart => exact ⟨0, Nat.zero_le _, rfl, HWO.out⟩
      case round =>
        obtain ⟨k, hk, rfl, HW⟩ := hrel
        clear b0 b1 HWO
        by_cases hlt : k < lg
        · rcases HS.out.d.src with hz | ⟨bb, off, rfl, hb, hc⟩
          · omega
          · have c0 := (HW.out.1.cell (p := ⟨bb, off + k * 2, none⟩) hb).trans (hc k hlt).1
            have c1 := (HW.out.1.cell (p := ⟨bb, off + k * 2 + 1, none⟩) hb).trans (hc k hlt).2
            clear hc hb
            have hst := look_step HF.out (allE_g l m k (by rw [HL.out.2]; exact hlt))
            rw [HL.out.1] at hst
            have HST := Lib.hid hst
            clear hst
            obtain ⟨kk, hkk⟩ : ∃ s, gone0 m k = s := ⟨_, rfl⟩
            obtain ⟨vv, hvv⟩ : ∃ s, gone1 m k = s := ⟨_, rfl⟩
            have hks : kk.size ≤ maxLen := by rw [← hkk]; exact HS.out.d.keys k hlt
            have HKS := Lib.hid hks
            rw [hkk] at c0 HST
            rw [hvv] at c1 HST
            have HBA := Lib.hid (below_alloc HW.out.1 (.cells #[.string kk, .int .i64 vv] 57))
            have HKA := Lib.hid (own_below HW.out.2.1 (below_alloc (Below.refl _ _) (.cells #[.string kk, .int .i64 vv] 57)))
            have HMA := Lib.hid (HW.out.2.2.keep (below_alloc (Below.refl _ _) (.cells #[.string kk, .int .i64 vv] 57)))
            clear hkk hvv hks HW
            go_wp2_with (at_mapUpdate; refine wpList_store_el _ rfl _ _ _ rfl Bm (la + k) _ rfl HMA.out (by unfold maxLen; omega) kk rfl HKS.out (vv, ⟨#[]⟩, true) rfl ?_; intro w5 hm5 hg5; have HM5 := Lib.hid hm5; have HB5 := Lib.hid (HBA.out.grown hg5 HBA.out.size (fun x hx => by simp only [Option.some.injEq] at hx; omega)); have HK5 := Lib.hid (own_grown HKA.out hg5 (fun x hx he => map_ne_own HMA.out HKA.out x hx (Option.some.inj he))); clear hm5 hg5)
            go_roundw
            case rel => exact ⟨k + 1, by omega, by go_num, HB5.out, HK5.out, HM5.out.as (fun s => (HST.out s).symm) (Nat.le_refl _)⟩
            case measure => simp [intOf]; omega
        · obtain rfl : lg = k := by omega
          have hmap := HW.out.2.2.as (g' := fun s => lookE s (elsOf l m)) (fun s => by
            have e : (allE l m).take (la + lg) = allE l m := List.take_of_length_le (by rw [allE_len, HL.out.1, HL.out.2]; omega)
            show lookE s ((allE l m).take (la + lg)) = _
            rw [e]
            exact look_tags (ep_of HP.out).inc s) (Nat.le_refl _)
          have hkeys := HW.out.2.1
          rw [← (els_parts _ l m (Nat.le_refl _)).2.2] at hkeys
          have HOB := Lib.hid (show ObAt w.heap.size (wr.alloc (.cells #[.int .i32 0, .int .u32 0, .map (some Bm), .slice q (la + lg) cp] 103)) wr.heap.size Bm (la + lg) q cp 0 (elsOf l m) from
            ⟨by rw [HEL.out]; exact row_new _ _ _, hmap.keep (below_alloc (Below.refl _ _) _), by rw [HEL.out]; exact own_below hkeys (below_alloc (Below.refl _ _) _), HW.out.1.size, hBm⟩)
          have HBF := Lib.hid (below_alloc HW.out.1 (.cells #[.int .i32 0, .int .u32 0, .map (some Bm), .slice q (la + lg) cp] 103))
          clear hmap hkeys HW
          go_wp2
          go_ret
          exact ⟨_, _, _, _, _, rfl, HOB.out, hfew, HBF.out⟩
end Go.Proofs.YtblpebdjbenphaaGreatDoor
