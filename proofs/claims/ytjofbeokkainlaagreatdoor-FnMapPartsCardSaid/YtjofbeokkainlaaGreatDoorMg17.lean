/- Texts put together, as a claim holds at most sixty files. -/
import Derived.Test.YtjofbeokkainlaaGreatDoorMg13
import Derived.Test.YtjofbeokkainlaaGreatDoorMg1
import Derived.Deep.AppendLies
import Derived.Test.YtjofbeokkainlaaGreatDoorMg0
namespace Go.Proofs.YtjofbeokkainlaaGreatDoor
open Go.ChangeShapes Go.WideShapes Go.ChangeAt Go.RowKit
set_option linter.unusedVariables false
set_option maxRecDepth 100000

def fiveW (k : Nat) : Instrs := [(2, 0, decB (k : Int)), (1, 0, ⟨#[]⟩), (4, 0, ⟨#[]⟩), (3, (k : Int), ⟨#[]⟩), (13, 0, ⟨#[]⟩)]
def wideK : Nat → Instrs
  | 0 => []
  | k + 1 => wideK k ++ fiveW k
theorem fiveW_fine {k : Nat} (hk : k ≤ 6) : FineI (fiveW k) := by
  have hz := @decB_size (k : Int) (by omega) (by omega)
  intro x hx
  simp only [fiveW, List.mem_cons, List.not_mem_nil, or_false] at hx
  rcases hx with rfl | rfl | rfl | rfl | rfl
  · exact ⟨show In64 0 from ⟨by decide, by decide⟩, by show (decB (k : Int)).size ≤ 25; omega⟩
  · exact ⟨show In64 0 from ⟨by decide, by decide⟩, by show (0 : Nat) ≤ 25; omega⟩
  · exact ⟨show In64 0 from ⟨by decide, by decide⟩, by show (0 : Nat) ≤ 25; omega⟩
  · exact ⟨⟨by show (-9223372036854775808 : Int) ≤ (k : Int); omega, by show (k : Int) ≤ 9223372036854775807; omega⟩, by show (0 : Nat) ≤ 25; omega⟩
  · exact ⟨show In64 0 from ⟨by decide, by decide⟩, by show (0 : Nat) ≤ 25; omega⟩
theorem cellsI_five (k : Nat) : cellsI (fiveW k) = (#[.int .i64 2, .int .i64 0, .string (decB (k : Int)), .int .i64 1, .int .i64 0, .string ⟨#[]⟩, .int .i64 4, .int .i64 0, .string ⟨#[]⟩, .int .i64 3, .int .i64 (k : Int), .string ⟨#[]⟩, .int .i64 13, .int .i64 0, .string ⟨#[]⟩] : Array Value).toList := rfl
/-- The wide job so far: its program in a row of its own, the block of the job and that of the result. -/
structure WdA (w wr : World) (r : Nat) (a : Option Addr) (len cap : Nat) (q : Option Addr) (n c : Nat) (W : Instrs) (J R : Nat) (cur : Array Value) : Prop where
  d : DrawnI w wr r a len cap (.slice q n c) n W
  j : Row wr J 27 cur
  res : Row wr R 27 #[.slice none 0 0, .bool false, .int .i64 0, .int .i64 0, .slice none 0 0]
theorem WdA.keep {w wr w1 : World} {r : Nat} {a : Option Addr} {len cap n c : Nat} {q : Option Addr} {W : Instrs} {J R : Nat} {cur : Array Value} (h : WdA w wr r a len cap q n c W J R cur) (hB : Below wr.heap.size wr w1) (hr : r < w.heap.size) : WdA w w1 r a len cap q n c W J R cur :=
  ⟨h.d.below hB hr, h.j.keep hB, h.res.keep hB⟩
theorem WdA.add {w wr w1 : World} {r : Nat} {a : Option Addr} {len cap n c g c5 k : Nat} {q : Option Addr} {W : Instrs} {J R : Nat} {cur : Array Value} (h : WdA w wr r a len cap q n c W J R cur) (hr : r < w.heap.size) (hk : k ≤ 6)
    (hown : w1.ownsRow w.heap.size 89 3 (.slice (some ⟨g, 0, none⟩) (n + 5) c5) (n + 5) (cellsI W ++ (#[.int .i64 2, .int .i64 0, .string (decB (k : Int)), .int .i64 1, .int .i64 0, .string ⟨#[]⟩, .int .i64 4, .int .i64 0, .string ⟨#[]⟩, .int .i64 3, .int .i64 (k : Int), .string ⟨#[]⟩, .int .i64 13, .int .i64 0, .string ⟨#[]⟩] : Array Value).toList)) (hg : wr.grownBy w1 (Value.slice q n c).ownBlock) : WdA w w1 r a len cap (some ⟨g, 0, none⟩) (n + 5) c5 (W ++ fiveW k) J R cur :=
  ⟨h.d.add hr (fiveW_fine hk) rfl (by rw [cellsI_five]; exact hown) hg, ot_row_grownT h.j h.d.own (by decide) hg, ot_row_grownT h.res h.d.own (by decide) hg⟩
theorem WdA.set {w wr : World} {r : Nat} {a : Option Addr} {len cap n c : Nat} {q : Option Addr} {W : Instrs} {J R : Nat} {cur : Array Value} (h : WdA w wr r a len cap q n c W J R cur) (hr : r < w.heap.size) (hJ : w.heap.size ≤ J) (hJR : R ≠ J) (i : Nat) (v : Value) : WdA w (wr.setCell ⟨J, i, none⟩ v) r a len cap q n c W J R (cur.setIfInBounds i v) :=
  ⟨h.d.setOther hr hJ (fun e => ot_own_ne_row h.d.own h.j (by decide) J e rfl) i v, h.j.set i v, h.res.other hJR i v⟩

set_option maxHeartbeats 16000000 in
theorem wide_any (w : World) (r : Nat) (a : Option Addr) (len cap : Nat) (h : Rdr w r a len cap) :
    Calls Tryz.prog 18 #[.pointer (some ⟨r, 0, none⟩)] w (RdHurtJ w r a len cap) := by
  obtain ⟨i0, hi, hz0, hz1, hz2⟩ := info_parts infoInstr
  obtain ⟨i1, hii, hy0', hy1', hy2'⟩ := info_parts infoStr
  obtain ⟨wb, hwb⟩ : ∃ wb, w.alloc (.cells #[.slice none 0 0, .bool false, .int .i64 0, .int .i64 0, .slice none 0 0] 27) = wb := ⟨_, rfl⟩
  have HWB := Lib.hid hwb
  obtain ⟨R, hR⟩ : ∃ R, w.heap.size = R := ⟨_, rfl⟩
  have HRR := Lib.hid (show Row wb R 27 #[.slice none 0 0, .bool false, .int .i64 0, .int .i64 0, .slice none 0 0] from by rw [← hwb, ← hR]; exact row_new _ _ _)
  have HRr := Lib.hid (show R ≠ r by have := h.lt; omega)
  have HRW := Lib.hid (show r < R by have := h.lt; omega)
  have HRD := Lib.hid (show Rdr wb r a len cap from hwb ▸ h.alloc _)
  have HWW := Lib.hid (show Went w r a len cap wb from hwb ▸ (Went.refl h).alloc _)
  have HRE := Lib.hid hR
  clear h hwb hR
  go_enter Tryz.func18, Tryz.ntmps18
  go_wp2_with fail
  rw [HWB.out]
  try rw [HRE.out]
  refine (rjob_any _ _ _ _ _ HRD.out).mono ?_
  rintro e w2 ⟨pq0, pn0, pc0, W0, sq0, sn0, sc0, M0, e1, o1, n1, rfl, _, _, hd⟩
  have HW2 := Lib.hid (HWW.out.trans hd.d.went)
  have HRR := Lib.hid (HRR.out.went hd.d.went HRr.out)
  have HRD2 := Lib.hid hd.d.went.rdr
  have HRL := Lib.hid (show r < w2.heap.size from hd.d.went.rdr.lt)
  have HR2L := Lib.hid HRR.out.lt
  clear hd
  obtain ⟨J, hJ⟩ : ∃ J, w2.heap.size = J := ⟨_, rfl⟩
  obtain ⟨wj, hwj⟩ : ∃ x, w2.alloc (.cells #[.slice none 0 0, .bool true, .int .i64 o1, .int .i64 n1, .slice sq0 sn0 sc0] 27) = x := ⟨_, rfl⟩
  have HJ0 := Lib.hid (show Row wj J 27 #[.slice none 0 0, .bool true, .int .i64 o1, .int .i64 n1, .slice sq0 sn0 sc0] from by rw [← hwj, ← hJ]; exact row_new _ _ _)
  have HJb := Lib.hid (show w2.heap.size ≤ J by omega)
  have HJR := Lib.hid (show R ≠ J by have := HRR.out.lt; omega)
  have HD0 := Lib.hid (show DrawnI w2 wj r a len cap (.slice none 0 0) 0 [] from hwj ▸ ⟨World.ownsRow_nil _ _ _ _, rfl, (Went.refl HRD2.out).alloc _, fun x hx => absurd hx (by simp)⟩)
  have HA := Lib.hid (show WdA w2 wj r a len cap none 0 0 (wideK 0) J R #[.slice none 0 0, .bool true, .int .i64 o1, .int .i64 n1, .slice sq0 sn0 sc0] from ⟨HD0.out, HJ0.out, hwj ▸ HRR.out.al _⟩)
  have HWJ := Lib.hid hwj
  have HJE := Lib.hid hJ
  clear hwj hJ HJ0 HD0 HRR
  go_wp2_with fail
  try rw [HJE.out]
  rw [HWJ.out]
  go_loopw [4] (fun i wr => ∃ (k m : Nat) (q : Option Addr) (c : Nat), k ≤ 6 ∧ i = .int .i64 k ∧ Hid (m = 5 * k) ∧ Hid (WdA w2 wr r a len cap q m c (wideK k) J R #[.slice q m c, .bool true, .int .i64 o1, .int .i64 n1, .slice sq0 sn0 sc0])) (fun i _ => 6 - (intOf i).toNat)
  case atStart => exact ⟨0, 0, none, 0, Nat.zero_le _, rfl, Lib.hid rfl, HA⟩
  case round =>
    clear HA
    obtain ⟨k, m, q, c, hk, rfl, HM, HA⟩ := hrel
    by_cases hlt : k < 6
    · have hk6 : (k : Int) < 6 := by omega
      have hm30 : m ≤ 30 := by have := HM.out; omega
      go_wp2_with fail
      refine wp_region_noPanic ?_
      obtain ⟨v0, hv0⟩ : ∃ x, wr.drew = x := ⟨_, rfl⟩
      have HA := Lib.hid (show WdA w2 v0 r a len cap q m c (wideK k) J R #[.slice q m c, .bool true, .int .i64 o1, .int .i64 n1, .slice sq0 sn0 sc0] from by rw [← hv0]; exact HA.out.keep (below_drewN (Below.refl _ _) 1) HRL.out)
      refine wp_region_held_drew (S := (fun _ => True)) (by kernel_rfl) trivial (fun HS => ?_)
      rw [hv0]
      clear hv0
      refine held_take (i := 0) (d := 17) (v := .pointer (some ⟨J, 0, none⟩)) rfl rfl (by kernel_rfl) (by kernel_rfl) (by kernel_rfl) (by kernel_rfl) (fun wx hS => by go_simp) HS ?_
      refine held_take (i := 2) (d := 19) (v := .int .i64 (k : Int)) rfl rfl (by kernel_rfl) (by kernel_rfl) (by kernel_rfl) (by kernel_rfl) (fun wx hS => by go_simp) HS ?_
      refine held_take (i := 5) (d := 22) (v := .agg #[.int .i64 1, .int .i64 0, .string ⟨#[]⟩]) rfl rfl (by kernel_rfl) (by kernel_rfl) (by kernel_rfl) (by kernel_rfl) (fun wx hS => by go_simp) HS ?_
      refine held_take (i := 6) (d := 23) (v := .agg #[.int .i64 4, .int .i64 0, .string ⟨#[]⟩]) rfl rfl (by kernel_rfl) (by kernel_rfl) (by kernel_rfl) (by kernel_rfl) (fun wx hS => by go_simp) HS ?_
      refine held_take (i := 7) (d := 24) (v := .int .i64 (k : Int)) rfl rfl (by kernel_rfl) (by kernel_rfl) (by kernel_rfl) (by kernel_rfl) (fun wx hS => by go_simp) HS ?_
      refine held_take (i := 8) (d := 25) (v := .agg #[.int .i64 3, .int .i64 (k : Int), .string ⟨#[]⟩]) rfl rfl (by kernel_rfl) (by kernel_rfl) (by kernel_rfl) (by kernel_rfl) (fun wx hS => by go_simp) HS ?_
      refine held_take (i := 9) (d := 26) (v := .agg #[.int .i64 13, .int .i64 0, .string ⟨#[]⟩]) rfl rfl (by kernel_rfl) (by kernel_rfl) (by kernel_rfl) (by kernel_rfl) (fun wx hS => by go_simp) HS ?_
      refine wpAnyH_ready (rs := [1, 3]) (by kernel_rfl) (by simp) (AllReadyH.cons rfl (fun K hK => ?_) (AllReadyH.cons rfl (fun K hK => ?_) AllReadyH.nil))
      · skip
        have j0 := HA.out.j.cell (j := 0) (by simp)
        simp at j0
        go_simp
        clear j0
        refine hK.out _ _ trivial (fun HS => ?_)
        clear hK K
        refine wpAnyH_ready (rs := [3]) (by kernel_rfl) (by simp) (AllReadyH.cons rfl (fun K hK => ?_) AllReadyH.nil)
        go_simp
        refine (l1dec_any (k : Int) (by omega) (by omega) _).mono ?_
        rintro e v1 ⟨rfl, hB⟩
        have HA := Lib.hid (HA.out.keep hB HRL.out)
        clear hB
        refine hK.out _ _ trivial (fun HS => ?_)
        clear hK K
        refine held_take (i := 4) (d := 21) (v := .agg #[.int .i64 2, .int .i64 0, .string (decB (k : Int))]) rfl rfl (by kernel_rfl) (by kernel_rfl) (by kernel_rfl) (by kernel_rfl) (fun wx hS => by go_simp) HS ?_
        refine wpAnyH_ready (rs := [10]) (by kernel_rfl) (by simp) (AllReadyH.cons rfl (fun K hK => ?_) AllReadyH.nil)
        go_simp
        have HA := Lib.hid (HA.out.keep (below_alloc (Below.refl _ _) (.cells #[.int .i64 2, .int .i64 0, .string (decB (k : Int)), .int .i64 1, .int .i64 0, .string ⟨#[]⟩, .int .i64 4, .int .i64 0, .string ⟨#[]⟩, .int .i64 3, .int .i64 (k : Int), .string ⟨#[]⟩, .int .i64 13, .int .i64 0, .string ⟨#[]⟩] 89)) HRL.out)
        refine hK.out _ _ trivial (fun HS => ?_)
        clear hK K
        refine wpAnyH_ready (rs := [11]) (by kernel_rfl) (by simp) (AllReadyH.cons rfl (fun K hK => ?_) AllReadyH.nil)
        refine step_append_lies _ rfl (.tmp 18) (.tmp 27) 24 rfl w2.heap.size 89 i0 _ 3 32 Tryz.underlying24 hi hz0 hz1 hz2 rfl (by decide) (.slice q m c) m _ rfl HA.out.d.own ⟨v1.heap.size, 0, none⟩ 5 5 (#[.int .i64 2, .int .i64 0, .string (decB (k : Int)), .int .i64 1, .int .i64 0, .string ⟨#[]⟩, .int .i64 4, .int .i64 0, .string ⟨#[]⟩, .int .i64 3, .int .i64 (k : Int), .string ⟨#[]⟩, .int .i64 13, .int .i64 0, .string ⟨#[]⟩] : Array Value).toList rfl rfl (lit_new _ _ _) (by intro u hu; simp at hu; rcases hu with rfl | rfl | rfl | rfl | rfl | rfl | rfl | rfl | rfl | rfl | rfl | rfl | rfl | rfl | rfl <;> rfl) (by decide) (by unfold maxLen; omega) (by omega) HA.out.d.went.size (v1.heap.size + 1) (by simp) ?_
        intro g5 c5 v5 hown hgrow hat hlt5
        have HA5 := Lib.hid (HA.out.add (k := k) HRL.out hk hown hgrow)
        clear hown hgrow hat hlt5 HA
        refine hK.out _ _ trivial (fun HS => ?_)
        clear hK K
        refine held_take (i := 12) (d := 29) (v := .pointer (some ⟨J, 0, none⟩)) rfl rfl (by kernel_rfl) (by kernel_rfl) (by kernel_rfl) (by kernel_rfl) (fun wx hS => by go_simp) HS ?_
        refine wpAnyH_ready (rs := [13]) (by kernel_rfl) (by simp) (AllReadyH.cons rfl (fun K hK => ?_) AllReadyH.nil)
        have j0 := HA5.out.j.cell (j := 0) (by simp)
        simp at j0
        have jf0 := HA5.out.j.free 0
        go_simp
        clear j0 jf0
        refine hK.out _ _ trivial (fun HS => ?_)
        clear hK K
        refine wpAnyH_done (by kernel_rfl) (NoPanic.normal ?_) _
        go_wp2
        go_roundw
        case rel => exact ⟨k + 1, m + 5, some ⟨g5, 0, none⟩, c5, by omega, by go_num, Lib.hid (by have := HM.out; omega), Lib.hid (by have := HA5.out.set HRL.out HJb.out HJR.out 0 (.slice (some ⟨g5, 0, none⟩) (m + 5) c5); simpa [wideK] using this)⟩
        case measure => simp [intOf]; omega
      · skip
        go_simp
        refine (l1dec_any (k : Int) (by omega) (by omega) _).mono ?_
        rintro e v1 ⟨rfl, hB⟩
        have HA := Lib.hid (HA.out.keep hB HRL.out)
        clear hB
        refine hK.out _ _ trivial (fun HS => ?_)
        clear hK K
        refine held_take (i := 4) (d := 21) (v := .agg #[.int .i64 2, .int .i64 0, .string (decB (k : Int))]) rfl rfl (by kernel_rfl) (by kernel_rfl) (by kernel_rfl) (by kernel_rfl) (fun wx hS => by go_simp) HS ?_
        refine wpAnyH_ready (rs := [1, 10]) (by kernel_rfl) (by simp) (AllReadyH.cons rfl (fun K hK => ?_) (AllReadyH.cons rfl (fun K hK => ?_) AllReadyH.nil))
        · skip
          have j0 := HA.out.j.cell (j := 0) (by simp)
          simp at j0
          go_simp
          clear j0
          refine hK.out _ _ trivial (fun HS => ?_)
          clear hK K
          refine wpAnyH_ready (rs := [10]) (by kernel_rfl) (by simp) (AllReadyH.cons rfl (fun K hK => ?_) AllReadyH.nil)
          go_simp
          have HA := Lib.hid (HA.out.keep (below_alloc (Below.refl _ _) (.cells #[.int .i64 2, .int .i64 0, .string (decB (k : Int)), .int .i64 1, .int .i64 0, .string ⟨#[]⟩, .int .i64 4, .int .i64 0, .string ⟨#[]⟩, .int .i64 3, .int .i64 (k : Int), .string ⟨#[]⟩, .int .i64 13, .int .i64 0, .string ⟨#[]⟩] 89)) HRL.out)
          refine hK.out _ _ trivial (fun HS => ?_)
          clear hK K
          refine wpAnyH_ready (rs := [11]) (by kernel_rfl) (by simp) (AllReadyH.cons rfl (fun K hK => ?_) AllReadyH.nil)
          refine step_append_lies _ rfl (.tmp 18) (.tmp 27) 24 rfl w2.heap.size 89 i0 _ 3 32 Tryz.underlying24 hi hz0 hz1 hz2 rfl (by decide) (.slice q m c) m _ rfl HA.out.d.own ⟨v1.heap.size, 0, none⟩ 5 5 (#[.int .i64 2, .int .i64 0, .string (decB (k : Int)), .int .i64 1, .int .i64 0, .string ⟨#[]⟩, .int .i64 4, .int .i64 0, .string ⟨#[]⟩, .int .i64 3, .int .i64 (k : Int), .string ⟨#[]⟩, .int .i64 13, .int .i64 0, .string ⟨#[]⟩] : Array Value).toList rfl rfl (lit_new _ _ _) (by intro u hu; simp at hu; rcases hu with rfl | rfl | rfl | rfl | rfl | rfl | rfl | rfl | rfl | rfl | rfl | rfl | rfl | rfl | rfl <;> rfl) (by decide) (by unfold maxLen; omega) (by omega) HA.out.d.went.size (v1.heap.size + 1) (by simp) ?_
          intro g5 c5 v5 hown hgrow hat hlt5
          have HA5 := Lib.hid (HA.out.add (k := k) HRL.out hk hown hgrow)
          clear hown hgrow hat hlt5 HA
          refine hK.out _ _ trivial (fun HS => ?_)
          clear hK K
          refine held_take (i := 12) (d := 29) (v := .pointer (some ⟨J, 0, none⟩)) rfl rfl (by kernel_rfl) (by kernel_rfl) (by kernel_rfl) (by kernel_rfl) (fun wx hS => by go_simp) HS ?_
          refine wpAnyH_ready (rs := [13]) (by kernel_rfl) (by simp) (AllReadyH.cons rfl (fun K hK => ?_) AllReadyH.nil)
          have j0 := HA5.out.j.cell (j := 0) (by simp)
          simp at j0
          have jf0 := HA5.out.j.free 0
          go_simp
          clear j0 jf0
          refine hK.out _ _ trivial (fun HS => ?_)
          clear hK K
          refine wpAnyH_done (by kernel_rfl) (NoPanic.normal ?_) _
          go_wp2
          go_roundw
          case rel => exact ⟨k + 1, m + 5, some ⟨g5, 0, none⟩, c5, by omega, by go_num, Lib.hid (by have := HM.out; omega), Lib.hid (by have := HA5.out.set HRL.out HJb.out HJR.out 0 (.slice (some ⟨g5, 0, none⟩) (m + 5) c5); simpa [wideK] using this)⟩
          case measure => simp [intOf]; omega
        · skip
          go_simp
          have HA := Lib.hid (HA.out.keep (below_alloc (Below.refl _ _) (.cells #[.int .i64 2, .int .i64 0, .string (decB (k : Int)), .int .i64 1, .int .i64 0, .string ⟨#[]⟩, .int .i64 4, .int .i64 0, .string ⟨#[]⟩, .int .i64 3, .int .i64 (k : Int), .string ⟨#[]⟩, .int .i64 13, .int .i64 0, .string ⟨#[]⟩] 89)) HRL.out)
          refine hK.out _ _ trivial (fun HS => ?_)
          clear hK K
          refine wpAnyH_ready (rs := [1]) (by kernel_rfl) (by simp) (AllReadyH.cons rfl (fun K hK => ?_) AllReadyH.nil)
          have j0 := HA.out.j.cell (j := 0) (by simp)
          simp at j0
          go_simp
          clear j0
          refine hK.out _ _ trivial (fun HS => ?_)
          clear hK K
          refine wpAnyH_ready (rs := [11]) (by kernel_rfl) (by simp) (AllReadyH.cons rfl (fun K hK => ?_) AllReadyH.nil)
          refine step_append_lies _ rfl (.tmp 18) (.tmp 27) 24 rfl w2.heap.size 89 i0 _ 3 32 Tryz.underlying24 hi hz0 hz1 hz2 rfl (by decide) (.slice q m c) m _ rfl HA.out.d.own ⟨v1.heap.size, 0, none⟩ 5 5 (#[.int .i64 2, .int .i64 0, .string (decB (k : Int)), .int .i64 1, .int .i64 0, .string ⟨#[]⟩, .int .i64 4, .int .i64 0, .string ⟨#[]⟩, .int .i64 3, .int .i64 (k : Int), .string ⟨#[]⟩, .int .i64 13, .int .i64 0, .string ⟨#[]⟩] : Array Value).toList rfl rfl (lit_new _ _ _) (by intro u hu; simp at hu; rcases hu with rfl | rfl | rfl | rfl | rfl | rfl | rfl | rfl | rfl | rfl | rfl | rfl | rfl | rfl | rfl <;> rfl) (by decide) (by unfold maxLen; omega) (by omega) HA.out.d.went.size (v1.heap.size + 1) (by simp) ?_
          intro g5 c5 v5 hown hgrow hat hlt5
          have HA5 := Lib.hid (HA.out.add (k := k) HRL.out hk hown hgrow)
          clear hown hgrow hat hlt5 HA
          refine hK.out _ _ trivial (fun HS => ?_)
          clear hK K
          refine held_take (i := 12) (d := 29) (v := .pointer (some ⟨J, 0, none⟩)) rfl rfl (by kernel_rfl) (by kernel_rfl) (by kernel_rfl) (by kernel_rfl) (fun wx hS => by go_simp) HS ?_
          refine wpAnyH_ready (rs := [13]) (by kernel_rfl) (by simp) (AllReadyH.cons rfl (fun K hK => ?_) AllReadyH.nil)
          have j0 := HA5.out.j.cell (j := 0) (by simp)
          simp at j0
          have jf0 := HA5.out.j.free 0
          go_simp
          clear j0 jf0
          refine hK.out _ _ trivial (fun HS => ?_)
          clear hK K
          refine wpAnyH_done (by kernel_rfl) (NoPanic.normal ?_) _
          go_wp2
          go_roundw
          case rel => exact ⟨k + 1, m + 5, some ⟨g5, 0, none⟩, c5, by omega, by go_num, Lib.hid (by have := HM.out; omega), Lib.hid (by have := HA5.out.set HRL.out HJb.out HJR.out 0 (.slice (some ⟨g5, 0, none⟩) (m + 5) c5); simpa [wideK] using this)⟩
          case measure => simp [intOf]; omega
    · obtain rfl : k = 6 := by omega
      obtain rfl : m = 30 := HM.out
      have j4 := HA.out.j.cell (j := 4) (by simp)
      simp at j4
      have jf4 := HA.out.j.free 4
      have HA := Lib.hid (HA.out.set HRL.out HJb.out HJR.out 4 (.slice none 0 0))
      have HA := Lib.hid (show WdA w2 (wr.setCell ⟨J, 4, none⟩ (.slice none 0 0)) r a len cap q 30 c (wideK 6) J R #[.slice q 30 c, .bool true, .int .i64 o1, .int .i64 n1, .slice none 0 0] from by simpa using HA.out)
      go_wp2_with fail
      clear j4 jf4
      refine (below_any 3 _ _ _ _ _ HA.out.d.went.rdr (by decide) (by decide)).mono ?_
      rintro e w5 ⟨⟨x, hx1, hx2, rfl⟩, hw⟩
      have HRR := Lib.hid (HA.out.res.went hw HRr.out)
      have HJr := Lib.hid (show J ≠ r by have := HRL.out; have := HJb.out; omega)
      have HRJ := Lib.hid (HA.out.j.went hw HJr.out)
      have HS := Lib.hid (show DrawnJ w2 w5 r a len cap (.slice q 30 c) 30 (wideK 6) (.slice none 0 0) 0 [] from ⟨HA.out.d.trans HRL.out hw, ⟨rfl, .inl ⟨rfl, rfl⟩⟩, rfl, by simp, fun g hg e => by cases e⟩)
      clear hw HA
      go_wp2_with fail
      go_loopw [5] (fun i wr => ∃ (k sn : Nat) (sq : Option Addr) (sc : Nat) (M : Strs), i = .int .i64 k ∧ sn + k ≤ 3 ∧ Hid (DrawnJ w2 wr r a len cap (.slice q 30 c) 30 (wideK 6) (.slice sq sn sc) sn M) ∧ Hid (Row wr R 27 #[.slice none 0 0, .bool false, .int .i64 0, .int .i64 0, .slice none 0 0]) ∧ Hid (Row wr J 27 #[.slice q 30 c, .bool true, .int .i64 o1, .int .i64 n1, .slice sq sn sc]) ∧ Hid ((Value.slice sq sn sc).ownBlock ≠ some J)) (fun i _ => (intOf i).toNat)
      case atStart => exact ⟨(1 + x).toNat, 0, none, 0, [], by rw [Int.toNat_of_nonneg (by omega)], by omega, HS, HRR, HRJ, Lib.hid (by intro e; cases e)⟩
      case round =>
        clear HS HRR HRJ
        obtain ⟨k, sn, sq, sc, M, rfl, hk3, HS, HRR, HRJ, HSJ⟩ := hrel
        by_cases hk0 : 0 < k
        · obtain ⟨m, rfl⟩ : ∃ m, k = m + 1 := ⟨k - 1, by omega⟩
          go_wp2_with fail
          refine (below_any 5 _ _ _ _ _ HS.out.d.went.rdr (by decide) (by decide)).mono ?_
          rintro e w6 ⟨⟨y, hy1, hy2, rfl⟩, hw⟩
          have HS := Lib.hid (HS.out.trans HRL.out hw)
          have HRR := Lib.hid (HRR.out.went hw HRr.out)
          have HRJ := Lib.hid (HRJ.out.went hw HJr.out)
          clear hw
          go_wp2_with fail
          go_loopw [6, 7] (fun s i wx => ∃ (yk : Nat) (T : ByteArray), s = .string T ∧ i = .int .i64 yk ∧ T.size + 600 * yk ≤ 3000 ∧ Hid (DrawnJ w2 wx r a len cap (.slice q 30 c) 30 (wideK 6) (.slice sq sn sc) sn M) ∧ Hid (Row wx R 27 #[.slice none 0 0, .bool false, .int .i64 0, .int .i64 0, .slice none 0 0]) ∧ Hid (Row wx J 27 #[.slice q 30 c, .bool true, .int .i64 o1, .int .i64 n1, .slice sq sn sc])) (fun _ i _ => (intOf i).toNat)
          case atStart => exact ⟨(1 + y).toNat, _, rfl, by rw [Int.toNat_of_nonneg (by omega)], (by show 0 + 600 * (1 + y).toNat ≤ 3000; omega), HS, HRR, HRJ⟩
          case round =>
            clear HS HRR HRJ
            obtain ⟨yk, T, rfl, rfl, hT, HS, HRR, HRJ⟩ := hrel
            by_cases hy0 : 0 < yk
            · have hyi : (0 : Int) < (yk : Int) := by omega
              obtain ⟨Z, hZ⟩ : ∃ Z, T.size = Z := ⟨_, rfl⟩
              have HTZ := Lib.hid hZ
              have hZ3 : Z + 600 * yk ≤ 3000 := by omega
              clear hZ hT
              go_wp2_with fail
              go_loopw [6, 8] (fun s i wy => ∃ (n : Nat) (U : ByteArray), s = .string U ∧ i = .int .i64 n ∧ n ≤ 20 ∧ U.size ≤ Z + 25 * n ∧ Hid (DrawnJ w2 wy r a len cap (.slice q 30 c) 30 (wideK 6) (.slice sq sn sc) sn M) ∧ Hid (Row wy R 27 #[.slice none 0 0, .bool false, .int .i64 0, .int .i64 0, .slice none 0 0]) ∧ Hid (Row wy J 27 #[.slice q 30 c, .bool true, .int .i64 o1, .int .i64 n1, .slice sq sn sc])) (fun _ i _ => 20 - (intOf i).toNat)
              case atStart => exact ⟨0, T, rfl, rfl, by omega, by rw [HTZ.out]; omega, HS, HRR, HRJ⟩
              case round =>
                clear HS HRR HRJ
                obtain ⟨n, U, rfl, rfl, hn20, hU, HS, HRR, HRJ⟩ := hrel
                by_cases hnl : n < 20
                · have hn1 : (n : Int) < 20 := by omega
                  have hU3 : U.size ≤ 3000 := by omega
                  have e119 : (⟨#[119]⟩ : ByteArray).size = 1 := rfl
                  have e32 : (⟨#[32]⟩ : ByteArray).size = 1 := rfl
                  have c1 : ∀ w, (Op.stringOp .add U (⟨#[119]⟩ : ByteArray)).run Tryz.prog w = .ok (.string (U ++ ⟨#[119]⟩)) w := fun w => cat_runp _ _ 5000 (by omega) (by decide)
                  go_wp2_with fail
                  refine (below_any 400 _ _ _ _ _ HS.out.d.went.rdr (by decide) (by decide)).mono ?_
                  rintro e w7 ⟨⟨z, hz1, hz2, rfl⟩, hw⟩
                  have HS := Lib.hid (HS.out.trans HRL.out hw)
                  have HRR := Lib.hid (HRR.out.went hw HRr.out)
                  have HRJ := Lib.hid (HRJ.out.went hw HJr.out)
                  clear hw
                  go_wp2_with fail
                  refine (l1dec_any z (by omega) (by omega) _).mono ?_
                  rintro e w8 ⟨rfl, hB⟩
                  have HS := Lib.hid (HS.out.below hB HRL.out)
                  have HRR := Lib.hid (HRR.out.keep hB)
                  have HRJ := Lib.hid (HRJ.out.keep hB)
                  clear hB
                  have hd := @decB_size z (by omega) (by omega)
                  obtain ⟨D, hD⟩ : ∃ D, decB z = D := ⟨_, rfl⟩
                  rw [hD] at hd ⊢
                  clear hD
                  have c2 : ∀ w, (Op.stringOp .add (U ++ ⟨#[119]⟩) D).run Tryz.prog w = .ok (.string (U ++ ⟨#[119]⟩ ++ D)) w := fun w => cat_runp _ _ 5000 (by rw [ByteArray.size_append, e119]; omega) (by omega)
                  have c3 : ∀ w, (Op.stringOp .add (U ++ ⟨#[119]⟩ ++ D) (⟨#[32]⟩ : ByteArray)).run Tryz.prog w = .ok (.string (U ++ ⟨#[119]⟩ ++ D ++ ⟨#[32]⟩)) w := fun w => cat_runp _ _ 5000 (by rw [ByteArray.size_append, ByteArray.size_append, e119]; omega) (by decide)
                  go_wp2
                  go_roundw
                  case rel => exact ⟨n + 1, _, rfl, by go_num, by omega, by rw [ByteArray.size_append, ByteArray.size_append, ByteArray.size_append, e119, e32]; omega, HS, HRR, HRJ⟩
                  case measure => simp [intOf]; omega
                · obtain rfl : n = 20 := by omega
                  have hU3 : U.size ≤ 3000 := by omega
                  have e10 : (⟨#[10]⟩ : ByteArray).size = 1 := rfl
                  have c1 : ∀ w, (Op.stringOp .add U (⟨#[10]⟩ : ByteArray)).run Tryz.prog w = .ok (.string (U ++ ⟨#[10]⟩)) w := fun w => cat_runp _ _ 5000 (by omega) (by decide)
                  go_wp2
                  go_roundw
                  case rel => exact ⟨yk - 1, _, rfl, by rw [show ((yk - 1 : Nat) : Int) = (yk : Int) - 1 by omega], by rw [ByteArray.size_append, e10]; omega, HS, HRR, HRJ⟩
                  case measure => simp [intOf]; omega
            · obtain rfl : yk = 0 := by omega
              have HTZ := Lib.hid (show T.size ≤ 5000 by omega)
              have y4 := HRJ.out.cell (j := 4) (by simp)
              simp at y4
              have HO := Lib.hid HS.out.own
              have hsn : sn ≤ 3 := by omega
              go_wp2_with (at_builtin; (refine wpList_append_own_at _ rfl _ _ 25 rfl w2.heap.size 9 i1 _ 1 16 Tryz.underlying25 hii hy0' hy1' hy2' rfl (by decide) _ _ _ rfl (HO.out.alloc _) ⟨wr.heap.size, 0, none⟩ 1 1 [.string T] rfl rfl (one_new _ _ _) (fun u hu => by simp at hu; subst hu; rfl) (by unfold maxLen; omega) (by omega) (Nat.le_trans HS.out.d.went.size (by simp)) ?_); intro v' w8 hown1 hgrow hnil hat; obtain ⟨q1, cp1, rfl⟩ := own_form hown1; have HJ8 := Lib.hid ((HRJ.out.al _).grown hgrow (fun e => HSJ.out e)); have HR8 := Lib.hid (ot_row_grownT (HRR.out.al _) (HO.out.alloc _) (by decide) hgrow); have HS8 := Lib.hid (HS.out.add HRL.out HTZ.out hown1 hgrow hat); have HSJ8 := Lib.hid (show (Value.slice q1 (sn + 1) cp1).ownBlock ≠ some J from fun e => by rcases hat with h1 | h1 <;> rw [h1] at e <;> first | exact HSJ.out e | (injection e with e; have h3 := HRJ.out.lt; simp at e; omega)); have z4 := HJ8.out.cell (j := 4) (by simp); have f4 := HJ8.out.free 4; simp at z4; clear hown1 hgrow hnil hat y4)
              have HPJ8 := Lib.hid (show (Value.slice q 30 c).ownBlock ≠ some J from fun e => ot_own_ne_row HS8.out.d.own HJ8.out (by decide) J e rfl)
              go_roundw
              case rel => exact ⟨m, sn + 1, q1, cp1, _, by go_num, by omega, Lib.hid (HS8.out.setOther HRL.out HJb.out HPJ8.out HSJ8.out _ _), Lib.hid (HR8.out.other HJR.out _ _), Lib.hid (HJ8.out.set 4 _), HSJ8⟩
              case measure => simp [intOf]
        · obtain rfl : k = 0 := by omega
          have y0 := HRJ.out.cell (j := 0) (by simp)
          have y1 := HRJ.out.cell (j := 1) (by simp)
          have y2 := HRJ.out.cell (j := 2) (by simp)
          have y3 := HRJ.out.cell (j := 3) (by simp)
          have y4 := HRJ.out.cell (j := 4) (by simp)
          have r0 := HRR.out.cell (j := 0) (by simp)
          have r1 := HRR.out.cell (j := 1) (by simp)
          have r2 := HRR.out.cell (j := 2) (by simp)
          have r3 := HRR.out.cell (j := 3) (by simp)
          have r4 := HRR.out.cell (j := 4) (by simp)
          have f0 := HRR.out.free 0
          have f1 := HRR.out.free 1
          have f2 := HRR.out.free 2
          have f3 := HRR.out.free 3
          have f4 := HRR.out.free 4
          simp at y0 y1 y2 y3 y4 r0 r1 r2 r3 r4
          go_wp2
          have hrw : r < w.heap.size := by have h1 := HRE.out; have h2 := HRW.out; omega
          have hR2 : R < w2.heap.size := HR2L.out
          have hpR : (Value.slice q 30 c).ownBlock ≠ some R := fun e => by have h1 := (HS.out.d.own.lt R e).1; omega
          have hsR : (Value.slice sq sn sc).ownBlock ≠ some R := fun e => by have h1 := (HS.out.own.lt R e).1; omega
          have hbR : w.heap.size ≤ R := by rw [HRE.out]; exact Nat.le_refl _
          have hbF := ((((HRR.out.set 0 (.slice q 30 c)).set 1 (.bool true)).set 2 (.int .i64 o1)).set 3 (.int .i64 n1)).set 4 (.slice sq sn sc)
          unfold Row at hbF
          have hF := (((((HS.out.wider HW2.out).setOther hrw hbR hpR hsR 0 (.slice q 30 c)).setOther hrw hbR hpR hsR 1 (.bool true)).setOther hrw hbR hpR hsR 2 (.int .i64 o1)).setOther hrw hbR hpR hsR 3 (.int .i64 n1)).setOther hrw hbR hpR hsR 4 (.slice sq sn sc)
          have hG := hF.f
          exact bodyPost_ret (v := .agg #[.slice q 30 c, .bool true, .int .i64 o1, .int .i64 n1, .slice sq sn sc]) (by simp [results, Tryz.results18, go_sem, World.cell?, hbF]) rfl
            ⟨q, 30, c, wideK 6, sq, sn, sc, M, true, o1, n1, rfl, (hG.job (by omega) (by omega)).1, (by omega), (hG.job (by omega) (by omega)).2, own_ge hG.d.own, own_ge hG.own, hG.d.went, (hG.d.ins (by omega)).2⟩
end Go.Proofs.YtjofbeokkainlaaGreatDoor
namespace Go.Proofs.YtjofbeokkainlaaGreatDoor
open Go.ChangeShapes Go.WideShapes Go.ChangeAt Go.RowKit
set_option linter.unusedVariables false
set_option maxRecDepth 100000

set_option maxHeartbeats 1000000 in
theorem near_none (w : World) (r : Nat) (a : Option Addr) (len cap : Nat) (h : Rdr w r a len cap) :
    Calls Tryz.prog 46 #[.pointer (some ⟨r, 0, none⟩), .int .i64 0, .int .i64 (-1)] w (RdInt (-1) 0 w r a len cap) := by
  have H := Lib.hid h
  clear h
  go_enter Tryz.func46, Tryz.ntmps46
  go_wp2_with fail
  refine (below_any 8 _ _ _ _ _ H.out (by decide) (by decide)).mono ?_
  rintro e w1 ⟨⟨x, hx1, hx2, rfl⟩, hw⟩
  have HW := Lib.hid hw
  clear hw
  by_cases h0 : x = 0
  · subst h0
    go_wp2
    go_ret
    exact RdInt.mk _ (by omega) (by omega) HW.out
  · by_cases h1 : x = 1
    · subst h1
      go_wp2
      go_ret
      exact RdInt.mk _ (by omega) (by omega) HW.out
    · have e0 : (x == (0 : Int)) = false := by rw [beq_eq_false_iff_ne]; exact h0
      have e1 : (x == (1 : Int)) = false := by rw [beq_eq_false_iff_ne]; exact h1
      go_wp2
      go_ret
      exact RdInt.mk _ (by omega) (by omega) HW.out
set_option maxHeartbeats 1000000 in
theorem off_none (w : World) (r : Nat) (a : Option Addr) (len cap : Nat) (h : Rdr w r a len cap) :
    Calls Tryz.prog 21 #[.pointer (some ⟨r, 0, none⟩), .int .i64 0, .int .i64 (-1)] w (RdWf .i64 w r a len cap) := by
  have H := Lib.hid h
  clear h
  go_enter Tryz.func21, Tryz.ntmps21
  go_wp2_with (first | (go_at_call 17; refine (once_any _ _ _ _ _ _ H.out (by omega) (by omega)).mono ?_; rintro e w1 ⟨⟨x, rfl⟩, hw⟩; have HW := Lib.hid hw; clear hw) | (go_at_call 46; refine (near_none _ _ _ _ _ HW.out.rdr).mono ?_; rintro e w2 ⟨⟨y, hy1, hy2, rfl⟩, hw⟩; have HW2 := Lib.hid (HW.out.trans hw); clear hw) | (go_at_call 40; refine (below_any _ _ _ _ _ _ (HW.out.rdr.alloc _) (by omega) (by omega)).mono ?_; rintro e w2 ⟨⟨y, hy1, hy2, rfl⟩, hw⟩; have HW2 := Lib.hid ((HW.out.alloc _).trans hw); obtain ⟨z, hz, hcz⟩ := int_cell (k := .i64) (hw.block (k := w1.heap.size) (heap_alloc_new _ _) (Nat.ne_of_gt HW.out.rdr.lt)) (by simp [allInt, Lit.wf, IntKind.min, IntKind.max, IntKind.bits, IntKind.signed]) y hy1 (by show y < 4; omega); have HZ := Lib.hid hz; clear hw hz))
  · go_ret
    exact ⟨⟨_, HZ.out, rfl⟩, HW2.out⟩
  · go_ret
    exact ⟨⟨y, WalkArith.wf_i64 (by omega), rfl⟩, HW2.out⟩
theorem off_len (n : Nat) (hn : n ≤ 5) (w : World) (r : Nat) (a : Option Addr) (len cap : Nat) (h : Rdr w r a len cap) :
    Calls Tryz.prog 21 #[.pointer (some ⟨r, 0, none⟩), .int .i64 0, .int .i64 ((n : Int) - 1)] w (RdWf .i64 w r a len cap) := by
  by_cases h0 : n = 0
  · subst h0
    exact off_none w r a len cap h
  · exact off_any 0 _ w r a len cap h (by omega) (by decide) (by omega)

/-- The end of drawing a job and the number of a split. -/
def DrewMp (w : World) (e : Ending) (w' : World) : Prop :=
  ∃ (pq : Option Addr) (pn pc : Nat) (W : Instrs) (sq : Option Addr) (sn sc : Nat) (M : Strs) (e1 : Bool) (o1 n1 t : Int), e = .returned (.tuple #[.agg #[.slice pq pn pc, .bool e1, .int .i64 o1, .int .i64 n1, .slice sq sn sc], .int .i64 t]) ∧ JobAt w' pq pn W sq sn M ∧ sn ≤ 5 ∧ (∀ i, i < sn → (strAt M i).size ≤ 5000) ∧ (∀ i, i < pn → In64 (ins1 W i)) ∧ Below w.heap.size w w'
theorem JobAt.wentR {w w1 : World} {p s : Option Addr} {pn sn r base : Nat} {W : Instrs} {M : Strs} {a : Option Addr} {len cap : Nat} (h : JobAt w p pn W s sn M) (hp : ∀ b off, p = some ⟨b, off, none⟩ → base ≤ b) (hs : ∀ b off, s = some ⟨b, off, none⟩ → base ≤ b) (hr : r < base) (hw : Went w r a len cap w1) : JobAt w1 p pn W s sn M := by
  refine ⟨⟨h.i.length, h.i.max, h.i.keys, ?_⟩, ⟨h.t.length, h.t.max, h.t.sizes, ?_⟩⟩
  · rcases h.i.src with h0 | ⟨b, off, ha, hb, hc⟩
    · exact .inl h0
    · have hb2 := hp b off ha
      have hblk := hw.grown.block b hb (by simp only [ne_eq, Option.some.injEq]; omega)
      refine .inr ⟨b, off, ha, Nat.lt_of_lt_of_le hb hw.size, fun i hi => ?_⟩
      have := hc i hi
      simp only [World.cell?, hblk] at this ⊢
      exact this
  · rcases h.t.src with h0 | ⟨b, off, ha, hb, hc⟩
    · exact .inl h0
    · have hb2 := hs b off ha
      have hblk := hw.grown.block b hb (by simp only [ne_eq, Option.some.injEq]; omega)
      refine .inr ⟨b, off, ha, Nat.lt_of_lt_of_le hb hw.size, fun i hi => ?_⟩
      have := hc i hi
      simp only [World.cell?, hblk] at this ⊢
      exact this

set_option maxHeartbeats 8000000 in
theorem drawmp_any (w : World) (a : Option Addr) (len cap : Nat) (h : Src w a len) : Calls Tryz.prog 5 #[.slice a len cap] w (DrewMp w) := by
  obtain ⟨R, hR⟩ : ∃ R, w.heap.size = R := ⟨_, rfl⟩
  obtain ⟨wb, hwb⟩ : ∃ wb, w.alloc (.cells #[.slice none 0 0, .bool false, .int .i64 0, .int .i64 0, .slice none 0 0] 27) = wb := ⟨_, rfl⟩
  have HRR := Lib.hid (show Row wb R 27 #[.slice none 0 0, .bool false, .int .i64 0, .int .i64 0, .slice none 0 0] from by rw [← hwb, ← hR]; exact row_new _ _ _)
  have HBB := Lib.hid (show Below w.heap.size w wb from hwb ▸ below_alloc (Below.refl _ _) _)
  have HSZ := Lib.hid (show wb.heap.size = R + 1 by rw [← hwb, ← hR]; simp)
  have HRE := Lib.hid hR
  have H := Lib.hid (h.below HBB.out)
  clear h
  go_enter Tryz.func5, Tryz.ntmps5
  go_wp2_with fail
  refine (open_any _ _ _ _ H.out).mono ?_
  rintro e w1 ⟨rfl, hb, hrd⟩
  have HB1 := Lib.hid hb
  have HRD := Lib.hid hrd
  have HRR := Lib.hid (HRR.out.keep hb)
  obtain ⟨r, hre⟩ : ∃ r, wb.heap.size = r := ⟨_, rfl⟩
  rw [hre] at HRD ⊢
  have HRr := Lib.hid (show R < r by have := HSZ.out; omega)
  have HLT := Lib.hid (show r < w1.heap.size by rw [← hre]; exact hrd.lt)
  have HNR := Lib.hid (show R ≠ r by have := HRr.out; omega)
  have hwR : w.heap.size ≤ R := by rw [HRE.out]; exact Nat.le_refl _
  clear hb hrd hre hR hwb
  go_wp2_with fail
  refine (once_any 30 _ _ _ _ _ HRD.out (by decide) (by decide)).mono ?_
  rintro e w2 ⟨⟨b30, rfl⟩, hw⟩
  have HW2 := Lib.hid hw
  have HRR := Lib.hid (HRR.out.went hw HNR.out)
  have HL2 := Lib.hid (show r < w2.heap.size from by have := HLT.out; have := hw.size; omega)
  clear hw
  cases b30 with
  | true =>
    go_wp2_with fail
    refine (wide_any _ _ _ _ _ HW2.out.rdr).mono ?_
    rintro e w3 ⟨pq, pn, pc, W, sq, sn, sc, M, e1, o1, n1, rfl, hj, hsn5, hsz, hp, hs, hw, hin⟩
    have HJ := Lib.hid hj
    have HZ := Lib.hid hsz
    have HI := Lib.hid hin
    have HP := Lib.hid (show ∀ b off, pq = some ⟨b, off, none⟩ → b ≠ R from fun b off hq => by have h1 := hp b off hq; have h2 := HRr.out; have h3 := HL2.out; omega)
    have HS := Lib.hid (show ∀ b off, sq = some ⟨b, off, none⟩ → b ≠ R from fun b off hq => by have h1 := hs b off hq; have h2 := HRr.out; have h3 := HL2.out; omega)
    have HRR := Lib.hid (HRR.out.went hw HNR.out)
    have HB3 := Lib.hid (show Below w.heap.size w w3 from (HW2.out.trans hw).under ((HBB.out.trans (HB1.out.mono HBB.out.size))) (by rw [HRE.out]; have := HRr.out; omega) ((HBB.out.trans (HB1.out.mono HBB.out.size))).size)
    clear hj hsz hp hs hw hin
    have r0 := HRR.out.cell (j := 0) (by simp)
    have r1 := HRR.out.cell (j := 1) (by simp)
    have r2 := HRR.out.cell (j := 2) (by simp)
    have r3 := HRR.out.cell (j := 3) (by simp)
    have r4 := HRR.out.cell (j := 4) (by simp)
    simp at r0 r1 r2 r3 r4
    have fr0 := HRR.out.free 0
    have fr1 := HRR.out.free 1
    have fr2 := HRR.out.free 2
    have fr3 := HRR.out.free 3
    have fr4 := HRR.out.free 4
    go_wp2
    have hbF := ((((HRR.out.set 0 (.slice pq pn pc)).set 1 (.bool e1)).set 2 (.int .i64 o1)).set 3 (.int .i64 n1)).set 4 (.slice sq sn sc)
    unfold Row at hbF
    exact bodyPost_ret (v := .tuple #[.agg #[.slice pq pn pc, .bool e1, .int .i64 o1, .int .i64 n1, .slice sq sn sc], .int .i64 0]) (by simp [results, Tryz.results5, go_sem, World.cell?, hbF]) rfl
      ⟨pq, pn, pc, W, sq, sn, sc, M, e1, o1, n1, 0, rfl, ((((HJ.out.put HP.out HS.out 0 _).put HP.out HS.out 1 _).put HP.out HS.out 2 _).put HP.out HS.out 3 _).put HP.out HS.out 4 _, hsn5, HZ.out, HI.out, ((((HB3.out.setCell hwR _).setCell hwR _).setCell hwR _).setCell hwR _).setCell hwR _⟩
  | false =>
    go_wp2_with fail
    refine (rjob_any _ _ _ _ _ HW2.out.rdr).mono ?_
    rintro e w3 ⟨pq0, pn0, pc0, W0, sq0, sn0, sc0, M0, e0, o0, n0, rfl, hpn0, hsn0, hd⟩
    have HD := Lib.hid hd
    have HRR0 := HRR
    clear hd
    go_wp2_with fail
    refine (hurtjob_any w2 w3 r a len cap pq0 pn0 pc0 W0 sq0 sn0 sc0 M0 e0 o0 n0 HL2.out HD.out hpn0 hsn0).mono ?_
    rintro e w4 ⟨pq, pn, pc, W, sq, sn, sc, M, e1, o1, n1, rfl, hj, hsn5, hsz, hp, hs, hw, hin⟩
    have HZ := Lib.hid hsz
    have HI := Lib.hid hin
    have HPB := Lib.hid hp
    have HSB := Lib.hid hs
    have HRR := Lib.hid (HRR0.out.went hw HNR.out)
    obtain ⟨X, hX⟩ : ∃ X, w4.heap.size = X := ⟨_, rfl⟩
    obtain ⟨wx, hwx⟩ : ∃ x, w4.alloc (.cells #[.slice pq pn pc, .bool e1, .int .i64 o1, .int .i64 n1, .slice sq sn sc] 27) = x := ⟨_, rfl⟩
    have HXB := Lib.hid (show Row wx X 27 #[.slice pq pn pc, .bool e1, .int .i64 o1, .int .i64 n1, .slice sq sn sc] from by rw [← hwx, ← hX]; exact row_new _ _ _)
    have hbx : Below w4.heap.size w4 wx := hwx ▸ below_alloc (Below.refl _ _) _
    have HW4 := Lib.hid (show Went w1 r a len cap wx from hwx ▸ (HW2.out.trans hw).alloc _)
    have HJ := Lib.hid (hj.keep hbx)
    have HRR := Lib.hid (HRR.out.keep hbx)
    have HNX := Lib.hid (show X ≠ r ∧ X ≠ R from ⟨by have := HL2.out; have := hw.size; omega, by have := HL2.out; have := hw.size; have := HRr.out; omega⟩)
    have HXE := Lib.hid hX
    have HWXE := Lib.hid hwx
    clear hj hsz hp hs hw hin hbx hwx hX HD
    go_wp2_with fail
    rw [HWXE.out]
    try rw [HXE.out]
    refine wp_region_noPanic ?_
    obtain ⟨v0, hv0⟩ : ∃ x, wx.drew = x := ⟨_, rfl⟩
    have hdd : Below wx.heap.size wx v0 := by rw [← hv0]; exact below_drewN (Below.refl _ _) 1
    have HXB : Hid (Row v0 X 27 #[.slice pq pn pc, .bool e1, .int .i64 o1, .int .i64 n1, .slice sq sn sc]) := Lib.hid (HXB.out.keep hdd)
    have HW4 : Hid (Went w1 r a len cap v0) := Lib.hid (by rw [← hv0]; exact HW4.out.drewN 1)
    have HJ := Lib.hid (HJ.out.keep hdd)
    have HRR := Lib.hid (HRR.out.keep hdd)
    refine wp_region_held_drew (S := (fun w' => Hid (Row w' X 27 #[.slice pq pn pc, .bool e1, .int .i64 o1, .int .i64 n1, .slice sq sn sc]))) (by kernel_rfl) (by rw [hv0]; exact HXB) (fun HS => ?_)
    rw [hv0] at HS ⊢
    clear hv0 hdd HXB
    refine held_take (i := 0) (d := 16) (v := .agg #[.slice pq pn pc, .bool e1, .int .i64 o1, .int .i64 n1, .slice sq sn sc]) rfl rfl (by kernel_rfl) (by kernel_rfl) (by kernel_rfl) (by kernel_rfl) (fun wx hS => by have g0 := hS.out.cell (j := 0) (by simp); have g1 := hS.out.cell (j := 1) (by simp); have g2 := hS.out.cell (j := 2) (by simp); have g3 := hS.out.cell (j := 3) (by simp); have g4 := hS.out.cell (j := 4) (by simp); simp at g0 g1 g2 g3 g4; go_simp) HS ?_
    refine held_take (i := 1) (d := 17) (v := .pointer (some ⟨r, 0, none⟩)) rfl rfl (by kernel_rfl) (by kernel_rfl) (by kernel_rfl) (by kernel_rfl) (fun wx hS => by go_simp) HS ?_
    refine held_take (i := 2) (d := 18) (v := .pointer (some ⟨X, 4, none⟩)) rfl rfl (by kernel_rfl) (by kernel_rfl) (by kernel_rfl) (by kernel_rfl) (fun wx hS => by go_simp) HS ?_
    refine held_take (i := 3) (d := 19) (v := .slice sq sn sc) rfl rfl (by kernel_rfl) (by kernel_rfl) (by kernel_rfl) (by kernel_rfl) (fun wx hS => by have g0 := hS.out.cell (j := 0) (by simp); have g1 := hS.out.cell (j := 1) (by simp); have g2 := hS.out.cell (j := 2) (by simp); have g3 := hS.out.cell (j := 3) (by simp); have g4 := hS.out.cell (j := 4) (by simp); simp at g0 g1 g2 g3 g4; go_simp) HS ?_
    refine held_take (i := 4) (d := 20) (v := .int .i64 (sn : Int)) rfl rfl (by kernel_rfl) (by kernel_rfl) (by kernel_rfl) (by kernel_rfl) (fun wx hS => by go_simp) HS ?_
    refine held_take (i := 5) (d := 21) (v := .int .i64 ((sn : Int) - 1)) rfl rfl (by kernel_rfl) (by kernel_rfl) (by kernel_rfl) (by kernel_rfl) (fun wx hS => by have hw1 : IntKind.i64.wrap ((sn : Int) - 1) = (sn : Int) - 1 := IntWalk.i64_in _ (by omega); go_simp) HS ?_
    refine wpAnyH_ready (rs := [6]) (by kernel_rfl) (by simp) (AllReadyH.cons rfl (fun K hK => ?_) AllReadyH.nil)
    go_simp
    refine (off_len sn hsn5 _ _ _ _ _ HW4.out.rdr).mono ?_
    rintro e w5 ⟨⟨t, ht, rfl⟩, hw⟩
    have HJ := Lib.hid (JobAt.wentR HJ.out HPB.out HSB.out HL2.out hw)
    have HRR := Lib.hid (HRR.out.went hw HNR.out)
    have HW5 := Lib.hid (HW4.out.trans hw)
    have HXN := Lib.hid (HS.out.went hw HNX.out.1)
    refine hK.out _ _ HXN (fun HS => ?_)
    clear hK K hw
    refine wpAnyH_ready (rs := [7]) (by kernel_rfl) (by simp) (AllReadyH.cons rfl (fun K hK => ?_) AllReadyH.nil)
    have r0 := HRR.out.cell (j := 0) (by simp)
    have r1 := HRR.out.cell (j := 1) (by simp)
    have r2 := HRR.out.cell (j := 2) (by simp)
    have r3 := HRR.out.cell (j := 3) (by simp)
    have r4 := HRR.out.cell (j := 4) (by simp)
    simp at r0 r1 r2 r3 r4
    have fr0 := HRR.out.free 0
    have fr1 := HRR.out.free 1
    have fr2 := HRR.out.free 2
    have fr3 := HRR.out.free 3
    have fr4 := HRR.out.free 4
    go_simp
    clear r0 fr0 r1 fr1 r2 fr2 r3 fr3 r4 fr4
    have HRR5 := Lib.hid (((((HRR.out.set 0 (.slice pq pn pc)).set 1 (.bool e1)).set 2 (.int .i64 o1)).set 3 (.int .i64 n1)).set 4 (.slice sq sn sc))
    simp at HRR5
    have HNP := Lib.hid (show ∀ b off, pq = some ⟨b, off, none⟩ → b ≠ R from fun b off hq => by have h1 := HPB.out b off hq; have h2 := HRr.out; have h3 := HL2.out; omega)
    have HNS := Lib.hid (show ∀ b off, sq = some ⟨b, off, none⟩ → b ≠ R from fun b off hq => by have h1 := HSB.out b off hq; have h2 := HRr.out; have h3 := HL2.out; omega)
    have HJ5 := Lib.hid (((((HJ.out.put HNP.out HNS.out 0 (.slice pq pn pc)).put HNP.out HNS.out 1 (.bool e1)).put HNP.out HNS.out 2 (.int .i64 o1)).put HNP.out HNS.out 3 (.int .i64 n1)).put HNP.out HNS.out 4 (.slice sq sn sc))
    have HB5 := Lib.hid ((((((show Below w.heap.size w _ from HW5.out.under ((HBB.out.trans (HB1.out.mono HBB.out.size))) (by rw [HRE.out]; have := HRr.out; omega) ((HBB.out.trans (HB1.out.mono HBB.out.size))).size).setCell (p := ⟨R, 0, none⟩) hwR (.slice pq pn pc)).setCell (p := ⟨R, 1, none⟩) hwR (.bool e1)).setCell (p := ⟨R, 2, none⟩) hwR (.int .i64 o1)).setCell (p := ⟨R, 3, none⟩) hwR (.int .i64 n1)).setCell (p := ⟨R, 4, none⟩) hwR (.slice sq sn sc))
    have HXN := Lib.hid (((((HS.out.other HNX.out.2 0 (.slice pq pn pc)).other HNX.out.2 1 (.bool e1)).other HNX.out.2 2 (.int .i64 o1)).other HNX.out.2 3 (.int .i64 n1)).other HNX.out.2 4 (.slice sq sn sc))
    refine hK.out _ _ HXN (fun HS => ?_)
    clear hK K
    refine held_take (i := 8) (d := 3) (v := .int .i64 t) rfl rfl (by kernel_rfl) (by kernel_rfl) (by kernel_rfl) (by kernel_rfl) (fun wx hS => by go_simp) HS ?_
    refine wpAnyH_done (by kernel_rfl) (NoPanic.normal ?_) _
    go_wp2
    first | (have hbF := HRR6.out; unfold Row at hbF; exact bodyPost_ret (v := .tuple #[.agg #[.slice pq pn pc, .bool e1, .int .i64 o1, .int .i64 n1, .slice sq sn sc], .int .i64 t]) (by simp [results, Tryz.results5, go_sem, World.cell?, hbF]) rfl ⟨pq, pn, pc, W, sq, sn, sc, M, e1, o1, n1, t, rfl, HJ6.out, hsn5, HZ.out, HI.out, HB6.out⟩) | (have hbF := HRR5.out; unfold Row at hbF; exact bodyPost_ret (v := .tuple #[.agg #[.slice pq pn pc, .bool e1, .int .i64 o1, .int .i64 n1, .slice sq sn sc], .int .i64 t]) (by simp [results, Tryz.results5, go_sem, World.cell?, hbF]) rfl ⟨pq, pn, pc, W, sq, sn, sc, M, e1, o1, n1, t, rfl, HJ5.out, hsn5, HZ.out, HI.out, HB5.out⟩)
end Go.Proofs.YtjofbeokkainlaaGreatDoor
