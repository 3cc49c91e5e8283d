
/- Drawn stores, prefixes, keys and numbers for the law on List. Only new blocks are made. -/
import Derived.Test.YtblpebdjbenphaaDrawPu
import Derived.Test.YtblpebdjbenphaaMg5
namespace Go.Proofs.Ytblpebdjbenphaa
open Go.ChangeShapes Go.WideShapes Go.ChangeAt Go.RowKit
set_option linter.unusedVariables false
set_option maxRecDepth 100000

def DrewLs (w : World) (e : Ending) (w' : World) : Prop :=
  ∃ (q1 : Option Addr) (n1 c1 : Nat) (q2 : Option Addr) (n2 c2 : Nat) (l : Objs) (m : Gones) (p a : ByteArray) (n : Int), e = .returned (.tuple #[.agg #[.slice q1 n1 c1, .slice q2 n2 c2], .string p, .string a, .int .i64 n]) ∧ StoD w' q1 n1 c1 q2 n2 c2 l m ∧ p.size ≤ 5 ∧ Below w.heap.size w w'
/-- The reader and the result's place. -/
structure DL (w : World) (r : Nat) (a : Option Addr) (len cap : Nat) (wr : World) : Prop where
  below : Below w.heap.size w wr
  rdr : Rdr wr r a len cap
  rlo : w.heap.size < r
  res : Row wr w.heap.size 27 #[.slice none 0 0, .slice none 0 0]
theorem DL.step {w : World} {r : Nat} {a : Option Addr} {len cap : Nat} {wr w2 : World} (h : DL w r a len cap wr) (hw : Went wr r a len cap w2) : DL w r a len cap w2 :=
  ⟨hw.under h.below (Nat.le_of_lt h.rlo) h.below.size, hw.rdr, h.rlo, h.res.grown hw.grown (by intro e; injection e with e; have := h.rlo; omega)⟩
theorem DL.al {w : World} {r : Nat} {a : Option Addr} {len cap : Nat} {wr : World} (h : DL w r a len cap wr) (o : Obj) : DL w r a len cap (wr.alloc o) :=
  ⟨below_alloc h.below o, h.rdr.alloc o, h.rlo, h.res.alloc o⟩
/-- The drawn store's rows. -/
structure DO (r : Nat) (q1 : Option Addr) (n1 c1 : Nat) (q2 : Option Addr) (n2 c2 : Nat) (l : Objs) (m : Gones) (wr : World) : Prop where
  o : wr.ownsRow (r + 1) 31 3 (.slice q1 n1 c1) n1 (cellsObj l)
  g : wr.ownsRow (r + 1) 45 2 (.slice q2 n2 c2) n2 (cellsGone m)
  len1 : l.length = n1
  len2 : m.length = n2
  few1 : n1 ≤ 2000
  few2 : n2 ≤ 2000
  short : ShortS l m
theorem DO.step {r : Nat} {a : Option Addr} {len cap : Nat} {q1 : Option Addr} {n1 c1 : Nat} {q2 : Option Addr} {n2 c2 : Nat} {l : Objs} {m : Gones} {wr w2 : World} (h : DO r q1 n1 c1 q2 n2 c2 l m wr) (hw : Went wr r a len cap w2) : DO r q1 n1 c1 q2 n2 c2 l m w2 :=
  ⟨own_went h.o hw (by omega), own_went h.g hw (by omega), h.len1, h.len2, h.few1, h.few2, h.short⟩
theorem DO.al {r : Nat} {q1 : Option Addr} {n1 c1 : Nat} {q2 : Option Addr} {n2 c2 : Nat} {l : Objs} {m : Gones} {wr : World} (h : DO r q1 n1 c1 q2 n2 c2 l m wr) (o : Obj) : DO r q1 n1 c1 q2 n2 c2 l m (wr.alloc o) :=
  ⟨own_below h.o (below_alloc (Below.refl _ _) o), own_below h.g (below_alloc (Below.refl _ _) o), h.len1, h.len2, h.few1, h.few2, h.short⟩
/-- The result lies in its place. -/
structure FinL (w : World) (q1 : Option Addr) (n1 c1 : Nat) (q2 : Option Addr) (n2 c2 : Nat) (l : Objs) (m : Gones) (wr : World) : Prop where
  b : Below w.heap.size w wr
  s : StoD wr q1 n1 c1 q2 n2 c2 l m
  r : Row wr w.heap.size 27 #[.slice q1 n1 c1, .slice q2 n2 c2]
theorem FinL.al {w : World} {q1 : Option Addr} {n1 c1 : Nat} {q2 : Option Addr} {n2 c2 : Nat} {l : Objs} {m : Gones} {wr : World} (h : FinL w q1 n1 c1 q2 n2 c2 l m wr) (o : Obj) : FinL w q1 n1 c1 q2 n2 c2 l m (wr.alloc o) :=
  ⟨below_alloc h.b o, h.s.keep (below_alloc (Below.refl _ _) o), h.r.alloc o⟩
theorem DL.fin {w : World} {r : Nat} {a : Option Addr} {len cap : Nat} {q1 : Option Addr} {n1 c1 : Nat} {q2 : Option Addr} {n2 c2 : Nat} {l : Objs} {m : Gones} {wr : World} (h : DL w r a len cap wr) (k : DO r q1 n1 c1 q2 n2 c2 l m wr) :
    FinL w q1 n1 c1 q2 n2 c2 l m ((wr.setCell ⟨w.heap.size, 0, none⟩ (.slice q1 n1 c1)).setCell ⟨w.heap.size, 1, none⟩ (.slice q2 n2 c2)) := by
  have hl := h.rlo
  have e1 : ∀ g, (Value.slice q1 n1 c1).ownBlock = some g → w.heap.size ≠ g := fun g hg => by have := (k.o.lt g hg).1; omega
  have e2 : ∀ g, (Value.slice q2 n2 c2).ownBlock = some g → w.heap.size ≠ g := fun g hg => by have := (k.g.lt g hg).1; omega
  refine ⟨(h.below.setCell (Nat.le_refl _) _).setCell (Nat.le_refl _) _, stod_of (own_put (own_put k.o e1 0 _) e1 1 _) (own_put (own_put k.g e2 0 _) e2 1 _) k.len1 k.len2 k.few1 k.few2 k.short, ?_⟩
  have := (h.res.set 0 (.slice q1 n1 c1)).set 1 (.slice q2 n2 c2)
  simpa using this
theorem tab5 {w : World} {B m : Nat} {cs : Array Value} {t : TypeId} (h : Row w B t cs) (hs : allStr m cs = true) (x : Int) (h1 : 0 ≤ x) (h2 : x < cs.size) : ∃ s : ByteArray, s.size ≤ m ∧ cs[x.toNat]? = some (.string s) := by
  obtain ⟨s, hs1, hc⟩ := tab_cell h hs x h1 h2
  refine ⟨s, hs1, ?_⟩
  unfold Row at h
  simpa [World.cell?, h] using hc
theorem tabAt {w : World} {B : Nat} {cs : Array Value} {t : TypeId} {x : Nat} {s : ByteArray} (h : Row w B t cs) (hc : cs[x]? = some (.string s)) : w.cell? ⟨B, x, none⟩ = some (.string s) := by
  unfold Row at h
  simp [World.cell?, h, hc]

set_option maxHeartbeats 8000000 in
theorem drawlist_any (w : World) (a : Option Addr) (len cap : Nat) (h : Src w a len) :
    Calls Try.prog 13 #[.slice a len cap] w (DrewLs w) := by
  have H := Lib.hid (h.below ((Below.refl w.heap.size w).alloc (Nat.le_refl _) (.cells #[.slice none 0 0, .slice none 0 0] 27)))
  clear h
  go_enter Try.func13, Try.ntmps13
  go_wp2_with fail
  refine (open_any _ _ _ _ H.out).mono ?_
  rintro e w1 ⟨rfl, hb, hr⟩
  have e0 : (w.alloc (.cells #[.slice none 0 0, .slice none 0 0] 27)).heap.size = w.heap.size + 1 := by simp
  rw [e0] at hr ⊢
  have HD := Lib.hid (show DL w (w.heap.size + 1) a len cap w1 from ⟨((Below.refl w.heap.size w).alloc (Nat.le_refl _) _).trans (hb.mono (by simp)), hr, by omega, (Row.new w _ _).keep hb⟩)
  clear hb hr e0
  go_wp2_with fail
  refine wp_region_noPanic ?_
  refine wp_region_held_drew (S := (fun _ => True)) (by kernel_rfl) trivial (fun HS => ?_)
  have HD := Lib.hid (HD.out.step ((Went.refl HD.out.rdr).drewN 1))
  obtain ⟨v0, hv0⟩ : ∃ x, w1.drew = x := ⟨_, rfl⟩
  have HD : Hid (DL w (w.heap.size + 1) a len cap v0) := (by rw [← hv0]; exact HD)
  rw [hv0]
  clear hv0
  refine held_take (i := 0) (d := 9) (v := .pointer (some ⟨w.heap.size + 1, 0, none⟩)) rfl rfl (by kernel_rfl) (by kernel_rfl) (by kernel_rfl) (by kernel_rfl) (fun wx hS => by go_simp) HS ?_
  refine held_take (i := 3) (d := 12) (v := .pointer (some ⟨w.heap.size + 1, 0, none⟩)) rfl rfl (by kernel_rfl) (by kernel_rfl) (by kernel_rfl) (by kernel_rfl) (fun wx hS => by go_simp) HS ?_
  refine held_take (i := 8) (d := 17) (v := .pointer (some ⟨w.heap.size + 1, 0, none⟩)) rfl rfl (by kernel_rfl) (by kernel_rfl) (by kernel_rfl) (by kernel_rfl) (fun wx hS => by go_simp) HS ?_
  refine held_take (i := 12) (d := 21) (v := .pointer (some ⟨w.heap.size + 1, 0, none⟩)) rfl rfl (by kernel_rfl) (by kernel_rfl) (by kernel_rfl) (by kernel_rfl) (fun wx hS => by go_simp) HS ?_
  refine wpAnyH_ready (rs := [1, 2, 7]) (by kernel_rfl) (by simp) (AllReadyH.cons rfl (fun K hK => ?_) (AllReadyH.cons rfl (fun K hK => ?_) (AllReadyH.cons rfl (fun K hK => ?_) AllReadyH.nil)))
  · skip
    go_simp
    refine (drawobjects_any _ _ _ _ _ HD.out.rdr).mono ?_
    rintro e v1 ⟨q1, n1, c1, q2, n2, c2, l, m, rfl, hw, hf1, hf2, hl, hm, hs, ho, hg⟩
    have HO := Lib.hid (show DO (w.heap.size + 1) q1 n1 c1 q2 n2 c2 l m v1 from ⟨own_low ho HD.out.rdr.lt, own_low hg HD.out.rdr.lt, hl, hm, hf1, hf2, hs⟩)
    clear ho hg hl hm hf1 hf2 hs
    have HD := Lib.hid (HD.out.step hw)
    clear hw
    refine hK.out _ _ trivial (fun HS => ?_)
    clear hK K
    refine wpAnyH_ready (rs := [2, 4, 7]) (by kernel_rfl) (by simp) (AllReadyH.cons rfl (fun K hK => ?_) (AllReadyH.cons rfl (fun K hK => ?_) (AllReadyH.cons rfl (fun K hK => ?_) AllReadyH.nil)))
    · skip
      go_simp
      have HT1 := Lib.hid (Row.new v1 9 #[.string ⟨#[]⟩, .string ⟨#[97]⟩, .string ⟨#[97, 47]⟩, .string ⟨#[98, 47]⟩, .string ⟨#[122, 47]⟩])
      have HTL1 := Lib.hid (show w.heap.size + 1 < v1.heap.size from HD.out.rdr.lt)
      have HD := Lib.hid (HD.out.al (.cells #[.string ⟨#[]⟩, .string ⟨#[97]⟩, .string ⟨#[97, 47]⟩, .string ⟨#[98, 47]⟩, .string ⟨#[122, 47]⟩] 9))
      have HO := Lib.hid (HO.out.al (.cells #[.string ⟨#[]⟩, .string ⟨#[97]⟩, .string ⟨#[97, 47]⟩, .string ⟨#[98, 47]⟩, .string ⟨#[122, 47]⟩] 9))
      obtain ⟨b1, hb⟩ : ∃ x, v1.heap.size = x := ⟨_, rfl⟩
      obtain ⟨v2, hv⟩ : ∃ x, v1.alloc (.cells #[.string ⟨#[]⟩, .string ⟨#[97]⟩, .string ⟨#[97, 47]⟩, .string ⟨#[98, 47]⟩, .string ⟨#[122, 47]⟩] 9) = x := ⟨_, rfl⟩
      rw [hb] at HT1 HTL1 ⊢
      rw [hv] at HD HO HT1 ⊢
      clear hb hv
      refine hK.out _ _ trivial (fun HS => ?_)
      clear hK K
      refine wpAnyH_ready (rs := [4, 7]) (by kernel_rfl) (by simp) (AllReadyH.cons rfl (fun K hK => ?_) (AllReadyH.cons rfl (fun K hK => ?_) AllReadyH.nil))
      · skip
        go_simp
        refine (below_any _ _ _ _ _ _ HD.out.rdr (by decide) (by decide)).mono ?_
        rintro e v3 ⟨⟨x, hx1, hx2, rfl⟩, hw⟩
        obtain ⟨x1, rfl⟩ : ∃ k : Nat, x = k := ⟨x.toNat, by omega⟩
        have hqx10 : (0 : Int) ≤ (x1 : Int) := by omega
        have hqx11 : (x1 : Int) < 5 := by omega
        clear hx1 hx2
        have HD := Lib.hid (HD.out.step hw)
        have HO := Lib.hid (HO.out.step hw)
        have HT1 := Lib.hid (HT1.out.grown hw.grown (by intro e; injection e with e; have := HTL1.out; omega))
        clear hw
        refine hK.out _ _ trivial (fun HS => ?_)
        clear hK K
        refine held_take (i := 5) (d := 14) (v := .pointer (some ⟨b1, x1, none⟩)) rfl rfl (by kernel_rfl) (by kernel_rfl) (by kernel_rfl) (by kernel_rfl) (fun wx hS => by go_simp) HS ?_
        obtain ⟨p1, hp11, hp12⟩ := tab5 (m := 5) HT1.out (by decide) (x1 : Int) hqx10 (by show (x1 : Int) < 5; exact hqx11)
        rw [Int.toNat_natCast] at hp12
        have HZp1 := Lib.hid hp11
        have HC1 := Lib.hid hp12
        clear hp11 hp12
        refine held_mono (S' := (fun w' => (True) ∧ w'.cell? ⟨b1, x1, none⟩ = some (.string p1))) (fun w' h => h.1) ?_
        have HS : (fun w' => (True) ∧ w'.cell? ⟨b1, x1, none⟩ = some (.string p1)) v3 := ⟨HS, tabAt HT1.out HC1.out⟩
        refine held_take (i := 6) (d := 15) (v := .string p1) rfl rfl (by kernel_rfl) (by kernel_rfl) (by kernel_rfl) (by kernel_rfl) (fun wx hS => by have e0 := hS.2; go_simp) HS ?_
        refine wpAnyH_ready (rs := [7, 9]) (by kernel_rfl) (by simp) (AllReadyH.cons rfl (fun K hK => ?_) (AllReadyH.cons rfl (fun K hK => ?_) AllReadyH.nil))
        · skip
          go_simp
          have HT2 := Lib.hid (Row.new v3 9 #[.string ⟨#[]⟩, .string ⟨#[97]⟩, .string ⟨#[97, 47, 49]⟩, .string ⟨#[98]⟩, .string ⟨#[122, 122]⟩])
          have HTL2 := Lib.hid (show w.heap.size + 1 < v3.heap.size from HD.out.rdr.lt)
          have HD := Lib.hid (HD.out.al (.cells #[.string ⟨#[]⟩, .string ⟨#[97]⟩, .string ⟨#[97, 47, 49]⟩, .string ⟨#[98]⟩, .string ⟨#[122, 122]⟩] 9))
          have HO := Lib.hid (HO.out.al (.cells #[.string ⟨#[]⟩, .string ⟨#[97]⟩, .string ⟨#[97, 47, 49]⟩, .string ⟨#[98]⟩, .string ⟨#[122, 122]⟩] 9))
          have HT1 := Lib.hid (HT1.out.alloc (.cells #[.string ⟨#[]⟩, .string ⟨#[97]⟩, .string ⟨#[97, 47, 49]⟩, .string ⟨#[98]⟩, .string ⟨#[122, 122]⟩] 9))
          obtain ⟨b2, hb⟩ : ∃ x, v3.heap.size = x := ⟨_, rfl⟩
          obtain ⟨v4, hv⟩ : ∃ x, v3.alloc (.cells #[.string ⟨#[]⟩, .string ⟨#[97]⟩, .string ⟨#[97, 47, 49]⟩, .string ⟨#[98]⟩, .string ⟨#[122, 122]⟩] 9) = x := ⟨_, rfl⟩
          rw [hb] at HT2 HTL2 ⊢
          rw [hv] at HD HO HT1 HT2 ⊢
          clear hb hv
          refine hK.out _ _ ⟨trivial, tabAt HT1.out HC1.out⟩ (fun HS => ?_)
          clear hK K
          refine wpAnyH_ready (rs := [9]) (by kernel_rfl) (by simp) (AllReadyH.cons rfl (fun K hK => ?_) AllReadyH.nil)
          go_simp
          refine (below_any _ _ _ _ _ _ HD.out.rdr (by decide) (by decide)).mono ?_
          rintro e v5 ⟨⟨x, hx1, hx2, rfl⟩, hw⟩
          obtain ⟨x2, rfl⟩ : ∃ k : Nat, x = k := ⟨x.toNat, by omega⟩
          have hqx20 : (0 : Int) ≤ (x2 : Int) := by omega
          have hqx21 : (x2 : Int) < 5 := by omega
          clear hx1 hx2
          have HD := Lib.hid (HD.out.step hw)
          have HO := Lib.hid (HO.out.step hw)
          have HT1 := Lib.hid (HT1.out.grown hw.grown (by intro e; injection e with e; have := HTL1.out; omega))
          have HT2 := Lib.hid (HT2.out.grown hw.grown (by intro e; injection e with e; have := HTL2.out; omega))
          clear hw
          refine hK.out _ _ ⟨trivial, tabAt HT1.out HC1.out⟩ (fun HS => ?_)
          clear hK K
          refine held_take (i := 10) (d := 19) (v := .pointer (some ⟨b2, x2, none⟩)) rfl rfl (by kernel_rfl) (by kernel_rfl) (by kernel_rfl) (by kernel_rfl) (fun wx hS => by go_simp) HS ?_
          obtain ⟨p2, hp21, hp22⟩ := tab5 (m := 5) HT2.out (by decide) (x2 : Int) hqx20 (by show (x2 : Int) < 5; exact hqx21)
          rw [Int.toNat_natCast] at hp22
          have HZp2 := Lib.hid hp21
          have HC2 := Lib.hid hp22
          clear hp21 hp22
          refine held_mono (S' := (fun w' => ((True) ∧ w'.cell? ⟨b1, x1, none⟩ = some (.string p1)) ∧ w'.cell? ⟨b2, x2, none⟩ = some (.string p2))) (fun w' h => h.1) ?_
          have HS : (fun w' => ((True) ∧ w'.cell? ⟨b1, x1, none⟩ = some (.string p1)) ∧ w'.cell? ⟨b2, x2, none⟩ = some (.string p2)) v5 := ⟨HS, tabAt HT2.out HC2.out⟩
          refine held_take (i := 11) (d := 20) (v := .string p2) rfl rfl (by kernel_rfl) (by kernel_rfl) (by kernel_rfl) (by kernel_rfl) (fun wx hS => by have e0 := hS.2; go_simp) HS ?_
          refine wpAnyH_ready (rs := [13]) (by kernel_rfl) (by simp) (AllReadyH.cons rfl (fun K hK => ?_) AllReadyH.nil)
          go_simp
          refine (off_any _ _ _ _ _ _ _ HD.out.rdr (by decide) (by decide) (by decide)).mono ?_
          rintro e v6 ⟨⟨z, hz, rfl⟩, hw⟩
          clear hz
          have HD := Lib.hid (HD.out.step hw)
          have HO := Lib.hid (HO.out.step hw)
          have HT1 := Lib.hid (HT1.out.grown hw.grown (by intro e; injection e with e; have := HTL1.out; omega))
          have HT2 := Lib.hid (HT2.out.grown hw.grown (by intro e; injection e with e; have := HTL2.out; omega))
          clear hw
          refine hK.out _ _ ⟨⟨trivial, tabAt HT1.out HC1.out⟩, tabAt HT2.out HC2.out⟩ (fun HS => ?_)
          clear hK K
          refine wpAnyH_ready (rs := [14]) (by kernel_rfl) (by simp) (AllReadyH.cons rfl (fun K hK => ?_) AllReadyH.nil)
          have r0 := HD.out.res.cell (j := 0) (by simp)
          have r1 := HD.out.res.cell (j := 1) (by simp)
          have f0 := HD.out.res.free 0
          have f1 := HD.out.res.free 1
          simp at r0 r1
          go_simp
          have HF := Lib.hid (HD.out.fin HO.out)
          have HT1 := Lib.hid ((HT1.out.other (r := w.heap.size) (by have := HTL1.out; omega) 0 (.slice q1 n1 c1)).other (r := w.heap.size) (by have := HTL1.out; omega) 1 (.slice q2 n2 c2))
          have HT2 := Lib.hid ((HT2.out.other (r := w.heap.size) (by have := HTL2.out; omega) 0 (.slice q1 n1 c1)).other (r := w.heap.size) (by have := HTL2.out; omega) 1 (.slice q2 n2 c2))
          obtain ⟨v7, hv⟩ : ∃ x, (v6.setCell ⟨w.heap.size, 0, none⟩ (.slice q1 n1 c1)).setCell ⟨w.heap.size, 1, none⟩ (.slice q2 n2 c2) = x := ⟨_, rfl⟩
          rw [hv] at HF HT1 HT2 ⊢
          clear hv
          refine hK.out _ _ ⟨⟨trivial, tabAt HT1.out HC1.out⟩, tabAt HT2.out HC2.out⟩ (fun HS => ?_)
          clear hK K
          clear r0 r1 f0 f1
          refine held_take (i := 15) (d := 3) (v := .string p1) rfl rfl (by kernel_rfl) (by kernel_rfl) (by kernel_rfl) (by kernel_rfl) (fun wx hS => by go_simp) HS ?_
          refine held_take (i := 16) (d := 4) (v := .string p2) rfl rfl (by kernel_rfl) (by kernel_rfl) (by kernel_rfl) (by kernel_rfl) (fun wx hS => by go_simp) HS ?_
          refine held_take (i := 17) (d := 5) (v := .int .i64 z) rfl rfl (by kernel_rfl) (by kernel_rfl) (by kernel_rfl) (by kernel_rfl) (fun wx hS => by go_simp) HS ?_
          refine wpAnyH_done (by kernel_rfl) (NoPanic.normal ?_) _
          go_wp2
          have hbF := HF.out.r
          unfold Row at hbF
          exact bodyPost_ret (v := .tuple #[.agg #[.slice q1 n1 c1, .slice q2 n2 c2], .string p1, .string p2, .int .i64 z]) (by simp [results, Try.results13, go_sem, World.cell?, hbF]) rfl ⟨q1, n1, c1, q2, n2, c2, l, m, p1, p2, z, rfl, HF.out.s, HZp1.out, HF.out.b⟩
        · skip
          go_simp
          refine (below_any _ _ _ _ _ _ HD.out.rdr (by decide) (by decide)).mono ?_
          rintro e v4 ⟨⟨x, hx1, hx2, rfl⟩, hw⟩
          obtain ⟨x2, rfl⟩ : ∃ k : Nat, x = k := ⟨x.toNat, by omega⟩
          have hqx20 : (0 : Int) ≤ (x2 : Int) := by omega
          have hqx21 : (x2 : Int) < 5 := by omega
          clear hx1 hx2
          have HD := Lib.hid (HD.out.step hw)
          have HO := Lib.hid (HO.out.step hw)
          have HT1 := Lib.hid (HT1.out.grown hw.grown (by intro e; injection e with e; have := HTL1.out; omega))
          clear hw
          refine hK.out _ _ ⟨trivial, tabAt HT1.out HC1.out⟩ (fun HS => ?_)
          clear hK K
          refine wpAnyH_ready (rs := [7, 13]) (by kernel_rfl) (by simp) (AllReadyH.cons rfl (fun K hK => ?_) (AllReadyH.cons rfl (fun K hK => ?_) AllReadyH.nil))
          · skip
            go_simp
            have HT2 := Lib.hid (Row.new v4 9 #[.string ⟨#[]⟩, .string ⟨#[97]⟩, .string ⟨#[97, 47, 49]⟩, .string ⟨#[98]⟩, .string ⟨#[122, 122]⟩])
            have HTL2 := Lib.hid (show w.heap.size + 1 < v4.heap.size from HD.out.rdr.lt)
            have HD := Lib.hid (HD.out.al (.cells #[.string ⟨#[]⟩, .string ⟨#[97]⟩, .string ⟨#[97, 47, 49]⟩, .string ⟨#[98]⟩, .string ⟨#[122, 122]⟩] 9))
            have HO := Lib.hid (HO.out.al (.cells #[.string ⟨#[]⟩, .string ⟨#[97]⟩, .string ⟨#[97, 47, 49]⟩, .string ⟨#[98]⟩, .string ⟨#[122, 122]⟩] 9))
            have HT1 := Lib.hid (HT1.out.alloc (.cells #[.string ⟨#[]⟩, .string ⟨#[97]⟩, .string ⟨#[97, 47, 49]⟩, .string ⟨#[98]⟩, .string ⟨#[122, 122]⟩] 9))
            obtain ⟨b2, hb⟩ : ∃ x, v4.heap.size = x := ⟨_, rfl⟩
            obtain ⟨v5, hv⟩ : ∃ x, v4.alloc (.cells #[.string ⟨#[]⟩, .string ⟨#[97]⟩, .string ⟨#[97, 47, 49]⟩, .string ⟨#[98]⟩, .string ⟨#[122, 122]⟩] 9) = x := ⟨_, rfl⟩
            rw [hb] at HT2 HTL2 ⊢
            rw [hv] at HD HO HT1 HT2 ⊢
            clear hb hv
            refine hK.out _ _ ⟨trivial, tabAt HT1.out HC1.out⟩ (fun HS => ?_)
            clear hK K
            refine held_take (i := 10) (d := 19) (v := .pointer (some ⟨b2, x2, none⟩)) rfl rfl (by kernel_rfl) (by kernel_rfl) (by kernel_rfl) (by kernel_rfl) (fun wx hS => by go_simp) HS ?_
            obtain ⟨p2, hp21, hp22⟩ := tab5 (m := 5) HT2.out (by decide) (x2 : Int) hqx20 (by show (x2 : Int) < 5; exact hqx21)
            rw [Int.toNat_natCast] at hp22
            have HZp2 := Lib.hid hp21
            have HC2 := Lib.hid hp22
            clear hp21 hp22
            refine held_mono (S' := (fun w' => ((True) ∧ w'.cell? ⟨b1, x1, none⟩ = some (.string p1)) ∧ w'.cell? ⟨b2, x2, none⟩ = some (.string p2))) (fun w' h => h.1) ?_
            have HS : (fun w' => ((True) ∧ w'.cell? ⟨b1, x1, none⟩ = some (.string p1)) ∧ w'.cell? ⟨b2, x2, none⟩ = some (.string p2)) v5 := ⟨HS, tabAt HT2.out HC2.out⟩
            refine held_take (i := 11) (d := 20) (v := .string p2) rfl rfl (by kernel_rfl) (by kernel_rfl) (by kernel_rfl) (by kernel_rfl) (fun wx hS => by have e0 := hS.2; go_simp) HS ?_
            refine wpAnyH_ready (rs := [13]) (by kernel_rfl) (by simp) (AllReadyH.cons rfl (fun K hK => ?_) AllReadyH.nil)
            go_simp
            refine (off_any _ _ _ _ _ _ _ HD.out.rdr (by decide) (by decide) (by decide)).mono ?_
            rintro e v6 ⟨⟨z, hz, rfl⟩, hw⟩
            clear hz
            have HD := Lib.hid (HD.out.step hw)
            have HO := Lib.hid (HO.out.step hw)
            have HT1 := Lib.hid (HT1.out.grown hw.grown (by intro e; injection e with e; have := HTL1.out; omega))
            have HT2 := Lib.hid (HT2.out.grown hw.grown (by intro e; injection e with e; have := HTL2.out; omega))
            clear hw
            refine hK.out _ _ ⟨⟨trivial, tabAt HT1.out HC1.out⟩, tabAt HT2.out HC2.out⟩ (fun HS => ?_)
            clear hK K
            refine wpAnyH_ready (rs := [14]) (by kernel_rfl) (by simp) (AllReadyH.cons rfl (fun K hK => ?_) AllReadyH.nil)
            have r0 := HD.out.res.cell (j := 0) (by simp)
            have r1 := HD.out.res.cell (j := 1) (by simp)
            have f0 := HD.out.res.free 0
            have f1 := HD.out.res.free 1
            simp at r0 r1
            go_simp
            have HF := Lib.hid (HD.out.fin HO.out)
            have HT1 := Lib.hid ((HT1.out.other (r := w.heap.size) (by have := HTL1.out; omega) 0 (.slice q1 n1 c1)).other (r := w.heap.size) (by have := HTL1.out; omega) 1 (.slice q2 n2 c2))
            have HT2 := Lib.hid ((HT2.out.other (r := w.heap.size) (by have := HTL2.out; omega) 0 (.slice q1 n1 c1)).other (r := w.heap.size) (by have := HTL2.out; omega) 1 (.slice q2 n2 c2))
            obtain ⟨v7, hv⟩ : ∃ x, (v6.setCell ⟨w.heap.size, 0, none⟩ (.slice q1 n1 c1)).setCell ⟨w.heap.size, 1, none⟩ (.slice q2 n2 c2) = x := ⟨_, rfl⟩
            rw [hv] at HF HT1 HT2 ⊢
            clear hv
            refine hK.out _ _ ⟨⟨trivial, tabAt HT1.out HC1.out⟩, tabAt HT2.out HC2.out⟩ (fun HS => ?_)
            clear hK K
            clear r0 r1 f0 f1
            refine held_take (i := 15) (d := 3) (v := .string p1) rfl rfl (by kernel_rfl) (by kernel_rfl) (by kernel_rfl) (by kernel_rfl) (fun wx hS => by go_simp) HS ?_
            refine held_take (i := 16) (d := 4) (v := .string p2) rfl rfl (by kernel_rfl) (by kernel_rfl) (by kernel_rfl) (by kernel_rfl) (fun wx hS => by go_simp) HS ?_
            refine held_take (i := 17) (d := 5) (v := .int .i64 z) rfl rfl (by kernel_rfl) (by kernel_rfl) (by kernel_rfl) (by kernel_rfl) (fun wx hS => by go_simp) HS ?_
            refine wpAnyH_done (by kernel_rfl) (NoPanic.normal ?_) _
            go_wp2
            have hbF := HF.out.r
            unfold Row at hbF
            exact bodyPost_ret (v := .tuple #[.agg #[.slice q1 n1 c1, .slice q2 n2 c2], .string p1, .string p2, .int .i64 z]) (by simp [results, Try.results13, go_sem, World.cell?, hbF]) rfl ⟨q1, n1, c1, q2, n2, c2, l, m, p1, p2, z, rfl, HF.out.s, HZp1.out, HF.out.b⟩
          · skip
            go_simp
            refine (off_any _ _ _ _ _ _ _ HD.out.rdr (by decide) (by decide) (by decide)).mono ?_
            rintro e v5 ⟨⟨z, hz, rfl⟩, hw⟩
            clear hz
            have HD := Lib.hid (HD.out.step hw)
            have HO := Lib.hid (HO.out.step hw)
            have HT1 := Lib.hid (HT1.out.grown hw.grown (by intro e; injection e with e; have := HTL1.out; omega))
            clear hw
            refine hK.out _ _ ⟨trivial, tabAt HT1.out HC1.out⟩ (fun HS => ?_)
            clear hK K
            refine wpAnyH_ready (rs := [7, 14]) (by kernel_rfl) (by simp) (AllReadyH.cons rfl (fun K hK => ?_) (AllReadyH.cons rfl (fun K hK => ?_) AllReadyH.nil))
            · skip
              go_simp
              have HT2 := Lib.hid (Row.new v5 9 #[.string ⟨#[]⟩, .string ⟨#[97]⟩, .string ⟨#[97, 47, 49]⟩, .string ⟨#[98]⟩, .string ⟨#[122, 122]⟩])
              have HTL2 := Lib.hid (show w.heap.size + 1 < v5.heap.size from HD.out.rdr.lt)
              have HD := Lib.hid (HD.out.al (.cells #[.string ⟨#[]⟩, .string ⟨#[97]⟩, .string ⟨#[97, 47, 49]⟩, .string ⟨#[98]⟩, .string ⟨#[122, 122]⟩] 9))
              have HO := Lib.hid (HO.out.al (.cells #[.string ⟨#[]⟩, .string ⟨#[97]⟩, .string ⟨#[97, 47, 49]⟩, .string ⟨#[98]⟩, .string ⟨#[122, 122]⟩] 9))
              have HT1 := Lib.hid (HT1.out.alloc (.cells #[.string ⟨#[]⟩, .string ⟨#[97]⟩, .string ⟨#[97, 47, 49]⟩, .string ⟨#[98]⟩, .string ⟨#[122, 122]⟩] 9))
              obtain ⟨b2, hb⟩ : ∃ x, v5.heap.size = x := ⟨_, rfl⟩
              obtain ⟨v6, hv⟩ : ∃ x, v5.alloc (.cells #[.string ⟨#[]⟩, .string ⟨#[97]⟩, .string ⟨#[97, 47, 49]⟩, .string ⟨#[98]⟩, .string ⟨#[122, 122]⟩] 9) = x := ⟨_, rfl⟩
              rw [hb] at HT2 HTL2 ⊢
              rw [hv] at HD HO HT1 HT2 ⊢
              clear hb hv
              refine hK.out _ _ ⟨trivial, tabAt HT1.out HC1.out⟩ (fun HS => ?_)
              clear hK K
              refine held_take (i := 10) (d := 19) (v := .pointer (some ⟨b2, x2, none⟩)) rfl rfl (by kernel_rfl) (by kernel_rfl) (by kernel_rfl) (by kernel_rfl) (fun wx hS => by go_simp) HS ?_
              obtain ⟨p2, hp21, hp22⟩ := tab5 (m := 5) HT2.out (by decide) (x2 : Int) hqx20 (by show (x2 : Int) < 5; exact hqx21)
              rw [Int.toNat_natCast] at hp22
              have HZp2 := Lib.hid hp21
              have HC2 := Lib.hid hp22
              clear hp21 hp22
              refine held_mono (S' := (fun w' => ((True) ∧ w'.cell? ⟨b1, x1, none⟩ = some (.string p1)) ∧ w'.cell? ⟨b2, x2, none⟩ = some (.string p2))) (fun w' h => h.1) ?_
              have HS : (fun w' => ((True) ∧ w'.cell? ⟨b1, x1, none⟩ = some (.string p1)) ∧ w'.cell? ⟨b2, x2, none⟩ = some (.string p2)) v6 := ⟨HS, tabAt HT2.out HC2.out⟩
              refine held_take (i := 11) (d := 20) (v := .string p2) rfl rfl (by kernel_rfl) (by kernel_rfl) (by kernel_rfl) (by kernel_rfl) (fun wx hS => by have e0 := hS.2; go_simp) HS ?_
              refine wpAnyH_ready (rs := [14]) (by kernel_rfl) (by simp) (AllReadyH.cons rfl (fun K hK => ?_) AllReadyH.nil)
              have r0 := HD.out.res.cell (j := 0) (by simp)
              have r1 := HD.out.res.cell (j := 1) (by simp)
              have f0 := HD.out.res.free 0
              have f1 := HD.out.res.free 1
              simp at r0 r1
              go_simp
              have HF := Lib.hid (HD.out.fin HO.out)
              have HT1 := Lib.hid ((HT1.out.other (r := w.heap.size) (by have := HTL1.out; omega) 0 (.slice q1 n1 c1)).other (r := w.heap.size) (by have := HTL1.out; omega) 1 (.slice q2 n2 c2))
              have HT2 := Lib.hid ((HT2.out.other (r := w.heap.size) (by have := HTL2.out; omega) 0 (.slice q1 n1 c1)).other (r := w.heap.size) (by have := HTL2.out; omega) 1 (.slice q2 n2 c2))
              obtain ⟨v7, hv⟩ : ∃ x, (v6.setCell ⟨w.heap.size, 0, none⟩ (.slice q1 n1 c1)).setCell ⟨w.heap.size, 1, none⟩ (.slice q2 n2 c2) = x := ⟨_, rfl⟩
              rw [hv] at HF HT1 HT2 ⊢
              clear hv
              refine hK.out _ _ ⟨⟨trivial, tabAt HT1.out HC1.out⟩, tabAt HT2.out HC2.out⟩ (fun HS => ?_)
              clear hK K
              clear r0 r1 f0 f1
              refine held_take (i := 15) (d := 3) (v := .string p1) rfl rfl (by kernel_rfl) (by kernel_rfl) (by kernel_rfl) (by kernel_rfl) (fun wx hS => by go_simp) HS ?_
              refine held_take (i := 16) (d := 4) (v := .string p2) rfl rfl (by kernel_rfl) (by kernel_rfl) (by kernel_rfl) (by kernel_rfl) (fun wx hS => by go_simp) HS ?_
              refine held_take (i := 17) (d := 5) (v := .int .i64 z) rfl rfl (by kernel_rfl) (by kernel_rfl) (by kernel_rfl) (by kernel_rfl) (fun wx hS => by go_simp) HS ?_
              refine wpAnyH_done (by kernel_rfl) (NoPanic.normal ?_) _
              go_wp2
              have hbF := HF.out.r
              unfold Row at hbF
              exact bodyPost_ret (v := .tuple #[.agg #[.slice q1 n1 c1, .slice q2 n2 c2], .string p1, .string p2, .int .i64 z]) (by simp [results, Try.results13, go_sem, World.cell?, hbF]) rfl ⟨q1, n1, c1, q2, n2, c2, l, m, p1, p2, z, rfl, HF.out.s, HZp1.out, HF.out.b⟩
            · skip
              have r0 := HD.out.res.cell (j := 0) (by simp)
              have r1 := HD.out.res.cell (j := 1) (by simp)
              have f0 := HD.out.res.free 0
              have f1 := HD.out.res.free 1
              simp at r0 r1
              go_simp
              have HF := Lib.hid (HD.out.fin HO.out)
              have HT1 := Lib.hid ((HT1.out.other (r := w.heap.size) (by have := HTL1.out; omega) 0 (.slice q1 n1 c1)).other (r := w.heap.size) (by have := HTL1.out; omega) 1 (.slice q2 n2 c2))
              obtain ⟨v6, hv⟩ : ∃ x, (v5.setCell ⟨w.heap.size, 0, none⟩ (.slice q1 n1 c1)).setCell ⟨w.heap.size, 1, none⟩ (.slice q2 n2 c2) = x := ⟨_, rfl⟩
              rw [hv] at HF HT1 ⊢
              clear hv
              refine hK.out _ _ ⟨trivial, tabAt HT1.out HC1.out⟩ (fun HS => ?_)
              clear hK K
              clear r0 r1 f0 f1
              refine held_take (i := 15) (d := 3) (v := .string p1) rfl rfl (by kernel_rfl) (by kernel_rfl) (by kernel_rfl) (by kernel_rfl) (fun wx hS => by go_simp) HS ?_
              refine wpAnyH_ready (rs := [7]) (by kernel_rfl) (by simp) (AllReadyH.cons rfl (fun K hK => ?_) AllReadyH.nil)
              go_simp
              have HT2 := Lib.hid (Row.new v6 9 #[.string ⟨#[]⟩, .string ⟨#[97]⟩, .string ⟨#[97, 47, 49]⟩, .string ⟨#[98]⟩, .string ⟨#[122, 122]⟩])
              have HF := Lib.hid (HF.out.al (.cells #[.string ⟨#[]⟩, .string ⟨#[97]⟩, .string ⟨#[97, 47, 49]⟩, .string ⟨#[98]⟩, .string ⟨#[122, 122]⟩] 9))
              have HT1 := Lib.hid (HT1.out.alloc (.cells #[.string ⟨#[]⟩, .string ⟨#[97]⟩, .string ⟨#[97, 47, 49]⟩, .string ⟨#[98]⟩, .string ⟨#[122, 122]⟩] 9))
              obtain ⟨b2, hb⟩ : ∃ x, v6.heap.size = x := ⟨_, rfl⟩
              obtain ⟨v7, hv⟩ : ∃ x, v6.alloc (.cells #[.string ⟨#[]⟩, .string ⟨#[97]⟩, .string ⟨#[97, 47, 49]⟩, .string ⟨#[98]⟩, .string ⟨#[122, 122]⟩] 9) = x := ⟨_, rfl⟩
              rw [hb] at HT2  ⊢
              rw [hv] at HF HT1 HT2 ⊢
              clear hb hv
              refine hK.out _ _ ⟨trivial, tabAt HT1.out HC1.out⟩ (fun HS => ?_)
              clear hK K
              refine held_take (i := 10) (d := 19) (v := .pointer (some ⟨b2, x2, none⟩)) rfl rfl (by kernel_rfl) (by kernel_rfl) (by kernel_rfl) (by kernel_rfl) (fun wx hS => by go_simp) HS ?_
              obtain ⟨p2, hp21, hp22⟩ := tab5 (m := 5) HT2.out (by decide) (x2 : Int) hqx20 (by show (x2 : Int) < 5; exact hqx21)
              rw [Int.toNat_natCast] at hp22
              have HZp2 := Lib.hid hp21
              have HC2 := Lib.hid hp22
              clear hp21 hp22
              refine held_mono (S' := (fun w' => ((True) ∧ w'.cell? ⟨b1, x1, none⟩ = some (.string p1)) ∧ w'.cell? ⟨b2, x2, none⟩ = some (.string p2))) (fun w' h => h.1) ?_
              have HS : (fun w' => ((True) ∧ w'.cell? ⟨b1, x1, none⟩ = some (.string p1)) ∧ w'.cell? ⟨b2, x2, none⟩ = some (.string p2)) v7 := ⟨HS, tabAt HT2.out HC2.out⟩
              refine held_take (i := 11) (d := 20) (v := .string p2) rfl rfl (by kernel_rfl) (by kernel_rfl) (by kernel_rfl) (by kernel_rfl) (fun wx hS => by have e0 := hS.2; go_simp) HS ?_
              refine held_take (i := 16) (d := 4) (v := .string p2) rfl rfl (by kernel_rfl) (by kernel_rfl) (by kernel_rfl) (by kernel_rfl) (fun wx hS => by go_simp) HS ?_
              refine held_take (i := 17) (d := 5) (v := .int .i64 z) rfl rfl (by kernel_rfl) (by kernel_rfl) (by kernel_rfl) (by kernel_rfl) (fun wx hS => by go_simp) HS ?_
              refine wpAnyH_done (by kernel_rfl) (NoPanic.normal ?_) _
              go_wp2
              have hbF := HF.out.r
              unfold Row at hbF
              exact bodyPost_ret (v := .tuple #[.agg #[.slice q1 n1 c1, .slice q2 n2 c2], .string p1, .string p2, .int .i64 z]) (by simp [results, Try.results13, go_sem, World.cell?, hbF]) rfl ⟨q1, n1, c1, q2, n2, c2, l, m, p1, p2, z, rfl, HF.out.s, HZp1.out, HF.out.b⟩
      · skip
        go_simp
        have HT2 := Lib.hid (Row.new v2 9 #[.string ⟨#[]⟩, .string ⟨#[97]⟩, .string ⟨#[97, 47, 49]⟩, .string ⟨#[98]⟩, .string ⟨#[122, 122]⟩])
        have HTL2 := Lib.hid (show w.heap.size + 1 < v2.heap.size from HD.out.rdr.lt)
        have HD := Lib.hid (HD.out.al (.cells #[.string ⟨#[]⟩, .string ⟨#[97]⟩, .string ⟨#[97, 47, 49]⟩, .string ⟨#[98]⟩, .string ⟨#[122, 122]⟩] 9))
        have HO := Lib.hid (HO.out.al (.cells #[.string ⟨#[]⟩, .string ⟨#[97]⟩, .string ⟨#[97, 47, 49]⟩, .string ⟨#[98]⟩, .string ⟨#[122, 122]⟩] 9))
        have HT1 := Lib.hid (HT1.out.alloc (.cells #[.string ⟨#[]⟩, .string ⟨#[97]⟩, .string ⟨#[97, 47, 49]⟩, .string ⟨#[98]⟩, .string ⟨#[122, 122]⟩] 9))
        obtain ⟨b2, hb⟩ : ∃ x, v2.heap.size = x := ⟨_, rfl⟩
        obtain ⟨v3, hv⟩ : ∃ x, v2.alloc (.cells #[.string ⟨#[]⟩, .string ⟨#[97]⟩, .string ⟨#[97, 47, 49]⟩, .string ⟨#[98]⟩, .string ⟨#[122, 122]⟩] 9) = x := ⟨_, rfl⟩
        rw [hb] at HT2 HTL2 ⊢
        rw [hv] at HD HO HT1 HT2 ⊢
        clear hb hv
        refine hK.out _ _ trivial (fun HS => ?_)
        clear hK K
        refine wpAnyH_ready (rs := [4]) (by kernel_rfl) (by simp) (AllReadyH.cons rfl (fun K hK => ?_) AllReadyH.nil)
        go_simp
        refine (below_any _ _ _ _ _ _ HD.out.rdr (by decide) (by decide)).mono ?_
        rintro e v4 ⟨⟨x, hx1, hx2, rfl⟩, hw⟩
        obtain ⟨x1, rfl⟩ : ∃ k : Nat, x = k := ⟨x.toNat, by omega⟩
        have hqx10 : (0 : Int) ≤ (x1 : Int) := by omega
        have hqx11 : (x1 : Int) < 5 := by omega
        clear hx1 hx2
        have HD := Lib.hid (HD.out.step hw)
        have HO := Lib.hid (HO.out.step hw)
        have HT1 := Lib.hid (HT1.out.grown hw.grown (by intro e; injection e with e; have := HTL1.out; omega))
        have HT2 := Lib.hid (HT2.out.grown hw.grown (by intro e; injection e with e; have := HTL2.out; omega))
        clear hw
        refine hK.out _ _ trivial (fun HS => ?_)
        clear hK K
        refine held_take (i := 5) (d := 14) (v := .pointer (some ⟨b1, x1, none⟩)) rfl rfl (by kernel_rfl) (by kernel_rfl) (by kernel_rfl) (by kernel_rfl) (fun wx hS => by go_simp) HS ?_
        obtain ⟨p1, hp11, hp12⟩ := tab5 (m := 5) HT1.out (by decide) (x1 : Int) hqx10 (by show (x1 : Int) < 5; exact hqx11)
        rw [Int.toNat_natCast] at hp12
        have HZp1 := Lib.hid hp11
        have HC1 := Lib.hid hp12
        clear hp11 hp12
        refine held_mono (S' := (fun w' => (True) ∧ w'.cell? ⟨b1, x1, none⟩ = some (.string p1))) (fun w' h => h.1) ?_
        have HS : (fun w' => (True) ∧ w'.cell? ⟨b1, x1, none⟩ = some (.string p1)) v4 := ⟨HS, tabAt HT1.out HC1.out⟩
        refine held_take (i := 6) (d := 15) (v := .string p1) rfl rfl (by kernel_rfl) (by kernel_rfl) (by kernel_rfl) (by kernel_rfl) (fun wx hS => by have e0 := hS.2; go_simp) HS ?_
        refine wpAnyH_ready (rs := [9]) (by kernel_rfl) (by simp) (AllReadyH.cons rfl (fun K hK => ?_) AllReadyH.nil)
        go_simp
        refine (below_any _ _ _ _ _ _ HD.out.rdr (by decide) (by decide)).mono ?_
        rintro e v5 ⟨⟨x, hx1, hx2, rfl⟩, hw⟩
        obtain ⟨x2, rfl⟩ : ∃ k : Nat, x = k := ⟨x.toNat, by omega⟩
        have hqx20 : (0 : Int) ≤ (x2 : Int) := by omega
        have hqx21 : (x2 : Int) < 5 := by omega
        clear hx1 hx2
        have HD := Lib.hid (HD.out.step hw)
        have HO := Lib.hid (HO.out.step hw)
        have HT1 := Lib.hid (HT1.out.grown hw.grown (by intro e; injection e with e; have := HTL1.out; omega))
        have HT2 := Lib.hid (HT2.out.grown hw.grown (by intro e; injection e with e; have := HTL2.out; omega))
        clear hw
        refine hK.out _ _ ⟨trivial, tabAt HT1.out HC1.out⟩ (fun HS => ?_)
        clear hK K
        refine held_take (i := 10) (d := 19) (v := .pointer (some ⟨b2, x2, none⟩)) rfl rfl (by kernel_rfl) (by kernel_rfl) (by kernel_rfl) (by kernel_rfl) (fun wx hS => by go_simp) HS ?_
        obtain ⟨p2, hp21, hp22⟩ := tab5 (m := 5) HT2.out (by decide) (x2 : Int) hqx20 (by show (x2 : Int) < 5; exact hqx21)
        rw [Int.toNat_natCast] at hp22
        have HZp2 := Lib.hid hp21
        have HC2 := Lib.hid hp22
        clear hp21 hp22
        refine held_mono (S' := (fun w' => ((True) ∧ w'.cell? ⟨b1, x1, none⟩ = some (.string p1)) ∧ w'.cell? ⟨b2, x2, none⟩ = some (.string p2))) (fun w' h => h.1) ?_
        have HS : (fun w' => ((True) ∧ w'.cell? ⟨b1, x1, none⟩ = some (.string p1)) ∧ w'.cell? ⟨b2, x2, none⟩ = some (.string p2)) v5 := ⟨HS, tabAt HT2.out HC2.out⟩
        refine held_take (i := 11) (d := 20) (v := .string p2) rfl rfl (by kernel_rfl) (by kernel_rfl) (by kernel_rfl) (by kernel_rfl) (fun wx hS => by have e0 := hS.2; go_simp) HS ?_
        refine wpAnyH_ready (rs := [13]) (by kernel_rfl) (by simp) (AllReadyH.cons rfl (fun K hK => ?_) AllReadyH.nil)
        go_simp
        refine (off_any _ _ _ _ _ _ _ HD.out.rdr (by decide) (by decide) (by decide)).mono ?_
        rintro e v6 ⟨⟨z, hz, rfl⟩, hw⟩
        clear hz
        have HD := Lib.hid (HD.out.step hw)
        have HO := Lib.hid (HO.out.step hw)
        have HT1 := Lib.hid (HT1.out.grown hw.grown (by intro e; injection e with e; have := HTL1.out; omega))
        have HT2 := Lib.hid (HT2.out.grown hw.grown (by intro e; injection e with e; have := HTL2.out; omega))
        clear hw
        refine hK.out _ _ ⟨⟨trivial, tabAt HT1.out HC1.out⟩, tabAt HT2.out HC2.out⟩ (fun HS => ?_)
        clear hK K
        refine wpAnyH_ready (rs := [14]) (by kernel_rfl) (by simp) (AllReadyH.cons rfl (fun K hK => ?_) AllReadyH.nil)
        have r0 := HD.out.res.cell (j := 0) (by simp)
        have r1 := HD.out.res.cell (j := 1) (by simp)
        have f0 := HD.out.res.free 0
        have f1 := HD.out.res.free 1
        simp at r0 r1
        go_simp
        have HF := Lib.hid (HD.out.fin HO.out)
        have HT1 := Lib.hid ((HT1.out.other (r := w.heap.size) (by have := HTL1.out; omega) 0 (.slice q1 n1 c1)).other (r := w.heap.size) (by have := HTL1.out; omega) 1 (.slice q2 n2 c2))
        have HT2 := Lib.hid ((HT2.out.other (r := w.heap.size) (by have := HTL2.out; omega) 0 (.slice q1 n1 c1)).other (r := w.heap.size) (by have := HTL2.out; omega) 1 (.slice q2 n2 c2))
        obtain ⟨v7, hv⟩ : ∃ x, (v6.setCell ⟨w.heap.size, 0, none⟩ (.slice q1 n1 c1)).setCell ⟨w.heap.size, 1, none⟩ (.slice q2 n2 c2) = x := ⟨_, rfl⟩
        rw [hv] at HF HT1 HT2 ⊢
        clear hv
        refine hK.out _ _ ⟨⟨trivial, tabAt HT1.out HC1.out⟩, tabAt HT2.out HC2.out⟩ (fun HS => ?_)
        clear hK K
        clear r0 r1 f0 f1
        refine held_take (i := 15) (d := 3) (v := .string p1) rfl rfl (by kernel_rfl) (by kernel_rfl) (by kernel_rfl) (by kernel_rfl) (fun wx hS => by go_simp) HS ?_
        refine held_take (i := 16) (d := 4) (v := .string p2) rfl rfl (by kernel_rfl) (by kernel_rfl) (by kernel_rfl) (by kernel_rfl) (fun wx hS => by go_simp) HS ?_
        refine held_take (i := 17) (d := 5) (v := .int .i64 z) rfl rfl (by kernel_rfl) (by kernel_rfl) (by kernel_rfl) (by kernel_rfl) (fun wx hS => by go_simp) HS ?_
        refine wpAnyH_done (by kernel_rfl) (NoPanic.normal ?_) _
        go_wp2
        have hbF := HF.out.r
        unfold Row at hbF
        exact bodyPost_ret (v := .tuple #[.agg #[.slice q1 n1 c1, .slice q2 n2 c2], .string p1, .string p2, .int .i64 z]) (by simp [results, Try.results13, go_sem, World.cell?, hbF]) rfl ⟨q1, n1, c1, q2, n2, c2, l, m, p1, p2, z, rfl, HF.out.s, HZp1.out, HF.out.b⟩
    · skip
      go_simp
      refine (below_any _ _ _ _ _ _ HD.out.rdr (by decide) (by decide)).mono ?_
      rintro e v2 ⟨⟨x, hx1, hx2, rfl⟩, hw⟩
      obtain ⟨x1, rfl⟩ : ∃ k : Nat, x = k := ⟨x.toNat, by omega⟩
      have hqx10 : (0 : Int) ≤ (x1 : Int) := by omega
      have hqx11 : (x1 : Int) < 5 := by omega
      clear hx1 hx2
      have HD := Lib.hid (HD.out.step hw)
      have HO := Lib.hid (HO.out.step hw)
      clear hw
      refine hK.out _ _ trivial (fun HS => ?_)
      clear hK K
      refine wpAnyH_ready (rs := [2, 7, 9]) (by kernel_rfl) (by simp) (AllReadyH.cons rfl (fun K hK => ?_) (AllReadyH.cons rfl (fun K hK => ?_) (AllReadyH.cons rfl (fun K hK => ?_) AllReadyH.nil)))
      · skip
        go_simp
        have HT1 := Lib.hid (Row.new v2 9 #[.string ⟨#[]⟩, .string ⟨#[97]⟩, .string ⟨#[97, 47]⟩, .string ⟨#[98, 47]⟩, .string ⟨#[122, 47]⟩])
        have HTL1 := Lib.hid (show w.heap.size + 1 < v2.heap.size from HD.out.rdr.lt)
        have HD := Lib.hid (HD.out.al (.cells #[.string ⟨#[]⟩, .string ⟨#[97]⟩, .string ⟨#[97, 47]⟩, .string ⟨#[98, 47]⟩, .string ⟨#[122, 47]⟩] 9))
        have HO := Lib.hid (HO.out.al (.cells #[.string ⟨#[]⟩, .string ⟨#[97]⟩, .string ⟨#[97, 47]⟩, .string ⟨#[98, 47]⟩, .string ⟨#[122, 47]⟩] 9))
        obtain ⟨b1, hb⟩ : ∃ x, v2.heap.size = x := ⟨_, rfl⟩
        obtain ⟨v3, hv⟩ : ∃ x, v2.alloc (.cells #[.string ⟨#[]⟩, .string ⟨#[97]⟩, .string ⟨#[97, 47]⟩, .string ⟨#[98, 47]⟩, .string ⟨#[122, 47]⟩] 9) = x := ⟨_, rfl⟩
        rw [hb] at HT1 HTL1 ⊢
        rw [hv] at HD HO HT1 ⊢
        clear hb hv
        refine hK.out _ _ trivial (fun HS => ?_)
        clear hK K
        refine held_take (i := 5) (d := 14) (v := .pointer (some ⟨b1, x1, none⟩)) rfl rfl (by kernel_rfl) (by kernel_rfl) (by kernel_rfl) (by kernel_rfl) (fun wx hS => by go_simp) HS ?_
        obtain ⟨p1, hp11, hp12⟩ := tab5 (m := 5) HT1.out (by decide) (x1 : Int) hqx10 (by show (x1 : Int) < 5; exact hqx11)
        rw [Int.toNat_natCast] at hp12
        have HZp1 := Lib.hid hp11
        have HC1 := Lib.hid hp12
        clear hp11 hp12
        refine held_mono (S' := (fun w' => (True) ∧ w'.cell? ⟨b1, x1, none⟩ = some (.string p1))) (fun w' h => h.1) ?_
        have HS : (fun w' => (True) ∧ w'.cell? ⟨b1, x1, none⟩ = some (.string p1)) v3 := ⟨HS, tabAt HT1.out HC1.out⟩
        refine held_take (i := 6) (d := 15) (v := .string p1) rfl rfl (by kernel_rfl) (by kernel_rfl) (by kernel_rfl) (by kernel_rfl) (fun wx hS => by have e0 := hS.2; go_simp) HS ?_
        refine wpAnyH_ready (rs := [7, 9]) (by kernel_rfl) (by simp) (AllReadyH.cons rfl (fun K hK => ?_) (AllReadyH.cons rfl (fun K hK => ?_) AllReadyH.nil))
        · skip
          go_simp
          have HT2 := Lib.hid (Row.new v3 9 #[.string ⟨#[]⟩, .string ⟨#[97]⟩, .string ⟨#[97, 47, 49]⟩, .string ⟨#[98]⟩, .string ⟨#[122, 122]⟩])
          have HTL2 := Lib.hid (show w.heap.size + 1 < v3.heap.size from HD.out.rdr.lt)
          have HD := Lib.hid (HD.out.al (.cells #[.string ⟨#[]⟩, .string ⟨#[97]⟩, .string ⟨#[97, 47, 49]⟩, .string ⟨#[98]⟩, .string ⟨#[122, 122]⟩] 9))
          have HO := Lib.hid (HO.out.al (.cells #[.string ⟨#[]⟩, .string ⟨#[97]⟩, .string ⟨#[97, 47, 49]⟩, .string ⟨#[98]⟩, .string ⟨#[122, 122]⟩] 9))
          have HT1 := Lib.hid (HT1.out.alloc (.cells #[.string ⟨#[]⟩, .string ⟨#[97]⟩, .string ⟨#[97, 47, 49]⟩, .string ⟨#[98]⟩, .string ⟨#[122, 122]⟩] 9))
          obtain ⟨b2, hb⟩ : ∃ x, v3.heap.size = x := ⟨_, rfl⟩
          obtain ⟨v4, hv⟩ : ∃ x, v3.alloc (.cells #[.string ⟨#[]⟩, .string ⟨#[97]⟩, .string ⟨#[97, 47, 49]⟩, .string ⟨#[98]⟩, .string ⟨#[122, 122]⟩] 9) = x := ⟨_, rfl⟩
          rw [hb] at HT2 HTL2 ⊢
          rw [hv] at HD HO HT1 HT2 ⊢
          clear hb hv
          refine hK.out _ _ ⟨trivial, tabAt HT1.out HC1.out⟩ (fun HS => ?_)
          clear hK K
          refine wpAnyH_ready (rs := [9]) (by kernel_rfl) (by simp) (AllReadyH.cons rfl (fun K hK => ?_) AllReadyH.nil)
          go_simp
          refine (below_any _ _ _ _ _ _ HD.out.rdr (by decide) (by decide)).mono ?_
          rintro e v5 ⟨⟨x, hx1, hx2, rfl⟩, hw⟩
          obtain ⟨x2, rfl⟩ : ∃ k : Nat, x = k := ⟨x.toNat, by omega⟩
          have hqx20 : (0 : Int) ≤ (x2 : Int) := by omega
          have hqx21 : (x2 : Int) < 5 := by omega
          clear hx1 hx2
          have HD := Lib.hid (HD.out.step hw)
          have HO := Lib.hid (HO.out.step hw)
          have HT1 := Lib.hid (HT1.out.grown hw.grown (by intro e; injection e with e; have := HTL1.out; omega))
          have HT2 := Lib.hid (HT2.out.grown hw.grown (by intro e; injection e with e; have := HTL2.out; omega))
          clear hw
          refine hK.out _ _ ⟨trivial, tabAt HT1.out HC1.out⟩ (fun HS => ?_)
          clear hK K
          refine held_take (i := 10) (d := 19) (v := .pointer (some ⟨b2, x2, none⟩)) rfl rfl (by kernel_rfl) (by kernel_rfl) (by kernel_rfl) (by kernel_rfl) (fun wx hS => by go_simp) HS ?_
          obtain ⟨p2, hp21, hp22⟩ := tab5 (m := 5) HT2.out (by decide) (x2 : Int) hqx20 (by show (x2 : Int) < 5; exact hqx21)
          rw [Int.toNat_natCast] at hp22
          have HZp2 := Lib.hid hp21
          have HC2 := Lib.hid hp22
          clear hp21 hp22
          refine held_mono (S' := (fun w' => ((True) ∧ w'.cell? ⟨b1, x1, none⟩ = some (.string p1)) ∧ w'.cell? ⟨b2, x2, none⟩ = some (.string p2))) (fun w' h => h.1) ?_
          have HS : (fun w' => ((True) ∧ w'.cell? ⟨b1, x1, none⟩ = some (.string p1)) ∧ w'.cell? ⟨b2, x2, none⟩ = some (.string p2)) v5 := ⟨HS, tabAt HT2.out HC2.out⟩
          refine held_take (i := 11) (d := 20) (v := .string p2) rfl rfl (by kernel_rfl) (by kernel_rfl) (by kernel_rfl) (by kernel_rfl) (fun wx hS => by have e0 := hS.2; go_simp) HS ?_
          refine wpAnyH_ready (rs := [13]) (by kernel_rfl) (by simp) (AllReadyH.cons rfl (fun K hK => ?_) AllReadyH.nil)
          go_simp
          refine (off_any _ _ _ _ _ _ _ HD.out.rdr (by decide) (by decide) (by decide)).mono ?_
          rintro e v6 ⟨⟨z, hz, rfl⟩, hw⟩
          clear hz
          have HD := Lib.hid (HD.out.step hw)
          have HO := Lib.hid (HO.out.step hw)
          have HT1 := Lib.hid (HT1.out.grown hw.grown (by intro e; injection e with e; have := HTL1.out; omega))
          have HT2 := Lib.hid (HT2.out.grown hw.grown (by intro e; injection e with e; have := HTL2.out; omega))
          clear hw
          refine hK.out _ _ ⟨⟨trivial, tabAt HT1.out HC1.out⟩, tabAt HT2.out HC2.out⟩ (fun HS => ?_)
          clear hK K
          refine wpAnyH_ready (rs := [14]) (by kernel_rfl) (by simp) (AllReadyH.cons rfl (fun K hK => ?_) AllReadyH.nil)
          have r0 := HD.out.res.cell (j := 0) (by simp)
          have r1 := HD.out.res.cell (j := 1) (by simp)
          have f0 := HD.out.res.free 0
          have f1 := HD.out.res.free 1
          simp at r0 r1
          go_simp
          have HF := Lib.hid (HD.out.fin HO.out)
          have HT1 := Lib.hid ((HT1.out.other (r := w.heap.size) (by have := HTL1.out; omega) 0 (.slice q1 n1 c1)).other (r := w.heap.size) (by have := HTL1.out; omega) 1 (.slice q2 n2 c2))
          have HT2 := Lib.hid ((HT2.out.other (r := w.heap.size) (by have := HTL2.out; omega) 0 (.slice q1 n1 c1)).other (r := w.heap.size) (by have := HTL2.out; omega) 1 (.slice q2 n2 c2))
          obtain ⟨v7, hv⟩ : ∃ x, (v6.setCell ⟨w.heap.size, 0, none⟩ (.slice q1 n1 c1)).setCell ⟨w.heap.size, 1, none⟩ (.slice q2 n2 c2) = x := ⟨_, rfl⟩
          rw [hv] at HF HT1 HT2 ⊢
          clear hv
          refine hK.out _ _ ⟨⟨trivial, tabAt HT1.out HC1.out⟩, tabAt HT2.out HC2.out⟩ (fun HS => ?_)
          clear hK K
          clear r0 r1 f0 f1
          refine held_take (i := 15) (d := 3) (v := .string p1) rfl rfl (by kernel_rfl) (by kernel_rfl) (by kernel_rfl) (by kernel_rfl) (fun wx hS => by go_simp) HS ?_
          refine held_take (i := 16) (d := 4) (v := .string p2) rfl rfl (by kernel_rfl) (by kernel_rfl) (by kernel_rfl) (by kernel_rfl) (fun wx hS => by go_simp) HS ?_
          refine held_take (i := 17) (d := 5) (v := .int .i64 z) rfl rfl (by kernel_rfl) (by kernel_rfl) (by kernel_rfl) (by kernel_rfl) (fun wx hS => by go_simp) HS ?_
          refine wpAnyH_done (by kernel_rfl) (NoPanic.normal ?_) _
          go_wp2
          have hbF := HF.out.r
          unfold Row at hbF
          exact bodyPost_ret (v := .tuple #[.agg #[.slice q1 n1 c1, .slice q2 n2 c2], .string p1, .string p2, .int .i64 z]) (by simp [results, Try.results13, go_sem, World.cell?, hbF]) rfl ⟨q1, n1, c1, q2, n2, c2, l, m, p1, p2, z, rfl, HF.out.s, HZp1.out, HF.out.b⟩
        · skip
          go_simp
          refine (below_any _ _ _ _ _ _ HD.out.rdr (by decide) (by decide)).mono ?_
          rintro e v4 ⟨⟨x, hx1, hx2, rfl⟩, hw⟩
          obtain ⟨x2, rfl⟩ : ∃ k : Nat, x = k := ⟨x.toNat, by omega⟩
          have hqx20 : (0 : Int) ≤ (x2 : Int) := by omega
          have hqx21 : (x2 : Int) < 5 := by omega
          clear hx1 hx2
          have HD := Lib.hid (HD.out.step hw)
          have HO := Lib.hid (HO.out.step hw)
          have HT1 := Lib.hid (HT1.out.grown hw.grown (by intro e; injection e with e; have := HTL1.out; omega))
          clear hw
          refine hK.out _ _ ⟨trivial, tabAt HT1.out HC1.out⟩ (fun HS => ?_)
          clear hK K
          refine wpAnyH_ready (rs := [7, 13]) (by kernel_rfl) (by simp) (AllReadyH.cons rfl (fun K hK => ?_) (AllReadyH.cons rfl (fun K hK => ?_) AllReadyH.nil))
          · skip
            go_simp
            have HT2 := Lib.hid (Row.new v4 9 #[.string ⟨#[]⟩, .string ⟨#[97]⟩, .string ⟨#[97, 47, 49]⟩, .string ⟨#[98]⟩, .string ⟨#[122, 122]⟩])
            have HTL2 := Lib.hid (show w.heap.size + 1 < v4.heap.size from HD.out.rdr.lt)
            have HD := Lib.hid (HD.out.al (.cells #[.string ⟨#[]⟩, .string ⟨#[97]⟩, .string ⟨#[97, 47, 49]⟩, .string ⟨#[98]⟩, .string ⟨#[122, 122]⟩] 9))
            have HO := Lib.hid (HO.out.al (.cells #[.string ⟨#[]⟩, .string ⟨#[97]⟩, .string ⟨#[97, 47, 49]⟩, .string ⟨#[98]⟩, .string ⟨#[122, 122]⟩] 9))
            have HT1 := Lib.hid (HT1.out.alloc (.cells #[.string ⟨#[]⟩, .string ⟨#[97]⟩, .string ⟨#[97, 47, 49]⟩, .string ⟨#[98]⟩, .string ⟨#[122, 122]⟩] 9))
            obtain ⟨b2, hb⟩ : ∃ x, v4.heap.size = x := ⟨_, rfl⟩
            obtain ⟨v5, hv⟩ : ∃ x, v4.alloc (.cells #[.string ⟨#[]⟩, .string ⟨#[97]⟩, .string ⟨#[97, 47, 49]⟩, .string ⟨#[98]⟩, .string ⟨#[122, 122]⟩] 9) = x := ⟨_, rfl⟩
            rw [hb] at HT2 HTL2 ⊢
            rw [hv] at HD HO HT1 HT2 ⊢
            clear hb hv
            refine hK.out _ _ ⟨trivial, tabAt HT1.out HC1.out⟩ (fun HS => ?_)
            clear hK K
            refine held_take (i := 10) (d := 19) (v := .pointer (some ⟨b2, x2, none⟩)) rfl rfl (by kernel_rfl) (by kernel_rfl) (by kernel_rfl) (by kernel_rfl) (fun wx hS => by go_simp) HS ?_
            obtain ⟨p2, hp21, hp22⟩ := tab5 (m := 5) HT2.out (by decide) (x2 : Int) hqx20 (by show (x2 : Int) < 5; exact hqx21)
            rw [Int.toNat_natCast] at hp22
            have HZp2 := Lib.hid hp21
            have HC2 := Lib.hid hp22
            clear hp21 hp22
            refine held_mono (S' := (fun w' => ((True) ∧ w'.cell? ⟨b1, x1, none⟩ = some (.string p1)) ∧ w'.cell? ⟨b2, x2, none⟩ = some (.string p2))) (fun w' h => h.1) ?_
            have HS : (fun w' => ((True) ∧ w'.cell? ⟨b1, x1, none⟩ = some (.string p1)) ∧ w'.cell? ⟨b2, x2, none⟩ = some (.string p2)) v5 := ⟨HS, tabAt HT2.out HC2.out⟩
            refine held_take (i := 11) (d := 20) (v := .string p2) rfl rfl (by kernel_rfl) (by kernel_rfl) (by kernel_rfl) (by kernel_rfl) (fun wx hS => by have e0 := hS.2; go_simp) HS ?_
            refine wpAnyH_ready (rs := [13]) (by kernel_rfl) (by simp) (AllReadyH.cons rfl (fun K hK => ?_) AllReadyH.nil)
            go_simp
            refine (off_any _ _ _ _ _ _ _ HD.out.rdr (by decide) (by decide) (by decide)).mono ?_
            rintro e v6 ⟨⟨z, hz, rfl⟩, hw⟩
            clear hz
            have HD := Lib.hid (HD.out.step hw)
            have HO := Lib.hid (HO.out.step hw)
            have HT1 := Lib.hid (HT1.out.grown hw.grown (by intro e; injection e with e; have := HTL1.out; omega))
            have HT2 := Lib.hid (HT2.out.grown hw.grown (by intro e; injection e with e; have := HTL2.out; omega))
            clear hw
            refine hK.out _ _ ⟨⟨trivial, tabAt HT1.out HC1.out⟩, tabAt HT2.out HC2.out⟩ (fun HS => ?_)
            clear hK K
            refine wpAnyH_ready (rs := [14]) (by kernel_rfl) (by simp) (AllReadyH.cons rfl (fun K hK => ?_) AllReadyH.nil)
            have r0 := HD.out.res.cell (j := 0) (by simp)
            have r1 := HD.out.res.cell (j := 1) (by simp)
            have f0 := HD.out.res.free 0
            have f1 := HD.out.res.free 1
            simp at r0 r1
            go_simp
            have HF := Lib.hid (HD.out.fin HO.out)
            have HT1 := Lib.hid ((HT1.out.other (r := w.heap.size) (by have := HTL1.out; omega) 0 (.slice q1 n1 c1)).other (r := w.heap.size) (by have := HTL1.out; omega) 1 (.slice q2 n2 c2))
            have HT2 := Lib.hid ((HT2.out.other (r := w.heap.size) (by have := HTL2.out; omega) 0 (.slice q1 n1 c1)).other (r := w.heap.size) (by have := HTL2.out; omega) 1 (.slice q2 n2 c2))
            obtain ⟨v7, hv⟩ : ∃ x, (v6.setCell ⟨w.heap.size, 0, none⟩ (.slice q1 n1 c1)).setCell ⟨w.heap.size, 1, none⟩ (.slice q2 n2 c2) = x := ⟨_, rfl⟩
            rw [hv] at HF HT1 HT2 ⊢
            clear hv
            refine hK.out _ _ ⟨⟨trivial, tabAt HT1.out HC1.out⟩, tabAt HT2.out HC2.out⟩ (fun HS => ?_)
            clear hK K
            clear r0 r1 f0 f1
            refine held_take (i := 15) (d := 3) (v := .string p1) rfl rfl (by kernel_rfl) (by kernel_rfl) (by kernel_rfl) (by kernel_rfl) (fun wx hS => by go_simp) HS ?_
            refine held_take (i := 16) (d := 4) (v := .string p2) rfl rfl (by kernel_rfl) (by kernel_rfl) (by kernel_rfl) (by kernel_rfl) (fun wx hS => by go_simp) HS ?_
            refine held_take (i := 17) (d := 5) (v := .int .i64 z) rfl rfl (by kernel_rfl) (by kernel_rfl) (by kernel_rfl) (by kernel_rfl) (fun wx hS => by go_simp) HS ?_
            refine wpAnyH_done (by kernel_rfl) (NoPanic.normal ?_) _
            go_wp2
            have hbF := HF.out.r
            unfold Row at hbF
            exact bodyPost_ret (v := .tuple #[.agg #[.slice q1 n1 c1, .slice q2 n2 c2], .string p1, .string p2, .int .i64 z]) (by simp [results, Try.results13, go_sem, World.cell?, hbF]) rfl ⟨q1, n1, c1, q2, n2, c2, l, m, p1, p2, z, rfl, HF.out.s, HZp1.out, HF.out.b⟩
          · skip
            go_simp
            refine (off_any _ _ _ _ _ _ _ HD.out.rdr (by decide) (by decide) (by decide)).mono ?_
            rintro e v5 ⟨⟨z, hz, rfl⟩, hw⟩
            clear hz
            have HD := Lib.hid (HD.out.step hw)
            have HO := Lib.hid (HO.out.step hw)
            have HT1 := Lib.hid (HT1.out.grown hw.grown (by intro e; injection e with e; have := HTL1.out; omega))
            clear hw
            refine hK.out _ _ ⟨trivial, tabAt HT1.out HC1.out⟩ (fun HS => ?_)
            clear hK K
            refine wpAnyH_ready (rs := [7, 14]) (by kernel_rfl) (by simp) (AllReadyH.cons rfl (fun K hK => ?_) (AllReadyH.cons rfl (fun K hK => ?_) AllReadyH.nil))
            · skip
              go_simp
              have HT2 := Lib.hid (Row.new v5 9 #[.string ⟨#[]⟩, .string ⟨#[97]⟩, .string ⟨#[97, 47, 49]⟩, .string ⟨#[98]⟩, .string ⟨#[122, 122]⟩])
              have HTL2 := Lib.hid (show w.heap.size + 1 < v5.heap.size from HD.out.rdr.lt)
              have HD := Lib.hid (HD.out.al (.cells #[.string ⟨#[]⟩, .string ⟨#[97]⟩, .string ⟨#[97, 47, 49]⟩, .string ⟨#[98]⟩, .string ⟨#[122, 122]⟩] 9))
              have HO := Lib.hid (HO.out.al (.cells #[.string ⟨#[]⟩, .string ⟨#[97]⟩, .string ⟨#[97, 47, 49]⟩, .string ⟨#[98]⟩, .string ⟨#[122, 122]⟩] 9))
              have HT1 := Lib.hid (HT1.out.alloc (.cells #[.string ⟨#[]⟩, .string ⟨#[97]⟩, .string ⟨#[97, 47, 49]⟩, .string ⟨#[98]⟩, .string ⟨#[122, 122]⟩] 9))
              obtain ⟨b2, hb⟩ : ∃ x, v5.heap.size = x := ⟨_, rfl⟩
              obtain ⟨v6, hv⟩ : ∃ x, v5.alloc (.cells #[.string ⟨#[]⟩, .string ⟨#[97]⟩, .string ⟨#[97, 47, 49]⟩, .string ⟨#[98]⟩, .string ⟨#[122, 122]⟩] 9) = x := ⟨_, rfl⟩
              rw [hb] at HT2 HTL2 ⊢
              rw [hv] at HD HO HT1 HT2 ⊢
              clear hb hv
              refine hK.out _ _ ⟨trivial, tabAt HT1.out HC1.out⟩ (fun HS => ?_)
              clear hK K
              refine held_take (i := 10) (d := 19) (v := .pointer (some ⟨b2, x2, none⟩)) rfl rfl (by kernel_rfl) (by kernel_rfl) (by kernel_rfl) (by kernel_rfl) (fun wx hS => by go_simp) HS ?_
              obtain ⟨p2, hp21, hp22⟩ := tab5 (m := 5) HT2.out (by decide) (x2 : Int) hqx20 (by show (x2 : Int) < 5; exact hqx21)
              rw [Int.toNat_natCast] at hp22
              have HZp2 := Lib.hid hp21
              have HC2 := Lib.hid hp22
              clear hp21 hp22
              refine held_mono (S' := (fun w' => ((True) ∧ w'.cell? ⟨b1, x1, none⟩ = some (.string p1)) ∧ w'.cell? ⟨b2, x2, none⟩ = some (.string p2))) (fun w' h => h.1) ?_
              have HS : (fun w' => ((True) ∧ w'.cell? ⟨b1, x1, none⟩ = some (.string p1)) ∧ w'.cell? ⟨b2, x2, none⟩ = some (.string p2)) v6 := ⟨HS, tabAt HT2.out HC2.out⟩
              refine held_take (i := 11) (d := 20) (v := .string p2) rfl rfl (by kernel_rfl) (by kernel_rfl) (by kernel_rfl) (by kernel_rfl) (fun wx hS => by have e0 := hS.2; go_simp) HS ?_
              refine wpAnyH_ready (rs := [14]) (by kernel_rfl) (by simp) (AllReadyH.cons rfl (fun K hK => ?_) AllReadyH.nil)
              have r0 := HD.out.res.cell (j := 0) (by simp)
              have r1 := HD.out.res.cell (j := 1) (by simp)
              have f0 := HD.out.res.free 0
              have f1 := HD.out.res.free 1
              simp at r0 r1
              go_simp
              have HF := Lib.hid (HD.out.fin HO.out)
              have HT1 := Lib.hid ((HT1.out.other (r := w.heap.size) (by have := HTL1.out; omega) 0 (.slice q1 n1 c1)).other (r := w.heap.size) (by have := HTL1.out; omega) 1 (.slice q2 n2 c2))
              have HT2 := Lib.hid ((HT2.out.other (r := w.heap.size) (by have := HTL2.out; omega) 0 (.slice q1 n1 c1)).other (r := w.heap.size) (by have := HTL2.out; omega) 1 (.slice q2 n2 c2))
              obtain ⟨v7, hv⟩ : ∃ x, (v6.setCell ⟨w.heap.size, 0, none⟩ (.slice q1 n1 c1)).setCell ⟨w.heap.size, 1, none⟩ (.slice q2 n2 c2) = x := ⟨_, rfl⟩
              rw [hv] at HF HT1 HT2 ⊢
              clear hv
              refine hK.out _ _ ⟨⟨trivial, tabAt HT1.out HC1.out⟩, tabAt HT2.out HC2.out⟩ (fun HS => ?_)
              clear hK K
              clear r0 r1 f0 f1
              refine held_take (i := 15) (d := 3) (v := .string p1) rfl rfl (by kernel_rfl) (by kernel_rfl) (by kernel_rfl) (by kernel_rfl) (fun wx hS => by go_simp) HS ?_
              refine held_take (i := 16) (d := 4) (v := .string p2) rfl rfl (by kernel_rfl) (by kernel_rfl) (by kernel_rfl) (by kernel_rfl) (fun wx hS => by go_simp) HS ?_
              refine held_take (i := 17) (d := 5) (v := .int .i64 z) rfl rfl (by kernel_rfl) (by kernel_rfl) (by kernel_rfl) (by kernel_rfl) (fun wx hS => by go_simp) HS ?_
              refine wpAnyH_done (by kernel_rfl) (NoPanic.normal ?_) _
              go_wp2
              have hbF := HF.out.r
              unfold Row at hbF
              exact bodyPost_ret (v := .tuple #[.agg #[.slice q1 n1 c1, .slice q2 n2 c2], .string p1, .string p2, .int .i64 z]) (by simp [results, Try.results13, go_sem, World.cell?, hbF]) rfl ⟨q1, n1, c1, q2, n2, c2, l, m, p1, p2, z, rfl, HF.out.s, HZp1.out, HF.out.b⟩
            · skip
              have r0 := HD.out.res.cell (j := 0) (by simp)
              have r1 := HD.out.res.cell (j := 1) (by simp)
              have f0 := HD.out.res.free 0
              have f1 := HD.out.res.free 1
              simp at r0 r1
              go_simp
              have HF := Lib.hid (HD.out.fin HO.out)
              have HT1 := Lib.hid ((HT1.out.other (r := w.heap.size) (by have := HTL1.out; omega) 0 (.slice q1 n1 c1)).other (r := w.heap.size) (by have := HTL1.out; omega) 1 (.slice q2 n2 c2))
              obtain ⟨v6, hv⟩ : ∃ x, (v5.setCell ⟨w.heap.size, 0, none⟩ (.slice q1 n1 c1)).setCell ⟨w.heap.size, 1, none⟩ (.slice q2 n2 c2) = x := ⟨_, rfl⟩
              rw [hv] at HF HT1 ⊢
              clear hv
              refine hK.out _ _ ⟨trivial, tabAt HT1.out HC1.out⟩ (fun HS => ?_)
              clear hK K
              clear r0 r1 f0 f1
              refine held_take (i := 15) (d := 3) (v := .string p1) rfl rfl (by kernel_rfl) (by kernel_rfl) (by kernel_rfl) (by kernel_rfl) (fun wx hS => by go_simp) HS ?_
              refine wpAnyH_ready (rs := [7]) (by kernel_rfl) (by simp) (AllReadyH.cons rfl (fun K hK => ?_) AllReadyH.nil)
              go_simp
              have HT2 := Lib.hid (Row.new v6 9 #[.string ⟨#[]⟩, .string ⟨#[97]⟩, .string ⟨#[97, 47, 49]⟩, .string ⟨#[98]⟩, .string ⟨#[122, 122]⟩])
              have HF := Lib.hid (HF.out.al (.cells #[.string ⟨#[]⟩, .string ⟨#[97]⟩, .string ⟨#[97, 47, 49]⟩, .string ⟨#[98]⟩, .string ⟨#[122, 122]⟩] 9))
              have HT1 := Lib.hid (HT1.out.alloc (.cells #[.string ⟨#[]⟩, .string ⟨#[97]⟩, .string ⟨#[97, 47, 49]⟩, .string ⟨#[98]⟩, .string ⟨#[122, 122]⟩] 9))
              obtain ⟨b2, hb⟩ : ∃ x, v6.heap.size = x := ⟨_, rfl⟩
              obtain ⟨v7, hv⟩ : ∃ x, v6.alloc (.cells #[.string ⟨#[]⟩, .string ⟨#[97]⟩, .string ⟨#[97, 47, 49]⟩, .string ⟨#[98]⟩, .string ⟨#[122, 122]⟩] 9) = x := ⟨_, rfl⟩
              rw [hb] at HT2  ⊢
              rw [hv] at HF HT1 HT2 ⊢
              clear hb hv
              refine hK.out _ _ ⟨trivial, tabAt HT1.out HC1.out⟩ (fun HS => ?_)
              clear hK K
              refine held_take (i := 10) (d := 19) (v := .pointer (some ⟨b2, x2, none⟩)) rfl rfl (by kernel_rfl) (by kernel_rfl) (by kernel_rfl) (by kernel_rfl) (fun wx hS => by go_simp) HS ?_
              obtain ⟨p2, hp21, hp22⟩ := tab5 (m := 5) HT2.out (by decide) (x2 : Int) hqx20 (by show (x2 : Int) < 5; exact hqx21)
              rw [Int.toNat_natCast] at hp22
              have HZp2 := Lib.hid hp21
              have HC2 := Lib.hid hp22
              clear hp21 hp22
              refine held_mono (S' := (fun w' => ((True) ∧ w'.cell? ⟨b1, x1, none⟩ = some (.string p1)) ∧ w'.cell? ⟨b2, x2, none⟩ = some (.string p2))) (fun w' h => h.1) ?_
              have HS : (fun w' => ((True) ∧ w'.cell? ⟨b1, x1, none⟩ = some (.string p1)) ∧ w'.cell? ⟨b2, x2, none⟩ = some (.string p2)) v7 := ⟨HS, tabAt HT2.out HC2.out⟩
              refine held_take (i := 11) (d := 20) (v := .string p2) rfl rfl (by kernel_rfl) (by kernel_rfl) (by kernel_rfl) (by kernel_rfl) (fun wx hS => by have e0 := hS.2; go_simp) HS ?_
              refine held_take (i := 16) (d := 4) (v := .string p2) rfl rfl (by kernel_rfl) (by kernel_rfl) (by kernel_rfl) (by kernel_rfl) (fun wx hS => by go_simp) HS ?_
              refine held_take (i := 17) (d := 5) (v := .int .i64 z) rfl rfl (by kernel_rfl) (by kernel_rfl) (by kernel_rfl) (by kernel_rfl) (fun wx hS => by go_simp) HS ?_
              refine wpAnyH_done (by kernel_rfl) (NoPanic.normal ?_) _
              go_wp2
              have hbF := HF.out.r
              unfold Row at hbF
              exact bodyPost_ret (v := .tuple #[.agg #[.slice q1 n1 c1, .slice q2 n2 c2], .string p1, .string p2, .int .i64 z]) (by simp [results, Try.results13, go_sem, World.cell?, hbF]) rfl ⟨q1, n1, c1, q2, n2, c2, l, m, p1, p2, z, rfl, HF.out.s, HZp1.out, HF.out.b⟩
      · skip
        go_simp
        have HT2 := Lib.hid (Row.new v2 9 #[.string ⟨#[]⟩, .string ⟨#[97]⟩, .string ⟨#[97, 47, 49]⟩, .string ⟨#[98]⟩, .string ⟨#[122, 122]⟩])
        have HTL2 := Lib.hid (show w.heap.size + 1 < v2.heap.size from HD.out.rdr.lt)
        have HD := Lib.hid (HD.out.al (.cells #[.string ⟨#[]⟩, .string ⟨#[97]⟩, .string ⟨#[97, 47, 49]⟩, .string ⟨#[98]⟩, .string ⟨#[122, 122]⟩] 9))
        have HO := Lib.hid (HO.out.al (.cells #[.string ⟨#[]⟩, .string ⟨#[97]⟩, .string ⟨#[97, 47, 49]⟩, .string ⟨#[98]⟩, .string ⟨#[122, 122]⟩] 9))
        obtain ⟨b2, hb⟩ : ∃ x, v2.heap.size = x := ⟨_, rfl⟩
        obtain ⟨v3, hv⟩ : ∃ x, v2.alloc (.cells #[.string ⟨#[]⟩, .string ⟨#[97]⟩, .string ⟨#[97, 47, 49]⟩, .string ⟨#[98]⟩, .string ⟨#[122, 122]⟩] 9) = x := ⟨_, rfl⟩
        rw [hb] at HT2 HTL2 ⊢
        rw [hv] at HD HO HT2 ⊢
        clear hb hv
        refine hK.out _ _ trivial (fun HS => ?_)
        clear hK K
        refine wpAnyH_ready (rs := [2, 9]) (by kernel_rfl) (by simp) (AllReadyH.cons rfl (fun K hK => ?_) (AllReadyH.cons rfl (fun K hK => ?_) AllReadyH.nil))
        · skip
          go_simp
          have HT1 := Lib.hid (Row.new v3 9 #[.string ⟨#[]⟩, .string ⟨#[97]⟩, .string ⟨#[97, 47]⟩, .string ⟨#[98, 47]⟩, .string ⟨#[122, 47]⟩])
          have HTL1 := Lib.hid (show w.heap.size + 1 < v3.heap.size from HD.out.rdr.lt)
          have HD := Lib.hid (HD.out.al (.cells #[.string ⟨#[]⟩, .string ⟨#[97]⟩, .string ⟨#[97, 47]⟩, .string ⟨#[98, 47]⟩, .string ⟨#[122, 47]⟩] 9))
          have HO := Lib.hid (HO.out.al (.cells #[.string ⟨#[]⟩, .string ⟨#[97]⟩, .string ⟨#[97, 47]⟩, .string ⟨#[98, 47]⟩, .string ⟨#[122, 47]⟩] 9))
          have HT2 := Lib.hid (HT2.out.alloc (.cells #[.string ⟨#[]⟩, .string ⟨#[97]⟩, .string ⟨#[97, 47]⟩, .string ⟨#[98, 47]⟩, .string ⟨#[122, 47]⟩] 9))
          obtain ⟨b1, hb⟩ : ∃ x, v3.heap.size = x := ⟨_, rfl⟩
          obtain ⟨v4, hv⟩ : ∃ x, v3.alloc (.cells #[.string ⟨#[]⟩, .string ⟨#[97]⟩, .string ⟨#[97, 47]⟩, .string ⟨#[98, 47]⟩, .string ⟨#[122, 47]⟩] 9) = x := ⟨_, rfl⟩
          rw [hb] at HT1 HTL1 ⊢
          rw [hv] at HD HO HT1 HT2 ⊢
          clear hb hv
          refine hK.out _ _ trivial (fun HS => ?_)
          clear hK K
          refine held_take (i := 5) (d := 14) (v := .pointer (some ⟨b1, x1, none⟩)) rfl rfl (by kernel_rfl) (by kernel_rfl) (by kernel_rfl) (by kernel_rfl) (fun wx hS => by go_simp) HS ?_
          obtain ⟨p1, hp11, hp12⟩ := tab5 (m := 5) HT1.out (by decide) (x1 : Int) hqx10 (by show (x1 : Int) < 5; exact hqx11)
          rw [Int.toNat_natCast] at hp12
          have HZp1 := Lib.hid hp11
          have HC1 := Lib.hid hp12
          clear hp11 hp12
          refine held_mono (S' := (fun w' => (True) ∧ w'.cell? ⟨b1, x1, none⟩ = some (.string p1))) (fun w' h => h.1) ?_
          have HS : (fun w' => (True) ∧ w'.cell? ⟨b1, x1, none⟩ = some (.string p1)) v4 := ⟨HS, tabAt HT1.out HC1.out⟩
          refine held_take (i := 6) (d := 15) (v := .string p1) rfl rfl (by kernel_rfl) (by kernel_rfl) (by kernel_rfl) (by kernel_rfl) (fun wx hS => by have e0 := hS.2; go_simp) HS ?_
          refine wpAnyH_ready (rs := [9]) (by kernel_rfl) (by simp) (AllReadyH.cons rfl (fun K hK => ?_) AllReadyH.nil)
          go_simp
          refine (below_any _ _ _ _ _ _ HD.out.rdr (by decide) (by decide)).mono ?_
          rintro e v5 ⟨⟨x, hx1, hx2, rfl⟩, hw⟩
          obtain ⟨x2, rfl⟩ : ∃ k : Nat, x = k := ⟨x.toNat, by omega⟩
          have hqx20 : (0 : Int) ≤ (x2 : Int) := by omega
          have hqx21 : (x2 : Int) < 5 := by omega
          clear hx1 hx2
          have HD := Lib.hid (HD.out.step hw)
          have HO := Lib.hid (HO.out.step hw)
          have HT1 := Lib.hid (HT1.out.grown hw.grown (by intro e; injection e with e; have := HTL1.out; omega))
          have HT2 := Lib.hid (HT2.out.grown hw.grown (by intro e; injection e with e; have := HTL2.out; omega))
          clear hw
          refine hK.out _ _ ⟨trivial, tabAt HT1.out HC1.out⟩ (fun HS => ?_)
          clear hK K
          refine held_take (i := 10) (d := 19) (v := .pointer (some ⟨b2, x2, none⟩)) rfl rfl (by kernel_rfl) (by kernel_rfl) (by kernel_rfl) (by kernel_rfl) (fun wx hS => by go_simp) HS ?_
          obtain ⟨p2, hp21, hp22⟩ := tab5 (m := 5) HT2.out (by decide) (x2 : Int) hqx20 (by show (x2 : Int) < 5; exact hqx21)
          rw [Int.toNat_natCast] at hp22
          have HZp2 := Lib.hid hp21
          have HC2 := Lib.hid hp22
          clear hp21 hp22
          refine held_mono (S' := (fun w' => ((True) ∧ w'.cell? ⟨b1, x1, none⟩ = some (.string p1)) ∧ w'.cell? ⟨b2, x2, none⟩ = some (.string p2))) (fun w' h => h.1) ?_
          have HS : (fun w' => ((True) ∧ w'.cell? ⟨b1, x1, none⟩ = some (.string p1)) ∧ w'.cell? ⟨b2, x2, none⟩ = some (.string p2)) v5 := ⟨HS, tabAt HT2.out HC2.out⟩
          refine held_take (i := 11) (d := 20) (v := .string p2) rfl rfl (by kernel_rfl) (by kernel_rfl) (by kernel_rfl) (by kernel_rfl) (fun wx hS => by have e0 := hS.2; go_simp) HS ?_
          refine wpAnyH_ready (rs := [13]) (by kernel_rfl) (by simp) (AllReadyH.cons rfl (fun K hK => ?_) AllReadyH.nil)
          go_simp
          refine (off_any _ _ _ _ _ _ _ HD.out.rdr (by decide) (by decide) (by decide)).mono ?_
          rintro e v6 ⟨⟨z, hz, rfl⟩, hw⟩
          clear hz
          have HD := Lib.hid (HD.out.step hw)
          have HO := Lib.hid (HO.out.step hw)
          have HT1 := Lib.hid (HT1.out.grown hw.grown (by intro e; injection e with e; have := HTL1.out; omega))
          have HT2 := Lib.hid (HT2.out.grown hw.grown (by intro e; injection e with e; have := HTL2.out; omega))
          clear hw
          refine hK.out _ _ ⟨⟨trivial, tabAt HT1.out HC1.out⟩, tabAt HT2.out HC2.out⟩ (fun HS => ?_)
          clear hK K
          refine wpAnyH_ready (rs := [14]) (by kernel_rfl) (by simp) (AllReadyH.cons rfl (fun K hK => ?_) AllReadyH.nil)
          have r0 := HD.out.res.cell (j := 0) (by simp)
          have r1 := HD.out.res.cell (j := 1) (by simp)
          have f0 := HD.out.res.free 0
          have f1 := HD.out.res.free 1
          simp at r0 r1
          go_simp
          have HF := Lib.hid (HD.out.fin HO.out)
          have HT1 := Lib.hid ((HT1.out.other (r := w.heap.size) (by have := HTL1.out; omega) 0 (.slice q1 n1 c1)).other (r := w.heap.size) (by have := HTL1.out; omega) 1 (.slice q2 n2 c2))
          have HT2 := Lib.hid ((HT2.out.other (r := w.heap.size) (by have := HTL2.out; omega) 0 (.slice q1 n1 c1)).other (r := w.heap.size) (by have := HTL2.out; omega) 1 (.slice q2 n2 c2))
          obtain ⟨v7, hv⟩ : ∃ x, (v6.setCell ⟨w.heap.size, 0, none⟩ (.slice q1 n1 c1)).setCell ⟨w.heap.size, 1, none⟩ (.slice q2 n2 c2) = x := ⟨_, rfl⟩
          rw [hv] at HF HT1 HT2 ⊢
          clear hv
          refine hK.out _ _ ⟨⟨trivial, tabAt HT1.out HC1.out⟩, tabAt HT2.out HC2.out⟩ (fun HS => ?_)
          clear hK K
          clear r0 r1 f0 f1
          refine held_take (i := 15) (d := 3) (v := .string p1) rfl rfl (by kernel_rfl) (by kernel_rfl) (by kernel_rfl) (by kernel_rfl) (fun wx hS => by go_simp) HS ?_
          refine held_take (i := 16) (d := 4) (v := .string p2) rfl rfl (by kernel_rfl) (by kernel_rfl) (by kernel_rfl) (by kernel_rfl) (fun wx hS => by go_simp) HS ?_
          refine held_take (i := 17) (d := 5) (v := .int .i64 z) rfl rfl (by kernel_rfl) (by kernel_rfl) (by kernel_rfl) (by kernel_rfl) (fun wx hS => by go_simp) HS ?_
          refine wpAnyH_done (by kernel_rfl) (NoPanic.normal ?_) _
          go_wp2
          have hbF := HF.out.r
          unfold Row at hbF
          exact bodyPost_ret (v := .tuple #[.agg #[.slice q1 n1 c1, .slice q2 n2 c2], .string p1, .string p2, .int .i64 z]) (by simp [results, Try.results13, go_sem, World.cell?, hbF]) rfl ⟨q1, n1, c1, q2, n2, c2, l, m, p1, p2, z, rfl, HF.out.s, HZp1.out, HF.out.b⟩
        · skip
          go_simp
          refine (below_any _ _ _ _ _ _ HD.out.rdr (by decide) (by decide)).mono ?_
          rintro e v4 ⟨⟨x, hx1, hx2, rfl⟩, hw⟩
          obtain ⟨x2, rfl⟩ : ∃ k : Nat, x = k := ⟨x.toNat, by omega⟩
          have hqx20 : (0 : Int) ≤ (x2 : Int) := by omega
          have hqx21 : (x2 : Int) < 5 := by omega
          clear hx1 hx2
          have HD := Lib.hid (HD.out.step hw)
          have HO := Lib.hid (HO.out.step hw)
          have HT2 := Lib.hid (HT2.out.grown hw.grown (by intro e; injection e with e; have := HTL2.out; omega))
          clear hw
          refine hK.out _ _ trivial (fun HS => ?_)
          clear hK K
          refine held_take (i := 10) (d := 19) (v := .pointer (some ⟨b2, x2, none⟩)) rfl rfl (by kernel_rfl) (by kernel_rfl) (by kernel_rfl) (by kernel_rfl) (fun wx hS => by go_simp) HS ?_
          obtain ⟨p2, hp21, hp22⟩ := tab5 (m := 5) HT2.out (by decide) (x2 : Int) hqx20 (by show (x2 : Int) < 5; exact hqx21)
          rw [Int.toNat_natCast] at hp22
          have HZp2 := Lib.hid hp21
          have HC2 := Lib.hid hp22
          clear hp21 hp22
          refine held_mono (S' := (fun w' => (True) ∧ w'.cell? ⟨b2, x2, none⟩ = some (.string p2))) (fun w' h => h.1) ?_
          have HS : (fun w' => (True) ∧ w'.cell? ⟨b2, x2, none⟩ = some (.string p2)) v4 := ⟨HS, tabAt HT2.out HC2.out⟩
          refine held_take (i := 11) (d := 20) (v := .string p2) rfl rfl (by kernel_rfl) (by kernel_rfl) (by kernel_rfl) (by kernel_rfl) (fun wx hS => by have e0 := hS.2; go_simp) HS ?_
          refine wpAnyH_ready (rs := [2, 13]) (by kernel_rfl) (by simp) (AllReadyH.cons rfl (fun K hK => ?_) (AllReadyH.cons rfl (fun K hK => ?_) AllReadyH.nil))
          · skip
            go_simp
            have HT1 := Lib.hid (Row.new v4 9 #[.string ⟨#[]⟩, .string ⟨#[97]⟩, .string ⟨#[97, 47]⟩, .string ⟨#[98, 47]⟩, .string ⟨#[122, 47]⟩])
            have HTL1 := Lib.hid (show w.heap.size + 1 < v4.heap.size from HD.out.rdr.lt)
            have HD := Lib.hid (HD.out.al (.cells #[.string ⟨#[]⟩, .string ⟨#[97]⟩, .string ⟨#[97, 47]⟩, .string ⟨#[98, 47]⟩, .string ⟨#[122, 47]⟩] 9))
            have HO := Lib.hid (HO.out.al (.cells #[.string ⟨#[]⟩, .string ⟨#[97]⟩, .string ⟨#[97, 47]⟩, .string ⟨#[98, 47]⟩, .string ⟨#[122, 47]⟩] 9))
            have HT2 := Lib.hid (HT2.out.alloc (.cells #[.string ⟨#[]⟩, .string ⟨#[97]⟩, .string ⟨#[97, 47]⟩, .string ⟨#[98, 47]⟩, .string ⟨#[122, 47]⟩] 9))
            obtain ⟨b1, hb⟩ : ∃ x, v4.heap.size = x := ⟨_, rfl⟩
            obtain ⟨v5, hv⟩ : ∃ x, v4.alloc (.cells #[.string ⟨#[]⟩, .string ⟨#[97]⟩, .string ⟨#[97, 47]⟩, .string ⟨#[98, 47]⟩, .string ⟨#[122, 47]⟩] 9) = x := ⟨_, rfl⟩
            rw [hb] at HT1 HTL1 ⊢
            rw [hv] at HD HO HT1 HT2 ⊢
            clear hb hv
            refine hK.out _ _ ⟨trivial, tabAt HT2.out HC2.out⟩ (fun HS => ?_)
            clear hK K
            refine held_take (i := 5) (d := 14) (v := .pointer (some ⟨b1, x1, none⟩)) rfl rfl (by kernel_rfl) (by kernel_rfl) (by kernel_rfl) (by kernel_rfl) (fun wx hS => by go_simp) HS ?_
            obtain ⟨p1, hp11, hp12⟩ := tab5 (m := 5) HT1.out (by decide) (x1 : Int) hqx10 (by show (x1 : Int) < 5; exact hqx11)
            rw [Int.toNat_natCast] at hp12
            have HZp1 := Lib.hid hp11
            have HC1 := Lib.hid hp12
            clear hp11 hp12
            refine held_mono (S' := (fun w' => ((True) ∧ w'.cell? ⟨b2, x2, none⟩ = some (.string p2)) ∧ w'.cell? ⟨b1, x1, none⟩ = some (.string p1))) (fun w' h => h.1) ?_
            have HS : (fun w' => ((True) ∧ w'.cell? ⟨b2, x2, none⟩ = some (.string p2)) ∧ w'.cell? ⟨b1, x1, none⟩ = some (.string p1)) v5 := ⟨HS, tabAt HT1.out HC1.out⟩
            refine held_take (i := 6) (d := 15) (v := .string p1) rfl rfl (by kernel_rfl) (by kernel_rfl) (by kernel_rfl) (by kernel_rfl) (fun wx hS => by have e0 := hS.2; go_simp) HS ?_
            refine wpAnyH_ready (rs := [13]) (by kernel_rfl) (by simp) (AllReadyH.cons rfl (fun K hK => ?_) AllReadyH.nil)
            go_simp
            refine (off_any _ _ _ _ _ _ _ HD.out.rdr (by decide) (by decide) (by decide)).mono ?_
            rintro e v6 ⟨⟨z, hz, rfl⟩, hw⟩
            clear hz
            have HD := Lib.hid (HD.out.step hw)
            have HO := Lib.hid (HO.out.step hw)
            have HT1 := Lib.hid (HT1.out.grown hw.grown (by intro e; injection e with e; have := HTL1.out; omega))
            have HT2 := Lib.hid (HT2.out.grown hw.grown (by intro e; injection e with e; have := HTL2.out; omega))
            clear hw
            refine hK.out _ _ ⟨⟨trivial, tabAt HT2.out HC2.out⟩, tabAt HT1.out HC1.out⟩ (fun HS => ?_)
            clear hK K
            refine wpAnyH_ready (rs := [14]) (by kernel_rfl) (by simp) (AllReadyH.cons rfl (fun K hK => ?_) AllReadyH.nil)
            have r0 := HD.out.res.cell (j := 0) (by simp)
            have r1 := HD.out.res.cell (j := 1) (by simp)
            have f0 := HD.out.res.free 0
            have f1 := HD.out.res.free 1
            simp at r0 r1
            go_simp
            have HF := Lib.hid (HD.out.fin HO.out)
            have HT1 := Lib.hid ((HT1.out.other (r := w.heap.size) (by have := HTL1.out; omega) 0 (.slice q1 n1 c1)).other (r := w.heap.size) (by have := HTL1.out; omega) 1 (.slice q2 n2 c2))
            have HT2 := Lib.hid ((HT2.out.other (r := w.heap.size) (by have := HTL2.out; omega) 0 (.slice q1 n1 c1)).other (r := w.heap.size) (by have := HTL2.out; omega) 1 (.slice q2 n2 c2))
            obtain ⟨v7, hv⟩ : ∃ x, (v6.setCell ⟨w.heap.size, 0, none⟩ (.slice q1 n1 c1)).setCell ⟨w.heap.size, 1, none⟩ (.slice q2 n2 c2) = x := ⟨_, rfl⟩
            rw [hv] at HF HT1 HT2 ⊢
            clear hv
            refine hK.out _ _ ⟨⟨trivial, tabAt HT2.out HC2.out⟩, tabAt HT1.out HC1.out⟩ (fun HS => ?_)
            clear hK K
            clear r0 r1 f0 f1
            refine held_take (i := 15) (d := 3) (v := .string p1) rfl rfl (by kernel_rfl) (by kernel_rfl) (by kernel_rfl) (by kernel_rfl) (fun wx hS => by go_simp) HS ?_
            refine held_take (i := 16) (d := 4) (v := .string p2) rfl rfl (by kernel_rfl) (by kernel_rfl) (by kernel_rfl) (by kernel_rfl) (fun wx hS => by go_simp) HS ?_
            refine held_take (i := 17) (d := 5) (v := .int .i64 z) rfl rfl (by kernel_rfl) (by kernel_rfl) (by kernel_rfl) (by kernel_rfl) (fun wx hS => by go_simp) HS ?_
            refine wpAnyH_done (by kernel_rfl) (NoPanic.normal ?_) _
            go_wp2
            have hbF := HF.out.r
            unfold Row at hbF
            exact bodyPost_ret (v := .tuple #[.agg #[.slice q1 n1 c1, .slice q2 n2 c2], .string p1, .string p2, .int .i64 z]) (by simp [results, Try.results13, go_sem, World.cell?, hbF]) rfl ⟨q1, n1, c1, q2, n2, c2, l, m, p1, p2, z, rfl, HF.out.s, HZp1.out, HF.out.b⟩
          · skip
            go_simp
            refine (off_any _ _ _ _ _ _ _ HD.out.rdr (by decide) (by decide) (by decide)).mono ?_
            rintro e v5 ⟨⟨z, hz, rfl⟩, hw⟩
            clear hz
            have HD := Lib.hid (HD.out.step hw)
            have HO := Lib.hid (HO.out.step hw)
            have HT2 := Lib.hid (HT2.out.grown hw.grown (by intro e; injection e with e; have := HTL2.out; omega))
            clear hw
            refine hK.out _ _ ⟨trivial, tabAt HT2.out HC2.out⟩ (fun HS => ?_)
            clear hK K
            refine wpAnyH_ready (rs := [2, 14]) (by kernel_rfl) (by simp) (AllReadyH.cons rfl (fun K hK => ?_) (AllReadyH.cons rfl (fun K hK => ?_) AllReadyH.nil))
            · skip
              go_simp
              have HT1 := Lib.hid (Row.new v5 9 #[.string ⟨#[]⟩, .string ⟨#[97]⟩, .string ⟨#[97, 47]⟩, .string ⟨#[98, 47]⟩, .string ⟨#[122, 47]⟩])
              have HTL1 := Lib.hid (show w.heap.size + 1 < v5.heap.size from HD.out.rdr.lt)
              have HD := Lib.hid (HD.out.al (.cells #[.string ⟨#[]⟩, .string ⟨#[97]⟩, .string ⟨#[97, 47]⟩, .string ⟨#[98, 47]⟩, .string ⟨#[122, 47]⟩] 9))
              have HO := Lib.hid (HO.out.al (.cells #[.string ⟨#[]⟩, .string ⟨#[97]⟩, .string ⟨#[97, 47]⟩, .string ⟨#[98, 47]⟩, .string ⟨#[122, 47]⟩] 9))
              have HT2 := Lib.hid (HT2.out.alloc (.cells #[.string ⟨#[]⟩, .string ⟨#[97]⟩, .string ⟨#[97, 47]⟩, .string ⟨#[98, 47]⟩, .string ⟨#[122, 47]⟩] 9))
              obtain ⟨b1, hb⟩ : ∃ x, v5.heap.size = x := ⟨_, rfl⟩
              obtain ⟨v6, hv⟩ : ∃ x, v5.alloc (.cells #[.string ⟨#[]⟩, .string ⟨#[97]⟩, .string ⟨#[97, 47]⟩, .string ⟨#[98, 47]⟩, .string ⟨#[122, 47]⟩] 9) = x := ⟨_, rfl⟩
              rw [hb] at HT1 HTL1 ⊢
              rw [hv] at HD HO HT1 HT2 ⊢
              clear hb hv
              refine hK.out _ _ ⟨trivial, tabAt HT2.out HC2.out⟩ (fun HS => ?_)
              clear hK K
              refine held_take (i := 5) (d := 14) (v := .pointer (some ⟨b1, x1, none⟩)) rfl rfl (by kernel_rfl) (by kernel_rfl) (by kernel_rfl) (by kernel_rfl) (fun wx hS => by go_simp) HS ?_
              obtain ⟨p1, hp11, hp12⟩ := tab5 (m := 5) HT1.out (by decide) (x1 : Int) hqx10 (by show (x1 : Int) < 5; exact hqx11)
              rw [Int.toNat_natCast] at hp12
              have HZp1 := Lib.hid hp11
              have HC1 := Lib.hid hp12
              clear hp11 hp12
              refine held_mono (S' := (fun w' => ((True) ∧ w'.cell? ⟨b2, x2, none⟩ = some (.string p2)) ∧ w'.cell? ⟨b1, x1, none⟩ = some (.string p1))) (fun w' h => h.1) ?_
              have HS : (fun w' => ((True) ∧ w'.cell? ⟨b2, x2, none⟩ = some (.string p2)) ∧ w'.cell? ⟨b1, x1, none⟩ = some (.string p1)) v6 := ⟨HS, tabAt HT1.out HC1.out⟩
              refine held_take (i := 6) (d := 15) (v := .string p1) rfl rfl (by kernel_rfl) (by kernel_rfl) (by kernel_rfl) (by kernel_rfl) (fun wx hS => by have e0 := hS.2; go_simp) HS ?_
              refine wpAnyH_ready (rs := [14]) (by kernel_rfl) (by simp) (AllReadyH.cons rfl (fun K hK => ?_) AllReadyH.nil)
              have r0 := HD.out.res.cell (j := 0) (by simp)
              have r1 := HD.out.res.cell (j := 1) (by simp)
              have f0 := HD.out.res.free 0
              have f1 := HD.out.res.free 1
              simp at r0 r1
              go_simp
              have HF := Lib.hid (HD.out.fin HO.out)
              have HT1 := Lib.hid ((HT1.out.other (r := w.heap.size) (by have := HTL1.out; omega) 0 (.slice q1 n1 c1)).other (r := w.heap.size) (by have := HTL1.out; omega) 1 (.slice q2 n2 c2))
              have HT2 := Lib.hid ((HT2.out.other (r := w.heap.size) (by have := HTL2.out; omega) 0 (.slice q1 n1 c1)).other (r := w.heap.size) (by have := HTL2.out; omega) 1 (.slice q2 n2 c2))
              obtain ⟨v7, hv⟩ : ∃ x, (v6.setCell ⟨w.heap.size, 0, none⟩ (.slice q1 n1 c1)).setCell ⟨w.heap.size, 1, none⟩ (.slice q2 n2 c2) = x := ⟨_, rfl⟩
              rw [hv] at HF HT1 HT2 ⊢
              clear hv
              refine hK.out _ _ ⟨⟨trivial, tabAt HT2.out HC2.out⟩, tabAt HT1.out HC1.out⟩ (fun HS => ?_)
              clear hK K
              clear r0 r1 f0 f1
              refine held_take (i := 15) (d := 3) (v := .string p1) rfl rfl (by kernel_rfl) (by kernel_rfl) (by kernel_rfl) (by kernel_rfl) (fun wx hS => by go_simp) HS ?_
              refine held_take (i := 16) (d := 4) (v := .string p2) rfl rfl (by kernel_rfl) (by kernel_rfl) (by kernel_rfl) (by kernel_rfl) (fun wx hS => by go_simp) HS ?_
              refine held_take (i := 17) (d := 5) (v := .int .i64 z) rfl rfl (by kernel_rfl) (by kernel_rfl) (by kernel_rfl) (by kernel_rfl) (fun wx hS => by go_simp) HS ?_
              refine wpAnyH_done (by kernel_rfl) (NoPanic.normal ?_) _
              go_wp2
              have hbF := HF.out.r
              unfold Row at hbF
              exact bodyPost_ret (v := .tuple #[.agg #[.slice q1 n1 c1, .slice q2 n2 c2], .string p1, .string p2, .int .i64 z]) (by simp [results, Try.results13, go_sem, World.cell?, hbF]) rfl ⟨q1, n1, c1, q2, n2, c2, l, m, p1, p2, z, rfl, HF.out.s, HZp1.out, HF.out.b⟩
            · skip
              have r0 := HD.out.res.cell (j := 0) (by simp)
              have r1 := HD.out.res.cell (j := 1) (by simp)
              have f0 := HD.out.res.free 0
              have f1 := HD.out.res.free 1
              simp at r0 r1
              go_simp
              have HF := Lib.hid (HD.out.fin HO.out)
              have HT2 := Lib.hid ((HT2.out.other (r := w.heap.size) (by have := HTL2.out; omega) 0 (.slice q1 n1 c1)).other (r := w.heap.size) (by have := HTL2.out; omega) 1 (.slice q2 n2 c2))
              obtain ⟨v6, hv⟩ : ∃ x, (v5.setCell ⟨w.heap.size, 0, none⟩ (.slice q1 n1 c1)).setCell ⟨w.heap.size, 1, none⟩ (.slice q2 n2 c2) = x := ⟨_, rfl⟩
              rw [hv] at HF HT2 ⊢
              clear hv
              refine hK.out _ _ ⟨trivial, tabAt HT2.out HC2.out⟩ (fun HS => ?_)
              clear hK K
              clear r0 r1 f0 f1
              refine wpAnyH_ready (rs := [2]) (by kernel_rfl) (by simp) (AllReadyH.cons rfl (fun K hK => ?_) AllReadyH.nil)
              go_simp
              have HT1 := Lib.hid (Row.new v6 9 #[.string ⟨#[]⟩, .string ⟨#[97]⟩, .string ⟨#[97, 47]⟩, .string ⟨#[98, 47]⟩, .string ⟨#[122, 47]⟩])
              have HF := Lib.hid (HF.out.al (.cells #[.string ⟨#[]⟩, .string ⟨#[97]⟩, .string ⟨#[97, 47]⟩, .string ⟨#[98, 47]⟩, .string ⟨#[122, 47]⟩] 9))
              have HT2 := Lib.hid (HT2.out.alloc (.cells #[.string ⟨#[]⟩, .string ⟨#[97]⟩, .string ⟨#[97, 47]⟩, .string ⟨#[98, 47]⟩, .string ⟨#[122, 47]⟩] 9))
              obtain ⟨b1, hb⟩ : ∃ x, v6.heap.size = x := ⟨_, rfl⟩
              obtain ⟨v7, hv⟩ : ∃ x, v6.alloc (.cells #[.string ⟨#[]⟩, .string ⟨#[97]⟩, .string ⟨#[97, 47]⟩, .string ⟨#[98, 47]⟩, .string ⟨#[122, 47]⟩] 9) = x := ⟨_, rfl⟩
              rw [hb] at HT1  ⊢
              rw [hv] at HF HT1 HT2 ⊢
              clear hb hv
              refine hK.out _ _ ⟨trivial, tabAt HT2.out HC2.out⟩ (fun HS => ?_)
              clear hK K
              refine held_take (i := 5) (d := 14) (v := .pointer (some ⟨b1, x1, none⟩)) rfl rfl (by kernel_rfl) (by kernel_rfl) (by kernel_rfl) (by kernel_rfl) (fun wx hS => by go_simp) HS ?_
              obtain ⟨p1, hp11, hp12⟩ := tab5 (m := 5) HT1.out (by decide) (x1 : Int) hqx10 (by show (x1 : Int) < 5; exact hqx11)
              rw [Int.toNat_natCast] at hp12
              have HZp1 := Lib.hid hp11
              have HC1 := Lib.hid hp12
              clear hp11 hp12
              refine held_mono (S' := (fun w' => ((True) ∧ w'.cell? ⟨b2, x2, none⟩ = some (.string p2)) ∧ w'.cell? ⟨b1, x1, none⟩ = some (.string p1))) (fun w' h => h.1) ?_
              have HS : (fun w' => ((True) ∧ w'.cell? ⟨b2, x2, none⟩ = some (.string p2)) ∧ w'.cell? ⟨b1, x1, none⟩ = some (.string p1)) v7 := ⟨HS, tabAt HT1.out HC1.out⟩
              refine held_take (i := 6) (d := 15) (v := .string p1) rfl rfl (by kernel_rfl) (by kernel_rfl) (by kernel_rfl) (by kernel_rfl) (fun wx hS => by have e0 := hS.2; go_simp) HS ?_
              refine held_take (i := 15) (d := 3) (v := .string p1) rfl rfl (by kernel_rfl) (by kernel_rfl) (by kernel_rfl) (by kernel_rfl) (fun wx hS => by go_simp) HS ?_
              refine held_take (i := 16) (d := 4) (v := .string p2) rfl rfl (by kernel_rfl) (by kernel_rfl) (by kernel_rfl) (by kernel_rfl) (fun wx hS => by go_simp) HS ?_
              refine held_take (i := 17) (d := 5) (v := .int .i64 z) rfl rfl (by kernel_rfl) (by kernel_rfl) (by kernel_rfl) (by kernel_rfl) (fun wx hS => by go_simp) HS ?_
              refine wpAnyH_done (by kernel_rfl) (NoPanic.normal ?_) _
              go_wp2
              have hbF := HF.out.r
              unfold Row at hbF
              exact bodyPost_ret (v := .tuple #[.agg #[.slice q1 n1 c1, .slice q2 n2 c2], .string p1, .string p2, .int .i64 z]) (by simp [results, Try.results13, go_sem, World.cell?, hbF]) rfl ⟨q1, n1, c1, q2, n2, c2, l, m, p1, p2, z, rfl, HF.out.s, HZp1.out, HF.out.b⟩
      · skip
        go_simp
        refine (below_any _ _ _ _ _ _ HD.out.rdr (by decide) (by decide)).mono ?_
        rintro e v3 ⟨⟨x, hx1, hx2, rfl⟩, hw⟩
        obtain ⟨x2, rfl⟩ : ∃ k : Nat, x = k := ⟨x.toNat, by omega⟩
        have hqx20 : (0 : Int) ≤ (x2 : Int) := by omega
        have hqx21 : (x2 : Int) < 5 := by omega
        clear hx1 hx2
        have HD := Lib.hid (HD.out.step hw)
        have HO := Lib.hid (HO.out.step hw)
        clear hw
        refine hK.out _ _ trivial (fun HS => ?_)
        clear hK K
        refine wpAnyH_ready (rs := [2, 7, 13]) (by kernel_rfl) (by simp) (AllReadyH.cons rfl (fun K hK => ?_) (AllReadyH.cons rfl (fun K hK => ?_) (AllReadyH.cons rfl (fun K hK => ?_) AllReadyH.nil)))
        · skip
          go_simp
          have HT1 := Lib.hid (Row.new v3 9 #[.string ⟨#[]⟩, .string ⟨#[97]⟩, .string ⟨#[97, 47]⟩, .string ⟨#[98, 47]⟩, .string ⟨#[122, 47]⟩])
          have HTL1 := Lib.hid (show w.heap.size + 1 < v3.heap.size from HD.out.rdr.lt)
          have HD := Lib.hid (HD.out.al (.cells #[.string ⟨#[]⟩, .string ⟨#[97]⟩, .string ⟨#[97, 47]⟩, .string ⟨#[98, 47]⟩, .string ⟨#[122, 47]⟩] 9))
          have HO := Lib.hid (HO.out.al (.cells #[.string ⟨#[]⟩, .string ⟨#[97]⟩, .string ⟨#[97, 47]⟩, .string ⟨#[98, 47]⟩, .string ⟨#[122, 47]⟩] 9))
          obtain ⟨b1, hb⟩ : ∃ x, v3.heap.size = x := ⟨_, rfl⟩
          obtain ⟨v4, hv⟩ : ∃ x, v3.alloc (.cells #[.string ⟨#[]⟩, .string ⟨#[97]⟩, .string ⟨#[97, 47]⟩, .string ⟨#[98, 47]⟩, .string ⟨#[122, 47]⟩] 9) = x := ⟨_, rfl⟩
          rw [hb] at HT1 HTL1 ⊢
          rw [hv] at HD HO HT1 ⊢
          clear hb hv
          refine hK.out _ _ trivial (fun HS => ?_)
          clear hK K
          refine held_take (i := 5) (d := 14) (v := .pointer (some ⟨b1, x1, none⟩)) rfl rfl (by kernel_rfl) (by kernel_rfl) (by kernel_rfl) (by kernel_rfl) (fun wx hS => by go_simp) HS ?_
          obtain ⟨p1, hp11, hp12⟩ := tab5 (m := 5) HT1.out (by decide) (x1 : Int) hqx10 (by show (x1 : Int) < 5; exact hqx11)
          rw [Int.toNat_natCast] at hp12
          have HZp1 := Lib.hid hp11
          have HC1 := Lib.hid hp12
          clear hp11 hp12
          refine held_mono (S' := (fun w' => (True) ∧ w'.cell? ⟨b1, x1, none⟩ = some (.string p1))) (fun w' h => h.1) ?_
          have HS : (fun w' => (True) ∧ w'.cell? ⟨b1, x1, none⟩ = some (.string p1)) v4 := ⟨HS, tabAt HT1.out HC1.out⟩
          refine held_take (i := 6) (d := 15) (v := .string p1) rfl rfl (by kernel_rfl) (by kernel_rfl) (by kernel_rfl) (by kernel_rfl) (fun wx hS => by have e0 := hS.2; go_simp) HS ?_
          refine wpAnyH_ready (rs := [7, 13]) (by kernel_rfl) (by simp) (AllReadyH.cons rfl (fun K hK => ?_) (AllReadyH.cons rfl (fun K hK => ?_) AllReadyH.nil))
          · skip
            go_simp
            have HT2 := Lib.hid (Row.new v4 9 #[.string ⟨#[]⟩, .string ⟨#[97]⟩, .string ⟨#[97, 47, 49]⟩, .string ⟨#[98]⟩, .string ⟨#[122, 122]⟩])
            have HTL2 := Lib.hid (show w.heap.size + 1 < v4.heap.size from HD.out.rdr.lt)
            have HD := Lib.hid (HD.out.al (.cells #[.string ⟨#[]⟩, .string ⟨#[97]⟩, .string ⟨#[97, 47, 49]⟩, .string ⟨#[98]⟩, .string ⟨#[122, 122]⟩] 9))
            have HO := Lib.hid (HO.out.al (.cells #[.string ⟨#[]⟩, .string ⟨#[97]⟩, .string ⟨#[97, 47, 49]⟩, .string ⟨#[98]⟩, .string ⟨#[122, 122]⟩] 9))
            have HT1 := Lib.hid (HT1.out.alloc (.cells #[.string ⟨#[]⟩, .string ⟨#[97]⟩, .string ⟨#[97, 47, 49]⟩, .string ⟨#[98]⟩, .string ⟨#[122, 122]⟩] 9))
            obtain ⟨b2, hb⟩ : ∃ x, v4.heap.size = x := ⟨_, rfl⟩
            obtain ⟨v5, hv⟩ : ∃ x, v4.alloc (.cells #[.string ⟨#[]⟩, .string ⟨#[97]⟩, .string ⟨#[97, 47, 49]⟩, .string ⟨#[98]⟩, .string ⟨#[122, 122]⟩] 9) = x := ⟨_, rfl⟩
            rw [hb] at HT2 HTL2 ⊢
            rw [hv] at HD HO HT1 HT2 ⊢
            clear hb hv
            refine hK.out _ _ ⟨trivial, tabAt HT1.out HC1.out⟩ (fun HS => ?_)
            clear hK K
            refine held_take (i := 10) (d := 19) (v := .pointer (some ⟨b2, x2, none⟩)) rfl rfl (by kernel_rfl) (by kernel_rfl) (by kernel_rfl) (by kernel_rfl) (fun wx hS => by go_simp) HS ?_
            obtain ⟨p2, hp21, hp22⟩ := tab5 (m := 5) HT2.out (by decide) (x2 : Int) hqx20 (by show (x2 : Int) < 5; exact hqx21)
            rw [Int.toNat_natCast] at hp22
            have HZp2 := Lib.hid hp21
            have HC2 := Lib.hid hp22
            clear hp21 hp22
            refine held_mono (S' := (fun w' => ((True) ∧ w'.cell? ⟨b1, x1, none⟩ = some (.string p1)) ∧ w'.cell? ⟨b2, x2, none⟩ = some (.string p2))) (fun w' h => h.1) ?_
            have HS : (fun w' => ((True) ∧ w'.cell? ⟨b1, x1, none⟩ = some (.string p1)) ∧ w'.cell? ⟨b2, x2, none⟩ = some (.string p2)) v5 := ⟨HS, tabAt HT2.out HC2.out⟩
            refine held_take (i := 11) (d := 20) (v := .string p2) rfl rfl (by kernel_rfl) (by kernel_rfl) (by kernel_rfl) (by kernel_rfl) (fun wx hS => by have e0 := hS.2; go_simp) HS ?_
            refine wpAnyH_ready (rs := [13]) (by kernel_rfl) (by simp) (AllReadyH.cons rfl (fun K hK => ?_) AllReadyH.nil)
            go_simp
            refine (off_any _ _ _ _ _ _ _ HD.out.rdr (by decide) (by decide) (by decide)).mono ?_
            rintro e v6 ⟨⟨z, hz, rfl⟩, hw⟩
            clear hz
            have HD := Lib.hid (HD.out.step hw)
            have HO := Lib.hid (HO.out.step hw)
            have HT1 := Lib.hid (HT1.out.grown hw.grown (by intro e; injection e with e; have := HTL1.out; omega))
            have HT2 := Lib.hid (HT2.out.grown hw.grown (by intro e; injection e with e; have := HTL2.out; omega))
            clear hw
            refine hK.out _ _ ⟨⟨trivial, tabAt HT1.out HC1.out⟩, tabAt HT2.out HC2.out⟩ (fun HS => ?_)
            clear hK K
            refine wpAnyH_ready (rs := [14]) (by kernel_rfl) (by simp) (AllReadyH.cons rfl (fun K hK => ?_) AllReadyH.nil)
            have r0 := HD.out.res.cell (j := 0) (by simp)
            have r1 := HD.out.res.cell (j := 1) (by simp)
            have f0 := HD.out.res.free 0
            have f1 := HD.out.res.free 1
            simp at r0 r1
            go_simp
            have HF := Lib.hid (HD.out.fin HO.out)
            have HT1 := Lib.hid ((HT1.out.other (r := w.heap.size) (by have := HTL1.out; omega) 0 (.slice q1 n1 c1)).other (r := w.heap.size) (by have := HTL1.out; omega) 1 (.slice q2 n2 c2))
            have HT2 := Lib.hid ((HT2.out.other (r := w.heap.size) (by have := HTL2.out; omega) 0 (.slice q1 n1 c1)).other (r := w.heap.size) (by have := HTL2.out; omega) 1 (.slice q2 n2 c2))
            obtain ⟨v7, hv⟩ : ∃ x, (v6.setCell ⟨w.heap.size, 0, none⟩ (.slice q1 n1 c1)).setCell ⟨w.heap.size, 1, none⟩ (.slice q2 n2 c2) = x := ⟨_, rfl⟩
            rw [hv] at HF HT1 HT2 ⊢
            clear hv
            refine hK.out _ _ ⟨⟨trivial, tabAt HT1.out HC1.out⟩, tabAt HT2.out HC2.out⟩ (fun HS => ?_)
            clear hK K
            clear r0 r1 f0 f1
            refine held_take (i := 15) (d := 3) (v := .string p1) rfl rfl (by kernel_rfl) (by kernel_rfl) (by kernel_rfl) (by kernel_rfl) (fun wx hS => by go_simp) HS ?_
            refine held_take (i := 16) (d := 4) (v := .string p2) rfl rfl (by kernel_rfl) (by kernel_rfl) (by kernel_rfl) (by kernel_rfl) (fun wx hS => by go_simp) HS ?_
            refine held_take (i := 17) (d := 5) (v := .int .i64 z) rfl rfl (by kernel_rfl) (by kernel_rfl) (by kernel_rfl) (by kernel_rfl) (fun wx hS => by go_simp) HS ?_
            refine wpAnyH_done (by kernel_rfl) (NoPanic.normal ?_) _
            go_wp2
            have hbF := HF.out.r
            unfold Row at hbF
            exact bodyPost_ret (v := .tuple #[.agg #[.slice q1 n1 c1, .slice q2 n2 c2], .string p1, .string p2, .int .i64 z]) (by simp [results, Try.results13, go_sem, World.cell?, hbF]) rfl ⟨q1, n1, c1, q2, n2, c2, l, m, p1, p2, z, rfl, HF.out.s, HZp1.out, HF.out.b⟩
          · skip
            go_simp
            refine (off_any _ _ _ _ _ _ _ HD.out.rdr (by decide) (by decide) (by decide)).mono ?_
            rintro e v5 ⟨⟨z, hz, rfl⟩, hw⟩
            clear hz
            have HD := Lib.hid (HD.out.step hw)
            have HO := Lib.hid (HO.out.step hw)
            have HT1 := Lib.hid (HT1.out.grown hw.grown (by intro e; injection e with e; have := HTL1.out; omega))
            clear hw
            refine hK.out _ _ ⟨trivial, tabAt HT1.out HC1.out⟩ (fun HS => ?_)
            clear hK K
            refine wpAnyH_ready (rs := [7, 14]) (by kernel_rfl) (by simp) (AllReadyH.cons rfl (fun K hK => ?_) (AllReadyH.cons rfl (fun K hK => ?_) AllReadyH.nil))
            · skip
              go_simp
              have HT2 := Lib.hid (Row.new v5 9 #[.string ⟨#[]⟩, .string ⟨#[97]⟩, .string ⟨#[97, 47, 49]⟩, .string ⟨#[98]⟩, .string ⟨#[122, 122]⟩])
              have HTL2 := Lib.hid (show w.heap.size + 1 < v5.heap.size from HD.out.rdr.lt)
              have HD := Lib.hid (HD.out.al (.cells #[.string ⟨#[]⟩, .string ⟨#[97]⟩, .string ⟨#[97, 47, 49]⟩, .string ⟨#[98]⟩, .string ⟨#[122, 122]⟩] 9))
              have HO := Lib.hid (HO.out.al (.cells #[.string ⟨#[]⟩, .string ⟨#[97]⟩, .string ⟨#[97, 47, 49]⟩, .string ⟨#[98]⟩, .string ⟨#[122, 122]⟩] 9))
              have HT1 := Lib.hid (HT1.out.alloc (.cells #[.string ⟨#[]⟩, .string ⟨#[97]⟩, .string ⟨#[97, 47, 49]⟩, .string ⟨#[98]⟩, .string ⟨#[122, 122]⟩] 9))
              obtain ⟨b2, hb⟩ : ∃ x, v5.heap.size = x := ⟨_, rfl⟩
              obtain ⟨v6, hv⟩ : ∃ x, v5.alloc (.cells #[.string ⟨#[]⟩, .string ⟨#[97]⟩, .string ⟨#[97, 47, 49]⟩, .string ⟨#[98]⟩, .string ⟨#[122, 122]⟩] 9) = x := ⟨_, rfl⟩
              rw [hb] at HT2 HTL2 ⊢
              rw [hv] at HD HO HT1 HT2 ⊢
              clear hb hv
              refine hK.out _ _ ⟨trivial, tabAt HT1.out HC1.out⟩ (fun HS => ?_)
              clear hK K
              refine held_take (i := 10) (d := 19) (v := .pointer (some ⟨b2, x2, none⟩)) rfl rfl (by kernel_rfl) (by kernel_rfl) (by kernel_rfl) (by kernel_rfl) (fun wx hS => by go_simp) HS ?_
              obtain ⟨p2, hp21, hp22⟩ := tab5 (m := 5) HT2.out (by decide) (x2 : Int) hqx20 (by show (x2 : Int) < 5; exact hqx21)
              rw [Int.toNat_natCast] at hp22
              have HZp2 := Lib.hid hp21
              have HC2 := Lib.hid hp22
              clear hp21 hp22
              refine held_mono (S' := (fun w' => ((True) ∧ w'.cell? ⟨b1, x1, none⟩ = some (.string p1)) ∧ w'.cell? ⟨b2, x2, none⟩ = some (.string p2))) (fun w' h => h.1) ?_
              have HS : (fun w' => ((True) ∧ w'.cell? ⟨b1, x1, none⟩ = some (.string p1)) ∧ w'.cell? ⟨b2, x2, none⟩ = some (.string p2)) v6 := ⟨HS, tabAt HT2.out HC2.out⟩
              refine held_take (i := 11) (d := 20) (v := .string p2) rfl rfl (by kernel_rfl) (by kernel_rfl) (by kernel_rfl) (by kernel_rfl) (fun wx hS => by have e0 := hS.2; go_simp) HS ?_
              refine wpAnyH_ready (rs := [14]) (by kernel_rfl) (by simp) (AllReadyH.cons rfl (fun K hK => ?_) AllReadyH.nil)
              have r0 := HD.out.res.cell (j := 0) (by simp)
              have r1 := HD.out.res.cell (j := 1) (by simp)
              have f0 := HD.out.res.free 0
              have f1 := HD.out.res.free 1
              simp at r0 r1
              go_simp
              have HF := Lib.hid (HD.out.fin HO.out)
              have HT1 := Lib.hid ((HT1.out.other (r := w.heap.size) (by have := HTL1.out; omega) 0 (.slice q1 n1 c1)).other (r := w.heap.size) (by have := HTL1.out; omega) 1 (.slice q2 n2 c2))
              have HT2 := Lib.hid ((HT2.out.other (r := w.heap.size) (by have := HTL2.out; omega) 0 (.slice q1 n1 c1)).other (r := w.heap.size) (by have := HTL2.out; omega) 1 (.slice q2 n2 c2))
              obtain ⟨v7, hv⟩ : ∃ x, (v6.setCell ⟨w.heap.size, 0, none⟩ (.slice q1 n1 c1)).setCell ⟨w.heap.size, 1, none⟩ (.slice q2 n2 c2) = x := ⟨_, rfl⟩
              rw [hv] at HF HT1 HT2 ⊢
              clear hv
              refine hK.out _ _ ⟨⟨trivial, tabAt HT1.out HC1.out⟩, tabAt HT2.out HC2.out⟩ (fun HS => ?_)
              clear hK K
              clear r0 r1 f0 f1
              refine held_take (i := 15) (d := 3) (v := .string p1) rfl rfl (by kernel_rfl) (by kernel_rfl) (by kernel_rfl) (by kernel_rfl) (fun wx hS => by go_simp) HS ?_
              refine held_take (i := 16) (d := 4) (v := .string p2) rfl rfl (by kernel_rfl) (by kernel_rfl) (by kernel_rfl) (by kernel_rfl) (fun wx hS => by go_simp) HS ?_
              refine held_take (i := 17) (d := 5) (v := .int .i64 z) rfl rfl (by kernel_rfl) (by kernel_rfl) (by kernel_rfl) (by kernel_rfl) (fun wx hS => by go_simp) HS ?_
              refine wpAnyH_done (by kernel_rfl) (NoPanic.normal ?_) _
              go_wp2
              have hbF := HF.out.r
              unfold Row at hbF
              exact bodyPost_ret (v := .tuple #[.agg #[.slice q1 n1 c1, .slice q2 n2 c2], .string p1, .string p2, .int .i64 z]) (by simp [results, Try.results13, go_sem, World.cell?, hbF]) rfl ⟨q1, n1, c1, q2, n2, c2, l, m, p1, p2, z, rfl, HF.out.s, HZp1.out, HF.out.b⟩
            · skip
              have r0 := HD.out.res.cell (j := 0) (by simp)
              have r1 := HD.out.res.cell (j := 1) (by simp)
              have f0 := HD.out.res.free 0
              have f1 := HD.out.res.free 1
              simp at r0 r1
              go_simp
              have HF := Lib.hid (HD.out.fin HO.out)
              have HT1 := Lib.hid ((HT1.out.other (r := w.heap.size) (by have := HTL1.out; omega) 0 (.slice q1 n1 c1)).other (r := w.heap.size) (by have := HTL1.out; omega) 1 (.slice q2 n2 c2))
              obtain ⟨v6, hv⟩ : ∃ x, (v5.setCell ⟨w.heap.size, 0, none⟩ (.slice q1 n1 c1)).setCell ⟨w.heap.size, 1, none⟩ (.slice q2 n2 c2) = x := ⟨_, rfl⟩
              rw [hv] at HF HT1 ⊢
              clear hv
              refine hK.out _ _ ⟨trivial, tabAt HT1.out HC1.out⟩ (fun HS => ?_)
              clear hK K
              clear r0 r1 f0 f1
              refine held_take (i := 15) (d := 3) (v := .string p1) rfl rfl (by kernel_rfl) (by kernel_rfl) (by kernel_rfl) (by kernel_rfl) (fun wx hS => by go_simp) HS ?_
              refine wpAnyH_ready (rs := [7]) (by kernel_rfl) (by simp) (AllReadyH.cons rfl (fun K hK => ?_) AllReadyH.nil)
              go_simp
              have HT2 := Lib.hid (Row.new v6 9 #[.string ⟨#[]⟩, .string ⟨#[97]⟩, .string ⟨#[97, 47, 49]⟩, .string ⟨#[98]⟩, .string ⟨#[122, 122]⟩])
              have HF := Lib.hid (HF.out.al (.cells #[.string ⟨#[]⟩, .string ⟨#[97]⟩, .string ⟨#[97, 47, 49]⟩, .string ⟨#[98]⟩, .string ⟨#[122, 122]⟩] 9))
              have HT1 := Lib.hid (HT1.out.alloc (.cells #[.string ⟨#[]⟩, .string ⟨#[97]⟩, .string ⟨#[97, 47, 49]⟩, .string ⟨#[98]⟩, .string ⟨#[122, 122]⟩] 9))
              obtain ⟨b2, hb⟩ : ∃ x, v6.heap.size = x := ⟨_, rfl⟩
              obtain ⟨v7, hv⟩ : ∃ x, v6.alloc (.cells #[.string ⟨#[]⟩, .string ⟨#[97]⟩, .string ⟨#[97, 47, 49]⟩, .string ⟨#[98]⟩, .string ⟨#[122, 122]⟩] 9) = x := ⟨_, rfl⟩
              rw [hb] at HT2  ⊢
              rw [hv] at HF HT1 HT2 ⊢
              clear hb hv
              refine hK.out _ _ ⟨trivial, tabAt HT1.out HC1.out⟩ (fun HS => ?_)
              clear hK K
              refine held_take (i := 10) (d := 19) (v := .pointer (some ⟨b2, x2, none⟩)) rfl rfl (by kernel_rfl) (by kernel_rfl) (by kernel_rfl) (by kernel_rfl) (fun wx hS => by go_simp) HS ?_
              obtain ⟨p2, hp21, hp22⟩ := tab5 (m := 5) HT2.out (by decide) (x2 : Int) hqx20 (by show (x2 : Int) < 5; exact hqx21)
              rw [Int.toNat_natCast] at hp22
              have HZp2 := Lib.hid hp21
              have HC2 := Lib.hid hp22
              clear hp21 hp22
              refine held_mono (S' := (fun w' => ((True) ∧ w'.cell? ⟨b1, x1, none⟩ = some (.string p1)) ∧ w'.cell? ⟨b2, x2, none⟩ = some (.string p2))) (fun w' h => h.1) ?_
              have HS : (fun w' => ((True) ∧ w'.cell? ⟨b1, x1, none⟩ = some (.string p1)) ∧ w'.cell? ⟨b2, x2, none⟩ = some (.string p2)) v7 := ⟨HS, tabAt HT2.out HC2.out⟩
              refine held_take (i := 11) (d := 20) (v := .string p2) rfl rfl (by kernel_rfl) (by kernel_rfl) (by kernel_rfl) (by kernel_rfl) (fun wx hS => by have e0 := hS.2; go_simp) HS ?_
              refine held_take (i := 16) (d := 4) (v := .string p2) rfl rfl (by kernel_rfl) (by kernel_rfl) (by kernel_rfl) (by kernel_rfl) (fun wx hS => by go_simp) HS ?_
              refine held_take (i := 17) (d := 5) (v := .int .i64 z) rfl rfl (by kernel_rfl) (by kernel_rfl) (by kernel_rfl) (by kernel_rfl) (fun wx hS => by go_simp) HS ?_
              refine wpAnyH_done (by kernel_rfl) (NoPanic.normal ?_) _
              go_wp2
              have hbF := HF.out.r
              unfold Row at hbF
              exact bodyPost_ret (v := .tuple #[.agg #[.slice q1 n1 c1, .slice q2 n2 c2], .string p1, .string p2, .int .i64 z]) (by simp [results, Try.results13, go_sem, World.cell?, hbF]) rfl ⟨q1, n1, c1, q2, n2, c2, l, m, p1, p2, z, rfl, HF.out.s, HZp1.out, HF.out.b⟩
        · skip
          go_simp
          have HT2 := Lib.hid (Row.new v3 9 #[.string ⟨#[]⟩, .string ⟨#[97]⟩, .string ⟨#[97, 47, 49]⟩, .string ⟨#[98]⟩, .string ⟨#[122, 122]⟩])
          have HTL2 := Lib.hid (show w.heap.size + 1 < v3.heap.size from HD.out.rdr.lt)
          have HD := Lib.hid (HD.out.al (.cells #[.string ⟨#[]⟩, .string ⟨#[97]⟩, .string ⟨#[97, 47, 49]⟩, .string ⟨#[98]⟩, .string ⟨#[122, 122]⟩] 9))
          have HO := Lib.hid (HO.out.al (.cells #[.string ⟨#[]⟩, .string ⟨#[97]⟩, .string ⟨#[97, 47, 49]⟩, .string ⟨#[98]⟩, .string ⟨#[122, 122]⟩] 9))
          obtain ⟨b2, hb⟩ : ∃ x, v3.heap.size = x := ⟨_, rfl⟩
          obtain ⟨v4, hv⟩ : ∃ x, v3.alloc (.cells #[.string ⟨#[]⟩, .string ⟨#[97]⟩, .string ⟨#[97, 47, 49]⟩, .string ⟨#[98]⟩, .string ⟨#[122, 122]⟩] 9) = x := ⟨_, rfl⟩
          rw [hb] at HT2 HTL2 ⊢
          rw [hv] at HD HO HT2 ⊢
          clear hb hv
          refine hK.out _ _ trivial (fun HS => ?_)
          clear hK K
          refine held_take (i := 10) (d := 19) (v := .pointer (some ⟨b2, x2, none⟩)) rfl rfl (by kernel_rfl) (by kernel_rfl) (by kernel_rfl) (by kernel_rfl) (fun wx hS => by go_simp) HS ?_
          obtain ⟨p2, hp21, hp22⟩ := tab5 (m := 5) HT2.out (by decide) (x2 : Int) hqx20 (by show (x2 : Int) < 5; exact hqx21)
          rw [Int.toNat_natCast] at hp22
          have HZp2 := Lib.hid hp21
          have HC2 := Lib.hid hp22
          clear hp21 hp22
          refine held_mono (S' := (fun w' => (True) ∧ w'.cell? ⟨b2, x2, none⟩ = some (.string p2))) (fun w' h => h.1) ?_
          have HS : (fun w' => (True) ∧ w'.cell? ⟨b2, x2, none⟩ = some (.string p2)) v4 := ⟨HS, tabAt HT2.out HC2.out⟩
          refine held_take (i := 11) (d := 20) (v := .string p2) rfl rfl (by kernel_rfl) (by kernel_rfl) (by kernel_rfl) (by kernel_rfl) (fun wx hS => by have e0 := hS.2; go_simp) HS ?_
          refine wpAnyH_ready (rs := [2, 13]) (by kernel_rfl) (by simp) (AllReadyH.cons rfl (fun K hK => ?_) (AllReadyH.cons rfl (fun K hK => ?_) AllReadyH.nil))
          · skip
            go_simp
            have HT1 := Lib.hid (Row.new v4 9 #[.string ⟨#[]⟩, .string ⟨#[97]⟩, .string ⟨#[97, 47]⟩, .string ⟨#[98, 47]⟩, .string ⟨#[122, 47]⟩])
            have HTL1 := Lib.hid (show w.heap.size + 1 < v4.heap.size from HD.out.rdr.lt)
            have HD := Lib.hid (HD.out.al (.cells #[.string ⟨#[]⟩, .string ⟨#[97]⟩, .string ⟨#[97, 47]⟩, .string ⟨#[98, 47]⟩, .string ⟨#[122, 47]⟩] 9))
            have HO := Lib.hid (HO.out.al (.cells #[.string ⟨#[]⟩, .string ⟨#[97]⟩, .string ⟨#[97, 47]⟩, .string ⟨#[98, 47]⟩, .string ⟨#[122, 47]⟩] 9))
            have HT2 := Lib.hid (HT2.out.alloc (.cells #[.string ⟨#[]⟩, .string ⟨#[97]⟩, .string ⟨#[97, 47]⟩, .string ⟨#[98, 47]⟩, .string ⟨#[122, 47]⟩] 9))
            obtain ⟨b1, hb⟩ : ∃ x, v4.heap.size = x := ⟨_, rfl⟩
            obtain ⟨v5, hv⟩ : ∃ x, v4.alloc (.cells #[.string ⟨#[]⟩, .string ⟨#[97]⟩, .string ⟨#[97, 47]⟩, .string ⟨#[98, 47]⟩, .string ⟨#[122, 47]⟩] 9) = x := ⟨_, rfl⟩
            rw [hb] at HT1 HTL1 ⊢
            rw [hv] at HD HO HT1 HT2 ⊢
            clear hb hv
            refine hK.out _ _ ⟨trivial, tabAt HT2.out HC2.out⟩ (fun HS => ?_)
            clear hK K
            refine held_take (i := 5) (d := 14) (v := .pointer (some ⟨b1, x1, none⟩)) rfl rfl (by kernel_rfl) (by kernel_rfl) (by kernel_rfl) (by kernel_rfl) (fun wx hS => by go_simp) HS ?_
            obtain ⟨p1, hp11, hp12⟩ := tab5 (m := 5) HT1.out (by decide) (x1 : Int) hqx10 (by show (x1 : Int) < 5; exact hqx11)
            rw [Int.toNat_natCast] at hp12
            have HZp1 := Lib.hid hp11
            have HC1 := Lib.hid hp12
            clear hp11 hp12
            refine held_mono (S' := (fun w' => ((True) ∧ w'.cell? ⟨b2, x2, none⟩ = some (.string p2)) ∧ w'.cell? ⟨b1, x1, none⟩ = some (.string p1))) (fun w' h => h.1) ?_
            have HS : (fun w' => ((True) ∧ w'.cell? ⟨b2, x2, none⟩ = some (.string p2)) ∧ w'.cell? ⟨b1, x1, none⟩ = some (.string p1)) v5 := ⟨HS, tabAt HT1.out HC1.out⟩
            refine held_take (i := 6) (d := 15) (v := .string p1) rfl rfl (by kernel_rfl) (by kernel_rfl) (by kernel_rfl) (by kernel_rfl) (fun wx hS => by have e0 := hS.2; go_simp) HS ?_
            refine wpAnyH_ready (rs := [13]) (by kernel_rfl) (by simp) (AllReadyH.cons rfl (fun K hK => ?_) AllReadyH.nil)
            go_simp
            refine (off_any _ _ _ _ _ _ _ HD.out.rdr (by decide) (by decide) (by decide)).mono ?_
            rintro e v6 ⟨⟨z, hz, rfl⟩, hw⟩
            clear hz
            have HD := Lib.hid (HD.out.step hw)
            have HO := Lib.hid (HO.out.step hw)
            have HT1 := Lib.hid (HT1.out.grown hw.grown (by intro e; injection e with e; have := HTL1.out; omega))
            have HT2 := Lib.hid (HT2.out.grown hw.grown (by intro e; injection e with e; have := HTL2.out; omega))
            clear hw
            refine hK.out _ _ ⟨⟨trivial, tabAt HT2.out HC2.out⟩, tabAt HT1.out HC1.out⟩ (fun HS => ?_)
            clear hK K
            refine wpAnyH_ready (rs := [14]) (by kernel_rfl) (by simp) (AllReadyH.cons rfl (fun K hK => ?_) AllReadyH.nil)
            have r0 := HD.out.res.cell (j := 0) (by simp)
            have r1 := HD.out.res.cell (j := 1) (by simp)
            have f0 := HD.out.res.free 0
            have f1 := HD.out.res.free 1
            simp at r0 r1
            go_simp
            have HF := Lib.hid (HD.out.fin HO.out)
            have HT1 := Lib.hid ((HT1.out.other (r := w.heap.size) (by have := HTL1.out; omega) 0 (.slice q1 n1 c1)).other (r := w.heap.size) (by have := HTL1.out; omega) 1 (.slice q2 n2 c2))
            have HT2 := Lib.hid ((HT2.out.other (r := w.heap.size) (by have := HTL2.out; omega) 0 (.slice q1 n1 c1)).other (r := w.heap.size) (by have := HTL2.out; omega) 1 (.slice q2 n2 c2))
            obtain ⟨v7, hv⟩ : ∃ x, (v6.setCell ⟨w.heap.size, 0, none⟩ (.slice q1 n1 c1)).setCell ⟨w.heap.size, 1, none⟩ (.slice q2 n2 c2) = x := ⟨_, rfl⟩
            rw [hv] at HF HT1 HT2 ⊢
            clear hv
            refine hK.out _ _ ⟨⟨trivial, tabAt HT2.out HC2.out⟩, tabAt HT1.out HC1.out⟩ (fun HS => ?_)
            clear hK K
            clear r0 r1 f0 f1
            refine held_take (i := 15) (d := 3) (v := .string p1) rfl rfl (by kernel_rfl) (by kernel_rfl) (by kernel_rfl) (by kernel_rfl) (fun wx hS => by go_simp) HS ?_
            refine held_take (i := 16) (d := 4) (v := .string p2) rfl rfl (by kernel_rfl) (by kernel_rfl) (by kernel_rfl) (by kernel_rfl) (fun wx hS => by go_simp) HS ?_
            refine held_take (i := 17) (d := 5) (v := .int .i64 z) rfl rfl (by kernel_rfl) (by kernel_rfl) (by kernel_rfl) (by kernel_rfl) (fun wx hS => by go_simp) HS ?_
            refine wpAnyH_done (by kernel_rfl) (NoPanic.normal ?_) _
            go_wp2
            have hbF := HF.out.r
            unfold Row at hbF
            exact bodyPost_ret (v := .tuple #[.agg #[.slice q1 n1 c1, .slice q2 n2 c2], .string p1, .string p2, .int .i64 z]) (by simp [results, Try.results13, go_sem, World.cell?, hbF]) rfl ⟨q1, n1, c1, q2, n2, c2, l, m, p1, p2, z, rfl, HF.out.s, HZp1.out, HF.out.b⟩
          · skip
            go_simp
            refine (off_any _ _ _ _ _ _ _ HD.out.rdr (by decide) (by decide) (by decide)).mono ?_
            rintro e v5 ⟨⟨z, hz, rfl⟩, hw⟩
            clear hz
            have HD := Lib.hid (HD.out.step hw)
            have HO := Lib.hid (HO.out.step hw)
            have HT2 := Lib.hid (HT2.out.grown hw.grown (by intro e; injection e with e; have := HTL2.out; omega))
            clear hw
            refine hK.out _ _ ⟨trivial, tabAt HT2.out HC2.out⟩ (fun HS => ?_)
            clear hK K
            refine wpAnyH_ready (rs := [2, 14]) (by kernel_rfl) (by simp) (AllReadyH.cons rfl (fun K hK => ?_) (AllReadyH.cons rfl (fun K hK => ?_) AllReadyH.nil))
            · skip
              go_simp
              have HT1 := Lib.hid (Row.new v5 9 #[.string ⟨#[]⟩, .string ⟨#[97]⟩, .string ⟨#[97, 47]⟩, .string ⟨#[98, 47]⟩, .string ⟨#[122, 47]⟩])
              have HTL1 := Lib.hid (show w.heap.size + 1 < v5.heap.size from HD.out.rdr.lt)
              have HD := Lib.hid (HD.out.al (.cells #[.string ⟨#[]⟩, .string ⟨#[97]⟩, .string ⟨#[97, 47]⟩, .string ⟨#[98, 47]⟩, .string ⟨#[122, 47]⟩] 9))
              have HO := Lib.hid (HO.out.al (.cells #[.string ⟨#[]⟩, .string ⟨#[97]⟩, .string ⟨#[97, 47]⟩, .string ⟨#[98, 47]⟩, .string ⟨#[122, 47]⟩] 9))
              have HT2 := Lib.hid (HT2.out.alloc (.cells #[.string ⟨#[]⟩, .string ⟨#[97]⟩, .string ⟨#[97, 47]⟩, .string ⟨#[98, 47]⟩, .string ⟨#[122, 47]⟩] 9))
              obtain ⟨b1, hb⟩ : ∃ x, v5.heap.size = x := ⟨_, rfl⟩
              obtain ⟨v6, hv⟩ : ∃ x, v5.alloc (.cells #[.string ⟨#[]⟩, .string ⟨#[97]⟩, .string ⟨#[97, 47]⟩, .string ⟨#[98, 47]⟩, .string ⟨#[122, 47]⟩] 9) = x := ⟨_, rfl⟩
              rw [hb] at HT1 HTL1 ⊢
              rw [hv] at HD HO HT1 HT2 ⊢
              clear hb hv
              refine hK.out _ _ ⟨trivial, tabAt HT2.out HC2.out⟩ (fun HS => ?_)
              clear hK K
              refine held_take (i := 5) (d := 14) (v := .pointer (some ⟨b1, x1, none⟩)) rfl rfl (by kernel_rfl) (by kernel_rfl) (by kernel_rfl) (by kernel_rfl) (fun wx hS => by go_simp) HS ?_
              obtain ⟨p1, hp11, hp12⟩ := tab5 (m := 5) HT1.out (by decide) (x1 : Int) hqx10 (by show (x1 : Int) < 5; exact hqx11)
              rw [Int.toNat_natCast] at hp12
              have HZp1 := Lib.hid hp11
              have HC1 := Lib.hid hp12
              clear hp11 hp12
              refine held_mono (S' := (fun w' => ((True) ∧ w'.cell? ⟨b2, x2, none⟩ = some (.string p2)) ∧ w'.cell? ⟨b1, x1, none⟩ = some (.string p1))) (fun w' h => h.1) ?_
              have HS : (fun w' => ((True) ∧ w'.cell? ⟨b2, x2, none⟩ = some (.string p2)) ∧ w'.cell? ⟨b1, x1, none⟩ = some (.string p1)) v6 := ⟨HS, tabAt HT1.out HC1.out⟩
              refine held_take (i := 6) (d := 15) (v := .string p1) rfl rfl (by kernel_rfl) (by kernel_rfl) (by kernel_rfl) (by kernel_rfl) (fun wx hS => by have e0 := hS.2; go_simp) HS ?_
              refine wpAnyH_ready (rs := [14]) (by kernel_rfl) (by simp) (AllReadyH.cons rfl (fun K hK => ?_) AllReadyH.nil)
              have r0 := HD.out.res.cell (j := 0) (by simp)
              have r1 := HD.out.res.cell (j := 1) (by simp)
              have f0 := HD.out.res.free 0
              have f1 := HD.out.res.free 1
              simp at r0 r1
              go_simp
              have HF := Lib.hid (HD.out.fin HO.out)
              have HT1 := Lib.hid ((HT1.out.other (r := w.heap.size) (by have := HTL1.out; omega) 0 (.slice q1 n1 c1)).other (r := w.heap.size) (by have := HTL1.out; omega) 1 (.slice q2 n2 c2))
              have HT2 := Lib.hid ((HT2.out.other (r := w.heap.size) (by have := HTL2.out; omega) 0 (.slice q1 n1 c1)).other (r := w.heap.size) (by have := HTL2.out; omega) 1 (.slice q2 n2 c2))
              obtain ⟨v7, hv⟩ : ∃ x, (v6.setCell ⟨w.heap.size, 0, none⟩ (.slice q1 n1 c1)).setCell ⟨w.heap.size, 1, none⟩ (.slice q2 n2 c2) = x := ⟨_, rfl⟩
              rw [hv] at HF HT1 HT2 ⊢
              clear hv
              refine hK.out _ _ ⟨⟨trivial, tabAt HT2.out HC2.out⟩, tabAt HT1.out HC1.out⟩ (fun HS => ?_)
              clear hK K
              clear r0 r1 f0 f1
              refine held_take (i := 15) (d := 3) (v := .string p1) rfl rfl (by kernel_rfl) (by kernel_rfl) (by kernel_rfl) (by kernel_rfl) (fun wx hS => by go_simp) HS ?_
              refine held_take (i := 16) (d := 4) (v := .string p2) rfl rfl (by kernel_rfl) (by kernel_rfl) (by kernel_rfl) (by kernel_rfl) (fun wx hS => by go_simp) HS ?_
              refine held_take (i := 17) (d := 5) (v := .int .i64 z) rfl rfl (by kernel_rfl) (by kernel_rfl) (by kernel_rfl) (by kernel_rfl) (fun wx hS => by go_simp) HS ?_
              refine wpAnyH_done (by kernel_rfl) (NoPanic.normal ?_) _
              go_wp2
              have hbF := HF.out.r
              unfold Row at hbF
              exact bodyPost_ret (v := .tuple #[.agg #[.slice q1 n1 c1, .slice q2 n2 c2], .string p1, .string p2, .int .i64 z]) (by simp [results, Try.results13, go_sem, World.cell?, hbF]) rfl ⟨q1, n1, c1, q2, n2, c2, l, m, p1, p2, z, rfl, HF.out.s, HZp1.out, HF.out.b⟩
            · skip
              have r0 := HD.out.res.cell (j := 0) (by simp)
              have r1 := HD.out.res.cell (j := 1) (by simp)
              have f0 := HD.out.res.free 0
              have f1 := HD.out.res.free 1
              simp at r0 r1
              go_simp
              have HF := Lib.hid (HD.out.fin HO.out)
              have HT2 := Lib.hid ((HT2.out.other (r := w.heap.size) (by have := HTL2.out; omega) 0 (.slice q1 n1 c1)).other (r := w.heap.size) (by have := HTL2.out; omega) 1 (.slice q2 n2 c2))
              obtain ⟨v6, hv⟩ : ∃ x, (v5.setCell ⟨w.heap.size, 0, none⟩ (.slice q1 n1 c1)).setCell ⟨w.heap.size, 1, none⟩ (.slice q2 n2 c2) = x := ⟨_, rfl⟩
              rw [hv] at HF HT2 ⊢
              clear hv
              refine hK.out _ _ ⟨trivial, tabAt HT2.out HC2.out⟩ (fun HS => ?_)
              clear hK K
              clear r0 r1 f0 f1
              refine wpAnyH_ready (rs := [2]) (by kernel_rfl) (by simp) (AllReadyH.cons rfl (fun K hK => ?_) AllReadyH.nil)
              go_simp
              have HT1 := Lib.hid (Row.new v6 9 #[.string ⟨#[]⟩, .string ⟨#[97]⟩, .string ⟨#[97, 47]⟩, .string ⟨#[98, 47]⟩, .string ⟨#[122, 47]⟩])
              have HF := Lib.hid (HF.out.al (.cells #[.string ⟨#[]⟩, .string ⟨#[97]⟩, .string ⟨#[97, 47]⟩, .string ⟨#[98, 47]⟩, .string ⟨#[122, 47]⟩] 9))
              have HT2 := Lib.hid (HT2.out.alloc (.cells #[.string ⟨#[]⟩, .string ⟨#[97]⟩, .string ⟨#[97, 47]⟩, .string ⟨#[98, 47]⟩, .string ⟨#[122, 47]⟩] 9))
              obtain ⟨b1, hb⟩ : ∃ x, v6.heap.size = x := ⟨_, rfl⟩
              obtain ⟨v7, hv⟩ : ∃ x, v6.alloc (.cells #[.string ⟨#[]⟩, .string ⟨#[97]⟩, .string ⟨#[97, 47]⟩, .string ⟨#[98, 47]⟩, .string ⟨#[122, 47]⟩] 9) = x := ⟨_, rfl⟩
              rw [hb] at HT1  ⊢
              rw [hv] at HF HT1 HT2 ⊢
              clear hb hv
              refine hK.out _ _ ⟨trivial, tabAt HT2.out HC2.out⟩ (fun HS => ?_)
              clear hK K
              refine held_take (i := 5) (d := 14) (v := .pointer (some ⟨b1, x1, none⟩)) rfl rfl (by kernel_rfl) (by kernel_rfl) (by kernel_rfl) (by kernel_rfl) (fun wx hS => by go_simp) HS ?_
              obtain ⟨p1, hp11, hp12⟩ := tab5 (m := 5) HT1.out (by decide) (x1 : Int) hqx10 (by show (x1 : Int) < 5; exact hqx11)
              rw [Int.toNat_natCast] at hp12
              have HZp1 := Lib.hid hp11
              have HC1 := Lib.hid hp12
              clear hp11 hp12
              refine held_mono (S' := (fun w' => ((True) ∧ w'.cell? ⟨b2, x2, none⟩ = some (.string p2)) ∧ w'.cell? ⟨b1, x1, none⟩ = some (.string p1))) (fun w' h => h.1) ?_
              have HS : (fun w' => ((True) ∧ w'.cell? ⟨b2, x2, none⟩ = some (.string p2)) ∧ w'.cell? ⟨b1, x1, none⟩ = some (.string p1)) v7 := ⟨HS, tabAt HT1.out HC1.out⟩
              refine held_take (i := 6) (d := 15) (v := .string p1) rfl rfl (by kernel_rfl) (by kernel_rfl) (by kernel_rfl) (by kernel_rfl) (fun wx hS => by have e0 := hS.2; go_simp) HS ?_
              refine held_take (i := 15) (d := 3) (v := .string p1) rfl rfl (by kernel_rfl) (by kernel_rfl) (by kernel_rfl) (by kernel_rfl) (fun wx hS => by go_simp) HS ?_
              refine held_take (i := 16) (d := 4) (v := .string p2) rfl rfl (by kernel_rfl) (by kernel_rfl) (by kernel_rfl) (by kernel_rfl) (fun wx hS => by go_simp) HS ?_
              refine held_take (i := 17) (d := 5) (v := .int .i64 z) rfl rfl (by kernel_rfl) (by kernel_rfl) (by kernel_rfl) (by kernel_rfl) (fun wx hS => by go_simp) HS ?_
              refine wpAnyH_done (by kernel_rfl) (NoPanic.normal ?_) _
              go_wp2
              have hbF := HF.out.r
              unfold Row at hbF
              exact bodyPost_ret (v := .tuple #[.agg #[.slice q1 n1 c1, .slice q2 n2 c2], .string p1, .string p2, .int .i64 z]) (by simp [results, Try.results13, go_sem, World.cell?, hbF]) rfl ⟨q1, n1, c1, q2, n2, c2, l, m, p1, p2, z, rfl, HF.out.s, HZp1.out, HF.out.b⟩
        · skip
          go_simp
          refine (off_any _ _ _ _ _ _ _ HD.out.rdr (by decide) (by decide) (by decide)).mono ?_
          rintro e v4 ⟨⟨z, hz, rfl⟩, hw⟩
          clear hz
          have HD := Lib.hid (HD.out.step hw)
          have HO := Lib.hid (HO.out.step hw)
          clear hw
          refine hK.out _ _ trivial (fun HS => ?_)
          clear hK K
          refine wpAnyH_ready (rs := [2, 7, 14]) (by kernel_rfl) (by simp) (AllReadyH.cons rfl (fun K hK => ?_) (AllReadyH.cons rfl (fun K hK => ?_) (AllReadyH.cons rfl (fun K hK => ?_) AllReadyH.nil)))
          · skip
            go_simp
            have HT1 := Lib.hid (Row.new v4 9 #[.string ⟨#[]⟩, .string ⟨#[97]⟩, .string ⟨#[97, 47]⟩, .string ⟨#[98, 47]⟩, .string ⟨#[122, 47]⟩])
            have HTL1 := Lib.hid (show w.heap.size + 1 < v4.heap.size from HD.out.rdr.lt)
            have HD := Lib.hid (HD.out.al (.cells #[.string ⟨#[]⟩, .string ⟨#[97]⟩, .string ⟨#[97, 47]⟩, .string ⟨#[98, 47]⟩, .string ⟨#[122, 47]⟩] 9))
            have HO := Lib.hid (HO.out.al (.cells #[.string ⟨#[]⟩, .string ⟨#[97]⟩, .string ⟨#[97, 47]⟩, .string ⟨#[98, 47]⟩, .string ⟨#[122, 47]⟩] 9))
            obtain ⟨b1, hb⟩ : ∃ x, v4.heap.size = x := ⟨_, rfl⟩
            obtain ⟨v5, hv⟩ : ∃ x, v4.alloc (.cells #[.string ⟨#[]⟩, .string ⟨#[97]⟩, .string ⟨#[97, 47]⟩, .string ⟨#[98, 47]⟩, .string ⟨#[122, 47]⟩] 9) = x := ⟨_, rfl⟩
            rw [hb] at HT1 HTL1 ⊢
            rw [hv] at HD HO HT1 ⊢
            clear hb hv
            refine hK.out _ _ trivial (fun HS => ?_)
            clear hK K
            refine held_take (i := 5) (d := 14) (v := .pointer (some ⟨b1, x1, none⟩)) rfl rfl (by kernel_rfl) (by kernel_rfl) (by kernel_rfl) (by kernel_rfl) (fun wx hS => by go_simp) HS ?_
            obtain ⟨p1, hp11, hp12⟩ := tab5 (m := 5) HT1.out (by decide) (x1 : Int) hqx10 (by show (x1 : Int) < 5; exact hqx11)
            rw [Int.toNat_natCast] at hp12
            have HZp1 := Lib.hid hp11
            have HC1 := Lib.hid hp12
            clear hp11 hp12
            refine held_mono (S' := (fun w' => (True) ∧ w'.cell? ⟨b1, x1, none⟩ = some (.string p1))) (fun w' h => h.1) ?_
            have HS : (fun w' => (True) ∧ w'.cell? ⟨b1, x1, none⟩ = some (.string p1)) v5 := ⟨HS, tabAt HT1.out HC1.out⟩
            refine held_take (i := 6) (d := 15) (v := .string p1) rfl rfl (by kernel_rfl) (by kernel_rfl) (by kernel_rfl) (by kernel_rfl) (fun wx hS => by have e0 := hS.2; go_simp) HS ?_
            refine wpAnyH_ready (rs := [7, 14]) (by kernel_rfl) (by simp) (AllReadyH.cons rfl (fun K hK => ?_) (AllReadyH.cons rfl (fun K hK => ?_) AllReadyH.nil))
            · skip
              go_simp
              have HT2 := Lib.hid (Row.new v5 9 #[.string ⟨#[]⟩, .string ⟨#[97]⟩, .string ⟨#[97, 47, 49]⟩, .string ⟨#[98]⟩, .string ⟨#[122, 122]⟩])
              have HTL2 := Lib.hid (show w.heap.size + 1 < v5.heap.size from HD.out.rdr.lt)
              have HD := Lib.hid (HD.out.al (.cells #[.string ⟨#[]⟩, .string ⟨#[97]⟩, .string ⟨#[97, 47, 49]⟩, .string ⟨#[98]⟩, .string ⟨#[122, 122]⟩] 9))
              have HO := Lib.hid (HO.out.al (.cells #[.string ⟨#[]⟩, .string ⟨#[97]⟩, .string ⟨#[97, 47, 49]⟩, .string ⟨#[98]⟩, .string ⟨#[122, 122]⟩] 9))
              have HT1 := Lib.hid (HT1.out.alloc (.cells #[.string ⟨#[]⟩, .string ⟨#[97]⟩, .string ⟨#[97, 47, 49]⟩, .string ⟨#[98]⟩, .string ⟨#[122, 122]⟩] 9))
              obtain ⟨b2, hb⟩ : ∃ x, v5.heap.size = x := ⟨_, rfl⟩
              obtain ⟨v6, hv⟩ : ∃ x, v5.alloc (.cells #[.string ⟨#[]⟩, .string ⟨#[97]⟩, .string ⟨#[97, 47, 49]⟩, .string ⟨#[98]⟩, .string ⟨#[122, 122]⟩] 9) = x := ⟨_, rfl⟩
              rw [hb] at HT2 HTL2 ⊢
              rw [hv] at HD HO HT1 HT2 ⊢
              clear hb hv
              refine hK.out _ _ ⟨trivial, tabAt HT1.out HC1.out⟩ (fun HS => ?_)
              clear hK K
              refine held_take (i := 10) (d := 19) (v := .pointer (some ⟨b2, x2, none⟩)) rfl rfl (by kernel_rfl) (by kernel_rfl) (by kernel_rfl) (by kernel_rfl) (fun wx hS => by go_simp) HS ?_
              obtain ⟨p2, hp21, hp22⟩ := tab5 (m := 5) HT2.out (by decide) (x2 : Int) hqx20 (by show (x2 : Int) < 5; exact hqx21)
              rw [Int.toNat_natCast] at hp22
              have HZp2 := Lib.hid hp21
              have HC2 := Lib.hid hp22
              clear hp21 hp22
              refine held_mono (S' := (fun w' => ((True) ∧ w'.cell? ⟨b1, x1, none⟩ = some (.string p1)) ∧ w'.cell? ⟨b2, x2, none⟩ = some (.string p2))) (fun w' h => h.1) ?_
              have HS : (fun w' => ((True) ∧ w'.cell? ⟨b1, x1, none⟩ = some (.string p1)) ∧ w'.cell? ⟨b2, x2, none⟩ = some (.string p2)) v6 := ⟨HS, tabAt HT2.out HC2.out⟩
              refine held_take (i := 11) (d := 20) (v := .string p2) rfl rfl (by kernel_rfl) (by kernel_rfl) (by kernel_rfl) (by kernel_rfl) (fun wx hS => by have e0 := hS.2; go_simp) HS ?_
              refine wpAnyH_ready (rs := [14]) (by kernel_rfl) (by simp) (AllReadyH.cons rfl (fun K hK => ?_) AllReadyH.nil)
              have r0 := HD.out.res.cell (j := 0) (by simp)
              have r1 := HD.out.res.cell (j := 1) (by simp)
              have f0 := HD.out.res.free 0
              have f1 := HD.out.res.free 1
              simp at r0 r1
              go_simp
              have HF := Lib.hid (HD.out.fin HO.out)
              have HT1 := Lib.hid ((HT1.out.other (r := w.heap.size) (by have := HTL1.out; omega) 0 (.slice q1 n1 c1)).other (r := w.heap.size) (by have := HTL1.out; omega) 1 (.slice q2 n2 c2))
              have HT2 := Lib.hid ((HT2.out.other (r := w.heap.size) (by have := HTL2.out; omega) 0 (.slice q1 n1 c1)).other (r := w.heap.size) (by have := HTL2.out; omega) 1 (.slice q2 n2 c2))
              obtain ⟨v7, hv⟩ : ∃ x, (v6.setCell ⟨w.heap.size, 0, none⟩ (.slice q1 n1 c1)).setCell ⟨w.heap.size, 1, none⟩ (.slice q2 n2 c2) = x := ⟨_, rfl⟩
              rw [hv] at HF HT1 HT2 ⊢
              clear hv
              refine hK.out _ _ ⟨⟨trivial, tabAt HT1.out HC1.out⟩, tabAt HT2.out HC2.out⟩ (fun HS => ?_)
              clear hK K
              clear r0 r1 f0 f1
              refine held_take (i := 15) (d := 3) (v := .string p1) rfl rfl (by kernel_rfl) (by kernel_rfl) (by kernel_rfl) (by kernel_rfl) (fun wx hS => by go_simp) HS ?_
              refine held_take (i := 16) (d := 4) (v := .string p2) rfl rfl (by kernel_rfl) (by kernel_rfl) (by kernel_rfl) (by kernel_rfl) (fun wx hS => by go_simp) HS ?_
              refine held_take (i := 17) (d := 5) (v := .int .i64 z) rfl rfl (by kernel_rfl) (by kernel_rfl) (by kernel_rfl) (by kernel_rfl) (fun wx hS => by go_simp) HS ?_
              refine wpAnyH_done (by kernel_rfl) (NoPanic.normal ?_) _
              go_wp2
              have hbF := HF.out.r
              unfold Row at hbF
              exact bodyPost_ret (v := .tuple #[.agg #[.slice q1 n1 c1, .slice q2 n2 c2], .string p1, .string p2, .int .i64 z]) (by simp [results, Try.results13, go_sem, World.cell?, hbF]) rfl ⟨q1, n1, c1, q2, n2, c2, l, m, p1, p2, z, rfl, HF.out.s, HZp1.out, HF.out.b⟩
            · skip
              have r0 := HD.out.res.cell (j := 0) (by simp)
              have r1 := HD.out.res.cell (j := 1) (by simp)
              have f0 := HD.out.res.free 0
              have f1 := HD.out.res.free 1
              simp at r0 r1
              go_simp
              have HF := Lib.hid (HD.out.fin HO.out)
              have HT1 := Lib.hid ((HT1.out.other (r := w.heap.size) (by have := HTL1.out; omega) 0 (.slice q1 n1 c1)).other (r := w.heap.size) (by have := HTL1.out; omega) 1 (.slice q2 n2 c2))
              obtain ⟨v6, hv⟩ : ∃ x, (v5.setCell ⟨w.heap.size, 0, none⟩ (.slice q1 n1 c1)).setCell ⟨w.heap.size, 1, none⟩ (.slice q2 n2 c2) = x := ⟨_, rfl⟩
              rw [hv] at HF HT1 ⊢
              clear hv
              refine hK.out _ _ ⟨trivial, tabAt HT1.out HC1.out⟩ (fun HS => ?_)
              clear hK K
              clear r0 r1 f0 f1
              refine held_take (i := 15) (d := 3) (v := .string p1) rfl rfl (by kernel_rfl) (by kernel_rfl) (by kernel_rfl) (by kernel_rfl) (fun wx hS => by go_simp) HS ?_
              refine wpAnyH_ready (rs := [7]) (by kernel_rfl) (by simp) (AllReadyH.cons rfl (fun K hK => ?_) AllReadyH.nil)
              go_simp
              have HT2 := Lib.hid (Row.new v6 9 #[.string ⟨#[]⟩, .string ⟨#[97]⟩, .string ⟨#[97, 47, 49]⟩, .string ⟨#[98]⟩, .string ⟨#[122, 122]⟩])
              have HF := Lib.hid (HF.out.al (.cells #[.string ⟨#[]⟩, .string ⟨#[97]⟩, .string ⟨#[97, 47, 49]⟩, .string ⟨#[98]⟩, .string ⟨#[122, 122]⟩] 9))
              have HT1 := Lib.hid (HT1.out.alloc (.cells #[.string ⟨#[]⟩, .string ⟨#[97]⟩, .string ⟨#[97, 47, 49]⟩, .string ⟨#[98]⟩, .string ⟨#[122, 122]⟩] 9))
              obtain ⟨b2, hb⟩ : ∃ x, v6.heap.size = x := ⟨_, rfl⟩
              obtain ⟨v7, hv⟩ : ∃ x, v6.alloc (.cells #[.string ⟨#[]⟩, .string ⟨#[97]⟩, .string ⟨#[97, 47, 49]⟩, .string ⟨#[98]⟩, .string ⟨#[122, 122]⟩] 9) = x := ⟨_, rfl⟩
              rw [hb] at HT2  ⊢
              rw [hv] at HF HT1 HT2 ⊢
              clear hb hv
              refine hK.out _ _ ⟨trivial, tabAt HT1.out HC1.out⟩ (fun HS => ?_)
              clear hK K
              refine held_take (i := 10) (d := 19) (v := .pointer (some ⟨b2, x2, none⟩)) rfl rfl (by kernel_rfl) (by kernel_rfl) (by kernel_rfl) (by kernel_rfl) (fun wx hS => by go_simp) HS ?_
              obtain ⟨p2, hp21, hp22⟩ := tab5 (m := 5) HT2.out (by decide) (x2 : Int) hqx20 (by show (x2 : Int) < 5; exact hqx21)
              rw [Int.toNat_natCast] at hp22
              have HZp2 := Lib.hid hp21
              have HC2 := Lib.hid hp22
              clear hp21 hp22
              refine held_mono (S' := (fun w' => ((True) ∧ w'.cell? ⟨b1, x1, none⟩ = some (.string p1)) ∧ w'.cell? ⟨b2, x2, none⟩ = some (.string p2))) (fun w' h => h.1) ?_
              have HS : (fun w' => ((True) ∧ w'.cell? ⟨b1, x1, none⟩ = some (.string p1)) ∧ w'.cell? ⟨b2, x2, none⟩ = some (.string p2)) v7 := ⟨HS, tabAt HT2.out HC2.out⟩
              refine held_take (i := 11) (d := 20) (v := .string p2) rfl rfl (by kernel_rfl) (by kernel_rfl) (by kernel_rfl) (by kernel_rfl) (fun wx hS => by have e0 := hS.2; go_simp) HS ?_
              refine held_take (i := 16) (d := 4) (v := .string p2) rfl rfl (by kernel_rfl) (by kernel_rfl) (by kernel_rfl) (by kernel_rfl) (fun wx hS => by go_simp) HS ?_
              refine held_take (i := 17) (d := 5) (v := .int .i64 z) rfl rfl (by kernel_rfl) (by kernel_rfl) (by kernel_rfl) (by kernel_rfl) (fun wx hS => by go_simp) HS ?_
              refine wpAnyH_done (by kernel_rfl) (NoPanic.normal ?_) _
              go_wp2
              have hbF := HF.out.r
              unfold Row at hbF
              exact bodyPost_ret (v := .tuple #[.agg #[.slice q1 n1 c1, .slice q2 n2 c2], .string p1, .string p2, .int .i64 z]) (by simp [results, Try.results13, go_sem, World.cell?, hbF]) rfl ⟨q1, n1, c1, q2, n2, c2, l, m, p1, p2, z, rfl, HF.out.s, HZp1.out, HF.out.b⟩
          · skip
            go_simp
            have HT2 := Lib.hid (Row.new v4 9 #[.string ⟨#[]⟩, .string ⟨#[97]⟩, .string ⟨#[97, 47, 49]⟩, .string ⟨#[98]⟩, .string ⟨#[122, 122]⟩])
            have HTL2 := Lib.hid (show w.heap.size + 1 < v4.heap.size from HD.out.rdr.lt)
            have HD := Lib.hid (HD.out.al (.cells #[.string ⟨#[]⟩, .string ⟨#[97]⟩, .string ⟨#[97, 47, 49]⟩, .string ⟨#[98]⟩, .string ⟨#[122, 122]⟩] 9))
            have HO := Lib.hid (HO.out.al (.cells #[.string ⟨#[]⟩, .string ⟨#[97]⟩, .string ⟨#[97, 47, 49]⟩, .string ⟨#[98]⟩, .string ⟨#[122, 122]⟩] 9))
            obtain ⟨b2, hb⟩ : ∃ x, v4.heap.size = x := ⟨_, rfl⟩
            obtain ⟨v5, hv⟩ : ∃ x, v4.alloc (.cells #[.string ⟨#[]⟩, .string ⟨#[97]⟩, .string ⟨#[97, 47, 49]⟩, .string ⟨#[98]⟩, .string ⟨#[122, 122]⟩] 9) = x := ⟨_, rfl⟩
            rw [hb] at HT2 HTL2 ⊢
            rw [hv] at HD HO HT2 ⊢
            clear hb hv
            refine hK.out _ _ trivial (fun HS => ?_)
            clear hK K
            refine held_take (i := 10) (d := 19) (v := .pointer (some ⟨b2, x2, none⟩)) rfl rfl (by kernel_rfl) (by kernel_rfl) (by kernel_rfl) (by kernel_rfl) (fun wx hS => by go_simp) HS ?_
            obtain ⟨p2, hp21, hp22⟩ := tab5 (m := 5) HT2.out (by decide) (x2 : Int) hqx20 (by show (x2 : Int) < 5; exact hqx21)
            rw [Int.toNat_natCast] at hp22
            have HZp2 := Lib.hid hp21
            have HC2 := Lib.hid hp22
            clear hp21 hp22
            refine held_mono (S' := (fun w' => (True) ∧ w'.cell? ⟨b2, x2, none⟩ = some (.string p2))) (fun w' h => h.1) ?_
            have HS : (fun w' => (True) ∧ w'.cell? ⟨b2, x2, none⟩ = some (.string p2)) v5 := ⟨HS, tabAt HT2.out HC2.out⟩
            refine held_take (i := 11) (d := 20) (v := .string p2) rfl rfl (by kernel_rfl) (by kernel_rfl) (by kernel_rfl) (by kernel_rfl) (fun wx hS => by have e0 := hS.2; go_simp) HS ?_
            refine wpAnyH_ready (rs := [2, 14]) (by kernel_rfl) (by simp) (AllReadyH.cons rfl (fun K hK => ?_) (AllReadyH.cons rfl (fun K hK => ?_) AllReadyH.nil))
            · skip
              go_simp
              have HT1 := Lib.hid (Row.new v5 9 #[.string ⟨#[]⟩, .string ⟨#[97]⟩, .string ⟨#[97, 47]⟩, .string ⟨#[98, 47]⟩, .string ⟨#[122, 47]⟩])
              have HTL1 := Lib.hid (show w.heap.size + 1 < v5.heap.size from HD.out.rdr.lt)
              have HD := Lib.hid (HD.out.al (.cells #[.string ⟨#[]⟩, .string ⟨#[97]⟩, .string ⟨#[97, 47]⟩, .string ⟨#[98, 47]⟩, .string ⟨#[122, 47]⟩] 9))
              have HO := Lib.hid (HO.out.al (.cells #[.string ⟨#[]⟩, .string ⟨#[97]⟩, .string ⟨#[97, 47]⟩, .string ⟨#[98, 47]⟩, .string ⟨#[122, 47]⟩] 9))
              have HT2 := Lib.hid (HT2.out.alloc (.cells #[.string ⟨#[]⟩, .string ⟨#[97]⟩, .string ⟨#[97, 47]⟩, .string ⟨#[98, 47]⟩, .string ⟨#[122, 47]⟩] 9))
              obtain ⟨b1, hb⟩ : ∃ x, v5.heap.size = x := ⟨_, rfl⟩
              obtain ⟨v6, hv⟩ : ∃ x, v5.alloc (.cells #[.string ⟨#[]⟩, .string ⟨#[97]⟩, .string ⟨#[97, 47]⟩, .string ⟨#[98, 47]⟩, .string ⟨#[122, 47]⟩] 9) = x := ⟨_, rfl⟩
              rw [hb] at HT1 HTL1 ⊢
              rw [hv] at HD HO HT1 HT2 ⊢
              clear hb hv
              refine hK.out _ _ ⟨trivial, tabAt HT2.out HC2.out⟩ (fun HS => ?_)
              clear hK K
              refine held_take (i := 5) (d := 14) (v := .pointer (some ⟨b1, x1, none⟩)) rfl rfl (by kernel_rfl) (by kernel_rfl) (by kernel_rfl) (by kernel_rfl) (fun wx hS => by go_simp) HS ?_
              obtain ⟨p1, hp11, hp12⟩ := tab5 (m := 5) HT1.out (by decide) (x1 : Int) hqx10 (by show (x1 : Int) < 5; exact hqx11)
              rw [Int.toNat_natCast] at hp12
              have HZp1 := Lib.hid hp11
              have HC1 := Lib.hid hp12
              clear hp11 hp12
              refine held_mono (S' := (fun w' => ((True) ∧ w'.cell? ⟨b2, x2, none⟩ = some (.string p2)) ∧ w'.cell? ⟨b1, x1, none⟩ = some (.string p1))) (fun w' h => h.1) ?_
              have HS : (fun w' => ((True) ∧ w'.cell? ⟨b2, x2, none⟩ = some (.string p2)) ∧ w'.cell? ⟨b1, x1, none⟩ = some (.string p1)) v6 := ⟨HS, tabAt HT1.out HC1.out⟩
              refine held_take (i := 6) (d := 15) (v := .string p1) rfl rfl (by kernel_rfl) (by kernel_rfl) (by kernel_rfl) (by kernel_rfl) (fun wx hS => by have e0 := hS.2; go_simp) HS ?_
              refine wpAnyH_ready (rs := [14]) (by kernel_rfl) (by simp) (AllReadyH.cons rfl (fun K hK => ?_) AllReadyH.nil)
              have r0 := HD.out.res.cell (j := 0) (by simp)
              have r1 := HD.out.res.cell (j := 1) (by simp)
              have f0 := HD.out.res.free 0
              have f1 := HD.out.res.free 1
              simp at r0 r1
              go_simp
              have HF := Lib.hid (HD.out.fin HO.out)
              have HT1 := Lib.hid ((HT1.out.other (r := w.heap.size) (by have := HTL1.out; omega) 0 (.slice q1 n1 c1)).other (r := w.heap.size) (by have := HTL1.out; omega) 1 (.slice q2 n2 c2))
              have HT2 := Lib.hid ((HT2.out.other (r := w.heap.size) (by have := HTL2.out; omega) 0 (.slice q1 n1 c1)).other (r := w.heap.size) (by have := HTL2.out; omega) 1 (.slice q2 n2 c2))
              obtain ⟨v7, hv⟩ : ∃ x, (v6.setCell ⟨w.heap.size, 0, none⟩ (.slice q1 n1 c1)).setCell ⟨w.heap.size, 1, none⟩ (.slice q2 n2 c2) = x := ⟨_, rfl⟩
              rw [hv] at HF HT1 HT2 ⊢
              clear hv
              refine hK.out _ _ ⟨⟨trivial, tabAt HT2.out HC2.out⟩, tabAt HT1.out HC1.out⟩ (fun HS => ?_)
              clear hK K
              clear r0 r1 f0 f1
              refine held_take (i := 15) (d := 3) (v := .string p1) rfl rfl (by kernel_rfl) (by kernel_rfl) (by kernel_rfl) (by kernel_rfl) (fun wx hS => by go_simp) HS ?_
              refine held_take (i := 16) (d := 4) (v := .string p2) rfl rfl (by kernel_rfl) (by kernel_rfl) (by kernel_rfl) (by kernel_rfl) (fun wx hS => by go_simp) HS ?_
              refine held_take (i := 17) (d := 5) (v := .int .i64 z) rfl rfl (by kernel_rfl) (by kernel_rfl) (by kernel_rfl) (by kernel_rfl) (fun wx hS => by go_simp) HS ?_
              refine wpAnyH_done (by kernel_rfl) (NoPanic.normal ?_) _
              go_wp2
              have hbF := HF.out.r
              unfold Row at hbF
              exact bodyPost_ret (v := .tuple #[.agg #[.slice q1 n1 c1, .slice q2 n2 c2], .string p1, .string p2, .int .i64 z]) (by simp [results, Try.results13, go_sem, World.cell?, hbF]) rfl ⟨q1, n1, c1, q2, n2, c2, l, m, p1, p2, z, rfl, HF.out.s, HZp1.out, HF.out.b⟩
            · skip
              have r0 := HD.out.res.cell (j := 0) (by simp)
              have r1 := HD.out.res.cell (j := 1) (by simp)
              have f0 := HD.out.res.free 0
              have f1 := HD.out.res.free 1
              simp at r0 r1
              go_simp
              have HF := Lib.hid (HD.out.fin HO.out)
              have HT2 := Lib.hid ((HT2.out.other (r := w.heap.size) (by have := HTL2.out; omega) 0 (.slice q1 n1 c1)).other (r := w.heap.size) (by have := HTL2.out; omega) 1 (.slice q2 n2 c2))
              obtain ⟨v6, hv⟩ : ∃ x, (v5.setCell ⟨w.heap.size, 0, none⟩ (.slice q1 n1 c1)).setCell ⟨w.heap.size, 1, none⟩ (.slice q2 n2 c2) = x := ⟨_, rfl⟩
              rw [hv] at HF HT2 ⊢
              clear hv
              refine hK.out _ _ ⟨trivial, tabAt HT2.out HC2.out⟩ (fun HS => ?_)
              clear hK K
              clear r0 r1 f0 f1
              refine wpAnyH_ready (rs := [2]) (by kernel_rfl) (by simp) (AllReadyH.cons rfl (fun K hK => ?_) AllReadyH.nil)
              go_simp
              have HT1 := Lib.hid (Row.new v6 9 #[.string ⟨#[]⟩, .string ⟨#[97]⟩, .string ⟨#[97, 47]⟩, .string ⟨#[98, 47]⟩, .string ⟨#[122, 47]⟩])
              have HF := Lib.hid (HF.out.al (.cells #[.string ⟨#[]⟩, .string ⟨#[97]⟩, .string ⟨#[97, 47]⟩, .string ⟨#[98, 47]⟩, .string ⟨#[122, 47]⟩] 9))
              have HT2 := Lib.hid (HT2.out.alloc (.cells #[.string ⟨#[]⟩, .string ⟨#[97]⟩, .string ⟨#[97, 47]⟩, .string ⟨#[98, 47]⟩, .string ⟨#[122, 47]⟩] 9))
              obtain ⟨b1, hb⟩ : ∃ x, v6.heap.size = x := ⟨_, rfl⟩
              obtain ⟨v7, hv⟩ : ∃ x, v6.alloc (.cells #[.string ⟨#[]⟩, .string ⟨#[97]⟩, .string ⟨#[97, 47]⟩, .string ⟨#[98, 47]⟩, .string ⟨#[122, 47]⟩] 9) = x := ⟨_, rfl⟩
              rw [hb] at HT1  ⊢
              rw [hv] at HF HT1 HT2 ⊢
              clear hb hv
              refine hK.out _ _ ⟨trivial, tabAt HT2.out HC2.out⟩ (fun HS => ?_)
              clear hK K
              refine held_take (i := 5) (d := 14) (v := .pointer (some ⟨b1, x1, none⟩)) rfl rfl (by kernel_rfl) (by kernel_rfl) (by kernel_rfl) (by kernel_rfl) (fun wx hS => by go_simp) HS ?_
              obtain ⟨p1, hp11, hp12⟩ := tab5 (m := 5) HT1.out (by decide) (x1 : Int) hqx10 (by show (x1 : Int) < 5; exact hqx11)
              rw [Int.toNat_natCast] at hp12
              have HZp1 := Lib.hid hp11
              have HC1 := Lib.hid hp12
              clear hp11 hp12
              refine held_mono (S' := (fun w' => ((True) ∧ w'.cell? ⟨b2, x2, none⟩ = some (.string p2)) ∧ w'.cell? ⟨b1, x1, none⟩ = some (.string p1))) (fun w' h => h.1) ?_
              have HS : (fun w' => ((True) ∧ w'.cell? ⟨b2, x2, none⟩ = some (.string p2)) ∧ w'.cell? ⟨b1, x1, none⟩ = some (.string p1)) v7 := ⟨HS, tabAt HT1.out HC1.out⟩
              refine held_take (i := 6) (d := 15) (v := .string p1) rfl rfl (by kernel_rfl) (by kernel_rfl) (by kernel_rfl) (by kernel_rfl) (fun wx hS => by have e0 := hS.2; go_simp) HS ?_
              refine held_take (i := 15) (d := 3) (v := .string p1) rfl rfl (by kernel_rfl) (by kernel_rfl) (by kernel_rfl) (by kernel_rfl) (fun wx hS => by go_simp) HS ?_
              refine held_take (i := 16) (d := 4) (v := .string p2) rfl rfl (by kernel_rfl) (by kernel_rfl) (by kernel_rfl) (by kernel_rfl) (fun wx hS => by go_simp) HS ?_
              refine held_take (i := 17) (d := 5) (v := .int .i64 z) rfl rfl (by kernel_rfl) (by kernel_rfl) (by kernel_rfl) (by kernel_rfl) (fun wx hS => by go_simp) HS ?_
              refine wpAnyH_done (by kernel_rfl) (NoPanic.normal ?_) _
              go_wp2
              have hbF := HF.out.r
              unfold Row at hbF
              exact bodyPost_ret (v := .tuple #[.agg #[.slice q1 n1 c1, .slice q2 n2 c2], .string p1, .string p2, .int .i64 z]) (by simp [results, Try.results13, go_sem, World.cell?, hbF]) rfl ⟨q1, n1, c1, q2, n2, c2, l, m, p1, p2, z, rfl, HF.out.s, HZp1.out, HF.out.b⟩
          · skip
            have r0 := HD.out.res.cell (j := 0) (by simp)
            have r1 := HD.out.res.cell (j := 1) (by simp)
            have f0 := HD.out.res.free 0
            have f1 := HD.out.res.free 1
            simp at r0 r1
            go_simp
            have HF := Lib.hid (HD.out.fin HO.out)
            obtain ⟨v5, hv⟩ : ∃ x, (v4.setCell ⟨w.heap.size, 0, none⟩ (.slice q1 n1 c1)).setCell ⟨w.heap.size, 1, none⟩ (.slice q2 n2 c2) = x := ⟨_, rfl⟩
            rw [hv] at HF  ⊢
            clear hv
            refine hK.out _ _ trivial (fun HS => ?_)
            clear hK K
            clear r0 r1 f0 f1
            refine wpAnyH_ready (rs := [2, 7]) (by kernel_rfl) (by simp) (AllReadyH.cons rfl (fun K hK => ?_) (AllReadyH.cons rfl (fun K hK => ?_) AllReadyH.nil))
            · skip
              go_simp
              have HT1 := Lib.hid (Row.new v5 9 #[.string ⟨#[]⟩, .string ⟨#[97]⟩, .string ⟨#[97, 47]⟩, .string ⟨#[98, 47]⟩, .string ⟨#[122, 47]⟩])
              have HF := Lib.hid (HF.out.al (.cells #[.string ⟨#[]⟩, .string ⟨#[97]⟩, .string ⟨#[97, 47]⟩, .string ⟨#[98, 47]⟩, .string ⟨#[122, 47]⟩] 9))
              obtain ⟨b1, hb⟩ : ∃ x, v5.heap.size = x := ⟨_, rfl⟩
              obtain ⟨v6, hv⟩ : ∃ x, v5.alloc (.cells #[.string ⟨#[]⟩, .string ⟨#[97]⟩, .string ⟨#[97, 47]⟩, .string ⟨#[98, 47]⟩, .string ⟨#[122, 47]⟩] 9) = x := ⟨_, rfl⟩
              rw [hb] at HT1  ⊢
              rw [hv] at HF HT1 ⊢
              clear hb hv
              refine hK.out _ _ trivial (fun HS => ?_)
              clear hK K
              refine held_take (i := 5) (d := 14) (v := .pointer (some ⟨b1, x1, none⟩)) rfl rfl (by kernel_rfl) (by kernel_rfl) (by kernel_rfl) (by kernel_rfl) (fun wx hS => by go_simp) HS ?_
              obtain ⟨p1, hp11, hp12⟩ := tab5 (m := 5) HT1.out (by decide) (x1 : Int) hqx10 (by show (x1 : Int) < 5; exact hqx11)
              rw [Int.toNat_natCast] at hp12
              have HZp1 := Lib.hid hp11
              have HC1 := Lib.hid hp12
              clear hp11 hp12
              refine held_mono (S' := (fun w' => (True) ∧ w'.cell? ⟨b1, x1, none⟩ = some (.string p1))) (fun w' h => h.1) ?_
              have HS : (fun w' => (True) ∧ w'.cell? ⟨b1, x1, none⟩ = some (.string p1)) v6 := ⟨HS, tabAt HT1.out HC1.out⟩
              refine held_take (i := 6) (d := 15) (v := .string p1) rfl rfl (by kernel_rfl) (by kernel_rfl) (by kernel_rfl) (by kernel_rfl) (fun wx hS => by have e0 := hS.2; go_simp) HS ?_
              refine held_take (i := 15) (d := 3) (v := .string p1) rfl rfl (by kernel_rfl) (by kernel_rfl) (by kernel_rfl) (by kernel_rfl) (fun wx hS => by go_simp) HS ?_
              refine wpAnyH_ready (rs := [7]) (by kernel_rfl) (by simp) (AllReadyH.cons rfl (fun K hK => ?_) AllReadyH.nil)
              go_simp
              have HT2 := Lib.hid (Row.new v6 9 #[.string ⟨#[]⟩, .string ⟨#[97]⟩, .string ⟨#[97, 47, 49]⟩, .string ⟨#[98]⟩, .string ⟨#[122, 122]⟩])
              have HF := Lib.hid (HF.out.al (.cells #[.string ⟨#[]⟩, .string ⟨#[97]⟩, .string ⟨#[97, 47, 49]⟩, .string ⟨#[98]⟩, .string ⟨#[122, 122]⟩] 9))
              have HT1 := Lib.hid (HT1.out.alloc (.cells #[.string ⟨#[]⟩, .string ⟨#[97]⟩, .string ⟨#[97, 47, 49]⟩, .string ⟨#[98]⟩, .string ⟨#[122, 122]⟩] 9))
              obtain ⟨b2, hb⟩ : ∃ x, v6.heap.size = x := ⟨_, rfl⟩
              obtain ⟨v7, hv⟩ : ∃ x, v6.alloc (.cells #[.string ⟨#[]⟩, .string ⟨#[97]⟩, .string ⟨#[97, 47, 49]⟩, .string ⟨#[98]⟩, .string ⟨#[122, 122]⟩] 9) = x := ⟨_, rfl⟩
              rw [hb] at HT2  ⊢
              rw [hv] at HF HT1 HT2 ⊢
              clear hb hv
              refine hK.out _ _ ⟨trivial, tabAt HT1.out HC1.out⟩ (fun HS => ?_)
              clear hK K
              refine held_take (i := 10) (d := 19) (v := .pointer (some ⟨b2, x2, none⟩)) rfl rfl (by kernel_rfl) (by kernel_rfl) (by kernel_rfl) (by kernel_rfl) (fun wx hS => by go_simp) HS ?_
              obtain ⟨p2, hp21, hp22⟩ := tab5 (m := 5) HT2.out (by decide) (x2 : Int) hqx20 (by show (x2 : Int) < 5; exact hqx21)
              rw [Int.toNat_natCast] at hp22
              have HZp2 := Lib.hid hp21
              have HC2 := Lib.hid hp22
              clear hp21 hp22
              refine held_mono (S' := (fun w' => ((True) ∧ w'.cell? ⟨b1, x1, none⟩ = some (.string p1)) ∧ w'.cell? ⟨b2, x2, none⟩ = some (.string p2))) (fun w' h => h.1) ?_
              have HS : (fun w' => ((True) ∧ w'.cell? ⟨b1, x1, none⟩ = some (.string p1)) ∧ w'.cell? ⟨b2, x2, none⟩ = some (.string p2)) v7 := ⟨HS, tabAt HT2.out HC2.out⟩
              refine held_take (i := 11) (d := 20) (v := .string p2) rfl rfl (by kernel_rfl) (by kernel_rfl) (by kernel_rfl) (by kernel_rfl) (fun wx hS => by have e0 := hS.2; go_simp) HS ?_
              refine held_take (i := 16) (d := 4) (v := .string p2) rfl rfl (by kernel_rfl) (by kernel_rfl) (by kernel_rfl) (by kernel_rfl) (fun wx hS => by go_simp) HS ?_
              refine held_take (i := 17) (d := 5) (v := .int .i64 z) rfl rfl (by kernel_rfl) (by kernel_rfl) (by kernel_rfl) (by kernel_rfl) (fun wx hS => by go_simp) HS ?_
              refine wpAnyH_done (by kernel_rfl) (NoPanic.normal ?_) _
              go_wp2
              have hbF := HF.out.r
              unfold Row at hbF
              exact bodyPost_ret (v := .tuple #[.agg #[.slice q1 n1 c1, .slice q2 n2 c2], .string p1, .string p2, .int .i64 z]) (by simp [results, Try.results13, go_sem, World.cell?, hbF]) rfl ⟨q1, n1, c1, q2, n2, c2, l, m, p1, p2, z, rfl, HF.out.s, HZp1.out, HF.out.b⟩
            · skip
              go_simp
              have HT2 := Lib.hid (Row.new v5 9 #[.string ⟨#[]⟩, .string ⟨#[97]⟩, .string ⟨#[97, 47, 49]⟩, .string ⟨#[98]⟩, .string ⟨#[122, 122]⟩])
              have HF := Lib.hid (HF.out.al (.cells #[.string ⟨#[]⟩, .string ⟨#[97]⟩, .string ⟨#[97, 47, 49]⟩, .string ⟨#[98]⟩, .string ⟨#[122, 122]⟩] 9))
              obtain ⟨b2, hb⟩ : ∃ x, v5.heap.size = x := ⟨_, rfl⟩
              obtain ⟨v6, hv⟩ : ∃ x, v5.alloc (.cells #[.string ⟨#[]⟩, .string ⟨#[97]⟩, .string ⟨#[97, 47, 49]⟩, .string ⟨#[98]⟩, .string ⟨#[122, 122]⟩] 9) = x := ⟨_, rfl⟩
              rw [hb] at HT2  ⊢
              rw [hv] at HF HT2 ⊢
              clear hb hv
              refine hK.out _ _ trivial (fun HS => ?_)
              clear hK K
              refine held_take (i := 10) (d := 19) (v := .pointer (some ⟨b2, x2, none⟩)) rfl rfl (by kernel_rfl) (by kernel_rfl) (by kernel_rfl) (by kernel_rfl) (fun wx hS => by go_simp) HS ?_
              obtain ⟨p2, hp21, hp22⟩ := tab5 (m := 5) HT2.out (by decide) (x2 : Int) hqx20 (by show (x2 : Int) < 5; exact hqx21)
              rw [Int.toNat_natCast] at hp22
              have HZp2 := Lib.hid hp21
              have HC2 := Lib.hid hp22
              clear hp21 hp22
              refine held_mono (S' := (fun w' => (True) ∧ w'.cell? ⟨b2, x2, none⟩ = some (.string p2))) (fun w' h => h.1) ?_
              have HS : (fun w' => (True) ∧ w'.cell? ⟨b2, x2, none⟩ = some (.string p2)) v6 := ⟨HS, tabAt HT2.out HC2.out⟩
              refine held_take (i := 11) (d := 20) (v := .string p2) rfl rfl (by kernel_rfl) (by kernel_rfl) (by kernel_rfl) (by kernel_rfl) (fun wx hS => by have e0 := hS.2; go_simp) HS ?_
              refine wpAnyH_ready (rs := [2]) (by kernel_rfl) (by simp) (AllReadyH.cons rfl (fun K hK => ?_) AllReadyH.nil)
              go_simp
              have HT1 := Lib.hid (Row.new v6 9 #[.string ⟨#[]⟩, .string ⟨#[97]⟩, .string ⟨#[97, 47]⟩, .string ⟨#[98, 47]⟩, .string ⟨#[122, 47]⟩])
              have HF := Lib.hid (HF.out.al (.cells #[.string ⟨#[]⟩, .string ⟨#[97]⟩, .string ⟨#[97, 47]⟩, .string ⟨#[98, 47]⟩, .string ⟨#[122, 47]⟩] 9))
              have HT2 := Lib.hid (HT2.out.alloc (.cells #[.string ⟨#[]⟩, .string ⟨#[97]⟩, .string ⟨#[97, 47]⟩, .string ⟨#[98, 47]⟩, .string ⟨#[122, 47]⟩] 9))
              obtain ⟨b1, hb⟩ : ∃ x, v6.heap.size = x := ⟨_, rfl⟩
              obtain ⟨v7, hv⟩ : ∃ x, v6.alloc (.cells #[.string ⟨#[]⟩, .string ⟨#[97]⟩, .string ⟨#[97, 47]⟩, .string ⟨#[98, 47]⟩, .string ⟨#[122, 47]⟩] 9) = x := ⟨_, rfl⟩
              rw [hb] at HT1  ⊢
              rw [hv] at HF HT1 HT2 ⊢
              clear hb hv
              refine hK.out _ _ ⟨trivial, tabAt HT2.out HC2.out⟩ (fun HS => ?_)
              clear hK K
              refine held_take (i := 5) (d := 14) (v := .pointer (some ⟨b1, x1, none⟩)) rfl rfl (by kernel_rfl) (by kernel_rfl) (by kernel_rfl) (by kernel_rfl) (fun wx hS => by go_simp) HS ?_
              obtain ⟨p1, hp11, hp12⟩ := tab5 (m := 5) HT1.out (by decide) (x1 : Int) hqx10 (by show (x1 : Int) < 5; exact hqx11)
              rw [Int.toNat_natCast] at hp12
              have HZp1 := Lib.hid hp11
              have HC1 := Lib.hid hp12
              clear hp11 hp12
              refine held_mono (S' := (fun w' => ((True) ∧ w'.cell? ⟨b2, x2, none⟩ = some (.string p2)) ∧ w'.cell? ⟨b1, x1, none⟩ = some (.string p1))) (fun w' h => h.1) ?_
              have HS : (fun w' => ((True) ∧ w'.cell? ⟨b2, x2, none⟩ = some (.string p2)) ∧ w'.cell? ⟨b1, x1, none⟩ = some (.string p1)) v7 := ⟨HS, tabAt HT1.out HC1.out⟩
              refine held_take (i := 6) (d := 15) (v := .string p1) rfl rfl (by kernel_rfl) (by kernel_rfl) (by kernel_rfl) (by kernel_rfl) (fun wx hS => by have e0 := hS.2; go_simp) HS ?_
              refine held_take (i := 15) (d := 3) (v := .string p1) rfl rfl (by kernel_rfl) (by kernel_rfl) (by kernel_rfl) (by kernel_rfl) (fun wx hS => by go_simp) HS ?_
              refine held_take (i := 16) (d := 4) (v := .string p2) rfl rfl (by kernel_rfl) (by kernel_rfl) (by kernel_rfl) (by kernel_rfl) (fun wx hS => by go_simp) HS ?_
              refine held_take (i := 17) (d := 5) (v := .int .i64 z) rfl rfl (by kernel_rfl) (by kernel_rfl) (by kernel_rfl) (by kernel_rfl) (fun wx hS => by go_simp) HS ?_
              refine wpAnyH_done (by kernel_rfl) (NoPanic.normal ?_) _
              go_wp2
              have hbF := HF.out.r
              unfold Row at hbF
              exact bodyPost_ret (v := .tuple #[.agg #[.slice q1 n1 c1, .slice q2 n2 c2], .string p1, .string p2, .int .i64 z]) (by simp [results, Try.results13, go_sem, World.cell?, hbF]) rfl ⟨q1, n1, c1, q2, n2, c2, l, m, p1, p2, z, rfl, HF.out.s, HZp1.out, HF.out.b⟩
    · skip
      go_simp
      have HT2 := Lib.hid (Row.new v1 9 #[.string ⟨#[]⟩, .string ⟨#[97]⟩, .string ⟨#[97, 47, 49]⟩, .string ⟨#[98]⟩, .string ⟨#[122, 122]⟩])
      have HTL2 := Lib.hid (show w.heap.size + 1 < v1.heap.size from HD.out.rdr.lt)
      have HD := Lib.hid (HD.out.al (.cells #[.string ⟨#[]⟩, .string ⟨#[97]⟩, .string ⟨#[97, 47, 49]⟩, .string ⟨#[98]⟩, .string ⟨#[122, 122]⟩] 9))
      have HO := Lib.hid (HO.out.al (.cells #[.string ⟨#[]⟩, .string ⟨#[97]⟩, .string ⟨#[97, 47, 49]⟩, .string ⟨#[98]⟩, .string ⟨#[122, 122]⟩] 9))
      obtain ⟨b2, hb⟩ : ∃ x, v1.heap.size = x := ⟨_, rfl⟩
      obtain ⟨v2, hv⟩ : ∃ x, v1.alloc (.cells #[.string ⟨#[]⟩, .string ⟨#[97]⟩, .string ⟨#[97, 47, 49]⟩, .string ⟨#[98]⟩, .string ⟨#[122, 122]⟩] 9) = x := ⟨_, rfl⟩
      rw [hb] at HT2 HTL2 ⊢
      rw [hv] at HD HO HT2 ⊢
      clear hb hv
      refine hK.out _ _ trivial (fun HS => ?_)
      clear hK K
      refine wpAnyH_ready (rs := [2, 4]) (by kernel_rfl) (by simp) (AllReadyH.cons rfl (fun K hK => ?_) (AllReadyH.cons rfl (fun K hK => ?_) AllReadyH.nil))
      · skip
        go_simp
        have HT1 := Lib.hid (Row.new v2 9 #[.string ⟨#[]⟩, .string ⟨#[97]⟩, .string ⟨#[97, 47]⟩, .string ⟨#[98, 47]⟩, .string ⟨#[122, 47]⟩])
        have HTL1 := Lib.hid (show w.heap.size + 1 < v2.heap.size from HD.out.rdr.lt)
        have HD := Lib.hid (HD.out.al (.cells #[.string ⟨#[]⟩, .string ⟨#[97]⟩, .string ⟨#[97, 47]⟩, .string ⟨#[98, 47]⟩, .string ⟨#[122, 47]⟩] 9))
        have HO := Lib.hid (HO.out.al (.cells #[.string ⟨#[]⟩, .string ⟨#[97]⟩, .string ⟨#[97, 47]⟩, .string ⟨#[98, 47]⟩, .string ⟨#[122, 47]⟩] 9))
        have HT2 := Lib.hid (HT2.out.alloc (.cells #[.string ⟨#[]⟩, .string ⟨#[97]⟩, .string ⟨#[97, 47]⟩, .string ⟨#[98, 47]⟩, .string ⟨#[122, 47]⟩] 9))
        obtain ⟨b1, hb⟩ : ∃ x, v2.heap.size = x := ⟨_, rfl⟩
        obtain ⟨v3, hv⟩ : ∃ x, v2.alloc (.cells #[.string ⟨#[]⟩, .string ⟨#[97]⟩, .string ⟨#[97, 47]⟩, .string ⟨#[98, 47]⟩, .string ⟨#[122, 47]⟩] 9) = x := ⟨_, rfl⟩
        rw [hb] at HT1 HTL1 ⊢
        rw [hv] at HD HO HT1 HT2 ⊢
        clear hb hv
        refine hK.out _ _ trivial (fun HS => ?_)
        clear hK K
        refine wpAnyH_ready (rs := [4]) (by kernel_rfl) (by simp) (AllReadyH.cons rfl (fun K hK => ?_) AllReadyH.nil)
        go_simp
        refine (below_any _ _ _ _ _ _ HD.out.rdr (by decide) (by decide)).mono ?_
        rintro e v4 ⟨⟨x, hx1, hx2, rfl⟩, hw⟩
        obtain ⟨x1, rfl⟩ : ∃ k : Nat, x = k := ⟨x.toNat, by omega⟩
        have hqx10 : (0 : Int) ≤ (x1 : Int) := by omega
        have hqx11 : (x1 : Int) < 5 := by omega
        clear hx1 hx2
        have HD := Lib.hid (HD.out.step hw)
        have HO := Lib.hid (HO.out.step hw)
        have HT1 := Lib.hid (HT1.out.grown hw.grown (by intro e; injection e with e; have := HTL1.out; omega))
        have HT2 := Lib.hid (HT2.out.grown hw.grown (by intro e; injection e with e; have := HTL2.out; omega))
        clear hw
        refine hK.out _ _ trivial (fun HS => ?_)
        clear hK K
        refine held_take (i := 5) (d := 14) (v := .pointer (some ⟨b1, x1, none⟩)) rfl rfl (by kernel_rfl) (by kernel_rfl) (by kernel_rfl) (by kernel_rfl) (fun wx hS => by go_simp) HS ?_
        obtain ⟨p1, hp11, hp12⟩ := tab5 (m := 5) HT1.out (by decide) (x1 : Int) hqx10 (by show (x1 : Int) < 5; exact hqx11)
        rw [Int.toNat_natCast] at hp12
        have HZp1 := Lib.hid hp11
        have HC1 := Lib.hid hp12
        clear hp11 hp12
        refine held_mono (S' := (fun w' => (True) ∧ w'.cell? ⟨b1, x1, none⟩ = some (.string p1))) (fun w' h => h.1) ?_
        have HS : (fun w' => (True) ∧ w'.cell? ⟨b1, x1, none⟩ = some (.string p1)) v4 := ⟨HS, tabAt HT1.out HC1.out⟩
        refine held_take (i := 6) (d := 15) (v := .string p1) rfl rfl (by kernel_rfl) (by kernel_rfl) (by kernel_rfl) (by kernel_rfl) (fun wx hS => by have e0 := hS.2; go_simp) HS ?_
        refine wpAnyH_ready (rs := [9]) (by kernel_rfl) (by simp) (AllReadyH.cons rfl (fun K hK => ?_) AllReadyH.nil)
        go_simp
        refine (below_any _ _ _ _ _ _ HD.out.rdr (by decide) (by decide)).mono ?_
        rintro e v5 ⟨⟨x, hx1, hx2, rfl⟩, hw⟩
        obtain ⟨x2, rfl⟩ : ∃ k : Nat, x = k := ⟨x.toNat, by omega⟩
        have hqx20 : (0 : Int) ≤ (x2 : Int) := by omega
        have hqx21 : (x2 : Int) < 5 := by omega
        clear hx1 hx2
        have HD := Lib.hid (HD.out.step hw)
        have HO := Lib.hid (HO.out.step hw)
        have HT1 := Lib.hid (HT1.out.grown hw.grown (by intro e; injection e with e; have := HTL1.out; omega))
        have HT2 := Lib.hid (HT2.out.grown hw.grown (by intro e; injection e with e; have := HTL2.out; omega))
        clear hw
        refine hK.out _ _ ⟨trivial, tabAt HT1.out HC1.out⟩ (fun HS => ?_)
        clear hK K
        refine held_take (i := 10) (d := 19) (v := .pointer (some ⟨b2, x2, none⟩)) rfl rfl (by kernel_rfl) (by kernel_rfl) (by kernel_rfl) (by kernel_rfl) (fun wx hS => by go_simp) HS ?_
        obtain ⟨p2, hp21, hp22⟩ := tab5 (m := 5) HT2.out (by decide) (x2 : Int) hqx20 (by show (x2 : Int) < 5; exact hqx21)
        rw [Int.toNat_natCast] at hp22
        have HZp2 := Lib.hid hp21
        have HC2 := Lib.hid hp22
        clear hp21 hp22
        refine held_mono (S' := (fun w' => ((True) ∧ w'.cell? ⟨b1, x1, none⟩ = some (.string p1)) ∧ w'.cell? ⟨b2, x2, none⟩ = some (.string p2))) (fun w' h => h.1) ?_
        have HS : (fun w' => ((True) ∧ w'.cell? ⟨b1, x1, none⟩ = some (.string p1)) ∧ w'.cell? ⟨b2, x2, none⟩ = some (.string p2)) v5 := ⟨HS, tabAt HT2.out HC2.out⟩
        refine held_take (i := 11) (d := 20) (v := .string p2) rfl rfl (by kernel_rfl) (by kernel_rfl) (by kernel_rfl) (by kernel_rfl) (fun wx hS => by have e0 := hS.2; go_simp) HS ?_
        refine wpAnyH_ready (rs := [13]) (by kernel_rfl) (by simp) (AllReadyH.cons rfl (fun K hK => ?_) AllReadyH.nil)
        go_simp
        refine (off_any _ _ _ _ _ _ _ HD.out.rdr (by decide) (by decide) (by decide)).mono ?_
        rintro e v6 ⟨⟨z, hz, rfl⟩, hw⟩
        clear hz
        have HD := Lib.hid (HD.out.step hw)
        have HO := Lib.hid (HO.out.step hw)
        have HT1 := Lib.hid (HT1.out.grown hw.grown (by intro e; injection e with e; have := HTL1.out; omega))
        have HT2 := Lib.hid (HT2.out.grown hw.grown (by intro e; injection e with e; have := HTL2.out; omega))
        clear hw
        refine hK.out _ _ ⟨⟨trivial, tabAt HT1.out HC1.out⟩, tabAt HT2.out HC2.out⟩ (fun HS => ?_)
        clear hK K
        refine wpAnyH_ready (rs := [14]) (by kernel_rfl) (by simp) (AllReadyH.cons rfl (fun K hK => ?_) AllReadyH.nil)
        have r0 := HD.out.res.cell (j := 0) (by simp)
        have r1 := HD.out.res.cell (j := 1) (by simp)
        have f0 := HD.out.res.free 0
        have f1 := HD.out.res.free 1
        simp at r0 r1
        go_simp
        have HF := Lib.hid (HD.out.fin HO.out)
        have HT1 := Lib.hid ((HT1.out.other (r := w.heap.size) (by have := HTL1.out; omega) 0 (.slice q1 n1 c1)).other (r := w.heap.size) (by have := HTL1.out; omega) 1 (.slice q2 n2 c2))
        have HT2 := Lib.hid ((HT2.out.other (r := w.heap.size) (by have := HTL2.out; omega) 0 (.slice q1 n1 c1)).other (r := w.heap.size) (by have := HTL2.out; omega) 1 (.slice q2 n2 c2))
        obtain ⟨v7, hv⟩ : ∃ x, (v6.setCell ⟨w.heap.size, 0, none⟩ (.slice q1 n1 c1)).setCell ⟨w.heap.size, 1, none⟩ (.slice q2 n2 c2) = x := ⟨_, rfl⟩
        rw [hv] at HF HT1 HT2 ⊢
        clear hv
        refine hK.out _ _ ⟨⟨trivial, tabAt HT1.out HC1.out⟩, tabAt HT2.out HC2.out⟩ (fun HS => ?_)
        clear hK K
        clear r0 r1 f0 f1
        refine held_take (i := 15) (d := 3) (v := .string p1) rfl rfl (by kernel_rfl) (by kernel_rfl) (by kernel_rfl) (by kernel_rfl) (fun wx hS => by go_simp) HS ?_
        refine held_take (i := 16) (d := 4) (v := .string p2) rfl rfl (by kernel_rfl) (by kernel_rfl) (by kernel_rfl) (by kernel_rfl) (fun wx hS => by go_simp) HS ?_
        refine held_take (i := 17) (d := 5) (v := .int .i64 z) rfl rfl (by kernel_rfl) (by kernel_rfl) (by kernel_rfl) (by kernel_rfl) (fun wx hS => by go_simp) HS ?_
        refine wpAnyH_done (by kernel_rfl) (NoPanic.normal ?_) _
        go_wp2
        have hbF := HF.out.r
        unfold Row at hbF
        exact bodyPost_ret (v := .tuple #[.agg #[.slice q1 n1 c1, .slice q2 n2 c2], .string p1, .string p2, .int .i64 z]) (by simp [results, Try.results13, go_sem, World.cell?, hbF]) rfl ⟨q1, n1, c1, q2, n2, c2, l, m, p1, p2, z, rfl, HF.out.s, HZp1.out, HF.out.b⟩
      · skip
        go_simp
        refine (below_any _ _ _ _ _ _ HD.out.rdr (by decide) (by decide)).mono ?_
        rintro e v3 ⟨⟨x, hx1, hx2, rfl⟩, hw⟩
        obtain ⟨x1, rfl⟩ : ∃ k : Nat, x = k := ⟨x.toNat, by omega⟩
        have hqx10 : (0 : Int) ≤ (x1 : Int) := by omega
        have hqx11 : (x1 : Int) < 5 := by omega
        clear hx1 hx2
        have HD := Lib.hid (HD.out.step hw)
        have HO := Lib.hid (HO.out.step hw)
        have HT2 := Lib.hid (HT2.out.grown hw.grown (by intro e; injection e with e; have := HTL2.out; omega))
        clear hw
        refine hK.out _ _ trivial (fun HS => ?_)
        clear hK K
        refine wpAnyH_ready (rs := [2, 9]) (by kernel_rfl) (by simp) (AllReadyH.cons rfl (fun K hK => ?_) (AllReadyH.cons rfl (fun K hK => ?_) AllReadyH.nil))
        · skip
          go_simp
          have HT1 := Lib.hid (Row.new v3 9 #[.string ⟨#[]⟩, .string ⟨#[97]⟩, .string ⟨#[97, 47]⟩, .string ⟨#[98, 47]⟩, .string ⟨#[122, 47]⟩])
          have HTL1 := Lib.hid (show w.heap.size + 1 < v3.heap.size from HD.out.rdr.lt)
          have HD := Lib.hid (HD.out.al (.cells #[.string ⟨#[]⟩, .string ⟨#[97]⟩, .string ⟨#[97, 47]⟩, .string ⟨#[98, 47]⟩, .string ⟨#[122, 47]⟩] 9))
          have HO := Lib.hid (HO.out.al (.cells #[.string ⟨#[]⟩, .string ⟨#[97]⟩, .string ⟨#[97, 47]⟩, .string ⟨#[98, 47]⟩, .string ⟨#[122, 47]⟩] 9))
          have HT2 := Lib.hid (HT2.out.alloc (.cells #[.string ⟨#[]⟩, .string ⟨#[97]⟩, .string ⟨#[97, 47]⟩, .string ⟨#[98, 47]⟩, .string ⟨#[122, 47]⟩] 9))
          obtain ⟨b1, hb⟩ : ∃ x, v3.heap.size = x := ⟨_, rfl⟩
          obtain ⟨v4, hv⟩ : ∃ x, v3.alloc (.cells #[.string ⟨#[]⟩, .string ⟨#[97]⟩, .string ⟨#[97, 47]⟩, .string ⟨#[98, 47]⟩, .string ⟨#[122, 47]⟩] 9) = x := ⟨_, rfl⟩
          rw [hb] at HT1 HTL1 ⊢
          rw [hv] at HD HO HT1 HT2 ⊢
          clear hb hv
          refine hK.out _ _ trivial (fun HS => ?_)
          clear hK K
          refine held_take (i := 5) (d := 14) (v := .pointer (some ⟨b1, x1, none⟩)) rfl rfl (by kernel_rfl) (by kernel_rfl) (by kernel_rfl) (by kernel_rfl) (fun wx hS => by go_simp) HS ?_
          obtain ⟨p1, hp11, hp12⟩ := tab5 (m := 5) HT1.out (by decide) (x1 : Int) hqx10 (by show (x1 : Int) < 5; exact hqx11)
          rw [Int.toNat_natCast] at hp12
          have HZp1 := Lib.hid hp11
          have HC1 := Lib.hid hp12
          clear hp11 hp12
          refine held_mono (S' := (fun w' => (True) ∧ w'.cell? ⟨b1, x1, none⟩ = some (.string p1))) (fun w' h => h.1) ?_
          have HS : (fun w' => (True) ∧ w'.cell? ⟨b1, x1, none⟩ = some (.string p1)) v4 := ⟨HS, tabAt HT1.out HC1.out⟩
          refine held_take (i := 6) (d := 15) (v := .string p1) rfl rfl (by kernel_rfl) (by kernel_rfl) (by kernel_rfl) (by kernel_rfl) (fun wx hS => by have e0 := hS.2; go_simp) HS ?_
          refine wpAnyH_ready (rs := [9]) (by kernel_rfl) (by simp) (AllReadyH.cons rfl (fun K hK => ?_) AllReadyH.nil)
          go_simp
          refine (below_any _ _ _ _ _ _ HD.out.rdr (by decide) (by decide)).mono ?_
          rintro e v5 ⟨⟨x, hx1, hx2, rfl⟩, hw⟩
          obtain ⟨x2, rfl⟩ : ∃ k : Nat, x = k := ⟨x.toNat, by omega⟩
          have hqx20 : (0 : Int) ≤ (x2 : Int) := by omega
          have hqx21 : (x2 : Int) < 5 := by omega
          clear hx1 hx2
          have HD := Lib.hid (HD.out.step hw)
          have HO := Lib.hid (HO.out.step hw)
          have HT1 := Lib.hid (HT1.out.grown hw.grown (by intro e; injection e with e; have := HTL1.out; omega))
          have HT2 := Lib.hid (HT2.out.grown hw.grown (by intro e; injection e with e; have := HTL2.out; omega))
          clear hw
          refine hK.out _ _ ⟨trivial, tabAt HT1.out HC1.out⟩ (fun HS => ?_)
          clear hK K
          refine held_take (i := 10) (d := 19) (v := .pointer (some ⟨b2, x2, none⟩)) rfl rfl (by kernel_rfl) (by kernel_rfl) (by kernel_rfl) (by kernel_rfl) (fun wx hS => by go_simp) HS ?_
          obtain ⟨p2, hp21, hp22⟩ := tab5 (m := 5) HT2.out (by decide) (x2 : Int) hqx20 (by show (x2 : Int) < 5; exact hqx21)
          rw [Int.toNat_natCast] at hp22
          have HZp2 := Lib.hid hp21
          have HC2 := Lib.hid hp22
          clear hp21 hp22
          refine held_mono (S' := (fun w' => ((True) ∧ w'.cell? ⟨b1, x1, none⟩ = some (.string p1)) ∧ w'.cell? ⟨b2, x2, none⟩ = some (.string p2))) (fun w' h => h.1) ?_
          have HS : (fun w' => ((True) ∧ w'.cell? ⟨b1, x1, none⟩ = some (.string p1)) ∧ w'.cell? ⟨b2, x2, none⟩ = some (.string p2)) v5 := ⟨HS, tabAt HT2.out HC2.out⟩
          refine held_take (i := 11) (d := 20) (v := .string p2) rfl rfl (by kernel_rfl) (by kernel_rfl) (by kernel_rfl) (by kernel_rfl) (fun wx hS => by have e0 := hS.2; go_simp) HS ?_
          refine wpAnyH_ready (rs := [13]) (by kernel_rfl) (by simp) (AllReadyH.cons rfl (fun K hK => ?_) AllReadyH.nil)
          go_simp
          refine (off_any _ _ _ _ _ _ _ HD.out.rdr (by decide) (by decide) (by decide)).mono ?_
          rintro e v6 ⟨⟨z, hz, rfl⟩, hw⟩
          clear hz
          have HD := Lib.hid (HD.out.step hw)
          have HO := Lib.hid (HO.out.step hw)
          have HT1 := Lib.hid (HT1.out.grown hw.grown (by intro e; injection e with e; have := HTL1.out; omega))
          have HT2 := Lib.hid (HT2.out.grown hw.grown (by intro e; injection e with e; have := HTL2.out; omega))
          clear hw
          refine hK.out _ _ ⟨⟨trivial, tabAt HT1.out HC1.out⟩, tabAt HT2.out HC2.out⟩ (fun HS => ?_)
          clear hK K
          refine wpAnyH_ready (rs := [14]) (by kernel_rfl) (by simp) (AllReadyH.cons rfl (fun K hK => ?_) AllReadyH.nil)
          have r0 := HD.out.res.cell (j := 0) (by simp)
          have r1 := HD.out.res.cell (j := 1) (by simp)
          have f0 := HD.out.res.free 0
          have f1 := HD.out.res.free 1
          simp at r0 r1
          go_simp
          have HF := Lib.hid (HD.out.fin HO.out)
          have HT1 := Lib.hid ((HT1.out.other (r := w.heap.size) (by have := HTL1.out; omega) 0 (.slice q1 n1 c1)).other (r := w.heap.size) (by have := HTL1.out; omega) 1 (.slice q2 n2 c2))
          have HT2 := Lib.hid ((HT2.out.other (r := w.heap.size) (by have := HTL2.out; omega) 0 (.slice q1 n1 c1)).other (r := w.heap.size) (by have := HTL2.out; omega) 1 (.slice q2 n2 c2))
          obtain ⟨v7, hv⟩ : ∃ x, (v6.setCell ⟨w.heap.size, 0, none⟩ (.slice q1 n1 c1)).setCell ⟨w.heap.size, 1, none⟩ (.slice q2 n2 c2) = x := ⟨_, rfl⟩
          rw [hv] at HF HT1 HT2 ⊢
          clear hv
          refine hK.out _ _ ⟨⟨trivial, tabAt HT1.out HC1.out⟩, tabAt HT2.out HC2.out⟩ (fun HS => ?_)
          clear hK K
          clear r0 r1 f0 f1
          refine held_take (i := 15) (d := 3) (v := .string p1) rfl rfl (by kernel_rfl) (by kernel_rfl) (by kernel_rfl) (by kernel_rfl) (fun wx hS => by go_simp) HS ?_
          refine held_take (i := 16) (d := 4) (v := .string p2) rfl rfl (by kernel_rfl) (by kernel_rfl) (by kernel_rfl) (by kernel_rfl) (fun wx hS => by go_simp) HS ?_
          refine held_take (i := 17) (d := 5) (v := .int .i64 z) rfl rfl (by kernel_rfl) (by kernel_rfl) (by kernel_rfl) (by kernel_rfl) (fun wx hS => by go_simp) HS ?_
          refine wpAnyH_done (by kernel_rfl) (NoPanic.normal ?_) _
          go_wp2
          have hbF := HF.out.r
          unfold Row at hbF
          exact bodyPost_ret (v := .tuple #[.agg #[.slice q1 n1 c1, .slice q2 n2 c2], .string p1, .string p2, .int .i64 z]) (by simp [results, Try.results13, go_sem, World.cell?, hbF]) rfl ⟨q1, n1, c1, q2, n2, c2, l, m, p1, p2, z, rfl, HF.out.s, HZp1.out, HF.out.b⟩
        · skip
          go_simp
          refine (below_any _ _ _ _ _ _ HD.out.rdr (by decide) (by decide)).mono ?_
          rintro e v4 ⟨⟨x, hx1, hx2, rfl⟩, hw⟩
          obtain ⟨x2, rfl⟩ : ∃ k : Nat, x = k := ⟨x.toNat, by omega⟩
          have hqx20 : (0 : Int) ≤ (x2 : Int) := by omega
          have hqx21 : (x2 : Int) < 5 := by omega
          clear hx1 hx2
          have HD := Lib.hid (HD.out.step hw)
          have HO := Lib.hid (HO.out.step hw)
          have HT2 := Lib.hid (HT2.out.grown hw.grown (by intro e; injection e with e; have := HTL2.out; omega))
          clear hw
          refine hK.out _ _ trivial (fun HS => ?_)
          clear hK K
          refine held_take (i := 10) (d := 19) (v := .pointer (some ⟨b2, x2, none⟩)) rfl rfl (by kernel_rfl) (by kernel_rfl) (by kernel_rfl) (by kernel_rfl) (fun wx hS => by go_simp) HS ?_
          obtain ⟨p2, hp21, hp22⟩ := tab5 (m := 5) HT2.out (by decide) (x2 : Int) hqx20 (by show (x2 : Int) < 5; exact hqx21)
          rw [Int.toNat_natCast] at hp22
          have HZp2 := Lib.hid hp21
          have HC2 := Lib.hid hp22
          clear hp21 hp22
          refine held_mono (S' := (fun w' => (True) ∧ w'.cell? ⟨b2, x2, none⟩ = some (.string p2))) (fun w' h => h.1) ?_
          have HS : (fun w' => (True) ∧ w'.cell? ⟨b2, x2, none⟩ = some (.string p2)) v4 := ⟨HS, tabAt HT2.out HC2.out⟩
          refine held_take (i := 11) (d := 20) (v := .string p2) rfl rfl (by kernel_rfl) (by kernel_rfl) (by kernel_rfl) (by kernel_rfl) (fun wx hS => by have e0 := hS.2; go_simp) HS ?_
          refine wpAnyH_ready (rs := [2, 13]) (by kernel_rfl) (by simp) (AllReadyH.cons rfl (fun K hK => ?_) (AllReadyH.cons rfl (fun K hK => ?_) AllReadyH.nil))
          · skip
            go_simp
            have HT1 := Lib.hid (Row.new v4 9 #[.string ⟨#[]⟩, .string ⟨#[97]⟩, .string ⟨#[97, 47]⟩, .string ⟨#[98, 47]⟩, .string ⟨#[122, 47]⟩])
            have HTL1 := Lib.hid (show w.heap.size + 1 < v4.heap.size from HD.out.rdr.lt)
            have HD := Lib.hid (HD.out.al (.cells #[.string ⟨#[]⟩, .string ⟨#[97]⟩, .string ⟨#[97, 47]⟩, .string ⟨#[98, 47]⟩, .string ⟨#[122, 47]⟩] 9))
            have HO := Lib.hid (HO.out.al (.cells #[.string ⟨#[]⟩, .string ⟨#[97]⟩, .string ⟨#[97, 47]⟩, .string ⟨#[98, 47]⟩, .string ⟨#[122, 47]⟩] 9))
            have HT2 := Lib.hid (HT2.out.alloc (.cells #[.string ⟨#[]⟩, .string ⟨#[97]⟩, .string ⟨#[97, 47]⟩, .string ⟨#[98, 47]⟩, .string ⟨#[122, 47]⟩] 9))
            obtain ⟨b1, hb⟩ : ∃ x, v4.heap.size = x := ⟨_, rfl⟩
            obtain ⟨v5, hv⟩ : ∃ x, v4.alloc (.cells #[.string ⟨#[]⟩, .string ⟨#[97]⟩, .string ⟨#[97, 47]⟩, .string ⟨#[98, 47]⟩, .string ⟨#[122, 47]⟩] 9) = x := ⟨_, rfl⟩
            rw [hb] at HT1 HTL1 ⊢
            rw [hv] at HD HO HT1 HT2 ⊢
            clear hb hv
            refine hK.out _ _ ⟨trivial, tabAt HT2.out HC2.out⟩ (fun HS => ?_)
            clear hK K
            refine held_take (i := 5) (d := 14) (v := .pointer (some ⟨b1, x1, none⟩)) rfl rfl (by kernel_rfl) (by kernel_rfl) (by kernel_rfl) (by kernel_rfl) (fun wx hS => by go_simp) HS ?_
            obtain ⟨p1, hp11, hp12⟩ := tab5 (m := 5) HT1.out (by decide) (x1 : Int) hqx10 (by show (x1 : Int) < 5; exact hqx11)
            rw [Int.toNat_natCast] at hp12
            have HZp1 := Lib.hid hp11
            have HC1 := Lib.hid hp12
            clear hp11 hp12
            refine held_mono (S' := (fun w' => ((True) ∧ w'.cell? ⟨b2, x2, none⟩ = some (.string p2)) ∧ w'.cell? ⟨b1, x1, none⟩ = some (.string p1))) (fun w' h => h.1) ?_
            have HS : (fun w' => ((True) ∧ w'.cell? ⟨b2, x2, none⟩ = some (.string p2)) ∧ w'.cell? ⟨b1, x1, none⟩ = some (.string p1)) v5 := ⟨HS, tabAt HT1.out HC1.out⟩
            refine held_take (i := 6) (d := 15) (v := .string p1) rfl rfl (by kernel_rfl) (by kernel_rfl) (by kernel_rfl) (by kernel_rfl) (fun wx hS => by have e0 := hS.2; go_simp) HS ?_
            refine wpAnyH_ready (rs := [13]) (by kernel_rfl) (by simp) (AllReadyH.cons rfl (fun K hK => ?_) AllReadyH.nil)
            go_simp
            refine (off_any _ _ _ _ _ _ _ HD.out.rdr (by decide) (by decide) (by decide)).mono ?_
            rintro e v6 ⟨⟨z, hz, rfl⟩, hw⟩
            clear hz
            have HD := Lib.hid (HD.out.step hw)
            have HO := Lib.hid (HO.out.step hw)
            have HT1 := Lib.hid (HT1.out.grown hw.grown (by intro e; injection e with e; have := HTL1.out; omega))
            have HT2 := Lib.hid (HT2.out.grown hw.grown (by intro e; injection e with e; have := HTL2.out; omega))
            clear hw
            refine hK.out _ _ ⟨⟨trivial, tabAt HT2.out HC2.out⟩, tabAt HT1.out HC1.out⟩ (fun HS => ?_)
            clear hK K
            refine wpAnyH_ready (rs := [14]) (by kernel_rfl) (by simp) (AllReadyH.cons rfl (fun K hK => ?_) AllReadyH.nil)
            have r0 := HD.out.res.cell (j := 0) (by simp)
            have r1 := HD.out.res.cell (j := 1) (by simp)
            have f0 := HD.out.res.free 0
            have f1 := HD.out.res.free 1
            simp at r0 r1
            go_simp
            have HF := Lib.hid (HD.out.fin HO.out)
            have HT1 := Lib.hid ((HT1.out.other (r := w.heap.size) (by have := HTL1.out; omega) 0 (.slice q1 n1 c1)).other (r := w.heap.size) (by have := HTL1.out; omega) 1 (.slice q2 n2 c2))
            have HT2 := Lib.hid ((HT2.out.other (r := w.heap.size) (by have := HTL2.out; omega) 0 (.slice q1 n1 c1)).other (r := w.heap.size) (by have := HTL2.out; omega) 1 (.slice q2 n2 c2))
            obtain ⟨v7, hv⟩ : ∃ x, (v6.setCell ⟨w.heap.size, 0, none⟩ (.slice q1 n1 c1)).setCell ⟨w.heap.size, 1, none⟩ (.slice q2 n2 c2) = x := ⟨_, rfl⟩
            rw [hv] at HF HT1 HT2 ⊢
            clear hv
            refine hK.out _ _ ⟨⟨trivial, tabAt HT2.out HC2.out⟩, tabAt HT1.out HC1.out⟩ (fun HS => ?_)
            clear hK K
            clear r0 r1 f0 f1
            refine held_take (i := 15) (d := 3) (v := .string p1) rfl rfl (by kernel_rfl) (by kernel_rfl) (by kernel_rfl) (by kernel_rfl) (fun wx hS => by go_simp) HS ?_
            refine held_take (i := 16) (d := 4) (v := .string p2) rfl rfl (by kernel_rfl) (by kernel_rfl) (by kernel_rfl) (by kernel_rfl) (fun wx hS => by go_simp) HS ?_
            refine held_take (i := 17) (d := 5) (v := .int .i64 z) rfl rfl (by kernel_rfl) (by kernel_rfl) (by kernel_rfl) (by kernel_rfl) (fun wx hS => by go_simp) HS ?_
            refine wpAnyH_done (by kernel_rfl) (NoPanic.normal ?_) _
            go_wp2
            have hbF := HF.out.r
            unfold Row at hbF
            exact bodyPost_ret (v := .tuple #[.agg #[.slice q1 n1 c1, .slice q2 n2 c2], .string p1, .string p2, .int .i64 z]) (by simp [results, Try.results13, go_sem, World.cell?, hbF]) rfl ⟨q1, n1, c1, q2, n2, c2, l, m, p1, p2, z, rfl, HF.out.s, HZp1.out, HF.out.b⟩
          · skip
            go_simp
            refine (off_any _ _ _ _ _ _ _ HD.out.rdr (by decide) (by decide) (by decide)).mono ?_
            rintro e v5 ⟨⟨z, hz, rfl⟩, hw⟩
            clear hz
            have HD := Lib.hid (HD.out.step hw)
            have HO := Lib.hid (HO.out.step hw)
            have HT2 := Lib.hid (HT2.out.grown hw.grown (by intro e; injection e with e; have := HTL2.out; omega))
            clear hw
            refine hK.out _ _ ⟨trivial, tabAt HT2.out HC2.out⟩ (fun HS => ?_)
            clear hK K
            refine wpAnyH_ready (rs := [2, 14]) (by kernel_rfl) (by simp) (AllReadyH.cons rfl (fun K hK => ?_) (AllReadyH.cons rfl (fun K hK => ?_) AllReadyH.nil))
            · skip
              go_simp
              have HT1 := Lib.hid (Row.new v5 9 #[.string ⟨#[]⟩, .string ⟨#[97]⟩, .string ⟨#[97, 47]⟩, .string ⟨#[98, 47]⟩, .string ⟨#[122, 47]⟩])
              have HTL1 := Lib.hid (show w.heap.size + 1 < v5.heap.size from HD.out.rdr.lt)
              have HD := Lib.hid (HD.out.al (.cells #[.string ⟨#[]⟩, .string ⟨#[97]⟩, .string ⟨#[97, 47]⟩, .string ⟨#[98, 47]⟩, .string ⟨#[122, 47]⟩] 9))
              have HO := Lib.hid (HO.out.al (.cells #[.string ⟨#[]⟩, .string ⟨#[97]⟩, .string ⟨#[97, 47]⟩, .string ⟨#[98, 47]⟩, .string ⟨#[122, 47]⟩] 9))
              have HT2 := Lib.hid (HT2.out.alloc (.cells #[.string ⟨#[]⟩, .string ⟨#[97]⟩, .string ⟨#[97, 47]⟩, .string ⟨#[98, 47]⟩, .string ⟨#[122, 47]⟩] 9))
              obtain ⟨b1, hb⟩ : ∃ x, v5.heap.size = x := ⟨_, rfl⟩
              obtain ⟨v6, hv⟩ : ∃ x, v5.alloc (.cells #[.string ⟨#[]⟩, .string ⟨#[97]⟩, .string ⟨#[97, 47]⟩, .string ⟨#[98, 47]⟩, .string ⟨#[122, 47]⟩] 9) = x := ⟨_, rfl⟩
              rw [hb] at HT1 HTL1 ⊢
              rw [hv] at HD HO HT1 HT2 ⊢
              clear hb hv
              refine hK.out _ _ ⟨trivial, tabAt HT2.out HC2.out⟩ (fun HS => ?_)
              clear hK K
              refine held_take (i := 5) (d := 14) (v := .pointer (some ⟨b1, x1, none⟩)) rfl rfl (by kernel_rfl) (by kernel_rfl) (by kernel_rfl) (by kernel_rfl) (fun wx hS => by go_simp) HS ?_
              obtain ⟨p1, hp11, hp12⟩ := tab5 (m := 5) HT1.out (by decide) (x1 : Int) hqx10 (by show (x1 : Int) < 5; exact hqx11)
              rw [Int.toNat_natCast] at hp12
              have HZp1 := Lib.hid hp11
              have HC1 := Lib.hid hp12
              clear hp11 hp12
              refine held_mono (S' := (fun w' => ((True) ∧ w'.cell? ⟨b2, x2, none⟩ = some (.string p2)) ∧ w'.cell? ⟨b1, x1, none⟩ = some (.string p1))) (fun w' h => h.1) ?_
              have HS : (fun w' => ((True) ∧ w'.cell? ⟨b2, x2, none⟩ = some (.string p2)) ∧ w'.cell? ⟨b1, x1, none⟩ = some (.string p1)) v6 := ⟨HS, tabAt HT1.out HC1.out⟩
              refine held_take (i := 6) (d := 15) (v := .string p1) rfl rfl (by kernel_rfl) (by kernel_rfl) (by kernel_rfl) (by kernel_rfl) (fun wx hS => by have e0 := hS.2; go_simp) HS ?_
              refine wpAnyH_ready (rs := [14]) (by kernel_rfl) (by simp) (AllReadyH.cons rfl (fun K hK => ?_) AllReadyH.nil)
              have r0 := HD.out.res.cell (j := 0) (by simp)
              have r1 := HD.out.res.cell (j := 1) (by simp)
              have f0 := HD.out.res.free 0
              have f1 := HD.out.res.free 1
              simp at r0 r1
              go_simp
              have HF := Lib.hid (HD.out.fin HO.out)
              have HT1 := Lib.hid ((HT1.out.other (r := w.heap.size) (by have := HTL1.out; omega) 0 (.slice q1 n1 c1)).other (r := w.heap.size) (by have := HTL1.out; omega) 1 (.slice q2 n2 c2))
              have HT2 := Lib.hid ((HT2.out.other (r := w.heap.size) (by have := HTL2.out; omega) 0 (.slice q1 n1 c1)).other (r := w.heap.size) (by have := HTL2.out; omega) 1 (.slice q2 n2 c2))
              obtain ⟨v7, hv⟩ : ∃ x, (v6.setCell ⟨w.heap.size, 0, none⟩ (.slice q1 n1 c1)).setCell ⟨w.heap.size, 1, none⟩ (.slice q2 n2 c2) = x := ⟨_, rfl⟩
              rw [hv] at HF HT1 HT2 ⊢
              clear hv
              refine hK.out _ _ ⟨⟨trivial, tabAt HT2.out HC2.out⟩, tabAt HT1.out HC1.out⟩ (fun HS => ?_)
              clear hK K
              clear r0 r1 f0 f1
              refine held_take (i := 15) (d := 3) (v := .string p1) rfl rfl (by kernel_rfl) (by kernel_rfl) (by kernel_rfl) (by kernel_rfl) (fun wx hS => by go_simp) HS ?_
              refine held_take (i := 16) (d := 4) (v := .string p2) rfl rfl (by kernel_rfl) (by kernel_rfl) (by kernel_rfl) (by kernel_rfl) (fun wx hS => by go_simp) HS ?_
              refine held_take (i := 17) (d := 5) (v := .int .i64 z) rfl rfl (by kernel_rfl) (by kernel_rfl) (by kernel_rfl) (by kernel_rfl) (fun wx hS => by go_simp) HS ?_
              refine wpAnyH_done (by kernel_rfl) (NoPanic.normal ?_) _
              go_wp2
              have hbF := HF.out.r
              unfold Row at hbF
              exact bodyPost_ret (v := .tuple #[.agg #[.slice q1 n1 c1, .slice q2 n2 c2], .string p1, .string p2, .int .i64 z]) (by simp [results, Try.results13, go_sem, World.cell?, hbF]) rfl ⟨q1, n1, c1, q2, n2, c2, l, m, p1, p2, z, rfl, HF.out.s, HZp1.out, HF.out.b⟩
            · skip
              have r0 := HD.out.res.cell (j := 0) (by simp)
              have r1 := HD.out.res.cell (j := 1) (by simp)
              have f0 := HD.out.res.free 0
              have f1 := HD.out.res.free 1
              simp at r0 r1
              go_simp
              have HF := Lib.hid (HD.out.fin HO.out)
              have HT2 := Lib.hid ((HT2.out.other (r := w.heap.size) (by have := HTL2.out; omega) 0 (.slice q1 n1 c1)).other (r := w.heap.size) (by have := HTL2.out; omega) 1 (.slice q2 n2 c2))
              obtain ⟨v6, hv⟩ : ∃ x, (v5.setCell ⟨w.heap.size, 0, none⟩ (.slice q1 n1 c1)).setCell ⟨w.heap.size, 1, none⟩ (.slice q2 n2 c2) = x := ⟨_, rfl⟩
              rw [hv] at HF HT2 ⊢
              clear hv
              refine hK.out _ _ ⟨trivial, tabAt HT2.out HC2.out⟩ (fun HS => ?_)
              clear hK K
              clear r0 r1 f0 f1
              refine wpAnyH_ready (rs := [2]) (by kernel_rfl) (by simp) (AllReadyH.cons rfl (fun K hK => ?_) AllReadyH.nil)
              go_simp
              have HT1 := Lib.hid (Row.new v6 9 #[.string ⟨#[]⟩, .string ⟨#[97]⟩, .string ⟨#[97, 47]⟩, .string ⟨#[98, 47]⟩, .string ⟨#[122, 47]⟩])
              have HF := Lib.hid (HF.out.al (.cells #[.string ⟨#[]⟩, .string ⟨#[97]⟩, .string ⟨#[97, 47]⟩, .string ⟨#[98, 47]⟩, .string ⟨#[122, 47]⟩] 9))
              have HT2 := Lib.hid (HT2.out.alloc (.cells #[.string ⟨#[]⟩, .string ⟨#[97]⟩, .string ⟨#[97, 47]⟩, .string ⟨#[98, 47]⟩, .string ⟨#[122, 47]⟩] 9))
              obtain ⟨b1, hb⟩ : ∃ x, v6.heap.size = x := ⟨_, rfl⟩
              obtain ⟨v7, hv⟩ : ∃ x, v6.alloc (.cells #[.string ⟨#[]⟩, .string ⟨#[97]⟩, .string ⟨#[97, 47]⟩, .string ⟨#[98, 47]⟩, .string ⟨#[122, 47]⟩] 9) = x := ⟨_, rfl⟩
              rw [hb] at HT1  ⊢
              rw [hv] at HF HT1 HT2 ⊢
              clear hb hv
              refine hK.out _ _ ⟨trivial, tabAt HT2.out HC2.out⟩ (fun HS => ?_)
              clear hK K
              refine held_take (i := 5) (d := 14) (v := .pointer (some ⟨b1, x1, none⟩)) rfl rfl (by kernel_rfl) (by kernel_rfl) (by kernel_rfl) (by kernel_rfl) (fun wx hS => by go_simp) HS ?_
              obtain ⟨p1, hp11, hp12⟩ := tab5 (m := 5) HT1.out (by decide) (x1 : Int) hqx10 (by show (x1 : Int) < 5; exact hqx11)
              rw [Int.toNat_natCast] at hp12
              have HZp1 := Lib.hid hp11
              have HC1 := Lib.hid hp12
              clear hp11 hp12
              refine held_mono (S' := (fun w' => ((True) ∧ w'.cell? ⟨b2, x2, none⟩ = some (.string p2)) ∧ w'.cell? ⟨b1, x1, none⟩ = some (.string p1))) (fun w' h => h.1) ?_
              have HS : (fun w' => ((True) ∧ w'.cell? ⟨b2, x2, none⟩ = some (.string p2)) ∧ w'.cell? ⟨b1, x1, none⟩ = some (.string p1)) v7 := ⟨HS, tabAt HT1.out HC1.out⟩
              refine held_take (i := 6) (d := 15) (v := .string p1) rfl rfl (by kernel_rfl) (by kernel_rfl) (by kernel_rfl) (by kernel_rfl) (fun wx hS => by have e0 := hS.2; go_simp) HS ?_
              refine held_take (i := 15) (d := 3) (v := .string p1) rfl rfl (by kernel_rfl) (by kernel_rfl) (by kernel_rfl) (by kernel_rfl) (fun wx hS => by go_simp) HS ?_
              refine held_take (i := 16) (d := 4) (v := .string p2) rfl rfl (by kernel_rfl) (by kernel_rfl) (by kernel_rfl) (by kernel_rfl) (fun wx hS => by go_simp) HS ?_
              refine held_take (i := 17) (d := 5) (v := .int .i64 z) rfl rfl (by kernel_rfl) (by kernel_rfl) (by kernel_rfl) (by kernel_rfl) (fun wx hS => by go_simp) HS ?_
              refine wpAnyH_done (by kernel_rfl) (NoPanic.normal ?_) _
              go_wp2
              have hbF := HF.out.r
              unfold Row at hbF
              exact bodyPost_ret (v := .tuple #[.agg #[.slice q1 n1 c1, .slice q2 n2 c2], .string p1, .string p2, .int .i64 z]) (by simp [results, Try.results13, go_sem, World.cell?, hbF]) rfl ⟨q1, n1, c1, q2, n2, c2, l, m, p1, p2, z, rfl, HF.out.s, HZp1.out, HF.out.b⟩
  · skip
    go_simp
    have HT1 := Lib.hid (Row.new v0 9 #[.string ⟨#[]⟩, .string ⟨#[97]⟩, .string ⟨#[97, 47]⟩, .string ⟨#[98, 47]⟩, .string ⟨#[122, 47]⟩])
    have HTL1 := Lib.hid (show w.heap.size + 1 < v0.heap.size from HD.out.rdr.lt)
    have HD := Lib.hid (HD.out.al (.cells #[.string ⟨#[]⟩, .string ⟨#[97]⟩, .string ⟨#[97, 47]⟩, .string ⟨#[98, 47]⟩, .string ⟨#[122, 47]⟩] 9))
    obtain ⟨b1, hb⟩ : ∃ x, v0.heap.size = x := ⟨_, rfl⟩
    obtain ⟨v1, hv⟩ : ∃ x, v0.alloc (.cells #[.string ⟨#[]⟩, .string ⟨#[97]⟩, .string ⟨#[97, 47]⟩, .string ⟨#[98, 47]⟩, .string ⟨#[122, 47]⟩] 9) = x := ⟨_, rfl⟩
    rw [hb] at HT1 HTL1 ⊢
    rw [hv] at HD  HT1 ⊢
    clear hb hv
    refine hK.out _ _ trivial (fun HS => ?_)
    clear hK K
    refine wpAnyH_ready (rs := [1, 7]) (by kernel_rfl) (by simp) (AllReadyH.cons rfl (fun K hK => ?_) (AllReadyH.cons rfl (fun K hK => ?_) AllReadyH.nil))
    · skip
      go_simp
      refine (drawobjects_any _ _ _ _ _ HD.out.rdr).mono ?_
      rintro e v2 ⟨q1, n1, c1, q2, n2, c2, l, m, rfl, hw, hf1, hf2, hl, hm, hs, ho, hg⟩
      have HO := Lib.hid (show DO (w.heap.size + 1) q1 n1 c1 q2 n2 c2 l m v2 from ⟨own_low ho HD.out.rdr.lt, own_low hg HD.out.rdr.lt, hl, hm, hf1, hf2, hs⟩)
      clear ho hg hl hm hf1 hf2 hs
      have HD := Lib.hid (HD.out.step hw)
      have HT1 := Lib.hid (HT1.out.grown hw.grown (by intro e; injection e with e; have := HTL1.out; omega))
      clear hw
      refine hK.out _ _ trivial (fun HS => ?_)
      clear hK K
      refine wpAnyH_ready (rs := [4, 7]) (by kernel_rfl) (by simp) (AllReadyH.cons rfl (fun K hK => ?_) (AllReadyH.cons rfl (fun K hK => ?_) AllReadyH.nil))
      · skip
        go_simp
        refine (below_any _ _ _ _ _ _ HD.out.rdr (by decide) (by decide)).mono ?_
        rintro e v3 ⟨⟨x, hx1, hx2, rfl⟩, hw⟩
        obtain ⟨x1, rfl⟩ : ∃ k : Nat, x = k := ⟨x.toNat, by omega⟩
        have hqx10 : (0 : Int) ≤ (x1 : Int) := by omega
        have hqx11 : (x1 : Int) < 5 := by omega
        clear hx1 hx2
        have HD := Lib.hid (HD.out.step hw)
        have HO := Lib.hid (HO.out.step hw)
        have HT1 := Lib.hid (HT1.out.grown hw.grown (by intro e; injection e with e; have := HTL1.out; omega))
        clear hw
        refine hK.out _ _ trivial (fun HS => ?_)
        clear hK K
        refine held_take (i := 5) (d := 14) (v := .pointer (some ⟨b1, x1, none⟩)) rfl rfl (by kernel_rfl) (by kernel_rfl) (by kernel_rfl) (by kernel_rfl) (fun wx hS => by go_simp) HS ?_
        obtain ⟨p1, hp11, hp12⟩ := tab5 (m := 5) HT1.out (by decide) (x1 : Int) hqx10 (by show (x1 : Int) < 5; exact hqx11)
        rw [Int.toNat_natCast] at hp12
        have HZp1 := Lib.hid hp11
        have HC1 := Lib.hid hp12
        clear hp11 hp12
        refine held_mono (S' := (fun w' => (True) ∧ w'.cell? ⟨b1, x1, none⟩ = some (.string p1))) (fun w' h => h.1) ?_
        have HS : (fun w' => (True) ∧ w'.cell? ⟨b1, x1, none⟩ = some (.string p1)) v3 := ⟨HS, tabAt HT1.out HC1.out⟩
        refine held_take (i := 6) (d := 15) (v := .string p1) rfl rfl (by kernel_rfl) (by kernel_rfl) (by kernel_rfl) (by kernel_rfl) (fun wx hS => by have e0 := hS.2; go_simp) HS ?_
        refine wpAnyH_ready (rs := [7, 9]) (by kernel_rfl) (by simp) (AllReadyH.cons rfl (fun K hK => ?_) (AllReadyH.cons rfl (fun K hK => ?_) AllReadyH.nil))
        · skip
          go_simp
          have HT2 := Lib.hid (Row.new v3 9 #[.string ⟨#[]⟩, .string ⟨#[97]⟩, .string ⟨#[97, 47, 49]⟩, .string ⟨#[98]⟩, .string ⟨#[122, 122]⟩])
          have HTL2 := Lib.hid (show w.heap.size + 1 < v3.heap.size from HD.out.rdr.lt)
          have HD := Lib.hid (HD.out.al (.cells #[.string ⟨#[]⟩, .string ⟨#[97]⟩, .string ⟨#[97, 47, 49]⟩, .string ⟨#[98]⟩, .string ⟨#[122, 122]⟩] 9))
          have HO := Lib.hid (HO.out.al (.cells #[.string ⟨#[]⟩, .string ⟨#[97]⟩, .string ⟨#[97, 47, 49]⟩, .string ⟨#[98]⟩, .string ⟨#[122, 122]⟩] 9))
          have HT1 := Lib.hid (HT1.out.alloc (.cells #[.string ⟨#[]⟩, .string ⟨#[97]⟩, .string ⟨#[97, 47, 49]⟩, .string ⟨#[98]⟩, .string ⟨#[122, 122]⟩] 9))
          obtain ⟨b2, hb⟩ : ∃ x, v3.heap.size = x := ⟨_, rfl⟩
          obtain ⟨v4, hv⟩ : ∃ x, v3.alloc (.cells #[.string ⟨#[]⟩, .string ⟨#[97]⟩, .string ⟨#[97, 47, 49]⟩, .string ⟨#[98]⟩, .string ⟨#[122, 122]⟩] 9) = x := ⟨_, rfl⟩
          rw [hb] at HT2 HTL2 ⊢
          rw [hv] at HD HO HT1 HT2 ⊢
          clear hb hv
          refine hK.out _ _ ⟨trivial, tabAt HT1.out HC1.out⟩ (fun HS => ?_)
          clear hK K
          refine wpAnyH_ready (rs := [9]) (by kernel_rfl) (by simp) (AllReadyH.cons rfl (fun K hK => ?_) AllReadyH.nil)
          go_simp
          refine (below_any _ _ _ _ _ _ HD.out.rdr (by decide) (by decide)).mono ?_
          rintro e v5 ⟨⟨x, hx1, hx2, rfl⟩, hw⟩
          obtain ⟨x2, rfl⟩ : ∃ k : Nat, x = k := ⟨x.toNat, by omega⟩
          have hqx20 : (0 : Int) ≤ (x2 : Int) := by omega
          have hqx21 : (x2 : Int) < 5 := by omega
          clear hx1 hx2
          have HD := Lib.hid (HD.out.step hw)
          have HO := Lib.hid (HO.out.step hw)
          have HT1 := Lib.hid (HT1.out.grown hw.grown (by intro e; injection e with e; have := HTL1.out; omega))
          have HT2 := Lib.hid (HT2.out.grown hw.grown (by intro e; injection e with e; have := HTL2.out; omega))
          clear hw
          refine hK.out _ _ ⟨trivial, tabAt HT1.out HC1.out⟩ (fun HS => ?_)
          clear hK K
          refine held_take (i := 10) (d := 19) (v := .pointer (some ⟨b2, x2, none⟩)) rfl rfl (by kernel_rfl) (by kernel_rfl) (by kernel_rfl) (by kernel_rfl) (fun wx hS => by go_simp) HS ?_
          obtain ⟨p2, hp21, hp22⟩ := tab5 (m := 5) HT2.out (by decide) (x2 : Int) hqx20 (by show (x2 : Int) < 5; exact hqx21)
          rw [Int.toNat_natCast] at hp22
          have HZp2 := Lib.hid hp21
          have HC2 := Lib.hid hp22
          clear hp21 hp22
          refine held_mono (S' := (fun w' => ((True) ∧ w'.cell? ⟨b1, x1, none⟩ = some (.string p1)) ∧ w'.cell? ⟨b2, x2, none⟩ = some (.string p2))) (fun w' h => h.1) ?_
          have HS : (fun w' => ((True) ∧ w'.cell? ⟨b1, x1, none⟩ = some (.string p1)) ∧ w'.cell? ⟨b2, x2, none⟩ = some (.string p2)) v5 := ⟨HS, tabAt HT2.out HC2.out⟩
          refine held_take (i := 11) (d := 20) (v := .string p2) rfl rfl (by kernel_rfl) (by kernel_rfl) (by kernel_rfl) (by kernel_rfl) (fun wx hS => by have e0 := hS.2; go_simp) HS ?_
          refine wpAnyH_ready (rs := [13]) (by kernel_rfl) (by simp) (AllReadyH.cons rfl (fun K hK => ?_) AllReadyH.nil)
          go_simp
          refine (off_any _ _ _ _ _ _ _ HD.out.rdr (by decide) (by decide) (by decide)).mono ?_
          rintro e v6 ⟨⟨z, hz, rfl⟩, hw⟩
          clear hz
          have HD := Lib.hid (HD.out.step hw)
          have HO := Lib.hid (HO.out.step hw)
          have HT1 := Lib.hid (HT1.out.grown hw.grown (by intro e; injection e with e; have := HTL1.out; omega))
          have HT2 := Lib.hid (HT2.out.grown hw.grown (by intro e; injection e with e; have := HTL2.out; omega))
          clear hw
          refine hK.out _ _ ⟨⟨trivial, tabAt HT1.out HC1.out⟩, tabAt HT2.out HC2.out⟩ (fun HS => ?_)
          clear hK K
          refine wpAnyH_ready (rs := [14]) (by kernel_rfl) (by simp) (AllReadyH.cons rfl (fun K hK => ?_) AllReadyH.nil)
          have r0 := HD.out.res.cell (j := 0) (by simp)
          have r1 := HD.out.res.cell (j := 1) (by simp)
          have f0 := HD.out.res.free 0
          have f1 := HD.out.res.free 1
          simp at r0 r1
          go_simp
          have HF := Lib.hid (HD.out.fin HO.out)
          have HT1 := Lib.hid ((HT1.out.other (r := w.heap.size) (by have := HTL1.out; omega) 0 (.slice q1 n1 c1)).other (r := w.heap.size) (by have := HTL1.out; omega) 1 (.slice q2 n2 c2))
          have HT2 := Lib.hid ((HT2.out.other (r := w.heap.size) (by have := HTL2.out; omega) 0 (.slice q1 n1 c1)).other (r := w.heap.size) (by have := HTL2.out; omega) 1 (.slice q2 n2 c2))
          obtain ⟨v7, hv⟩ : ∃ x, (v6.setCell ⟨w.heap.size, 0, none⟩ (.slice q1 n1 c1)).setCell ⟨w.heap.size, 1, none⟩ (.slice q2 n2 c2) = x := ⟨_, rfl⟩
          rw [hv] at HF HT1 HT2 ⊢
          clear hv
          refine hK.out _ _ ⟨⟨trivial, tabAt HT1.out HC1.out⟩, tabAt HT2.out HC2.out⟩ (fun HS => ?_)
          clear hK K
          clear r0 r1 f0 f1
          refine held_take (i := 15) (d := 3) (v := .string p1) rfl rfl (by kernel_rfl) (by kernel_rfl) (by kernel_rfl) (by kernel_rfl) (fun wx hS => by go_simp) HS ?_
          refine held_take (i := 16) (d := 4) (v := .string p2) rfl rfl (by kernel_rfl) (by kernel_rfl) (by kernel_rfl) (by kernel_rfl) (fun wx hS => by go_simp) HS ?_
          refine held_take (i := 17) (d := 5) (v := .int .i64 z) rfl rfl (by kernel_rfl) (by kernel_rfl) (by kernel_rfl) (by kernel_rfl) (fun wx hS => by go_simp) HS ?_
          refine wpAnyH_done (by kernel_rfl) (NoPanic.normal ?_) _
          go_wp2
          have hbF := HF.out.r
          unfold Row at hbF
          exact bodyPost_ret (v := .tuple #[.agg #[.slice q1 n1 c1, .slice q2 n2 c2], .string p1, .string p2, .int .i64 z]) (by simp [results, Try.results13, go_sem, World.cell?, hbF]) rfl ⟨q1, n1, c1, q2, n2, c2, l, m, p1, p2, z, rfl, HF.out.s, HZp1.out, HF.out.b⟩
        · skip
          go_simp
          refine (below_any _ _ _ _ _ _ HD.out.rdr (by decide) (by decide)).mono ?_
          rintro e v4 ⟨⟨x, hx1, hx2, rfl⟩, hw⟩
          obtain ⟨x2, rfl⟩ : ∃ k : Nat, x = k := ⟨x.toNat, by omega⟩
          have hqx20 : (0 : Int) ≤ (x2 : Int) := by omega
          have hqx21 : (x2 : Int) < 5 := by omega
          clear hx1 hx2
          have HD := Lib.hid (HD.out.step hw)
          have HO := Lib.hid (HO.out.step hw)
          have HT1 := Lib.hid (HT1.out.grown hw.grown (by intro e; injection e with e; have := HTL1.out; omega))
          clear hw
          refine hK.out _ _ ⟨trivial, tabAt HT1.out HC1.out⟩ (fun HS => ?_)
          clear hK K
          refine wpAnyH_ready (rs := [7, 13]) (by kernel_rfl) (by simp) (AllReadyH.cons rfl (fun K hK => ?_) (AllReadyH.cons rfl (fun K hK => ?_) AllReadyH.nil))
          · skip
            go_simp
            have HT2 := Lib.hid (Row.new v4 9 #[.string ⟨#[]⟩, .string ⟨#[97]⟩, .string ⟨#[97, 47, 49]⟩, .string ⟨#[98]⟩, .string ⟨#[122, 122]⟩])
            have HTL2 := Lib.hid (show w.heap.size + 1 < v4.heap.size from HD.out.rdr.lt)
            have HD := Lib.hid (HD.out.al (.cells #[.string ⟨#[]⟩, .string ⟨#[97]⟩, .string ⟨#[97, 47, 49]⟩, .string ⟨#[98]⟩, .string ⟨#[122, 122]⟩] 9))
            have HO := Lib.hid (HO.out.al (.cells #[.string ⟨#[]⟩, .string ⟨#[97]⟩, .string ⟨#[97, 47, 49]⟩, .string ⟨#[98]⟩, .string ⟨#[122, 122]⟩] 9))
            have HT1 := Lib.hid (HT1.out.alloc (.cells #[.string ⟨#[]⟩, .string ⟨#[97]⟩, .string ⟨#[97, 47, 49]⟩, .string ⟨#[98]⟩, .string ⟨#[122, 122]⟩] 9))
            obtain ⟨b2, hb⟩ : ∃ x, v4.heap.size = x := ⟨_, rfl⟩
            obtain ⟨v5, hv⟩ : ∃ x, v4.alloc (.cells #[.string ⟨#[]⟩, .string ⟨#[97]⟩, .string ⟨#[97, 47, 49]⟩, .string ⟨#[98]⟩, .string ⟨#[122, 122]⟩] 9) = x := ⟨_, rfl⟩
            rw [hb] at HT2 HTL2 ⊢
            rw [hv] at HD HO HT1 HT2 ⊢
            clear hb hv
            refine hK.out _ _ ⟨trivial, tabAt HT1.out HC1.out⟩ (fun HS => ?_)
            clear hK K
            refine held_take (i := 10) (d := 19) (v := .pointer (some ⟨b2, x2, none⟩)) rfl rfl (by kernel_rfl) (by kernel_rfl) (by kernel_rfl) (by kernel_rfl) (fun wx hS => by go_simp) HS ?_
            obtain ⟨p2, hp21, hp22⟩ := tab5 (m := 5) HT2.out (by decide) (x2 : Int) hqx20 (by show (x2 : Int) < 5; exact hqx21)
            rw [Int.toNat_natCast] at hp22
            have HZp2 := Lib.hid hp21
            have HC2 := Lib.hid hp22
            clear hp21 hp22
            refine held_mono (S' := (fun w' => ((True) ∧ w'.cell? ⟨b1, x1, none⟩ = some (.string p1)) ∧ w'.cell? ⟨b2, x2, none⟩ = some (.string p2))) (fun w' h => h.1) ?_
            have HS : (fun w' => ((True) ∧ w'.cell? ⟨b1, x1, none⟩ = some (.string p1)) ∧ w'.cell? ⟨b2, x2, none⟩ = some (.string p2)) v5 := ⟨HS, tabAt HT2.out HC2.out⟩
            refine held_take (i := 11) (d := 20) (v := .string p2) rfl rfl (by kernel_rfl) (by kernel_rfl) (by kernel_rfl) (by kernel_rfl) (fun wx hS => by have e0 := hS.2; go_simp) HS ?_
            refine wpAnyH_ready (rs := [13]) (by kernel_rfl) (by simp) (AllReadyH.cons rfl (fun K hK => ?_) AllReadyH.nil)
            go_simp
            refine (off_any _ _ _ _ _ _ _ HD.out.rdr (by decide) (by decide) (by decide)).mono ?_
            rintro e v6 ⟨⟨z, hz, rfl⟩, hw⟩
            clear hz
            have HD := Lib.hid (HD.out.step hw)
            have HO := Lib.hid (HO.out.step hw)
            have HT1 := Lib.hid (HT1.out.grown hw.grown (by intro e; injection e with e; have := HTL1.out; omega))
            have HT2 := Lib.hid (HT2.out.grown hw.grown (by intro e; injection e with e; have := HTL2.out; omega))
            clear hw
            refine hK.out _ _ ⟨⟨trivial, tabAt HT1.out HC1.out⟩, tabAt HT2.out HC2.out⟩ (fun HS => ?_)
            clear hK K
            refine wpAnyH_ready (rs := [14]) (by kernel_rfl) (by simp) (AllReadyH.cons rfl (fun K hK => ?_) AllReadyH.nil)
            have r0 := HD.out.res.cell (j := 0) (by simp)
            have r1 := HD.out.res.cell (j := 1) (by simp)
            have f0 := HD.out.res.free 0
            have f1 := HD.out.res.free 1
            simp at r0 r1
            go_simp
            have HF := Lib.hid (HD.out.fin HO.out)
            have HT1 := Lib.hid ((HT1.out.other (r := w.heap.size) (by have := HTL1.out; omega) 0 (.slice q1 n1 c1)).other (r := w.heap.size) (by have := HTL1.out; omega) 1 (.slice q2 n2 c2))
            have HT2 := Lib.hid ((HT2.out.other (r := w.heap.size) (by have := HTL2.out; omega) 0 (.slice q1 n1 c1)).other (r := w.heap.size) (by have := HTL2.out; omega) 1 (.slice q2 n2 c2))
            obtain ⟨v7, hv⟩ : ∃ x, (v6.setCell ⟨w.heap.size, 0, none⟩ (.slice q1 n1 c1)).setCell ⟨w.heap.size, 1, none⟩ (.slice q2 n2 c2) = x := ⟨_, rfl⟩
            rw [hv] at HF HT1 HT2 ⊢
            clear hv
            refine hK.out _ _ ⟨⟨trivial, tabAt HT1.out HC1.out⟩, tabAt HT2.out HC2.out⟩ (fun HS => ?_)
            clear hK K
            clear r0 r1 f0 f1
            refine held_take (i := 15) (d := 3) (v := .string p1) rfl rfl (by kernel_rfl) (by kernel_rfl) (by kernel_rfl) (by kernel_rfl) (fun wx hS => by go_simp) HS ?_
            refine held_take (i := 16) (d := 4) (v := .string p2) rfl rfl (by kernel_rfl) (by kernel_rfl) (by kernel_rfl) (by kernel_rfl) (fun wx hS => by go_simp) HS ?_
            refine held_take (i := 17) (d := 5) (v := .int .i64 z) rfl rfl (by kernel_rfl) (by kernel_rfl) (by kernel_rfl) (by kernel_rfl) (fun wx hS => by go_simp) HS ?_
            refine wpAnyH_done (by kernel_rfl) (NoPanic.normal ?_) _
            go_wp2
            have hbF := HF.out.r
            unfold Row at hbF
            exact bodyPost_ret (v := .tuple #[.agg #[.slice q1 n1 c1, .slice q2 n2 c2], .string p1, .string p2, .int .i64 z]) (by simp [results, Try.results13, go_sem, World.cell?, hbF]) rfl ⟨q1, n1, c1, q2, n2, c2, l, m, p1, p2, z, rfl, HF.out.s, HZp1.out, HF.out.b⟩
          · skip
            go_simp
            refine (off_any _ _ _ _ _ _ _ HD.out.rdr (by decide) (by decide) (by decide)).mono ?_
            rintro e v5 ⟨⟨z, hz, rfl⟩, hw⟩
            clear hz
            have HD := Lib.hid (HD.out.step hw)
            have HO := Lib.hid (HO.out.step hw)
            have HT1 := Lib.hid (HT1.out.grown hw.grown (by intro e; injection e with e; have := HTL1.out; omega))
            clear hw
            refine hK.out _ _ ⟨trivial, tabAt HT1.out HC1.out⟩ (fun HS => ?_)
            clear hK K
            refine wpAnyH_ready (rs := [7, 14]) (by kernel_rfl) (by simp) (AllReadyH.cons rfl (fun K hK => ?_) (AllReadyH.cons rfl (fun K hK => ?_) AllReadyH.nil))
            · skip
              go_simp
              have HT2 := Lib.hid (Row.new v5 9 #[.string ⟨#[]⟩, .string ⟨#[97]⟩, .string ⟨#[97, 47, 49]⟩, .string ⟨#[98]⟩, .string ⟨#[122, 122]⟩])
              have HTL2 := Lib.hid (show w.heap.size + 1 < v5.heap.size from HD.out.rdr.lt)
              have HD := Lib.hid (HD.out.al (.cells #[.string ⟨#[]⟩, .string ⟨#[97]⟩, .string ⟨#[97, 47, 49]⟩, .string ⟨#[98]⟩, .string ⟨#[122, 122]⟩] 9))
              have HO := Lib.hid (HO.out.al (.cells #[.string ⟨#[]⟩, .string ⟨#[97]⟩, .string ⟨#[97, 47, 49]⟩, .string ⟨#[98]⟩, .string ⟨#[122, 122]⟩] 9))
              have HT1 := Lib.hid (HT1.out.alloc (.cells #[.string ⟨#[]⟩, .string ⟨#[97]⟩, .string ⟨#[97, 47, 49]⟩, .string ⟨#[98]⟩, .string ⟨#[122, 122]⟩] 9))
              obtain ⟨b2, hb⟩ : ∃ x, v5.heap.size = x := ⟨_, rfl⟩
              obtain ⟨v6, hv⟩ : ∃ x, v5.alloc (.cells #[.string ⟨#[]⟩, .string ⟨#[97]⟩, .string ⟨#[97, 47, 49]⟩, .string ⟨#[98]⟩, .string ⟨#[122, 122]⟩] 9) = x := ⟨_, rfl⟩
              rw [hb] at HT2 HTL2 ⊢
              rw [hv] at HD HO HT1 HT2 ⊢
              clear hb hv
              refine hK.out _ _ ⟨trivial, tabAt HT1.out HC1.out⟩ (fun HS => ?_)
              clear hK K
              refine held_take (i := 10) (d := 19) (v := .pointer (some ⟨b2, x2, none⟩)) rfl rfl (by kernel_rfl) (by kernel_rfl) (by kernel_rfl) (by kernel_rfl) (fun wx hS => by go_simp) HS ?_
              obtain ⟨p2, hp21, hp22⟩ := tab5 (m := 5) HT2.out (by decide) (x2 : Int) hqx20 (by show (x2 : Int) < 5; exact hqx21)
              rw [Int.toNat_natCast] at hp22
              have HZp2 := Lib.hid hp21
              have HC2 := Lib.hid hp22
              clear hp21 hp22
              refine held_mono (S' := (fun w' => ((True) ∧ w'.cell? ⟨b1, x1, none⟩ = some (.string p1)) ∧ w'.cell? ⟨b2, x2, none⟩ = some (.string p2))) (fun w' h => h.1) ?_
              have HS : (fun w' => ((True) ∧ w'.cell? ⟨b1, x1, none⟩ = some (.string p1)) ∧ w'.cell? ⟨b2, x2, none⟩ = some (.string p2)) v6 := ⟨HS, tabAt HT2.out HC2.out⟩
              refine held_take (i := 11) (d := 20) (v := .string p2) rfl rfl (by kernel_rfl) (by kernel_rfl) (by kernel_rfl) (by kernel_rfl) (fun wx hS => by have e0 := hS.2; go_simp) HS ?_
              refine wpAnyH_ready (rs := [14]) (by kernel_rfl) (by simp) (AllReadyH.cons rfl (fun K hK => ?_) AllReadyH.nil)
              have r0 := HD.out.res.cell (j := 0) (by simp)
              have r1 := HD.out.res.cell (j := 1) (by simp)
              have f0 := HD.out.res.free 0
              have f1 := HD.out.res.free 1
              simp at r0 r1
              go_simp
              have HF := Lib.hid (HD.out.fin HO.out)
              have HT1 := Lib.hid ((HT1.out.other (r := w.heap.size) (by have := HTL1.out; omega) 0 (.slice q1 n1 c1)).other (r := w.heap.size) (by have := HTL1.out; omega) 1 (.slice q2 n2 c2))
              have HT2 := Lib.hid ((HT2.out.other (r := w.heap.size) (by have := HTL2.out; omega) 0 (.slice q1 n1 c1)).other (r := w.heap.size) (by have := HTL2.out; omega) 1 (.slice q2 n2 c2))
              obtain ⟨v7, hv⟩ : ∃ x, (v6.setCell ⟨w.heap.size, 0, none⟩ (.slice q1 n1 c1)).setCell ⟨w.heap.size, 1, none⟩ (.slice q2 n2 c2) = x := ⟨_, rfl⟩
              rw [hv] at HF HT1 HT2 ⊢
              clear hv
              refine hK.out _ _ ⟨⟨trivial, tabAt HT1.out HC1.out⟩, tabAt HT2.out HC2.out⟩ (fun HS => ?_)
              clear hK K
              clear r0 r1 f0 f1
              refine held_take (i := 15) (d := 3) (v := .string p1) rfl rfl (by kernel_rfl) (by kernel_rfl) (by kernel_rfl) (by kernel_rfl) (fun wx hS => by go_simp) HS ?_
              refine held_take (i := 16) (d := 4) (v := .string p2) rfl rfl (by kernel_rfl) (by kernel_rfl) (by kernel_rfl) (by kernel_rfl) (fun wx hS => by go_simp) HS ?_
              refine held_take (i := 17) (d := 5) (v := .int .i64 z) rfl rfl (by kernel_rfl) (by kernel_rfl) (by kernel_rfl) (by kernel_rfl) (fun wx hS => by go_simp) HS ?_
              refine wpAnyH_done (by kernel_rfl) (NoPanic.normal ?_) _
              go_wp2
              have hbF := HF.out.r
              unfold Row at hbF
              exact bodyPost_ret (v := .tuple #[.agg #[.slice q1 n1 c1, .slice q2 n2 c2], .string p1, .string p2, .int .i64 z]) (by simp [results, Try.results13, go_sem, World.cell?, hbF]) rfl ⟨q1, n1, c1, q2, n2, c2, l, m, p1, p2, z, rfl, HF.out.s, HZp1.out, HF.out.b⟩
            · skip
              have r0 := HD.out.res.cell (j := 0) (by simp)
              have r1 := HD.out.res.cell (j := 1) (by simp)
              have f0 := HD.out.res.free 0
              have f1 := HD.out.res.free 1
              simp at r0 r1
              go_simp
              have HF := Lib.hid (HD.out.fin HO.out)
              have HT1 := Lib.hid ((HT1.out.other (r := w.heap.size) (by have := HTL1.out; omega) 0 (.slice q1 n1 c1)).other (r := w.heap.size) (by have := HTL1.out; omega) 1 (.slice q2 n2 c2))
              obtain ⟨v6, hv⟩ : ∃ x, (v5.setCell ⟨w.heap.size, 0, none⟩ (.slice q1 n1 c1)).setCell ⟨w.heap.size, 1, none⟩ (.slice q2 n2 c2) = x := ⟨_, rfl⟩
              rw [hv] at HF HT1 ⊢
              clear hv
              refine hK.out _ _ ⟨trivial, tabAt HT1.out HC1.out⟩ (fun HS => ?_)
              clear hK K
              clear r0 r1 f0 f1
              refine held_take (i := 15) (d := 3) (v := .string p1) rfl rfl (by kernel_rfl) (by kernel_rfl) (by kernel_rfl) (by kernel_rfl) (fun wx hS => by go_simp) HS ?_
              refine wpAnyH_ready (rs := [7]) (by kernel_rfl) (by simp) (AllReadyH.cons rfl (fun K hK => ?_) AllReadyH.nil)
              go_simp
              have HT2 := Lib.hid (Row.new v6 9 #[.string ⟨#[]⟩, .string ⟨#[97]⟩, .string ⟨#[97, 47, 49]⟩, .string ⟨#[98]⟩, .string ⟨#[122, 122]⟩])
              have HF := Lib.hid (HF.out.al (.cells #[.string ⟨#[]⟩, .string ⟨#[97]⟩, .string ⟨#[97, 47, 49]⟩, .string ⟨#[98]⟩, .string ⟨#[122, 122]⟩] 9))
              have HT1 := Lib.hid (HT1.out.alloc (.cells #[.string ⟨#[]⟩, .string ⟨#[97]⟩, .string ⟨#[97, 47, 49]⟩, .string ⟨#[98]⟩, .string ⟨#[122, 122]⟩] 9))
              obtain ⟨b2, hb⟩ : ∃ x, v6.heap.size = x := ⟨_, rfl⟩
              obtain ⟨v7, hv⟩ : ∃ x, v6.alloc (.cells #[.string ⟨#[]⟩, .string ⟨#[97]⟩, .string ⟨#[97, 47, 49]⟩, .string ⟨#[98]⟩, .string ⟨#[122, 122]⟩] 9) = x := ⟨_, rfl⟩
              rw [hb] at HT2  ⊢
              rw [hv] at HF HT1 HT2 ⊢
              clear hb hv
              refine hK.out _ _ ⟨trivial, tabAt HT1.out HC1.out⟩ (fun HS => ?_)
              clear hK K
              refine held_take (i := 10) (d := 19) (v := .pointer (some ⟨b2, x2, none⟩)) rfl rfl (by kernel_rfl) (by kernel_rfl) (by kernel_rfl) (by kernel_rfl) (fun wx hS => by go_simp) HS ?_
              obtain ⟨p2, hp21, hp22⟩ := tab5 (m := 5) HT2.out (by decide) (x2 : Int) hqx20 (by show (x2 : Int) < 5; exact hqx21)
              rw [Int.toNat_natCast] at hp22
              have HZp2 := Lib.hid hp21
              have HC2 := Lib.hid hp22
              clear hp21 hp22
              refine held_mono (S' := (fun w' => ((True) ∧ w'.cell? ⟨b1, x1, none⟩ = some (.string p1)) ∧ w'.cell? ⟨b2, x2, none⟩ = some (.string p2))) (fun w' h => h.1) ?_
              have HS : (fun w' => ((True) ∧ w'.cell? ⟨b1, x1, none⟩ = some (.string p1)) ∧ w'.cell? ⟨b2, x2, none⟩ = some (.string p2)) v7 := ⟨HS, tabAt HT2.out HC2.out⟩
              refine held_take (i := 11) (d := 20) (v := .string p2) rfl rfl (by kernel_rfl) (by kernel_rfl) (by kernel_rfl) (by kernel_rfl) (fun wx hS => by have e0 := hS.2; go_simp) HS ?_
              refine held_take (i := 16) (d := 4) (v := .string p2) rfl rfl (by kernel_rfl) (by kernel_rfl) (by kernel_rfl) (by kernel_rfl) (fun wx hS => by go_simp) HS ?_
              refine held_take (i := 17) (d := 5) (v := .int .i64 z) rfl rfl (by kernel_rfl) (by kernel_rfl) (by kernel_rfl) (by kernel_rfl) (fun wx hS => by go_simp) HS ?_
              refine wpAnyH_done (by kernel_rfl) (NoPanic.normal ?_) _
              go_wp2
              have hbF := HF.out.r
              unfold Row at hbF
              exact bodyPost_ret (v := .tuple #[.agg #[.slice q1 n1 c1, .slice q2 n2 c2], .string p1, .string p2, .int .i64 z]) (by simp [results, Try.results13, go_sem, World.cell?, hbF]) rfl ⟨q1, n1, c1, q2, n2, c2, l, m, p1, p2, z, rfl, HF.out.s, HZp1.out, HF.out.b⟩
      · skip
        go_simp
        have HT2 := Lib.hid (Row.new v2 9 #[.string ⟨#[]⟩, .string ⟨#[97]⟩, .string ⟨#[97, 47, 49]⟩, .string ⟨#[98]⟩, .string ⟨#[122, 122]⟩])
        have HTL2 := Lib.hid (show w.heap.size + 1 < v2.heap.size from HD.out.rdr.lt)
        have HD := Lib.hid (HD.out.al (.cells #[.string ⟨#[]⟩, .string ⟨#[97]⟩, .string ⟨#[97, 47, 49]⟩, .string ⟨#[98]⟩, .string ⟨#[122, 122]⟩] 9))
        have HO := Lib.hid (HO.out.al (.cells #[.string ⟨#[]⟩, .string ⟨#[97]⟩, .string ⟨#[97, 47, 49]⟩, .string ⟨#[98]⟩, .string ⟨#[122, 122]⟩] 9))
        have HT1 := Lib.hid (HT1.out.alloc (.cells #[.string ⟨#[]⟩, .string ⟨#[97]⟩, .string ⟨#[97, 47, 49]⟩, .string ⟨#[98]⟩, .string ⟨#[122, 122]⟩] 9))
        obtain ⟨b2, hb⟩ : ∃ x, v2.heap.size = x := ⟨_, rfl⟩
        obtain ⟨v3, hv⟩ : ∃ x, v2.alloc (.cells #[.string ⟨#[]⟩, .string ⟨#[97]⟩, .string ⟨#[97, 47, 49]⟩, .string ⟨#[98]⟩, .string ⟨#[122, 122]⟩] 9) = x := ⟨_, rfl⟩
        rw [hb] at HT2 HTL2 ⊢
        rw [hv] at HD HO HT1 HT2 ⊢
        clear hb hv
        refine hK.out _ _ trivial (fun HS => ?_)
        clear hK K
        refine wpAnyH_ready (rs := [4]) (by kernel_rfl) (by simp) (AllReadyH.cons rfl (fun K hK => ?_) AllReadyH.nil)
        go_simp
        refine (below_any _ _ _ _ _ _ HD.out.rdr (by decide) (by decide)).mono ?_
        rintro e v4 ⟨⟨x, hx1, hx2, rfl⟩, hw⟩
        obtain ⟨x1, rfl⟩ : ∃ k : Nat, x = k := ⟨x.toNat, by omega⟩
        have hqx10 : (0 : Int) ≤ (x1 : Int) := by omega
        have hqx11 : (x1 : Int) < 5 := by omega
        clear hx1 hx2
        have HD := Lib.hid (HD.out.step hw)
        have HO := Lib.hid (HO.out.step hw)
        have HT1 := Lib.hid (HT1.out.grown hw.grown (by intro e; injection e with e; have := HTL1.out; omega))
        have HT2 := Lib.hid (HT2.out.grown hw.grown (by intro e; injection e with e; have := HTL2.out; omega))
        clear hw
        refine hK.out _ _ trivial (fun HS => ?_)
        clear hK K
        refine held_take (i := 5) (d := 14) (v := .pointer (some ⟨b1, x1, none⟩)) rfl rfl (by kernel_rfl) (by kernel_rfl) (by kernel_rfl) (by kernel_rfl) (fun wx hS => by go_simp) HS ?_
        obtain ⟨p1, hp11, hp12⟩ := tab5 (m := 5) HT1.out (by decide) (x1 : Int) hqx10 (by show (x1 : Int) < 5; exact hqx11)
        rw [Int.toNat_natCast] at hp12
        have HZp1 := Lib.hid hp11
        have HC1 := Lib.hid hp12
        clear hp11 hp12
        refine held_mono (S' := (fun w' => (True) ∧ w'.cell? ⟨b1, x1, none⟩ = some (.string p1))) (fun w' h => h.1) ?_
        have HS : (fun w' => (True) ∧ w'.cell? ⟨b1, x1, none⟩ = some (.string p1)) v4 := ⟨HS, tabAt HT1.out HC1.out⟩
        refine held_take (i := 6) (d := 15) (v := .string p1) rfl rfl (by kernel_rfl) (by kernel_rfl) (by kernel_rfl) (by kernel_rfl) (fun wx hS => by have e0 := hS.2; go_simp) HS ?_
        refine wpAnyH_ready (rs := [9]) (by kernel_rfl) (by simp) (AllReadyH.cons rfl (fun K hK => ?_) AllReadyH.nil)
        go_simp
        refine (below_any _ _ _ _ _ _ HD.out.rdr (by decide) (by decide)).mono ?_
        rintro e v5 ⟨⟨x, hx1, hx2, rfl⟩, hw⟩
        obtain ⟨x2, rfl⟩ : ∃ k : Nat, x = k := ⟨x.toNat, by omega⟩
        have hqx20 : (0 : Int) ≤ (x2 : Int) := by omega
        have hqx21 : (x2 : Int) < 5 := by omega
        clear hx1 hx2
        have HD := Lib.hid (HD.out.step hw)
        have HO := Lib.hid (HO.out.step hw)
        have HT1 := Lib.hid (HT1.out.grown hw.grown (by intro e; injection e with e; have := HTL1.out; omega))
        have HT2 := Lib.hid (HT2.out.grown hw.grown (by intro e; injection e with e; have := HTL2.out; omega))
        clear hw
        refine hK.out _ _ ⟨trivial, tabAt HT1.out HC1.out⟩ (fun HS => ?_)
        clear hK K
        refine held_take (i := 10) (d := 19) (v := .pointer (some ⟨b2, x2, none⟩)) rfl rfl (by kernel_rfl) (by kernel_rfl) (by kernel_rfl) (by kernel_rfl) (fun wx hS => by go_simp) HS ?_
        obtain ⟨p2, hp21, hp22⟩ := tab5 (m := 5) HT2.out (by decide) (x2 : Int) hqx20 (by show (x2 : Int) < 5; exact hqx21)
        rw [Int.toNat_natCast] at hp22
        have HZp2 := Lib.hid hp21
        have HC2 := Lib.hid hp22
        clear hp21 hp22
        refine held_mono (S' := (fun w' => ((True) ∧ w'.cell? ⟨b1, x1, none⟩ = some (.string p1)) ∧ w'.cell? ⟨b2, x2, none⟩ = some (.string p2))) (fun w' h => h.1) ?_
        have HS : (fun w' => ((True) ∧ w'.cell? ⟨b1, x1, none⟩ = some (.string p1)) ∧ w'.cell? ⟨b2, x2, none⟩ = some (.string p2)) v5 := ⟨HS, tabAt HT2.out HC2.out⟩
        refine held_take (i := 11) (d := 20) (v := .string p2) rfl rfl (by kernel_rfl) (by kernel_rfl) (by kernel_rfl) (by kernel_rfl) (fun wx hS => by have e0 := hS.2; go_simp) HS ?_
        refine wpAnyH_ready (rs := [13]) (by kernel_rfl) (by simp) (AllReadyH.cons rfl (fun K hK => ?_) AllReadyH.nil)
        go_simp
        refine (off_any _ _ _ _ _ _ _ HD.out.rdr (by decide) (by decide) (by decide)).mono ?_
        rintro e v6 ⟨⟨z, hz, rfl⟩, hw⟩
        clear hz
        have HD := Lib.hid (HD.out.step hw)
        have HO := Lib.hid (HO.out.step hw)
        have HT1 := Lib.hid (HT1.out.grown hw.grown (by intro e; injection e with e; have := HTL1.out; omega))
        have HT2 := Lib.hid (HT2.out.grown hw.grown (by intro e; injection e with e; have := HTL2.out; omega))
        clear hw
        refine hK.out _ _ ⟨⟨trivial, tabAt HT1.out HC1.out⟩, tabAt HT2.out HC2.out⟩ (fun HS => ?_)
        clear hK K
        refine wpAnyH_ready (rs := [14]) (by kernel_rfl) (by simp) (AllReadyH.cons rfl (fun K hK => ?_) AllReadyH.nil)
        have r0 := HD.out.res.cell (j := 0) (by simp)
        have r1 := HD.out.res.cell (j := 1) (by simp)
        have f0 := HD.out.res.free 0
        have f1 := HD.out.res.free 1
        simp at r0 r1
        go_simp
        have HF := Lib.hid (HD.out.fin HO.out)
        have HT1 := Lib.hid ((HT1.out.other (r := w.heap.size) (by have := HTL1.out; omega) 0 (.slice q1 n1 c1)).other (r := w.heap.size) (by have := HTL1.out; omega) 1 (.slice q2 n2 c2))
        have HT2 := Lib.hid ((HT2.out.other (r := w.heap.size) (by have := HTL2.out; omega) 0 (.slice q1 n1 c1)).other (r := w.heap.size) (by have := HTL2.out; omega) 1 (.slice q2 n2 c2))
        obtain ⟨v7, hv⟩ : ∃ x, (v6.setCell ⟨w.heap.size, 0, none⟩ (.slice q1 n1 c1)).setCell ⟨w.heap.size, 1, none⟩ (.slice q2 n2 c2) = x := ⟨_, rfl⟩
        rw [hv] at HF HT1 HT2 ⊢
        clear hv
        refine hK.out _ _ ⟨⟨trivial, tabAt HT1.out HC1.out⟩, tabAt HT2.out HC2.out⟩ (fun HS => ?_)
        clear hK K
        clear r0 r1 f0 f1
        refine held_take (i := 15) (d := 3) (v := .string p1) rfl rfl (by kernel_rfl) (by kernel_rfl) (by kernel_rfl) (by kernel_rfl) (fun wx hS => by go_simp) HS ?_
        refine held_take (i := 16) (d := 4) (v := .string p2) rfl rfl (by kernel_rfl) (by kernel_rfl) (by kernel_rfl) (by kernel_rfl) (fun wx hS => by go_simp) HS ?_
        refine held_take (i := 17) (d := 5) (v := .int .i64 z) rfl rfl (by kernel_rfl) (by kernel_rfl) (by kernel_rfl) (by kernel_rfl) (fun wx hS => by go_simp) HS ?_
        refine wpAnyH_done (by kernel_rfl) (NoPanic.normal ?_) _
        go_wp2
        have hbF := HF.out.r
        unfold Row at hbF
        exact bodyPost_ret (v := .tuple #[.agg #[.slice q1 n1 c1, .slice q2 n2 c2], .string p1, .string p2, .int .i64 z]) (by simp [results, Try.results13, go_sem, World.cell?, hbF]) rfl ⟨q1, n1, c1, q2, n2, c2, l, m, p1, p2, z, rfl, HF.out.s, HZp1.out, HF.out.b⟩
    · skip
      go_simp
      have HT2 := Lib.hid (Row.new v1 9 #[.string ⟨#[]⟩, .string ⟨#[97]⟩, .string ⟨#[97, 47, 49]⟩, .string ⟨#[98]⟩, .string ⟨#[122, 122]⟩])
      have HTL2 := Lib.hid (show w.heap.size + 1 < v1.heap.size from HD.out.rdr.lt)
      have HD := Lib.hid (HD.out.al (.cells #[.string ⟨#[]⟩, .string ⟨#[97]⟩, .string ⟨#[97, 47, 49]⟩, .string ⟨#[98]⟩, .string ⟨#[122, 122]⟩] 9))
      have HT1 := Lib.hid (HT1.out.alloc (.cells #[.string ⟨#[]⟩, .string ⟨#[97]⟩, .string ⟨#[97, 47, 49]⟩, .string ⟨#[98]⟩, .string ⟨#[122, 122]⟩] 9))
      obtain ⟨b2, hb⟩ : ∃ x, v1.heap.size = x := ⟨_, rfl⟩
      obtain ⟨v2, hv⟩ : ∃ x, v1.alloc (.cells #[.string ⟨#[]⟩, .string ⟨#[97]⟩, .string ⟨#[97, 47, 49]⟩, .string ⟨#[98]⟩, .string ⟨#[122, 122]⟩] 9) = x := ⟨_, rfl⟩
      rw [hb] at HT2 HTL2 ⊢
      rw [hv] at HD  HT1 HT2 ⊢
      clear hb hv
      refine hK.out _ _ trivial (fun HS => ?_)
      clear hK K
      refine wpAnyH_ready (rs := [1]) (by kernel_rfl) (by simp) (AllReadyH.cons rfl (fun K hK => ?_) AllReadyH.nil)
      go_simp
      refine (drawobjects_any _ _ _ _ _ HD.out.rdr).mono ?_
      rintro e v3 ⟨q1, n1, c1, q2, n2, c2, l, m, rfl, hw, hf1, hf2, hl, hm, hs, ho, hg⟩
      have HO := Lib.hid (show DO (w.heap.size + 1) q1 n1 c1 q2 n2 c2 l m v3 from ⟨own_low ho HD.out.rdr.lt, own_low hg HD.out.rdr.lt, hl, hm, hf1, hf2, hs⟩)
      clear ho hg hl hm hf1 hf2 hs
      have HD := Lib.hid (HD.out.step hw)
      have HT1 := Lib.hid (HT1.out.grown hw.grown (by intro e; injection e with e; have := HTL1.out; omega))
      have HT2 := Lib.hid (HT2.out.grown hw.grown (by intro e; injection e with e; have := HTL2.out; omega))
      clear hw
      refine hK.out _ _ trivial (fun HS => ?_)
      clear hK K
      refine wpAnyH_ready (rs := [4]) (by kernel_rfl) (by simp) (AllReadyH.cons rfl (fun K hK => ?_) AllReadyH.nil)
      go_simp
      refine (below_any _ _ _ _ _ _ HD.out.rdr (by decide) (by decide)).mono ?_
      rintro e v4 ⟨⟨x, hx1, hx2, rfl⟩, hw⟩
      obtain ⟨x1, rfl⟩ : ∃ k : Nat, x = k := ⟨x.toNat, by omega⟩
      have hqx10 : (0 : Int) ≤ (x1 : Int) := by omega
      have hqx11 : (x1 : Int) < 5 := by omega
      clear hx1 hx2
      have HD := Lib.hid (HD.out.step hw)
      have HO := Lib.hid (HO.out.step hw)
      have HT1 := Lib.hid (HT1.out.grown hw.grown (by intro e; injection e with e; have := HTL1.out; omega))
      have HT2 := Lib.hid (HT2.out.grown hw.grown (by intro e; injection e with e; have := HTL2.out; omega))
      clear hw
      refine hK.out _ _ trivial (fun HS => ?_)
      clear hK K
      refine held_take (i := 5) (d := 14) (v := .pointer (some ⟨b1, x1, none⟩)) rfl rfl (by kernel_rfl) (by kernel_rfl) (by kernel_rfl) (by kernel_rfl) (fun wx hS => by go_simp) HS ?_
      obtain ⟨p1, hp11, hp12⟩ := tab5 (m := 5) HT1.out (by decide) (x1 : Int) hqx10 (by show (x1 : Int) < 5; exact hqx11)
      rw [Int.toNat_natCast] at hp12
      have HZp1 := Lib.hid hp11
      have HC1 := Lib.hid hp12
      clear hp11 hp12
      refine held_mono (S' := (fun w' => (True) ∧ w'.cell? ⟨b1, x1, none⟩ = some (.string p1))) (fun w' h => h.1) ?_
      have HS : (fun w' => (True) ∧ w'.cell? ⟨b1, x1, none⟩ = some (.string p1)) v4 := ⟨HS, tabAt HT1.out HC1.out⟩
      refine held_take (i := 6) (d := 15) (v := .string p1) rfl rfl (by kernel_rfl) (by kernel_rfl) (by kernel_rfl) (by kernel_rfl) (fun wx hS => by have e0 := hS.2; go_simp) HS ?_
      refine wpAnyH_ready (rs := [9]) (by kernel_rfl) (by simp) (AllReadyH.cons rfl (fun K hK => ?_) AllReadyH.nil)
      go_simp
      refine (below_any _ _ _ _ _ _ HD.out.rdr (by decide) (by decide)).mono ?_
      rintro e v5 ⟨⟨x, hx1, hx2, rfl⟩, hw⟩
      obtain ⟨x2, rfl⟩ : ∃ k : Nat, x = k := ⟨x.toNat, by omega⟩
      have hqx20 : (0 : Int) ≤ (x2 : Int) := by omega
      have hqx21 : (x2 : Int) < 5 := by omega
      clear hx1 hx2
      have HD := Lib.hid (HD.out.step hw)
      have HO := Lib.hid (HO.out.step hw)
      have HT1 := Lib.hid (HT1.out.grown hw.grown (by intro e; injection e with e; have := HTL1.out; omega))
      have HT2 := Lib.hid (HT2.out.grown hw.grown (by intro e; injection e with e; have := HTL2.out; omega))
      clear hw
      refine hK.out _ _ ⟨trivial, tabAt HT1.out HC1.out⟩ (fun HS => ?_)
      clear hK K
      refine held_take (i := 10) (d := 19) (v := .pointer (some ⟨b2, x2, none⟩)) rfl rfl (by kernel_rfl) (by kernel_rfl) (by kernel_rfl) (by kernel_rfl) (fun wx hS => by go_simp) HS ?_
      obtain ⟨p2, hp21, hp22⟩ := tab5 (m := 5) HT2.out (by decide) (x2 : Int) hqx20 (by show (x2 : Int) < 5; exact hqx21)
      rw [Int.toNat_natCast] at hp22
      have HZp2 := Lib.hid hp21
      have HC2 := Lib.hid hp22
      clear hp21 hp22
      refine held_mono (S' := (fun w' => ((True) ∧ w'.cell? ⟨b1, x1, none⟩ = some (.string p1)) ∧ w'.cell? ⟨b2, x2, none⟩ = some (.string p2))) (fun w' h => h.1) ?_
      have HS : (fun w' => ((True) ∧ w'.cell? ⟨b1, x1, none⟩ = some (.string p1)) ∧ w'.cell? ⟨b2, x2, none⟩ = some (.string p2)) v5 := ⟨HS, tabAt HT2.out HC2.out⟩
      refine held_take (i := 11) (d := 20) (v := .string p2) rfl rfl (by kernel_rfl) (by kernel_rfl) (by kernel_rfl) (by kernel_rfl) (fun wx hS => by have e0 := hS.2; go_simp) HS ?_
      refine wpAnyH_ready (rs := [13]) (by kernel_rfl) (by simp) (AllReadyH.cons rfl (fun K hK => ?_) AllReadyH.nil)
      go_simp
      refine (off_any _ _ _ _ _ _ _ HD.out.rdr (by decide) (by decide) (by decide)).mono ?_
      rintro e v6 ⟨⟨z, hz, rfl⟩, hw⟩
      clear hz
      have HD := Lib.hid (HD.out.step hw)
      have HO := Lib.hid (HO.out.step hw)
      have HT1 := Lib.hid (HT1.out.grown hw.grown (by intro e; injection e with e; have := HTL1.out; omega))
      have HT2 := Lib.hid (HT2.out.grown hw.grown (by intro e; injection e with e; have := HTL2.out; omega))
      clear hw
      refine hK.out _ _ ⟨⟨trivial, tabAt HT1.out HC1.out⟩, tabAt HT2.out HC2.out⟩ (fun HS => ?_)
      clear hK K
      refine wpAnyH_ready (rs := [14]) (by kernel_rfl) (by simp) (AllReadyH.cons rfl (fun K hK => ?_) AllReadyH.nil)
      have r0 := HD.out.res.cell (j := 0) (by simp)
      have r1 := HD.out.res.cell (j := 1) (by simp)
      have f0 := HD.out.res.free 0
      have f1 := HD.out.res.free 1
      simp at r0 r1
      go_simp
      have HF := Lib.hid (HD.out.fin HO.out)
      have HT1 := Lib.hid ((HT1.out.other (r := w.heap.size) (by have := HTL1.out; omega) 0 (.slice q1 n1 c1)).other (r := w.heap.size) (by have := HTL1.out; omega) 1 (.slice q2 n2 c2))
      have HT2 := Lib.hid ((HT2.out.other (r := w.heap.size) (by have := HTL2.out; omega) 0 (.slice q1 n1 c1)).other (r := w.heap.size) (by have := HTL2.out; omega) 1 (.slice q2 n2 c2))
      obtain ⟨v7, hv⟩ : ∃ x, (v6.setCell ⟨w.heap.size, 0, none⟩ (.slice q1 n1 c1)).setCell ⟨w.heap.size, 1, none⟩ (.slice q2 n2 c2) = x := ⟨_, rfl⟩
      rw [hv] at HF HT1 HT2 ⊢
      clear hv
      refine hK.out _ _ ⟨⟨trivial, tabAt HT1.out HC1.out⟩, tabAt HT2.out HC2.out⟩ (fun HS => ?_)
      clear hK K
      clear r0 r1 f0 f1
      refine held_take (i := 15) (d := 3) (v := .string p1) rfl rfl (by kernel_rfl) (by kernel_rfl) (by kernel_rfl) (by kernel_rfl) (fun wx hS => by go_simp) HS ?_
      refine held_take (i := 16) (d := 4) (v := .string p2) rfl rfl (by kernel_rfl) (by kernel_rfl) (by kernel_rfl) (by kernel_rfl) (fun wx hS => by go_simp) HS ?_
      refine held_take (i := 17) (d := 5) (v := .int .i64 z) rfl rfl (by kernel_rfl) (by kernel_rfl) (by kernel_rfl) (by kernel_rfl) (fun wx hS => by go_simp) HS ?_
      refine wpAnyH_done (by kernel_rfl) (NoPanic.normal ?_) _
      go_wp2
      have hbF := HF.out.r
      unfold Row at hbF
      exact bodyPost_ret (v := .tuple #[.agg #[.slice q1 n1 c1, .slice q2 n2 c2], .string p1, .string p2, .int .i64 z]) (by simp [results, Try.results13, go_sem, World.cell?, hbF]) rfl ⟨q1, n1, c1, q2, n2, c2, l, m, p1, p2, z, rfl, HF.out.s, HZp1.out, HF.out.b⟩
  · skip
    go_simp
    have HT2 := Lib.hid (Row.new v0 9 #[.string ⟨#[]⟩, .string ⟨#[97]⟩, .string ⟨#[97, 47, 49]⟩, .string ⟨#[98]⟩, .string ⟨#[122, 122]⟩])
    have HTL2 := Lib.hid (show w.heap.size + 1 < v0.heap.size from HD.out.rdr.lt)
    have HD := Lib.hid (HD.out.al (.cells #[.string ⟨#[]⟩, .string ⟨#[97]⟩, .string ⟨#[97, 47, 49]⟩, .string ⟨#[98]⟩, .string ⟨#[122, 122]⟩] 9))
    obtain ⟨b2, hb⟩ : ∃ x, v0.heap.size = x := ⟨_, rfl⟩
    obtain ⟨v1, hv⟩ : ∃ x, v0.alloc (.cells #[.string ⟨#[]⟩, .string ⟨#[97]⟩, .string ⟨#[97, 47, 49]⟩, .string ⟨#[98]⟩, .string ⟨#[122, 122]⟩] 9) = x := ⟨_, rfl⟩
    rw [hb] at HT2 HTL2 ⊢
    rw [hv] at HD  HT2 ⊢
    clear hb hv
    refine hK.out _ _ trivial (fun HS => ?_)
    clear hK K
    refine wpAnyH_ready (rs := [1, 2]) (by kernel_rfl) (by simp) (AllReadyH.cons rfl (fun K hK => ?_) (AllReadyH.cons rfl (fun K hK => ?_) AllReadyH.nil))
    · skip
      go_simp
      refine (drawobjects_any _ _ _ _ _ HD.out.rdr).mono ?_
      rintro e v2 ⟨q1, n1, c1, q2, n2, c2, l, m, rfl, hw, hf1, hf2, hl, hm, hs, ho, hg⟩
      have HO := Lib.hid (show DO (w.heap.size + 1) q1 n1 c1 q2 n2 c2 l m v2 from ⟨own_low ho HD.out.rdr.lt, own_low hg HD.out.rdr.lt, hl, hm, hf1, hf2, hs⟩)
      clear ho hg hl hm hf1 hf2 hs
      have HD := Lib.hid (HD.out.step hw)
      have HT2 := Lib.hid (HT2.out.grown hw.grown (by intro e; injection e with e; have := HTL2.out; omega))
      clear hw
      refine hK.out _ _ trivial (fun HS => ?_)
      clear hK K
      refine wpAnyH_ready (rs := [2, 4]) (by kernel_rfl) (by simp) (AllReadyH.cons rfl (fun K hK => ?_) (AllReadyH.cons rfl (fun K hK => ?_) AllReadyH.nil))
      · skip
        go_simp
        have HT1 := Lib.hid (Row.new v2 9 #[.string ⟨#[]⟩, .string ⟨#[97]⟩, .string ⟨#[97, 47]⟩, .string ⟨#[98, 47]⟩, .string ⟨#[122, 47]⟩])
        have HTL1 := Lib.hid (show w.heap.size + 1 < v2.heap.size from HD.out.rdr.lt)
        have HD := Lib.hid (HD.out.al (.cells #[.string ⟨#[]⟩, .string ⟨#[97]⟩, .string ⟨#[97, 47]⟩, .string ⟨#[98, 47]⟩, .string ⟨#[122, 47]⟩] 9))
        have HO := Lib.hid (HO.out.al (.cells #[.string ⟨#[]⟩, .string ⟨#[97]⟩, .string ⟨#[97, 47]⟩, .string ⟨#[98, 47]⟩, .string ⟨#[122, 47]⟩] 9))
        have HT2 := Lib.hid (HT2.out.alloc (.cells #[.string ⟨#[]⟩, .string ⟨#[97]⟩, .string ⟨#[97, 47]⟩, .string ⟨#[98, 47]⟩, .string ⟨#[122, 47]⟩] 9))
        obtain ⟨b1, hb⟩ : ∃ x, v2.heap.size = x := ⟨_, rfl⟩
        obtain ⟨v3, hv⟩ : ∃ x, v2.alloc (.cells #[.string ⟨#[]⟩, .string ⟨#[97]⟩, .string ⟨#[97, 47]⟩, .string ⟨#[98, 47]⟩, .string ⟨#[122, 47]⟩] 9) = x := ⟨_, rfl⟩
        rw [hb] at HT1 HTL1 ⊢
        rw [hv] at HD HO HT1 HT2 ⊢
        clear hb hv
        refine hK.out _ _ trivial (fun HS => ?_)
        clear hK K
        refine wpAnyH_ready (rs := [4]) (by kernel_rfl) (by simp) (AllReadyH.cons rfl (fun K hK => ?_) AllReadyH.nil)
        go_simp
        refine (below_any _ _ _ _ _ _ HD.out.rdr (by decide) (by decide)).mono ?_
        rintro e v4 ⟨⟨x, hx1, hx2, rfl⟩, hw⟩
        obtain ⟨x1, rfl⟩ : ∃ k : Nat, x = k := ⟨x.toNat, by omega⟩
        have hqx10 : (0 : Int) ≤ (x1 : Int) := by omega
        have hqx11 : (x1 : Int) < 5 := by omega
        clear hx1 hx2
        have HD := Lib.hid (HD.out.step hw)
        have HO := Lib.hid (HO.out.step hw)
        have HT1 := Lib.hid (HT1.out.grown hw.grown (by intro e; injection e with e; have := HTL1.out; omega))
        have HT2 := Lib.hid (HT2.out.grown hw.grown (by intro e; injection e with e; have := HTL2.out; omega))
        clear hw
        refine hK.out _ _ trivial (fun HS => ?_)
        clear hK K
        refine held_take (i := 5) (d := 14) (v := .pointer (some ⟨b1, x1, none⟩)) rfl rfl (by kernel_rfl) (by kernel_rfl) (by kernel_rfl) (by kernel_rfl) (fun wx hS => by go_simp) HS ?_
        obtain ⟨p1, hp11, hp12⟩ := tab5 (m := 5) HT1.out (by decide) (x1 : Int) hqx10 (by show (x1 : Int) < 5; exact hqx11)
        rw [Int.toNat_natCast] at hp12
        have HZp1 := Lib.hid hp11
        have HC1 := Lib.hid hp12
        clear hp11 hp12
        refine held_mono (S' := (fun w' => (True) ∧ w'.cell? ⟨b1, x1, none⟩ = some (.string p1))) (fun w' h => h.1) ?_
        have HS : (fun w' => (True) ∧ w'.cell? ⟨b1, x1, none⟩ = some (.string p1)) v4 := ⟨HS, tabAt HT1.out HC1.out⟩
        refine held_take (i := 6) (d := 15) (v := .string p1) rfl rfl (by kernel_rfl) (by kernel_rfl) (by kernel_rfl) (by kernel_rfl) (fun wx hS => by have e0 := hS.2; go_simp) HS ?_
        refine wpAnyH_ready (rs := [9]) (by kernel_rfl) (by simp) (AllReadyH.cons rfl (fun K hK => ?_) AllReadyH.nil)
        go_simp
        refine (below_any _ _ _ _ _ _ HD.out.rdr (by decide) (by decide)).mono ?_
        rintro e v5 ⟨⟨x, hx1, hx2, rfl⟩, hw⟩
        obtain ⟨x2, rfl⟩ : ∃ k : Nat, x = k := ⟨x.toNat, by omega⟩
        have hqx20 : (0 : Int) ≤ (x2 : Int) := by omega
        have hqx21 : (x2 : Int) < 5 := by omega
        clear hx1 hx2
        have HD := Lib.hid (HD.out.step hw)
        have HO := Lib.hid (HO.out.step hw)
        have HT1 := Lib.hid (HT1.out.grown hw.grown (by intro e; injection e with e; have := HTL1.out; omega))
        have HT2 := Lib.hid (HT2.out.grown hw.grown (by intro e; injection e with e; have := HTL2.out; omega))
        clear hw
        refine hK.out _ _ ⟨trivial, tabAt HT1.out HC1.out⟩ (fun HS => ?_)
        clear hK K
        refine held_take (i := 10) (d := 19) (v := .pointer (some ⟨b2, x2, none⟩)) rfl rfl (by kernel_rfl) (by kernel_rfl) (by kernel_rfl) (by kernel_rfl) (fun wx hS => by go_simp) HS ?_
        obtain ⟨p2, hp21, hp22⟩ := tab5 (m := 5) HT2.out (by decide) (x2 : Int) hqx20 (by show (x2 : Int) < 5; exact hqx21)
        rw [Int.toNat_natCast] at hp22
        have HZp2 := Lib.hid hp21
        have HC2 := Lib.hid hp22
        clear hp21 hp22
        refine held_mono (S' := (fun w' => ((True) ∧ w'.cell? ⟨b1, x1, none⟩ = some (.string p1)) ∧ w'.cell? ⟨b2, x2, none⟩ = some (.string p2))) (fun w' h => h.1) ?_
        have HS : (fun w' => ((True) ∧ w'.cell? ⟨b1, x1, none⟩ = some (.string p1)) ∧ w'.cell? ⟨b2, x2, none⟩ = some (.string p2)) v5 := ⟨HS, tabAt HT2.out HC2.out⟩
        refine held_take (i := 11) (d := 20) (v := .string p2) rfl rfl (by kernel_rfl) (by kernel_rfl) (by kernel_rfl) (by kernel_rfl) (fun wx hS => by have e0 := hS.2; go_simp) HS ?_
        refine wpAnyH_ready (rs := [13]) (by kernel_rfl) (by simp) (AllReadyH.cons rfl (fun K hK => ?_) AllReadyH.nil)
        go_simp
        refine (off_any _ _ _ _ _ _ _ HD.out.rdr (by decide) (by decide) (by decide)).mono ?_
        rintro e v6 ⟨⟨z, hz, rfl⟩, hw⟩
        clear hz
        have HD := Lib.hid (HD.out.step hw)
        have HO := Lib.hid (HO.out.step hw)
        have HT1 := Lib.hid (HT1.out.grown hw.grown (by intro e; injection e with e; have := HTL1.out; omega))
        have HT2 := Lib.hid (HT2.out.grown hw.grown (by intro e; injection e with e; have := HTL2.out; omega))
        clear hw
        refine hK.out _ _ ⟨⟨trivial, tabAt HT1.out HC1.out⟩, tabAt HT2.out HC2.out⟩ (fun HS => ?_)
        clear hK K
        refine wpAnyH_ready (rs := [14]) (by kernel_rfl) (by simp) (AllReadyH.cons rfl (fun K hK => ?_) AllReadyH.nil)
        have r0 := HD.out.res.cell (j := 0) (by simp)
        have r1 := HD.out.res.cell (j := 1) (by simp)
        have f0 := HD.out.res.free 0
        have f1 := HD.out.res.free 1
        simp at r0 r1
        go_simp
        have HF := Lib.hid (HD.out.fin HO.out)
        have HT1 := Lib.hid ((HT1.out.other (r := w.heap.size) (by have := HTL1.out; omega) 0 (.slice q1 n1 c1)).other (r := w.heap.size) (by have := HTL1.out; omega) 1 (.slice q2 n2 c2))
        have HT2 := Lib.hid ((HT2.out.other (r := w.heap.size) (by have := HTL2.out; omega) 0 (.slice q1 n1 c1)).other (r := w.heap.size) (by have := HTL2.out; omega) 1 (.slice q2 n2 c2))
        obtain ⟨v7, hv⟩ : ∃ x, (v6.setCell ⟨w.heap.size, 0, none⟩ (.slice q1 n1 c1)).setCell ⟨w.heap.size, 1, none⟩ (.slice q2 n2 c2) = x := ⟨_, rfl⟩
        rw [hv] at HF HT1 HT2 ⊢
        clear hv
        refine hK.out _ _ ⟨⟨trivial, tabAt HT1.out HC1.out⟩, tabAt HT2.out HC2.out⟩ (fun HS => ?_)
        clear hK K
        clear r0 r1 f0 f1
        refine held_take (i := 15) (d := 3) (v := .string p1) rfl rfl (by kernel_rfl) (by kernel_rfl) (by kernel_rfl) (by kernel_rfl) (fun wx hS => by go_simp) HS ?_
        refine held_take (i := 16) (d := 4) (v := .string p2) rfl rfl (by kernel_rfl) (by kernel_rfl) (by kernel_rfl) (by kernel_rfl) (fun wx hS => by go_simp) HS ?_
        refine held_take (i := 17) (d := 5) (v := .int .i64 z) rfl rfl (by kernel_rfl) (by kernel_rfl) (by kernel_rfl) (by kernel_rfl) (fun wx hS => by go_simp) HS ?_
        refine wpAnyH_done (by kernel_rfl) (NoPanic.normal ?_) _
        go_wp2
        have hbF := HF.out.r
        unfold Row at hbF
        exact bodyPost_ret (v := .tuple #[.agg #[.slice q1 n1 c1, .slice q2 n2 c2], .string p1, .string p2, .int .i64 z]) (by simp [results, Try.results13, go_sem, World.cell?, hbF]) rfl ⟨q1, n1, c1, q2, n2, c2, l, m, p1, p2, z, rfl, HF.out.s, HZp1.out, HF.out.b⟩
      · skip
        go_simp
        refine (below_any _ _ _ _ _ _ HD.out.rdr (by decide) (by decide)).mono ?_
        rintro e v3 ⟨⟨x, hx1, hx2, rfl⟩, hw⟩
        obtain ⟨x1, rfl⟩ : ∃ k : Nat, x = k := ⟨x.toNat, by omega⟩
        have hqx10 : (0 : Int) ≤ (x1 : Int) := by omega
        have hqx11 : (x1 : Int) < 5 := by omega
        clear hx1 hx2
        have HD := Lib.hid (HD.out.step hw)
        have HO := Lib.hid (HO.out.step hw)
        have HT2 := Lib.hid (HT2.out.grown hw.grown (by intro e; injection e with e; have := HTL2.out; omega))
        clear hw
        refine hK.out _ _ trivial (fun HS => ?_)
        clear hK K
        refine wpAnyH_ready (rs := [2, 9]) (by kernel_rfl) (by simp) (AllReadyH.cons rfl (fun K hK => ?_) (AllReadyH.cons rfl (fun K hK => ?_) AllReadyH.nil))
        · skip
          go_simp
          have HT1 := Lib.hid (Row.new v3 9 #[.string ⟨#[]⟩, .string ⟨#[97]⟩, .string ⟨#[97, 47]⟩, .string ⟨#[98, 47]⟩, .string ⟨#[122, 47]⟩])
          have HTL1 := Lib.hid (show w.heap.size + 1 < v3.heap.size from HD.out.rdr.lt)
          have HD := Lib.hid (HD.out.al (.cells #[.string ⟨#[]⟩, .string ⟨#[97]⟩, .string ⟨#[97, 47]⟩, .string ⟨#[98, 47]⟩, .string ⟨#[122, 47]⟩] 9))
          have HO := Lib.hid (HO.out.al (.cells #[.string ⟨#[]⟩, .string ⟨#[97]⟩, .string ⟨#[97, 47]⟩, .string ⟨#[98, 47]⟩, .string ⟨#[122, 47]⟩] 9))
          have HT2 := Lib.hid (HT2.out.alloc (.cells #[.string ⟨#[]⟩, .string ⟨#[97]⟩, .string ⟨#[97, 47]⟩, .string ⟨#[98, 47]⟩, .string ⟨#[122, 47]⟩] 9))
          obtain ⟨b1, hb⟩ : ∃ x, v3.heap.size = x := ⟨_, rfl⟩
          obtain ⟨v4, hv⟩ : ∃ x, v3.alloc (.cells #[.string ⟨#[]⟩, .string ⟨#[97]⟩, .string ⟨#[97, 47]⟩, .string ⟨#[98, 47]⟩, .string ⟨#[122, 47]⟩] 9) = x := ⟨_, rfl⟩
          rw [hb] at HT1 HTL1 ⊢
          rw [hv] at HD HO HT1 HT2 ⊢
          clear hb hv
          refine hK.out _ _ trivial (fun HS => ?_)
          clear hK K
          refine held_take (i := 5) (d := 14) (v := .pointer (some ⟨b1, x1, none⟩)) rfl rfl (by kernel_rfl) (by kernel_rfl) (by kernel_rfl) (by kernel_rfl) (fun wx hS => by go_simp) HS ?_
          obtain ⟨p1, hp11, hp12⟩ := tab5 (m := 5) HT1.out (by decide) (x1 : Int) hqx10 (by show (x1 : Int) < 5; exact hqx11)
          rw [Int.toNat_natCast] at hp12
          have HZp1 := Lib.hid hp11
          have HC1 := Lib.hid hp12
          clear hp11 hp12
          refine held_mono (S' := (fun w' => (True) ∧ w'.cell? ⟨b1, x1, none⟩ = some (.string p1))) (fun w' h => h.1) ?_
          have HS : (fun w' => (True) ∧ w'.cell? ⟨b1, x1, none⟩ = some (.string p1)) v4 := ⟨HS, tabAt HT1.out HC1.out⟩
          refine held_take (i := 6) (d := 15) (v := .string p1) rfl rfl (by kernel_rfl) (by kernel_rfl) (by kernel_rfl) (by kernel_rfl) (fun wx hS => by have e0 := hS.2; go_simp) HS ?_
          refine wpAnyH_ready (rs := [9]) (by kernel_rfl) (by simp) (AllReadyH.cons rfl (fun K hK => ?_) AllReadyH.nil)
          go_simp
          refine (below_any _ _ _ _ _ _ HD.out.rdr (by decide) (by decide)).mono ?_
          rintro e v5 ⟨⟨x, hx1, hx2, rfl⟩, hw⟩
          obtain ⟨x2, rfl⟩ : ∃ k : Nat, x = k := ⟨x.toNat, by omega⟩
          have hqx20 : (0 : Int) ≤ (x2 : Int) := by omega
          have hqx21 : (x2 : Int) < 5 := by omega
          clear hx1 hx2
          have HD := Lib.hid (HD.out.step hw)
          have HO := Lib.hid (HO.out.step hw)
          have HT1 := Lib.hid (HT1.out.grown hw.grown (by intro e; injection e with e; have := HTL1.out; omega))
          have HT2 := Lib.hid (HT2.out.grown hw.grown (by intro e; injection e with e; have := HTL2.out; omega))
          clear hw
          refine hK.out _ _ ⟨trivial, tabAt HT1.out HC1.out⟩ (fun HS => ?_)
          clear hK K
          refine held_take (i := 10) (d := 19) (v := .pointer (some ⟨b2, x2, none⟩)) rfl rfl (by kernel_rfl) (by kernel_rfl) (by kernel_rfl) (by kernel_rfl) (fun wx hS => by go_simp) HS ?_
          obtain ⟨p2, hp21, hp22⟩ := tab5 (m := 5) HT2.out (by decide) (x2 : Int) hqx20 (by show (x2 : Int) < 5; exact hqx21)
          rw [Int.toNat_natCast] at hp22
          have HZp2 := Lib.hid hp21
          have HC2 := Lib.hid hp22
          clear hp21 hp22
          refine held_mono (S' := (fun w' => ((True) ∧ w'.cell? ⟨b1, x1, none⟩ = some (.string p1)) ∧ w'.cell? ⟨b2, x2, none⟩ = some (.string p2))) (fun w' h => h.1) ?_
          have HS : (fun w' => ((True) ∧ w'.cell? ⟨b1, x1, none⟩ = some (.string p1)) ∧ w'.cell? ⟨b2, x2, none⟩ = some (.string p2)) v5 := ⟨HS, tabAt HT2.out HC2.out⟩
          refine held_take (i := 11) (d := 20) (v := .string p2) rfl rfl (by kernel_rfl) (by kernel_rfl) (by kernel_rfl) (by kernel_rfl) (fun wx hS => by have e0 := hS.2; go_simp) HS ?_
          refine wpAnyH_ready (rs := [13]) (by kernel_rfl) (by simp) (AllReadyH.cons rfl (fun K hK => ?_) AllReadyH.nil)
          go_simp
          refine (off_any _ _ _ _ _ _ _ HD.out.rdr (by decide) (by decide) (by decide)).mono ?_
          rintro e v6 ⟨⟨z, hz, rfl⟩, hw⟩
          clear hz
          have HD := Lib.hid (HD.out.step hw)
          have HO := Lib.hid (HO.out.step hw)
          have HT1 := Lib.hid (HT1.out.grown hw.grown (by intro e; injection e with e; have := HTL1.out; omega))
          have HT2 := Lib.hid (HT2.out.grown hw.grown (by intro e; injection e with e; have := HTL2.out; omega))
          clear hw
          refine hK.out _ _ ⟨⟨trivial, tabAt HT1.out HC1.out⟩, tabAt HT2.out HC2.out⟩ (fun HS => ?_)
          clear hK K
          refine wpAnyH_ready (rs := [14]) (by kernel_rfl) (by simp) (AllReadyH.cons rfl (fun K hK => ?_) AllReadyH.nil)
          have r0 := HD.out.res.cell (j := 0) (by simp)
          have r1 := HD.out.res.cell (j := 1) (by simp)
          have f0 := HD.out.res.free 0
          have f1 := HD.out.res.free 1
          simp at r0 r1
          go_simp
          have HF := Lib.hid (HD.out.fin HO.out)
          have HT1 := Lib.hid ((HT1.out.other (r := w.heap.size) (by have := HTL1.out; omega) 0 (.slice q1 n1 c1)).other (r := w.heap.size) (by have := HTL1.out; omega) 1 (.slice q2 n2 c2))
          have HT2 := Lib.hid ((HT2.out.other (r := w.heap.size) (by have := HTL2.out; omega) 0 (.slice q1 n1 c1)).other (r := w.heap.size) (by have := HTL2.out; omega) 1 (.slice q2 n2 c2))
          obtain ⟨v7, hv⟩ : ∃ x, (v6.setCell ⟨w.heap.size, 0, none⟩ (.slice q1 n1 c1)).setCell ⟨w.heap.size, 1, none⟩ (.slice q2 n2 c2) = x := ⟨_, rfl⟩
          rw [hv] at HF HT1 HT2 ⊢
          clear hv
          refine hK.out _ _ ⟨⟨trivial, tabAt HT1.out HC1.out⟩, tabAt HT2.out HC2.out⟩ (fun HS => ?_)
          clear hK K
          clear r0 r1 f0 f1
          refine held_take (i := 15) (d := 3) (v := .string p1) rfl rfl (by kernel_rfl) (by kernel_rfl) (by kernel_rfl) (by kernel_rfl) (fun wx hS => by go_simp) HS ?_
          refine held_take (i := 16) (d := 4) (v := .string p2) rfl rfl (by kernel_rfl) (by kernel_rfl) (by kernel_rfl) (by kernel_rfl) (fun wx hS => by go_simp) HS ?_
          refine held_take (i := 17) (d := 5) (v := .int .i64 z) rfl rfl (by kernel_rfl) (by kernel_rfl) (by kernel_rfl) (by kernel_rfl) (fun wx hS => by go_simp) HS ?_
          refine wpAnyH_done (by kernel_rfl) (NoPanic.normal ?_) _
          go_wp2
          have hbF := HF.out.r
          unfold Row at hbF
          exact bodyPost_ret (v := .tuple #[.agg #[.slice q1 n1 c1, .slice q2 n2 c2], .string p1, .string p2, .int .i64 z]) (by simp [results, Try.results13, go_sem, World.cell?, hbF]) rfl ⟨q1, n1, c1, q2, n2, c2, l, m, p1, p2, z, rfl, HF.out.s, HZp1.out, HF.out.b⟩
        · skip
          go_simp
          refine (below_any _ _ _ _ _ _ HD.out.rdr (by decide) (by decide)).mono ?_
          rintro e v4 ⟨⟨x, hx1, hx2, rfl⟩, hw⟩
          obtain ⟨x2, rfl⟩ : ∃ k : Nat, x = k := ⟨x.toNat, by omega⟩
          have hqx20 : (0 : Int) ≤ (x2 : Int) := by omega
          have hqx21 : (x2 : Int) < 5 := by omega
          clear hx1 hx2
          have HD := Lib.hid (HD.out.step hw)
          have HO := Lib.hid (HO.out.step hw)
          have HT2 := Lib.hid (HT2.out.grown hw.grown (by intro e; injection e with e; have := HTL2.out; omega))
          clear hw
          refine hK.out _ _ trivial (fun HS => ?_)
          clear hK K
          refine held_take (i := 10) (d := 19) (v := .pointer (some ⟨b2, x2, none⟩)) rfl rfl (by kernel_rfl) (by kernel_rfl) (by kernel_rfl) (by kernel_rfl) (fun wx hS => by go_simp) HS ?_
          obtain ⟨p2, hp21, hp22⟩ := tab5 (m := 5) HT2.out (by decide) (x2 : Int) hqx20 (by show (x2 : Int) < 5; exact hqx21)
          rw [Int.toNat_natCast] at hp22
          have HZp2 := Lib.hid hp21
          have HC2 := Lib.hid hp22
          clear hp21 hp22
          refine held_mono (S' := (fun w' => (True) ∧ w'.cell? ⟨b2, x2, none⟩ = some (.string p2))) (fun w' h => h.1) ?_
          have HS : (fun w' => (True) ∧ w'.cell? ⟨b2, x2, none⟩ = some (.string p2)) v4 := ⟨HS, tabAt HT2.out HC2.out⟩
          refine held_take (i := 11) (d := 20) (v := .string p2) rfl rfl (by kernel_rfl) (by kernel_rfl) (by kernel_rfl) (by kernel_rfl) (fun wx hS => by have e0 := hS.2; go_simp) HS ?_
          refine wpAnyH_ready (rs := [2, 13]) (by kernel_rfl) (by simp) (AllReadyH.cons rfl (fun K hK => ?_) (AllReadyH.cons rfl (fun K hK => ?_) AllReadyH.nil))
          · skip
            go_simp
            have HT1 := Lib.hid (Row.new v4 9 #[.string ⟨#[]⟩, .string ⟨#[97]⟩, .string ⟨#[97, 47]⟩, .string ⟨#[98, 47]⟩, .string ⟨#[122, 47]⟩])
            have HTL1 := Lib.hid (show w.heap.size + 1 < v4.heap.size from HD.out.rdr.lt)
            have HD := Lib.hid (HD.out.al (.cells #[.string ⟨#[]⟩, .string ⟨#[97]⟩, .string ⟨#[97, 47]⟩, .string ⟨#[98, 47]⟩, .string ⟨#[122, 47]⟩] 9))
            have HO := Lib.hid (HO.out.al (.cells #[.string ⟨#[]⟩, .string ⟨#[97]⟩, .string ⟨#[97, 47]⟩, .string ⟨#[98, 47]⟩, .string ⟨#[122, 47]⟩] 9))
            have HT2 := Lib.hid (HT2.out.alloc (.cells #[.string ⟨#[]⟩, .string ⟨#[97]⟩, .string ⟨#[97, 47]⟩, .string ⟨#[98, 47]⟩, .string ⟨#[122, 47]⟩] 9))
            obtain ⟨b1, hb⟩ : ∃ x, v4.heap.size = x := ⟨_, rfl⟩
            obtain ⟨v5, hv⟩ : ∃ x, v4.alloc (.cells #[.string ⟨#[]⟩, .string ⟨#[97]⟩, .string ⟨#[97, 47]⟩, .string ⟨#[98, 47]⟩, .string ⟨#[122, 47]⟩] 9) = x := ⟨_, rfl⟩
            rw [hb] at HT1 HTL1 ⊢
            rw [hv] at HD HO HT1 HT2 ⊢
            clear hb hv
            refine hK.out _ _ ⟨trivial, tabAt HT2.out HC2.out⟩ (fun HS => ?_)
            clear hK K
            refine held_take (i := 5) (d := 14) (v := .pointer (some ⟨b1, x1, none⟩)) rfl rfl (by kernel_rfl) (by kernel_rfl) (by kernel_rfl) (by kernel_rfl) (fun wx hS => by go_simp) HS ?_
            obtain ⟨p1, hp11, hp12⟩ := tab5 (m := 5) HT1.out (by decide) (x1 : Int) hqx10 (by show (x1 : Int) < 5; exact hqx11)
            rw [Int.toNat_natCast] at hp12
            have HZp1 := Lib.hid hp11
            have HC1 := Lib.hid hp12
            clear hp11 hp12
            refine held_mono (S' := (fun w' => ((True) ∧ w'.cell? ⟨b2, x2, none⟩ = some (.string p2)) ∧ w'.cell? ⟨b1, x1, none⟩ = some (.string p1))) (fun w' h => h.1) ?_
            have HS : (fun w' => ((True) ∧ w'.cell? ⟨b2, x2, none⟩ = some (.string p2)) ∧ w'.cell? ⟨b1, x1, none⟩ = some (.string p1)) v5 := ⟨HS, tabAt HT1.out HC1.out⟩
            refine held_take (i := 6) (d := 15) (v := .string p1) rfl rfl (by kernel_rfl) (by kernel_rfl) (by kernel_rfl) (by kernel_rfl) (fun wx hS => by have e0 := hS.2; go_simp) HS ?_
            refine wpAnyH_ready (rs := [13]) (by kernel_rfl) (by simp) (AllReadyH.cons rfl (fun K hK => ?_) AllReadyH.nil)
            go_simp
            refine (off_any _ _ _ _ _ _ _ HD.out.rdr (by decide) (by decide) (by decide)).mono ?_
            rintro e v6 ⟨⟨z, hz, rfl⟩, hw⟩
            clear hz
            have HD := Lib.hid (HD.out.step hw)
            have HO := Lib.hid (HO.out.step hw)
            have HT1 := Lib.hid (HT1.out.grown hw.grown (by intro e; injection e with e; have := HTL1.out; omega))
            have HT2 := Lib.hid (HT2.out.grown hw.grown (by intro e; injection e with e; have := HTL2.out; omega))
            clear hw
            refine hK.out _ _ ⟨⟨trivial, tabAt HT2.out HC2.out⟩, tabAt HT1.out HC1.out⟩ (fun HS => ?_)
            clear hK K
            refine wpAnyH_ready (rs := [14]) (by kernel_rfl) (by simp) (AllReadyH.cons rfl (fun K hK => ?_) AllReadyH.nil)
            have r0 := HD.out.res.cell (j := 0) (by simp)
            have r1 := HD.out.res.cell (j := 1) (by simp)
            have f0 := HD.out.res.free 0
            have f1 := HD.out.res.free 1
            simp at r0 r1
            go_simp
            have HF := Lib.hid (HD.out.fin HO.out)
            have HT1 := Lib.hid ((HT1.out.other (r := w.heap.size) (by have := HTL1.out; omega) 0 (.slice q1 n1 c1)).other (r := w.heap.size) (by have := HTL1.out; omega) 1 (.slice q2 n2 c2))
            have HT2 := Lib.hid ((HT2.out.other (r := w.heap.size) (by have := HTL2.out; omega) 0 (.slice q1 n1 c1)).other (r := w.heap.size) (by have := HTL2.out; omega) 1 (.slice q2 n2 c2))
            obtain ⟨v7, hv⟩ : ∃ x, (v6.setCell ⟨w.heap.size, 0, none⟩ (.slice q1 n1 c1)).setCell ⟨w.heap.size, 1, none⟩ (.slice q2 n2 c2) = x := ⟨_, rfl⟩
            rw [hv] at HF HT1 HT2 ⊢
            clear hv
            refine hK.out _ _ ⟨⟨trivial, tabAt HT2.out HC2.out⟩, tabAt HT1.out HC1.out⟩ (fun HS => ?_)
            clear hK K
            clear r0 r1 f0 f1
            refine held_take (i := 15) (d := 3) (v := .string p1) rfl rfl (by kernel_rfl) (by kernel_rfl) (by kernel_rfl) (by kernel_rfl) (fun wx hS => by go_simp) HS ?_
            refine held_take (i := 16) (d := 4) (v := .string p2) rfl rfl (by kernel_rfl) (by kernel_rfl) (by kernel_rfl) (by kernel_rfl) (fun wx hS => by go_simp) HS ?_
            refine held_take (i := 17) (d := 5) (v := .int .i64 z) rfl rfl (by kernel_rfl) (by kernel_rfl) (by kernel_rfl) (by kernel_rfl) (fun wx hS => by go_simp) HS ?_
            refine wpAnyH_done (by kernel_rfl) (NoPanic.normal ?_) _
            go_wp2
            have hbF := HF.out.r
            unfold Row at hbF
            exact bodyPost_ret (v := .tuple #[.agg #[.slice q1 n1 c1, .slice q2 n2 c2], .string p1, .string p2, .int .i64 z]) (by simp [results, Try.results13, go_sem, World.cell?, hbF]) rfl ⟨q1, n1, c1, q2, n2, c2, l, m, p1, p2, z, rfl, HF.out.s, HZp1.out, HF.out.b⟩
          · skip
            go_simp
            refine (off_any _ _ _ _ _ _ _ HD.out.rdr (by decide) (by decide) (by decide)).mono ?_
            rintro e v5 ⟨⟨z, hz, rfl⟩, hw⟩
            clear hz
            have HD := Lib.hid (HD.out.step hw)
            have HO := Lib.hid (HO.out.step hw)
            have HT2 := Lib.hid (HT2.out.grown hw.grown (by intro e; injection e with e; have := HTL2.out; omega))
            clear hw
            refine hK.out _ _ ⟨trivial, tabAt HT2.out HC2.out⟩ (fun HS => ?_)
            clear hK K
            refine wpAnyH_ready (rs := [2, 14]) (by kernel_rfl) (by simp) (AllReadyH.cons rfl (fun K hK => ?_) (AllReadyH.cons rfl (fun K hK => ?_) AllReadyH.nil))
            · skip
              go_simp
              have HT1 := Lib.hid (Row.new v5 9 #[.string ⟨#[]⟩, .string ⟨#[97]⟩, .string ⟨#[97, 47]⟩, .string ⟨#[98, 47]⟩, .string ⟨#[122, 47]⟩])
              have HTL1 := Lib.hid (show w.heap.size + 1 < v5.heap.size from HD.out.rdr.lt)
              have HD := Lib.hid (HD.out.al (.cells #[.string ⟨#[]⟩, .string ⟨#[97]⟩, .string ⟨#[97, 47]⟩, .string ⟨#[98, 47]⟩, .string ⟨#[122, 47]⟩] 9))
              have HO := Lib.hid (HO.out.al (.cells #[.string ⟨#[]⟩, .string ⟨#[97]⟩, .string ⟨#[97, 47]⟩, .string ⟨#[98, 47]⟩, .string ⟨#[122, 47]⟩] 9))
              have HT2 := Lib.hid (HT2.out.alloc (.cells #[.string ⟨#[]⟩, .string ⟨#[97]⟩, .string ⟨#[97, 47]⟩, .string ⟨#[98, 47]⟩, .string ⟨#[122, 47]⟩] 9))
              obtain ⟨b1, hb⟩ : ∃ x, v5.heap.size = x := ⟨_, rfl⟩
              obtain ⟨v6, hv⟩ : ∃ x, v5.alloc (.cells #[.string ⟨#[]⟩, .string ⟨#[97]⟩, .string ⟨#[97, 47]⟩, .string ⟨#[98, 47]⟩, .string ⟨#[122, 47]⟩] 9) = x := ⟨_, rfl⟩
              rw [hb] at HT1 HTL1 ⊢
              rw [hv] at HD HO HT1 HT2 ⊢
              clear hb hv
              refine hK.out _ _ ⟨trivial, tabAt HT2.out HC2.out⟩ (fun HS => ?_)
              clear hK K
              refine held_take (i := 5) (d := 14) (v := .pointer (some ⟨b1, x1, none⟩)) rfl rfl (by kernel_rfl) (by kernel_rfl) (by kernel_rfl) (by kernel_rfl) (fun wx hS => by go_simp) HS ?_
              obtain ⟨p1, hp11, hp12⟩ := tab5 (m := 5) HT1.out (by decide) (x1 : Int) hqx10 (by show (x1 : Int) < 5; exact hqx11)
              rw [Int.toNat_natCast] at hp12
              have HZp1 := Lib.hid hp11
              have HC1 := Lib.hid hp12
              clear hp11 hp12
              refine held_mono (S' := (fun w' => ((True) ∧ w'.cell? ⟨b2, x2, none⟩ = some (.string p2)) ∧ w'.cell? ⟨b1, x1, none⟩ = some (.string p1))) (fun w' h => h.1) ?_
              have HS : (fun w' => ((True) ∧ w'.cell? ⟨b2, x2, none⟩ = some (.string p2)) ∧ w'.cell? ⟨b1, x1, none⟩ = some (.string p1)) v6 := ⟨HS, tabAt HT1.out HC1.out⟩
              refine held_take (i := 6) (d := 15) (v := .string p1) rfl rfl (by kernel_rfl) (by kernel_rfl) (by kernel_rfl) (by kernel_rfl) (fun wx hS => by have e0 := hS.2; go_simp) HS ?_
              refine wpAnyH_ready (rs := [14]) (by kernel_rfl) (by simp) (AllReadyH.cons rfl (fun K hK => ?_) AllReadyH.nil)
              have r0 := HD.out.res.cell (j := 0) (by simp)
              have r1 := HD.out.res.cell (j := 1) (by simp)
              have f0 := HD.out.res.free 0
              have f1 := HD.out.res.free 1
              simp at r0 r1
              go_simp
              have HF := Lib.hid (HD.out.fin HO.out)
              have HT1 := Lib.hid ((HT1.out.other (r := w.heap.size) (by have := HTL1.out; omega) 0 (.slice q1 n1 c1)).other (r := w.heap.size) (by have := HTL1.out; omega) 1 (.slice q2 n2 c2))
              have HT2 := Lib.hid ((HT2.out.other (r := w.heap.size) (by have := HTL2.out; omega) 0 (.slice q1 n1 c1)).other (r := w.heap.size) (by have := HTL2.out; omega) 1 (.slice q2 n2 c2))
              obtain ⟨v7, hv⟩ : ∃ x, (v6.setCell ⟨w.heap.size, 0, none⟩ (.slice q1 n1 c1)).setCell ⟨w.heap.size, 1, none⟩ (.slice q2 n2 c2) = x := ⟨_, rfl⟩
              rw [hv] at HF HT1 HT2 ⊢
              clear hv
              refine hK.out _ _ ⟨⟨trivial, tabAt HT2.out HC2.out⟩, tabAt HT1.out HC1.out⟩ (fun HS => ?_)
              clear hK K
              clear r0 r1 f0 f1
              refine held_take (i := 15) (d := 3) (v := .string p1) rfl rfl (by kernel_rfl) (by kernel_rfl) (by kernel_rfl) (by kernel_rfl) (fun wx hS => by go_simp) HS ?_
              refine held_take (i := 16) (d := 4) (v := .string p2) rfl rfl (by kernel_rfl) (by kernel_rfl) (by kernel_rfl) (by kernel_rfl) (fun wx hS => by go_simp) HS ?_
              refine held_take (i := 17) (d := 5) (v := .int .i64 z) rfl rfl (by kernel_rfl) (by kernel_rfl) (by kernel_rfl) (by kernel_rfl) (fun wx hS => by go_simp) HS ?_
              refine wpAnyH_done (by kernel_rfl) (NoPanic.normal ?_) _
              go_wp2
              have hbF := HF.out.r
              unfold Row at hbF
              exact bodyPost_ret (v := .tuple #[.agg #[.slice q1 n1 c1, .slice q2 n2 c2], .string p1, .string p2, .int .i64 z]) (by simp [results, Try.results13, go_sem, World.cell?, hbF]) rfl ⟨q1, n1, c1, q2, n2, c2, l, m, p1, p2, z, rfl, HF.out.s, HZp1.out, HF.out.b⟩
            · skip
              have r0 := HD.out.res.cell (j := 0) (by simp)
              have r1 := HD.out.res.cell (j := 1) (by simp)
              have f0 := HD.out.res.free 0
              have f1 := HD.out.res.free 1
              simp at r0 r1
              go_simp
              have HF := Lib.hid (HD.out.fin HO.out)
              have HT2 := Lib.hid ((HT2.out.other (r := w.heap.size) (by have := HTL2.out; omega) 0 (.slice q1 n1 c1)).other (r := w.heap.size) (by have := HTL2.out; omega) 1 (.slice q2 n2 c2))
              obtain ⟨v6, hv⟩ : ∃ x, (v5.setCell ⟨w.heap.size, 0, none⟩ (.slice q1 n1 c1)).setCell ⟨w.heap.size, 1, none⟩ (.slice q2 n2 c2) = x := ⟨_, rfl⟩
              rw [hv] at HF HT2 ⊢
              clear hv
              refine hK.out _ _ ⟨trivial, tabAt HT2.out HC2.out⟩ (fun HS => ?_)
              clear hK K
              clear r0 r1 f0 f1
              refine wpAnyH_ready (rs := [2]) (by kernel_rfl) (by simp) (AllReadyH.cons rfl (fun K hK => ?_) AllReadyH.nil)
              go_simp
              have HT1 := Lib.hid (Row.new v6 9 #[.string ⟨#[]⟩, .string ⟨#[97]⟩, .string ⟨#[97, 47]⟩, .string ⟨#[98, 47]⟩, .string ⟨#[122, 47]⟩])
              have HF := Lib.hid (HF.out.al (.cells #[.string ⟨#[]⟩, .string ⟨#[97]⟩, .string ⟨#[97, 47]⟩, .string ⟨#[98, 47]⟩, .string ⟨#[122, 47]⟩] 9))
              have HT2 := Lib.hid (HT2.out.alloc (.cells #[.string ⟨#[]⟩, .string ⟨#[97]⟩, .string ⟨#[97, 47]⟩, .string ⟨#[98, 47]⟩, .string ⟨#[122, 47]⟩] 9))
              obtain ⟨b1, hb⟩ : ∃ x, v6.heap.size = x := ⟨_, rfl⟩
              obtain ⟨v7, hv⟩ : ∃ x, v6.alloc (.cells #[.string ⟨#[]⟩, .string ⟨#[97]⟩, .string ⟨#[97, 47]⟩, .string ⟨#[98, 47]⟩, .string ⟨#[122, 47]⟩] 9) = x := ⟨_, rfl⟩
              rw [hb] at HT1  ⊢
              rw [hv] at HF HT1 HT2 ⊢
              clear hb hv
              refine hK.out _ _ ⟨trivial, tabAt HT2.out HC2.out⟩ (fun HS => ?_)
              clear hK K
              refine held_take (i := 5) (d := 14) (v := .pointer (some ⟨b1, x1, none⟩)) rfl rfl (by kernel_rfl) (by kernel_rfl) (by kernel_rfl) (by kernel_rfl) (fun wx hS => by go_simp) HS ?_
              obtain ⟨p1, hp11, hp12⟩ := tab5 (m := 5) HT1.out (by decide) (x1 : Int) hqx10 (by show (x1 : Int) < 5; exact hqx11)
              rw [Int.toNat_natCast] at hp12
              have HZp1 := Lib.hid hp11
              have HC1 := Lib.hid hp12
              clear hp11 hp12
              refine held_mono (S' := (fun w' => ((True) ∧ w'.cell? ⟨b2, x2, none⟩ = some (.string p2)) ∧ w'.cell? ⟨b1, x1, none⟩ = some (.string p1))) (fun w' h => h.1) ?_
              have HS : (fun w' => ((True) ∧ w'.cell? ⟨b2, x2, none⟩ = some (.string p2)) ∧ w'.cell? ⟨b1, x1, none⟩ = some (.string p1)) v7 := ⟨HS, tabAt HT1.out HC1.out⟩
              refine held_take (i := 6) (d := 15) (v := .string p1) rfl rfl (by kernel_rfl) (by kernel_rfl) (by kernel_rfl) (by kernel_rfl) (fun wx hS => by have e0 := hS.2; go_simp) HS ?_
              refine held_take (i := 15) (d := 3) (v := .string p1) rfl rfl (by kernel_rfl) (by kernel_rfl) (by kernel_rfl) (by kernel_rfl) (fun wx hS => by go_simp) HS ?_
              refine held_take (i := 16) (d := 4) (v := .string p2) rfl rfl (by kernel_rfl) (by kernel_rfl) (by kernel_rfl) (by kernel_rfl) (fun wx hS => by go_simp) HS ?_
              refine held_take (i := 17) (d := 5) (v := .int .i64 z) rfl rfl (by kernel_rfl) (by kernel_rfl) (by kernel_rfl) (by kernel_rfl) (fun wx hS => by go_simp) HS ?_
              refine wpAnyH_done (by kernel_rfl) (NoPanic.normal ?_) _
              go_wp2
              have hbF := HF.out.r
              unfold Row at hbF
              exact bodyPost_ret (v := .tuple #[.agg #[.slice q1 n1 c1, .slice q2 n2 c2], .string p1, .string p2, .int .i64 z]) (by simp [results, Try.results13, go_sem, World.cell?, hbF]) rfl ⟨q1, n1, c1, q2, n2, c2, l, m, p1, p2, z, rfl, HF.out.s, HZp1.out, HF.out.b⟩
    · skip
      go_simp
      have HT1 := Lib.hid (Row.new v1 9 #[.string ⟨#[]⟩, .string ⟨#[97]⟩, .string ⟨#[97, 47]⟩, .string ⟨#[98, 47]⟩, .string ⟨#[122, 47]⟩])
      have HTL1 := Lib.hid (show w.heap.size + 1 < v1.heap.size from HD.out.rdr.lt)
      have HD := Lib.hid (HD.out.al (.cells #[.string ⟨#[]⟩, .string ⟨#[97]⟩, .string ⟨#[97, 47]⟩, .string ⟨#[98, 47]⟩, .string ⟨#[122, 47]⟩] 9))
      have HT2 := Lib.hid (HT2.out.alloc (.cells #[.string ⟨#[]⟩, .string ⟨#[97]⟩, .string ⟨#[97, 47]⟩, .string ⟨#[98, 47]⟩, .string ⟨#[122, 47]⟩] 9))
      obtain ⟨b1, hb⟩ : ∃ x, v1.heap.size = x := ⟨_, rfl⟩
      obtain ⟨v2, hv⟩ : ∃ x, v1.alloc (.cells #[.string ⟨#[]⟩, .string ⟨#[97]⟩, .string ⟨#[97, 47]⟩, .string ⟨#[98, 47]⟩, .string ⟨#[122, 47]⟩] 9) = x := ⟨_, rfl⟩
      rw [hb] at HT1 HTL1 ⊢
      rw [hv] at HD  HT1 HT2 ⊢
      clear hb hv
      refine hK.out _ _ trivial (fun HS => ?_)
      clear hK K
      refine wpAnyH_ready (rs := [1]) (by kernel_rfl) (by simp) (AllReadyH.cons rfl (fun K hK => ?_) AllReadyH.nil)
      go_simp
      refine (drawobjects_any _ _ _ _ _ HD.out.rdr).mono ?_
      rintro e v3 ⟨q1, n1, c1, q2, n2, c2, l, m, rfl, hw, hf1, hf2, hl, hm, hs, ho, hg⟩
      have HO := Lib.hid (show DO (w.heap.size + 1) q1 n1 c1 q2 n2 c2 l m v3 from ⟨own_low ho HD.out.rdr.lt, own_low hg HD.out.rdr.lt, hl, hm, hf1, hf2, hs⟩)
      clear ho hg hl hm hf1 hf2 hs
      have HD := Lib.hid (HD.out.step hw)
      have HT1 := Lib.hid (HT1.out.grown hw.grown (by intro e; injection e with e; have := HTL1.out; omega))
      have HT2 := Lib.hid (HT2.out.grown hw.grown (by intro e; injection e with e; have := HTL2.out; omega))
      clear hw
      refine hK.out _ _ trivial (fun HS => ?_)
      clear hK K
      refine wpAnyH_ready (rs := [4]) (by kernel_rfl) (by simp) (AllReadyH.cons rfl (fun K hK => ?_) AllReadyH.nil)
      go_simp
      refine (below_any _ _ _ _ _ _ HD.out.rdr (by decide) (by decide)).mono ?_
      rintro e v4 ⟨⟨x, hx1, hx2, rfl⟩, hw⟩
      obtain ⟨x1, rfl⟩ : ∃ k : Nat, x = k := ⟨x.toNat, by omega⟩
      have hqx10 : (0 : Int) ≤ (x1 : Int) := by omega
      have hqx11 : (x1 : Int) < 5 := by omega
      clear hx1 hx2
      have HD := Lib.hid (HD.out.step hw)
      have HO := Lib.hid (HO.out.step hw)
      have HT1 := Lib.hid (HT1.out.grown hw.grown (by intro e; injection e with e; have := HTL1.out; omega))
      have HT2 := Lib.hid (HT2.out.grown hw.grown (by intro e; injection e with e; have := HTL2.out; omega))
      clear hw
      refine hK.out _ _ trivial (fun HS => ?_)
      clear hK K
      refine held_take (i := 5) (d := 14) (v := .pointer (some ⟨b1, x1, none⟩)) rfl rfl (by kernel_rfl) (by kernel_rfl) (by kernel_rfl) (by kernel_rfl) (fun wx hS => by go_simp) HS ?_
      obtain ⟨p1, hp11, hp12⟩ := tab5 (m := 5) HT1.out (by decide) (x1 : Int) hqx10 (by show (x1 : Int) < 5; exact hqx11)
      rw [Int.toNat_natCast] at hp12
      have HZp1 := Lib.hid hp11
      have HC1 := Lib.hid hp12
      clear hp11 hp12
      refine held_mono (S' := (fun w' => (True) ∧ w'.cell? ⟨b1, x1, none⟩ = some (.string p1))) (fun w' h => h.1) ?_
      have HS : (fun w' => (True) ∧ w'.cell? ⟨b1, x1, none⟩ = some (.string p1)) v4 := ⟨HS, tabAt HT1.out HC1.out⟩
      refine held_take (i := 6) (d := 15) (v := .string p1) rfl rfl (by kernel_rfl) (by kernel_rfl) (by kernel_rfl) (by kernel_rfl) (fun wx hS => by have e0 := hS.2; go_simp) HS ?_
      refine wpAnyH_ready (rs := [9]) (by kernel_rfl) (by simp) (AllReadyH.cons rfl (fun K hK => ?_) AllReadyH.nil)
      go_simp
      refine (below_any _ _ _ _ _ _ HD.out.rdr (by decide) (by decide)).mono ?_
      rintro e v5 ⟨⟨x, hx1, hx2, rfl⟩, hw⟩
      obtain ⟨x2, rfl⟩ : ∃ k : Nat, x = k := ⟨x.toNat, by omega⟩
      have hqx20 : (0 : Int) ≤ (x2 : Int) := by omega
      have hqx21 : (x2 : Int) < 5 := by omega
      clear hx1 hx2
      have HD := Lib.hid (HD.out.step hw)
      have HO := Lib.hid (HO.out.step hw)
      have HT1 := Lib.hid (HT1.out.grown hw.grown (by intro e; injection e with e; have := HTL1.out; omega))
      have HT2 := Lib.hid (HT2.out.grown hw.grown (by intro e; injection e with e; have := HTL2.out; omega))
      clear hw
      refine hK.out _ _ ⟨trivial, tabAt HT1.out HC1.out⟩ (fun HS => ?_)
      clear hK K
      refine held_take (i := 10) (d := 19) (v := .pointer (some ⟨b2, x2, none⟩)) rfl rfl (by kernel_rfl) (by kernel_rfl) (by kernel_rfl) (by kernel_rfl) (fun wx hS => by go_simp) HS ?_
      obtain ⟨p2, hp21, hp22⟩ := tab5 (m := 5) HT2.out (by decide) (x2 : Int) hqx20 (by show (x2 : Int) < 5; exact hqx21)
      rw [Int.toNat_natCast] at hp22
      have HZp2 := Lib.hid hp21
      have HC2 := Lib.hid hp22
      clear hp21 hp22
      refine held_mono (S' := (fun w' => ((True) ∧ w'.cell? ⟨b1, x1, none⟩ = some (.string p1)) ∧ w'.cell? ⟨b2, x2, none⟩ = some (.string p2))) (fun w' h => h.1) ?_
      have HS : (fun w' => ((True) ∧ w'.cell? ⟨b1, x1, none⟩ = some (.string p1)) ∧ w'.cell? ⟨b2, x2, none⟩ = some (.string p2)) v5 := ⟨HS, tabAt HT2.out HC2.out⟩
      refine held_take (i := 11) (d := 20) (v := .string p2) rfl rfl (by kernel_rfl) (by kernel_rfl) (by kernel_rfl) (by kernel_rfl) (fun wx hS => by have e0 := hS.2; go_simp) HS ?_
      refine wpAnyH_ready (rs := [13]) (by kernel_rfl) (by simp) (AllReadyH.cons rfl (fun K hK => ?_) AllReadyH.nil)
      go_simp
      refine (off_any _ _ _ _ _ _ _ HD.out.rdr (by decide) (by decide) (by decide)).mono ?_
      rintro e v6 ⟨⟨z, hz, rfl⟩, hw⟩
      clear hz
      have HD := Lib.hid (HD.out.step hw)
      have HO := Lib.hid (HO.out.step hw)
      have HT1 := Lib.hid (HT1.out.grown hw.grown (by intro e; injection e with e; have := HTL1.out; omega))
      have HT2 := Lib.hid (HT2.out.grown hw.grown (by intro e; injection e with e; have := HTL2.out; omega))
      clear hw
      refine hK.out _ _ ⟨⟨trivial, tabAt HT1.out HC1.out⟩, tabAt HT2.out HC2.out⟩ (fun HS => ?_)
      clear hK K
      refine wpAnyH_ready (rs := [14]) (by kernel_rfl) (by simp) (AllReadyH.cons rfl (fun K hK => ?_) AllReadyH.nil)
      have r0 := HD.out.res.cell (j := 0) (by simp)
      have r1 := HD.out.res.cell (j := 1) (by simp)
      have f0 := HD.out.res.free 0
      have f1 := HD.out.res.free 1
      simp at r0 r1
      go_simp
      have HF := Lib.hid (HD.out.fin HO.out)
      have HT1 := Lib.hid ((HT1.out.other (r := w.heap.size) (by have := HTL1.out; omega) 0 (.slice q1 n1 c1)).other (r := w.heap.size) (by have := HTL1.out; omega) 1 (.slice q2 n2 c2))
      have HT2 := Lib.hid ((HT2.out.other (r := w.heap.size) (by have := HTL2.out; omega) 0 (.slice q1 n1 c1)).other (r := w.heap.size) (by have := HTL2.out; omega) 1 (.slice q2 n2 c2))
      obtain ⟨v7, hv⟩ : ∃ x, (v6.setCell ⟨w.heap.size, 0, none⟩ (.slice q1 n1 c1)).setCell ⟨w.heap.size, 1, none⟩ (.slice q2 n2 c2) = x := ⟨_, rfl⟩
      rw [hv] at HF HT1 HT2 ⊢
      clear hv
      refine hK.out _ _ ⟨⟨trivial, tabAt HT1.out HC1.out⟩, tabAt HT2.out HC2.out⟩ (fun HS => ?_)
      clear hK K
      clear r0 r1 f0 f1
      refine held_take (i := 15) (d := 3) (v := .string p1) rfl rfl (by kernel_rfl) (by kernel_rfl) (by kernel_rfl) (by kernel_rfl) (fun wx hS => by go_simp) HS ?_
      refine held_take (i := 16) (d := 4) (v := .string p2) rfl rfl (by kernel_rfl) (by kernel_rfl) (by kernel_rfl) (by kernel_rfl) (fun wx hS => by go_simp) HS ?_
      refine held_take (i := 17) (d := 5) (v := .int .i64 z) rfl rfl (by kernel_rfl) (by kernel_rfl) (by kernel_rfl) (by kernel_rfl) (fun wx hS => by go_simp) HS ?_
      refine wpAnyH_done (by kernel_rfl) (NoPanic.normal ?_) _
      go_wp2
      have hbF := HF.out.r
      unfold Row at hbF
      exact bodyPost_ret (v := .tuple #[.agg #[.slice q1 n1 c1, .slice q2 n2 c2], .string p1, .string p2, .int .i64 z]) (by simp [results, Try.results13, go_sem, World.cell?, hbF]) rfl ⟨q1, n1, c1, q2, n2, c2, l, m, p1, p2, z, rfl, HF.out.s, HZp1.out, HF.out.b⟩
end Go.Proofs.Ytblpebdjbenphaa
