
/- Drawn stores: what drawn commands come to, or that with one object or gone one more, many more, or another version. -/
import Derived.Test.YtblpebdjbenphaaDrawCs
import Derived.Test.YtblpebdjbenphaaDec
import Derived.Test.YtblpebdjbenphaaCat
import Derived.Test.YtblpebdjbenphaaMg5
namespace Go.Proofs.Ytblpebdjbenphaa
open Go.ChangeShapes Go.WideShapes Go.ChangeAt Go.RowKit
set_option linter.unusedVariables false
set_option maxRecDepth 100000

theorem step_append1_obj {ops : Array Oper} {o : Oper} {a : Act} {K : Act → World → Prop} {Q : Exit → Act → World → Prop} {Ee : Prop} {w : World} (hg : o.guard = none) (s x : Operand)
    (ho : o.op = .call { callee := .builtin .append, args := #[s, x], argTypes := #[24, 24] })
    (base : Nat) (v : Value) (n : Nat) (W : Objs) (hs : a.eval s = v) (hown : w.ownsRow base 31 3 v n (cellsObj W))
    (B c : Nat) (x0 : ByteArray) (x1 : Int) (x2 : ByteArray) (hx : a.eval x = .slice (some ⟨B, 0, none⟩) 1 c) (hrow : ∀ j u, [Value.string x0, Value.int .i64 x1, Value.string x2][j]? = some u → w.cell? ((⟨B, 0, none⟩ : Addr).add j) = some u) (h6 : n + 1 ≤ 2097152) (hbase : base ≤ w.heap.size)
    (h : ∀ q' c' w', w'.ownsRow base 31 3 (.slice q' (n + 1) c') (n + 1) (cellsObj (W ++ [(x0, x1, x2)])) → w.grownBy w' v.ownBlock → K (a.put o.dst (.slice q' (n + 1) c')) w') :
    if Region.wanted o (yielded ops a.tmps) = true then Oper.wp Try.prog o a w K Q else Ee := by
  have hw : Region.wanted o (yielded ops a.tmps) = true := by simp [Region.wanted, hg]
  rw [if_pos hw]
  exact wp_append1_obj s x ho base v n W hs hown B c x0 x1 x2 hx hrow h6 hbase h
theorem step_append1_gone {ops : Array Oper} {o : Oper} {a : Act} {K : Act → World → Prop} {Q : Exit → Act → World → Prop} {Ee : Prop} {w : World} (hg : o.guard = none) (s x : Operand)
    (ho : o.op = .call { callee := .builtin .append, args := #[s, x], argTypes := #[25, 25] })
    (base : Nat) (v : Value) (n : Nat) (W : Gones) (hs : a.eval s = v) (hown : w.ownsRow base 45 2 v n (cellsGone W))
    (B c : Nat) (x0 : ByteArray) (x1 : Int) (hx : a.eval x = .slice (some ⟨B, 0, none⟩) 1 c) (hrow : ∀ j u, [Value.string x0, Value.int .i64 x1][j]? = some u → w.cell? ((⟨B, 0, none⟩ : Addr).add j) = some u) (h6 : n + 1 ≤ 2097152) (hbase : base ≤ w.heap.size)
    (h : ∀ q' c' w', w'.ownsRow base 45 2 (.slice q' (n + 1) c') (n + 1) (cellsGone (W ++ [(x0, x1)])) → w.grownBy w' v.ownBlock → K (a.put o.dst (.slice q' (n + 1) c')) w') :
    if Region.wanted o (yielded ops a.tmps) = true then Oper.wp Try.prog o a w K Q else Ee := by
  have hw : Region.wanted o (yielded ops a.tmps) = true := by simp [Region.wanted, hg]
  rw [if_pos hw]
  exact wp_append1_gone s x ho base v n W hs hown B c x0 x1 hx hrow h6 hbase h

/-- What the walk holds: the reader, the result's place, the store's variable, its two rows. -/
structure OS (w : World) (r : Nat) (a : Option Addr) (len cap : Nat) (S : Nat) (q1 : Option Addr) (n1 c1 : Nat) (q2 : Option Addr) (n2 c2 : Nat) (l : Objs) (m : Gones) (wr : World) : Prop where
  went : Went w r a len cap wr
  res : Row wr w.heap.size 27 #[.slice none 0 0, .slice none 0 0]
  now : Row wr S 27 #[.slice q1 n1 c1, .slice q2 n2 c2]
  far : w.heap.size < S
  o : wr.ownsRow (w.heap.size + 1) 31 3 (.slice q1 n1 c1) n1 (cellsObj l)
  g : wr.ownsRow (w.heap.size + 1) 45 2 (.slice q2 n2 c2) n2 (cellsGone m)
  len1 : l.length = n1
  len2 : m.length = n2
section
variable {w : World} {r : Nat} {a : Option Addr} {len cap S : Nat} {q1 : Option Addr} {n1 c1 : Nat} {q2 : Option Addr} {n2 c2 : Nat} {l : Objs} {m : Gones} {wr : World}
theorem OS.step {w2 : World} (h : OS w r a len cap S q1 n1 c1 q2 n2 c2 l m wr) (hr : r < w.heap.size) (hw : Went wr r a len cap w2) : OS w r a len cap S q1 n1 c1 q2 n2 c2 l m w2 :=
  ⟨h.went.trans hw, h.res.grown hw.grown (by intro e; injection e with e; omega), h.now.grown hw.grown (by intro e; injection e with e; have := h.far; omega), h.far, own_went h.o hw (by omega), own_went h.g hw (by omega), h.len1, h.len2⟩
theorem OS.keep {w2 : World} (h : OS w r a len cap S q1 n1 c1 q2 n2 c2 l m wr) (hr : r < w.heap.size) (hB : Below wr.heap.size wr w2) : OS w r a len cap S q1 n1 c1 q2 n2 c2 l m w2 :=
  ⟨went_on h.went hr hB, h.res.keep hB, h.now.keep hB, h.far, own_below h.o hB, own_below h.g hB, h.len1, h.len2⟩
theorem OS.addO {w2 : World} {q' : Option Addr} {c' : Nat} {x0 : ByteArray} {x1 : Int} {x2 : ByteArray} (h : OS w r a len cap S q1 n1 c1 q2 n2 c2 l m wr) (hr : r < w.heap.size) (hg : wr.grownBy w2 (Value.slice q1 n1 c1).ownBlock) (ho : w2.ownsRow (w.heap.size + 1) 31 3 (.slice q' (n1 + 1) c') (n1 + 1) (cellsObj (l ++ [(x0, x1, x2)]))) :
    OS w r a len cap S q' (n1 + 1) c' q2 n2 c2 (l ++ [(x0, x1, x2)]) m (w2.setCell ⟨S, 0, none⟩ (.slice q' (n1 + 1) c')) := by
  have hge := own_ge_of h.o (Nat.le_refl _)
  have hnow := row_grownT h.now h.o (by decide) hg
  have hgo := own_grown h.g hg (fun g hb he => own_apartT h.g h.o (by decide) g hb he)
  refine ⟨went_set (h.went.more hg hr (fun k hk => by have := hge k hk; omega)) hr (by have := h.far; omega) 0 _, ?_, hnow.set 0 _, h.far, own_put ho (own_ne_row ho hnow (by decide)) 0 _, own_put hgo (own_ne_row hgo hnow (by decide)) 0 _, by simp [h.len1], h.len2⟩
  exact (row_grownT h.res h.o (by decide) hg).other (by have := h.far; omega) 0 _
theorem OS.addG {w2 : World} {q' : Option Addr} {c' : Nat} {x0 : ByteArray} {x1 : Int} (h : OS w r a len cap S q1 n1 c1 q2 n2 c2 l m wr) (hr : r < w.heap.size) (hg : wr.grownBy w2 (Value.slice q2 n2 c2).ownBlock) (ho : w2.ownsRow (w.heap.size + 1) 45 2 (.slice q' (n2 + 1) c') (n2 + 1) (cellsGone (m ++ [(x0, x1)]))) :
    OS w r a len cap S q1 n1 c1 q' (n2 + 1) c' l (m ++ [(x0, x1)]) (w2.setCell ⟨S, 1, none⟩ (.slice q' (n2 + 1) c')) := by
  have hge := own_ge_of h.g (Nat.le_refl _)
  have hnow := row_grownT h.now h.g (by decide) hg
  have hgo := own_grown h.o hg (fun g hb he => own_apartT h.o h.g (by decide) g hb he)
  refine ⟨went_set (h.went.more hg hr (fun k hk => by have := hge k hk; omega)) hr (by have := h.far; omega) 1 _, ?_, hnow.set 1 _, h.far, own_put hgo (own_ne_row hgo hnow (by decide)) 1 _, own_put ho (own_ne_row ho hnow (by decide)) 1 _, h.len1, by simp [h.len2]⟩
  exact (row_grownT h.res h.g (by decide) hg).other (by have := h.far; omega) 1 _
end
theorem os_head {w : World} {r : Nat} {a : Option Addr} {len cap S : Nat} {q1 : Option Addr} {n1 c1 : Nat} {q2 : Option Addr} {n2 c2 : Nat} {l l' : Objs} {m : Gones} {wr : World} {g : Nat} {v : Value} (h : OS w r a len cap S q1 n1 c1 q2 n2 c2 l m wr) (hr : r < w.heap.size) (hq : q1 = some ⟨g, 0, none⟩) (ho : (wr.setCell ⟨g, 1, none⟩ v).ownsRow (w.heap.size + 1) 31 3 (.slice q1 n1 c1) n1 (cellsObj l')) (hl : l'.length = n1) :
    OS w r a len cap S q1 n1 c1 q2 n2 c2 l' m (wr.setCell ⟨g, 1, none⟩ v) := by
  subst hq
  have hb := (h.o.lt g rfl).1
  have hne := own_ne_row h.o h.now (by decide) g rfl
  refine ⟨went_set h.went hr (by omega) 1 _, h.res.other (by omega) 1 _, h.now.other hne 1 _, h.far, ho, own_put h.g (fun g' hg' he => ?_) 1 _, hl, h.len2⟩
  subst he
  exact own_apartT h.o h.g (by decide) g rfl hg'
def ShortS (l : Objs) (m : Gones) : Prop := (∀ x ∈ l, x.1.size ≤ 41 ∧ x.2.2.size ≤ 30001) ∧ ∀ x ∈ m, x.1.size ≤ 41
theorem ShortS.addO {l : Objs} {m : Gones} (h : ShortS l m) {x0 : ByteArray} {x1 : Int} {x2 : ByteArray} (h0 : x0.size ≤ 41) (h2 : x2.size ≤ 30001) : ShortS (l ++ [(x0, x1, x2)]) m := by
  refine ⟨fun x hx => ?_, h.2⟩
  rcases List.mem_append.1 hx with hx | hx
  · exact h.1 x hx
  · simp at hx; subst hx; exact ⟨h0, h2⟩
theorem ShortS.addG {l : Objs} {m : Gones} (h : ShortS l m) {x0 : ByteArray} {x1 : Int} (h0 : x0.size ≤ 41) : ShortS l (m ++ [(x0, x1)]) := by
  refine ⟨h.1, fun x hx => ?_⟩
  rcases List.mem_append.1 hx with hx | hx
  · exact h.2 x hx
  · simp at hx; subst hx; exact h0
theorem short_ep {E : Els} (h : EP E) : ShortS (objsOf E) (gonsOf E) := by
  refine ⟨fun x hx => ?_, fun x hx => ?_⟩
  · obtain ⟨h1, _, h3, _⟩ := h.ok _ (objs_of_mem hx)
    have := key_len h1
    exact ⟨by simp only at this; omega, by simp only at h3; omega⟩
  · obtain ⟨d, hd⟩ := gons_of_mem hx
    obtain ⟨h1, _⟩ := h.ok _ hd
    have := key_len h1
    simp only at this; omega
/-- A drawn store: two rows of the call's own. -/
def RdSto (w : World) (r : Nat) (a : Option Addr) (len cap : Nat) (e : Ending) (w' : World) : Prop :=
  ∃ (q1 : Option Addr) (n1 c1 : Nat) (q2 : Option Addr) (n2 c2 : Nat) (l : Objs) (m : Gones), e = .returned (.agg #[.slice q1 n1 c1, .slice q2 n2 c2]) ∧ Went w r a len cap w' ∧ n1 ≤ 2000 ∧ n2 ≤ 2000 ∧ l.length = n1 ∧ m.length = n2 ∧ ShortS l m ∧
    w'.ownsRow w.heap.size 31 3 (.slice q1 n1 c1) n1 (cellsObj l) ∧ w'.ownsRow w.heap.size 45 2 (.slice q2 n2 c2) n2 (cellsGone m)
theorem OS.fin {w : World} {r : Nat} {a : Option Addr} {len cap S : Nat} {q1 : Option Addr} {n1 c1 : Nat} {q2 : Option Addr} {n2 c2 : Nat} {l : Objs} {m : Gones} {wr : World} (h : OS w r a len cap S q1 n1 c1 q2 n2 c2 l m wr) (hr : r < w.heap.size) (h1 : n1 ≤ 2000) (h2 : n2 ≤ 2000) (hs : ShortS l m) :
    RdSto w r a len cap (.returned (.agg #[.slice q1 n1 c1, .slice q2 n2 c2])) ((wr.setCell ⟨w.heap.size, 0, none⟩ (.slice q1 n1 c1)).setCell ⟨w.heap.size, 1, none⟩ (.slice q2 n2 c2)) := by
  have e1 : ∀ g, (Value.slice q1 n1 c1).ownBlock = some g → w.heap.size ≠ g := fun g hg => by have := (h.o.lt g hg).1; omega
  have e2 : ∀ g, (Value.slice q2 n2 c2).ownBlock = some g → w.heap.size ≠ g := fun g hg => by have := (h.g.lt g hg).1; omega
  exact ⟨q1, n1, c1, q2, n2, c2, l, m, rfl, went_set (went_set h.went hr (Nat.le_refl _) 0 _) hr (Nat.le_refl _) 1 _, h1, h2, h.len1, h.len2, hs, own_low (own_put (own_put h.o e1 0 _) e1 1 _) (by omega), own_low (own_put (own_put h.g e2 0 _) e2 1 _) (by omega)⟩

theorem cmds_of_drawn {base k : Nat} {w : World} {q : Option Addr} {cc : Nat} {L : Cmds} (h : w.ownsRow base 57 4 (.slice q k cc) k (cellsCmd L)) (hl : L.length = k) (hs : ShortC L) (hk : k ≤ 1000) : CmdsAt w q k L := by
  subst hl
  refine cmds_of_k (cmdk_of_own h) rfl (by unfold maxLen; omega) (fun i hi => ?_)
  unfold cmd1 cmd3
  rw [List.getD_eq_getElem?_getD, List.getElem?_eq_getElem hi]
  have := hs _ (List.getElem_mem hi)
  simp only [Option.getD_some]
  unfold maxLen; omega

theorem obj_head {w : World} {base n c : Nat} {q : Option Addr} {l : Objs} (h : w.ownsRow base 31 3 (.slice q n c) n (cellsObj l)) (hn : 0 < n) (hl : l.length = n) : ∃ g, q = some ⟨g, 0, none⟩ ∧ base ≤ g ∧ g < w.heap.size ∧ (∃ v, w.cell? ⟨g, 1, none⟩ = some v) ∧ w.frozen? ⟨g, 1, none⟩ = false ∧ ∀ v : Int, ∃ l', l'.length = n ∧ (ShortS l [] → ShortS l' []) ∧ (w.setCell ⟨g, 1, none⟩ (.int .i64 v)).ownsRow base 31 3 (.slice q n c) n (cellsObj l') := by
  obtain ⟨g, cur, rfl, _, hb, hr, hc1, hc2, hcs, hct⟩ := own_rowObj h hn
  have h3 : 1 < cur.size := by omega
  refine ⟨g, rfl, hb, hr.lt, ⟨_, hr.cell h3⟩, hr.free 1, fun v => ?_⟩
  cases l with
  | nil => simp at hl; omega
  | cons x t =>
    refine ⟨(x.1, v, x.2.2) :: t, by simpa using hl, fun hs => ⟨fun y hy => ?_, hs.2⟩, h.1 ▸ ?_, .inr ⟨g, c, cur.setIfInBounds 1 (.int .i64 v), rfl, hb, hr.set 1 _, hc1, hc2, by simpa using hcs, ?_⟩⟩
    · rcases List.mem_cons.1 hy with rfl | hy
      · exact hs.1 x (List.mem_cons_self ..)
      · exact hs.1 y (List.mem_cons_of_mem _ hy)
    · simp [cellsObj]
    · have e : (cur.setIfInBounds 1 (Value.int .i64 v)).toList = cur.toList.set 1 (.int .i64 v) := by simp
      rw [e, List.take_set, hct]
      simp [cellsObj]

set_option maxHeartbeats 8000000 in
theorem drawobjects_any (w : World) (r : Nat) (a : Option Addr) (len cap : Nat) (h : Rdr w r a len cap) :
    Calls Try.prog 21 #[.pointer (some ⟨r, 0, none⟩)] w (RdSto w r a len cap) := by
  have HR := Lib.hid h.lt
  have HRS := Lib.hid (Row.new w 27 #[.slice none 0 0, .slice none 0 0])
  have HW := Lib.hid ((Went.refl h).alloc (.cells #[.slice none 0 0, .slice none 0 0] 27))
  clear h
  go_enter Try.func21, Try.ntmps21
  go_wp2_with fail
  refine (drawcmds_any _ _ _ _ _ _ HW.out.rdr (by decide) (by decide)).mono ?_
  rintro e w1 ⟨qL, k, cc, L, hk, rfl, hL, hSh, hown, hw⟩
  have HRS := Lib.hid (HRS.out.grown hw.grown (by intro e; injection e with e; have := HR.out; omega))
  have HW1 := Lib.hid (show w.heap.size + 1 ≤ w1.heap.size from HRS.out.lt)
  have HW := Lib.hid (HW.out.trans hw)
  have HLC := Lib.hid (cmds_of_drawn hown hL hSh (by omega))
  clear hw hown hSh
  have hk2 : k ≤ 16 := by omega
  go_wp2_with fail
  refine (splayedO_any qL k cc L _ HLC.out (by omega)).mono ?_
  rintro e w2 ⟨q1, n1, c1, q2, n2, c2, qc, nc, ec, rfl, hB, hK, _, _, ho, hg⟩
  obtain ⟨E, hE⟩ : ∃ E, (playE L k).1 = E := ⟨_, rfl⟩
  have HEP := Lib.hid (show EP E by rw [← hE]; exact playE_ep L k)
  rw [hE] at hK ho hg
  have HRS := Lib.hid (HRS.out.keep hB)
  have HBS := Lib.hid (show w.heap.size + 1 ≤ w1.heap.size from HW1.out)
  have HOS : Hid (OS w r a len cap w2.heap.size q1 n1 c1 q2 n2 c2 (objsOf E) (gonsOf E) (w2.alloc (.cells #[.slice q1 n1 c1, .slice q2 n2 c2] 27))) := by
    have hb2 := below_alloc (Below.refl w2.heap.size w2) (.cells #[.slice q1 n1 c1, .slice q2 n2 c2] 27)
    exact Lib.hid ⟨(went_on HW.out HR.out hB).alloc _, HRS.out.alloc _, Row.new _ _ _, HRS.out.lt, own_below (own_low ho HBS.out) hb2, own_below (own_low hg HBS.out) hb2, hK.len1, hK.len2⟩
  have HSH := Lib.hid (short_ep HEP.out)
  have hf1 : n1 + n2 ≤ 1100 := by have := (stop_of_ep HEP.out).few; have := hK.len1; have := hK.len2; omega
  obtain ⟨l, hl⟩ : ∃ l, objsOf E = l := ⟨_, rfl⟩
  obtain ⟨m, hm⟩ : ∃ m, gonsOf E = m := ⟨_, rfl⟩
  rw [hl, hm] at HOS HSH
  clear hB hK ho hg hl hm hE HRS HW HBS HLC
  obtain ⟨S, hS⟩ : ∃ S, w2.heap.size = S := ⟨_, rfl⟩
  obtain ⟨w3, hw3⟩ : ∃ x, w2.alloc (.cells #[.slice q1 n1 c1, .slice q2 n2 c2] 27) = x := ⟨_, rfl⟩
  rw [hS, hw3] at HOS
  go_wp2_with fail
  clear hS hw3
  refine (below_any _ _ _ _ _ _ HOS.out.went.rdr (by decide) (by decide)).mono ?_
  rintro e w4 ⟨⟨x, hx1, hx2, rfl⟩, hw⟩
  have HS1 := Lib.hid (HOS.out.step HR.out hw)
  clear hw HOS
  by_cases e0 : x = 0
  · subst e0
    go_wp2_with fail
    refine wp_region_noPanic ?_
    refine wp_region_held_drew (S := (fun _ => True)) (by kernel_rfl) trivial (fun HS => ?_)
    have HS1 := Lib.hid (HS1.out.keep HR.out (below_drewN (Below.refl _ _) 1))
    obtain ⟨v0, hv0⟩ : ∃ x, w4.drew = x := ⟨_, rfl⟩
    have HS1 : Hid (OS w r a len cap S q1 n1 c1 q2 n2 c2 l m v0) := (by rw [← hv0]; exact HS1)
    rw [hv0]
    clear hv0
    refine held_take (i := 0) (d := 16) (v := .pointer (some ⟨S, 0, none⟩)) rfl rfl (by kernel_rfl) (by kernel_rfl) (by kernel_rfl) (by kernel_rfl) (fun wx hS => by go_simp) HS ?_
    refine held_take (i := 2) (d := 18) (v := .pointer (some ⟨r, 0, none⟩)) rfl rfl (by kernel_rfl) (by kernel_rfl) (by kernel_rfl) (by kernel_rfl) (fun wx hS => by go_simp) HS ?_
    refine wpAnyH_ready (rs := [1, 3]) (by kernel_rfl) (by simp) (AllReadyH.cons rfl (fun K hK => ?_) (AllReadyH.cons rfl (fun K hK => ?_) AllReadyH.nil))
    · skip
      have k0 := HS1.out.now.cell (j := 0) (by simp)
      simp at k0
      go_simp
      refine hK.out _ _ trivial (fun HS => ?_)
      clear hK K k0
      refine wpAnyH_ready (rs := [3]) (by kernel_rfl) (by simp) (AllReadyH.cons rfl (fun K hK => ?_) AllReadyH.nil)
      go_simp
      refine (name_any _ _ _ _ _ HS1.out.went.rdr).mono ?_
      rintro e v1 ⟨⟨b, hb, rfl⟩, hw⟩
      have HNB := Lib.hid (show b.size ≤ 41 by omega)
      have HS1 := Lib.hid (HS1.out.step HR.out hw)
      clear hw hb
      refine hK.out _ _ trivial (fun HS => ?_)
      clear hK K
      refine held_take (i := 4) (d := 20) (v := .agg #[.string b, .int .i64 1, .string ⟨#[]⟩]) rfl rfl (by kernel_rfl) (by kernel_rfl) (by kernel_rfl) (by kernel_rfl) (fun wx hS => by go_simp) HS ?_
      refine wpAnyH_ready (rs := [5]) (by kernel_rfl) (by simp) (AllReadyH.cons rfl (fun K hK => ?_) AllReadyH.nil)
      go_simp
      have HC := Lib.hid (Row.new v1 31 #[.string b, .int .i64 1, .string ⟨#[]⟩])
      have HS1 := Lib.hid (HS1.out.keep HR.out (below_alloc (Below.refl _ _) (.cells #[.string b, .int .i64 1, .string ⟨#[]⟩] 31)))
      obtain ⟨C, hC⟩ : ∃ x, v1.heap.size = x := ⟨_, rfl⟩
      obtain ⟨v2, hv⟩ : ∃ x, v1.alloc (.cells #[.string b, .int .i64 1, .string ⟨#[]⟩] 31) = x := ⟨_, rfl⟩
      rw [hC] at HC ⊢
      rw [hv] at HC HS1 ⊢
      clear hC hv
      refine hK.out _ _ trivial (fun HS => ?_)
      clear hK K
      refine wpAnyH_ready (rs := [6]) (by kernel_rfl) (by simp) (AllReadyH.cons rfl (fun K hK => ?_) AllReadyH.nil)
      refine step_append1_obj rfl _ _ rfl (w.heap.size + 1) (.slice q1 n1 c1) n1 l rfl HS1.out.o C _ b 1 ⟨#[]⟩ rfl (obj_at_row b 1 ⟨#[]⟩ HC.out) (by omega) (Nat.le_trans (Nat.succ_le_of_lt HS1.out.far) (Nat.le_of_lt HS1.out.now.lt)) ?_
      intro q8 c8 v3 hown hgrow
      have hnow := row_grownT HS1.out.now HS1.out.o (by decide) hgrow
      have HS2 := Lib.hid (HS1.out.addO HR.out hgrow hown)
      have HNW := Lib.hid hnow
      clear hown hgrow hnow HC
      refine hK.out _ _ trivial (fun HS => ?_)
      clear hK K
      refine held_take (i := 7) (d := 23) (v := .pointer (some ⟨S, 0, none⟩)) rfl rfl (by kernel_rfl) (by kernel_rfl) (by kernel_rfl) (by kernel_rfl) (fun wx hS => by go_simp) HS ?_
      refine wpAnyH_ready (rs := [8]) (by kernel_rfl) (by simp) (AllReadyH.cons rfl (fun K hK => ?_) AllReadyH.nil)
      have s0 := HNW.out.cell (j := 0) (by simp)
      simp at s0
      have sf := HNW.out.free 0
      go_simp
      refine hK.out _ _ trivial (fun HS => ?_)
      clear hK K s0 sf HNW HS1
      refine wpAnyH_done (by kernel_rfl) (NoPanic.normal ?_) _
      have k0 := HS2.out.now.cell (j := 0) (by simp)
      have k1 := HS2.out.now.cell (j := 1) (by simp)
      have y0 := HS2.out.res.cell (j := 0) (by simp)
      have y1 := HS2.out.res.cell (j := 1) (by simp)
      have f0 := HS2.out.res.free 0
      have f1 := HS2.out.res.free 1
      simp at k0 k1 y0 y1
      go_wp2
      have hbF := (HS2.out.res.set 0 (.slice q8 (n1 + 1) c8)).set 1 (.slice q2 n2 c2)
      unfold Row at hbF
      exact bodyPost_ret (v := .agg #[.slice q8 (n1 + 1) c8, .slice q2 n2 c2]) (by simp [results, Try.results21, go_sem, World.cell?, hbF]) rfl (HS2.out.fin HR.out (by omega) (by omega) (HSH.out.addO HNB.out (by decide)))
    · skip
      go_simp
      refine (name_any _ _ _ _ _ HS1.out.went.rdr).mono ?_
      rintro e v1 ⟨⟨b, hb, rfl⟩, hw⟩
      have HNB := Lib.hid (show b.size ≤ 41 by omega)
      have HS1 := Lib.hid (HS1.out.step HR.out hw)
      clear hw hb
      refine hK.out _ _ trivial (fun HS => ?_)
      clear hK K
      refine held_take (i := 4) (d := 20) (v := .agg #[.string b, .int .i64 1, .string ⟨#[]⟩]) rfl rfl (by kernel_rfl) (by kernel_rfl) (by kernel_rfl) (by kernel_rfl) (fun wx hS => by go_simp) HS ?_
      refine wpAnyH_ready (rs := [1, 5]) (by kernel_rfl) (by simp) (AllReadyH.cons rfl (fun K hK => ?_) (AllReadyH.cons rfl (fun K hK => ?_) AllReadyH.nil))
      · skip
        have k0 := HS1.out.now.cell (j := 0) (by simp)
        simp at k0
        go_simp
        refine hK.out _ _ trivial (fun HS => ?_)
        clear hK K k0
        refine wpAnyH_ready (rs := [5]) (by kernel_rfl) (by simp) (AllReadyH.cons rfl (fun K hK => ?_) AllReadyH.nil)
        go_simp
        have HC := Lib.hid (Row.new v1 31 #[.string b, .int .i64 1, .string ⟨#[]⟩])
        have HS1 := Lib.hid (HS1.out.keep HR.out (below_alloc (Below.refl _ _) (.cells #[.string b, .int .i64 1, .string ⟨#[]⟩] 31)))
        obtain ⟨C, hC⟩ : ∃ x, v1.heap.size = x := ⟨_, rfl⟩
        obtain ⟨v2, hv⟩ : ∃ x, v1.alloc (.cells #[.string b, .int .i64 1, .string ⟨#[]⟩] 31) = x := ⟨_, rfl⟩
        rw [hC] at HC ⊢
        rw [hv] at HC HS1 ⊢
        clear hC hv
        refine hK.out _ _ trivial (fun HS => ?_)
        clear hK K
        refine wpAnyH_ready (rs := [6]) (by kernel_rfl) (by simp) (AllReadyH.cons rfl (fun K hK => ?_) AllReadyH.nil)
        refine step_append1_obj rfl _ _ rfl (w.heap.size + 1) (.slice q1 n1 c1) n1 l rfl HS1.out.o C _ b 1 ⟨#[]⟩ rfl (obj_at_row b 1 ⟨#[]⟩ HC.out) (by omega) (Nat.le_trans (Nat.succ_le_of_lt HS1.out.far) (Nat.le_of_lt HS1.out.now.lt)) ?_
        intro q8 c8 v3 hown hgrow
        have hnow := row_grownT HS1.out.now HS1.out.o (by decide) hgrow
        have HS2 := Lib.hid (HS1.out.addO HR.out hgrow hown)
        have HNW := Lib.hid hnow
        clear hown hgrow hnow HC
        refine hK.out _ _ trivial (fun HS => ?_)
        clear hK K
        refine held_take (i := 7) (d := 23) (v := .pointer (some ⟨S, 0, none⟩)) rfl rfl (by kernel_rfl) (by kernel_rfl) (by kernel_rfl) (by kernel_rfl) (fun wx hS => by go_simp) HS ?_
        refine wpAnyH_ready (rs := [8]) (by kernel_rfl) (by simp) (AllReadyH.cons rfl (fun K hK => ?_) AllReadyH.nil)
        have s0 := HNW.out.cell (j := 0) (by simp)
        simp at s0
        have sf := HNW.out.free 0
        go_simp
        refine hK.out _ _ trivial (fun HS => ?_)
        clear hK K s0 sf HNW HS1
        refine wpAnyH_done (by kernel_rfl) (NoPanic.normal ?_) _
        have k0 := HS2.out.now.cell (j := 0) (by simp)
        have k1 := HS2.out.now.cell (j := 1) (by simp)
        have y0 := HS2.out.res.cell (j := 0) (by simp)
        have y1 := HS2.out.res.cell (j := 1) (by simp)
        have f0 := HS2.out.res.free 0
        have f1 := HS2.out.res.free 1
        simp at k0 k1 y0 y1
        go_wp2
        have hbF := (HS2.out.res.set 0 (.slice q8 (n1 + 1) c8)).set 1 (.slice q2 n2 c2)
        unfold Row at hbF
        exact bodyPost_ret (v := .agg #[.slice q8 (n1 + 1) c8, .slice q2 n2 c2]) (by simp [results, Try.results21, go_sem, World.cell?, hbF]) rfl (HS2.out.fin HR.out (by omega) (by omega) (HSH.out.addO HNB.out (by decide)))
      · skip
        go_simp
        have HC := Lib.hid (Row.new v1 31 #[.string b, .int .i64 1, .string ⟨#[]⟩])
        have HS1 := Lib.hid (HS1.out.keep HR.out (below_alloc (Below.refl _ _) (.cells #[.string b, .int .i64 1, .string ⟨#[]⟩] 31)))
        obtain ⟨C, hC⟩ : ∃ x, v1.heap.size = x := ⟨_, rfl⟩
        obtain ⟨v2, hv⟩ : ∃ x, v1.alloc (.cells #[.string b, .int .i64 1, .string ⟨#[]⟩] 31) = x := ⟨_, rfl⟩
        rw [hC] at HC ⊢
        rw [hv] at HC HS1 ⊢
        clear hC hv
        refine hK.out _ _ trivial (fun HS => ?_)
        clear hK K
        refine wpAnyH_ready (rs := [1]) (by kernel_rfl) (by simp) (AllReadyH.cons rfl (fun K hK => ?_) AllReadyH.nil)
        have k0 := HS1.out.now.cell (j := 0) (by simp)
        simp at k0
        go_simp
        refine hK.out _ _ trivial (fun HS => ?_)
        clear hK K k0
        refine wpAnyH_ready (rs := [6]) (by kernel_rfl) (by simp) (AllReadyH.cons rfl (fun K hK => ?_) AllReadyH.nil)
        refine step_append1_obj rfl _ _ rfl (w.heap.size + 1) (.slice q1 n1 c1) n1 l rfl HS1.out.o C _ b 1 ⟨#[]⟩ rfl (obj_at_row b 1 ⟨#[]⟩ HC.out) (by omega) (Nat.le_trans (Nat.succ_le_of_lt HS1.out.far) (Nat.le_of_lt HS1.out.now.lt)) ?_
        intro q8 c8 v3 hown hgrow
        have hnow := row_grownT HS1.out.now HS1.out.o (by decide) hgrow
        have HS2 := Lib.hid (HS1.out.addO HR.out hgrow hown)
        have HNW := Lib.hid hnow
        clear hown hgrow hnow HC
        refine hK.out _ _ trivial (fun HS => ?_)
        clear hK K
        refine held_take (i := 7) (d := 23) (v := .pointer (some ⟨S, 0, none⟩)) rfl rfl (by kernel_rfl) (by kernel_rfl) (by kernel_rfl) (by kernel_rfl) (fun wx hS => by go_simp) HS ?_
        refine wpAnyH_ready (rs := [8]) (by kernel_rfl) (by simp) (AllReadyH.cons rfl (fun K hK => ?_) AllReadyH.nil)
        have s0 := HNW.out.cell (j := 0) (by simp)
        simp at s0
        have sf := HNW.out.free 0
        go_simp
        refine hK.out _ _ trivial (fun HS => ?_)
        clear hK K s0 sf HNW HS1
        refine wpAnyH_done (by kernel_rfl) (NoPanic.normal ?_) _
        have k0 := HS2.out.now.cell (j := 0) (by simp)
        have k1 := HS2.out.now.cell (j := 1) (by simp)
        have y0 := HS2.out.res.cell (j := 0) (by simp)
        have y1 := HS2.out.res.cell (j := 1) (by simp)
        have f0 := HS2.out.res.free 0
        have f1 := HS2.out.res.free 1
        simp at k0 k1 y0 y1
        go_wp2
        have hbF := (HS2.out.res.set 0 (.slice q8 (n1 + 1) c8)).set 1 (.slice q2 n2 c2)
        unfold Row at hbF
        exact bodyPost_ret (v := .agg #[.slice q8 (n1 + 1) c8, .slice q2 n2 c2]) (by simp [results, Try.results21, go_sem, World.cell?, hbF]) rfl (HS2.out.fin HR.out (by omega) (by omega) (HSH.out.addO HNB.out (by decide)))
  have n0 : (x == 0) = false := by rw [beq_eq_false_iff_ne]; exact e0
  by_cases e1 : x = 1
  · subst e1
    go_wp2_with fail
    refine wp_region_noPanic ?_
    refine wp_region_held_drew (S := (fun _ => True)) (by kernel_rfl) trivial (fun HS => ?_)
    have HS1 := Lib.hid (HS1.out.keep HR.out (below_drewN (Below.refl _ _) 1))
    obtain ⟨v0, hv0⟩ : ∃ x, w4.drew = x := ⟨_, rfl⟩
    have HS1 : Hid (OS w r a len cap S q1 n1 c1 q2 n2 c2 l m v0) := (by rw [← hv0]; exact HS1)
    rw [hv0]
    clear hv0
    refine held_take (i := 0) (d := 26) (v := .pointer (some ⟨S, 1, none⟩)) rfl rfl (by kernel_rfl) (by kernel_rfl) (by kernel_rfl) (by kernel_rfl) (fun wx hS => by go_simp) HS ?_
    refine held_take (i := 2) (d := 28) (v := .pointer (some ⟨r, 0, none⟩)) rfl rfl (by kernel_rfl) (by kernel_rfl) (by kernel_rfl) (by kernel_rfl) (fun wx hS => by go_simp) HS ?_
    refine held_take (i := 4) (d := 30) (v := .pointer (some ⟨r, 0, none⟩)) rfl rfl (by kernel_rfl) (by kernel_rfl) (by kernel_rfl) (by kernel_rfl) (fun wx hS => by go_simp) HS ?_
    refine wpAnyH_ready (rs := [1, 3]) (by kernel_rfl) (by simp) (AllReadyH.cons rfl (fun K hK => ?_) (AllReadyH.cons rfl (fun K hK => ?_) AllReadyH.nil))
    · skip
      have k0 := HS1.out.now.cell (j := 1) (by simp)
      simp at k0
      go_simp
      refine hK.out _ _ trivial (fun HS => ?_)
      clear hK K k0
      refine wpAnyH_ready (rs := [3]) (by kernel_rfl) (by simp) (AllReadyH.cons rfl (fun K hK => ?_) AllReadyH.nil)
      go_simp
      refine (name_any _ _ _ _ _ HS1.out.went.rdr).mono ?_
      rintro e v1 ⟨⟨b, hb, rfl⟩, hw⟩
      have HNB := Lib.hid (show b.size ≤ 41 by omega)
      have HS1 := Lib.hid (HS1.out.step HR.out hw)
      clear hw hb
      refine hK.out _ _ trivial (fun HS => ?_)
      clear hK K
      refine wpAnyH_ready (rs := [5]) (by kernel_rfl) (by simp) (AllReadyH.cons rfl (fun K hK => ?_) AllReadyH.nil)
      go_simp
      refine (off_any _ _ _ _ _ _ _ HS1.out.went.rdr (by decide) (by decide) (by decide)).mono ?_
      rintro e v2 ⟨⟨y, hy, rfl⟩, hw⟩
      have HS1 := Lib.hid (HS1.out.step HR.out hw)
      clear hw hy
      refine hK.out _ _ trivial (fun HS => ?_)
      clear hK K
      refine held_take (i := 6) (d := 32) (v := .agg #[.string b, .int .i64 y]) rfl rfl (by kernel_rfl) (by kernel_rfl) (by kernel_rfl) (by kernel_rfl) (fun wx hS => by go_simp) HS ?_
      refine wpAnyH_ready (rs := [7]) (by kernel_rfl) (by simp) (AllReadyH.cons rfl (fun K hK => ?_) AllReadyH.nil)
      go_simp
      have HC := Lib.hid (Row.new v2 45 #[.string b, .int .i64 y])
      have HS1 := Lib.hid (HS1.out.keep HR.out (below_alloc (Below.refl _ _) (.cells #[.string b, .int .i64 y] 45)))
      obtain ⟨C, hC⟩ : ∃ x, v2.heap.size = x := ⟨_, rfl⟩
      obtain ⟨v3, hv⟩ : ∃ x, v2.alloc (.cells #[.string b, .int .i64 y] 45) = x := ⟨_, rfl⟩
      rw [hC] at HC ⊢
      rw [hv] at HC HS1 ⊢
      clear hC hv
      refine hK.out _ _ trivial (fun HS => ?_)
      clear hK K
      refine wpAnyH_ready (rs := [8]) (by kernel_rfl) (by simp) (AllReadyH.cons rfl (fun K hK => ?_) AllReadyH.nil)
      refine step_append1_gone rfl _ _ rfl (w.heap.size + 1) (.slice q2 n2 c2) n2 m rfl HS1.out.g C _ b y rfl (gone_at_row b y HC.out) (by omega) (Nat.le_trans (Nat.succ_le_of_lt HS1.out.far) (Nat.le_of_lt HS1.out.now.lt)) ?_
      intro q8 c8 v4 hown hgrow
      have hnow := row_grownT HS1.out.now HS1.out.g (by decide) hgrow
      have HS2 := Lib.hid (HS1.out.addG HR.out hgrow hown)
      have HNW := Lib.hid hnow
      clear hown hgrow hnow HC
      refine hK.out _ _ trivial (fun HS => ?_)
      clear hK K
      refine held_take (i := 9) (d := 35) (v := .pointer (some ⟨S, 1, none⟩)) rfl rfl (by kernel_rfl) (by kernel_rfl) (by kernel_rfl) (by kernel_rfl) (fun wx hS => by go_simp) HS ?_
      refine wpAnyH_ready (rs := [10]) (by kernel_rfl) (by simp) (AllReadyH.cons rfl (fun K hK => ?_) AllReadyH.nil)
      have s0 := HNW.out.cell (j := 1) (by simp)
      simp at s0
      have sf := HNW.out.free 1
      go_simp
      refine hK.out _ _ trivial (fun HS => ?_)
      clear hK K s0 sf HNW HS1
      refine wpAnyH_done (by kernel_rfl) (NoPanic.normal ?_) _
      have k0 := HS2.out.now.cell (j := 0) (by simp)
      have k1 := HS2.out.now.cell (j := 1) (by simp)
      have y0 := HS2.out.res.cell (j := 0) (by simp)
      have y1 := HS2.out.res.cell (j := 1) (by simp)
      have f0 := HS2.out.res.free 0
      have f1 := HS2.out.res.free 1
      simp at k0 k1 y0 y1
      go_wp2
      have hbF := (HS2.out.res.set 0 (.slice q1 n1 c1)).set 1 (.slice q8 (n2 + 1) c8)
      unfold Row at hbF
      exact bodyPost_ret (v := .agg #[.slice q1 n1 c1, .slice q8 (n2 + 1) c8]) (by simp [results, Try.results21, go_sem, World.cell?, hbF]) rfl (HS2.out.fin HR.out (by omega) (by omega) (HSH.out.addG HNB.out))
    · skip
      go_simp
      refine (name_any _ _ _ _ _ HS1.out.went.rdr).mono ?_
      rintro e v1 ⟨⟨b, hb, rfl⟩, hw⟩
      have HNB := Lib.hid (show b.size ≤ 41 by omega)
      have HS1 := Lib.hid (HS1.out.step HR.out hw)
      clear hw hb
      refine hK.out _ _ trivial (fun HS => ?_)
      clear hK K
      refine wpAnyH_ready (rs := [1, 5]) (by kernel_rfl) (by simp) (AllReadyH.cons rfl (fun K hK => ?_) (AllReadyH.cons rfl (fun K hK => ?_) AllReadyH.nil))
      · skip
        have k0 := HS1.out.now.cell (j := 1) (by simp)
        simp at k0
        go_simp
        refine hK.out _ _ trivial (fun HS => ?_)
        clear hK K k0
        refine wpAnyH_ready (rs := [5]) (by kernel_rfl) (by simp) (AllReadyH.cons rfl (fun K hK => ?_) AllReadyH.nil)
        go_simp
        refine (off_any _ _ _ _ _ _ _ HS1.out.went.rdr (by decide) (by decide) (by decide)).mono ?_
        rintro e v2 ⟨⟨y, hy, rfl⟩, hw⟩
        have HS1 := Lib.hid (HS1.out.step HR.out hw)
        clear hw hy
        refine hK.out _ _ trivial (fun HS => ?_)
        clear hK K
        refine held_take (i := 6) (d := 32) (v := .agg #[.string b, .int .i64 y]) rfl rfl (by kernel_rfl) (by kernel_rfl) (by kernel_rfl) (by kernel_rfl) (fun wx hS => by go_simp) HS ?_
        refine wpAnyH_ready (rs := [7]) (by kernel_rfl) (by simp) (AllReadyH.cons rfl (fun K hK => ?_) AllReadyH.nil)
        go_simp
        have HC := Lib.hid (Row.new v2 45 #[.string b, .int .i64 y])
        have HS1 := Lib.hid (HS1.out.keep HR.out (below_alloc (Below.refl _ _) (.cells #[.string b, .int .i64 y] 45)))
        obtain ⟨C, hC⟩ : ∃ x, v2.heap.size = x := ⟨_, rfl⟩
        obtain ⟨v3, hv⟩ : ∃ x, v2.alloc (.cells #[.string b, .int .i64 y] 45) = x := ⟨_, rfl⟩
        rw [hC] at HC ⊢
        rw [hv] at HC HS1 ⊢
        clear hC hv
        refine hK.out _ _ trivial (fun HS => ?_)
        clear hK K
        refine wpAnyH_ready (rs := [8]) (by kernel_rfl) (by simp) (AllReadyH.cons rfl (fun K hK => ?_) AllReadyH.nil)
        refine step_append1_gone rfl _ _ rfl (w.heap.size + 1) (.slice q2 n2 c2) n2 m rfl HS1.out.g C _ b y rfl (gone_at_row b y HC.out) (by omega) (Nat.le_trans (Nat.succ_le_of_lt HS1.out.far) (Nat.le_of_lt HS1.out.now.lt)) ?_
        intro q8 c8 v4 hown hgrow
        have hnow := row_grownT HS1.out.now HS1.out.g (by decide) hgrow
        have HS2 := Lib.hid (HS1.out.addG HR.out hgrow hown)
        have HNW := Lib.hid hnow
        clear hown hgrow hnow HC
        refine hK.out _ _ trivial (fun HS => ?_)
        clear hK K
        refine held_take (i := 9) (d := 35) (v := .pointer (some ⟨S, 1, none⟩)) rfl rfl (by kernel_rfl) (by kernel_rfl) (by kernel_rfl) (by kernel_rfl) (fun wx hS => by go_simp) HS ?_
        refine wpAnyH_ready (rs := [10]) (by kernel_rfl) (by simp) (AllReadyH.cons rfl (fun K hK => ?_) AllReadyH.nil)
        have s0 := HNW.out.cell (j := 1) (by simp)
        simp at s0
        have sf := HNW.out.free 1
        go_simp
        refine hK.out _ _ trivial (fun HS => ?_)
        clear hK K s0 sf HNW HS1
        refine wpAnyH_done (by kernel_rfl) (NoPanic.normal ?_) _
        have k0 := HS2.out.now.cell (j := 0) (by simp)
        have k1 := HS2.out.now.cell (j := 1) (by simp)
        have y0 := HS2.out.res.cell (j := 0) (by simp)
        have y1 := HS2.out.res.cell (j := 1) (by simp)
        have f0 := HS2.out.res.free 0
        have f1 := HS2.out.res.free 1
        simp at k0 k1 y0 y1
        go_wp2
        have hbF := (HS2.out.res.set 0 (.slice q1 n1 c1)).set 1 (.slice q8 (n2 + 1) c8)
        unfold Row at hbF
        exact bodyPost_ret (v := .agg #[.slice q1 n1 c1, .slice q8 (n2 + 1) c8]) (by simp [results, Try.results21, go_sem, World.cell?, hbF]) rfl (HS2.out.fin HR.out (by omega) (by omega) (HSH.out.addG HNB.out))
      · skip
        go_simp
        refine (off_any _ _ _ _ _ _ _ HS1.out.went.rdr (by decide) (by decide) (by decide)).mono ?_
        rintro e v2 ⟨⟨y, hy, rfl⟩, hw⟩
        have HS1 := Lib.hid (HS1.out.step HR.out hw)
        clear hw hy
        refine hK.out _ _ trivial (fun HS => ?_)
        clear hK K
        refine held_take (i := 6) (d := 32) (v := .agg #[.string b, .int .i64 y]) rfl rfl (by kernel_rfl) (by kernel_rfl) (by kernel_rfl) (by kernel_rfl) (fun wx hS => by go_simp) HS ?_
        refine wpAnyH_ready (rs := [1, 7]) (by kernel_rfl) (by simp) (AllReadyH.cons rfl (fun K hK => ?_) (AllReadyH.cons rfl (fun K hK => ?_) AllReadyH.nil))
        · skip
          have k0 := HS1.out.now.cell (j := 1) (by simp)
          simp at k0
          go_simp
          refine hK.out _ _ trivial (fun HS => ?_)
          clear hK K k0
          refine wpAnyH_ready (rs := [7]) (by kernel_rfl) (by simp) (AllReadyH.cons rfl (fun K hK => ?_) AllReadyH.nil)
          go_simp
          have HC := Lib.hid (Row.new v2 45 #[.string b, .int .i64 y])
          have HS1 := Lib.hid (HS1.out.keep HR.out (below_alloc (Below.refl _ _) (.cells #[.string b, .int .i64 y] 45)))
          obtain ⟨C, hC⟩ : ∃ x, v2.heap.size = x := ⟨_, rfl⟩
          obtain ⟨v3, hv⟩ : ∃ x, v2.alloc (.cells #[.string b, .int .i64 y] 45) = x := ⟨_, rfl⟩
          rw [hC] at HC ⊢
          rw [hv] at HC HS1 ⊢
          clear hC hv
          refine hK.out _ _ trivial (fun HS => ?_)
          clear hK K
          refine wpAnyH_ready (rs := [8]) (by kernel_rfl) (by simp) (AllReadyH.cons rfl (fun K hK => ?_) AllReadyH.nil)
          refine step_append1_gone rfl _ _ rfl (w.heap.size + 1) (.slice q2 n2 c2) n2 m rfl HS1.out.g C _ b y rfl (gone_at_row b y HC.out) (by omega) (Nat.le_trans (Nat.succ_le_of_lt HS1.out.far) (Nat.le_of_lt HS1.out.now.lt)) ?_
          intro q8 c8 v4 hown hgrow
          have hnow := row_grownT HS1.out.now HS1.out.g (by decide) hgrow
          have HS2 := Lib.hid (HS1.out.addG HR.out hgrow hown)
          have HNW := Lib.hid hnow
          clear hown hgrow hnow HC
          refine hK.out _ _ trivial (fun HS => ?_)
          clear hK K
          refine held_take (i := 9) (d := 35) (v := .pointer (some ⟨S, 1, none⟩)) rfl rfl (by kernel_rfl) (by kernel_rfl) (by kernel_rfl) (by kernel_rfl) (fun wx hS => by go_simp) HS ?_
          refine wpAnyH_ready (rs := [10]) (by kernel_rfl) (by simp) (AllReadyH.cons rfl (fun K hK => ?_) AllReadyH.nil)
          have s0 := HNW.out.cell (j := 1) (by simp)
          simp at s0
          have sf := HNW.out.free 1
          go_simp
          refine hK.out _ _ trivial (fun HS => ?_)
          clear hK K s0 sf HNW HS1
          refine wpAnyH_done (by kernel_rfl) (NoPanic.normal ?_) _
          have k0 := HS2.out.now.cell (j := 0) (by simp)
          have k1 := HS2.out.now.cell (j := 1) (by simp)
          have y0 := HS2.out.res.cell (j := 0) (by simp)
          have y1 := HS2.out.res.cell (j := 1) (by simp)
          have f0 := HS2.out.res.free 0
          have f1 := HS2.out.res.free 1
          simp at k0 k1 y0 y1
          go_wp2
          have hbF := (HS2.out.res.set 0 (.slice q1 n1 c1)).set 1 (.slice q8 (n2 + 1) c8)
          unfold Row at hbF
          exact bodyPost_ret (v := .agg #[.slice q1 n1 c1, .slice q8 (n2 + 1) c8]) (by simp [results, Try.results21, go_sem, World.cell?, hbF]) rfl (HS2.out.fin HR.out (by omega) (by omega) (HSH.out.addG HNB.out))
        · skip
          go_simp
          have HC := Lib.hid (Row.new v2 45 #[.string b, .int .i64 y])
          have HS1 := Lib.hid (HS1.out.keep HR.out (below_alloc (Below.refl _ _) (.cells #[.string b, .int .i64 y] 45)))
          obtain ⟨C, hC⟩ : ∃ x, v2.heap.size = x := ⟨_, rfl⟩
          obtain ⟨v3, hv⟩ : ∃ x, v2.alloc (.cells #[.string b, .int .i64 y] 45) = x := ⟨_, rfl⟩
          rw [hC] at HC ⊢
          rw [hv] at HC HS1 ⊢
          clear hC hv
          refine hK.out _ _ trivial (fun HS => ?_)
          clear hK K
          refine wpAnyH_ready (rs := [1]) (by kernel_rfl) (by simp) (AllReadyH.cons rfl (fun K hK => ?_) AllReadyH.nil)
          have k0 := HS1.out.now.cell (j := 1) (by simp)
          simp at k0
          go_simp
          refine hK.out _ _ trivial (fun HS => ?_)
          clear hK K k0
          refine wpAnyH_ready (rs := [8]) (by kernel_rfl) (by simp) (AllReadyH.cons rfl (fun K hK => ?_) AllReadyH.nil)
          refine step_append1_gone rfl _ _ rfl (w.heap.size + 1) (.slice q2 n2 c2) n2 m rfl HS1.out.g C _ b y rfl (gone_at_row b y HC.out) (by omega) (Nat.le_trans (Nat.succ_le_of_lt HS1.out.far) (Nat.le_of_lt HS1.out.now.lt)) ?_
          intro q8 c8 v4 hown hgrow
          have hnow := row_grownT HS1.out.now HS1.out.g (by decide) hgrow
          have HS2 := Lib.hid (HS1.out.addG HR.out hgrow hown)
          have HNW := Lib.hid hnow
          clear hown hgrow hnow HC
          refine hK.out _ _ trivial (fun HS => ?_)
          clear hK K
          refine held_take (i := 9) (d := 35) (v := .pointer (some ⟨S, 1, none⟩)) rfl rfl (by kernel_rfl) (by kernel_rfl) (by kernel_rfl) (by kernel_rfl) (fun wx hS => by go_simp) HS ?_
          refine wpAnyH_ready (rs := [10]) (by kernel_rfl) (by simp) (AllReadyH.cons rfl (fun K hK => ?_) AllReadyH.nil)
          have s0 := HNW.out.cell (j := 1) (by simp)
          simp at s0
          have sf := HNW.out.free 1
          go_simp
          refine hK.out _ _ trivial (fun HS => ?_)
          clear hK K s0 sf HNW HS1
          refine wpAnyH_done (by kernel_rfl) (NoPanic.normal ?_) _
          have k0 := HS2.out.now.cell (j := 0) (by simp)
          have k1 := HS2.out.now.cell (j := 1) (by simp)
          have y0 := HS2.out.res.cell (j := 0) (by simp)
          have y1 := HS2.out.res.cell (j := 1) (by simp)
          have f0 := HS2.out.res.free 0
          have f1 := HS2.out.res.free 1
          simp at k0 k1 y0 y1
          go_wp2
          have hbF := (HS2.out.res.set 0 (.slice q1 n1 c1)).set 1 (.slice q8 (n2 + 1) c8)
          unfold Row at hbF
          exact bodyPost_ret (v := .agg #[.slice q1 n1 c1, .slice q8 (n2 + 1) c8]) (by simp [results, Try.results21, go_sem, World.cell?, hbF]) rfl (HS2.out.fin HR.out (by omega) (by omega) (HSH.out.addG HNB.out))
  have n1' : (x == 1) = false := by rw [beq_eq_false_iff_ne]; exact e1
  by_cases e2 : x = 2
  · subst e2
    go_wp2_with fail
    obtain ⟨cd, hcd⟩ : ∃ z : Nat, len % 4 = z := ⟨_, rfl⟩
    have hcd3 : cd ≤ 3 := by omega
    go_loopw [5] (fun i wr => ∃ (t : Nat) (q1 : Option Addr) (n1 c1 : Nat) (l : Objs), 1000 ≤ t ∧ t ≤ 2200 ∧ n1 + n2 ≤ 1101 ∧ i = .int .i64 t ∧ Hid (ShortS l m ∧ OS w r a len cap S q1 n1 c1 q2 n2 c2 l m wr)) (fun i _ => 2200 - (intOf i).toNat)
    case atStart => exact ⟨1000, q1, n1, c1, l, by omega, by omega, by omega, rfl, HSH.out, HS1.out⟩
    case round =>
      obtain ⟨t, q1, n1, c1, l, ht1, ht2, hnn, rfl, HX⟩ := hrel
      clear HS1 HSH
      have HSH := Lib.hid HX.out.1
      have HS1 := Lib.hid HX.out.2
      clear HX
      have k0 := HS1.out.now.cell (j := 0) (by simp)
      have k1 := HS1.out.now.cell (j := 1) (by simp)
      simp at k0 k1
      have hcode := HS1.out.went.rdr.code
      have hlm := HS1.out.went.rdr.max
      unfold maxLen at hlm
      by_cases hgo : t < 2200 ∧ n1 + n2 < 1098 + cd
      · have hg1 : (t : Int) < 2200 := by omega
        have hg2 : (n1 : Int) + (n2 : Int) < 1098 + (len : Int) % 4 := by omega
        go_wp2_with fail
        go_quiet (fail)
        have HS1 := Lib.hid (HS1.out.keep HR.out (below_drewN (Below.refl _ _) nq))
        obtain ⟨wq, hwq⟩ : ∃ x, wr.drewN nq = x := ⟨_, rfl⟩
        rw [hwq] at HS1 ⊢
        clear hwq k0 k1 hcode
        have zt := @decB_size (t : Int) (by omega) (by omega)
        have HKZ := Lib.hid (show (⟨#[122, 47]⟩ ++ decB (t : Int) : ByteArray).size ≤ 41 by rw [ByteArray.size_append]; show 2 + _ ≤ 41; omega)
        have kcat : ∀ w, (Op.stringOp .add (⟨#[122, 47]⟩ : ByteArray) (decB (t : Int))).run Try.prog w = .ok (.string (⟨#[122, 47]⟩ ++ decB (t : Int))) w := fun w => cat_runp _ _ 20 (by decide) zt
        clear zt
        go_wp2_with fail
        refine wp_region_noPanic ?_
        refine wp_region_held_drew (S := (fun _ => True)) (by kernel_rfl) trivial (fun HS => ?_)
        have HS1 := Lib.hid (HS1.out.keep HR.out (below_drewN (Below.refl _ _) 1))
        obtain ⟨v0, hv0⟩ : ∃ x, wq.drew = x := ⟨_, rfl⟩
        have HS1 : Hid (OS w r a len cap S q1 n1 c1 q2 n2 c2 l m v0) := (by rw [← hv0]; exact HS1)
        rw [hv0]
        clear hv0
        refine held_take (i := 0) (d := 59) (v := .pointer (some ⟨S, 0, none⟩)) rfl rfl (by kernel_rfl) (by kernel_rfl) (by kernel_rfl) (by kernel_rfl) (fun wx hS => by go_simp) HS ?_
        refine held_take (i := 2) (d := 61) (v := .int .i64 (t : Int)) rfl rfl (by kernel_rfl) (by kernel_rfl) (by kernel_rfl) (by kernel_rfl) (fun wx hS => by go_simp) HS ?_
        refine wpAnyH_ready (rs := [1, 3]) (by kernel_rfl) (by simp) (AllReadyH.cons rfl (fun K hK => ?_) (AllReadyH.cons rfl (fun K hK => ?_) AllReadyH.nil))
        · skip
          have k0 := HS1.out.now.cell (j := 0) (by simp)
          simp at k0
          go_simp
          refine hK.out _ _ trivial (fun HS => ?_)
          clear hK K k0
          refine wpAnyH_ready (rs := [3]) (by kernel_rfl) (by simp) (AllReadyH.cons rfl (fun K hK => ?_) AllReadyH.nil)
          go_simp
          refine (l1dec_any (t : Int) (by omega) (by omega) _).mono ?_
          rintro e v1 ⟨rfl, hB⟩
          have HS1 := Lib.hid (HS1.out.keep HR.out hB)
          clear hB
          refine hK.out _ _ trivial (fun HS => ?_)
          clear hK K
          refine held_take (i := 4) (d := 63) (v := .string (⟨#[122, 47]⟩ ++ decB (t : Int))) rfl rfl (by kernel_rfl) (by kernel_rfl) (by kernel_rfl) (by kernel_rfl) (fun wx hS => by have := kcat wx; go_simp) HS ?_
          refine held_take (i := 5) (d := 64) (v := .agg #[.string (⟨#[122, 47]⟩ ++ decB (t : Int)), .int .i64 1, .string ⟨#[]⟩]) rfl rfl (by kernel_rfl) (by kernel_rfl) (by kernel_rfl) (by kernel_rfl) (fun wx hS => by go_simp) HS ?_
          refine wpAnyH_ready (rs := [6]) (by kernel_rfl) (by simp) (AllReadyH.cons rfl (fun K hK => ?_) AllReadyH.nil)
          go_simp
          have HC := Lib.hid (Row.new v1 31 #[.string (⟨#[122, 47]⟩ ++ decB (t : Int)), .int .i64 1, .string ⟨#[]⟩])
          have HS1 := Lib.hid (HS1.out.keep HR.out (below_alloc (Below.refl _ _) (.cells #[.string (⟨#[122, 47]⟩ ++ decB (t : Int)), .int .i64 1, .string ⟨#[]⟩] 31)))
          obtain ⟨C, hC⟩ : ∃ x, v1.heap.size = x := ⟨_, rfl⟩
          obtain ⟨v2, hv⟩ : ∃ x, v1.alloc (.cells #[.string (⟨#[122, 47]⟩ ++ decB (t : Int)), .int .i64 1, .string ⟨#[]⟩] 31) = x := ⟨_, rfl⟩
          rw [hC] at HC ⊢
          rw [hv] at HC HS1 ⊢
          clear hC hv
          refine hK.out _ _ trivial (fun HS => ?_)
          clear hK K
          refine wpAnyH_ready (rs := [7]) (by kernel_rfl) (by simp) (AllReadyH.cons rfl (fun K hK => ?_) AllReadyH.nil)
          refine step_append1_obj rfl _ _ rfl (w.heap.size + 1) (.slice q1 n1 c1) n1 l rfl HS1.out.o C _ (⟨#[122, 47]⟩ ++ decB (t : Int)) 1 ⟨#[]⟩ rfl (obj_at_row (⟨#[122, 47]⟩ ++ decB (t : Int)) 1 ⟨#[]⟩ HC.out) (by omega) (Nat.le_trans (Nat.succ_le_of_lt HS1.out.far) (Nat.le_of_lt HS1.out.now.lt)) ?_
          intro q8 c8 v3 hown hgrow
          have hnow := row_grownT HS1.out.now HS1.out.o (by decide) hgrow
          have HS2 := Lib.hid (HS1.out.addO HR.out hgrow hown)
          have HNW := Lib.hid hnow
          clear hown hgrow hnow HC
          refine hK.out _ _ trivial (fun HS => ?_)
          clear hK K
          refine held_take (i := 8) (d := 67) (v := .pointer (some ⟨S, 0, none⟩)) rfl rfl (by kernel_rfl) (by kernel_rfl) (by kernel_rfl) (by kernel_rfl) (fun wx hS => by go_simp) HS ?_
          refine wpAnyH_ready (rs := [9]) (by kernel_rfl) (by simp) (AllReadyH.cons rfl (fun K hK => ?_) AllReadyH.nil)
          have s0 := HNW.out.cell (j := 0) (by simp)
          simp at s0
          have sf := HNW.out.free 0
          go_simp
          refine hK.out _ _ trivial (fun HS => ?_)
          clear hK K s0 sf HNW HS1
          refine wpAnyH_done (by kernel_rfl) (NoPanic.normal ?_) _
          go_wp2
          go_roundw
          case rel => exact ⟨t + 1, q8, n1 + 1, c8, _, by omega, by omega, by omega, by go_num, HSH.out.addO HKZ.out (by decide), HS2.out⟩
          case measure => simp [intOf]; omega
        · skip
          go_simp
          refine (l1dec_any (t : Int) (by omega) (by omega) _).mono ?_
          rintro e v1 ⟨rfl, hB⟩
          have HS1 := Lib.hid (HS1.out.keep HR.out hB)
          clear hB
          refine hK.out _ _ trivial (fun HS => ?_)
          clear hK K
          refine held_take (i := 4) (d := 63) (v := .string (⟨#[122, 47]⟩ ++ decB (t : Int))) rfl rfl (by kernel_rfl) (by kernel_rfl) (by kernel_rfl) (by kernel_rfl) (fun wx hS => by have := kcat wx; go_simp) HS ?_
          refine held_take (i := 5) (d := 64) (v := .agg #[.string (⟨#[122, 47]⟩ ++ decB (t : Int)), .int .i64 1, .string ⟨#[]⟩]) rfl rfl (by kernel_rfl) (by kernel_rfl) (by kernel_rfl) (by kernel_rfl) (fun wx hS => by go_simp) HS ?_
          refine wpAnyH_ready (rs := [1, 6]) (by kernel_rfl) (by simp) (AllReadyH.cons rfl (fun K hK => ?_) (AllReadyH.cons rfl (fun K hK => ?_) AllReadyH.nil))
          · skip
            have k0 := HS1.out.now.cell (j := 0) (by simp)
            simp at k0
            go_simp
            refine hK.out _ _ trivial (fun HS => ?_)
            clear hK K k0
            refine wpAnyH_ready (rs := [6]) (by kernel_rfl) (by simp) (AllReadyH.cons rfl (fun K hK => ?_) AllReadyH.nil)
            go_simp
            have HC := Lib.hid (Row.new v1 31 #[.string (⟨#[122, 47]⟩ ++ decB (t : Int)), .int .i64 1, .string ⟨#[]⟩])
            have HS1 := Lib.hid (HS1.out.keep HR.out (below_alloc (Below.refl _ _) (.cells #[.string (⟨#[122, 47]⟩ ++ decB (t : Int)), .int .i64 1, .string ⟨#[]⟩] 31)))
            obtain ⟨C, hC⟩ : ∃ x, v1.heap.size = x := ⟨_, rfl⟩
            obtain ⟨v2, hv⟩ : ∃ x, v1.alloc (.cells #[.string (⟨#[122, 47]⟩ ++ decB (t : Int)), .int .i64 1, .string ⟨#[]⟩] 31) = x := ⟨_, rfl⟩
            rw [hC] at HC ⊢
            rw [hv] at HC HS1 ⊢
            clear hC hv
            refine hK.out _ _ trivial (fun HS => ?_)
            clear hK K
            refine wpAnyH_ready (rs := [7]) (by kernel_rfl) (by simp) (AllReadyH.cons rfl (fun K hK => ?_) AllReadyH.nil)
            refine step_append1_obj rfl _ _ rfl (w.heap.size + 1) (.slice q1 n1 c1) n1 l rfl HS1.out.o C _ (⟨#[122, 47]⟩ ++ decB (t : Int)) 1 ⟨#[]⟩ rfl (obj_at_row (⟨#[122, 47]⟩ ++ decB (t : Int)) 1 ⟨#[]⟩ HC.out) (by omega) (Nat.le_trans (Nat.succ_le_of_lt HS1.out.far) (Nat.le_of_lt HS1.out.now.lt)) ?_
            intro q8 c8 v3 hown hgrow
            have hnow := row_grownT HS1.out.now HS1.out.o (by decide) hgrow
            have HS2 := Lib.hid (HS1.out.addO HR.out hgrow hown)
            have HNW := Lib.hid hnow
            clear hown hgrow hnow HC
            refine hK.out _ _ trivial (fun HS => ?_)
            clear hK K
            refine held_take (i := 8) (d := 67) (v := .pointer (some ⟨S, 0, none⟩)) rfl rfl (by kernel_rfl) (by kernel_rfl) (by kernel_rfl) (by kernel_rfl) (fun wx hS => by go_simp) HS ?_
            refine wpAnyH_ready (rs := [9]) (by kernel_rfl) (by simp) (AllReadyH.cons rfl (fun K hK => ?_) AllReadyH.nil)
            have s0 := HNW.out.cell (j := 0) (by simp)
            simp at s0
            have sf := HNW.out.free 0
            go_simp
            refine hK.out _ _ trivial (fun HS => ?_)
            clear hK K s0 sf HNW HS1
            refine wpAnyH_done (by kernel_rfl) (NoPanic.normal ?_) _
            go_wp2
            go_roundw
            case rel => exact ⟨t + 1, q8, n1 + 1, c8, _, by omega, by omega, by omega, by go_num, HSH.out.addO HKZ.out (by decide), HS2.out⟩
            case measure => simp [intOf]; omega
          · skip
            go_simp
            have HC := Lib.hid (Row.new v1 31 #[.string (⟨#[122, 47]⟩ ++ decB (t : Int)), .int .i64 1, .string ⟨#[]⟩])
            have HS1 := Lib.hid (HS1.out.keep HR.out (below_alloc (Below.refl _ _) (.cells #[.string (⟨#[122, 47]⟩ ++ decB (t : Int)), .int .i64 1, .string ⟨#[]⟩] 31)))
            obtain ⟨C, hC⟩ : ∃ x, v1.heap.size = x := ⟨_, rfl⟩
            obtain ⟨v2, hv⟩ : ∃ x, v1.alloc (.cells #[.string (⟨#[122, 47]⟩ ++ decB (t : Int)), .int .i64 1, .string ⟨#[]⟩] 31) = x := ⟨_, rfl⟩
            rw [hC] at HC ⊢
            rw [hv] at HC HS1 ⊢
            clear hC hv
            refine hK.out _ _ trivial (fun HS => ?_)
            clear hK K
            refine wpAnyH_ready (rs := [1]) (by kernel_rfl) (by simp) (AllReadyH.cons rfl (fun K hK => ?_) AllReadyH.nil)
            have k0 := HS1.out.now.cell (j := 0) (by simp)
            simp at k0
            go_simp
            refine hK.out _ _ trivial (fun HS => ?_)
            clear hK K k0
            refine wpAnyH_ready (rs := [7]) (by kernel_rfl) (by simp) (AllReadyH.cons rfl (fun K hK => ?_) AllReadyH.nil)
            refine step_append1_obj rfl _ _ rfl (w.heap.size + 1) (.slice q1 n1 c1) n1 l rfl HS1.out.o C _ (⟨#[122, 47]⟩ ++ decB (t : Int)) 1 ⟨#[]⟩ rfl (obj_at_row (⟨#[122, 47]⟩ ++ decB (t : Int)) 1 ⟨#[]⟩ HC.out) (by omega) (Nat.le_trans (Nat.succ_le_of_lt HS1.out.far) (Nat.le_of_lt HS1.out.now.lt)) ?_
            intro q8 c8 v3 hown hgrow
            have hnow := row_grownT HS1.out.now HS1.out.o (by decide) hgrow
            have HS2 := Lib.hid (HS1.out.addO HR.out hgrow hown)
            have HNW := Lib.hid hnow
            clear hown hgrow hnow HC
            refine hK.out _ _ trivial (fun HS => ?_)
            clear hK K
            refine held_take (i := 8) (d := 67) (v := .pointer (some ⟨S, 0, none⟩)) rfl rfl (by kernel_rfl) (by kernel_rfl) (by kernel_rfl) (by kernel_rfl) (fun wx hS => by go_simp) HS ?_
            refine wpAnyH_ready (rs := [9]) (by kernel_rfl) (by simp) (AllReadyH.cons rfl (fun K hK => ?_) AllReadyH.nil)
            have s0 := HNW.out.cell (j := 0) (by simp)
            simp at s0
            have sf := HNW.out.free 0
            go_simp
            refine hK.out _ _ trivial (fun HS => ?_)
            clear hK K s0 sf HNW HS1
            refine wpAnyH_done (by kernel_rfl) (NoPanic.normal ?_) _
            go_wp2
            go_roundw
            case rel => exact ⟨t + 1, q8, n1 + 1, c8, _, by omega, by omega, by omega, by go_num, HSH.out.addO HKZ.out (by decide), HS2.out⟩
            case measure => simp [intOf]; omega
      · by_cases hg0 : t < 2200
        · have hg1 : (t : Int) < 2200 := by omega
          have hg2 : ¬ (n1 : Int) + (n2 : Int) < 1098 + (len : Int) % 4 := by omega
          go_wp2_with fail
          go_quiet (fail)
          have HS1 := Lib.hid (HS1.out.keep HR.out (below_drewN (Below.refl _ _) nq))
          obtain ⟨wq, hwq⟩ : ∃ x, wr.drewN nq = x := ⟨_, rfl⟩
          rw [hwq] at HS1 ⊢
          clear hwq k0 k1 hcode
          have HS2 := HS1
          have k0 := HS2.out.now.cell (j := 0) (by simp)
          have k1 := HS2.out.now.cell (j := 1) (by simp)
          have y0 := HS2.out.res.cell (j := 0) (by simp)
          have y1 := HS2.out.res.cell (j := 1) (by simp)
          have f0 := HS2.out.res.free 0
          have f1 := HS2.out.res.free 1
          simp at k0 k1 y0 y1
          go_wp2
          have hbF := (HS2.out.res.set 0 (.slice q1 n1 c1)).set 1 (.slice q2 n2 c2)
          unfold Row at hbF
          exact bodyPost_ret (v := .agg #[.slice q1 n1 c1, .slice q2 n2 c2]) (by simp [results, Try.results21, go_sem, World.cell?, hbF]) rfl (HS2.out.fin HR.out (by omega) (by omega) HSH.out)
        · have hg1 : decide ((t : Int) < 2200) = false := by simp; omega
          go_wp2_with fail
          go_quiet (fail)
          have HS1 := Lib.hid (HS1.out.keep HR.out (below_drewN (Below.refl _ _) nq))
          obtain ⟨wq, hwq⟩ : ∃ x, wr.drewN nq = x := ⟨_, rfl⟩
          rw [hwq] at HS1 ⊢
          clear hwq k0 k1 hcode
          have HS2 := HS1
          have k0 := HS2.out.now.cell (j := 0) (by simp)
          have k1 := HS2.out.now.cell (j := 1) (by simp)
          have y0 := HS2.out.res.cell (j := 0) (by simp)
          have y1 := HS2.out.res.cell (j := 1) (by simp)
          have f0 := HS2.out.res.free 0
          have f1 := HS2.out.res.free 1
          simp at k0 k1 y0 y1
          go_wp2
          have hbF := (HS2.out.res.set 0 (.slice q1 n1 c1)).set 1 (.slice q2 n2 c2)
          unfold Row at hbF
          exact bodyPost_ret (v := .agg #[.slice q1 n1 c1, .slice q2 n2 c2]) (by simp [results, Try.results21, go_sem, World.cell?, hbF]) rfl (HS2.out.fin HR.out (by omega) (by omega) HSH.out)
  have n2' : (x == 2) = false := by rw [beq_eq_false_iff_ne]; exact e2
  by_cases e3 : x = 3
  · subst e3
    have k0 := HS1.out.now.cell (j := 0) (by simp)
    simp at k0
    by_cases hn : 0 < n1
    · have hn0 : (0 : Int) < (n1 : Int) := by omega
      obtain ⟨g, rfl, hgb, hgl, ⟨gv, hgc⟩, hgf, hgs⟩ := obj_head HS1.out.o hn HS1.out.len1
      have hgS : S ≠ g := own_ne_row HS1.out.o HS1.out.now (by decide) g rfl
      have HGS := Lib.hid hgS
      clear hgc hgf hgs hgl hgS
      go_wp2_with fail
      clear k0
      refine wp_region_noPanic ?_
      have HS1 := Lib.hid (HS1.out.keep HR.out (below_drewN (Below.refl _ _) 1))
      refine wp_region_held_drew (S := (fun w' => w'.cell? ⟨S, 0, none⟩ = some (.slice (some ⟨g, 0, none⟩) n1 c1))) (by kernel_rfl) (by have h := HS1.out.now.cell (j := 0) (by simp); simpa using h) (fun HS => ?_)
      obtain ⟨v0, hv0⟩ : ∃ x, w4.drew = x := ⟨_, rfl⟩
      have HS1 : Hid (OS w r a len cap S (some ⟨g, 0, none⟩) n1 c1 q2 n2 c2 l m v0) := (by rw [← hv0]; exact HS1)
      rw [hv0] at HS ⊢
      clear hv0
      refine held_take (i := 0) (d := 74) (v := .pointer (some ⟨S, 0, none⟩)) rfl rfl (by kernel_rfl) (by kernel_rfl) (by kernel_rfl) (by kernel_rfl) (fun wx hS => by go_simp) HS ?_
      refine held_take (i := 1) (d := 75) (v := .slice (some ⟨g, 0, none⟩) n1 c1) rfl rfl (by kernel_rfl) (by kernel_rfl) (by kernel_rfl) (by kernel_rfl) (fun wx hS => by go_simp) HS ?_
      refine held_take (i := 2) (d := 76) (v := .pointer (some ⟨r, 0, none⟩)) rfl rfl (by kernel_rfl) (by kernel_rfl) (by kernel_rfl) (by kernel_rfl) (fun wx hS => by go_simp) HS ?_
      refine wpAnyH_ready (rs := [3]) (by kernel_rfl) (by simp) (AllReadyH.cons rfl (fun K hK => ?_) AllReadyH.nil)
      go_simp
      refine (off_any _ _ _ _ _ _ _ HS1.out.went.rdr (by decide) (by decide) (by decide)).mono ?_
      rintro e v1 ⟨⟨y, hy, rfl⟩, hw⟩
      have HS1 := Lib.hid (HS1.out.step HR.out hw)
      clear hw hy
      refine hK.out _ _ (by have h := HS1.out.now.cell (j := 0) (by simp); simpa using h) (fun HS => ?_)
      clear hK K
      refine held_take (i := 4) (d := 78) (v := .pointer (some ⟨g, 0, none⟩)) rfl rfl (by kernel_rfl) (by kernel_rfl) (by kernel_rfl) (by kernel_rfl) (fun wx hS => by go_simp) HS ?_
      refine held_take (i := 5) (d := 79) (v := .pointer (some ⟨g, 1, none⟩)) rfl rfl (by kernel_rfl) (by kernel_rfl) (by kernel_rfl) (by kernel_rfl) (fun wx hS => by go_simp) HS ?_
      refine wpAnyH_ready (rs := [6]) (by kernel_rfl) (by simp) (AllReadyH.cons rfl (fun K hK => ?_) AllReadyH.nil)
      obtain ⟨g', hgq, hgb, hgl, ⟨gv, hgc⟩, hgf, hgs⟩ := obj_head HS1.out.o hn HS1.out.len1
      simp only [Option.some.injEq, Addr.mk.injEq, and_true] at hgq
      subst hgq
      obtain ⟨l', hl', hs', ho'⟩ := hgs y
      have HS2 := Lib.hid (os_head HS1.out HR.out rfl ho' hl')
      have HSH2 := Lib.hid (show ShortS l' m from ⟨(hs' ⟨HSH.out.1, by intro x hx; simp at hx⟩).1, HSH.out.2⟩)
      clear hgs hs' ho'
      go_simp
      refine hK.out _ _ (by have h := HS2.out.now.cell (j := 0) (by simp); simpa using h) (fun HS => ?_)
      clear hK K hgc hgf
      refine wpAnyH_done (by kernel_rfl) (NoPanic.normal ?_) _
      have k0 := HS2.out.now.cell (j := 0) (by simp)
      have k1 := HS2.out.now.cell (j := 1) (by simp)
      have y0 := HS2.out.res.cell (j := 0) (by simp)
      have y1 := HS2.out.res.cell (j := 1) (by simp)
      have f0 := HS2.out.res.free 0
      have f1 := HS2.out.res.free 1
      simp at k0 k1 y0 y1
      go_wp2
      have hbF := (HS2.out.res.set 0 (.slice (some ⟨g, 0, none⟩) n1 c1)).set 1 (.slice q2 n2 c2)
      unfold Row at hbF
      exact bodyPost_ret (v := .agg #[.slice (some ⟨g, 0, none⟩) n1 c1, .slice q2 n2 c2]) (by simp [results, Try.results21, go_sem, World.cell?, hbF]) rfl (HS2.out.fin HR.out (by omega) (by omega) HSH2.out)
    · have hn0 : ¬ (0 : Int) < (n1 : Int) := by omega
      have HS2 := HS1
      have k0 := HS2.out.now.cell (j := 0) (by simp)
      have k1 := HS2.out.now.cell (j := 1) (by simp)
      have y0 := HS2.out.res.cell (j := 0) (by simp)
      have y1 := HS2.out.res.cell (j := 1) (by simp)
      have f0 := HS2.out.res.free 0
      have f1 := HS2.out.res.free 1
      simp at k0 k1 y0 y1
      go_wp2
      have hbF := (HS2.out.res.set 0 (.slice q1 n1 c1)).set 1 (.slice q2 n2 c2)
      unfold Row at hbF
      exact bodyPost_ret (v := .agg #[.slice q1 n1 c1, .slice q2 n2 c2]) (by simp [results, Try.results21, go_sem, World.cell?, hbF]) rfl (HS2.out.fin HR.out (by omega) (by omega) HSH.out)
  have n3' : (x == 3) = false := by rw [beq_eq_false_iff_ne]; exact e3
  have HS2 := HS1
  have k0 := HS2.out.now.cell (j := 0) (by simp)
  have k1 := HS2.out.now.cell (j := 1) (by simp)
  have y0 := HS2.out.res.cell (j := 0) (by simp)
  have y1 := HS2.out.res.cell (j := 1) (by simp)
  have f0 := HS2.out.res.free 0
  have f1 := HS2.out.res.free 1
  simp at k0 k1 y0 y1
  go_wp2
  have hbF := (HS2.out.res.set 0 (.slice q1 n1 c1)).set 1 (.slice q2 n2 c2)
  unfold Row at hbF
  exact bodyPost_ret (v := .agg #[.slice q1 n1 c1, .slice q2 n2 c2]) (by simp [results, Try.results21, go_sem, World.cell?, hbF]) rfl (HS2.out.fin HR.out (by omega) (by omega) HSH.out)
end Go.Proofs.Ytblpebdjbenphaa
