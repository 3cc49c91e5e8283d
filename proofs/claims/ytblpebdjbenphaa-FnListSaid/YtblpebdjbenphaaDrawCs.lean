
/- Drawn lists of commands: what a reader draws, played on the way on a store of its own. -/
import Derived.Test.YtblpebdjbenphaaDrawCo
import Derived.Test.YtblpebdjbenphaaMg6
import Derived.Test.YtblpebdjbenphaaPlayS
import Derived.Test.YtblpebdjbenphaaCmdOwn
namespace Go.Proofs.Ytblpebdjbenphaa
open Go.ChangeShapes Go.WideShapes Go.ChangeAt Go.RowKit
set_option linter.unusedVariables false
set_option maxRecDepth 100000

theorem stok_went {base r : Nat} {w w1 : World} {a : Option Addr} {len cap : Nat} {q1 q2 : Option Addr} {n1 c1 n2 c2 : Nat} {l : Objs} {m : Gones} (h : StoK base w q1 n1 c1 q2 n2 c2 l m) (hw : Went w r a len cap w1) (hr : r < base) : StoK base w1 q1 n1 c1 q2 n2 c2 l m := by
  have hlt : ∀ {q : Option Addr} {c : Nat}, AtB base w q c → AtB base w1 q c := fun h => by
    rcases h with h | ⟨g, a, b, c⟩
    · exact .inl h
    · exact .inr ⟨g, a, b, Nat.lt_of_lt_of_le c hw.size⟩
  refine ⟨?_, ?_, h.len1, h.len2, h.cap1, h.cap2, hlt h.at1, hlt h.at2, h.apart⟩
  · rcases h.o with h0 | ⟨g, cur, hq, hb, hr', h3, h4⟩
    · exact .inl h0
    · exact .inr ⟨g, cur, hq, hb, hr'.grown hw.grown (by intro e; injection e with e; omega), h3, h4⟩
  · rcases h.g with h0 | ⟨g, cur, hq, hb, hr', h3, h4⟩
    · exact .inl h0
    · exact .inr ⟨g, cur, hq, hb, hr'.grown hw.grown (by intro e; injection e with e; omega), h3, h4⟩
theorem stok_rowC {base b2 : Nat} {w w1 : World} {q1 q2 : Option Addr} {n1 c1 n2 c2 n : Nat} {l : Objs} {m : Gones} {v : Value} {xs : List Value} (h : StoK base w q1 n1 c1 q2 n2 c2 l m) (ho : w.ownsRow b2 57 4 v n xs) (hg : w.grownBy w1 v.ownBlock) : StoK base w1 q1 n1 c1 q2 n2 c2 l m := by
  have hlt : ∀ {q : Option Addr} {c : Nat}, AtB base w q c → AtB base w1 q c := fun h => by
    rcases h with h | ⟨g, a, b, c⟩
    · exact .inl h
    · exact .inr ⟨g, a, b, Nat.lt_of_lt_of_le c hg.size⟩
  refine ⟨?_, ?_, h.len1, h.len2, h.cap1, h.cap2, hlt h.at1, hlt h.at2, h.apart⟩
  · rcases h.o with h0 | ⟨g, cur, hq, hb, hr, h3, h4⟩
    · exact .inl h0
    · exact .inr ⟨g, cur, hq, hb, row_grownT hr ho (by decide) hg, h3, h4⟩
  · rcases h.g with h0 | ⟨g, cur, hq, hb, hr, h3, h4⟩
    · exact .inl h0
    · exact .inr ⟨g, cur, hq, hb, row_grownT hr ho (by decide) hg, h3, h4⟩
theorem went_on {w w1 w2 : World} {r : Nat} {a : Option Addr} {len cap : Nat} (h : Went w r a len cap w1) (hr : r < w.heap.size) (hB : Below w1.heap.size w1 w2) : Went w r a len cap w2 :=
  h.more (belowGrow hB none) hr (fun k hk => by cases hk)

/-- What the walk holds: the reader, the store so far, the commands so far. -/
structure CS (w : World) (r : Nat) (a : Option Addr) (len cap : Nat) (E : Els) (a1 : Option Addr) (l1 c1 : Nat) (g1 : Option Addr) (m1 d1 : Nat) (L : Cmds) (qc : Option Addr) (nc cc : Nat) (wr : World) : Prop where
  went : Went w r a len cap wr
  now : Row wr w.heap.size 27 #[.slice a1 l1 c1, .slice g1 m1 d1]
  sto : StoK (w.heap.size + 1) wr a1 l1 c1 g1 m1 d1 (objsOf E) (gonsOf E)
  out : wr.ownsRow (w.heap.size + 1) 57 4 (.slice qc nc cc) nc (cellsCmd L)
section
variable {w : World} {r : Nat} {a : Option Addr} {len cap : Nat} {E : Els} {a1 : Option Addr} {l1 c1 : Nat} {g1 : Option Addr} {m1 d1 : Nat} {L : Cmds} {qc : Option Addr} {nc cc : Nat} {wr : World}
theorem CS.step {w2 : World} (h : CS w r a len cap E a1 l1 c1 g1 m1 d1 L qc nc cc wr) (hr : r < w.heap.size) (hw : Went wr r a len cap w2) : CS w r a len cap E a1 l1 c1 g1 m1 d1 L qc nc cc w2 :=
  ⟨h.went.trans hw, h.now.grown hw.grown (by intro e; injection e with e; omega), stok_went h.sto hw (by omega), own_went h.out hw (by omega)⟩
theorem CS.keep {w2 : World} (h : CS w r a len cap E a1 l1 c1 g1 m1 d1 L qc nc cc wr) (hr : r < w.heap.size) (hB : Below wr.heap.size wr w2) : CS w r a len cap E a1 l1 c1 g1 m1 d1 L qc nc cc w2 :=
  ⟨went_on h.went hr hB, h.now.keep hB, h.sto.keep hB, own_below h.out hB⟩
theorem CS.put {y : World} {E2 : Els} {a2 : Option Addr} {l2 c2 : Nat} {g2 : Option Addr} {m2 d2 : Nat} (h : CS w r a len cap E a1 l1 c1 g1 m1 d1 L qc nc cc y) (hr : r < w.heap.size) (hk : StoK (w.heap.size + 1) y a2 l2 c2 g2 m2 d2 (objsOf E2) (gonsOf E2)) :
    CS w r a len cap E2 a2 l2 c2 g2 m2 d2 L qc nc cc ((y.setCell ⟨w.heap.size, 0, none⟩ (.slice a2 l2 c2)).setCell ⟨w.heap.size, 1, none⟩ (.slice g2 m2 d2)) := by
  have hn : ∀ g, (Value.slice qc nc cc).ownBlock = some g → w.heap.size ≠ g := fun g hg => by have := (h.out.lt g hg).1; omega
  have k1 := hk.put (X := w.heap.size) (hk.at1.ne (by omega)) (hk.at2.ne (by omega)) 0 (.slice a2 l2 c2)
  exact ⟨went_set (went_set h.went hr (Nat.le_refl _) 0 _) hr (Nat.le_refl _) 1 _, (h.now.set 0 _).set 1 _, k1.put (X := w.heap.size) (k1.at1.ne (by omega)) (k1.at2.ne (by omega)) 1 (.slice g2 m2 d2), own_put (own_put h.out hn 0 _) hn 1 _⟩
theorem CS.add {w2 : World} {L2 : Cmds} {q2 : Option Addr} {n2 c2 : Nat} (h : CS w r a len cap E a1 l1 c1 g1 m1 d1 L qc nc cc wr) (hr : r < w.heap.size) (hg : wr.grownBy w2 (Value.slice qc nc cc).ownBlock) (ho : w2.ownsRow (w.heap.size + 1) 57 4 (.slice q2 n2 c2) n2 (cellsCmd L2)) : CS w r a len cap E a1 l1 c1 g1 m1 d1 L2 q2 n2 c2 w2 := by
  have hge := own_ge_of h.out (Nat.le_refl _)
  exact ⟨h.went.more hg hr (fun k hk => by have := hge k hk; omega), row_grownT h.now h.out (by decide) hg, stok_rowC h.sto h.out hg, ho⟩
theorem CS.objs (h : CS w r a len cap E a1 l1 c1 g1 m1 d1 L qc nc cc wr) (hE : EP E) : ObjsAt wr a1 l1 (objsOf E) ∧ (∀ i, i < l1 → (obj0 (objsOf E) i).size ≤ 41) ∧ l1 ≤ 1048576 := by
  have hp := stop_of_ep hE
  have hl := h.sto.len1
  refine ⟨(h.sto.sto hp).o, fun i hi => ?_, ?_⟩
  · have := key_len (hp.objs i (by omega)).1
    omega
  · have := hp.few
    omega
theorem CS.apart (h : CS w r a len cap E a1 l1 c1 g1 m1 d1 L qc nc cc wr) (hr : r < w.heap.size) : ∀ b off, a1 = some ⟨b, off, none⟩ → b ≠ r := by
  intro b off hq
  rcases h.sto.at1 with ⟨h0, _⟩ | ⟨g, hg, hb, _⟩
  · rw [h0] at hq; cases hq
  · rw [hg] at hq
    simp only [Option.some.injEq, Addr.mk.injEq, and_true] at hq
    omega
end
theorem CS.start (w : World) (r : Nat) (a : Option Addr) (len cap : Nat) (h : Rdr w r a len cap) : CS w r a len cap [] none 0 0 none 0 0 [] (some ⟨w.heap.size + 1, 0, none⟩) 0 0 ((w.alloc (.cells #[.slice none 0 0, .slice none 0 0] 27)).alloc (.cells #[] 57)) := by
  refine ⟨((Went.refl h).alloc _).alloc _, (Row.new _ _ _).alloc _, StoK.nil _ _, ?_⟩
  have h1 := Row.new (w.alloc (.cells #[.slice none 0 0, .slice none 0 0] 27)) 57 #[]
  have e : (w.alloc (.cells #[.slice none 0 0, .slice none 0 0] 27)).heap.size = w.heap.size + 1 := by simp
  rw [e] at h1
  exact own_zeroCmd h1 (Nat.le_refl _)

/-- A drawn list of at most n commands. -/
def ShortC (L : Cmds) : Prop := ∀ c ∈ L, c.2.1.size ≤ 41 ∧ c.2.2.2.size ≤ 30001
theorem ShortC.add {L : Cmds} (h : ShortC L) (k : Int) (b : ByteArray) (v : Int) (d : ByteArray) (hb : b.size ≤ 41) (hd : d.size ≤ 30001) : ShortC (L ++ [(k, b, v, d)]) := by
  intro c hc
  rcases List.mem_append.1 hc with hc | hc
  · exact h c hc
  · simp at hc; subst hc; exact ⟨hb, hd⟩
def RdCmds (n : Int) (w : World) (r : Nat) (a : Option Addr) (len cap : Nat) (e : Ending) (w' : World) : Prop :=
  ∃ (q : Option Addr) (k cc : Nat) (L : Cmds), (k : Int) ≤ n ∧ e = .returned (.slice q k cc) ∧ L.length = k ∧ ShortC L ∧ w'.ownsRow w.heap.size 57 4 (.slice q k cc) k (cellsCmd L) ∧ Went w r a len cap w'

set_option maxHeartbeats 8000000 in
theorem drawcmds_any (n : Int) (w : World) (r : Nat) (a : Option Addr) (len cap : Nat) (h : Rdr w r a len cap) (hn1 : 1 ≤ n) (hn2 : n ≤ 100) :
    Calls Try.prog 33 #[.pointer (some ⟨r, 0, none⟩), .int .i64 n] w (RdCmds n w r a len cap) := by
  have HR := Lib.hid h.lt
  have HS := Lib.hid (CS.start w r a len cap h)
  clear h
  go_enter Try.func33, Try.ntmps33
  go_wp2_with fail
  refine (below_any _ _ _ _ _ _ HS.out.went.rdr (by omega) (by omega)).mono ?_
  rintro e w1 ⟨⟨x, hx1, hx2, rfl⟩, hw⟩
  have HS := Lib.hid (HS.out.step HR.out hw)
  clear hw
  obtain ⟨x, rfl⟩ : ∃ k : Nat, x = k := ⟨x.toNat, by omega⟩
  go_wp2_with fail
  go_loopw [7, 6] (fun i o wr => ∃ (j k : Nat) (E : Els) (L : Cmds) (a1 : Option Addr) (l1 c1 : Nat) (g1 : Option Addr) (m1 d1 : Nat) (qc : Option Addr) (cc : Nat), (j : Int) + k ≤ n ∧ i = .int .i64 j ∧ o = .slice qc k cc ∧ Hid (L.length = k ∧ EP E ∧ ShortC L ∧ CS w r a len cap E a1 l1 c1 g1 m1 d1 L qc k cc wr)) (fun i _ _ => (intOf i).toNat)
  case atStart => exact ⟨x, 0, [], [], _, _, _, _, _, _, _, _, by omega, rfl, rfl, rfl, ep_nil, by intro c hc; simp at hc, HS.out⟩
  case round =>
    obtain ⟨j, k, E, L, a1, l1, c1, g1, m1, d1, qc, cc, hjk, rfl, rfl, HX⟩ := hrel
    clear HS
    have HL := Lib.hid HX.out.1
    have HEP := Lib.hid HX.out.2.1
    have HSH := Lib.hid HX.out.2.2.1
    have HS := Lib.hid HX.out.2.2.2
    clear HX
    by_cases hj : 0 < j
    · have hj1 : (0 : Int) < (j : Int) := by omega
      obtain ⟨n0, n1⟩ := row_two HS.out.now
      go_wp2_with fail
      refine (drawcmdG_any _ _ _ _ _ a1 g1 l1 c1 m1 d1 (objsOf E) HS.out.went.rdr (HS.out.objs HEP.out).1 (HS.out.objs HEP.out).2.1 (HS.out.objs HEP.out).2.2 (HS.out.apart HR.out)).mono ?_
      rintro e w2 ⟨kd, b, v, d, hb, hd, rfl, hw⟩
      have HS := Lib.hid (HS.out.step HR.out hw)
      clear hw n0 n1
      go_wp2_with fail
      refine (hurtcmd_any _ _ _ _ _ _ _ _ _ HS.out.went.rdr hb hd).mono ?_
      rintro e w3 ⟨kd, b, v, d, hb, hd, rfl, hw⟩
      have HS := Lib.hid (HS.out.step HR.out hw)
      clear hw
      have HB := Lib.hid hb
      have HD := Lib.hid hd
      clear hb hd
      have HC := Lib.hid (Row.new w3 57 #[.int .i64 kd, .string b, .int .i64 v, .string d])
      have HCB := Lib.hid (show w.heap.size + 1 ≤ w3.heap.size from HS.out.now.lt)
      have HS := Lib.hid (HS.out.keep HR.out (below_alloc (Below.refl _ _) (.cells #[.int .i64 kd, .string b, .int .i64 v, .string d] 57)))
      obtain ⟨C, hC⟩ : ∃ C, w3.heap.size = C := ⟨_, rfl⟩
      obtain ⟨w4, hw4⟩ : ∃ x, w3.alloc (.cells #[.int .i64 kd, .string b, .int .i64 v, .string d] 57) = x := ⟨_, rfl⟩
      rw [hC] at HC HCB
      rw [hw4] at HC HS
      obtain ⟨n0, n1⟩ := row_two HS.out.now
      have y0 := HC.out.cell (j := 0) (by simp)
      have y1 := HC.out.cell (j := 1) (by simp)
      have y2 := HC.out.cell (j := 2) (by simp)
      have y3 := HC.out.cell (j := 3) (by simp)
      simp at y0 y1 y2 y3
      go_wp2_with fail
      clear hw4 hC n0 n1 y0 y1 y2 y3
      have HSI := Lib.hid (HS.out.sto.in_ (stop_of_ep HEP.out))
      have HW4 := Lib.hid (show w.heap.size + 1 ≤ w4.heap.size from HS.out.now.lt)
      have HCN := Lib.hid (show C ≠ w.heap.size by have := HCB.out; omega)
      refine (l7done_any a1 g1 l1 c1 m1 d1 E kd b v d _ HEP.out HSI.out (by have := HB.out; unfold maxLen; omega) (by have := HD.out; unfold maxLen; omega)).mono ?_
      obtain ⟨R, hR⟩ : ∃ R, performE kd b v d E = R := ⟨_, rfl⟩
      have HER := Lib.hid (show EP R.1 by rw [← hR]; exact perf_ep HEP.out)
      rw [hR]
      clear hR
      rintro e w5 ⟨a2, l2, c2, g2, m2, d2, rfl, hB, hD⟩
      have HC := Lib.hid (HC.out.keep hB)
      have HS := Lib.hid (HS.out.keep HR.out hB)
      have HK := Lib.hid (keepD hD HS.out.sto HW4.out)
      have n0 := HS.out.now.cell (j := 0) (by simp)
      have n1 := HS.out.now.cell (j := 1) (by simp)
      have nf0 := HS.out.now.free 0
      have nf1 := HS.out.now.free 1
      simp at n0 n1
      have HS := Lib.hid (HS.out.put HR.out HK.out)
      obtain ⟨w6, hw6⟩ : ∃ x, (w5.setCell ⟨w.heap.size, 0, none⟩ (.slice a2 l2 c2)).setCell ⟨w.heap.size, 1, none⟩ (.slice g2 m2 d2) = x := ⟨_, rfl⟩
      rw [hw6] at HS
      have HC := Lib.hid ((HC.out.other (r := w.heap.size) HCN.out 0 (.slice a2 l2 c2)).other HCN.out 1 (.slice g2 m2 d2))
      rw [hw6] at HC
      clear hB hD HSI HK
      have y0 := HC.out.cell (j := 0) (by simp)
      have y1 := HC.out.cell (j := 1) (by simp)
      have y2 := HC.out.cell (j := 2) (by simp)
      have y3 := HC.out.cell (j := 3) (by simp)
      simp at y0 y1 y2 y3
      have HSA := Lib.hid (HS.out.keep HR.out (below_alloc (Below.refl _ _) (.cells #[.int .i64 kd, .string b, .int .i64 v, .string d] 57)))
      go_wp2_with (at_builtin; go_loud (refine append1_cmd rfl _ _ rfl (w.heap.size + 1) (.slice qc k cc) k L rfl HSA.out.out w6.heap.size _ kd b v d rfl (cmd_new w6 _ _ _ _ _) (by omega) HSA.out.now.lt ?_); intro q8 c8 w8 hown hgrow; have HP8 := Lib.hid (HSA.out.add HR.out hgrow hown); clear hown hgrow)
      go_roundw
      case rel => exact ⟨j - 1, k + 1, R.1, L ++ [(kd, b, v, d)], a2, l2, c2, g2, m2, d2, q8, c8, by omega, by rw [show ((j - 1 : Nat) : Int) = (j : Int) - 1 by omega], rfl, by rw [List.length_append, HL.out]; rfl, HER.out, HSH.out.add _ _ _ _ HB.out HD.out, HP8.out⟩
      case measure => simp [intOf]; omega
    · obtain rfl : j = 0 := by omega
      go_wp2
      go_ret
      exact ⟨qc, k, cc, L, by omega, rfl, HL.out, HSH.out, own_low HS.out.out (by omega), HS.out.went⟩
end Go.Proofs.Ytblpebdjbenphaa
