
/- The model's StorePlayed on commands that may be read. Only new blocks are made. -/
import Derived.Test.YtblpebdjbenphaaPlayM
import Derived.Test.YtblpebdjbenphaaL7Do
import Derived.Test.YtblpebdjbenphaaNums
import Derived.Deep.RegionWith
import Derived.BigRegion
namespace Go.Proofs.Ytblpebdjbenphaa
open Go.ChangeShapes Go.WideShapes Go.ChangeAt Go.RowKit
set_option linter.unusedVariables false
set_option maxRecDepth 100000

structure PS (w : World) (E : Els) (cs : List Int) (a1 : Option Addr) (l1 c1 : Nat) (g1 : Option Addr) (m1 d1 : Nat) (qc : Option Addr) (nc cc : Nat) (wr : World) : Prop where
  below : Below w.heap.size w wr
  res : Row wr w.heap.size 27 #[.slice none 0 0, .slice none 0 0]
  now : Row wr (w.heap.size + 1) 27 #[.slice a1 l1 c1, .slice g1 m1 d1]
  sto : StoK (w.heap.size + 2) wr a1 l1 c1 g1 m1 d1 (objsOf E) (gonsOf E)
  codes : wr.ownsRow (w.heap.size + 2) 2 1 (.slice qc nc cc) nc (cellsNum cs)
theorem PS.keep {w : World} {E : Els} {cs : List Int} {a1 : Option Addr} {l1 c1 : Nat} {g1 : Option Addr} {m1 d1 : Nat} {qc : Option Addr} {nc cc : Nat} {wr w2 : World} (h : PS w E cs a1 l1 c1 g1 m1 d1 qc nc cc wr) (hB : Below wr.heap.size wr w2) : PS w E cs a1 l1 c1 g1 m1 d1 qc nc cc w2 :=
  ⟨below_via h.below hB, h.res.keep hB, h.now.keep hB, h.sto.keep hB, own_below h.codes hB⟩
theorem PS.ge {w : World} {E : Els} {cs : List Int} {a1 : Option Addr} {l1 c1 : Nat} {g1 : Option Addr} {m1 d1 : Nat} {qc : Option Addr} {nc cc : Nat} {wr : World} (h : PS w E cs a1 l1 c1 g1 m1 d1 qc nc cc wr) : w.heap.size + 2 ≤ wr.heap.size := h.now.lt
/-- The new store is written into the variable. -/
theorem PS.step {w : World} {E E2 : Els} {cs : List Int} {a1 a2 : Option Addr} {l1 c1 l2 c2 : Nat} {g1 g2 : Option Addr} {m1 d1 m2 d2 : Nat} {qc : Option Addr} {nc cc : Nat} {y : World} (h : PS w E cs a1 l1 c1 g1 m1 d1 qc nc cc y) (hk : StoK (w.heap.size + 2) y a2 l2 c2 g2 m2 d2 (objsOf E2) (gonsOf E2)) :
    PS w E2 cs a2 l2 c2 g2 m2 d2 qc nc cc ((y.setCell ⟨w.heap.size + 1, 0, none⟩ (.slice a2 l2 c2)).setCell ⟨w.heap.size + 1, 1, none⟩ (.slice g2 m2 d2)) := by
  have hn : ∀ g, (Value.slice qc nc cc).ownBlock = some g → w.heap.size + 1 ≠ g := fun g hg => by have := (h.codes.lt g hg).1; omega
  refine ⟨(h.below.setCell (by show w.heap.size ≤ w.heap.size + 1; omega) _).setCell (by show w.heap.size ≤ w.heap.size + 1; omega) _, (Below.heap_setCell _ _ _ _ (by show w.heap.size ≠ w.heap.size + 1; omega)).trans ((Below.heap_setCell _ _ _ _ (by show w.heap.size ≠ w.heap.size + 1; omega)).trans h.res), (h.now.set 0 _).set 1 _, ?_, own_put (own_put h.codes hn 0 _) hn 1 _⟩
  have k1 := hk.put (X := w.heap.size + 1) (hk.at1.ne (by omega)) (hk.at2.ne (by omega)) 0 (.slice a2 l2 c2)
  exact k1.put (X := w.heap.size + 1) (k1.at1.ne (by omega)) (k1.at2.ne (by omega)) 1 (.slice g2 m2 d2)
theorem StoK.grownN {base b2 : Nat} {w w1 : World} {q1 q2 : Option Addr} {n1 c1 n2 c2 n : Nat} {l : Objs} {m : Gones} {v : Value} {xs : List Value} (h : StoK base w q1 n1 c1 q2 n2 c2 l m) (ho : w.ownsRow b2 2 1 v n xs) (hg : w.grownBy w1 v.ownBlock) : StoK base w1 q1 n1 c1 q2 n2 c2 l m := by
  have hlt : ∀ {q : Option Addr} {c : Nat}, AtB base w q c → AtB base w1 q c := fun h => by
    rcases h with h | ⟨g, a, b, c⟩
    · exact .inl h
    · exact .inr ⟨g, a, b, Nat.lt_of_lt_of_le c hg.size⟩
  refine ⟨?_, ?_, h.len1, h.len2, h.cap1, h.cap2, hlt h.at1, hlt h.at2, h.apart⟩
  · rcases h.o with h0 | ⟨g, cur, hq, hb, hr, h3, h4⟩
    · exact .inl h0
    · exact .inr ⟨g, cur, hq, hb, row_grownT hr ho (by decide) hg, h3, h4⟩
  · rcases h.g with h0 | ⟨g, cur, hq, hb, hr, h3, h4⟩
    · exact .inl h0
    · exact .inr ⟨g, cur, hq, hb, row_grownT hr ho (by decide) hg, h3, h4⟩
theorem PS.code {w : World} {E : Els} {cs cs2 : List Int} {a1 : Option Addr} {l1 c1 : Nat} {g1 : Option Addr} {m1 d1 : Nat} {qc qc2 : Option Addr} {nc cc nc2 cc2 : Nat} {wr w2 : World} (h : PS w E cs a1 l1 c1 g1 m1 d1 qc nc cc wr) (hg : wr.grownBy w2 (Value.slice qc nc cc).ownBlock) (ho : w2.ownsRow (w.heap.size + 2) 2 1 (.slice qc2 nc2 cc2) nc2 (cellsNum cs2)) : PS w E cs2 a1 l1 c1 g1 m1 d1 qc2 nc2 cc2 w2 := by
  have hge := own_ge_of h.codes (Nat.le_refl _)
  exact ⟨h.below.grown hg h.below.size (fun i hi => by have := hge i hi; omega), row_grownT h.res h.codes (by decide) hg, row_grownT h.now h.codes (by decide) hg, h.sto.grownN h.codes hg, ho⟩
theorem keepD {base base2 : Nat} {w5 : World} {E : Els} {R : Els × Int × Int} {a1 a2 : Option Addr} {l1 c1 l2 c2 : Nat} {g1 g2 : Option Addr} {m1 d1 m2 d2 : Nat} (h : (a2 = a1 ∧ l2 = l1 ∧ c2 = c1 ∧ g2 = g1 ∧ m2 = m1 ∧ d2 = d1 ∧ R.1 = E) ∨ StoK base2 w5 a2 l2 c2 g2 m2 d2 (objsOf R.1) (gonsOf R.1)) (hs : StoK base w5 a1 l1 c1 g1 m1 d1 (objsOf E) (gonsOf E)) (hb : base ≤ base2) : StoK base w5 a2 l2 c2 g2 m2 d2 (objsOf R.1) (gonsOf R.1) := by
  rcases h with ⟨rfl, rfl, rfl, rfl, rfl, rfl, hR⟩ | h
  · rw [hR]; exact hs
  · exact h.low hb

theorem keepDX {base base2 X : Nat} {w5 : World} {x y : Value} {E : Els} {R : Els × Int × Int} {a1 a2 : Option Addr} {l1 c1 l2 c2 : Nat} {g1 g2 : Option Addr} {m1 d1 m2 d2 : Nat} (h : (a2 = a1 ∧ l2 = l1 ∧ c2 = c1 ∧ g2 = g1 ∧ m2 = m1 ∧ d2 = d1 ∧ R.1 = E) ∨ StoK base2 w5 a2 l2 c2 g2 m2 d2 (objsOf R.1) (gonsOf R.1)) (hs : StoK base ((w5.setCell ⟨X, 0, none⟩ x).setCell ⟨X, 1, none⟩ y) a1 l1 c1 g1 m1 d1 (objsOf E) (gonsOf E)) (hb : base ≤ base2) (hX : X < base2) : StoK base ((w5.setCell ⟨X, 0, none⟩ x).setCell ⟨X, 1, none⟩ y) a2 l2 c2 g2 m2 d2 (objsOf R.1) (gonsOf R.1) := by
  rcases h with ⟨rfl, rfl, rfl, rfl, rfl, rfl, hR⟩ | h
  · rw [hR]; exact hs
  · have k1 := h.put (X := X) (h.at1.ne hX) (h.at2.ne hX) 0 x
    exact (k1.put (X := X) (k1.at1.ne hX) (k1.at2.ne hX) 1 y).low hb
/-- A store into a block that was not there. -/
theorem PS.put2 {w : World} {E : Els} {cs : List Int} {a1 : Option Addr} {l1 c1 : Nat} {g1 : Option Addr} {m1 d1 : Nat} {qc : Option Addr} {nc cc : Nat} {wr w5 : World} (h : PS w E cs a1 l1 c1 g1 m1 d1 qc nc cc wr) (hB : Below wr.heap.size wr w5) (x y : Value) : PS w E cs a1 l1 c1 g1 m1 d1 qc nc cc ((w5.setCell ⟨wr.heap.size, 0, none⟩ x).setCell ⟨wr.heap.size, 1, none⟩ y) :=
  h.keep ((hB.setCell (Nat.le_refl _) x).setCell (Nat.le_refl _) y)

/-- A store and codes: what StorePlayed hands back. -/
def MadeP (E : Els) (cs : List Int) (w : World) (e : Ending) (w' : World) : Prop :=
  ∃ q1 n1 c1 q2 n2 c2 qc nc cc, e = .returned (.tuple #[.agg #[.slice q1 n1 c1, .slice q2 n2 c2], .slice qc nc cc]) ∧ Below w.heap.size w w' ∧ StoK w.heap.size w' q1 n1 c1 q2 n2 c2 (objsOf E) (gonsOf E) ∧ w'.ownsRow w.heap.size 2 1 (.slice qc nc cc) nc (cellsNum cs) ∧ cs.length = nc
def MadePO (E : Els) (cs : List Int) (w : World) (e : Ending) (w' : World) : Prop :=
  ∃ q1 n1 c1 q2 n2 c2 qc nc cc, e = .returned (.tuple #[.agg #[.slice q1 n1 c1, .slice q2 n2 c2], .slice qc nc cc]) ∧ Below w.heap.size w w' ∧ StoK w.heap.size w' q1 n1 c1 q2 n2 c2 (objsOf E) (gonsOf E) ∧ w'.ownsRow w.heap.size 2 1 (.slice qc nc cc) nc (cellsNum cs) ∧ cs.length = nc ∧ w'.ownsRow w.heap.size 31 3 (.slice q1 n1 c1) n1 (cellsObj (objsOf E)) ∧ w'.ownsRow w.heap.size 45 2 (.slice q2 n2 c2) n2 (cellsGone (gonsOf E))
theorem PS.fin {w : World} {E : Els} {cs : List Int} {a1 : Option Addr} {l1 c1 : Nat} {g1 : Option Addr} {m1 d1 : Nat} {qc : Option Addr} {nc cc : Nat} {v0 u : World} {q1 q2 : Option Addr} {e1 e2 : Nat} (h : PS w E cs a1 l1 c1 g1 m1 d1 qc nc cc v0) (hB : Below v0.heap.size v0 u)
    (ho : u.ownsRow v0.heap.size 31 3 (.slice q1 l1 e1) l1 (cellsObj (objsOf E))) (hg : u.ownsRow v0.heap.size 45 2 (.slice q2 m1 e2) m1 (cellsGone (gonsOf E))) (hr : Row u w.heap.size 27 #[.slice none 0 0, .slice none 0 0]) (hv : w.heap.size + 2 ≤ v0.heap.size) :
    Below w.heap.size w ((u.setCell ⟨w.heap.size, 0, none⟩ (.slice q1 l1 e1)).setCell ⟨w.heap.size, 1, none⟩ (.slice q2 m1 e2)) ∧ StoK w.heap.size ((u.setCell ⟨w.heap.size, 0, none⟩ (.slice q1 l1 e1)).setCell ⟨w.heap.size, 1, none⟩ (.slice q2 m1 e2)) q1 l1 e1 q2 m1 e2 (objsOf E) (gonsOf E) ∧ ((u.setCell ⟨w.heap.size, 0, none⟩ (.slice q1 l1 e1)).setCell ⟨w.heap.size, 1, none⟩ (.slice q2 m1 e2)).ownsRow w.heap.size 2 1 (.slice qc nc cc) nc (cellsNum cs) ∧ ((u.setCell ⟨w.heap.size, 0, none⟩ (.slice q1 l1 e1)).setCell ⟨w.heap.size, 1, none⟩ (.slice q2 m1 e2)).ownsRow w.heap.size 31 3 (.slice q1 l1 e1) l1 (cellsObj (objsOf E)) ∧ ((u.setCell ⟨w.heap.size, 0, none⟩ (.slice q1 l1 e1)).setCell ⟨w.heap.size, 1, none⟩ (.slice q2 m1 e2)).ownsRow w.heap.size 45 2 (.slice q2 m1 e2) m1 (cellsGone (gonsOf E)) := by
  have k0 := made_k (w := w) ho hg hv hv h.sto.len1 h.sto.len2
  have k1 := k0.put (X := w.heap.size) (k0.at1.ne (by omega)) (k0.at2.ne (by omega)) 0 (.slice q1 l1 e1)
  have k2 := k1.put (X := w.heap.size) (k1.at1.ne (by omega)) (k1.at2.ne (by omega)) 1 (.slice q2 m1 e2)
  have hc := (h.keep hB).codes
  have hn : ∀ g, (Value.slice qc nc cc).ownBlock = some g → w.heap.size ≠ g := fun g hg => by have := (hc.lt g hg).1; omega
  exact ⟨((h.keep hB).below.setCell (Nat.le_refl _) _).setCell (Nat.le_refl _) _, k2.low (by omega), own_low (own_put (own_put hc hn 0 _) hn 1 _) (by omega),
    own_low (own_put (own_put ho (fun g hg => by have := (ho.lt g hg).1; omega) 0 _) (fun g hg => by have := (ho.lt g hg).1; omega) 1 _) (by omega),
    own_low (own_put (own_put hg (fun g hg' => by have := (hg.lt g hg').1; omega) 0 _) (fun g hg' => by have := (hg.lt g hg').1; omega) 1 _) (by omega)⟩

set_option maxHeartbeats 8000000 in
theorem splayedO_any (a : Option Addr) (len cap : Nat) (l : Cmds) (w : World) (h : CmdsAt w a len l) (hlen : len ≤ 1048576) :
    Calls Try.prog 32 #[.slice a len cap] w (MadePO (playE l len).1 (playE l len).2 w) := by
  have HC := Lib.hid h
  clear h
  have hPS : PS w [] [] none 0 0 none 0 0 (some ⟨w.heap.size + 1 + 1, 0, none⟩) 0 0 (((w.alloc (.cells #[.slice none 0 0, .slice none 0 0] 27)).alloc (.cells #[.slice none 0 0, .slice none 0 0] 27)).alloc (.cells #[] 2)) := by
    refine ⟨below_alloc (below_alloc (below_alloc (Below.refl _ _) _) _) _, ((row_new _ _ _).al _).al _, (row_new1 _ _ _ _).al _, StoK.nil _ _, ⟨rfl, .inr ⟨w.heap.size + 1 + 1, 0, #[], rfl, by omega, ?_, Nat.le_refl _, Nat.zero_le _, rfl, rfl⟩⟩⟩
    have h := row_new ((w.alloc (.cells #[.slice none 0 0, .slice none 0 0] 27)).alloc (.cells #[.slice none 0 0, .slice none 0 0] 27)) #[] 2
    rwa [show ((w.alloc (.cells #[.slice none 0 0, .slice none 0 0] 27)).alloc (.cells #[.slice none 0 0, .slice none 0 0] 27)).heap.size = w.heap.size + 1 + 1 by simp] at h
  have HPS := Lib.hid hPS
  clear hPS
  go_enter Try.func32, Try.ntmps32
  go_wp2_with fail
  go_loopw [5, 6] (fun s i wr => ∃ k : Nat, k ≤ len ∧ i = .int .i64 k ∧ (200 < len → k = 0) ∧ ∃ a1 l1 c1 g1 m1 d1 qc cc, s = .slice qc k cc ∧ Hid (PS w (playK l k).1 (playK l k).2 a1 l1 c1 g1 m1 d1 qc k cc wr)) (fun _ i _ => len - (intOf i).toNat)
  case atStart => exact ⟨0, Nat.zero_le _, rfl, fun _ => rfl, _, _, _, _, _, _, _, _, rfl, HPS.out⟩
  case round =>
    obtain ⟨k, hk, rfl, h200, a1, l1, c1, g1, m1, d1, qc, cc, rfl, HW⟩ := hrel
    clear HPS
    by_cases hgo : k < len ∧ len ≤ 200
    · obtain ⟨hlt, hle⟩ := hgo
      have hi1 : (k : Int) < (len : Int) := by omega
      have hi2 : (len : Int) ≤ 200 := by omega
      rcases HC.out.src with hz | ⟨b, off, rfl, hb, hc⟩
      · omega
      · obtain ⟨hc0, hc1, hc2, hc3⟩ := hc k hlt
        have HKY := Lib.hid (HC.out.keys k hlt)
        obtain ⟨kd, hkd⟩ : ∃ x, cmd0 l k = x := ⟨_, rfl⟩
        obtain ⟨ky, hky⟩ : ∃ x, cmd1 l k = x := ⟨_, rfl⟩
        obtain ⟨vr, hvr⟩ : ∃ x, cmd2 l k = x := ⟨_, rfl⟩
        obtain ⟨dt, hdt⟩ : ∃ x, cmd3 l k = x := ⟨_, rfl⟩
        obtain ⟨E, hE⟩ : ∃ x, (playK l k).1 = x := ⟨_, rfl⟩
        obtain ⟨cs, hcs⟩ : ∃ x, (playK l k).2 = x := ⟨_, rfl⟩
        obtain ⟨R, hR⟩ : ∃ R, performE kd ky vr dt E = R := ⟨_, rfl⟩
        have HNX := Lib.hid (show playK l (k + 1) = (R.1, cs ++ [R.2.2]) by rw [← hR, ← hE, ← hcs, ← hkd, ← hky, ← hvr, ← hdt]; rfl)
        have HEP := Lib.hid (show EP E by rw [← hE]; exact play_ep l k)
        rw [hkd] at hc0
        rw [hky] at hc1 HKY
        rw [hvr] at hc2
        rw [hdt] at hc3 HKY
        rw [hE, hcs] at HW
        have HRR := Lib.hid hR
        have x0 := (HW.out.below.cell (p := ⟨b, off + k * 4, none⟩) hb).trans hc0
        have x1 := (HW.out.below.cell (p := ⟨b, off + k * 4 + 1, none⟩) hb).trans hc1
        have x2 := (HW.out.below.cell (p := ⟨b, off + k * 4 + 2, none⟩) hb).trans hc2
        have x3 := (HW.out.below.cell (p := ⟨b, off + k * 4 + 3, none⟩) hb).trans hc3
        have hb2 : b < wr.heap.size := Nat.lt_of_lt_of_le hb HW.out.below.size
        obtain ⟨n0, n1⟩ := row_two HW.out.now
        have al := fun o => below_alloc (Below.refl wr.heap.size wr) o
        have x0a := fun o => ((al o).cell (p := ⟨b, off + k * 4, none⟩) hb2).trans x0
        have x1a := fun o => ((al o).cell (p := ⟨b, off + k * 4 + 1, none⟩) hb2).trans x1
        have x2a := fun o => ((al o).cell (p := ⟨b, off + k * 4 + 2, none⟩) hb2).trans x2
        have x3a := fun o => ((al o).cell (p := ⟨b, off + k * 4 + 3, none⟩) hb2).trans x3
        have n0a := fun o => ((al o).cell (p := ⟨w.heap.size + 1, 0, none⟩) HW.out.now.lt).trans n0
        have n1a := fun o => ((al o).cell (p := ⟨w.heap.size + 1, 1, none⟩) HW.out.now.lt).trans n1
        have hi0 : (0 : Int) ≤ (k : Int) := by omega
        clear al hc hc0 hc1 hc2 hc3 hkd hky hvr hdt hE hcs hR hb
        go_wp2_with fail
        have HSP := Lib.hid (stop_of_ep HEP.out)
        have HI1 := Lib.hid (show StoI wr.drew a1 l1 c1 (objsOf E) g1 m1 d1 (gonsOf E) from (HW.out.sto.keep (Below.refl _ _).drew).in_ HSP.out)
        have HI2 := Lib.hid (show StoI (wr.alloc (.cells #[.slice none 0 0, .slice none 0 0] 27)).drew a1 l1 c1 (objsOf E) g1 m1 d1 (gonsOf E) from (HW.out.sto.keep (below_alloc (Below.refl _ _) _).drew).in_ HSP.out)
        go_region_with (first
          | (go_at_call 40; refine (l7done_any a1 g1 l1 c1 m1 d1 E kd ky vr dt _ HEP.out HI1.out HKY.out.1 HKY.out.2).mono ?_; rw [HRR.out]; rintro e w5 ⟨a2, l2, c2, g2, m2, d2, rfl, hB, hD⟩; obtain ⟨y, hy⟩ : ∃ x, w5.alloc (.cells #[.slice a2 l2 c2, .slice g2 m2 d2] 27) = x := ⟨_, rfl⟩; have hPy : PS w E cs a1 l1 c1 g1 m1 d1 qc k cc y := (by rw [← hy]; exact (HW.out.keep (below_via (Below.refl _ _).drew hB)).keep (below_alloc (Below.refl _ _) _)); have hKy : StoK (w.heap.size + 2) y a2 l2 c2 g2 m2 d2 (objsOf R.1) (gonsOf R.1) := (by rw [← hy]; exact (keepD hD (HW.out.keep (below_via (Below.refl _ _).drew hB)).sto HW.out.ge).keep (below_alloc (Below.refl _ _) _)); have hR7 : Row y w5.heap.size 27 #[.slice a2 l2 c2, .slice g2 m2 d2] := (by rw [← hy]; exact row_new _ _ _); have HPy := Lib.hid hPy; have HKy := Lib.hid hKy; obtain ⟨t0, t1⟩ := row_two hR7; obtain ⟨n0y, n1y⟩ := row_two hPy.now; have fn0 := hPy.now.free 0; have fn1 := hPy.now.free 1; have hSt := hPy.step hKy; obtain ⟨z, hz⟩ : ∃ x, (y.setCell ⟨w.heap.size + 1, 0, none⟩ (.slice a2 l2 c2)).setCell ⟨w.heap.size + 1, 1, none⟩ (.slice g2 m2 d2) = x := ⟨_, rfl⟩; rw [hz] at hSt; have HZ := Lib.hid hSt; clear hPy hKy hSt hR7 hB hD)
          | (go_at_call 40; refine (l7done_any a1 g1 l1 c1 m1 d1 E kd ky vr dt _ HEP.out HI2.out HKY.out.1 HKY.out.2).mono ?_; rw [HRR.out]; rintro e w5 ⟨a2, l2, c2, g2, m2, d2, rfl, hB, hD⟩; have hX := Row.keep (w := (wr.alloc (.cells #[.slice none 0 0, .slice none 0 0] 27)).drew) (row_new wr #[.slice none 0 0, .slice none 0 0] 27) hB; obtain ⟨p0, p1⟩ := row_two hX; have q0 := hX.free 0; have q1 := hX.free 1; obtain ⟨y, hy⟩ : ∃ x, (w5.setCell ⟨wr.heap.size, 0, none⟩ (.slice a2 l2 c2)).setCell ⟨wr.heap.size, 1, none⟩ (.slice g2 m2 d2) = x := ⟨_, rfl⟩; have hPy : PS w E cs a1 l1 c1 g1 m1 d1 qc k cc y := (by rw [← hy]; exact PS.put2 HW.out (below_via (below_alloc (Below.refl _ _) _).drew hB) _ _); have hKy : StoK (w.heap.size + 2) y a2 l2 c2 g2 m2 d2 (objsOf R.1) (gonsOf R.1) := (by have hs := hPy.sto; rw [← hy] at hs ⊢; exact keepDX hD hs (by have := HW.out.ge; simp; omega) (by simp)); have hR7 : Row y wr.heap.size 27 #[.slice a2 l2 c2, .slice g2 m2 d2] := (by rw [← hy]; exact (hX.set 0 (.slice a2 l2 c2)).set 1 (.slice g2 m2 d2)); clear hX; have HPy := Lib.hid hPy; have HKy := Lib.hid hKy; obtain ⟨t0, t1⟩ := row_two hR7; obtain ⟨n0y, n1y⟩ := row_two hPy.now; have fn0 := hPy.now.free 0; have fn1 := hPy.now.free 1; have hSt := hPy.step hKy; obtain ⟨z, hz⟩ : ∃ x, (y.setCell ⟨w.heap.size + 1, 0, none⟩ (.slice a2 l2 c2)).setCell ⟨w.heap.size + 1, 1, none⟩ (.slice g2 m2 d2) = x := ⟨_, rfl⟩; rw [hz] at hSt; have HZ := Lib.hid hSt; clear hPy hKy hSt hR7 hB hD))
        all_goals
          clear n0 n1 x0 x1 x2 x3 x0a x1a x2a x3a n0a n1a
          go_wp2_with (at_builtin; go_loud (refine append1_num rfl _ _ rfl (w.heap.size + 2) (.slice qc k cc) k cs rfl (HZ.out.keep (below_alloc (Below.refl _ _) (.cells #[.int .i64 R.2.2] 2))).codes z.heap.size _ R.2.2 rfl (num_new z _ _) (by omega) (HZ.out.keep (below_alloc (Below.refl _ _) (.cells #[.int .i64 R.2.2] 2))).ge ?_); intro q8 c8 w8 hown hgrow; have HP8 := Lib.hid ((HZ.out.keep (below_alloc (Below.refl _ _) (.cells #[.int .i64 R.2.2] 2))).code hgrow hown); clear hown hgrow)
          go_roundw
          case rel => exact ⟨k + 1, by omega, by go_num, fun h => by omega, a2, l2, c2, g2, m2, d2, q8, c8, rfl, by rw [HNX.out]; exact HP8.out⟩
          case measure => simp [intOf]; omega
    · have HFIN : ∃ E cs, Hid (E = (playE l len).1 ∧ cs = (playE l len).2 ∧ cs.length = k ∧ EP E ∧ k ≤ 200) ∧ Hid (PS w E cs a1 l1 c1 g1 m1 d1 qc k cc wr) := by
        by_cases hb : 200 < len
        · obtain rfl := h200 hb
          exact ⟨_, _, ⟨by unfold playE; rw [if_pos hb]; rfl, by unfold playE; rw [if_pos hb]; rfl, rfl, play_ep l 0, by omega⟩, HW⟩
        · obtain rfl : k = len := by omega
          exact ⟨_, _, ⟨by unfold playE; rw [if_neg hb], by unfold playE; rw [if_neg hb], play_len l k, play_ep l k, by omega⟩, HW⟩
      clear HW
      obtain ⟨E, cs, HE, HW⟩ := HFIN
      have hel := objs_gons_len E
      have hef := HE.out.2.2.2.1.few
      have hs1 := HW.out.sto.len1
      have hs2 := HW.out.sto.len2
      have HPD := Lib.hid (show PS w E cs a1 l1 c1 g1 m1 d1 qc k cc wr.drew from HW.out.keep (Below.refl _ _).drew)
      have hcases : (k < len ∧ 200 < len) ∨ ¬ k < len := by omega
      rcases hcases with ⟨hlt, hbg⟩ | hlt
      · have hi1 : (k : Int) < (len : Int) := by omega
        have hi2 : ¬ (len : Int) ≤ 200 := by omega
        clear hgo h200 HC
        go_wp2_with fail
        refine wp_region_noPanic ?_
        refine wp_region_held_drew (S := (fun w' => w'.cell? ⟨w.heap.size + 1, 0, none⟩ = some (.slice a1 l1 c1) ∧ w'.cell? ⟨w.heap.size + 1, 1, none⟩ = some (.slice g1 m1 d1))) (by kernel_rfl) (⟨(row_two HPD.out.now).1, (row_two HPD.out.now).2⟩) (fun HS => ?_)
        obtain ⟨v0, hv0⟩ : ∃ x, wr.drew = x := ⟨_, rfl⟩
        rw [hv0] at HPD HS ⊢
        clear hv0
        have HPU := HPD
        have HBU := Lib.hid (Below.refl v0.heap.size v0)
        have HSA := Lib.hid (HPU.out.sto.in_ (stop_of_ep HE.out.2.2.2.1))
        refine held_take (i := 1) (d := 37) (v := .pointer (some ⟨w.heap.size + 1, 0, none⟩)) rfl rfl (by kernel_rfl) (by kernel_rfl) (by kernel_rfl) (by kernel_rfl) (fun wx hS => by go_simp) HS ?_
        refine held_take (i := 2) (d := 38) (v := .slice a1 l1 c1) rfl rfl (by kernel_rfl) (by kernel_rfl) (by kernel_rfl) (by kernel_rfl) (fun wx hS => by have h0 := hS.1; go_simp) HS ?_
        refine held_take (i := 5) (d := 41) (v := .pointer (some ⟨w.heap.size + 1, 1, none⟩)) rfl rfl (by kernel_rfl) (by kernel_rfl) (by kernel_rfl) (by kernel_rfl) (fun wx hS => by go_simp) HS ?_
        refine held_take (i := 6) (d := 42) (v := .slice g1 m1 d1) rfl rfl (by kernel_rfl) (by kernel_rfl) (by kernel_rfl) (by kernel_rfl) (fun wx hS => by have h0 := hS.2; go_simp) HS ?_
        refine held_take (i := 9) (d := 45) (v := .slice qc k cc) rfl rfl (by kernel_rfl) (by kernel_rfl) (by kernel_rfl) (by kernel_rfl) (fun wx hS => by go_simp) HS ?_
        refine wpAnyH_ready (rs := [0, 4]) (by kernel_rfl) (by simp) (AllReadyH.cons rfl (fun K hK => ?_) (AllReadyH.cons rfl (fun K hK => ?_) AllReadyH.nil))
        · skip
          go_simp
          have HB2 := Lib.hid (below_alloc HBU.out (.cells #[] 31))
          have HNEW := Lib.hid (own_zeroObj (row_new v0 #[] 31) (show v0.heap.size ≤ _ from HBU.out.size))
          obtain ⟨B36, hb36⟩ : ∃ x, v0.heap.size = x := ⟨_, rfl⟩
          obtain ⟨v1, hu2⟩ : ∃ x, v0.alloc (.cells #[] 31) = x := ⟨_, rfl⟩
          have HV0 := Lib.hid hb36
          rw [show (Value.slice (some ⟨v0.heap.size, 0, none⟩) 0 0) = .slice (some ⟨B36, 0, none⟩) 0 0 by rw [hb36]] at HNEW
          rw [hb36]
          rw [hu2] at HB2 HNEW ⊢
          clear hb36 hu2 HBU
          have HO36 := HNEW
          have HBU := HB2
          clear HNEW HB2
          refine hK.out _ _ (⟨(row_two (HPU.out.keep HBU.out).now).1, (row_two (HPU.out.keep HBU.out).now).2⟩) (fun HS => ?_)
          clear hK K
          refine wpAnyH_ready (rs := [3, 4]) (by kernel_rfl) (by simp) (AllReadyH.cons rfl (fun K hK => ?_) (AllReadyH.cons rfl (fun K hK => ?_) AllReadyH.nil))
          · skip
            refine step_append_obj rfl _ _ rfl v0.heap.size (.slice (some ⟨B36, 0, none⟩) 0 0) 0 [] rfl HO36.out _ l1 _ (objsOf E) rfl (HSA.out.at_.keep HBU.out).o HSA.out.nilo (by omega) HBU.out.size ?_
            intro q1 e1 v2 hown hgrow
            simp only [List.nil_append] at hown
            have HO1 := Lib.hid hown
            have HB2 := Lib.hid (HBU.out.grown hgrow HBU.out.size (fun i hi => own_ge_of HO36.out (Nat.le_refl _) i hi))
            have HBU := HB2
            clear hown hgrow HB2 HO36
            refine hK.out _ _ (⟨(row_two (HPU.out.keep HBU.out).now).1, (row_two (HPU.out.keep HBU.out).now).2⟩) (fun HS => ?_)
            clear hK K
            refine wpAnyH_ready (rs := [4]) (by kernel_rfl) (by simp) (AllReadyH.cons rfl (fun K hK => ?_) AllReadyH.nil)
            go_simp
            have HB2 := Lib.hid (below_alloc HBU.out (.cells #[] 45))
            have HNEW := Lib.hid (own_zeroGone (row_new v2 #[] 45) (show v0.heap.size ≤ _ from HBU.out.size))
            have HO1 := Lib.hid (own_below HO1.out (below_alloc (Below.refl _ _) (.cells #[] 45)))
            obtain ⟨B40, hb40⟩ : ∃ x, v2.heap.size = x := ⟨_, rfl⟩
            obtain ⟨v3, hu2⟩ : ∃ x, v2.alloc (.cells #[] 45) = x := ⟨_, rfl⟩
            rw [hb40] at HNEW ⊢
            rw [hu2] at HB2 HNEW HO1 ⊢
            clear hb40 hu2 HBU
            have HO40 := HNEW
            have HBU := HB2
            clear HNEW HB2
            refine hK.out _ _ (⟨(row_two (HPU.out.keep HBU.out).now).1, (row_two (HPU.out.keep HBU.out).now).2⟩) (fun HS => ?_)
            clear hK K
            refine wpAnyH_ready (rs := [7]) (by kernel_rfl) (by simp) (AllReadyH.cons rfl (fun K hK => ?_) AllReadyH.nil)
            refine step_append_gone rfl _ _ rfl v0.heap.size (.slice (some ⟨B40, 0, none⟩) 0 0) 0 [] rfl HO40.out _ m1 _ (gonsOf E) rfl (HSA.out.at_.keep HBU.out).d HSA.out.nilg (by omega) HBU.out.size ?_
            intro q2 e2 v4 hown hgrow
            simp only [List.nil_append] at hown
            have HO2 := Lib.hid hown
            have HB2 := Lib.hid (HBU.out.grown hgrow HBU.out.size (fun i hi => own_ge_of HO40.out (Nat.le_refl _) i hi))
            have HO1 := Lib.hid (own_grown HO1.out hgrow (own_apartT HO1.out HO40.out (by decide)))
            have HBU := HB2
            clear hown hgrow HB2 HO40
            refine hK.out _ _ (⟨(row_two (HPU.out.keep HBU.out).now).1, (row_two (HPU.out.keep HBU.out).now).2⟩) (fun HS => ?_)
            clear hK K
            refine held_take (i := 8) (d := 44) (v := .agg #[.slice q1 (0 + l1) e1, .slice q2 (0 + m1) e2]) rfl rfl (by kernel_rfl) (by kernel_rfl) (by kernel_rfl) (by kernel_rfl) (fun wx hS => by go_simp) HS ?_
            refine wpAnyH_ready (rs := [10]) (by kernel_rfl) (by simp) (AllReadyH.cons rfl (fun K hK => ?_) AllReadyH.nil)
            have hrz := (HPU.out.keep HBU.out).res
            have hnz := (HPU.out.keep HBU.out).now
            obtain ⟨k0, k1⟩ := row_two hrz
            have kf0 := hrz.free 0
            have kf1 := hrz.free 1
            go_simp
            have HRZ := Lib.hid hrz
            have HNZ := Lib.hid (show Row ((v4.setCell ⟨w.heap.size, 0, none⟩ (.slice q1 l1 e1)).setCell ⟨w.heap.size, 1, none⟩ (.slice q2 m1 e2)) (w.heap.size + 1) 27 #[.slice a1 l1 c1, .slice g1 m1 d1] from (Below.heap_setCell _ _ _ _ (by show w.heap.size + 1 ≠ w.heap.size; omega)).trans ((Below.heap_setCell _ _ _ _ (by show w.heap.size + 1 ≠ w.heap.size; omega)).trans hnz))
            refine hK.out _ _ (⟨(row_two HNZ.out).1, (row_two HNZ.out).2⟩) (fun HS => ?_)
            clear hK K k0 k1 kf0 kf1 hrz hnz
            refine held_take (i := 11) (d := 3) (v := .slice qc k cc) rfl rfl (by kernel_rfl) (by kernel_rfl) (by kernel_rfl) (by kernel_rfl) (fun wx hS => by go_simp) HS ?_
            refine wpAnyH_done (by kernel_rfl) (NoPanic.normal ?_) _
            simp only [Nat.zero_add] at HO1 HO2
            have hb := ((HRZ.out.set 0 (.slice q1 l1 e1)).set 1 (.slice q2 m1 e2))
            have HFZ := Lib.hid (PS.fin HPU.out HBU.out HO1.out HO2.out HRZ.out (Nat.le_trans HPU.out.ge (Nat.le_refl _)))
            unfold Row at hb
            go_wp2
            exact bodyPost_ret (v := .tuple #[.agg #[.slice q1 l1 e1, .slice q2 m1 e2], .slice qc k cc]) (by simp [results, Try.results32, go_sem, World.cell?, hb]) rfl (by
              rw [← HE.out.1, ← HE.out.2.1]
              exact ⟨q1, _, e1, q2, _, e2, qc, k, cc, rfl, HFZ.out.1, HFZ.out.2.1, HFZ.out.2.2.1, HE.out.2.2.1, HFZ.out.2.2.2.1, HFZ.out.2.2.2.2⟩)
          · skip
            go_simp
            have HB2 := Lib.hid (below_alloc HBU.out (.cells #[] 45))
            have HNEW := Lib.hid (own_zeroGone (row_new v1 #[] 45) (show v0.heap.size ≤ _ from HBU.out.size))
            have HO36 := Lib.hid (own_below HO36.out (below_alloc (Below.refl _ _) (.cells #[] 45)))
            obtain ⟨B40, hb40⟩ : ∃ x, v1.heap.size = x := ⟨_, rfl⟩
            obtain ⟨v2, hu2⟩ : ∃ x, v1.alloc (.cells #[] 45) = x := ⟨_, rfl⟩
            rw [hb40] at HNEW ⊢
            rw [hu2] at HB2 HNEW HO36 ⊢
            clear hb40 hu2 HBU
            have HO40 := HNEW
            have HBU := HB2
            clear HNEW HB2
            refine hK.out _ _ (⟨(row_two (HPU.out.keep HBU.out).now).1, (row_two (HPU.out.keep HBU.out).now).2⟩) (fun HS => ?_)
            clear hK K
            refine wpAnyH_ready (rs := [3]) (by kernel_rfl) (by simp) (AllReadyH.cons rfl (fun K hK => ?_) AllReadyH.nil)
            refine step_append_obj rfl _ _ rfl v0.heap.size (.slice (some ⟨B36, 0, none⟩) 0 0) 0 [] rfl HO36.out _ l1 _ (objsOf E) rfl (HSA.out.at_.keep HBU.out).o HSA.out.nilo (by omega) HBU.out.size ?_
            intro q1 e1 v3 hown hgrow
            simp only [List.nil_append] at hown
            have HO1 := Lib.hid hown
            have HB2 := Lib.hid (HBU.out.grown hgrow HBU.out.size (fun i hi => own_ge_of HO36.out (Nat.le_refl _) i hi))
            have HO40 := Lib.hid (own_grown HO40.out hgrow (own_apartT HO40.out HO36.out (by decide)))
            have HBU := HB2
            clear hown hgrow HB2 HO36
            refine hK.out _ _ (⟨(row_two (HPU.out.keep HBU.out).now).1, (row_two (HPU.out.keep HBU.out).now).2⟩) (fun HS => ?_)
            clear hK K
            refine wpAnyH_ready (rs := [7]) (by kernel_rfl) (by simp) (AllReadyH.cons rfl (fun K hK => ?_) AllReadyH.nil)
            refine step_append_gone rfl _ _ rfl v0.heap.size (.slice (some ⟨B40, 0, none⟩) 0 0) 0 [] rfl HO40.out _ m1 _ (gonsOf E) rfl (HSA.out.at_.keep HBU.out).d HSA.out.nilg (by omega) HBU.out.size ?_
            intro q2 e2 v4 hown hgrow
            simp only [List.nil_append] at hown
            have HO2 := Lib.hid hown
            have HB2 := Lib.hid (HBU.out.grown hgrow HBU.out.size (fun i hi => own_ge_of HO40.out (Nat.le_refl _) i hi))
            have HO1 := Lib.hid (own_grown HO1.out hgrow (own_apartT HO1.out HO40.out (by decide)))
            have HBU := HB2
            clear hown hgrow HB2 HO40
            refine hK.out _ _ (⟨(row_two (HPU.out.keep HBU.out).now).1, (row_two (HPU.out.keep HBU.out).now).2⟩) (fun HS => ?_)
            clear hK K
            refine held_take (i := 8) (d := 44) (v := .agg #[.slice q1 (0 + l1) e1, .slice q2 (0 + m1) e2]) rfl rfl (by kernel_rfl) (by kernel_rfl) (by kernel_rfl) (by kernel_rfl) (fun wx hS => by go_simp) HS ?_
            refine wpAnyH_ready (rs := [10]) (by kernel_rfl) (by simp) (AllReadyH.cons rfl (fun K hK => ?_) AllReadyH.nil)
            have hrz := (HPU.out.keep HBU.out).res
            have hnz := (HPU.out.keep HBU.out).now
            obtain ⟨k0, k1⟩ := row_two hrz
            have kf0 := hrz.free 0
            have kf1 := hrz.free 1
            go_simp
            have HRZ := Lib.hid hrz
            have HNZ := Lib.hid (show Row ((v4.setCell ⟨w.heap.size, 0, none⟩ (.slice q1 l1 e1)).setCell ⟨w.heap.size, 1, none⟩ (.slice q2 m1 e2)) (w.heap.size + 1) 27 #[.slice a1 l1 c1, .slice g1 m1 d1] from (Below.heap_setCell _ _ _ _ (by show w.heap.size + 1 ≠ w.heap.size; omega)).trans ((Below.heap_setCell _ _ _ _ (by show w.heap.size + 1 ≠ w.heap.size; omega)).trans hnz))
            refine hK.out _ _ (⟨(row_two HNZ.out).1, (row_two HNZ.out).2⟩) (fun HS => ?_)
            clear hK K k0 k1 kf0 kf1 hrz hnz
            refine held_take (i := 11) (d := 3) (v := .slice qc k cc) rfl rfl (by kernel_rfl) (by kernel_rfl) (by kernel_rfl) (by kernel_rfl) (fun wx hS => by go_simp) HS ?_
            refine wpAnyH_done (by kernel_rfl) (NoPanic.normal ?_) _
            simp only [Nat.zero_add] at HO1 HO2
            have hb := ((HRZ.out.set 0 (.slice q1 l1 e1)).set 1 (.slice q2 m1 e2))
            have HFZ := Lib.hid (PS.fin HPU.out HBU.out HO1.out HO2.out HRZ.out (Nat.le_trans HPU.out.ge (Nat.le_refl _)))
            unfold Row at hb
            go_wp2
            exact bodyPost_ret (v := .tuple #[.agg #[.slice q1 l1 e1, .slice q2 m1 e2], .slice qc k cc]) (by simp [results, Try.results32, go_sem, World.cell?, hb]) rfl (by
              rw [← HE.out.1, ← HE.out.2.1]
              exact ⟨q1, _, e1, q2, _, e2, qc, k, cc, rfl, HFZ.out.1, HFZ.out.2.1, HFZ.out.2.2.1, HE.out.2.2.1, HFZ.out.2.2.2.1, HFZ.out.2.2.2.2⟩)
        · skip
          go_simp
          have HB2 := Lib.hid (below_alloc HBU.out (.cells #[] 45))
          have HNEW := Lib.hid (own_zeroGone (row_new v0 #[] 45) (show v0.heap.size ≤ _ from HBU.out.size))
          obtain ⟨B40, hb40⟩ : ∃ x, v0.heap.size = x := ⟨_, rfl⟩
          obtain ⟨v1, hu2⟩ : ∃ x, v0.alloc (.cells #[] 45) = x := ⟨_, rfl⟩
          have HV0 := Lib.hid hb40
          rw [show (Value.slice (some ⟨v0.heap.size, 0, none⟩) 0 0) = .slice (some ⟨B40, 0, none⟩) 0 0 by rw [hb40]] at HNEW
          rw [hb40]
          rw [hu2] at HB2 HNEW ⊢
          clear hb40 hu2 HBU
          have HO40 := HNEW
          have HBU := HB2
          clear HNEW HB2
          refine hK.out _ _ (⟨(row_two (HPU.out.keep HBU.out).now).1, (row_two (HPU.out.keep HBU.out).now).2⟩) (fun HS => ?_)
          clear hK K
          refine wpAnyH_ready (rs := [0]) (by kernel_rfl) (by simp) (AllReadyH.cons rfl (fun K hK => ?_) AllReadyH.nil)
          go_simp
          have HB2 := Lib.hid (below_alloc HBU.out (.cells #[] 31))
          have HNEW := Lib.hid (own_zeroObj (row_new v1 #[] 31) (show v0.heap.size ≤ _ from HBU.out.size))
          have HO40 := Lib.hid (own_below HO40.out (below_alloc (Below.refl _ _) (.cells #[] 31)))
          obtain ⟨B36, hb36⟩ : ∃ x, v1.heap.size = x := ⟨_, rfl⟩
          obtain ⟨v2, hu2⟩ : ∃ x, v1.alloc (.cells #[] 31) = x := ⟨_, rfl⟩
          rw [hb36] at HNEW ⊢
          rw [hu2] at HB2 HNEW HO40 ⊢
          clear hb36 hu2 HBU
          have HO36 := HNEW
          have HBU := HB2
          clear HNEW HB2
          refine hK.out _ _ (⟨(row_two (HPU.out.keep HBU.out).now).1, (row_two (HPU.out.keep HBU.out).now).2⟩) (fun HS => ?_)
          clear hK K
          refine wpAnyH_ready (rs := [3]) (by kernel_rfl) (by simp) (AllReadyH.cons rfl (fun K hK => ?_) AllReadyH.nil)
          refine step_append_obj rfl _ _ rfl v0.heap.size (.slice (some ⟨B36, 0, none⟩) 0 0) 0 [] rfl HO36.out _ l1 _ (objsOf E) rfl (HSA.out.at_.keep HBU.out).o HSA.out.nilo (by omega) HBU.out.size ?_
          intro q1 e1 v3 hown hgrow
          simp only [List.nil_append] at hown
          have HO1 := Lib.hid hown
          have HB2 := Lib.hid (HBU.out.grown hgrow HBU.out.size (fun i hi => own_ge_of HO36.out (Nat.le_refl _) i hi))
          have HO40 := Lib.hid (own_grown HO40.out hgrow (own_apartT HO40.out HO36.out (by decide)))
          have HBU := HB2
          clear hown hgrow HB2 HO36
          refine hK.out _ _ (⟨(row_two (HPU.out.keep HBU.out).now).1, (row_two (HPU.out.keep HBU.out).now).2⟩) (fun HS => ?_)
          clear hK K
          refine wpAnyH_ready (rs := [7]) (by kernel_rfl) (by simp) (AllReadyH.cons rfl (fun K hK => ?_) AllReadyH.nil)
          refine step_append_gone rfl _ _ rfl v0.heap.size (.slice (some ⟨B40, 0, none⟩) 0 0) 0 [] rfl HO40.out _ m1 _ (gonsOf E) rfl (HSA.out.at_.keep HBU.out).d HSA.out.nilg (by omega) HBU.out.size ?_
          intro q2 e2 v4 hown hgrow
          simp only [List.nil_append] at hown
          have HO2 := Lib.hid hown
          have HB2 := Lib.hid (HBU.out.grown hgrow HBU.out.size (fun i hi => own_ge_of HO40.out (Nat.le_refl _) i hi))
          have HO1 := Lib.hid (own_grown HO1.out hgrow (own_apartT HO1.out HO40.out (by decide)))
          have HBU := HB2
          clear hown hgrow HB2 HO40
          refine hK.out _ _ (⟨(row_two (HPU.out.keep HBU.out).now).1, (row_two (HPU.out.keep HBU.out).now).2⟩) (fun HS => ?_)
          clear hK K
          refine held_take (i := 8) (d := 44) (v := .agg #[.slice q1 (0 + l1) e1, .slice q2 (0 + m1) e2]) rfl rfl (by kernel_rfl) (by kernel_rfl) (by kernel_rfl) (by kernel_rfl) (fun wx hS => by go_simp) HS ?_
          refine wpAnyH_ready (rs := [10]) (by kernel_rfl) (by simp) (AllReadyH.cons rfl (fun K hK => ?_) AllReadyH.nil)
          have hrz := (HPU.out.keep HBU.out).res
          have hnz := (HPU.out.keep HBU.out).now
          obtain ⟨k0, k1⟩ := row_two hrz
          have kf0 := hrz.free 0
          have kf1 := hrz.free 1
          go_simp
          have HRZ := Lib.hid hrz
          have HNZ := Lib.hid (show Row ((v4.setCell ⟨w.heap.size, 0, none⟩ (.slice q1 l1 e1)).setCell ⟨w.heap.size, 1, none⟩ (.slice q2 m1 e2)) (w.heap.size + 1) 27 #[.slice a1 l1 c1, .slice g1 m1 d1] from (Below.heap_setCell _ _ _ _ (by show w.heap.size + 1 ≠ w.heap.size; omega)).trans ((Below.heap_setCell _ _ _ _ (by show w.heap.size + 1 ≠ w.heap.size; omega)).trans hnz))
          refine hK.out _ _ (⟨(row_two HNZ.out).1, (row_two HNZ.out).2⟩) (fun HS => ?_)
          clear hK K k0 k1 kf0 kf1 hrz hnz
          refine held_take (i := 11) (d := 3) (v := .slice qc k cc) rfl rfl (by kernel_rfl) (by kernel_rfl) (by kernel_rfl) (by kernel_rfl) (fun wx hS => by go_simp) HS ?_
          refine wpAnyH_done (by kernel_rfl) (NoPanic.normal ?_) _
          simp only [Nat.zero_add] at HO1 HO2
          have hb := ((HRZ.out.set 0 (.slice q1 l1 e1)).set 1 (.slice q2 m1 e2))
          have HFZ := Lib.hid (PS.fin HPU.out HBU.out HO1.out HO2.out HRZ.out (Nat.le_trans HPU.out.ge (Nat.le_refl _)))
          unfold Row at hb
          go_wp2
          exact bodyPost_ret (v := .tuple #[.agg #[.slice q1 l1 e1, .slice q2 m1 e2], .slice qc k cc]) (by simp [results, Try.results32, go_sem, World.cell?, hb]) rfl (by
            rw [← HE.out.1, ← HE.out.2.1]
            exact ⟨q1, _, e1, q2, _, e2, qc, k, cc, rfl, HFZ.out.1, HFZ.out.2.1, HFZ.out.2.2.1, HE.out.2.2.1, HFZ.out.2.2.2.1, HFZ.out.2.2.2.2⟩)
      · have hi1 : ¬ (k : Int) < (len : Int) := by omega
        clear hgo h200 HC
        go_wp2_with fail
        refine wp_region_noPanic ?_
        refine wp_region_held_drew (S := (fun w' => w'.cell? ⟨w.heap.size + 1, 0, none⟩ = some (.slice a1 l1 c1) ∧ w'.cell? ⟨w.heap.size + 1, 1, none⟩ = some (.slice g1 m1 d1))) (by kernel_rfl) (⟨(row_two HPD.out.now).1, (row_two HPD.out.now).2⟩) (fun HS => ?_)
        obtain ⟨v0, hv0⟩ : ∃ x, wr.drew = x := ⟨_, rfl⟩
        rw [hv0] at HPD HS ⊢
        clear hv0
        have HPU := HPD
        have HBU := Lib.hid (Below.refl v0.heap.size v0)
        have HSA := Lib.hid (HPU.out.sto.in_ (stop_of_ep HE.out.2.2.2.1))
        refine held_take (i := 1) (d := 37) (v := .pointer (some ⟨w.heap.size + 1, 0, none⟩)) rfl rfl (by kernel_rfl) (by kernel_rfl) (by kernel_rfl) (by kernel_rfl) (fun wx hS => by go_simp) HS ?_
        refine held_take (i := 2) (d := 38) (v := .slice a1 l1 c1) rfl rfl (by kernel_rfl) (by kernel_rfl) (by kernel_rfl) (by kernel_rfl) (fun wx hS => by have h0 := hS.1; go_simp) HS ?_
        refine held_take (i := 5) (d := 41) (v := .pointer (some ⟨w.heap.size + 1, 1, none⟩)) rfl rfl (by kernel_rfl) (by kernel_rfl) (by kernel_rfl) (by kernel_rfl) (fun wx hS => by go_simp) HS ?_
        refine held_take (i := 6) (d := 42) (v := .slice g1 m1 d1) rfl rfl (by kernel_rfl) (by kernel_rfl) (by kernel_rfl) (by kernel_rfl) (fun wx hS => by have h0 := hS.2; go_simp) HS ?_
        refine held_take (i := 9) (d := 45) (v := .slice qc k cc) rfl rfl (by kernel_rfl) (by kernel_rfl) (by kernel_rfl) (by kernel_rfl) (fun wx hS => by go_simp) HS ?_
        refine wpAnyH_ready (rs := [0, 4]) (by kernel_rfl) (by simp) (AllReadyH.cons rfl (fun K hK => ?_) (AllReadyH.cons rfl (fun K hK => ?_) AllReadyH.nil))
        · skip
          go_simp
          have HB2 := Lib.hid (below_alloc HBU.out (.cells #[] 31))
          have HNEW := Lib.hid (own_zeroObj (row_new v0 #[] 31) (show v0.heap.size ≤ _ from HBU.out.size))
          obtain ⟨B36, hb36⟩ : ∃ x, v0.heap.size = x := ⟨_, rfl⟩
          obtain ⟨v1, hu2⟩ : ∃ x, v0.alloc (.cells #[] 31) = x := ⟨_, rfl⟩
          have HV0 := Lib.hid hb36
          rw [show (Value.slice (some ⟨v0.heap.size, 0, none⟩) 0 0) = .slice (some ⟨B36, 0, none⟩) 0 0 by rw [hb36]] at HNEW
          rw [hb36]
          rw [hu2] at HB2 HNEW ⊢
          clear hb36 hu2 HBU
          have HO36 := HNEW
          have HBU := HB2
          clear HNEW HB2
          refine hK.out _ _ (⟨(row_two (HPU.out.keep HBU.out).now).1, (row_two (HPU.out.keep HBU.out).now).2⟩) (fun HS => ?_)
          clear hK K
          refine wpAnyH_ready (rs := [3, 4]) (by kernel_rfl) (by simp) (AllReadyH.cons rfl (fun K hK => ?_) (AllReadyH.cons rfl (fun K hK => ?_) AllReadyH.nil))
          · skip
            refine step_append_obj rfl _ _ rfl v0.heap.size (.slice (some ⟨B36, 0, none⟩) 0 0) 0 [] rfl HO36.out _ l1 _ (objsOf E) rfl (HSA.out.at_.keep HBU.out).o HSA.out.nilo (by omega) HBU.out.size ?_
            intro q1 e1 v2 hown hgrow
            simp only [List.nil_append] at hown
            have HO1 := Lib.hid hown
            have HB2 := Lib.hid (HBU.out.grown hgrow HBU.out.size (fun i hi => own_ge_of HO36.out (Nat.le_refl _) i hi))
            have HBU := HB2
            clear hown hgrow HB2 HO36
            refine hK.out _ _ (⟨(row_two (HPU.out.keep HBU.out).now).1, (row_two (HPU.out.keep HBU.out).now).2⟩) (fun HS => ?_)
            clear hK K
            refine wpAnyH_ready (rs := [4]) (by kernel_rfl) (by simp) (AllReadyH.cons rfl (fun K hK => ?_) AllReadyH.nil)
            go_simp
            have HB2 := Lib.hid (below_alloc HBU.out (.cells #[] 45))
            have HNEW := Lib.hid (own_zeroGone (row_new v2 #[] 45) (show v0.heap.size ≤ _ from HBU.out.size))
            have HO1 := Lib.hid (own_below HO1.out (below_alloc (Below.refl _ _) (.cells #[] 45)))
            obtain ⟨B40, hb40⟩ : ∃ x, v2.heap.size = x := ⟨_, rfl⟩
            obtain ⟨v3, hu2⟩ : ∃ x, v2.alloc (.cells #[] 45) = x := ⟨_, rfl⟩
            rw [hb40] at HNEW ⊢
            rw [hu2] at HB2 HNEW HO1 ⊢
            clear hb40 hu2 HBU
            have HO40 := HNEW
            have HBU := HB2
            clear HNEW HB2
            refine hK.out _ _ (⟨(row_two (HPU.out.keep HBU.out).now).1, (row_two (HPU.out.keep HBU.out).now).2⟩) (fun HS => ?_)
            clear hK K
            refine wpAnyH_ready (rs := [7]) (by kernel_rfl) (by simp) (AllReadyH.cons rfl (fun K hK => ?_) AllReadyH.nil)
            refine step_append_gone rfl _ _ rfl v0.heap.size (.slice (some ⟨B40, 0, none⟩) 0 0) 0 [] rfl HO40.out _ m1 _ (gonsOf E) rfl (HSA.out.at_.keep HBU.out).d HSA.out.nilg (by omega) HBU.out.size ?_
            intro q2 e2 v4 hown hgrow
            simp only [List.nil_append] at hown
            have HO2 := Lib.hid hown
            have HB2 := Lib.hid (HBU.out.grown hgrow HBU.out.size (fun i hi => own_ge_of HO40.out (Nat.le_refl _) i hi))
            have HO1 := Lib.hid (own_grown HO1.out hgrow (own_apartT HO1.out HO40.out (by decide)))
            have HBU := HB2
            clear hown hgrow HB2 HO40
            refine hK.out _ _ (⟨(row_two (HPU.out.keep HBU.out).now).1, (row_two (HPU.out.keep HBU.out).now).2⟩) (fun HS => ?_)
            clear hK K
            refine held_take (i := 8) (d := 44) (v := .agg #[.slice q1 (0 + l1) e1, .slice q2 (0 + m1) e2]) rfl rfl (by kernel_rfl) (by kernel_rfl) (by kernel_rfl) (by kernel_rfl) (fun wx hS => by go_simp) HS ?_
            refine wpAnyH_ready (rs := [10]) (by kernel_rfl) (by simp) (AllReadyH.cons rfl (fun K hK => ?_) AllReadyH.nil)
            have hrz := (HPU.out.keep HBU.out).res
            have hnz := (HPU.out.keep HBU.out).now
            obtain ⟨k0, k1⟩ := row_two hrz
            have kf0 := hrz.free 0
            have kf1 := hrz.free 1
            go_simp
            have HRZ := Lib.hid hrz
            have HNZ := Lib.hid (show Row ((v4.setCell ⟨w.heap.size, 0, none⟩ (.slice q1 l1 e1)).setCell ⟨w.heap.size, 1, none⟩ (.slice q2 m1 e2)) (w.heap.size + 1) 27 #[.slice a1 l1 c1, .slice g1 m1 d1] from (Below.heap_setCell _ _ _ _ (by show w.heap.size + 1 ≠ w.heap.size; omega)).trans ((Below.heap_setCell _ _ _ _ (by show w.heap.size + 1 ≠ w.heap.size; omega)).trans hnz))
            refine hK.out _ _ (⟨(row_two HNZ.out).1, (row_two HNZ.out).2⟩) (fun HS => ?_)
            clear hK K k0 k1 kf0 kf1 hrz hnz
            refine held_take (i := 11) (d := 3) (v := .slice qc k cc) rfl rfl (by kernel_rfl) (by kernel_rfl) (by kernel_rfl) (by kernel_rfl) (fun wx hS => by go_simp) HS ?_
            refine wpAnyH_done (by kernel_rfl) (NoPanic.normal ?_) _
            simp only [Nat.zero_add] at HO1 HO2
            have hb := ((HRZ.out.set 0 (.slice q1 l1 e1)).set 1 (.slice q2 m1 e2))
            have HFZ := Lib.hid (PS.fin HPU.out HBU.out HO1.out HO2.out HRZ.out (Nat.le_trans HPU.out.ge (Nat.le_refl _)))
            unfold Row at hb
            go_wp2
            exact bodyPost_ret (v := .tuple #[.agg #[.slice q1 l1 e1, .slice q2 m1 e2], .slice qc k cc]) (by simp [results, Try.results32, go_sem, World.cell?, hb]) rfl (by
              rw [← HE.out.1, ← HE.out.2.1]
              exact ⟨q1, _, e1, q2, _, e2, qc, k, cc, rfl, HFZ.out.1, HFZ.out.2.1, HFZ.out.2.2.1, HE.out.2.2.1, HFZ.out.2.2.2.1, HFZ.out.2.2.2.2⟩)
          · skip
            go_simp
            have HB2 := Lib.hid (below_alloc HBU.out (.cells #[] 45))
            have HNEW := Lib.hid (own_zeroGone (row_new v1 #[] 45) (show v0.heap.size ≤ _ from HBU.out.size))
            have HO36 := Lib.hid (own_below HO36.out (below_alloc (Below.refl _ _) (.cells #[] 45)))
            obtain ⟨B40, hb40⟩ : ∃ x, v1.heap.size = x := ⟨_, rfl⟩
            obtain ⟨v2, hu2⟩ : ∃ x, v1.alloc (.cells #[] 45) = x := ⟨_, rfl⟩
            rw [hb40] at HNEW ⊢
            rw [hu2] at HB2 HNEW HO36 ⊢
            clear hb40 hu2 HBU
            have HO40 := HNEW
            have HBU := HB2
            clear HNEW HB2
            refine hK.out _ _ (⟨(row_two (HPU.out.keep HBU.out).now).1, (row_two (HPU.out.keep HBU.out).now).2⟩) (fun HS => ?_)
            clear hK K
            refine wpAnyH_ready (rs := [3]) (by kernel_rfl) (by simp) (AllReadyH.cons rfl (fun K hK => ?_) AllReadyH.nil)
            refine step_append_obj rfl _ _ rfl v0.heap.size (.slice (some ⟨B36, 0, none⟩) 0 0) 0 [] rfl HO36.out _ l1 _ (objsOf E) rfl (HSA.out.at_.keep HBU.out).o HSA.out.nilo (by omega) HBU.out.size ?_
            intro q1 e1 v3 hown hgrow
            simp only [List.nil_append] at hown
            have HO1 := Lib.hid hown
            have HB2 := Lib.hid (HBU.out.grown hgrow HBU.out.size (fun i hi => own_ge_of HO36.out (Nat.le_refl _) i hi))
            have HO40 := Lib.hid (own_grown HO40.out hgrow (own_apartT HO40.out HO36.out (by decide)))
            have HBU := HB2
            clear hown hgrow HB2 HO36
            refine hK.out _ _ (⟨(row_two (HPU.out.keep HBU.out).now).1, (row_two (HPU.out.keep HBU.out).now).2⟩) (fun HS => ?_)
            clear hK K
            refine wpAnyH_ready (rs := [7]) (by kernel_rfl) (by simp) (AllReadyH.cons rfl (fun K hK => ?_) AllReadyH.nil)
            refine step_append_gone rfl _ _ rfl v0.heap.size (.slice (some ⟨B40, 0, none⟩) 0 0) 0 [] rfl HO40.out _ m1 _ (gonsOf E) rfl (HSA.out.at_.keep HBU.out).d HSA.out.nilg (by omega) HBU.out.size ?_
            intro q2 e2 v4 hown hgrow
            simp only [List.nil_append] at hown
            have HO2 := Lib.hid hown
            have HB2 := Lib.hid (HBU.out.grown hgrow HBU.out.size (fun i hi => own_ge_of HO40.out (Nat.le_refl _) i hi))
            have HO1 := Lib.hid (own_grown HO1.out hgrow (own_apartT HO1.out HO40.out (by decide)))
            have HBU := HB2
            clear hown hgrow HB2 HO40
            refine hK.out _ _ (⟨(row_two (HPU.out.keep HBU.out).now).1, (row_two (HPU.out.keep HBU.out).now).2⟩) (fun HS => ?_)
            clear hK K
            refine held_take (i := 8) (d := 44) (v := .agg #[.slice q1 (0 + l1) e1, .slice q2 (0 + m1) e2]) rfl rfl (by kernel_rfl) (by kernel_rfl) (by kernel_rfl) (by kernel_rfl) (fun wx hS => by go_simp) HS ?_
            refine wpAnyH_ready (rs := [10]) (by kernel_rfl) (by simp) (AllReadyH.cons rfl (fun K hK => ?_) AllReadyH.nil)
            have hrz := (HPU.out.keep HBU.out).res
            have hnz := (HPU.out.keep HBU.out).now
            obtain ⟨k0, k1⟩ := row_two hrz
            have kf0 := hrz.free 0
            have kf1 := hrz.free 1
            go_simp
            have HRZ := Lib.hid hrz
            have HNZ := Lib.hid (show Row ((v4.setCell ⟨w.heap.size, 0, none⟩ (.slice q1 l1 e1)).setCell ⟨w.heap.size, 1, none⟩ (.slice q2 m1 e2)) (w.heap.size + 1) 27 #[.slice a1 l1 c1, .slice g1 m1 d1] from (Below.heap_setCell _ _ _ _ (by show w.heap.size + 1 ≠ w.heap.size; omega)).trans ((Below.heap_setCell _ _ _ _ (by show w.heap.size + 1 ≠ w.heap.size; omega)).trans hnz))
            refine hK.out _ _ (⟨(row_two HNZ.out).1, (row_two HNZ.out).2⟩) (fun HS => ?_)
            clear hK K k0 k1 kf0 kf1 hrz hnz
            refine held_take (i := 11) (d := 3) (v := .slice qc k cc) rfl rfl (by kernel_rfl) (by kernel_rfl) (by kernel_rfl) (by kernel_rfl) (fun wx hS => by go_simp) HS ?_
            refine wpAnyH_done (by kernel_rfl) (NoPanic.normal ?_) _
            simp only [Nat.zero_add] at HO1 HO2
            have hb := ((HRZ.out.set 0 (.slice q1 l1 e1)).set 1 (.slice q2 m1 e2))
            have HFZ := Lib.hid (PS.fin HPU.out HBU.out HO1.out HO2.out HRZ.out (Nat.le_trans HPU.out.ge (Nat.le_refl _)))
            unfold Row at hb
            go_wp2
            exact bodyPost_ret (v := .tuple #[.agg #[.slice q1 l1 e1, .slice q2 m1 e2], .slice qc k cc]) (by simp [results, Try.results32, go_sem, World.cell?, hb]) rfl (by
              rw [← HE.out.1, ← HE.out.2.1]
              exact ⟨q1, _, e1, q2, _, e2, qc, k, cc, rfl, HFZ.out.1, HFZ.out.2.1, HFZ.out.2.2.1, HE.out.2.2.1, HFZ.out.2.2.2.1, HFZ.out.2.2.2.2⟩)
        · skip
          go_simp
          have HB2 := Lib.hid (below_alloc HBU.out (.cells #[] 45))
          have HNEW := Lib.hid (own_zeroGone (row_new v0 #[] 45) (show v0.heap.size ≤ _ from HBU.out.size))
          obtain ⟨B40, hb40⟩ : ∃ x, v0.heap.size = x := ⟨_, rfl⟩
          obtain ⟨v1, hu2⟩ : ∃ x, v0.alloc (.cells #[] 45) = x := ⟨_, rfl⟩
          have HV0 := Lib.hid hb40
          rw [show (Value.slice (some ⟨v0.heap.size, 0, none⟩) 0 0) = .slice (some ⟨B40, 0, none⟩) 0 0 by rw [hb40]] at HNEW
          rw [hb40]
          rw [hu2] at HB2 HNEW ⊢
          clear hb40 hu2 HBU
          have HO40 := HNEW
          have HBU := HB2
          clear HNEW HB2
          refine hK.out _ _ (⟨(row_two (HPU.out.keep HBU.out).now).1, (row_two (HPU.out.keep HBU.out).now).2⟩) (fun HS => ?_)
          clear hK K
          refine wpAnyH_ready (rs := [0]) (by kernel_rfl) (by simp) (AllReadyH.cons rfl (fun K hK => ?_) AllReadyH.nil)
          go_simp
          have HB2 := Lib.hid (below_alloc HBU.out (.cells #[] 31))
          have HNEW := Lib.hid (own_zeroObj (row_new v1 #[] 31) (show v0.heap.size ≤ _ from HBU.out.size))
          have HO40 := Lib.hid (own_below HO40.out (below_alloc (Below.refl _ _) (.cells #[] 31)))
          obtain ⟨B36, hb36⟩ : ∃ x, v1.heap.size = x := ⟨_, rfl⟩
          obtain ⟨v2, hu2⟩ : ∃ x, v1.alloc (.cells #[] 31) = x := ⟨_, rfl⟩
          rw [hb36] at HNEW ⊢
          rw [hu2] at HB2 HNEW HO40 ⊢
          clear hb36 hu2 HBU
          have HO36 := HNEW
          have HBU := HB2
          clear HNEW HB2
          refine hK.out _ _ (⟨(row_two (HPU.out.keep HBU.out).now).1, (row_two (HPU.out.keep HBU.out).now).2⟩) (fun HS => ?_)
          clear hK K
          refine wpAnyH_ready (rs := [3]) (by kernel_rfl) (by simp) (AllReadyH.cons rfl (fun K hK => ?_) AllReadyH.nil)
          refine step_append_obj rfl _ _ rfl v0.heap.size (.slice (some ⟨B36, 0, none⟩) 0 0) 0 [] rfl HO36.out _ l1 _ (objsOf E) rfl (HSA.out.at_.keep HBU.out).o HSA.out.nilo (by omega) HBU.out.size ?_
          intro q1 e1 v3 hown hgrow
          simp only [List.nil_append] at hown
          have HO1 := Lib.hid hown
          have HB2 := Lib.hid (HBU.out.grown hgrow HBU.out.size (fun i hi => own_ge_of HO36.out (Nat.le_refl _) i hi))
          have HO40 := Lib.hid (own_grown HO40.out hgrow (own_apartT HO40.out HO36.out (by decide)))
          have HBU := HB2
          clear hown hgrow HB2 HO36
          refine hK.out _ _ (⟨(row_two (HPU.out.keep HBU.out).now).1, (row_two (HPU.out.keep HBU.out).now).2⟩) (fun HS => ?_)
          clear hK K
          refine wpAnyH_ready (rs := [7]) (by kernel_rfl) (by simp) (AllReadyH.cons rfl (fun K hK => ?_) AllReadyH.nil)
          refine step_append_gone rfl _ _ rfl v0.heap.size (.slice (some ⟨B40, 0, none⟩) 0 0) 0 [] rfl HO40.out _ m1 _ (gonsOf E) rfl (HSA.out.at_.keep HBU.out).d HSA.out.nilg (by omega) HBU.out.size ?_
          intro q2 e2 v4 hown hgrow
          simp only [List.nil_append] at hown
          have HO2 := Lib.hid hown
          have HB2 := Lib.hid (HBU.out.grown hgrow HBU.out.size (fun i hi => own_ge_of HO40.out (Nat.le_refl _) i hi))
          have HO1 := Lib.hid (own_grown HO1.out hgrow (own_apartT HO1.out HO40.out (by decide)))
          have HBU := HB2
          clear hown hgrow HB2 HO40
          refine hK.out _ _ (⟨(row_two (HPU.out.keep HBU.out).now).1, (row_two (HPU.out.keep HBU.out).now).2⟩) (fun HS => ?_)
          clear hK K
          refine held_take (i := 8) (d := 44) (v := .agg #[.slice q1 (0 + l1) e1, .slice q2 (0 + m1) e2]) rfl rfl (by kernel_rfl) (by kernel_rfl) (by kernel_rfl) (by kernel_rfl) (fun wx hS => by go_simp) HS ?_
          refine wpAnyH_ready (rs := [10]) (by kernel_rfl) (by simp) (AllReadyH.cons rfl (fun K hK => ?_) AllReadyH.nil)
          have hrz := (HPU.out.keep HBU.out).res
          have hnz := (HPU.out.keep HBU.out).now
          obtain ⟨k0, k1⟩ := row_two hrz
          have kf0 := hrz.free 0
          have kf1 := hrz.free 1
          go_simp
          have HRZ := Lib.hid hrz
          have HNZ := Lib.hid (show Row ((v4.setCell ⟨w.heap.size, 0, none⟩ (.slice q1 l1 e1)).setCell ⟨w.heap.size, 1, none⟩ (.slice q2 m1 e2)) (w.heap.size + 1) 27 #[.slice a1 l1 c1, .slice g1 m1 d1] from (Below.heap_setCell _ _ _ _ (by show w.heap.size + 1 ≠ w.heap.size; omega)).trans ((Below.heap_setCell _ _ _ _ (by show w.heap.size + 1 ≠ w.heap.size; omega)).trans hnz))
          refine hK.out _ _ (⟨(row_two HNZ.out).1, (row_two HNZ.out).2⟩) (fun HS => ?_)
          clear hK K k0 k1 kf0 kf1 hrz hnz
          refine held_take (i := 11) (d := 3) (v := .slice qc k cc) rfl rfl (by kernel_rfl) (by kernel_rfl) (by kernel_rfl) (by kernel_rfl) (fun wx hS => by go_simp) HS ?_
          refine wpAnyH_done (by kernel_rfl) (NoPanic.normal ?_) _
          simp only [Nat.zero_add] at HO1 HO2
          have hb := ((HRZ.out.set 0 (.slice q1 l1 e1)).set 1 (.slice q2 m1 e2))
          have HFZ := Lib.hid (PS.fin HPU.out HBU.out HO1.out HO2.out HRZ.out (Nat.le_trans HPU.out.ge (Nat.le_refl _)))
          unfold Row at hb
          go_wp2
          exact bodyPost_ret (v := .tuple #[.agg #[.slice q1 l1 e1, .slice q2 m1 e2], .slice qc k cc]) (by simp [results, Try.results32, go_sem, World.cell?, hb]) rfl (by
            rw [← HE.out.1, ← HE.out.2.1]
            exact ⟨q1, _, e1, q2, _, e2, qc, k, cc, rfl, HFZ.out.1, HFZ.out.2.1, HFZ.out.2.2.1, HE.out.2.2.1, HFZ.out.2.2.2.1, HFZ.out.2.2.2.2⟩)
theorem splayed_any (a : Option Addr) (len cap : Nat) (l : Cmds) (w : World) (h : CmdsAt w a len l) (hlen : len ≤ 1048576) :
    Calls Try.prog 32 #[.slice a len cap] w (MadeP (playE l len).1 (playE l len).2 w) :=
  (splayedO_any a len cap l w h hlen).mono fun _ _ ⟨q1, n1, c1, q2, n2, c2, qc, nc, cc, h1, h2, h3, h4, h5, _, _⟩ => ⟨q1, n1, c1, q2, n2, c2, qc, nc, cc, h1, h2, h3, h4, h5⟩
end Go.Proofs.Ytblpebdjbenphaa
