
/- A command read out of a text: what the program does. Only new blocks are made. -/
import Derived.Test.YtcmbaclkfnecbaaDoorRCmdP
namespace Go.Proofs.YtcmbaclkfnecbaaDoor
open Go.ChangeShapes Go.WideShapes Go.ChangeAt Go.RowKit
set_option linter.unusedVariables false
set_option maxRecDepth 100000

def cdV : Option RCmd → Value
  | some (k, b, v, d) => .tuple #[.agg #[.int .i64 k, .string (ba b), .int .i64 v, .string (ba d)], .bool true]
  | none => .tuple #[.agg #[.int .i64 0, .string ⟨#[]⟩, .int .i64 0, .string ⟨#[]⟩], .bool false]
def MadeCD (o : Option RCmd) (w : World) (e : Ending) (w' : World) : Prop := e = .returned (cdV o) ∧ Below w.heap.size w w'
theorem cd_none {o : Option RCmd} {w w' : World} (h : o = none) (hB : Below w.heap.size w w') : MadeCD o w (.returned (.tuple #[.agg #[.int .i64 0, .string ⟨#[]⟩, .int .i64 0, .string ⟨#[]⟩], .bool false])) w' := by
  subst h; exact ⟨rfl, hB⟩
theorem cd_some {o : Option RCmd} {k v : Int} {b d : List UInt8} {w w' : World} (h : o = some (k, b, v, d)) (hB : Below w.heap.size w w') : MadeCD o w (.returned (.tuple #[.agg #[.int .i64 k, .string (ba b), .int .i64 v, .string (ba d)], .bool true])) w' := by
  subst h; exact ⟨rfl, hB⟩
theorem cd_yes {o : Option RCmd} {k v : Int} {b d : List UInt8} {B D : ByteArray} {w w' : World} (hb : ba b = B) (hd : ba d = D) (h : o = some (k, b, v, d)) (hB : Below w.heap.size w w') : MadeCD o w (.returned (.tuple #[.agg #[.int .i64 k, .string B, .int .i64 v, .string D], .bool true])) w' := by
  subst hb hd; exact cd_some h hB
theorem readD_len {l r : List UInt8} (h : readD l = some r) : r.length ≤ l.length := by
  have h1 := data_readD h
  have h2 := hexL_len r
  unfold dataL at h1
  split at h1
  · rename_i e; rw [e]; exact Nat.zero_le _
  · rw [h1] at h2; omega
theorem rp_size {P : List (List UInt8)} {N : Nat} {k v : Int} {b d : List UInt8} (h : rpieces P = some (k, b, v, d)) (hN : ∀ x ∈ P, x.length ≤ N) : b.length ≤ N ∧ d.length ≤ N := by
  unfold rpieces at h
  split at h
  · rename_i x y z
    split at h
    · cases hr : readD z with
      | none => rw [hr] at h; cases h
      | some r =>
        rw [hr] at h
        simp only [Option.map_some, Option.some.injEq, Prod.mk.injEq] at h
        obtain ⟨rfl, rfl, rfl, rfl⟩ := h
        exact ⟨hN _ (by simp), Nat.le_trans (readD_len hr) (hN _ (by simp))⟩
    · split at h
      · cases hr : numD z with
        | none => rw [hr] at h; cases h
        | some r =>
          rw [hr] at h
          simp only [Option.map_some, Option.some.injEq, Prod.mk.injEq] at h
          obtain ⟨rfl, rfl, rfl, rfl⟩ := h
          exact ⟨hN _ (by simp), Nat.zero_le _⟩
      · cases h
  · rename_i x y z u
    split at h
    · split at h
      · rename_i v' d' h1 h2
        simp only [Option.some.injEq, Prod.mk.injEq] at h
        obtain ⟨rfl, rfl, rfl, rfl⟩ := h
        exact ⟨hN _ (by simp), Nat.le_trans (readD_len h2) (hN _ (by simp))⟩
      · cases h
    · cases h
  · cases h
theorem rcmd_no {l : List UInt8} (h : rpieces (splitL 32 l) = none) : rcmd l = none := by unfold rcmd; rw [h]
theorem rcmd_yes {l : List UInt8} {k v : Int} {b d : List UInt8} (h : rpieces (splitL 32 l) = some (k, b, v, d)) : rcmd l = if cmdB k (ba b) v (ba d) then some (k, b, v, d) else none := by unfold rcmd; rw [h]

set_option maxHeartbeats 8000000 in
theorem readcmd_any (s : ByteArray) (w : World) (hs : s.size ≤ 1048576) (hT : TabsR w) : Calls Tryd.prog 25 #[.string s] w (MadeCD (rcmd s.data.toList) w) := by
  obtain ⟨P, hP⟩ : ∃ P, splitL 32 s.data.toList = P := ⟨_, rfl⟩
  have HLE := Lib.hid (show ∀ x ∈ P, x.length ≤ 1048576 from fun x hx => Nat.le_trans (splitL_len 32 s.data.toList x (by rw [hP]; exact hx)) (by simpa using hs))
  have HPL := Lib.hid (show P.length ≤ 1048577 by
    have h1 := countB_pieces s
    have h2 := Lib.countB_le ⟨#[32]⟩ (by decide) s.size s (Nat.le_refl _)
    rw [hP] at h1
    omega)
  have HP := Lib.hid hP
  have HT := Lib.hid (hT.keep (below_alloc (Below.refl w.heap.size w) (.cells #[.int .i64 0, .string ⟨#[]⟩, .int .i64 0, .string ⟨#[]⟩] 38)))
  have HX := Lib.hid (Row.new w 38 #[.int .i64 0, .string ⟨#[]⟩, .int .i64 0, .string ⟨#[]⟩])
  have HB := Lib.hid (below_alloc (Below.refl w.heap.size w) (.cells #[.int .i64 0, .string ⟨#[]⟩, .int .i64 0, .string ⟨#[]⟩] 38))
  clear hP hT
  go_enter Tryd.func25, Tryd.ntmps25
  go_wp2_with fail
  refine (libsplit_any s _ hs HT.out).mono ?_
  rw [HP.out]
  rintro e w1 ⟨rfl, hrow, hB⟩
  obtain ⟨G, hG⟩ : ∃ G, (w.alloc (.cells #[.int .i64 0, .string ⟨#[]⟩, .int .i64 0, .string ⟨#[]⟩] 38)).heap.size = G := ⟨_, rfl⟩
  rw [hG] at hrow ⊢
  have HPI := Lib.hid (piece_row hrow)
  have HX := Lib.hid (HX.out.keep hB)
  have HT := Lib.hid (HT.out.keep hB)
  have HB := Lib.hid (below_via HB.out hB)
  clear hrow hB hG
  go_wp2_with fail
  refine (cmdof_any G P _ HPI.out HLE.out HPL.out HT.out).mono ?_
  rintro e w2 ⟨hB, k, b, v, d, rfl, hr⟩
  have HR := Lib.hid hr
  have HX := Lib.hid (HX.out.keep hB)
  have HB := Lib.hid (below_via HB.out hB)
  unfold coV
  clear hB hr HT HPI
  obtain ⟨o, ho⟩ : ∃ o, rpieces P = o := ⟨_, rfl⟩
  rw [ho] at HR ⊢
  obtain ⟨w8, hw8⟩ : ∃ w8, w2.alloc (.cells #[.int .i64 k, .string (ba b), .int .i64 v, .string (ba d)] 38) = w8 := ⟨_, rfl⟩
  have HC := Lib.hid (Row.new w2 38 #[.int .i64 k, .string (ba b), .int .i64 v, .string (ba d)])
  have HXL := Lib.hid HX.out.lt
  have HX := Lib.hid (HX.out.keep (below_alloc (Below.refl w2.heap.size w2) (.cells #[.int .i64 k, .string (ba b), .int .i64 v, .string (ba d)] 38)))
  have HB := Lib.hid (below_alloc HB.out (.cells #[.int .i64 k, .string (ba b), .int .i64 v, .string (ba d)] 38))
  rw [hw8] at HX HC HB
  cases o with
  | none =>
    have HRR := Lib.hid (rcmd_no (l := s.data.toList) (by rw [HP.out]; exact ho))
    simp only [Option.isSome_none]
    clear ho HC
    have y0 := HX.out.cell (j := 0) (by simp)
    have y1 := HX.out.cell (j := 1) (by simp)
    have y2 := HX.out.cell (j := 2) (by simp)
    have y3 := HX.out.cell (j := 3) (by simp)
    have f0 := HX.out.free 0
    have f1 := HX.out.free 1
    have f2 := HX.out.free 2
    have f3 := HX.out.free 3
    simp at y0 y1 y2 y3
    go_wp2
    have hbF := ((((HX.out.set 0 (.int .i64 0)).set 1 (.string ⟨#[]⟩)).set 2 (.int .i64 0)).set 3 (.string ⟨#[]⟩))
    unfold Row at hbF
    exact bodyPost_ret (v := .tuple #[.agg #[.int .i64 0, .string ⟨#[]⟩, .int .i64 0, .string ⟨#[]⟩], .bool false]) (by simp [results, Tryd.results25, go_sem, World.cell?, hbF]) rfl (cd_none HRR.out (HB.out.setCell (Nat.le_refl _) _ |>.setCell (Nat.le_refl _) _ |>.setCell (Nat.le_refl _) _ |>.setCell (Nat.le_refl _) _))
  | some r =>
    obtain rfl := HR.out r rfl
    have HRR := Lib.hid (rcmd_yes (l := s.data.toList) (by rw [HP.out]; exact ho))
    have HSZ := Lib.hid (rp_size ho HLE.out)
    simp only [Option.isSome_some]
    clear ho
    have c0 := HC.out.cell (j := 0) (by simp)
    have c1 := HC.out.cell (j := 1) (by simp)
    have c2 := HC.out.cell (j := 2) (by simp)
    have c3 := HC.out.cell (j := 3) (by simp)
    simp at c0 c1 c2 c3
    have hne : w.heap.size ≠ w2.heap.size := Nat.ne_of_lt HXL.out
    have hne2 : w2.heap.size ≠ w.heap.size := fun e => hne e.symm
    go_wp2_with fail
    refine (cmdok_any k (ba b) v (ba d) _ (by rw [ba_size]; have := HSZ.out.1; unfold maxLen; omega) (by rw [ba_size]; have := HSZ.out.2; unfold maxLen; omega)).mono ?_
    rintro e w3 ⟨rfl, hB⟩
    obtain ⟨q, hq⟩ : ∃ q, cmdB k (ba b) v (ba d) = q := ⟨_, rfl⟩
    rw [hq] at HRR ⊢
    have HX := Lib.hid (HX.out.keep hB)
    have HC := Lib.hid (HC.out.keep hB)
    have HB := Lib.hid (below_via HB.out hB)
    clear hB hq c0 c1 c2 c3
    have y0 := HX.out.cell (j := 0) (by simp)
    have y1 := HX.out.cell (j := 1) (by simp)
    have y2 := HX.out.cell (j := 2) (by simp)
    have y3 := HX.out.cell (j := 3) (by simp)
    have f0 := HX.out.free 0
    have f1 := HX.out.free 1
    have f2 := HX.out.free 2
    have f3 := HX.out.free 3
    simp at y0 y1 y2 y3
    have c0 := HC.out.cell (j := 0) (by simp)
    have c1 := HC.out.cell (j := 1) (by simp)
    have c2 := HC.out.cell (j := 2) (by simp)
    have c3 := HC.out.cell (j := 3) (by simp)
    simp at c0 c1 c2 c3
    cases q
    · have HR2 := Lib.hid (show rcmd s.data.toList = none by rw [HRR.out]; rfl)
      go_wp2
      have hbF := ((((HX.out.set 0 (.int .i64 0)).set 1 (.string ⟨#[]⟩)).set 2 (.int .i64 0)).set 3 (.string ⟨#[]⟩))
      unfold Row at hbF
      exact bodyPost_ret (v := .tuple #[.agg #[.int .i64 0, .string ⟨#[]⟩, .int .i64 0, .string ⟨#[]⟩], .bool false]) (by simp [results, Tryd.results25, go_sem, World.cell?, hbF]) rfl (cd_none HR2.out (HB.out.setCell (Nat.le_refl _) _ |>.setCell (Nat.le_refl _) _ |>.setCell (Nat.le_refl _) _ |>.setCell (Nat.le_refl _) _))
    · have HR2 := Lib.hid (show rcmd s.data.toList = some (k, b, v, d) by rw [HRR.out]; rfl)
      go_wp2
      have hbF := ((((HX.out.set 0 (.int .i64 k)).set 1 (.string (ba b))).set 2 (.int .i64 v)).set 3 (.string (ba d)))
      unfold Row at hbF
      exact bodyPost_ret (v := .tuple #[.agg #[.int .i64 k, .string (ba b), .int .i64 v, .string (ba d)], .bool true]) (by simp [results, Tryd.results25, go_sem, World.cell?, hbF]) rfl (cd_some HR2.out (HB.out.setCell (Nat.le_refl _) _ |>.setCell (Nat.le_refl _) _ |>.setCell (Nat.le_refl _) _ |>.setCell (Nat.le_refl _) _))
end Go.Proofs.YtcmbaclkfnecbaaDoor
