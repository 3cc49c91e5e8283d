
/- A command read out of a text: the model's first loop, which finds the word of the kind. Only new blocks are made. -/
import Derived.Test.YtcmbaclkfnecbaaDoorRCmdD
import Derived.Test.YtcmbaclkfnecbaaDoorReadD
import Derived.Test.YtcmbaclkfnecbaaDoorRCmdP2
import Derived.Test.YtcmbaclkfnecbaaDoorRClaimS
import Derived.Test.YtcmbaclkfnecbaaDoorCmdTx
namespace Go.Proofs.YtcmbaclkfnecbaaDoor
open Go.ChangeShapes Go.WideShapes Go.ChangeAt Go.RowKit
set_option linter.unusedVariables false
set_option maxRecDepth 100000

/-- What the walk of the model holds: the command under way, the result's place, the pieces. -/
structure LS (w wr : World) (cB g : Nat) (P : List (List UInt8)) (A : Array Value) : Prop where
  row : Row wr cB 38 A
  res : Row wr w.heap.size 38 #[.int .i64 0, .string ⟨#[]⟩, .int .i64 0, .string ⟨#[]⟩]
  pcs : PiecesAt wr g 0 P
  below : Below w.heap.size w wr
theorem LS.keep {w wr w1 : World} {cB g : Nat} {P : List (List UInt8)} {A : Array Value} (h : LS w wr cB g P A) (hB : Below wr.heap.size wr w1) : LS w w1 cB g P A :=
  ⟨h.row.keep hB, h.res.keep hB, h.pcs.keep hB, below_via h.below hB⟩
theorem LS.set {w wr : World} {cB g : Nat} {P : List (List UInt8)} {A : Array Value} (h : LS w wr cB g P A) (h1 : w.heap.size < cB) (h2 : g ≠ cB) (j : Nat) (v : Value) : LS w (wr.setCell ⟨cB, j, none⟩ v) cB g P (A.setIfInBounds j v) :=
  ⟨h.row.set j v, h.res.other (Nat.ne_of_lt h1) j v, h.pcs.put h2 j v, h.below.setCell (p := ⟨cB, j, none⟩) (Nat.le_of_lt h1) v⟩
def wordsC : Array Value := #[.string ⟨#[99, 114, 101, 97, 116, 101]⟩, .string ⟨#[112, 117, 116]⟩, .string ⟨#[100, 101, 108]⟩]
def kTo (b0 b1 b2 : Bool) (k : Nat) : Int :=
  if k = 0 then 0 else if k = 1 then (if b0 then 1 else 0) else if k = 2 then (if b1 then 2 else if b0 then 1 else 0) else (if b2 then 3 else if b1 then 2 else if b0 then 1 else 0)
theorem kTo_kind (x : List UInt8) : kTo ([99, 114, 101, 97, 116, 101] == x) ([112, 117, 116] == x) ([100, 101, 108] == x) 3 = mKind x := by
  unfold mKind wC wP wD
  unfold kTo
  rw [if_neg (by decide), if_neg (by decide), if_neg (by decide)]
  by_cases h1 : x = [99, 114, 101, 97, 116, 101]
  · subst h1; rfl
  · by_cases h2 : x = [112, 117, 116]
    · subst h2; rfl
    · by_cases h3 : x = [100, 101, 108]
      · subst h3; rfl
      · have e1 : ([99, 114, 101, 97, 116, 101] == x) = false := by rw [beq_eq_false_iff_ne]; exact fun e => h1 e.symm
        have e2 : ([112, 117, 116] == x) = false := by rw [beq_eq_false_iff_ne]; exact fun e => h2 e.symm
        have e3 : ([100, 101, 108] == x) = false := by rw [beq_eq_false_iff_ne]; exact fun e => h3 e.symm
        rw [e1, e2, e3, if_neg h1, if_neg h2, if_neg h3]; rfl
theorem numsL_snoc {z : Nat} (Y : List UInt8) (h : z < 256) : numsL (Y ++ [UInt8.ofNat z]) = numsL Y ++ [(z : Int)] := by
  unfold numsL
  rw [List.map_append]
  congr 1
  simp
  omega
theorem mp_at {P : List (List UInt8)} {m : Nat} {x y z u : List UInt8} (hl : P.length = m + 1) (h2 : 2 ≤ m) (h3 : m ≤ 3) (hx : P[0] = x) (hy : P[1] = y) (hz : P[2] = z) (hu : P[m] = u) :
    mpieces P = some (mKind x, y, if mKind x = 1 then 0 else (numD z).getD 0, if mKind x = 3 then [] else mHex u) := by
  rcases (by omega : m = 2 ∨ m = 3) with rfl | rfl
  · obtain ⟨a, b, c, rfl⟩ := three hl
    simp at hx hy hz hu
    subst hx hy hz
    subst hu
    rfl
  · obtain ⟨a, b, c, d, rfl⟩ := four hl
    simp at hx hy hz hu
    subst hx hy hz hu
    rfl
theorem hex_start (wa : World) (B : Nat) (hB : wa.heap.size = B) : HexSt wa (wa.alloc (.cells #[] 5)) (.slice (some ⟨B, 0, none⟩) 0 0) 0 [] := by
  subst hB
  exact ⟨World.ownsRow_lit _ #[] 0 (Nat.le_refl _) (Nat.zero_le _) rfl, rfl, below_alloc (Below.refl _ _) _⟩
theorem HexSt.text2 {w wr : World} {g : Nat} {n cp : Nat} {X : List Int} (h : HexSt w wr (.slice (some ⟨g, 0, none⟩) n cp) n X) :
    (convert 22 9 (.slice (some ⟨g, 0, none⟩) n cp)).run Tryd.prog wr = .ok (.string (strOfNums X)) wr := by
  exact run_convert_bytes_arg _ _ _ Tryd.underlying22 Tryd.underlying5 g 0 n cp X h.length (fun i hi => by
    rw [Nat.zero_add]
    have hl := h.length
    have hiX : i < X.length := by omega
    rw [h.own.cellAt i (by omega)]
    rw [List.getD_eq_getElem?_getD]
    simp [byteCs, hiX]) _ Tryd.underlying9
def rcA (K : Int) (b : ByteArray) (v : Int) (d : ByteArray) : Array Value := #[.int .i64 K, .string b, .int .i64 v, .string d]
set_option maxHeartbeats 8000000 in
theorem sreadcmd_any (s : ByteArray) (w : World) (hs : s.size ≤ 1048576) : Calls Tryd.prog 26 #[.string s] w (MadeCD (rcmd s.data.toList) w) := by
  obtain ⟨P, hP⟩ : ∃ P, splitL 32 s.data.toList = P := ⟨_, rfl⟩
  have HLE := Lib.hid (show ∀ x ∈ P, x.length ≤ 1048576 from fun x hx => Nat.le_trans (splitL_len 32 s.data.toList x (by rw [hP]; exact hx)) (by simpa using hs))
  have HP := Lib.hid hP
  have HX := Lib.hid (Row.new w 38 #[.int .i64 0, .string ⟨#[]⟩, .int .i64 0, .string ⟨#[]⟩])
  have HB := Lib.hid (below_alloc (Below.refl w.heap.size w) (.cells #[.int .i64 0, .string ⟨#[]⟩, .int .i64 0, .string ⟨#[]⟩] 38))
  have HP0 := Lib.hid (show 0 < P.length from List.length_pos_iff.2 (by rw [← hP]; exact splitL_ne 32 _))
  clear hP
  by_cases hbig : (70000 : Int) < (s.size : Int)
  · have HR := Lib.hid (rcmd_long (s := s) (by omega))
    obtain ⟨w8, hw8⟩ : ∃ w8, w.alloc (.cells #[.int .i64 0, .string ⟨#[]⟩, .int .i64 0, .string ⟨#[]⟩] 38) = w8 := ⟨_, rfl⟩
    rw [hw8] at HX HB
    have y0 := HX.out.cell (j := 0) (by simp)
    have y1 := HX.out.cell (j := 1) (by simp)
    have y2 := HX.out.cell (j := 2) (by simp)
    have y3 := HX.out.cell (j := 3) (by simp)
    have f0 := HX.out.free 0
    have f1 := HX.out.free 1
    have f2 := HX.out.free 2
    have f3 := HX.out.free 3
    simp at y0 y1 y2 y3
    go_enter Tryd.func26, Tryd.ntmps26
    go_wp2
    have hbF := ((((HX.out.set 0 (.int .i64 0)).set 1 (.string ⟨#[]⟩)).set 2 (.int .i64 0)).set 3 (.string ⟨#[]⟩))
    unfold Row at hbF
    exact bodyPost_ret (v := .tuple #[.agg #[.int .i64 0, .string ⟨#[]⟩, .int .i64 0, .string ⟨#[]⟩], .bool false]) (by simp [results, Tryd.results26, go_sem, World.cell?, hbF]) rfl (cd_none HR.out (HB.out.setCell (Nat.le_refl _) _ |>.setCell (Nat.le_refl _) _ |>.setCell (Nat.le_refl _) _ |>.setCell (Nat.le_refl _) _))
  have hs7 : s.size ≤ 70000 := by omega
  clear hs
  go_enter Tryd.func26, Tryd.ntmps26
  go_wp2_with fail
  refine (split_any s _ (by omega)).mono ?_
  rw [HP.out]
  rintro e w1 ⟨v, rfl, hown, hB, hlen⟩
  obtain ⟨n, hnn⟩ : ∃ n, P.length = n := ⟨_, rfl⟩
  rw [hnn] at hown hlen
  have HNN := Lib.hid hnn
  obtain ⟨q, cp, rfl⟩ := own_form hown
  obtain ⟨g, rfl, hgw, hpi⟩ := piece_own hown hnn (by rw [← hnn]; exact HP0.out)
  have HLS := Lib.hid (show LS w (w1.alloc (.cells #[.int .i64 0, .string ⟨#[]⟩, .int .i64 0, .string ⟨#[]⟩] 38)) w1.heap.size g P #[.int .i64 0, .string ⟨#[]⟩, .int .i64 0, .string ⟨#[]⟩] from
    ⟨Row.new w1 38 #[.int .i64 0, .string ⟨#[]⟩, .int .i64 0, .string ⟨#[]⟩], (HX.out.keep hB).keep (below_alloc (Below.refl _ _) _), hpi.keep (below_alloc (Below.refl _ _) _), below_alloc (below_via HB.out hB) _⟩)
  have hcw : w.heap.size < w1.heap.size := (HX.out.keep hB).lt
  have hgc : g ≠ w1.heap.size := Nat.ne_of_lt hpi.lt
  obtain ⟨cB, hcB⟩ : ∃ cB, w1.heap.size = cB := ⟨_, rfl⟩
  rw [hcB] at HLS hcw hgc
  obtain ⟨w2, hw2⟩ : ∃ w2, w1.alloc (.cells #[.int .i64 0, .string ⟨#[]⟩, .int .i64 0, .string ⟨#[]⟩] 38) = w2 := ⟨_, rfl⟩
  rw [hw2] at HLS
  have hn0 := HP0.out
  rw [HNN.out] at hn0
  clear HX HB hown hB hpi hgw
  obtain ⟨x, hx⟩ : ∃ x, P[0]'(HP0.out) = x := ⟨_, rfl⟩
  have HXE := Lib.hid hx
  obtain ⟨b0, hb0⟩ : ∃ b, (([99, 114, 101, 97, 116, 101] : List UInt8) == x) = b := ⟨_, rfl⟩
  obtain ⟨b1, hb1⟩ : ∃ b, (([112, 117, 116] : List UInt8) == x) = b := ⟨_, rfl⟩
  obtain ⟨b2, hb2⟩ : ∃ b, (([100, 101, 108] : List UInt8) == x) = b := ⟨_, rfl⟩
  have HKK := Lib.hid (kTo_kind x)
  rw [hb0, hb1, hb2] at HKK
  clear hx hnn
  have y0 := HLS.out.row.cell (j := 0) (by simp)
  have y1 := HLS.out.row.cell (j := 1) (by simp)
  have y2 := HLS.out.row.cell (j := 2) (by simp)
  have y3 := HLS.out.row.cell (j := 3) (by simp)
  have f0 := HLS.out.row.free 0
  have f1 := HLS.out.row.free 1
  have f2 := HLS.out.row.free 2
  have f3 := HLS.out.row.free 3
  simp at y0 y1 y2 y3
  have HLS := Lib.hid ((((HLS.out.set hcw hgc 0 (.int .i64 0)).set hcw hgc 1 (.string ⟨#[]⟩)).set hcw hgc 2 (.int .i64 0)).set hcw hgc 3 (.string ⟨#[]⟩))
  go_wp2
  clear y0 y1 y2 y3 f0 f1 f2 f3 hw2
  go_loopw [6] (fun i wr => ∃ (k : Nat) (K : Int), ((k = 0 ∧ i = .int .i64 0) ∨ (k = 1 ∧ i = .int .i64 1) ∨ (k = 2 ∧ i = .int .i64 2) ∨ (k = 3 ∧ i = .int .i64 3)) ∧ K = kTo b0 b1 b2 k ∧ Hid (LS w wr cB g P #[.int .i64 K, .string ⟨#[]⟩, .int .i64 0, .string ⟨#[]⟩])) (fun i _ => 3 - (intOf i).toNat)
  case atStart => exact ⟨0, 0, Or.inl ⟨rfl, rfl⟩, rfl, HLS⟩
  case round =>
    clear HLS
    obtain ⟨k, K, hk, hKd, HL⟩ := hrel
    have p0 := HL.out.pcs.cell 0 HP0.out
    rw [HXE.out] at p0
    simp [encS] at p0
    rcases hk with ⟨rfl, rfl⟩ | ⟨rfl, rfl⟩ | ⟨rfl, rfl⟩ | ⟨rfl, rfl⟩
    · skip
      go_wp2_with fail
      refine wp_region_noPanic ?_
      refine wp_region_held_drew (S := (fun w' => Hid (Below wr.heap.size wr w' ∧ w'.cell? ⟨g, 0, none⟩ = some (.string ⟨x.toArray⟩)))) (by kernel_rfl) (Lib.hid ⟨(Below.refl _ _).drew, ((Below.refl _ _).drew.cell (p := ⟨g, 0, none⟩) HL.out.pcs.lt).trans p0⟩) (fun HS => ?_)
      refine held_take (i := 1) (d := 22) (v := .int .i64 0) rfl rfl (by kernel_rfl) (by kernel_rfl) (by kernel_rfl) (by kernel_rfl) (fun wx hS => by go_simp) HS ?_
      refine held_take (i := 4) (d := 25) (v := .slice (some ⟨g, 0, none⟩) n cp) rfl rfl (by kernel_rfl) (by kernel_rfl) (by kernel_rfl) (by kernel_rfl) (fun wx hS => by go_simp) HS ?_
      refine held_take (i := 5) (d := 26) (v := .pointer (some ⟨g, 0, none⟩)) rfl rfl (by kernel_rfl) (by kernel_rfl) (by kernel_rfl) (by kernel_rfl) (fun wx hS => by go_simp) HS ?_
      refine held_take (i := 6) (d := 27) (v := .string ⟨x.toArray⟩) rfl rfl (by kernel_rfl) (by kernel_rfl) (by kernel_rfl) (by kernel_rfl) (fun wx hS => by have k0 := hS.out.2; go_simp) HS ?_
      refine wpAnyH_ready (rs := [0]) (by kernel_rfl) (by simp) (AllReadyH.cons rfl (fun K hK => ?_) AllReadyH.nil)
      go_simp
      refine hK.out _ _ (Lib.hid ⟨below_alloc HS.out.1 _, ((below_alloc (Below.refl _ _) _).cell (p := ⟨g, 0, none⟩) (Nat.lt_of_lt_of_le HL.out.pcs.lt HS.out.1.size)).trans HS.out.2⟩) (fun HS => ?_)
      clear hK K
      obtain ⟨B, hBe⟩ : ∃ B, wr.drew.heap.size = B := ⟨_, rfl⟩
      have HTB := Lib.hid (Row.new wr.drew 9 wordsC)
      unfold wordsC at HTB
      rw [hBe] at HTB
      refine held_mono (S' := (fun w' => Hid (Below wr.heap.size wr w' ∧ w'.cell? ⟨g, 0, none⟩ = some (.string ⟨x.toArray⟩) ∧ Row w' B 9 wordsC))) (fun w' h => Lib.hid ⟨h.out.1, h.out.2.1⟩) ?_
      have HS := Lib.hid (show _ ∧ _ ∧ Row _ B 9 wordsC from ⟨HS.out.1, HS.out.2, HTB.out⟩)
      have hB9 : wr.heap.size = B := by rw [← hBe]; rfl
      refine held_take (i := 2) (d := 23) (v := .pointer (some ⟨B, 0, none⟩)) rfl rfl (by kernel_rfl) (by kernel_rfl) (by kernel_rfl) (by kernel_rfl) (fun wx hS => by go_simp) HS ?_
      refine held_take (i := 3) (d := 24) (v := .string ⟨#[99, 114, 101, 97, 116, 101]⟩) rfl rfl (by kernel_rfl) (by kernel_rfl) (by kernel_rfl) (by kernel_rfl) (fun wx hS => by have k0 := row_cellC (j := 0) (v := .string ⟨#[99, 114, 101, 97, 116, 101]⟩) hS.out.2.2 rfl; go_simp) HS ?_
      refine held_take (i := 7) (d := 28) (v := .bool b0) rfl rfl (by kernel_rfl) (by kernel_rfl) (by kernel_rfl) (by kernel_rfl) (fun wx hS => by go_simp) HS ?_
      refine wpAnyH_done (by kernel_rfl) (NoPanic.normal ?_) _
      simp only [List.setIfInBounds_toArray, List.set_cons_zero, List.set_cons_succ]
      have HL := Lib.hid (LS.keep HL.out HS.out.1)
      obtain ⟨w5, hw5⟩ : ∃ w5, (wr.alloc (.cells #[.string ⟨#[99, 114, 101, 97, 116, 101]⟩, .string ⟨#[112, 117, 116]⟩, .string ⟨#[100, 101, 108]⟩] 9)).drew = w5 := ⟨_, rfl⟩
      rw [hw5] at HL ⊢
      clear HS HTB hw5 hBe p0
      cases b0 with
      | true =>
        have c0 := HL.out.row.cell (j := 0) (by simp)
        have fr := HL.out.row.free 0
        simp at c0
        go_wp2
        go_roundw
        case rel => exact ⟨1, 1, Or.inr (Or.inl ⟨rfl, rfl⟩), rfl, Lib.hid (HL.out.set hcw hgc 0 (.int .i64 1))⟩
        case measure => simp [intOf]
      | false =>
        go_wp2
        go_roundw
        case rel => exact ⟨1, K, Or.inr (Or.inl ⟨rfl, rfl⟩), hKd, HL⟩
        case measure => simp [intOf]
    · skip
      go_wp2_with fail
      refine wp_region_noPanic ?_
      refine wp_region_held_drew (S := (fun w' => Hid (Below wr.heap.size wr w' ∧ w'.cell? ⟨g, 0, none⟩ = some (.string ⟨x.toArray⟩)))) (by kernel_rfl) (Lib.hid ⟨(Below.refl _ _).drew, ((Below.refl _ _).drew.cell (p := ⟨g, 0, none⟩) HL.out.pcs.lt).trans p0⟩) (fun HS => ?_)
      refine held_take (i := 1) (d := 22) (v := .int .i64 1) rfl rfl (by kernel_rfl) (by kernel_rfl) (by kernel_rfl) (by kernel_rfl) (fun wx hS => by go_simp) HS ?_
      refine held_take (i := 4) (d := 25) (v := .slice (some ⟨g, 0, none⟩) n cp) rfl rfl (by kernel_rfl) (by kernel_rfl) (by kernel_rfl) (by kernel_rfl) (fun wx hS => by go_simp) HS ?_
      refine held_take (i := 5) (d := 26) (v := .pointer (some ⟨g, 0, none⟩)) rfl rfl (by kernel_rfl) (by kernel_rfl) (by kernel_rfl) (by kernel_rfl) (fun wx hS => by go_simp) HS ?_
      refine held_take (i := 6) (d := 27) (v := .string ⟨x.toArray⟩) rfl rfl (by kernel_rfl) (by kernel_rfl) (by kernel_rfl) (by kernel_rfl) (fun wx hS => by have k0 := hS.out.2; go_simp) HS ?_
      refine wpAnyH_ready (rs := [0]) (by kernel_rfl) (by simp) (AllReadyH.cons rfl (fun K hK => ?_) AllReadyH.nil)
      go_simp
      refine hK.out _ _ (Lib.hid ⟨below_alloc HS.out.1 _, ((below_alloc (Below.refl _ _) _).cell (p := ⟨g, 0, none⟩) (Nat.lt_of_lt_of_le HL.out.pcs.lt HS.out.1.size)).trans HS.out.2⟩) (fun HS => ?_)
      clear hK K
      obtain ⟨B, hBe⟩ : ∃ B, wr.drew.heap.size = B := ⟨_, rfl⟩
      have HTB := Lib.hid (Row.new wr.drew 9 wordsC)
      unfold wordsC at HTB
      rw [hBe] at HTB
      refine held_mono (S' := (fun w' => Hid (Below wr.heap.size wr w' ∧ w'.cell? ⟨g, 0, none⟩ = some (.string ⟨x.toArray⟩) ∧ Row w' B 9 wordsC))) (fun w' h => Lib.hid ⟨h.out.1, h.out.2.1⟩) ?_
      have HS := Lib.hid (show _ ∧ _ ∧ Row _ B 9 wordsC from ⟨HS.out.1, HS.out.2, HTB.out⟩)
      have hB9 : wr.heap.size = B := by rw [← hBe]; rfl
      refine held_take (i := 2) (d := 23) (v := .pointer (some ⟨B, 1, none⟩)) rfl rfl (by kernel_rfl) (by kernel_rfl) (by kernel_rfl) (by kernel_rfl) (fun wx hS => by go_simp) HS ?_
      refine held_take (i := 3) (d := 24) (v := .string ⟨#[112, 117, 116]⟩) rfl rfl (by kernel_rfl) (by kernel_rfl) (by kernel_rfl) (by kernel_rfl) (fun wx hS => by have k0 := row_cellC (j := 1) (v := .string ⟨#[112, 117, 116]⟩) hS.out.2.2 rfl; go_simp) HS ?_
      refine held_take (i := 7) (d := 28) (v := .bool b1) rfl rfl (by kernel_rfl) (by kernel_rfl) (by kernel_rfl) (by kernel_rfl) (fun wx hS => by go_simp) HS ?_
      refine wpAnyH_done (by kernel_rfl) (NoPanic.normal ?_) _
      simp only [List.setIfInBounds_toArray, List.set_cons_zero, List.set_cons_succ]
      have HL := Lib.hid (LS.keep HL.out HS.out.1)
      obtain ⟨w5, hw5⟩ : ∃ w5, (wr.alloc (.cells #[.string ⟨#[99, 114, 101, 97, 116, 101]⟩, .string ⟨#[112, 117, 116]⟩, .string ⟨#[100, 101, 108]⟩] 9)).drew = w5 := ⟨_, rfl⟩
      rw [hw5] at HL ⊢
      clear HS HTB hw5 hBe p0
      cases b1 with
      | true =>
        have c0 := HL.out.row.cell (j := 0) (by simp)
        have fr := HL.out.row.free 0
        simp at c0
        go_wp2
        go_roundw
        case rel => exact ⟨2, 2, Or.inr (Or.inr (Or.inl ⟨rfl, rfl⟩)), rfl, Lib.hid (HL.out.set hcw hgc 0 (.int .i64 2))⟩
        case measure => simp [intOf]
      | false =>
        go_wp2
        go_roundw
        case rel => exact ⟨2, K, Or.inr (Or.inr (Or.inl ⟨rfl, rfl⟩)), hKd, HL⟩
        case measure => simp [intOf]
    · skip
      go_wp2_with fail
      refine wp_region_noPanic ?_
      refine wp_region_held_drew (S := (fun w' => Hid (Below wr.heap.size wr w' ∧ w'.cell? ⟨g, 0, none⟩ = some (.string ⟨x.toArray⟩)))) (by kernel_rfl) (Lib.hid ⟨(Below.refl _ _).drew, ((Below.refl _ _).drew.cell (p := ⟨g, 0, none⟩) HL.out.pcs.lt).trans p0⟩) (fun HS => ?_)
      refine held_take (i := 1) (d := 22) (v := .int .i64 2) rfl rfl (by kernel_rfl) (by kernel_rfl) (by kernel_rfl) (by kernel_rfl) (fun wx hS => by go_simp) HS ?_
      refine held_take (i := 4) (d := 25) (v := .slice (some ⟨g, 0, none⟩) n cp) rfl rfl (by kernel_rfl) (by kernel_rfl) (by kernel_rfl) (by kernel_rfl) (fun wx hS => by go_simp) HS ?_
      refine held_take (i := 5) (d := 26) (v := .pointer (some ⟨g, 0, none⟩)) rfl rfl (by kernel_rfl) (by kernel_rfl) (by kernel_rfl) (by kernel_rfl) (fun wx hS => by go_simp) HS ?_
      refine held_take (i := 6) (d := 27) (v := .string ⟨x.toArray⟩) rfl rfl (by kernel_rfl) (by kernel_rfl) (by kernel_rfl) (by kernel_rfl) (fun wx hS => by have k0 := hS.out.2; go_simp) HS ?_
      refine wpAnyH_ready (rs := [0]) (by kernel_rfl) (by simp) (AllReadyH.cons rfl (fun K hK => ?_) AllReadyH.nil)
      go_simp
      refine hK.out _ _ (Lib.hid ⟨below_alloc HS.out.1 _, ((below_alloc (Below.refl _ _) _).cell (p := ⟨g, 0, none⟩) (Nat.lt_of_lt_of_le HL.out.pcs.lt HS.out.1.size)).trans HS.out.2⟩) (fun HS => ?_)
      clear hK K
      obtain ⟨B, hBe⟩ : ∃ B, wr.drew.heap.size = B := ⟨_, rfl⟩
      have HTB := Lib.hid (Row.new wr.drew 9 wordsC)
      unfold wordsC at HTB
      rw [hBe] at HTB
      refine held_mono (S' := (fun w' => Hid (Below wr.heap.size wr w' ∧ w'.cell? ⟨g, 0, none⟩ = some (.string ⟨x.toArray⟩) ∧ Row w' B 9 wordsC))) (fun w' h => Lib.hid ⟨h.out.1, h.out.2.1⟩) ?_
      have HS := Lib.hid (show _ ∧ _ ∧ Row _ B 9 wordsC from ⟨HS.out.1, HS.out.2, HTB.out⟩)
      have hB9 : wr.heap.size = B := by rw [← hBe]; rfl
      refine held_take (i := 2) (d := 23) (v := .pointer (some ⟨B, 2, none⟩)) rfl rfl (by kernel_rfl) (by kernel_rfl) (by kernel_rfl) (by kernel_rfl) (fun wx hS => by go_simp) HS ?_
      refine held_take (i := 3) (d := 24) (v := .string ⟨#[100, 101, 108]⟩) rfl rfl (by kernel_rfl) (by kernel_rfl) (by kernel_rfl) (by kernel_rfl) (fun wx hS => by have k0 := row_cellC (j := 2) (v := .string ⟨#[100, 101, 108]⟩) hS.out.2.2 rfl; go_simp) HS ?_
      refine held_take (i := 7) (d := 28) (v := .bool b2) rfl rfl (by kernel_rfl) (by kernel_rfl) (by kernel_rfl) (by kernel_rfl) (fun wx hS => by go_simp) HS ?_
      refine wpAnyH_done (by kernel_rfl) (NoPanic.normal ?_) _
      simp only [List.setIfInBounds_toArray, List.set_cons_zero, List.set_cons_succ]
      have HL := Lib.hid (LS.keep HL.out HS.out.1)
      obtain ⟨w5, hw5⟩ : ∃ w5, (wr.alloc (.cells #[.string ⟨#[99, 114, 101, 97, 116, 101]⟩, .string ⟨#[112, 117, 116]⟩, .string ⟨#[100, 101, 108]⟩] 9)).drew = w5 := ⟨_, rfl⟩
      rw [hw5] at HL ⊢
      clear HS HTB hw5 hBe p0
      cases b2 with
      | true =>
        have c0 := HL.out.row.cell (j := 0) (by simp)
        have fr := HL.out.row.free 0
        simp at c0
        go_wp2
        go_roundw
        case rel => exact ⟨3, 3, Or.inr (Or.inr (Or.inr ⟨rfl, rfl⟩)), rfl, Lib.hid (HL.out.set hcw hgc 0 (.int .i64 3))⟩
        case measure => simp [intOf]
      | false =>
        go_wp2
        go_roundw
        case rel => exact ⟨3, K, Or.inr (Or.inr (Or.inr ⟨rfl, rfl⟩)), hKd, HL⟩
        case measure => simp [intOf]
    · rw [HKK.out] at hKd
      subst hKd
      clear hb0 hb1 hb2 HKK p0
      by_cases hn3 : (n : Int) < 3
      · have HR := Lib.hid (rcmd_count (s := s.data.toList) (by rw [HP.out, HNN.out]; omega))
        have y0 := HL.out.res.cell (j := 0) (by simp)
        have y1 := HL.out.res.cell (j := 1) (by simp)
        have y2 := HL.out.res.cell (j := 2) (by simp)
        have y3 := HL.out.res.cell (j := 3) (by simp)
        have f0 := HL.out.res.free 0
        have f1 := HL.out.res.free 1
        have f2 := HL.out.res.free 2
        have f3 := HL.out.res.free 3
        simp at y0 y1 y2 y3
        go_wp2
        have hbF := ((((HL.out.res.set 0 (.int .i64 0)).set 1 (.string ⟨#[]⟩)).set 2 (.int .i64 0)).set 3 (.string ⟨#[]⟩))
        unfold Row at hbF
        exact bodyPost_ret (v := .tuple #[.agg #[.int .i64 0, .string ⟨#[]⟩, .int .i64 0, .string ⟨#[]⟩], .bool false]) (by simp [results, Tryd.results26, go_sem, World.cell?, hbF]) rfl (cd_none HR.out (HL.out.below.setCell (Nat.le_refl _) _ |>.setCell (Nat.le_refl _) _ |>.setCell (Nat.le_refl _) _ |>.setCell (Nat.le_refl _) _))
      by_cases hn4 : (4 : Int) < (n : Int)
      · have HR := Lib.hid (rcmd_count (s := s.data.toList) (by rw [HP.out, HNN.out]; omega))
        have y0 := HL.out.res.cell (j := 0) (by simp)
        have y1 := HL.out.res.cell (j := 1) (by simp)
        have y2 := HL.out.res.cell (j := 2) (by simp)
        have y3 := HL.out.res.cell (j := 3) (by simp)
        have f0 := HL.out.res.free 0
        have f1 := HL.out.res.free 1
        have f2 := HL.out.res.free 2
        have f3 := HL.out.res.free 3
        simp at y0 y1 y2 y3
        go_wp2
        have hbF := ((((HL.out.res.set 0 (.int .i64 0)).set 1 (.string ⟨#[]⟩)).set 2 (.int .i64 0)).set 3 (.string ⟨#[]⟩))
        unfold Row at hbF
        exact bodyPost_ret (v := .tuple #[.agg #[.int .i64 0, .string ⟨#[]⟩, .int .i64 0, .string ⟨#[]⟩], .bool false]) (by simp [results, Tryd.results26, go_sem, World.cell?, hbF]) rfl (cd_none HR.out (HL.out.below.setCell (Nat.le_refl _) _ |>.setCell (Nat.le_refl _) _ |>.setCell (Nat.le_refl _) _ |>.setCell (Nat.le_refl _) _))
      obtain ⟨wk, hwk⟩ : ∃ wk, wk = wr := ⟨wr, rfl⟩
      subst hwk
      obtain ⟨m, rfl⟩ : ∃ m, n = m + 1 := ⟨n - 1, by omega⟩
      have hPl : P.length = m + 1 := HNN.out
      have hm2 : 2 ≤ m := by omega
      have hm3 : m ≤ 3 := by omega
      obtain ⟨i0, hi, hz0, hz1, hz2⟩ := infoByteX
      obtain ⟨y, hy⟩ : ∃ y, P[1]'(by omega) = y := ⟨_, rfl⟩
      obtain ⟨z, hz⟩ : ∃ y, P[2]'(by omega) = y := ⟨_, rfl⟩
      obtain ⟨u, hu⟩ : ∃ y, P[m]'(by omega) = y := ⟨_, rfl⟩
      have HM := Lib.hid (show mpieces (splitL 32 s.data.toList) = some (mKind x, y, if mKind x = 1 then 0 else (numD z).getD 0, if mKind x = 3 then [] else mHex u) by rw [HP.out]; exact mp_at hPl hm2 hm3 HXE.out hy hz hu)
      have HYL := Lib.hid (show y.length ≤ 1048576 from HLE.out y (by rw [← hy]; exact List.getElem_mem _))
      have HZL := Lib.hid (show z.length ≤ 1048576 from HLE.out z (by rw [← hz]; exact List.getElem_mem _))
      have HUL := Lib.hid (show u.length ≤ 70000 from Nat.le_trans (splitL_len 32 s.data.toList u (by rw [HP.out, ← hu]; exact List.getElem_mem _)) (by simpa using hs7))
      have hQ : ∃ Q : Prop, Q := ⟨True, trivial⟩
      have HPC := Lib.hid (show ∀ w' : World, PiecesAt w' g 0 P → w'.cell? ⟨g, 1, none⟩ = some (.string (ba y)) ∧ w'.cell? ⟨g, 2, none⟩ = some (.string (ba z)) ∧ w'.cell? ⟨g, m, none⟩ = some (.string (ba u)) from fun w' h => by
        refine ⟨?_, ?_, ?_⟩
        · have := h.cell 1 (by omega); rw [hy] at this; simpa [encS, ba] using this
        · have := h.cell 2 (by omega); rw [hz] at this; simpa [encS, ba] using this
        · have := h.cell m (by omega); rw [hu] at this; simpa [encS, ba] using this)
      obtain ⟨U, hU⟩ : ∃ U, ba u = U := ⟨_, rfl⟩
      obtain ⟨Yb, hYb⟩ : ∃ U, ba y = U := ⟨_, rfl⟩
      obtain ⟨Zb, hZb⟩ : ∃ U, ba z = U := ⟨_, rfl⟩
      rw [hU, hYb, hZb] at HPC
      have hUs : U.size ≤ 70000 := by rw [← hU, ba_size]; exact HUL.out
      have HUZ := Lib.hid (show U.data.toList = u ∧ Yb.data.toList = y ∧ Zb.data.toList = z from ⟨by rw [← hU, ba_list], by rw [← hYb, ba_list], by rw [← hZb, ba_list]⟩)
      have HYS := Lib.hid (show Yb.size ≤ 1048576 by rw [← hYb, ba_size]; exact HYL.out)
      have HZS := Lib.hid (show Zb.size ≤ 1048576 by rw [← hZb, ba_size]; exact HZL.out)
      obtain ⟨K, hK⟩ : ∃ K, mKind x = K := ⟨_, rfl⟩
      rw [hK] at HL HM
      have HYB := Lib.hid hYb
      clear hy hz hu hU hYb hZb hK hQ hPl HNN HXE HP HLE HP0
      have p1 := (HPC.out _ HL.out.pcs).1
      have c0 := HL.out.row.cell (j := 0) (by simp)
      have c1 := HL.out.row.cell (j := 1) (by simp)
      have fr0 := HL.out.row.free 0
      have fr1 := HL.out.row.free 1
      simp at c0 c1
      have HL := Lib.hid (HL.out.set hcw hgc 1 (.string Yb))
      by_cases hk1 : K = 1
      · subst hk1
        have pm := (HPC.out _ HL.out.pcs).2.2
        go_wp2
        clear p1 c0 c1 fr0 fr1
        go_loopw [8, 9] (fun v i wr => ∃ (k : Nat) (q : Nat) (cp : Nat), 2 * k ≤ U.size ∧ i = .int .i64 ((2 * k : Nat) : Int) ∧ v = .slice (some ⟨q, 0, none⟩) k cp ∧ Hid (HexSt (wk.setCell ⟨cB, 1, none⟩ (.string Yb)) wr (.slice (some ⟨q, 0, none⟩) k cp) k (numsL (mHex (U.data.toList.take (2 * k)))))) (fun _ i _ => U.size + 2 - (intOf i).toNat)
        case atStart => exact ⟨0, _, _, Nat.zero_le _, rfl, rfl, Lib.hid (hex_start _ _ (by simp [World.setCell]))⟩
        case round =>
          obtain ⟨k, q, cp', hk, rfl, rfl, HS1⟩ := hrel
          obtain ⟨j, hj⟩ : ∃ j, 2 * k = j := ⟨_, rfl⟩
          have HJ := Lib.hid hj
          rw [hj] at hk HS1 ⊢
          by_cases hlt : j + 1 < U.size
          · have hlt0 : j < U.size := by omega
            have hkb : k ≤ 100000 := by omega
            have hi0 : (0 : Int) ≤ (j : Int) := by omega
            have hi1 : (j : Int) < (U.size : Int) := by omega
            have hi2 : (0 : Int) ≤ (j : Int) + 1 := by omega
            have hi3 : (j : Int) + 1 < (U.size : Int) := by omega
            have hjt : ((j : Int) + 1).toNat = j + 1 := by omega
            have HT2 := Lib.hid (take2 (l := U.data.toList) (i := j) (by simpa using hlt))
            have HTL := Lib.hid (show (U.data.toList.take j).length = 2 * k by rw [List.length_take, HJ.out]; simp; omega)
            obtain ⟨a, ha⟩ : ∃ a, U.data.toList[j]'(by simp; omega) = a := ⟨_, rfl⟩
            obtain ⟨b, hb⟩ : ∃ b, U.data.toList[j + 1]'(by simp; omega) = b := ⟨_, rfl⟩
            rw [ha, hb] at HT2
            have ha2 : U[j] = a := ha
            have hb2 : U[j + 1] = b := hb
            have hab : U.get j hlt0 = a := ha
            have hbb : U.get (j + 1) hlt = b := hb
            obtain ⟨x1, hx1⟩ : ∃ x, dgD a = x := ⟨_, rfl⟩
            obtain ⟨y1, hy1⟩ : ∃ x, dgD b = x := ⟨_, rfl⟩
            have hx16 : x1 < 16 := by rw [← hx1]; exact dgD_lt a
            have hy16 : y1 < 16 := by rw [← hy1]; exact dgD_lt b
            obtain ⟨z1, hz1'⟩ : ∃ z, 16 * x1 + y1 = z := ⟨_, rfl⟩
            have hzs : (16 : Int) * (x1 : Int) + (y1 : Int) = (z1 : Int) := by omega
            have hz256 : z1 < 256 := by omega
            have s1 : IntKind.i64.wrap ((j : Int) + 1) = (j : Int) + 1 := IntWalk.i64_in _ (by omega)
            have s2 : IntKind.i64.wrap (16 * (x1 : Int)) = 16 * (x1 : Int) := IntWalk.i64_in _ (by omega)
            have s3 : IntKind.i64.wrap (z1 : Int) = (z1 : Int) := IntWalk.i64_in _ (by omega)
            have s4 : IntKind.u8.wrap (z1 : Int) = (z1 : Int) := IntWalk.u8_in _ (by omega)
            have HXX := Lib.hid hx1
            have HYY := Lib.hid hy1
            have HZZ := Lib.hid hz1'
            clear ha hb hj hx1 hy1 hz1'
            go_wp2_with fail
            refine wp_region_noPanic ?_
            have HS2 := Lib.hid (HS1.out.below2 (Below.refl _ _).drew)
            refine wp_region_held_drew (S := (fun w' => Hid (Below (wk.setCell ⟨cB, 1, none⟩ (.string Yb)).heap.size (wk.setCell ⟨cB, 1, none⟩ (.string Yb)) w'))) (by kernel_rfl) (Lib.hid HS2.out.below) (fun HS => ?_)
            refine held_take (i := 0) (d := 73) (v := .slice (some ⟨q, 0, none⟩) k cp') rfl rfl (by kernel_rfl) (by kernel_rfl) (by kernel_rfl) (by kernel_rfl) (fun wx hS => by go_simp) HS ?_
            refine held_take (i := 1) (d := 74) (v := .string U) rfl rfl (by kernel_rfl) (by kernel_rfl) (by kernel_rfl) (by kernel_rfl) (fun wx hS => by go_simp) HS ?_
            refine held_take (i := 2) (d := 75) (v := .int .i64 (j : Int)) rfl rfl (by kernel_rfl) (by kernel_rfl) (by kernel_rfl) (by kernel_rfl) (fun wx hS => by go_simp) HS ?_
            refine held_take (i := 3) (d := 76) (v := .int .u8 (a.toNat : Int)) rfl rfl (by kernel_rfl) (by kernel_rfl) (by kernel_rfl) (by kernel_rfl) (fun wx hS => by go_simp) HS ?_
            refine held_take (i := 6) (d := 79) (v := .string U) rfl rfl (by kernel_rfl) (by kernel_rfl) (by kernel_rfl) (by kernel_rfl) (fun wx hS => by go_simp) HS ?_
            refine held_take (i := 7) (d := 80) (v := .int .i64 (j : Int)) rfl rfl (by kernel_rfl) (by kernel_rfl) (by kernel_rfl) (by kernel_rfl) (fun wx hS => by go_simp) HS ?_
            refine held_take (i := 8) (d := 81) (v := .int .i64 ((j : Int) + 1)) rfl rfl (by kernel_rfl) (by kernel_rfl) (by kernel_rfl) (by kernel_rfl) (fun wx hS => by go_simp) HS ?_
            refine held_take (i := 9) (d := 82) (v := .int .u8 (b.toNat : Int)) rfl rfl (by kernel_rfl) (by kernel_rfl) (by kernel_rfl) (by kernel_rfl) (fun wx hS => by go_simp) HS ?_
            refine wpAnyH_ready (rs := [4]) (by kernel_rfl) (by simp) (AllReadyH.cons rfl (fun K hK => ?_) AllReadyH.nil)
            go_simp
            refine (l7digit_any a _).mono ?_
            rw [HXX.out]
            rintro e9 w9 ⟨rfl, rfl⟩
            refine hK.out _ _ HS (fun HS => ?_)
            clear hK K
            refine held_take (i := 5) (d := 78) (v := .int .i64 (16 * (x1 : Int))) rfl rfl (by kernel_rfl) (by kernel_rfl) (by kernel_rfl) (by kernel_rfl) (fun wx hS => by go_simp) HS ?_
            refine wpAnyH_ready (rs := [10]) (by kernel_rfl) (by simp) (AllReadyH.cons rfl (fun K hK => ?_) AllReadyH.nil)
            go_simp
            refine (l7digit_any b _).mono ?_
            rw [HYY.out]
            rintro e9 w9 ⟨rfl, rfl⟩
            refine hK.out _ _ HS (fun HS => ?_)
            clear hK K
            refine held_take (i := 11) (d := 84) (v := .int .i64 (z1 : Int)) rfl rfl (by kernel_rfl) (by kernel_rfl) (by kernel_rfl) (by kernel_rfl) (fun wx hS => by go_simp) HS ?_
            refine held_take (i := 12) (d := 85) (v := .int .u8 (z1 : Int)) rfl rfl (by kernel_rfl) (by kernel_rfl) (by kernel_rfl) (by kernel_rfl) (fun wx hS => by go_simp) HS ?_
            obtain ⟨w2', hw2'⟩ : ∃ w2, wr.drew = w2 := ⟨_, rfl⟩
            rw [hw2'] at HS HS2 ⊢
            clear hw2'
            refine wpAnyH_ready (rs := [13]) (by kernel_rfl) (by simp) (AllReadyH.cons rfl (fun K hK => ?_) AllReadyH.nil)
            go_simp
            refine hK.out _ _ (Lib.hid (below_alloc HS.out _)) (fun HS => ?_)
            clear hK K
            refine wpAnyH_ready (rs := [14]) (by kernel_rfl) (by simp) (AllReadyH.cons rfl (fun K hK => ?_) AllReadyH.nil)
            refine step_append_lies _ rfl (.tmp 73) (.tmp 86) 22 rfl (wk.setCell ⟨cB, 1, none⟩ (.string Yb)).heap.size 5 i0 _ 1 1 Tryd.underlying22 hi hz0 hz1 hz2 rfl (by decide) (.slice (some ⟨q, 0, none⟩) k cp') k _ rfl (HS2.out.own.alloc _) ⟨w2'.heap.size, 0, none⟩ 1 1 [.int .u8 (z1 : Int)] rfl rfl (one_newD w2' _ _) (by intro u hu; simp at hu; subst hu; rfl) (by decide) (by unfold maxLen; omega) (by omega) (Nat.le_trans HS2.out.below.size (by simp)) _ rfl ?_
            intro g' cap w3 hown hgrow hat hlt9
            have HB1 := Lib.hid ((below_alloc HS2.out.below _).grown hgrow (below_alloc HS2.out.below _).size (fun j hj => (HS2.out.own.lt j hj).1))
            have HO1 := Lib.hid hown
            clear hown hgrow hat hlt9
            refine hK.out _ _ (Lib.hid HB1.out) (fun HS => ?_)
            clear hK K
            refine held_take (i := 15) (d := 8) (v := .slice (some ⟨g', 0, none⟩) (k + 1) cap) rfl rfl (by kernel_rfl) (by kernel_rfl) (by kernel_rfl) (by kernel_rfl) (fun wx hS => by go_simp) HS ?_
            refine wpAnyH_done (by kernel_rfl) (NoPanic.normal ?_) _
            have HJ2 := Lib.hid (show 2 * (k + 1) = j + 2 by have := HJ.out; omega)
            have HN9 := Lib.hid (show HexSt (wk.setCell ⟨cB, 1, none⟩ (.string Yb)) w3 (.slice (some ⟨g', 0, none⟩) (k + 1) cap) (k + 1) (numsL (mHex (U.data.toList.take (2 * (k + 1))))) by
              have h1 := HS2.out.add (Y := [(z1 : Int)]) HO1.out HB1.out
              rw [HJ2.out, HT2.out, mHex_snoc k _ _ _ HTL.out, HXX.out, HYY.out, HZZ.out, numsL_snoc _ hz256]
              exact h1)
            clear hzs s1 s2 s3 s4
            go_wp2
            go_roundw
            case rel =>
              refine ⟨k + 1, _, _, by have := HJ2.out; omega, ?_, rfl, HN9⟩
              rw [HJ2.out]; go_num
            case measure => simp [intOf]; omega
          · have HME := Lib.hid (show mHex (U.data.toList.take j) = mHex U.data.toList by
              by_cases he : U.size = j
              · rw [List.take_of_length_le (by simp; omega)]
              · have e0 : U.data.toList.take (j + 1) = U.data.toList := List.take_of_length_le (by simp; omega)
                have e1 := List.take_succ_eq_append_getElem (l := U.data.toList) (i := j) (by simp; omega)
                rw [e0] at e1
                have e2 := mHex_one k (U.data.toList.take j) (U.data.toList[j]'(by simp; omega)) (by rw [List.length_take, HJ.out]; simp; omega)
                rw [← e1] at e2
                exact e2.symm)
            rw [HME.out] at HS1
            have HL := Lib.hid (HL.out.keep HS1.out.below)
            have hnlt : ¬ (j : Int) + 1 < (U.size : Int) := by omega
            have HKL := Lib.hid (show (mHex U.data.toList).length = k by have := HS1.out.length; simpa [numsL] using this)
            have hcv := HS1.out.text2
            rw [nums_back] at hcv
            obtain ⟨D, hD⟩ : ∃ D, ba (mHex U.data.toList) = D := ⟨_, rfl⟩
            rw [hD] at hcv
            have HD := Lib.hid hD
            have HDS := Lib.hid (show D.size ≤ 1048576 by rw [← hD, ba_size, HKL.out]; omega)
            clear hj hD
            have HM2 := Lib.hid (show mpieces (splitL 32 s.data.toList) = some (1, y, 0, mHex u) by have h := HM.out; simpa using h)
            rw [HUZ.out.1] at HD
            have c0 := HL.out.row.cell (j := 0) (by simp)
            have c1 := HL.out.row.cell (j := 1) (by simp)
            have c2 := HL.out.row.cell (j := 2) (by simp)
            have c3 := HL.out.row.cell (j := 3) (by simp)
            have fr0 := HL.out.row.free 0
            have fr1 := HL.out.row.free 1
            have fr2 := HL.out.row.free 2
            have fr3 := HL.out.row.free 3
            simp at c0 c1 c2 c3
            go_wp2_with fail
            refine (scmdtext_any 1 Yb 0 D _ (by have := HYS.out; unfold maxLen; omega) (by have := HDS.out; unfold maxLen; omega)).mono ?_
            rintro e9 w7 ⟨rfl, hB⟩
            have HL := Lib.hid ((HL.out.set hcw hgc 3 (.string D)).keep hB)
            obtain ⟨T, hT⟩ : ∃ T, cmdTx 1 Yb 0 D = T := ⟨_, rfl⟩
            have HRM := Lib.hid (show rcmd s.data.toList = if T = s then some (1, y, 0, mHex u) else none by
              have h1 := rcmd_model (s := s) (HM2.out)
              rw [HYB.out, HD.out, hT] at h1
              exact h1)
            rw [hT]
            clear hB hT c0 c1 c2 c3 fr0 fr1 fr2 fr3
            have c0 := HL.out.row.cell (j := 0) (by simp)
            have c1 := HL.out.row.cell (j := 1) (by simp)
            have c2 := HL.out.row.cell (j := 2) (by simp)
            have c3 := HL.out.row.cell (j := 3) (by simp)
            have fr0 := HL.out.row.free 0
            have fr1 := HL.out.row.free 1
            have fr2 := HL.out.row.free 2
            have fr3 := HL.out.row.free 3
            simp at c0 c1 c2 c3
            have y0 := HL.out.res.cell (j := 0) (by simp)
            have y1 := HL.out.res.cell (j := 1) (by simp)
            have y2 := HL.out.res.cell (j := 2) (by simp)
            have y3 := HL.out.res.cell (j := 3) (by simp)
            have f0 := HL.out.res.free 0
            have f1 := HL.out.res.free 1
            have f2 := HL.out.res.free 2
            have f3 := HL.out.res.free 3
            simp at y0 y1 y2 y3
            by_cases hq : T = s
            · have HR := Lib.hid (show rcmd s.data.toList = some (1, y, 0, mHex u) by rw [HRM.out, if_pos hq])
              have ht := ba_yes hq
              clear hq
              go_wp2
              have hbF := ((((HL.out.res.set 0 (.int .i64 1)).set 1 (.string Yb)).set 2 (.int .i64 0)).set 3 (.string D))
              unfold Row at hbF
              exact bodyPost_ret (v := .tuple #[.agg #[.int .i64 1, .string Yb, .int .i64 0, .string D], .bool true]) (by simp [results, Tryd.results26, go_sem, World.cell?, hbF]) rfl (cd_yes HYB.out HD.out HR.out (HL.out.below.setCell (Nat.le_refl _) _ |>.setCell (Nat.le_refl _) _ |>.setCell (Nat.le_refl _) _ |>.setCell (Nat.le_refl _) _))
            · have HR := Lib.hid (show rcmd s.data.toList = none by rw [HRM.out, if_neg hq])
              have ht := ba_ne hq
              clear hq
              go_wp2
              have hbF := ((((HL.out.res.set 0 (.int .i64 0)).set 1 (.string ⟨#[]⟩)).set 2 (.int .i64 0)).set 3 (.string ⟨#[]⟩))
              unfold Row at hbF
              exact bodyPost_ret (v := .tuple #[.agg #[.int .i64 0, .string ⟨#[]⟩, .int .i64 0, .string ⟨#[]⟩], .bool false]) (by simp [results, Tryd.results26, go_sem, World.cell?, hbF]) rfl (cd_none HR.out (HL.out.below.setCell (Nat.le_refl _) _ |>.setCell (Nat.le_refl _) _ |>.setCell (Nat.le_refl _) _ |>.setCell (Nat.le_refl _) _))
      · have hbk1 : (K != 1) = true := by rw [bne_iff_ne]; exact hk1
        have p2 := (HPC.out _ HL.out.pcs).2.1
        go_wp2_with fail
        refine (l1num_any Zb _ (by have := HZS.out; unfold maxLen; omega)).mono ?_
        rintro e9 w6 ⟨rfl, hB⟩
        rw [HUZ.out.2.2]
        obtain ⟨V, hV⟩ : ∃ v, (numD z).getD 0 = v := ⟨_, rfl⟩
        obtain ⟨bV, hbV⟩ : ∃ v, (numD z).isSome = v := ⟨_, rfl⟩
        rw [hV, hbV]
        have HVV := Lib.hid hV
        have HL := Lib.hid (HL.out.keep hB)
        clear hB hV hbV p1 p2 c0 c1 fr0 fr1
        by_cases hk3 : K = 3
        · subst hk3
          have HM2 := Lib.hid (show mpieces (splitL 32 s.data.toList) = some (3, y, V, []) by have h := HM.out; rw [HVV.out] at h; simpa using h)
          have hE : ba [] = ⟨#[]⟩ := rfl
          have c0 := HL.out.row.cell (j := 0) (by simp)
          have c1 := HL.out.row.cell (j := 1) (by simp)
          have c2 := HL.out.row.cell (j := 2) (by simp)
          have c3 := HL.out.row.cell (j := 3) (by simp)
          have fr0 := HL.out.row.free 0
          have fr1 := HL.out.row.free 1
          have fr2 := HL.out.row.free 2
          have fr3 := HL.out.row.free 3
          simp at c0 c1 c2 c3
          go_wp2_with fail
          refine (scmdtext_any 3 Yb V ⟨#[]⟩ _ (by have := HYS.out; unfold maxLen; omega) (by decide)).mono ?_
          rintro e9 w7 ⟨rfl, hB⟩
          have HL := Lib.hid ((HL.out.set hcw hgc 2 (.int .i64 V)).keep hB)
          obtain ⟨T, hT⟩ : ∃ T, cmdTx 3 Yb V ⟨#[]⟩ = T := ⟨_, rfl⟩
          have HRM := Lib.hid (show rcmd s.data.toList = if T = s then some (3, y, V, []) else none by
            have h1 := rcmd_model (s := s) (HM2.out)
            rw [HYB.out, hE, hT] at h1
            exact h1)
          rw [hT]
          clear hB hT c0 c1 c2 c3 fr0 fr1 fr2 fr3
          have c0 := HL.out.row.cell (j := 0) (by simp)
          have c1 := HL.out.row.cell (j := 1) (by simp)
          have c2 := HL.out.row.cell (j := 2) (by simp)
          have c3 := HL.out.row.cell (j := 3) (by simp)
          have fr0 := HL.out.row.free 0
          have fr1 := HL.out.row.free 1
          have fr2 := HL.out.row.free 2
          have fr3 := HL.out.row.free 3
          simp at c0 c1 c2 c3
          have y0 := HL.out.res.cell (j := 0) (by simp)
          have y1 := HL.out.res.cell (j := 1) (by simp)
          have y2 := HL.out.res.cell (j := 2) (by simp)
          have y3 := HL.out.res.cell (j := 3) (by simp)
          have f0 := HL.out.res.free 0
          have f1 := HL.out.res.free 1
          have f2 := HL.out.res.free 2
          have f3 := HL.out.res.free 3
          simp at y0 y1 y2 y3
          by_cases hq : T = s
          · have HR := Lib.hid (show rcmd s.data.toList = some (3, y, V, []) by rw [HRM.out, if_pos hq])
            have ht := ba_yes hq
            clear hq
            go_wp2
            have hbF := ((((HL.out.res.set 0 (.int .i64 3)).set 1 (.string Yb)).set 2 (.int .i64 V)).set 3 (.string ⟨#[]⟩))
            unfold Row at hbF
            exact bodyPost_ret (v := .tuple #[.agg #[.int .i64 3, .string Yb, .int .i64 V, .string ⟨#[]⟩], .bool true]) (by simp [results, Tryd.results26, go_sem, World.cell?, hbF]) rfl (cd_yes HYB.out rfl HR.out (HL.out.below.setCell (Nat.le_refl _) _ |>.setCell (Nat.le_refl _) _ |>.setCell (Nat.le_refl _) _ |>.setCell (Nat.le_refl _) _))
          · have HR := Lib.hid (show rcmd s.data.toList = none by rw [HRM.out, if_neg hq])
            have ht := ba_ne hq
            clear hq
            go_wp2
            have hbF := ((((HL.out.res.set 0 (.int .i64 0)).set 1 (.string ⟨#[]⟩)).set 2 (.int .i64 0)).set 3 (.string ⟨#[]⟩))
            unfold Row at hbF
            exact bodyPost_ret (v := .tuple #[.agg #[.int .i64 0, .string ⟨#[]⟩, .int .i64 0, .string ⟨#[]⟩], .bool false]) (by simp [results, Tryd.results26, go_sem, World.cell?, hbF]) rfl (cd_none HR.out (HL.out.below.setCell (Nat.le_refl _) _ |>.setCell (Nat.le_refl _) _ |>.setCell (Nat.le_refl _) _ |>.setCell (Nat.le_refl _) _))
        · have hbk3 : (K != 3) = true := by rw [bne_iff_ne]; exact hk3
          have c0 := HL.out.row.cell (j := 0) (by simp)
          have c2 := HL.out.row.cell (j := 2) (by simp)
          have fr0 := HL.out.row.free 0
          have fr2 := HL.out.row.free 2
          simp at c0 c2
          have HL := Lib.hid (HL.out.set hcw hgc 2 (.int .i64 V))
          have pm := (HPC.out _ HL.out.pcs).2.2
          go_wp2
          clear c0 c2 fr0 fr2
          go_loopw [8, 9] (fun v i wr => ∃ (k : Nat) (q : Nat) (cp : Nat), 2 * k ≤ U.size ∧ i = .int .i64 ((2 * k : Nat) : Int) ∧ v = .slice (some ⟨q, 0, none⟩) k cp ∧ Hid (HexSt (w6.setCell ⟨cB, 2, none⟩ (.int .i64 V)) wr (.slice (some ⟨q, 0, none⟩) k cp) k (numsL (mHex (U.data.toList.take (2 * k)))))) (fun _ i _ => U.size + 2 - (intOf i).toNat)
          case atStart => exact ⟨0, _, _, Nat.zero_le _, rfl, rfl, Lib.hid (hex_start _ _ (by simp [World.setCell]))⟩
          case round =>
            obtain ⟨k, q, cp', hk, rfl, rfl, HS1⟩ := hrel
            obtain ⟨j, hj⟩ : ∃ j, 2 * k = j := ⟨_, rfl⟩
            have HJ := Lib.hid hj
            rw [hj] at hk HS1 ⊢
            by_cases hlt : j + 1 < U.size
            · have hlt0 : j < U.size := by omega
              have hkb : k ≤ 100000 := by omega
              have hi0 : (0 : Int) ≤ (j : Int) := by omega
              have hi1 : (j : Int) < (U.size : Int) := by omega
              have hi2 : (0 : Int) ≤ (j : Int) + 1 := by omega
              have hi3 : (j : Int) + 1 < (U.size : Int) := by omega
              have hjt : ((j : Int) + 1).toNat = j + 1 := by omega
              have HT2 := Lib.hid (take2 (l := U.data.toList) (i := j) (by simpa using hlt))
              have HTL := Lib.hid (show (U.data.toList.take j).length = 2 * k by rw [List.length_take, HJ.out]; simp; omega)
              obtain ⟨a, ha⟩ : ∃ a, U.data.toList[j]'(by simp; omega) = a := ⟨_, rfl⟩
              obtain ⟨b, hb⟩ : ∃ b, U.data.toList[j + 1]'(by simp; omega) = b := ⟨_, rfl⟩
              rw [ha, hb] at HT2
              have ha2 : U[j] = a := ha
              have hb2 : U[j + 1] = b := hb
              have hab : U.get j hlt0 = a := ha
              have hbb : U.get (j + 1) hlt = b := hb
              obtain ⟨x1, hx1⟩ : ∃ x, dgD a = x := ⟨_, rfl⟩
              obtain ⟨y1, hy1⟩ : ∃ x, dgD b = x := ⟨_, rfl⟩
              have hx16 : x1 < 16 := by rw [← hx1]; exact dgD_lt a
              have hy16 : y1 < 16 := by rw [← hy1]; exact dgD_lt b
              obtain ⟨z1, hz1'⟩ : ∃ z, 16 * x1 + y1 = z := ⟨_, rfl⟩
              have hzs : (16 : Int) * (x1 : Int) + (y1 : Int) = (z1 : Int) := by omega
              have hz256 : z1 < 256 := by omega
              have s1 : IntKind.i64.wrap ((j : Int) + 1) = (j : Int) + 1 := IntWalk.i64_in _ (by omega)
              have s2 : IntKind.i64.wrap (16 * (x1 : Int)) = 16 * (x1 : Int) := IntWalk.i64_in _ (by omega)
              have s3 : IntKind.i64.wrap (z1 : Int) = (z1 : Int) := IntWalk.i64_in _ (by omega)
              have s4 : IntKind.u8.wrap (z1 : Int) = (z1 : Int) := IntWalk.u8_in _ (by omega)
              have HXX := Lib.hid hx1
              have HYY := Lib.hid hy1
              have HZZ := Lib.hid hz1'
              clear ha hb hj hx1 hy1 hz1'
              go_wp2_with fail
              refine wp_region_noPanic ?_
              have HS2 := Lib.hid (HS1.out.below2 (Below.refl _ _).drew)
              refine wp_region_held_drew (S := (fun w' => Hid (Below (w6.setCell ⟨cB, 2, none⟩ (.int .i64 V)).heap.size (w6.setCell ⟨cB, 2, none⟩ (.int .i64 V)) w'))) (by kernel_rfl) (Lib.hid HS2.out.below) (fun HS => ?_)
              refine held_take (i := 0) (d := 73) (v := .slice (some ⟨q, 0, none⟩) k cp') rfl rfl (by kernel_rfl) (by kernel_rfl) (by kernel_rfl) (by kernel_rfl) (fun wx hS => by go_simp) HS ?_
              refine held_take (i := 1) (d := 74) (v := .string U) rfl rfl (by kernel_rfl) (by kernel_rfl) (by kernel_rfl) (by kernel_rfl) (fun wx hS => by go_simp) HS ?_
              refine held_take (i := 2) (d := 75) (v := .int .i64 (j : Int)) rfl rfl (by kernel_rfl) (by kernel_rfl) (by kernel_rfl) (by kernel_rfl) (fun wx hS => by go_simp) HS ?_
              refine held_take (i := 3) (d := 76) (v := .int .u8 (a.toNat : Int)) rfl rfl (by kernel_rfl) (by kernel_rfl) (by kernel_rfl) (by kernel_rfl) (fun wx hS => by go_simp) HS ?_
              refine held_take (i := 6) (d := 79) (v := .string U) rfl rfl (by kernel_rfl) (by kernel_rfl) (by kernel_rfl) (by kernel_rfl) (fun wx hS => by go_simp) HS ?_
              refine held_take (i := 7) (d := 80) (v := .int .i64 (j : Int)) rfl rfl (by kernel_rfl) (by kernel_rfl) (by kernel_rfl) (by kernel_rfl) (fun wx hS => by go_simp) HS ?_
              refine held_take (i := 8) (d := 81) (v := .int .i64 ((j : Int) + 1)) rfl rfl (by kernel_rfl) (by kernel_rfl) (by kernel_rfl) (by kernel_rfl) (fun wx hS => by go_simp) HS ?_
              refine held_take (i := 9) (d := 82) (v := .int .u8 (b.toNat : Int)) rfl rfl (by kernel_rfl) (by kernel_rfl) (by kernel_rfl) (by kernel_rfl) (fun wx hS => by go_simp) HS ?_
              refine wpAnyH_ready (rs := [4]) (by kernel_rfl) (by simp) (AllReadyH.cons rfl (fun K hK => ?_) AllReadyH.nil)
              go_simp
              refine (l7digit_any a _).mono ?_
              rw [HXX.out]
              rintro e9 w9 ⟨rfl, rfl⟩
              refine hK.out _ _ HS (fun HS => ?_)
              clear hK K
              refine held_take (i := 5) (d := 78) (v := .int .i64 (16 * (x1 : Int))) rfl rfl (by kernel_rfl) (by kernel_rfl) (by kernel_rfl) (by kernel_rfl) (fun wx hS => by go_simp) HS ?_
              refine wpAnyH_ready (rs := [10]) (by kernel_rfl) (by simp) (AllReadyH.cons rfl (fun K hK => ?_) AllReadyH.nil)
              go_simp
              refine (l7digit_any b _).mono ?_
              rw [HYY.out]
              rintro e9 w9 ⟨rfl, rfl⟩
              refine hK.out _ _ HS (fun HS => ?_)
              clear hK K
              refine held_take (i := 11) (d := 84) (v := .int .i64 (z1 : Int)) rfl rfl (by kernel_rfl) (by kernel_rfl) (by kernel_rfl) (by kernel_rfl) (fun wx hS => by go_simp) HS ?_
              refine held_take (i := 12) (d := 85) (v := .int .u8 (z1 : Int)) rfl rfl (by kernel_rfl) (by kernel_rfl) (by kernel_rfl) (by kernel_rfl) (fun wx hS => by go_simp) HS ?_
              obtain ⟨w2', hw2'⟩ : ∃ w2, wr.drew = w2 := ⟨_, rfl⟩
              rw [hw2'] at HS HS2 ⊢
              clear hw2'
              refine wpAnyH_ready (rs := [13]) (by kernel_rfl) (by simp) (AllReadyH.cons rfl (fun K hK => ?_) AllReadyH.nil)
              go_simp
              refine hK.out _ _ (Lib.hid (below_alloc HS.out _)) (fun HS => ?_)
              clear hK K
              refine wpAnyH_ready (rs := [14]) (by kernel_rfl) (by simp) (AllReadyH.cons rfl (fun K hK => ?_) AllReadyH.nil)
              refine step_append_lies _ rfl (.tmp 73) (.tmp 86) 22 rfl (w6.setCell ⟨cB, 2, none⟩ (.int .i64 V)).heap.size 5 i0 _ 1 1 Tryd.underlying22 hi hz0 hz1 hz2 rfl (by decide) (.slice (some ⟨q, 0, none⟩) k cp') k _ rfl (HS2.out.own.alloc _) ⟨w2'.heap.size, 0, none⟩ 1 1 [.int .u8 (z1 : Int)] rfl rfl (one_newD w2' _ _) (by intro u hu; simp at hu; subst hu; rfl) (by decide) (by unfold maxLen; omega) (by omega) (Nat.le_trans HS2.out.below.size (by simp)) _ rfl ?_
              intro g' cap w3 hown hgrow hat hlt9
              have HB1 := Lib.hid ((below_alloc HS2.out.below _).grown hgrow (below_alloc HS2.out.below _).size (fun j hj => (HS2.out.own.lt j hj).1))
              have HO1 := Lib.hid hown
              clear hown hgrow hat hlt9
              refine hK.out _ _ (Lib.hid HB1.out) (fun HS => ?_)
              clear hK K
              refine held_take (i := 15) (d := 8) (v := .slice (some ⟨g', 0, none⟩) (k + 1) cap) rfl rfl (by kernel_rfl) (by kernel_rfl) (by kernel_rfl) (by kernel_rfl) (fun wx hS => by go_simp) HS ?_
              refine wpAnyH_done (by kernel_rfl) (NoPanic.normal ?_) _
              have HJ2 := Lib.hid (show 2 * (k + 1) = j + 2 by have := HJ.out; omega)
              have HN9 := Lib.hid (show HexSt (w6.setCell ⟨cB, 2, none⟩ (.int .i64 V)) w3 (.slice (some ⟨g', 0, none⟩) (k + 1) cap) (k + 1) (numsL (mHex (U.data.toList.take (2 * (k + 1))))) by
                have h1 := HS2.out.add (Y := [(z1 : Int)]) HO1.out HB1.out
                rw [HJ2.out, HT2.out, mHex_snoc k _ _ _ HTL.out, HXX.out, HYY.out, HZZ.out, numsL_snoc _ hz256]
                exact h1)
              clear hzs s1 s2 s3 s4
              go_wp2
              go_roundw
              case rel =>
                refine ⟨k + 1, _, _, by have := HJ2.out; omega, ?_, rfl, HN9⟩
                rw [HJ2.out]; go_num
              case measure => simp [intOf]; omega
            · have HME := Lib.hid (show mHex (U.data.toList.take j) = mHex U.data.toList by
                by_cases he : U.size = j
                · rw [List.take_of_length_le (by simp; omega)]
                · have e0 : U.data.toList.take (j + 1) = U.data.toList := List.take_of_length_le (by simp; omega)
                  have e1 := List.take_succ_eq_append_getElem (l := U.data.toList) (i := j) (by simp; omega)
                  rw [e0] at e1
                  have e2 := mHex_one k (U.data.toList.take j) (U.data.toList[j]'(by simp; omega)) (by rw [List.length_take, HJ.out]; simp; omega)
                  rw [← e1] at e2
                  exact e2.symm)
              rw [HME.out] at HS1
              have HL := Lib.hid (HL.out.keep HS1.out.below)
              have hnlt : ¬ (j : Int) + 1 < (U.size : Int) := by omega
              have HKL := Lib.hid (show (mHex U.data.toList).length = k by have := HS1.out.length; simpa [numsL] using this)
              have hcv := HS1.out.text2
              rw [nums_back] at hcv
              obtain ⟨D, hD⟩ : ∃ D, ba (mHex U.data.toList) = D := ⟨_, rfl⟩
              rw [hD] at hcv
              have HD := Lib.hid hD
              have HDS := Lib.hid (show D.size ≤ 1048576 by rw [← hD, ba_size, HKL.out]; omega)
              clear hj hD
              have HM2 := Lib.hid (show mpieces (splitL 32 s.data.toList) = some (K, y, V, mHex u) by have h := HM.out; rw [if_neg hk1, if_neg hk3, HVV.out] at h; exact h)
              rw [HUZ.out.1] at HD
              have c0 := HL.out.row.cell (j := 0) (by simp)
              have c1 := HL.out.row.cell (j := 1) (by simp)
              have c2 := HL.out.row.cell (j := 2) (by simp)
              have c3 := HL.out.row.cell (j := 3) (by simp)
              have fr0 := HL.out.row.free 0
              have fr1 := HL.out.row.free 1
              have fr2 := HL.out.row.free 2
              have fr3 := HL.out.row.free 3
              simp at c0 c1 c2 c3
              go_wp2_with fail
              refine (scmdtext_any K Yb V D _ (by have := HYS.out; unfold maxLen; omega) (by have := HDS.out; unfold maxLen; omega)).mono ?_
              rintro e9 w7 ⟨rfl, hB⟩
              have HL := Lib.hid ((HL.out.set hcw hgc 3 (.string D)).keep hB)
              obtain ⟨T, hT⟩ : ∃ T, cmdTx K Yb V D = T := ⟨_, rfl⟩
              have HRM := Lib.hid (show rcmd s.data.toList = if T = s then some (K, y, V, mHex u) else none by
                have h1 := rcmd_model (s := s) (HM2.out)
                rw [HYB.out, HD.out, hT] at h1
                exact h1)
              rw [hT]
              clear hB hT c0 c1 c2 c3 fr0 fr1 fr2 fr3
              have c0 := HL.out.row.cell (j := 0) (by simp)
              have c1 := HL.out.row.cell (j := 1) (by simp)
              have c2 := HL.out.row.cell (j := 2) (by simp)
              have c3 := HL.out.row.cell (j := 3) (by simp)
              have fr0 := HL.out.row.free 0
              have fr1 := HL.out.row.free 1
              have fr2 := HL.out.row.free 2
              have fr3 := HL.out.row.free 3
              simp at c0 c1 c2 c3
              have y0 := HL.out.res.cell (j := 0) (by simp)
              have y1 := HL.out.res.cell (j := 1) (by simp)
              have y2 := HL.out.res.cell (j := 2) (by simp)
              have y3 := HL.out.res.cell (j := 3) (by simp)
              have f0 := HL.out.res.free 0
              have f1 := HL.out.res.free 1
              have f2 := HL.out.res.free 2
              have f3 := HL.out.res.free 3
              simp at y0 y1 y2 y3
              by_cases hq : T = s
              · have HR := Lib.hid (show rcmd s.data.toList = some (K, y, V, mHex u) by rw [HRM.out, if_pos hq])
                have ht := ba_yes hq
                clear hq
                go_wp2
                have hbF := ((((HL.out.res.set 0 (.int .i64 K)).set 1 (.string Yb)).set 2 (.int .i64 V)).set 3 (.string D))
                unfold Row at hbF
                exact bodyPost_ret (v := .tuple #[.agg #[.int .i64 K, .string Yb, .int .i64 V, .string D], .bool true]) (by simp [results, Tryd.results26, go_sem, World.cell?, hbF]) rfl (cd_yes HYB.out HD.out HR.out (HL.out.below.setCell (Nat.le_refl _) _ |>.setCell (Nat.le_refl _) _ |>.setCell (Nat.le_refl _) _ |>.setCell (Nat.le_refl _) _))
              · have HR := Lib.hid (show rcmd s.data.toList = none by rw [HRM.out, if_neg hq])
                have ht := ba_ne hq
                clear hq
                go_wp2
                have hbF := ((((HL.out.res.set 0 (.int .i64 0)).set 1 (.string ⟨#[]⟩)).set 2 (.int .i64 0)).set 3 (.string ⟨#[]⟩))
                unfold Row at hbF
                exact bodyPost_ret (v := .tuple #[.agg #[.int .i64 0, .string ⟨#[]⟩, .int .i64 0, .string ⟨#[]⟩], .bool false]) (by simp [results, Tryd.results26, go_sem, World.cell?, hbF]) rfl (cd_none HR.out (HL.out.below.setCell (Nat.le_refl _) _ |>.setCell (Nat.le_refl _) _ |>.setCell (Nat.le_refl _) _ |>.setCell (Nat.le_refl _) _))
end Go.Proofs.YtcmbaclkfnecbaaDoor
