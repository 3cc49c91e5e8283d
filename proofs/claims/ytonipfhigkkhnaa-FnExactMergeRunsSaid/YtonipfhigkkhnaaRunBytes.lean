
/- What RunBytes computes in the program and in its model: the bytes of the records of a run. Only new blocks are made. -/
import Derived.Test.YtonipfhigkkhnaaPut
import Derived.Test.YtonipfhigkkhnaaRuns5
import Derived.Test.YtonipfhigkkhnaaLine
import Derived.Laws.BytesArg
import Derived.Lib.AppendStr
namespace Go.Proofs.Ytonipfhigkkhnaa
open Go.ChangeShapes Go.WideShapes Go.ChangeAt Go.RowKit
set_option linter.unusedVariables false
set_option maxRecDepth 100000

def bytesTo (l : Recs) : Nat → List Int
  | 0 => []
  | k + 1 => bytesTo l k ++ recN (keyAt l k) (numAt l k)
def sizeTo (l : Recs) : Nat → Nat
  | 0 => 0
  | k + 1 => sizeTo l k + (1 + (keyAt l k).size + 8)
theorem bytesTo_len (l : Recs) : ∀ k, (bytesTo l k).length = sizeTo l k
  | 0 => rfl
  | k + 1 => by
    rw [bytesTo, sizeTo, List.length_append, bytesTo_len l k, recN_len]; omega
theorem sizeTo_le (l : Recs) (h : ∀ i, i < l.length → (keyAt l i).size ≤ 40) : ∀ k, k ≤ l.length → sizeTo l k ≤ 49 * k
  | 0, _ => by simp [sizeTo]
  | k + 1, hk => by
    have := sizeTo_le l h k (by omega)
    have := h k (by omega)
    unfold sizeTo; omega
theorem sizeTo_mono (l : Recs) : ∀ k j, k ≤ j → sizeTo l k ≤ sizeTo l j := by
  intro k j hkj
  induction j with
  | zero => obtain rfl : k = 0 := by omega
            exact Nat.le_refl _
  | succ j ih =>
    rcases Nat.lt_or_ge k (j + 1) with h | h
    · have := ih (by omega)
      have e : sizeTo l (j + 1) = sizeTo l j + (1 + (keyAt l j).size + 8) := rfl
      omega
    · obtain rfl : k = j + 1 := by omega
      exact Nat.le_refl _
/-- The bytes of a run. -/
def runBytesB (l : Recs) : ByteArray := if runOkB l then strOfNums (bytesTo l l.length) else ByteArray.empty
theorem runbytes_no {l : Recs} (h : runOkB l = false) : ByteArray.empty = runBytesB l := by unfold runBytesB; rw [h]; rfl
theorem runbytes_yes {l : Recs} {n : Nat} (h : runOkB l = true) (hn : l.length = n) : strOfNums (bytesTo l n) = runBytesB l := by unfold runBytesB; rw [h, ← hn]; rfl
theorem runOk_keys {l : Recs} (h : runOkB l = true) : l.length ≤ 600 ∧ ∀ i, i < l.length → (keyAt l i).size ≤ 40 := by
  have hok : recsOkB l = true := by
    cases hr : recsOkB l with
    | true => rfl
    | false => rw [recsOk_not hr] at h; cases h
  obtain ⟨h1, h2⟩ := recsOk_parts hok
  exact ⟨h1, fun i hi => by have := h2 i hi; unfold okAt okB at this; exact of_decide_eq_true this⟩

theorem wrx_text {w : World} {b g S : Nat} {X : List Int} (h : WrX w b g S X) (hX : X.length = S) :
    (convert 22 9 (.slice (some ⟨g, 0, none⟩) S S)).run Try.prog w = .ok (.string (strOfNums X)) w := by
  obtain ⟨cur, h1, h2⟩ := h
  exact run_convert_bytes_arg _ _ _ Try.underlying22 Try.underlying5 g 0 S S X hX (fun i hi => by
    rw [Nat.zero_add]
    have := row_cellP h1.row (h2 i (by omega))
    rw [this, List.getD_eq_getElem?_getD, List.getElem?_eq_getElem (by omega)]; rfl) _ Try.underlying9

set_option maxHeartbeats 4000000 in
theorem runbytes_any (a : Option Addr) (len cap : Nat) (l : Recs) (w : World) (h : RecsAt w a len l) :
    Calls Try.prog 29 #[.slice a len cap] w (MadeStr (runBytesB l) w) := by
  obtain ⟨i0, hi, hz0, hz1, hz2⟩ := info_parts infoByte
  have hm := h.max
  unfold maxLen at hm
  have HR := Lib.hid h
  have HL := Lib.hid h.length
  clear h
  cases hr : runOkB l with
  | false =>
    have HQ := Lib.hid (runbytes_no hr)
    have HRR := Lib.hid hr
    clear hr
    go_enter Try.func29, Try.ntmps29
    go_wp2_with (go_at_call 35; refine (runok_any _ _ _ _ _ HR.out).mono ?_; rw [HRR.out]; rintro e w1 ⟨rfl, hB⟩; have HB := Lib.hid hB; clear hB)
    go_ret
    exact ⟨congrArg (fun s => Ending.returned (.string s)) HQ.out, HB.out⟩
  | true =>
    obtain ⟨h6, hk⟩ := runOk_keys hr
    rw [HL.out] at h6
    have HQ := Lib.hid (runbytes_yes hr HL.out)
    have HK := Lib.hid hk
    have HRR := Lib.hid hr
    obtain ⟨S, hS⟩ : ∃ S, sizeTo l len = S := ⟨_, rfl⟩
    have hS2 : S ≤ 29400 := by
      have := sizeTo_le l hk len (by rw [HL.out]; exact Nat.le_refl _)
      omega
    have HS := Lib.hid hS
    clear hr hk hS
    go_enter Try.func29, Try.ntmps29
    go_wp2_with (go_at_call 35; refine (runok_any _ _ _ _ _ HR.out).mono ?_; rw [HRR.out]; rintro e w1 ⟨rfl, hB⟩; have HB := Lib.hid hB; clear hB)
    go_loopw [3, 14] (fun t i wr => ∃ k : Nat, k ≤ len ∧ i = .int .i64 k ∧ (∃ z : Nat, t = .int .i64 z ∧ z ≤ 49 * k ∧ Hid (sizeTo l k = z)) ∧ Hid (Below w.heap.size w wr)) (fun _ i _ => len - (intOf i).toNat)
    case atStart => exact ⟨0, Nat.zero_le _, rfl, ⟨0, rfl, by omega, Lib.hid rfl⟩, HB.out⟩
    case round =>
      obtain ⟨k, hk, rfl, ⟨z, rfl, hz, HZ⟩, HW⟩ := hrel
      clear HB
      by_cases hlt : k < len
      · rcases HR.out.src with hz | ⟨bb, off, rfl, hb, hc⟩
        · omega
        · have c0 := (HW.out.cell (p := ⟨bb, off + k * 2, none⟩) hb).trans (hc k hlt).1
          have c1 := (HW.out.cell (p := ⟨bb, off + k * 2 + 1, none⟩) hb).trans (hc k hlt).2
          have hks := HK.out k (by rw [HL.out]; exact hlt)
          have HST := Lib.hid (show sizeTo l (k + 1) = sizeTo l k + (1 + (keyAt l k).size + 8) from rfl)
          clear hc hb
          go_wp2
          go_roundw
          case rel => exact ⟨k + 1, by omega, by go_num, ⟨z + (1 + (keyAt l k).size + 8), by go_num, by omega, Lib.hid (by rw [HST.out, HZ.out])⟩, below_alloc HW.out _⟩
          case measure => simp [intOf]; omega
      · obtain rfl : k = len := by omega
        obtain rfl : z = S := by rw [← HZ.out, HS.out]
        clear HZ
        go_wp2_with (at_make; (refine wpList_make_full _ rfl _ _ 22 rfl wr.heap.size 5 i0 _ 1 Try.underlying22 hi hz0 hz1 .i64 .i64 _ _ z rfl rfl rfl rfl (by rw [hz2]; omega) (by unfold maxLen; omega) (Nat.le_refl _) ?_); intro w2 hown hgrow; have HO := Lib.hid hown; have HG := Lib.hid hgrow; clear hown hgrow)
        obtain ⟨cur0, hrow0, hcs0⟩ : ∃ cur, Row w2 wr.heap.size 5 cur ∧ cur.size = z := by
          rcases HO.out.2 with ⟨h, _⟩ | ⟨g, cp, cur, hv, _, hh, _, _, hs, _⟩
          · simp at h
          · simp only [Value.slice.injEq, Option.some.injEq, Addr.mk.injEq, true_and, and_true] at hv
            obtain ⟨rfl, rfl⟩ := hv
            exact ⟨cur, hh, by omega⟩
        obtain ⟨g, hg⟩ : ∃ g, wr.heap.size = g := ⟨_, rfl⟩
        have hgb : w.heap.size ≤ g := by rw [← hg]; exact HW.out.size
        have hB2 : Below w.heap.size w w2 := HW.out.grown HG.out HW.out.size (fun k hk => by cases hk)
        rw [hg] at hrow0 ⊢
        have hX0 : WrX (w2.alloc (.cells #[.slice (some ⟨g, 0, none⟩) z z, .int .i64 0] 78)) w2.heap.size g z [] :=
          ⟨cur0, ⟨Row.new w2 78 #[.slice (some ⟨g, 0, none⟩) z z, .int .i64 0], hrow0.alloc _, hcs0, Nat.ne_of_gt hrow0.lt⟩, fun i hi => by simp at hi⟩
        have HX0 := Lib.hid hX0
        have HB0 := Lib.hid (below_alloc hB2 (.cells #[.slice (some ⟨g, 0, none⟩) z z, .int .i64 0] 78))
        have HBB := Lib.hid (And.intro hB2.size hgb)
        obtain ⟨b, hb2⟩ : ∃ b, w2.heap.size = b := ⟨_, rfl⟩
        rw [hb2] at HX0 HBB ⊢
        clear HO HG hrow0 hcs0 hg hgb hB2 hX0 hb2
        go_loopw [31] (fun i wr => ∃ j : Nat, j ≤ k ∧ i = .int .i64 j ∧ Hid (Below w.heap.size w wr ∧ WrX wr b g z (bytesTo l j))) (fun i _ => k - (intOf i).toNat)
        case atStart => exact ⟨0, Nat.zero_le _, rfl, HB0.out, HX0.out⟩
        case round =>
          obtain ⟨j, hj, rfl, HJ⟩ := hrel
          clear HX0 HB0
          by_cases hjk : j < k
          · rcases HR.out.src with hz | ⟨bb, off, rfl, hb, hc⟩
            · omega
            · have c0 := (HJ.out.1.cell (p := ⟨bb, off + j * 2, none⟩) hb).trans (hc j hjk).1
              have c1 := (HJ.out.1.cell (p := ⟨bb, off + j * 2 + 1, none⟩) hb).trans (hc j hjk).2
              have HKS := Lib.hid (HK.out j (by rw [HL.out]; exact hjk))
              have HLE := Lib.hid (show (bytesTo l j).length + (keyAt l j).size + 9 ≤ z by
                have h1 := sizeTo_mono l (j + 1) k hjk
                have h2 : sizeTo l (j + 1) = sizeTo l j + (1 + (keyAt l j).size + 8) := rfl
                rw [HS.out] at h1
                rw [bytesTo_len]; omega)
              have HST := Lib.hid (show bytesTo l (j + 1) = bytesTo l j ++ recN (keyAt l j) (numAt l j) from rfl)
              clear hc hb
              go_wp2_with fail
              refine (putrec_any b g z _ _ _ _ (HJ.out.2.keep (below_alloc (Below.refl _ _) _)) HLE.out (by omega) HKS.out).mono ?_
              rintro e w5 ⟨rfl, hw, hT⟩
              have HN := Lib.hid (And.intro (hT.toBelow (below_alloc HJ.out.1 _) HBB.out.1 HBB.out.2 (below_alloc HJ.out.1 _).size) hw)
              clear hw hT
              go_wp2
              go_roundw
              case rel => exact ⟨j + 1, by omega, by go_num, HN.out.1, by rw [HST.out]; exact HN.out.2⟩
              case measure => simp [intOf]; omega
          · obtain rfl : j = k := by omega
            obtain ⟨cur, hwr, hpre⟩ := HJ.out.2
            have d0 : wr.cell? ⟨b, 0, none⟩ = some (.slice (some ⟨g, 0, none⟩) z z) := hwr.rdr.cell (j := 0) (by simp)
            have kc := wrx_text HJ.out.2 (by rw [bytesTo_len, HS.out])
            clear hwr hpre
            go_wp2
            go_ret
            exact ⟨congrArg (fun s => Ending.returned (.string s)) HQ.out, HJ.out.1⟩

/-- The bytes so far, in the model. -/
def byteCells (X : List Int) : List Value := X.map fun x => Value.int .u8 x
theorem byteCells_append (X Y : List Int) : byteCells (X ++ Y) = byteCells X ++ byteCells Y := by simp [byteCells]
structure L2St (w wr : World) (v : Value) (n : Nat) (X : List Int) : Prop where
  own : wr.ownsRow w.heap.size 5 1 v n (byteCells X)
  length : X.length = n
  below : Below w.heap.size w wr
theorem L2St.text {w wr : World} {q : Option Addr} {n cp : Nat} {X : List Int} (h : L2St w wr (.slice q n cp) n X) (hne : ∃ g, q = some ⟨g, 0, none⟩) :
    (convert 22 9 (.slice q n cp)).run Try.prog wr = .ok (.string (strOfNums X)) wr := by
  obtain ⟨g, rfl⟩ := hne
  exact run_convert_bytes_arg _ _ _ Try.underlying22 Try.underlying5 g 0 n cp X h.length (fun i hi => by
    rw [Nat.zero_add]
    have hl := h.length
    have hiX : i < X.length := by omega
    rw [h.own.cellAt i (by omega)]
    rw [List.getD_eq_getElem?_getD]
    simp [byteCells, hiX]) _ Try.underlying9

theorem byte_cell (x : Int) : ∀ u ∈ [Value.int .u8 x], u.oneCell' = true := by
  intro u hu
  simp at hu
  subst hu; rfl
theorem L2St.addByte {w wr w1 : World} {v v' : Value} {n : Nat} {X : List Int} {x : Int} {o : Obj} (h : L2St w wr v n X) (hown : w1.ownsRow w.heap.size 5 1 v' (n + 1) (byteCells X ++ [.int .u8 x])) (hg : (wr.alloc o).grownBy w1 v.ownBlock) : L2St w w1 v' (n + 1) (X ++ [x]) :=
  ⟨by rw [byteCells_append]; exact hown, by simp [h.length], (below_alloc h.below o).grown hg (below_alloc h.below o).size (fun j hj => (h.own.lt j hj).1)⟩
theorem L2St.addText {w wr w1 : World} {v v' : Value} {n : Nat} {X : List Int} {s : ByteArray} (h : L2St w wr v n X) (hown : w1.ownsRow w.heap.size 5 1 v' (n + s.size) (byteCells X ++ Lib.strCells s)) (hg : wr.grownBy w1 v.ownBlock) : L2St w w1 v' (n + s.size) (X ++ ints s.data.toList) :=
  ⟨by rw [byteCells_append]; simpa [byteCells, ints, Lib.strCells, Function.comp_def] using hown, by simp [h.length, ints], h.below.grown hg h.below.size (fun j hj => (h.own.lt j hj).1)⟩
theorem own_some {w : World} {base n cp : Nat} {e : TypeId} {q : Option Addr} {xs : List Value} (h : w.ownsRow base e 1 (.slice q n cp) n xs) (hn : 0 < n) : ∃ g, q = some ⟨g, 0, none⟩ := by
  rcases h.2 with ⟨h1, h2⟩ | ⟨g, cap, cur, hv, _⟩
  · simp only [Value.slice.injEq] at h1; omega
  · simp only [Value.slice.injEq] at hv
    exact ⟨g, hv.1⟩

set_option maxHeartbeats 8000000 in
theorem l2bytes_any (a : Option Addr) (len cap : Nat) (l : Recs) (w : World) (h : RecsAt w a len l) (h6 : len ≤ 600) (hkeys : ∀ i, i < l.length → (keyAt l i).size ≤ 40) :
    Calls Try.prog 76 #[.slice a len cap] w (MadeStr (strOfNums (bytesTo l len)) w) := by
  obtain ⟨i0, hi, hz0, hz1, hz2⟩ := info_parts infoByte
  have HR := Lib.hid h
  have HL := Lib.hid h.length
  have HK := Lib.hid hkeys
  have HLE := Lib.hid (sizeTo_le l hkeys)
  clear h hkeys
  go_enter Try.func76, Try.ntmps76
  go_wp2
  go_loopw [3, 4] (fun v i wr => ∃ (k n : Nat) (q : Option Addr) (cp : Nat), k ≤ len ∧ i = .int .i64 k ∧ v = .slice q n cp ∧ n ≤ 49 * k ∧ Hid (L2St w wr v n (bytesTo l k) ∧ ∃ g, q = some ⟨g, 0, none⟩)) (fun _ i _ => len - (intOf i).toNat)
  case atStart => exact ⟨0, 0, _, _, Nat.zero_le _, rfl, rfl, by omega, ⟨World.ownsRow_lit w #[] 0 (Nat.le_refl _) (Nat.zero_le _) rfl, rfl, below_alloc (Below.refl _ _) _⟩, _, rfl⟩
  case round =>
    obtain ⟨k, n, q, cp, hk, rfl, rfl, hn, HS⟩ := hrel
    by_cases hlt : k < len
    · rcases HR.out.src with hz | ⟨bb, off, rfl, hb, hc⟩
      · omega
      · have HC := Lib.hid (hc k hlt)
        have HBL := Lib.hid hb
        have c0 := (HS.out.1.below.cell (p := ⟨bb, off + k * 2, none⟩) hb).trans (hc k hlt).1
        have hks := HK.out k (by rw [HL.out]; exact hlt)
        have HO := Lib.hid HS.out.1.own
        obtain ⟨s, hs⟩ : ∃ s, keyAt l k = s := ⟨_, rfl⟩
        obtain ⟨m, hm⟩ : ∃ m, numAt l k = m := ⟨_, rfl⟩
        have HST := Lib.hid (show bytesTo l (k + 1) = bytesTo l k ++ recN s m by rw [← hs, ← hm]; rfl)
        rw [hs] at c0 hks HC
        rw [hm] at HC
        clear hc hb hs hm
        go_wp2_with (first
          | (at_builtin; (refine wpList_append_own _ rfl _ _ 22 rfl w.heap.size 5 i0 _ 1 1 Try.underlying22 hi hz0 hz1 hz2 rfl (by decide) _ _ _ rfl (HO.out.alloc _) ⟨wr.heap.size, 0, none⟩ 1 1 [.int .u8 (s.size : Int)] rfl rfl (one_new _ _ _) (byte_cell _) (by unfold maxLen; omega) (by omega) (Nat.le_trans HS.out.1.below.size (below_alloc (Below.refl _ _) _).size) ?_); intro v2 w2 hown1 hgrow hnil; have H2 := Lib.hid (HS.out.1.addByte hown1 hgrow); have c2 := (H2.out.below.cell (p := ⟨bb, off + k * 2, none⟩) HBL.out).trans HC.out.1; clear hown1 hgrow hnil)
          | (at_builtin; (refine Lib.wpList_append_own_string _ rfl _ _ 22 9 rfl w.heap.size 5 i0 Try.underlying22 Try.underlying9 hi hz0 hz1 hz2 _ _ _ rfl H2.out.own s rfl (by unfold maxLen; omega) (by omega) H2.out.below.size ?_); intro v3 w3 hown1 hgrow hnil; have H3 := Lib.hid (H2.out.addText hown1 hgrow); have c3 := (H3.out.below.cell (p := ⟨bb, off + k * 2 + 1, none⟩) HBL.out).trans HC.out.2; clear hown1 hgrow hnil))
        obtain ⟨q3, cp3, rfl⟩ := own_form H3.out.own
        have HNE := Lib.hid (show (bytesTo l k ++ [(s.size : Int)] ++ ints s.data.toList) = bytesTo l k ++ ([(s.size : Int)] ++ ints s.data.toList) from List.append_assoc _ _ _)
        go_loopw [3, 5, 6] (fun v x i wr => ∃ (j : Nat) (q : Option Addr) (cp : Nat), j ≤ 8 ∧ i = .int .i64 j ∧ x = .int .u64 (wordK m j) ∧ v = .slice q (n + 1 + s.size + j) cp ∧ Hid (L2St w wr v (n + 1 + s.size + j) (bytesTo l k ++ [(s.size : Int)] ++ ints s.data.toList ++ bytesK m j))) (fun _ _ i _ => 8 - (intOf i).toNat)
        case atStart => exact ⟨0, q3, cp3, by omega, rfl, rfl, rfl, by rw [show bytesK m 0 = [] from rfl, List.append_nil]; exact H3.out⟩
        case round =>
          obtain ⟨j, q4, cp4, hj, rfl, rfl, rfl, HJ⟩ := hrel
          by_cases hj8 : j < 8
          · have HS1 := Lib.hid (show wordK m (j + 1) = wordK m j / 256 from rfl)
            have HS2 := Lib.hid (show bytesK m (j + 1) = bytesK m j ++ [wordK m j % 256] from rfl)
            have HO4 := Lib.hid HJ.out.own
            generalize hZ : wordK m j = Z at HS1 HS2
            have HZ := Lib.hid hZ
            clear hZ
            obtain ⟨N, hN⟩ : ∃ N, n + 1 + s.size + j = N := ⟨_, rfl⟩
            have hNb : N ≤ 30000 := by omega
            rw [hN] at HO4 HJ ⊢
            have HN := Lib.hid hN
            clear hN
            go_wp2_with (at_builtin; (refine wpList_append_own _ rfl _ _ 22 rfl w.heap.size 5 i0 _ 1 1 Try.underlying22 hi hz0 hz1 hz2 rfl (by decide) _ _ _ rfl (HO4.out.alloc _) ⟨wr.heap.size, 0, none⟩ 1 1 [.int .u8 (Z % 256)] rfl rfl (one_new _ _ _) (byte_cell _) (by unfold maxLen; omega) (by omega) (Nat.le_trans HJ.out.below.size (below_alloc (Below.refl _ _) _).size) ?_); intro v5 w5 hown1 hgrow hnil; have H5 := Lib.hid (HJ.out.addByte hown1 hgrow); clear hown1 hgrow hnil)
            obtain ⟨q5, cp5, rfl⟩ := own_form H5.out.own
            go_roundw
            case rel =>
              have h5 := H5.out
              rw [List.append_assoc, ← HS2.out] at h5
              have e : N + 1 = n + 1 + s.size + (j + 1) := by have := HN.out; omega
              rw [e] at h5 ⊢
              exact ⟨j + 1, q5, cp5, by omega, by go_num, by rw [HS1.out], rfl, h5⟩
            case measure => simp [intOf]; omega
          · obtain rfl : j = 8 := by omega
            have HFIN := Lib.hid (show bytesTo l k ++ [(s.size : Int)] ++ ints s.data.toList ++ bytesK m 8 = bytesTo l (k + 1) by rw [HST.out]; unfold recN; simp [List.append_assoc])
            have HSOME := Lib.hid (own_some HJ.out.own (by omega))
            go_wp2
            go_roundw
            case rel => exact ⟨k + 1, _, q4, cp4, by omega, by go_num, rfl, by omega, by have := HJ.out; rw [HFIN.out] at this; exact this, HSOME.out⟩
            case measure => simp [intOf]; omega
    · obtain rfl : k = len := by omega
      have kc := HS.out.1.text HS.out.2
      go_wp2
      go_ret
      exact ⟨rfl, HS.out.1.below⟩

set_option maxHeartbeats 2000000 in
theorem srunbytes_any (a : Option Addr) (len cap : Nat) (l : Recs) (w : World) (h : RecsAt w a len l) :
    Calls Try.prog 33 #[.slice a len cap] w (MadeStr (runBytesB l) w) := by
  have HR := Lib.hid h
  have HL := Lib.hid h.length
  clear h
  cases hr : runOkB l with
  | false =>
    have HQ := Lib.hid (runbytes_no hr)
    have HRR := Lib.hid hr
    clear hr
    go_enter Try.func33, Try.ntmps33
    go_wp2_with (go_at_call 36; refine (srunok_any _ _ _ _ _ HR.out).mono ?_; rw [HRR.out]; rintro e w1 ⟨rfl, hB⟩; have HB := Lib.hid hB; clear hB)
    go_ret
    exact ⟨congrArg (fun s => Ending.returned (.string s)) HQ.out, HB.out⟩
  | true =>
    obtain ⟨h6, hk⟩ := runOk_keys hr
    rw [HL.out] at h6
    have HQ := Lib.hid (runbytes_yes hr HL.out)
    have HK := Lib.hid hk
    have HRR := Lib.hid hr
    clear hr hk
    go_enter Try.func33, Try.ntmps33
    go_wp2_with (first | (go_at_call 36; refine (srunok_any _ _ _ _ _ HR.out).mono ?_; rw [HRR.out]; rintro e w1 ⟨rfl, hB⟩; have HB := Lib.hid hB; clear hB) | (go_at_call 76; refine (l2bytes_any _ _ _ _ _ (HR.out.keep HB.out) h6 HK.out).mono ?_; rw [HQ.out]; rintro e w2 ⟨rfl, hB⟩; have HB2 := Lib.hid (below_via HB.out hB); clear hB))
    go_ret
    exact ⟨rfl, HB2.out⟩

set_option maxHeartbeats 2000000 in
theorem fnExactRunBytes_walk (a : Option Addr) (len cap : Nat) (l : Recs) (w : World) (h : RecsAt w a len l) :
    Calls Try.prog 10 #[.slice a len cap] w fun e w' => e = .returned (.bool true) ∧ Below w.heap.size w w' := by
  have HR := Lib.hid h
  clear h
  obtain ⟨T, hT⟩ : ∃ T, runBytesB l = T := ⟨_, rfl⟩
  have HT := Lib.hid hT
  clear hT
  go_enter Try.func10, Try.ntmps10
  go_wp2_with (go_at_call 49; refine (szrecs_any _ _ _ _ _ _ HR.out (by decide) (by decide)).mono ?_; rintro e w1 ⟨x, hx1, hx2, rfl, hB, hz⟩; have HZ := Lib.hid hz; have HB := Lib.hid hB; have HR := Lib.hid (HR.out.keep hB); clear hB hz)
  · go_ret
    exact ⟨rfl, HB.out⟩
  · have hfew := (HZ.out (by omega)).1
    refine (torecs_any _ _ _ _ _ HR.out hfew).mono ?_
    rintro e w2 ⟨rfl, hG, hB, _⟩
    have HG := Lib.hid hG
    have HB := Lib.hid (below_via HB.out hB)
    have HR := Lib.hid (HR.out.keep hB)
    clear hG hB
    go_wp2_with fail
    refine (srunbytes_any _ _ _ _ _ HG.out).mono ?_
    rw [HT.out]
    rintro e w3 ⟨rfl, hB⟩
    have HB := Lib.hid (below_via HB.out hB)
    have HR := Lib.hid (HR.out.keep hB)
    clear hB HG
    go_wp2_with fail
    refine (torecs_any _ _ _ _ _ HR.out hfew).mono ?_
    rintro e w4 ⟨rfl, hG, hB, _⟩
    have HX := Lib.hid hG
    have HB := Lib.hid (below_via HB.out hB)
    have HR := Lib.hid (HR.out.keep hB)
    clear hG hB
    go_wp2_with fail
    refine (runbytes_any _ _ _ _ _ HX.out).mono ?_
    rw [HT.out]
    rintro e w5 ⟨rfl, hB⟩
    have HX := Lib.hid (HX.out.keep hB)
    have HB := Lib.hid (below_via HB.out hB)
    have HR := Lib.hid (HR.out.keep hB)
    clear hB
    go_wp2_with fail
    refine (torecs_any _ _ _ _ _ HR.out hfew).mono ?_
    rintro e w6 ⟨rfl, hG, hB, _⟩
    have HY := Lib.hid hG
    have HX := Lib.hid (HX.out.keep hB)
    have HB := Lib.hid (below_via HB.out hB)
    clear hG hB
    go_wp2_with fail
    refine (eqrecs_same _ _ _ _ _ _ _ HX.out HY.out).mono ?_
    rintro e w7 ⟨rfl, hB⟩
    have HB := Lib.hid (below_via HB.out hB)
    clear hB
    go_wp2
    go_ret
    exact ⟨rfl, HB.out⟩
end Go.Proofs.Ytonipfhigkkhnaa
