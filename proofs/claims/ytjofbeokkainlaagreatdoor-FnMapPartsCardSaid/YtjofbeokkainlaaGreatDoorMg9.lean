/- Texts put together, as a claim holds at most sixty files. -/
import Derived.Test.YtjofbeokkainlaaGreatDoorMg8
import Derived.Test.YtjofbeokkainlaaGreatDoorTabs
import Derived.Test.YtjofbeokkainlaaGreatDoorShelf
import Derived.Test.YtjofbeokkainlaaGreatDoorMg1
import Derived.Test.YtjofbeokkainlaaGreatDoorMg0
import Derived.Lib.IndexLaws
import Derived.Test.YtjofbeokkainlaaGreatDoorTabsR
namespace Go.Proofs.YtjofbeokkainlaaGreatDoor
open Go.ChangeShapes Go.WideShapes Go.ChangeAt Go.RowKit
set_option linter.unusedVariables false
set_option maxRecDepth 100000

theorem below_grew (w : World) (k : Nat) (os : Array Obj) : Below w.heap.size w (Sort.grow (w.drewN k) os) :=
  ⟨rfl, rfl, rfl, by simp [Sort.grow], fun i hi => by
    show (w.heap ++ os)[i]? = w.heap[i]?
    rw [Array.getElem?_append_left hi]⟩
def In64 (n : Int) : Prop := -9223372036854775808 ≤ n ∧ n ≤ 9223372036854775807
theorem fmt_any (n : Int) (hn : In64 n) (w : World) (hT : Tabs w) : Calls Tryz.prog 141 #[.int .i64 n, .int .i64 10] w (MadeTx (decB n) w) := by
  refine (Tryz.strconv_FormatInt_10 n hn.1 hn.2 w hT).mono ?_
  rintro e w' ⟨rfl, k, os, rfl⟩
  exact ⟨rfl, below_grew w k os⟩
end Go.Proofs.YtjofbeokkainlaaGreatDoor
namespace Go.Proofs.YtjofbeokkainlaaGreatDoor
open Go.ChangeShapes Go.WideShapes Go.ChangeAt Go.RowKit
set_option linter.unusedVariables false
set_option maxRecDepth 100000

def encS (b : List UInt8) : Value := .string ⟨b.toArray⟩

theorem extract_piece (s : ByteArray) (i j : Nat) : s.extract i j = ⟨(piece s.data.toList i j).toArray⟩ := by
  have h : (s.extract i j).data.toList = piece s.data.toList i j := by simp [piece]
  rw [← h]

theorem byte_at {s : ByteArray} {L : List UInt8} (hL : s.data.toList = L) (j : Nat) (h1 : j < s.size) (h2 : j < L.length) : L[j] = s[j] := by
  subst hL; rfl

/-- The end of l1Cut: the piece ahead of the first c, what is behind it, and whether there is one. -/
def MadeCut (c : UInt8) (s : ByteArray) (w : World) (e : Ending) (w' : World) : Prop :=
  ∃ (a r : ByteArray) (b : Bool), e = .returned (.tuple #[.string a, .string r, .bool b]) ∧ Below w.heap.size w w' ∧ r.size ≤ s.size ∧
    noC c a.data.toList ∧ (b = true → s.data.toList = a.data.toList ++ c :: r.data.toList) ∧ (b = false → a = s ∧ r.size = 0)

set_option maxHeartbeats 1000000 in
theorem cut_any (s : ByteArray) (c : UInt8) (w : World) (hs : s.size ≤ maxLen) :
    Calls Tryz.prog 82 #[.string s, .int .u8 c.toNat] w (MadeCut c s w) := by
  unfold maxLen at hs
  go_enter Tryz.func82, Tryz.ntmps82
  go_wp2
  go_loop [7] (fun i => ∃ k : Nat, k ≤ s.size ∧ i = .int .i64 k ∧ Hid (noC c (piece s.data.toList 0 k))) (fun i => s.size - (intOf i).toNat)
  case atStart => exact ⟨0, Nat.zero_le _, rfl, by rw [piece_empty]; exact noC_nil⟩
  case round =>
    obtain ⟨k, hk, rfl, HN⟩ := hrel
    by_cases hlt : k < s.size
    · by_cases hc : s[k] = c
      · have hb0 : (((s[k]).toNat : Int) == (c.toNat : Int)) = true := by rw [hc]; simp
        have hi1 : (k : Int) ≤ (s.size : Int) := by omega
        have hj0 : (0 : Int) ≤ (k : Int) + 1 := by omega
        have hj1 : (k : Int) + 1 ≤ (s.size : Int) := by omega
        have HC := Lib.hid hc
        clear hc
        go_wp2_with fail
        have hj2 : ((k : Int) + 1).toNat = k + 1 := by omega
        have hwr : IntKind.i64.wrap ((k : Int) + 1) = (k : Int) + 1 := IntWalk.i64_in _ (by omega)
        go_quiet (fail)
        clear hj2 hwr
        have hkl : k < s.data.toList.length := by simpa using hlt
        have e1 : (s.extract 0 k).data.toList = piece s.data.toList 0 k := by rw [extract_piece]
        have e2 : (s.extract (k + 1) s.size).data.toList = s.data.toList.drop (k + 1) := by
          rw [extract_piece, show s.size = s.data.toList.length by simp, piece_end]
        have e3 := drop_piece s.data.toList 0 k (Nat.zero_le _) hkl
        rw [List.drop_zero, byte_at rfl k hlt hkl, HC.out] at e3
        have E1 := Lib.hid e1
        have E3 := Lib.hid (show s.data.toList = (s.extract 0 k).data.toList ++ c :: (s.extract (k + 1) s.size).data.toList by rw [e1, e2]; exact e3)
        clear e1 e2 e3
        go_wp2
        go_ret3
        exact ⟨_, _, true, rfl, below_drewN (Below.refl _ _) _, by rw [ByteArray.size_extract]; omega, by rw [E1.out]; exact HN.out, fun _ => E3.out, (fun h => by cases h)⟩
      · have hb0 : (((s[k]).toNat : Int) == (c.toNat : Int)) = false := by
          simp only [beq_eq_false_iff_ne]
          intro h
          exact hc (UInt8.toNat_inj.1 (by omega))
        have HC := Lib.hid hc
        clear hc
        go_wp2
        go_round
        case rel =>
          have hkl : k < s.data.toList.length := by simpa using hlt
          exact ⟨k + 1, by omega, by go_num, by rw [piece_snoc _ 0 k (Nat.zero_le _) hkl]; exact noC_snoc HN.out (by rw [byte_at rfl k hlt hkl]; exact HC.out)⟩
        case measure => simp [intOf]; omega
    · obtain rfl : k = s.size := by omega
      have HN2 := Lib.hid (show noC c s.data.toList by
        have := HN.out
        rw [show s.size = s.data.toList.length by simp, piece_end] at this
        simpa using this)
      go_wp2
      go_ret3
      exact ⟨s, ByteArray.empty, false, rfl, Below.refl _ _, Nat.zero_le _, HN2.out, (fun h => by cases h), fun _ => ⟨rfl, rfl⟩⟩

def lenOf : Value → Nat | .string s => s.size | _ => 0
def yes : Value → Bool | .bool b => b | _ => false
end Go.Proofs.YtjofbeokkainlaaGreatDoor
namespace Go.Proofs.YtjofbeokkainlaaGreatDoor
open Go.ChangeShapes Go.WideShapes Go.ChangeAt Go.RowKit
set_option linter.unusedVariables false
set_option maxRecDepth 100000

def Same1 (x : Int) (w : World) (e : Ending) (w' : World) : Prop := e = .returned (.int .i64 x) ∧ w = w'
theorem idx_any (s : ByteArray) (c : UInt8) (x : Int) (w : World) (h : Lib.indexByte s.data.toList c = x) : Calls Tryz.prog 87 #[.string s, .string ⟨#[c]⟩] w (Same1 x w) :=
  (Tryz.stringslite_Index_one s c w).mono fun e w' ⟨he, hw⟩ => ⟨by rw [he, h], hw.symm⟩

theorem noC_of_idx {l : List UInt8} {c : UInt8} (h : Lib.indexByte l c = -1) : noC c l := by
  intro x hx hxc
  obtain ⟨k, hk, rfl⟩ := List.getElem_of_mem hx
  exact Lib.indexByte_none h k (by rw [List.getElem?_eq_getElem hk, hxc])
theorem idx_of_noC {l : List UInt8} {c : UInt8} (h : noC c l) : Lib.indexByte l c = -1 := by
  have hge := Lib.indexByte_ge l c
  by_cases hn : Lib.indexByte l c = -1
  · exact hn
  · obtain ⟨k, hk⟩ : ∃ k : Nat, Lib.indexByte l c = k := ⟨(Lib.indexByte l c).toNat, by omega⟩
    obtain ⟨h1, _⟩ := Lib.indexByte_some hk
    obtain ⟨hlt, he⟩ := List.getElem?_eq_some_iff.1 h1
    exact absurd he (h _ (List.getElem_mem hlt))

theorem cut_facts {s : ByteArray} {c : UInt8} {k : Nat} (h : Lib.indexByte s.data.toList c = k) : k < s.size ∧ noC c (s.extract 0 k).data.toList ∧ s.data.toList = (s.extract 0 k).data.toList ++ c :: (s.extract (k + 1) s.size).data.toList := by
  obtain ⟨h1, h2⟩ := Lib.indexByte_some h
  obtain ⟨hlt, he⟩ := List.getElem?_eq_some_iff.1 h1
  have hs : k < s.size := by simpa using hlt
  have e1 : (s.extract 0 k).data.toList = piece s.data.toList 0 k := by rw [extract_piece]
  have e2 : (s.extract (k + 1) s.size).data.toList = s.data.toList.drop (k + 1) := by
    rw [extract_piece, show s.size = s.data.toList.length by simp, piece_end]
  have e3 := drop_piece s.data.toList 0 k (Nat.zero_le _) hlt
  rw [List.drop_zero, he] at e3
  refine ⟨hs, ?_, by rw [e1, e2]; exact e3⟩
  rw [e1]
  intro x hx hxc
  unfold piece at hx
  obtain ⟨j, hj, hjx⟩ := List.getElem_of_mem hx
  simp at hj hjx
  refine h2 j (by omega) ?_
  rw [List.getElem?_eq_getElem (by simp; omega)]
  simp [hjx, hxc]

set_option maxHeartbeats 1000000 in
theorem lcut_any (s : ByteArray) (c : UInt8) (w : World) (hs : s.size ≤ maxLen) :
    Calls Tryz.prog 61 #[.string s, .string ⟨#[c]⟩] w (MadeCut c s w) := by
  unfold maxLen at hs
  have hge := Lib.indexByte_ge s.data.toList c
  by_cases hneg : Lib.indexByte s.data.toList c = -1
  · have HN := Lib.hid (noC_of_idx hneg)
    have HI := Lib.hid hneg
    clear hneg hge
    go_enter Tryz.func61, Tryz.ntmps61
    go_wp2_with (go_at_call 87; refine (idx_any s c (-1) _ HI.out).mono ?_; rintro e w' ⟨rfl, rfl⟩)
    go_ret3
    exact ⟨s, ByteArray.empty, false, rfl, Below.refl _ _, Nat.zero_le _, HN.out, (fun h => by cases h), fun _ => ⟨rfl, rfl⟩⟩
  · obtain ⟨k, hk⟩ : ∃ k : Nat, Lib.indexByte s.data.toList c = k := ⟨(Lib.indexByte s.data.toList c).toNat, by omega⟩
    obtain ⟨hlt, hno, hcut⟩ := cut_facts hk
    have HI := Lib.hid hk
    have HNO := Lib.hid hno
    have HCUT := Lib.hid hcut
    have hi0 : (0 : Int) ≤ (k : Int) := by omega
    have hi1 : (k : Int) ≤ (s.size : Int) := by omega
    have hj0 : (0 : Int) ≤ (k : Int) + 1 := by omega
    have hj1 : (k : Int) + 1 ≤ (s.size : Int) := by omega
    clear hk hno hcut hneg hge
    go_enter Tryz.func61, Tryz.ntmps61
    go_wp2_with (go_at_call 87; refine (idx_any s c k _ HI.out).mono ?_; rintro e w' ⟨rfl, rfl⟩)
    have hj2 : ((k : Int) + 1).toNat = k + 1 := by omega
    have hwr : IntKind.i64.wrap ((k : Int) + 1) = (k : Int) + 1 := IntWalk.i64_in _ (by omega)
    go_quiet (fail)
    clear hj2 hwr
    go_wp2
    go_ret3
    exact ⟨_, _, true, rfl, below_drewN (Below.refl _ _) _, by rw [ByteArray.size_extract]; omega, HNO.out, fun _ => HCUT.out, (fun h => by cases h)⟩

set_option maxHeartbeats 1000000 in
theorem stdcut_any (s : ByteArray) (c : UInt8) (w : World) (hs : s.size ≤ maxLen) :
    Calls Tryz.prog 32 #[.string s, .string ⟨#[c]⟩] w (MadeCut c s w) := by
  go_enter Tryz.func32, Tryz.ntmps32
  go_wp2_with fail
  refine (lcut_any s c _ hs).mono ?_
  rintro e w1 ⟨a, r, b, rfl, hB, hr, hno, hyes, hnot⟩
  have HB := Lib.hid hB
  have HR := Lib.hid hr
  have HNO := Lib.hid hno
  have HY := Lib.hid hyes
  have HN := Lib.hid hnot
  clear hB hr hno hyes hnot
  go_wp2
  go_ret3
  exact ⟨a, r, b, rfl, HB.out, HR.out, HNO.out, HY.out, HN.out⟩

def hasC (c : UInt8) (s : ByteArray) : Bool := !(s.data.toList.all fun x => x != c)
def SameB (x : Bool) (w : World) (e : Ending) (w' : World) : Prop := e = .returned (.bool x) ∧ w = w'
theorem hasC_idx (c : UInt8) (s : ByteArray) : decide (0 ≤ Lib.indexByte s.data.toList c) = hasC c s := by
  unfold hasC
  by_cases h : noC c s.data.toList
  · rw [idx_of_noC h]
    have : (s.data.toList.all fun x => x != c) = true := by rw [List.all_eq_true]; intro x hx; simpa using h x hx
    rw [this]; rfl
  · have hne : Lib.indexByte s.data.toList c ≠ -1 := fun e => h (noC_of_idx e)
    have := Lib.indexByte_ge s.data.toList c
    have h2 : (s.data.toList.all fun x => x != c) = false := by
      rw [← Bool.not_eq_true, List.all_eq_true]
      intro h3
      exact h fun x hx => by simpa using h3 x hx
    rw [h2, decide_eq_true (by omega)]; rfl
end Go.Proofs.YtjofbeokkainlaaGreatDoor
namespace Go.Proofs.YtjofbeokkainlaaGreatDoor
open Go.ChangeShapes Go.WideShapes Go.ChangeAt Go.RowKit
set_option linter.unusedVariables false
set_option maxRecDepth 100000

/-- The pieces so far. -/
structure SplitSt (L : List UInt8) (n : Nat) (w wr : World) (v : Value) (W : List (List UInt8)) (cur : ByteArray) (more : Bool) : Prop where
  own : wr.ownsRow w.heap.size 9 1 v W.length (W.map encS)
  below : Below w.heap.size w wr
  going : more = true → W ++ splitL 32 cur.data.toList = splitL 32 L ∧ W.length + cur.size ≤ n
  over : more = false → W = splitL 32 L ∧ W.length ≤ n + 1

/-- The end of a function that returns pieces in a row of its own. -/
def MadePieces (W : List (List UInt8)) (n : Nat) (w : World) (e : Ending) (w' : World) : Prop :=
  ∃ v, e = .returned v ∧ w'.ownsRow w.heap.size 9 1 v W.length (W.map encS) ∧ Below w.heap.size w w' ∧ W.length ≤ n + 1

theorem split_go {L : List UInt8} {n : Nat} {w wr w1 : World} {v v' : Value} {W : List (List UInt8)} {cur a r : ByteArray} {b : Bool} (h : SplitSt L n w wr v W cur true)
    (hn : noC 32 a.data.toList) (hb : b = true → cur.data.toList = a.data.toList ++ 32 :: r.data.toList) (hf : b = false → a = cur ∧ r.size = 0)
    (hown : w1.ownsRow w.heap.size 9 1 v' (W.length + 1) (W.map encS ++ [.string a])) (hbl : Below w.heap.size w w1) : SplitSt L n w w1 v' (W ++ [a.data.toList]) r b where
  own := by
    have e : encS a.data.toList = .string a := rfl
    rw [← e] at hown
    simpa using hown
  below := hbl
  going := fun hbt => by
    obtain ⟨g1, g2⟩ := h.going rfl
    have hc := hb hbt
    rw [hc, splitL_at 32 _ _ hn] at g1
    have hs : cur.size = a.size + 1 + r.size := by
      have := congrArg List.length hc
      simp at this
      omega
    exact ⟨by rw [← g1]; simp, by simp; omega⟩
  over := fun hbf => by
    obtain ⟨g1, g2⟩ := h.going rfl
    obtain ⟨rfl, _⟩ := hf hbf
    rw [splitL_no 32 _ hn] at g1
    exact ⟨g1, by simp; omega⟩

set_option maxHeartbeats 2000000 in
theorem split_any (s : ByteArray) (w : World) (hs : s.size ≤ 1048576) :
    Calls Tryz.prog 105 #[.string s] w (MadePieces (splitL 32 s.data.toList) s.size w) := by
  obtain ⟨i0, hi, hz0, hz1, hz2⟩ := info_parts infoStr
  obtain ⟨L, hL⟩ : ∃ L, s.data.toList = L := ⟨_, rfl⟩
  obtain ⟨n, hn⟩ : ∃ n, s.size = n := ⟨_, rfl⟩
  have HL := Lib.hid hL
  have HN := Lib.hid hn
  rw [hL, hn]
  rw [hn] at hs
  clear hL hn
  go_enter Tryz.func105, Tryz.ntmps105
  go_wp2
  go_loopw [0, 3, 4] (fun t v m wr => ∃ (cur : ByteArray) (W : List (List UInt8)) (q : Option Addr) (cp : Nat) (more : Bool), t = .string cur ∧ v = .slice q W.length cp ∧ m = .bool more ∧ cur.size ≤ n ∧ W.length ≤ n + 1 ∧ Hid (SplitSt L n w wr v W cur more)) (fun t _ m _ => if yes m then lenOf t + 1 else 0)
  case atStart =>
    refine ⟨s, [], _, _, true, rfl, rfl, rfl, by rw [HN.out]; exact Nat.le_refl _, by simp, ?_, (Below.refl _ _).alloc (Nat.le_refl _) _, fun _ => ⟨by rw [HL.out]; rfl, by rw [HN.out]; simp⟩, (fun h => by cases h)⟩
    exact World.ownsRow_lit w #[] 0 (Nat.le_refl _) (Nat.zero_le _) rfl
  case round =>
    obtain ⟨cur, W, q, cp, more, rfl, rfl, rfl, hcur, hW, HS⟩ := hrel
    obtain ⟨wl, hwl⟩ : ∃ wl, W.length = wl := ⟨_, rfl⟩
    rw [hwl] at hW HS ⊢
    have HWL := Lib.hid hwl
    clear hwl
    cases more with
    | false =>
      obtain ⟨g1, g2⟩ := HS.out.over rfl
      have HG1 := Lib.hid g1
      have HG2 := Lib.hid g2
      clear g1 g2
      go_wp2
      go_ret
      exact ⟨_, rfl, by rw [← HG1.out]; have := HS.out.own; exact this, HS.out.below, by rw [← HG1.out]; exact HG2.out⟩
    | true =>
      have hcm : cur.size ≤ maxLen := by unfold maxLen; omega
      have hW2 : wl ≤ n := by have := (HS.out.going rfl).2; rw [HWL.out] at this; omega
      have hown : wr.ownsRow w.heap.size 9 1 (.slice q wl cp) wl (W.map encS) := by
        have := HS.out.own
        rw [HWL.out] at this
        exact this
      have HO := Lib.hid hown
      clear hown
      go_wp2_with fail
      refine (cut_any cur 32 _ hcm).mono ?_
      rintro e w1 ⟨a, r, b, rfl, hB, hr, hno, hyes, hnot⟩
      have HNO := Lib.hid hno
      have HYES := Lib.hid hyes
      have HNOT := Lib.hid hnot
      have HB := Lib.hid (below_via HS.out.below hB)
      have HO := Lib.hid (own_below HO.out hB)
      have HR := Lib.hid hr
      clear hB hr hno hyes hnot
      go_wp2_with (at_builtin; (refine wpList_append_own _ rfl _ _ 25 rfl w.heap.size 9 i0 _ 1 16 Tryz.underlying25 hi hz0 hz1 hz2 rfl (by decide) _ _ _ rfl (HO.out.alloc _) ⟨w1.heap.size, 0, none⟩ 1 1 [.string a] rfl rfl (one_new _ _ _) (fun u hu => by simp at hu; subst hu; rfl) (by unfold maxLen; omega) (by omega) (Nat.le_trans HB.out.size (by simp)) ?_); intro v' w2 hown1 hgrow hnil; have HO1 := Lib.hid hown1; have HG := Lib.hid hgrow; clear hown1 hgrow hnil)
      obtain ⟨q1, cp1, rfl⟩ := own_form HO1.out
      go_roundw
      case rel =>
        have hb : Below w.heap.size w w2 := (HB.out.alloc HB.out.size _).grown HG.out (Nat.le_trans HB.out.size (by simp)) (fun k hk => (HO.out.lt k hk).1)
        have ho := HO1.out
        rw [← HWL.out] at ho
        have hnew := split_go HS.out HNO.out HYES.out HNOT.out ho hb
        rw [HWL.out] at hnew
        exact ⟨r, W ++ [a.data.toList], q1, cp1, b, rfl, by rw [← HWL.out]; simp, rfl, by have := HR.out; omega, by simp; have := HWL.out; omega, hnew⟩
      case measure =>
        have h1 := HR.out
        cases b with
        | false => simp [yes, lenOf]
        | true =>
          have hc := HYES.out rfl
          have := congrArg List.length hc
          simp at this
          simp [yes, lenOf]
          omega
end Go.Proofs.YtjofbeokkainlaaGreatDoor
namespace Go.Proofs.YtjofbeokkainlaaGreatDoor
open Go.ChangeShapes Go.WideShapes Go.ChangeAt Go.RowKit
set_option linter.unusedVariables false
set_option maxRecDepth 100000

theorem numD_err {l : List UInt8} (h : ∀ v, Lib.parseIntB 64 l ≠ .ok v) : numD l = none := by
  unfold numD
  cases hp : Lib.parseIntB 64 l with
  | ok v => exact absurd hp (h v)
  | _ => rfl
theorem decB_eq_iff {v : Int} {s : ByteArray} : Lib.itoa v = s.data.toList ↔ decB v = s := by
  constructor
  · intro h; exact ba_eq (by rw [decB_list]; exact h)
  · rintro rfl; exact (decB_list v).symm
theorem numD_ok {s : ByteArray} {v : Int} (h : Lib.parseIntB 64 s.data.toList = .ok v) (h2 : decB v = s) : numD s.data.toList = some v := by
  unfold numD
  rw [h]
  simp only
  rw [if_pos (decB_eq_iff.2 h2)]
theorem numD_other {s : ByteArray} {v : Int} (h : Lib.parseIntB 64 s.data.toList = .ok v) (h2 : ¬ decB v = s) : numD s.data.toList = none := by
  unfold numD
  rw [h]
  simp only
  rw [if_neg (fun e => h2 (decB_eq_iff.1 e))]
theorem ba_ne {a b : ByteArray} (h : ¬ a = b) : (a.toList == b.toList) = false := by
  rw [beq_eq_false_iff_ne]
  intro e
  rw [ByteArray.toList_eq, ByteArray.toList_eq] at e
  exact h (ba_eq e)

set_option maxHeartbeats 2000000 in
theorem decimalof_any (s : ByteArray) (w : World) (hs : s.size ≤ 1048576) (hT : TabsR w) : Calls Tryz.prog 139 #[.string s] w (MadeNum (numD s.data.toList) w) := by
  have HT := Lib.hid hT
  obtain ⟨te, pe, hsyn⟩ := hT.syn
  obtain ⟨tf, pf, hrng⟩ := hT.rng
  have HSYN := Lib.hid hsyn
  have HRNG := Lib.hid hrng
  clear hT hsyn hrng
  by_cases hok : ∃ v, Lib.parseIntB 64 s.data.toList = .ok v
  · obtain ⟨v, hp⟩ := hok
    have hb := Lib.parseIntB_bounds hp
    have hv : In64 v := by
      unfold In64
      simp at hb
      omega
    have HP := Lib.hid hp
    have HV := Lib.hid hv
    by_cases hd : decB v = s
    · have HR := Lib.hid (numD_ok hp hd)
      have hd2 : ((decB v).toList == s.toList) = true := by rw [hd]; simp
      clear hb hp hv hd
      go_enter Tryz.func139, Tryz.ntmps139
      go_wp2_with fail
      refine (Tryz.strconv_ParseInt_10_at64_ok s (by omega) v HP.out _).mono ?_
      rintro e w1 ⟨rfl, hW⟩
      have HB := Lib.hid (show Below w.heap.size w w1 by
        rcases hW with rfl | ⟨t, rfl⟩
        · exact Below.refl _ _
        · exact Lib.bytesWorld_below _ _ _)
      clear hW
      go_wp2_with fail
      refine (fmt_any v HV.out _ (HT.out.pow.keep HB.out)).mono ?_
      rintro e w2 ⟨rfl, hB⟩
      have HB := Lib.hid (below_via HB.out hB)
      clear hB
      go_wp2
      go_ret2
      exact num_good HR.out HB.out
    · have HR := Lib.hid (numD_other hp hd)
      have hd2 := ba_ne hd
      clear hb hp hv hd
      go_enter Tryz.func139, Tryz.ntmps139
      go_wp2_with fail
      refine (Tryz.strconv_ParseInt_10_at64_ok s (by omega) v HP.out _).mono ?_
      rintro e w1 ⟨rfl, hW⟩
      have HB := Lib.hid (show Below w.heap.size w w1 by
        rcases hW with rfl | ⟨t, rfl⟩
        · exact Below.refl _ _
        · exact Lib.bytesWorld_below _ _ _)
      clear hW
      go_wp2_with fail
      refine (fmt_any v HV.out _ (HT.out.pow.keep HB.out)).mono ?_
      rintro e w2 ⟨rfl, hB⟩
      have HB := Lib.hid (below_via HB.out hB)
      clear hB
      go_wp2
      go_ret2
      exact num_fail HR.out HB.out
  by_cases hp : Lib.parseIntB 64 s.data.toList = .range
  · clear hok
    have HR := Lib.hid (numD_err (l := s.data.toList) (fun v e => by rw [hp] at e; cases e))
    have HP := Lib.hid hp
    clear hp
    go_enter Tryz.func139, Tryz.ntmps139
    go_wp2_with fail
    refine (Tryz.strconv_ParseInt_10_at64_range s (by omega) HP.out _ _ HRNG.out (.inr ⟨_, _, rfl⟩)).mono ?_
    rintro e w1 ⟨N, rfl, _, _, hB⟩
    have HB := Lib.hid hB
    clear hB
    obtain ⟨x, hx⟩ : ∃ x, Lib.intSat 64 s.data.toList = x := ⟨_, rfl⟩
    rw [hx]
    clear hx
    go_wp2
    go_ret2
    exact num_fail HR.out HB.out
  · have hok2 := hok
    clear hok2
    have HR := Lib.hid (numD_err (l := s.data.toList) (fun v e => hok ⟨v, e⟩))
    have HP := Lib.hid (show (∀ v, Lib.parseIntB 64 s.data.toList ≠ .ok v) ∧ Lib.parseIntB 64 s.data.toList ≠ .range from ⟨fun v e => hok ⟨v, e⟩, hp⟩)
    clear hp hok
    go_enter Tryz.func139, Tryz.ntmps139
    go_wp2_with fail
    refine (Tryz.strconv_ParseInt_10_at64_bad s (by omega) HP.out.1 HP.out.2 _ _ HSYN.out (.inr ⟨_, _, rfl⟩)).mono ?_
    rintro e w1 ⟨N, rfl, _, _, hB⟩
    have HB := Lib.hid hB
    clear hB
    go_wp2
    go_ret2
    exact num_fail HR.out HB.out
end Go.Proofs.YtjofbeokkainlaaGreatDoor
