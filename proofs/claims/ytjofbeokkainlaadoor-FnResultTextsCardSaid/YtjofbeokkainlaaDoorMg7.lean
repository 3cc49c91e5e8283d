/- Texts put together, as a claim holds at most sixty files. -/
import Derived.Test.YtjofbeokkainlaaDoorMg5
import Derived.Test.YtjofbeokkainlaaDoorMg0
import Derived.Test.YtjofbeokkainlaaDoorShelf
import Derived.Test.YtjofbeokkainlaaDoorMg2
import Derived.Lib.Join
namespace Go.Proofs.YtjofbeokkainlaaDoor
open Go.ChangeShapes Go.WideShapes Go.ChangeAt Go.RowKit
set_option linter.unusedVariables false
set_option maxRecDepth 100000

theorem below_grew (w : World) (k : Nat) (os : Array Obj) : Below w.heap.size w (Sort.grow (w.drewN k) os) :=
  ⟨rfl, rfl, rfl, by simp [Sort.grow], fun i hi => by
    show (w.heap ++ os)[i]? = w.heap[i]?
    rw [Array.getElem?_append_left hi]⟩
def In64 (n : Int) : Prop := -9223372036854775808 ≤ n ∧ n ≤ 9223372036854775807
theorem fmt_any (n : Int) (hn : In64 n) (w : World) (hT : Tabs w) : Calls Tryd.prog 24 #[.int .i64 n, .int .i64 10] w (MadeTx (decB n) w) := by
  refine (Tryd.strconv_FormatInt_10 n hn.1 hn.2 w hT).mono ?_
  rintro e w' ⟨rfl, k, os, rfl⟩
  exact ⟨rfl, below_grew w k os⟩
end Go.Proofs.YtjofbeokkainlaaDoor
namespace Go.Proofs.YtjofbeokkainlaaDoor
open Go.ChangeShapes Go.WideShapes Go.ChangeAt Go.RowKit
set_option linter.unusedVariables false
set_option maxRecDepth 100000

def encS (b : List UInt8) : Value := .string ⟨b.toArray⟩

theorem extract_piece (s : ByteArray) (i j : Nat) : s.extract i j = ⟨(piece s.data.toList i j).toArray⟩ := by
  have h : (s.extract i j).data.toList = piece s.data.toList i j := by simp [piece]
  rw [← h]

theorem byte_at {s : ByteArray} {L : List UInt8} (hL : s.data.toList = L) (j : Nat) (h1 : j < s.size) (h2 : j < L.length) : L[j] = s[j] := by
  subst hL; rfl

/-- The end of l1Cut: the piece ahead of the first c, what is behind it, and whether there is one. -/
def MadeCut (c : UInt8) (s : ByteArray) (w : World) (e : Ending) (w' : World) : Prop :=
  ∃ (a r : ByteArray) (b : Bool), e = .returned (.tuple #[.string a, .string r, .bool b]) ∧ Below w.heap.size w w' ∧ r.size ≤ s.size ∧
    noC c a.data.toList ∧ (b = true → s.data.toList = a.data.toList ++ c :: r.data.toList) ∧ (b = false → a = s ∧ r.size = 0)

set_option maxHeartbeats 1000000 in
theorem cut_any (s : ByteArray) (c : UInt8) (w : World) (hs : s.size ≤ maxLen) :
    Calls Tryd.prog 62 #[.string s, .int .u8 c.toNat] w (MadeCut c s w) := by
  unfold maxLen at hs
  go_enter Tryd.func62, Tryd.ntmps62
  go_wp2
  go_loop [7] (fun i => ∃ k : Nat, k ≤ s.size ∧ i = .int .i64 k ∧ Hid (noC c (piece s.data.toList 0 k))) (fun i => s.size - (intOf i).toNat)
  case atStart => exact ⟨0, Nat.zero_le _, rfl, by rw [piece_empty]; exact noC_nil⟩
  case round =>
    obtain ⟨k, hk, rfl, HN⟩ := hrel
    by_cases hlt : k < s.size
    · by_cases hc : s[k] = c
      · have hb0 : (((s[k]).toNat : Int) == (c.toNat : Int)) = true := by rw [hc]; simp
        have hi1 : (k : Int) ≤ (s.size : Int) := by omega
        have hj0 : (0 : Int) ≤ (k : Int) + 1 := by omega
        have hj1 : (k : Int) + 1 ≤ (s.size : Int) := by omega
        have HC := Lib.hid hc
        clear hc
        go_wp2_with fail
        have hj2 : ((k : Int) + 1).toNat = k + 1 := by omega
        have hwr : IntKind.i64.wrap ((k : Int) + 1) = (k : Int) + 1 := IntWalk.i64_in _ (by omega)
        go_quiet (fail)
        clear hj2 hwr
        have hkl : k < s.data.toList.length := by simpa using hlt
        have e1 : (s.extract 0 k).data.toList = piece s.data.toList 0 k := by rw [extract_piece]
        have e2 : (s.extract (k + 1) s.size).data.toList = s.data.toList.drop (k + 1) := by
          rw [extract_piece, show s.size = s.data.toList.length by simp, piece_end]
        have e3 := drop_piece s.data.toList 0 k (Nat.zero_le _) hkl
        rw [List.drop_zero, byte_at rfl k hlt hkl, HC.out] at e3
        have E1 := Lib.hid e1
        have E3 := Lib.hid (show s.data.toList = (s.extract 0 k).data.toList ++ c :: (s.extract (k + 1) s.size).data.toList by rw [e1, e2]; exact e3)
        clear e1 e2 e3
        go_wp2
        go_ret3
        exact ⟨_, _, true, rfl, below_drewN (Below.refl _ _) _, by rw [ByteArray.size_extract]; omega, by rw [E1.out]; exact HN.out, fun _ => E3.out, (fun h => by cases h)⟩
      · have hb0 : (((s[k]).toNat : Int) == (c.toNat : Int)) = false := by
          simp only [beq_eq_false_iff_ne]
          intro h
          exact hc (UInt8.toNat_inj.1 (by omega))
        have HC := Lib.hid hc
        clear hc
        go_wp2
        go_round
        case rel =>
          have hkl : k < s.data.toList.length := by simpa using hlt
          exact ⟨k + 1, by omega, by go_num, by rw [piece_snoc _ 0 k (Nat.zero_le _) hkl]; exact noC_snoc HN.out (by rw [byte_at rfl k hlt hkl]; exact HC.out)⟩
        case measure => simp [intOf]; omega
    · obtain rfl : k = s.size := by omega
      have HN2 := Lib.hid (show noC c s.data.toList by
        have := HN.out
        rw [show s.size = s.data.toList.length by simp, piece_end] at this
        simpa using this)
      go_wp2
      go_ret3
      exact ⟨s, ByteArray.empty, false, rfl, Below.refl _ _, Nat.zero_le _, HN2.out, (fun h => by cases h), fun _ => ⟨rfl, rfl⟩⟩

def lenOf : Value → Nat | .string s => s.size | _ => 0
def yes : Value → Bool | .bool b => b | _ => false
end Go.Proofs.YtjofbeokkainlaaDoor
namespace Go.Proofs.YtjofbeokkainlaaDoor
open Go.ChangeShapes Go.WideShapes Go.ChangeAt Go.RowKit
set_option linter.unusedVariables false
set_option maxRecDepth 100000

/-- The pieces so far. -/
structure SplitSt (L : List UInt8) (n : Nat) (w wr : World) (v : Value) (W : List (List UInt8)) (cur : ByteArray) (more : Bool) : Prop where
  own : wr.ownsRow w.heap.size 9 1 v W.length (W.map encS)
  below : Below w.heap.size w wr
  going : more = true → W ++ splitL 32 cur.data.toList = splitL 32 L ∧ W.length + cur.size ≤ n
  over : more = false → W = splitL 32 L ∧ W.length ≤ n + 1

/-- The end of a function that returns pieces in a row of its own. -/
def MadePieces (W : List (List UInt8)) (n : Nat) (w : World) (e : Ending) (w' : World) : Prop :=
  ∃ v, e = .returned v ∧ w'.ownsRow w.heap.size 9 1 v W.length (W.map encS) ∧ Below w.heap.size w w' ∧ W.length ≤ n + 1

theorem split_go {L : List UInt8} {n : Nat} {w wr w1 : World} {v v' : Value} {W : List (List UInt8)} {cur a r : ByteArray} {b : Bool} (h : SplitSt L n w wr v W cur true)
    (hn : noC 32 a.data.toList) (hb : b = true → cur.data.toList = a.data.toList ++ 32 :: r.data.toList) (hf : b = false → a = cur ∧ r.size = 0)
    (hown : w1.ownsRow w.heap.size 9 1 v' (W.length + 1) (W.map encS ++ [.string a])) (hbl : Below w.heap.size w w1) : SplitSt L n w w1 v' (W ++ [a.data.toList]) r b where
  own := by
    have e : encS a.data.toList = .string a := rfl
    rw [← e] at hown
    simpa using hown
  below := hbl
  going := fun hbt => by
    obtain ⟨g1, g2⟩ := h.going rfl
    have hc := hb hbt
    rw [hc, splitL_at 32 _ _ hn] at g1
    have hs : cur.size = a.size + 1 + r.size := by
      have := congrArg List.length hc
      simp at this
      omega
    exact ⟨by rw [← g1]; simp, by simp; omega⟩
  over := fun hbf => by
    obtain ⟨g1, g2⟩ := h.going rfl
    obtain ⟨rfl, _⟩ := hf hbf
    rw [splitL_no 32 _ hn] at g1
    exact ⟨g1, by simp; omega⟩

set_option maxHeartbeats 2000000 in
theorem split_any (s : ByteArray) (w : World) (hs : s.size ≤ 1048576) :
    Calls Tryd.prog 74 #[.string s] w (MadePieces (splitL 32 s.data.toList) s.size w) := by
  obtain ⟨i0, hi, hz0, hz1, hz2⟩ := info_parts infoStr
  obtain ⟨L, hL⟩ : ∃ L, s.data.toList = L := ⟨_, rfl⟩
  obtain ⟨n, hn⟩ : ∃ n, s.size = n := ⟨_, rfl⟩
  have HL := Lib.hid hL
  have HN := Lib.hid hn
  rw [hL, hn]
  rw [hn] at hs
  clear hL hn
  go_enter Tryd.func74, Tryd.ntmps74
  go_wp2
  go_loopw [0, 3, 4] (fun t v m wr => ∃ (cur : ByteArray) (W : List (List UInt8)) (q : Option Addr) (cp : Nat) (more : Bool), t = .string cur ∧ v = .slice q W.length cp ∧ m = .bool more ∧ cur.size ≤ n ∧ W.length ≤ n + 1 ∧ Hid (SplitSt L n w wr v W cur more)) (fun t _ m _ => if yes m then lenOf t + 1 else 0)
  case atStart =>
    refine ⟨s, [], _, _, true, rfl, rfl, rfl, by rw [HN.out]; exact Nat.le_refl _, by simp, ?_, (Below.refl _ _).alloc (Nat.le_refl _) _, fun _ => ⟨by rw [HL.out]; rfl, by rw [HN.out]; simp⟩, (fun h => by cases h)⟩
    exact World.ownsRow_lit w #[] 0 (Nat.le_refl _) (Nat.zero_le _) rfl
  case round =>
    obtain ⟨cur, W, q, cp, more, rfl, rfl, rfl, hcur, hW, HS⟩ := hrel
    obtain ⟨wl, hwl⟩ : ∃ wl, W.length = wl := ⟨_, rfl⟩
    rw [hwl] at hW HS ⊢
    have HWL := Lib.hid hwl
    clear hwl
    cases more with
    | false =>
      obtain ⟨g1, g2⟩ := HS.out.over rfl
      have HG1 := Lib.hid g1
      have HG2 := Lib.hid g2
      clear g1 g2
      go_wp2
      go_ret
      exact ⟨_, rfl, by rw [← HG1.out]; have := HS.out.own; exact this, HS.out.below, by rw [← HG1.out]; exact HG2.out⟩
    | true =>
      have hcm : cur.size ≤ maxLen := by unfold maxLen; omega
      have hW2 : wl ≤ n := by have := (HS.out.going rfl).2; rw [HWL.out] at this; omega
      have hown : wr.ownsRow w.heap.size 9 1 (.slice q wl cp) wl (W.map encS) := by
        have := HS.out.own
        rw [HWL.out] at this
        exact this
      have HO := Lib.hid hown
      clear hown
      go_wp2_with fail
      refine (cut_any cur 32 _ hcm).mono ?_
      rintro e w1 ⟨a, r, b, rfl, hB, hr, hno, hyes, hnot⟩
      have HNO := Lib.hid hno
      have HYES := Lib.hid hyes
      have HNOT := Lib.hid hnot
      have HB := Lib.hid (below_via HS.out.below hB)
      have HO := Lib.hid (own_below HO.out hB)
      have HR := Lib.hid hr
      clear hB hr hno hyes hnot
      go_wp2_with (at_builtin; (refine wpList_append_own _ rfl _ _ 36 rfl w.heap.size 9 i0 _ 1 16 Tryd.underlying36 hi hz0 hz1 hz2 rfl (by decide) _ _ _ rfl (HO.out.alloc _) ⟨w1.heap.size, 0, none⟩ 1 1 [.string a] rfl rfl (one_new _ _ _) (fun u hu => by simp at hu; subst hu; rfl) (by unfold maxLen; omega) (by omega) (Nat.le_trans HB.out.size (by simp)) ?_); intro v' w2 hown1 hgrow hnil; have HO1 := Lib.hid hown1; have HG := Lib.hid hgrow; clear hown1 hgrow hnil)
      obtain ⟨q1, cp1, rfl⟩ := own_form HO1.out
      go_roundw
      case rel =>
        have hb : Below w.heap.size w w2 := (HB.out.alloc HB.out.size _).grown HG.out (Nat.le_trans HB.out.size (by simp)) (fun k hk => (HO.out.lt k hk).1)
        have ho := HO1.out
        rw [← HWL.out] at ho
        have hnew := split_go HS.out HNO.out HYES.out HNOT.out ho hb
        rw [HWL.out] at hnew
        exact ⟨r, W ++ [a.data.toList], q1, cp1, b, rfl, by rw [← HWL.out]; simp, rfl, by have := HR.out; omega, by simp; have := HWL.out; omega, hnew⟩
      case measure =>
        have h1 := HR.out
        cases b with
        | false => simp [yes, lenOf]
        | true =>
          have hc := HYES.out rfl
          have := congrArg List.length hc
          simp at this
          simp [yes, lenOf]
          omega
end Go.Proofs.YtjofbeokkainlaaDoor
namespace Go.Proofs.YtjofbeokkainlaaDoor
open Go.ChangeShapes Go.WideShapes Go.ChangeAt Go.RowKit
set_option linter.unusedVariables false
set_option maxRecDepth 100000

/-- The numbers ns in a row of cells. -/
structure Nums (w : World) (g : Nat) (ns : List Int) : Prop where
  lt : g < w.heap.size
  cell : ∀ j (h : j < ns.length), w.cell? ⟨g, j, none⟩ = some (.int .i64 ns[j])
  ok : ∀ n ∈ ns, In64 n
theorem Nums.keep {w w1 : World} {g : Nat} {ns : List Int} (h : Nums w g ns) (hB : Below w.heap.size w w1) : Nums w1 g ns :=
  ⟨Nat.lt_of_lt_of_le h.lt hB.size, fun j hj => (hB.cell (p := ⟨g, j, none⟩) h.lt).trans (h.cell j hj), h.ok⟩

theorem join_few {ns : List Int} {sep : ByteArray} {N : Nat} (hl : N ≤ 4) (hn : ns.length ≤ 4) (hsep : sep.size ≤ 1) (h : ∀ n ∈ ns, In64 n) : (Lib.join (ns.map Lib.itoa) sep.data.toList).length ≤ 140737488355328 := by
  cases ns with
  | nil => simp [Lib.join_nil]
  | cons n r =>
    have hb : ∀ (l : List Int), (∀ n ∈ l, In64 n) → Lib.lens (l.map Lib.itoa) ≤ 20 * l.length := by
      intro l
      induction l with
      | nil => intro _; simp [Lib.lens]
      | cons a t ih =>
        intro ht
        have h1 := itoa_len (ht a (by simp)).1 (by have := (ht a (by simp)).2; omega)
        have h2 := ih (fun x hx => ht x (by simp [hx]))
        simp only [Lib.lens, List.map_cons, List.sum_cons, List.length_cons] at h2 ⊢
        omega
    have h1 := hb (n :: r) h
    rw [List.map_cons, Lib.join_length]
    rw [List.map_cons] at h1
    have h2 : sep.data.toList.length * (r.map Lib.itoa).length ≤ 1 * 4 := by
      apply Nat.mul_le_mul
      · simpa using hsep
      · simp at hn ⊢; omega
    simp only [List.length_cons] at h1 hn
    omega
def joinB (sep : ByteArray) (ns : List Int) : ByteArray := ⟨(Lib.join (ns.map Lib.itoa) sep.data.toList).toArray⟩

set_option maxHeartbeats 2000000 in
theorem decimals_any (sep : ByteArray) (g c : Nat) (ns : List Int) (w : World) (hsep : sep.size ≤ 1) (hl : ns.length ≤ 4) (hc : ns.length ≤ c) (h : Nums w g ns) (hT : Tabs w) :
    Calls Tryd.prog 14 #[.string sep, .slice (some ⟨g, 0, none⟩) ns.length c] w (MadeTx (joinB sep ns) w) := by
  obtain ⟨N, hN⟩ : ∃ N, ns.length = N := ⟨_, rfl⟩
  have HN := Lib.hid hN
  have HS := Lib.hid h
  have HT := Lib.hid hT
  rw [hN] at hl hc ⊢
  clear hN h hT
  obtain ⟨i0, hi, hz0, hz1, hz2⟩ := info_parts infoStr
  go_enter Tryd.func14, Tryd.ntmps14
  go_wp2_with (at_make; refine wpList_make_full _ rfl _ _ 36 rfl w.heap.size 9 i0 _ 1 Tryd.underlying36 hi hz0 hz1 .i64 .i64 _ _ N rfl rfl rfl rfl (by rw [hz2]; omega) (by unfold maxLen; omega) (Nat.le_refl _) ?_; intro w1 hown hgrow)
  obtain ⟨cur0, hrow0, hsz0⟩ : ∃ cur, Row w1 w.heap.size 9 cur ∧ cur.size = N := by
    rcases hown.2 with ⟨h, _⟩ | ⟨g, cp, cur, hv, _, hh, _, _, hs, _⟩
    · simp at h
    · simp only [Value.slice.injEq, Option.some.injEq, Addr.mk.injEq, true_and, and_true] at hv
      obtain ⟨rfl, rfl⟩ := hv
      exact ⟨cur, hh, by omega⟩
  have HB0 := Lib.hid ((Below.refl w.heap.size w).grown hgrow (Nat.le_refl _) (by simp))
  have HR0 := Lib.hid hrow0
  have HS0 := Lib.hid hsz0
  clear hown hgrow hrow0 hsz0
  go_loopw [13] (fun i wr => ∃ k : Nat, k ≤ N ∧ i = .int .i64 k ∧ Hid (Below w.heap.size w wr ∧ ∃ cur, Row wr w.heap.size 9 cur ∧ cur.size = N ∧ ∀ j, (hj : j < ns.length) → j < k → cur[j]? = some (.string (decB ns[j])))) (fun i _ => N - (intOf i).toNat)
  case atStart => exact ⟨0, Nat.zero_le _, rfl, HB0.out, cur0, HR0.out, HS0.out, fun j hj hk => by omega⟩
  case round =>
    obtain ⟨k, hk, rfl, HW⟩ := hrel
    clear HB0 HR0 HS0
    by_cases hlt : k < N
    · have hkl : k < ns.length := by rw [HN.out]; exact hlt
      have c0 := (HW.out.1.cell (p := ⟨g, k, none⟩) HS.out.lt).trans (HS.out.cell k hkl)
      have HV := Lib.hid (HS.out.ok ns[k] (List.getElem_mem _))
      obtain ⟨v, hv⟩ : ∃ v, ns[k] = v := ⟨_, rfl⟩
      rw [hv] at c0 HV
      have HVV := Lib.hid hv
      clear hv
      have hgne : g ≠ w.heap.size := Nat.ne_of_lt HS.out.lt
      have hi0 : (0 : Int) ≤ (k : Int) := by omega
      have hi1 : (k : Int) < (N : Int) := by omega
      go_wp2_with fail
      refine (fmt_any v HV.out _ (HT.out.keep HW.out.1)).mono ?_
      rintro e w2 ⟨rfl, hB⟩
      obtain ⟨hb0, cur, hr, hs, hla⟩ := HW.out
      have hr2 := hr.keep hB
      have hA0 := hr2.cell (j := k) (by omega)
      have hf0 := hr2.free k
      have HB := Lib.hid (below_via hb0 hB)
      have HR2 := Lib.hid hr2
      have HS1 := Lib.hid hs
      have HL := Lib.hid hla
      generalize cur[k] = x0 at hA0
      clear hr hr2 hs hla hb0 hB HW c0
      go_wp2
      go_roundw
      case rel =>
        refine ⟨k + 1, by omega, by go_num, HB.out.setCell (Nat.le_refl _) _, _, HR2.out.set _ _, by simpa using HS1.out, fun j hj hjk => ?_⟩
        rcases Nat.lt_or_ge j k with hlt2 | hge
        · rw [Array.getElem?_setIfInBounds_ne (by omega)]; exact HL.out j hj hlt2
        · obtain rfl : j = k := by omega
          rw [Array.getElem?_setIfInBounds_self_of_lt (by rw [HS1.out]; exact hlt), HVV.out]
      case measure => simp [intOf]; omega
    · obtain rfl : k = N := by omega
      have hJ : (Lib.join (ns.map Lib.itoa) sep.data.toList).length ≤ 140737488355328 := join_few hl (by rw [HN.out]; exact hl) hsep HS.out.ok
      obtain ⟨hb0, cur, hr, hs, hla⟩ := HW.out
      have HB := Lib.hid hb0
      have HR2 := Lib.hid hr
      have HL := Lib.hid hla
      have HJ := Lib.hid hJ
      clear hr hs hla hb0 hJ HW
      have HM := Lib.hid (show (ns.map decB).length = k by simp [HN.out])
      have HD := Lib.hid (show (ns.map decB).map (·.data.toList) = ns.map Lib.itoa by simp [decB_list])
      go_wp2_with fail
      have hjoin := Tryd.strings_Join w.heap.size 0 k (ns.map decB) sep
      rw [HM.out, HD.out] at hjoin
      refine (hjoin _ (fun j x hx => ?_) HR2.out.lt (by omega) (Nat.le_refl _) HJ.out).mono ?_
      · obtain ⟨hj, he⟩ := List.getElem?_eq_some_iff.1 hx
        have hj2 : j < ns.length := by simpa using hj
        have h1 := HL.out j hj2 (by rw [← HN.out]; exact hj2)
        have h2 := HR2.out
        unfold Row at h2
        simp only [List.getElem_map] at he
        subst he
        simp [World.cell?, h2, h1]
      · rintro e w3 ⟨rfl, hB⟩
        have HB3 := Lib.hid (below_via HB.out hB)
        clear hB
        go_wp2
        go_ret
        exact ⟨rfl, HB3.out⟩
end Go.Proofs.YtjofbeokkainlaaDoor
