/- Texts put together, as a claim holds at most sixty files. -/
import Derived.Test.YtblpebdjbenphaaGreatDoorMg1
import Derived.Test.YtblpebdjbenphaaGreatDoorShelf
import Derived.Test.YtblpebdjbenphaaGreatDoorMg0
import Derived.WalkKit
import Derived.ProofKit
import Derived.OpenShut
import Derived.WalkLawsBesides
import Derived.Deep.QuietTactic
import Derived.BigQuiet
import Derived.Deep.RegionHeld3
import Derived.Lib.Hide
import Derived.Outline
import Derived.Lib.Strings
namespace Go.Proofs.YtblpebdjbenphaaGreatDoor
open Go.ChangeShapes Go.WideShapes Go.ChangeAt Go.RowKit
set_option linter.unusedVariables false
set_option maxRecDepth 100000

theorem below_grew (w : World) (k : Nat) (os : Array Obj) : Below w.heap.size w (Sort.grow (w.drewN k) os) :=
  ⟨rfl, rfl, rfl, by simp [Sort.grow], fun i hi => by
    show (w.heap ++ os)[i]? = w.heap[i]?
    rw [Array.getElem?_append_left hi]⟩
def In64 (n : Int) : Prop := -9223372036854775808 ≤ n ∧ n ≤ 9223372036854775807
theorem fmt_any (n : Int) (hn : In64 n) (w : World) (hT : Tabs w) : Calls Tryz.prog 67 #[.int .i64 n, .int .i64 10] w (MadeTx (decB n) w) := by
  refine (Tryz.strconv_FormatInt_10 n hn.1 hn.2 w hT).mono ?_
  rintro e w' ⟨rfl, k, os, rfl⟩
  exact ⟨rfl, below_grew w k os⟩

/-- The numbers ns in a row of cells. -/
structure Nums (w : World) (g : Nat) (ns : List Int) : Prop where
  lt : g < w.heap.size
  cell : ∀ j (h : j < ns.length), w.cell? ⟨g, j, none⟩ = some (.int .i64 ns[j])
  ok : ∀ n ∈ ns, In64 n
theorem Nums.keep {w w1 : World} {g : Nat} {ns : List Int} (h : Nums w g ns) (hB : Below w.heap.size w w1) : Nums w1 g ns :=
  ⟨Nat.lt_of_lt_of_le h.lt hB.size, fun j hj => (hB.cell (p := ⟨g, j, none⟩) h.lt).trans (h.cell j hj), h.ok⟩

theorem join_few {ns : List Int} {sep : ByteArray} {N : Nat} (hl : N ≤ 4) (hn : ns.length ≤ 4) (hsep : sep.size ≤ 1) (h : ∀ n ∈ ns, In64 n) : (Lib.join (ns.map Lib.itoa) sep.data.toList).length ≤ 140737488355328 := by
  cases ns with
  | nil => simp [Lib.join_nil]
  | cons n r =>
    have hb : ∀ (l : List Int), (∀ n ∈ l, In64 n) → Lib.lens (l.map Lib.itoa) ≤ 20 * l.length := by
      intro l
      induction l with
      | nil => intro _; simp [Lib.lens]
      | cons a t ih =>
        intro ht
        have h1 := itoa_len (ht a (by simp)).1 (by have := (ht a (by simp)).2; omega)
        have h2 := ih (fun x hx => ht x (by simp [hx]))
        simp only [Lib.lens, List.map_cons, List.sum_cons, List.length_cons] at h2 ⊢
        omega
    have h1 := hb (n :: r) h
    rw [List.map_cons, Lib.join_length]
    rw [List.map_cons] at h1
    have h2 : sep.data.toList.length * (r.map Lib.itoa).length ≤ 1 * 4 := by
      apply Nat.mul_le_mul
      · simpa using hsep
      · simp at hn ⊢; omega
    simp only [List.length_cons] at h1 hn
    omega
def joinB (sep : ByteArray) (ns : List Int) : ByteArray := ⟨(Lib.join (ns.map Lib.itoa) sep.data.toList).toArray⟩

set_option maxHeartbeats 2000000 in
theorem decimals_any (sep : ByteArray) (g c : Nat) (ns : List Int) (w : World) (hsep : sep.size ≤ 1) (hl : ns.length ≤ 4) (hc : ns.length ≤ c) (h : Nums w g ns) (hT : Tabs w) :
    Calls Tryz.prog 51 #[.string sep, .slice (some ⟨g, 0, none⟩) ns.length c] w (MadeTx (joinB sep ns) w) := by
  obtain ⟨N, hN⟩ : ∃ N, ns.length = N := ⟨_, rfl⟩
  have HN := Lib.hid hN
  have HS := Lib.hid h
  have HT := Lib.hid hT
  rw [hN] at hl hc ⊢
  clear hN h hT
  obtain ⟨i0, hi, hz0, hz1, hz2⟩ := info_parts infoStr
  go_enter Tryz.func51, Tryz.ntmps51
  go_wp2_with (at_make; refine wpList_make_full _ rfl _ _ 59 rfl w.heap.size 9 i0 _ 1 Tryz.underlying59 hi hz0 hz1 .i64 .i64 _ _ N rfl rfl rfl rfl (by rw [hz2]; omega) (by unfold maxLen; omega) (Nat.le_refl _) ?_; intro w1 hown hgrow)
  obtain ⟨cur0, hrow0, hsz0⟩ : ∃ cur, Row w1 w.heap.size 9 cur ∧ cur.size = N := by
    rcases hown.2 with ⟨h, _⟩ | ⟨g, cp, cur, hv, _, hh, _, _, hs, _⟩
    · simp at h
    · simp only [Value.slice.injEq, Option.some.injEq, Addr.mk.injEq, true_and, and_true] at hv
      obtain ⟨rfl, rfl⟩ := hv
      exact ⟨cur, hh, by omega⟩
  have HB0 := Lib.hid ((Below.refl w.heap.size w).grown hgrow (Nat.le_refl _) (by simp))
  have HR0 := Lib.hid hrow0
  have HS0 := Lib.hid hsz0
  clear hown hgrow hrow0 hsz0
  go_loopw [13] (fun i wr => ∃ k : Nat, k ≤ N ∧ i = .int .i64 k ∧ Hid (Below w.heap.size w wr ∧ ∃ cur, Row wr w.heap.size 9 cur ∧ cur.size = N ∧ ∀ j, (hj : j < ns.length) → j < k → cur[j]? = some (.string (decB ns[j])))) (fun i _ => N - (intOf i).toNat)
  case atStart => exact ⟨0, Nat.zero_le _, rfl, HB0.out, cur0, HR0.out, HS0.out, fun j hj hk => by omega⟩
  case round =>
    obtain ⟨k, hk, rfl, HW⟩ := hrel
    clear HB0 HR0 HS0
    by_cases hlt : k < N
    · have hkl : k < ns.length := by rw [HN.out]; exact hlt
      have c0 := (HW.out.1.cell (p := ⟨g, k, none⟩) HS.out.lt).trans (HS.out.cell k hkl)
      have HV := Lib.hid (HS.out.ok ns[k] (List.getElem_mem _))
      obtain ⟨v, hv⟩ : ∃ v, ns[k] = v := ⟨_, rfl⟩
      rw [hv] at c0 HV
      have HVV := Lib.hid hv
      clear hv
      have hgne : g ≠ w.heap.size := Nat.ne_of_lt HS.out.lt
      have hi0 : (0 : Int) ≤ (k : Int) := by omega
      have hi1 : (k : Int) < (N : Int) := by omega
      go_wp2_with fail
      refine (fmt_any v HV.out _ (HT.out.keep HW.out.1)).mono ?_
      rintro e w2 ⟨rfl, hB⟩
      obtain ⟨hb0, cur, hr, hs, hla⟩ := HW.out
      have hr2 := hr.keep hB
      have hA0 := hr2.cell (j := k) (by omega)
      have hf0 := hr2.free k
      have HB := Lib.hid (below_via hb0 hB)
      have HR2 := Lib.hid hr2
      have HS1 := Lib.hid hs
      have HL := Lib.hid hla
      generalize cur[k] = x0 at hA0
      clear hr hr2 hs hla hb0 hB HW c0
      go_wp2
      go_roundw
      case rel =>
        refine ⟨k + 1, by omega, by go_num, HB.out.setCell (Nat.le_refl _) _, _, HR2.out.set _ _, by simpa using HS1.out, fun j hj hjk => ?_⟩
        rcases Nat.lt_or_ge j k with hlt2 | hge
        · rw [Array.getElem?_setIfInBounds_ne (by omega)]; exact HL.out j hj hlt2
        · obtain rfl : j = k := by omega
          rw [Array.getElem?_setIfInBounds_self_of_lt (by rw [HS1.out]; exact hlt), HVV.out]
      case measure => simp [intOf]; omega
    · obtain rfl : k = N := by omega
      have hJ : (Lib.join (ns.map Lib.itoa) sep.data.toList).length ≤ 140737488355328 := join_few hl (by rw [HN.out]; exact hl) hsep HS.out.ok
      obtain ⟨hb0, cur, hr, hs, hla⟩ := HW.out
      have HB := Lib.hid hb0
      have HR2 := Lib.hid hr
      have HL := Lib.hid hla
      have HJ := Lib.hid hJ
      clear hr hs hla hb0 hJ HW
      have HM := Lib.hid (show (ns.map decB).length = k by simp [HN.out])
      have HD := Lib.hid (show (ns.map decB).map (·.data.toList) = ns.map Lib.itoa by simp [decB_list])
      go_wp2_with fail
      have hjoin := Tryz.strings_Join w.heap.size 0 k (ns.map decB) sep
      rw [HM.out, HD.out] at hjoin
      refine (hjoin _ (fun j x hx => ?_) HR2.out.lt (by omega) (Nat.le_refl _) HJ.out).mono ?_
      · obtain ⟨hj, he⟩ := List.getElem?_eq_some_iff.1 hx
        have hj2 : j < ns.length := by simpa using hj
        have h1 := HL.out j hj2 (by rw [← HN.out]; exact hj2)
        have h2 := HR2.out
        unfold Row at h2
        simp only [List.getElem_map] at he
        subst he
        simp [World.cell?, h2, h1]
      · rintro e w3 ⟨rfl, hB⟩
        have HB3 := Lib.hid (below_via HB.out hB)
        clear hB
        go_wp2
        go_ret
        exact ⟨rfl, HB3.out⟩
end Go.Proofs.YtblpebdjbenphaaGreatDoor
namespace Go.Proofs.YtblpebdjbenphaaGreatDoor
open Go.ChangeShapes Go.WideShapes Go.ChangeAt Go.RowKit
set_option linter.unusedVariables false
set_option maxRecDepth 100000

/-- A record as a value. -/
def recV (s : ByteArray) (n : Int) : Value := .agg #[.string s, .int .i64 n]
def okB (s : ByteArray) : Bool := decide (s.size ≤ 40)
def lessB (s : ByteArray) (n : Int) (u : ByteArray) (m : Int) : Bool := Op.bytesLess s.toList u.toList || (s.toList == u.toList && decide (n < m))

theorem okB_yes {s : ByteArray} (h : s.size ≤ 40) : okB s = true := by unfold okB; simpa using h
theorem okB_no {s : ByteArray} (h : ¬ s.size ≤ 40) : okB s = false := by unfold okB; simpa using h

theorem okB_int (s : ByteArray) : decide ((s.size : Int) ≤ 40) = okB s := by
  unfold okB
  by_cases h : s.size ≤ 40
  · rw [decide_eq_true h, decide_eq_true (by omega)]
  · rw [decide_eq_false h, decide_eq_false (by omega)]

/-- The end of a function that returns a record and makes at most new blocks. -/
def MadeRec (s : ByteArray) (n : Int) (w : World) (e : Ending) (w' : World) : Prop := e = .returned (.agg #[.string s, .int .i64 n]) ∧ Below w.heap.size w w'

def sz1 (left : Int) (s : ByteArray) : Int := if left < s.size then -1 else left - s.size
/-- The end of a function that returns the number x and makes at most new blocks. -/
def MadeInt (x : Int) (w : World) (e : Ending) (w' : World) : Prop := e = .returned (.int .i64 x) ∧ Below w.heap.size w w'
theorem ret_int' {k : IntKind} {a b : Int} (h : a = b) : Ending.returned (.int k a) = .returned (.int k b) := by rw [h]

theorem bytesLess_irrefl (l : List UInt8) : Op.bytesLess l l = false := by
  induction l with
  | nil => rfl
  | cons a l ih => simp [Op.bytesLess, ih]
theorem less_ne {s u : ByteArray} {n m : Int} (h : (!s.toList == u.toList) = true) : Op.bytesLess s.toList u.toList = lessB s n u m := by
  unfold lessB
  rw [Bool.not_eq_true'] at h
  rw [h]; simp
theorem less_eq {s u : ByteArray} {n m : Int} (h : (!s.toList == u.toList) = false) : decide (n < m) = lessB s n u m := by
  unfold lessB
  rw [Bool.not_eq_false'] at h
  rw [h, eq_of_beq h, bytesLess_irrefl]; simp

theorem less_1 {s u : ByteArray} {n m : Int} (h : Op.bytesLess s.toList u.toList = true) : true = lessB s n u m := by
  unfold lessB; rw [h]; rfl
theorem less_2 {s u : ByteArray} {n m : Int} (h : ¬ Op.bytesLess s.toList u.toList = true) (h2 : s.toList = u.toList) : decide (n < m) = lessB s n u m := by
  unfold lessB; rw [Bool.not_eq_true] at h; rw [h, h2]; simp
theorem less_3 {s u : ByteArray} {n m : Int} (h : ¬ Op.bytesLess s.toList u.toList = true) (h2 : ¬ s.toList = u.toList) : false = lessB s n u m := by
  unfold lessB; rw [Bool.not_eq_true] at h; rw [h]; simp [h2]

/-- A block of two cells. -/
structure Box2 (w : World) (b : Nat) (x y : Value) : Prop where
  lt : b < w.heap.size
  c0 : w.cell? ⟨b, 0, none⟩ = some x
  c1 : w.cell? ⟨b, 1, none⟩ = some y
theorem Box2.keep {w w1 : World} {b : Nat} {x y : Value} (h : Box2 w b x y) (hB : Below w.heap.size w w1) : Box2 w1 b x y :=
  ⟨Nat.lt_of_lt_of_le h.lt hB.size, (hB.cell (p := ⟨b, 0, none⟩) h.lt).trans h.c0, (hB.cell (p := ⟨b, 1, none⟩) h.lt).trans h.c1⟩
theorem Box2.new (w : World) (x y : Value) (t : TypeId) : Box2 (w.alloc (.cells #[x, y] t)) w.heap.size x y :=
  ⟨by simp, cell_two_new w x y t 0 _ rfl, cell_two_new w x y t 1 _ rfl⟩
theorem Box2.new1 (w : World) (o : Obj) (x y : Value) (t : TypeId) : Box2 ((w.alloc o).alloc (.cells #[x, y] t)) (w.heap.size + 1) x y := by
  have h := Box2.new (w.alloc o) x y t
  have e : (w.alloc o).heap.size = w.heap.size + 1 := by simp
  rw [e] at h
  exact h
theorem Box2.alloc {w : World} {b : Nat} {x y : Value} (h : Box2 w b x y) (o : Obj) : Box2 (w.alloc o) b x y := h.keep ((Below.refl _ _).alloc (Nat.le_refl _) o)

end Go.Proofs.YtblpebdjbenphaaGreatDoor
namespace Go.Proofs.YtblpebdjbenphaaGreatDoor
open Go.ChangeShapes Go.WideShapes Go.ChangeAt Go.RowKit
set_option linter.unusedVariables false
set_option maxRecDepth 100000

def kbB (c : Int) : Bool := decide (97 ≤ c ∧ c ≤ 122 ∨ 48 ≤ c ∧ c ≤ 57 ∨ c = 45 ∨ c = 47)
def keyB (s : ByteArray) : Bool := decide (1 ≤ s.size ∧ s.size ≤ 40) && s.data.toList.all fun c => kbB c.toNat
def inB (n lo hi : Int) : Bool := decide (lo ≤ n ∧ n ≤ hi)
theorem inB_iff {n lo hi : Int} : inB n lo hi = true ↔ lo ≤ n ∧ n ≤ hi := by unfold inB; simp
def SameBool (b : Bool) (w : World) (e : Ending) (w' : World) : Prop := e = .returned (.bool b) ∧ w = w'

theorem within_any (n lo hi : Int) (w : World) : Calls Tryz.prog 50 #[.int .i64 n, .int .i64 lo, .int .i64 hi] w (SameBool (inB n lo hi) w) := by
  by_cases h1 : lo ≤ n
  · have H := Lib.hid (show inB n lo hi = decide (n ≤ hi) by unfold inB; simp [h1])
    go_enter Tryz.func50, Tryz.ntmps50
    go_wp2
    go_ret
    exact ⟨ret_bool H.out.symm, rfl⟩
  · have H := Lib.hid (show inB n lo hi = false by unfold inB; simp [h1])
    go_enter Tryz.func50, Tryz.ntmps50
    go_wp2
    go_ret
    exact ⟨ret_bool H.out.symm, rfl⟩
theorem l1in_any (n lo hi : Int) (w : World) : Calls Tryz.prog 32 #[.int .i64 n, .int .i64 lo, .int .i64 hi] w (SameBool (inB n lo hi) w) := by
  by_cases h1 : lo ≤ n
  · have H := Lib.hid (show inB n lo hi = decide (n ≤ hi) by unfold inB; simp [h1])
    go_enter Tryz.func32, Tryz.ntmps32
    go_wp2
    go_ret
    exact ⟨ret_bool H.out.symm, rfl⟩
  · have H := Lib.hid (show inB n lo hi = false by unfold inB; simp [h1])
    go_enter Tryz.func32, Tryz.ntmps32
    go_wp2
    go_ret
    exact ⟨ret_bool H.out.symm, rfl⟩
theorem verok_any (n : Int) (w : World) : Calls Tryz.prog 44 #[.int .i64 n] w (SameBool (inB n 1 1000000) w) := by
  go_enter Tryz.func44, Tryz.ntmps44
  go_wp2_with (go_at_call 50; refine (within_any _ _ _ _).mono ?_; rintro e w' ⟨rfl, rfl⟩)
  go_ret
  exact ⟨rfl, rfl⟩
theorem l7ver_any (n : Int) (w : World) : Calls Tryz.prog 22 #[.int .i64 n] w (SameBool (inB n 1 1000000) w) := by
  go_enter Tryz.func22, Tryz.ntmps22
  go_wp2_with (go_at_call 32; refine (l1in_any _ _ _ _).mono ?_; rintro e w' ⟨rfl, rfl⟩)
  go_ret
  exact ⟨rfl, rfl⟩
theorem dataok_any (s : ByteArray) (w : World) : Calls Tryz.prog 45 #[.string s] w (SameBool (decide ((s.size : Int) ≤ 30000)) w) := by
  go_enter Tryz.func45, Tryz.ntmps45
  go_wp2
  go_ret
  exact ⟨rfl, rfl⟩

set_option maxHeartbeats 1000000 in
theorem keybyte_any (c : Int) (h0 : 0 ≤ c) (h1 : c ≤ 255) (w : World) : Calls Tryz.prog 64 #[.int .u8 c] w (SameBool (kbB c) w) := by
  cases h : kbB c with
  | true =>
    have hc : 97 ≤ c ∧ c ≤ 122 ∨ 48 ≤ c ∧ c ≤ 57 ∨ c = 45 ∨ c = 47 := by unfold kbB at h; simpa using h
    clear h
    go_enter Tryz.func64, Tryz.ntmps64
    go_wp2
    all_goals
      go_ret
      refine ⟨ret_bool ?_, rfl⟩
      first | rfl | (exact decide_eq_true (by omega)) | (rw [beq_iff_eq]; omega) | (simp only [Bool.or_eq_true, beq_iff_eq]; omega)
  | false =>
    have hc : ¬ (97 ≤ c ∧ c ≤ 122 ∨ 48 ≤ c ∧ c ≤ 57 ∨ c = 45 ∨ c = 47) := by unfold kbB at h; simpa using h
    clear h
    go_enter Tryz.func64, Tryz.ntmps64
    go_wp2
    all_goals
      go_ret
      refine ⟨ret_bool ?_, rfl⟩
      first | rfl | (exact decide_eq_false (by omega)) | (rw [beq_eq_false_iff_ne]; omega) | (simp only [Bool.or_eq_false_iff, decide_eq_false_iff_not, beq_eq_false_iff_ne, ne_eq]; omega)

theorem get_list (s : ByteArray) (k : Nat) (h : k < s.size) : s.data.toList[k]'(by simpa using h) = s[k] := rfl
theorem key_all {s : ByteArray} (h1 : 1 ≤ s.size) (h2 : s.size ≤ 40) (h : ∀ k, (hk : k < s.size) → kbB s[k].toNat = true) : keyB s = true := by
  unfold keyB
  rw [decide_eq_true ⟨h1, h2⟩, Bool.true_and, List.all_eq_true]
  intro c hc
  obtain ⟨k, hk, rfl⟩ := List.mem_iff_getElem.1 hc
  exact h k (by simpa using hk)
theorem key_bad {s : ByteArray} {k : Nat} (hk : k < s.size) (h : kbB s[k].toNat = false) : keyB s = false := by
  unfold keyB
  rw [Bool.and_eq_false_iff]
  refine .inr ?_
  rw [List.all_eq_false]
  exact ⟨s[k], by rw [← get_list s k hk]; exact List.getElem_mem _, by rw [h]; simp⟩
theorem key_size {s : ByteArray} (h : ¬ (1 ≤ s.size ∧ s.size ≤ 40)) : keyB s = false := by
  unfold keyB
  rw [decide_eq_false h]; rfl
theorem key_len {s : ByteArray} (h : keyB s = true) : 1 ≤ s.size ∧ s.size ≤ 40 := by
  unfold keyB at h
  rw [Bool.and_eq_true, decide_eq_true_eq] at h
  exact h.1
theorem empty_of_size {s : ByteArray} (h : s.size = 0) : s.toList = [] := by
  have : s.data.toList = [] := List.length_eq_zero_iff.1 (by simpa using h)
  rw [Lib.toList_data]; exact this
theorem not_empty {s : ByteArray} (h : 1 ≤ s.size) : ¬ s.toList = [] := fun e => by
  rw [Lib.toList_data] at e
  have e' : s.data.toList.length = 0 := by rw [e]; rfl
  have e2 : s.size = s.data.toList.length := by simp
  omega

set_option maxHeartbeats 1000000 in
theorem keyok_any (s : ByteArray) (w : World) (hs : s.size ≤ maxLen) : Calls Tryz.prog 43 #[.string s] w (SameBool (keyB s) w) := by
  unfold maxLen at hs
  by_cases h0 : s.size = 0
  · have HK := Lib.hid (key_size (s := s) (by omega))
    have he := empty_of_size h0
    have he2 : s.toList.isEmpty = true := by simpa using he
    clear h0
    go_enter Tryz.func43, Tryz.ntmps43
    go_wp2
    go_ret
    exact ⟨ret_bool HK.out.symm, rfl⟩
  · have he := not_empty (s := s) (by omega)
    have he2 : s.toList.isEmpty = false := by simpa using he
    by_cases h1 : 40 < s.size
    · have HK := Lib.hid (key_size (s := s) (by omega))
      have h2 : (40 : Int) < (s.size : Int) := by omega
      go_enter Tryz.func43, Tryz.ntmps43
      go_wp2
      go_ret
      exact ⟨ret_bool HK.out.symm, rfl⟩
    · have h2 : (s.size : Int) ≤ 40 := by omega
      go_enter Tryz.func43, Tryz.ntmps43
      go_wp2
      go_loop [3] (fun i => ∃ k : Nat, k ≤ s.size ∧ i = .int .i64 k ∧ Hid (∀ j, (hj : j < s.size) → j < k → kbB s[j].toNat = true)) (fun i => s.size - (intOf i).toNat)
      case atStart => exact ⟨0, Nat.zero_le _, rfl, Lib.hid fun j _ h => by omega⟩
      case round =>
        obtain ⟨k, hk, rfl, HW⟩ := hrel
        by_cases hlt : k < s.size
        · have hb0 : (0 : Int) ≤ (s[k].toNat : Int) := by omega
          have hb1 : (s[k].toNat : Int) ≤ 255 := by have := s[k].toNat_lt; omega
          cases hq : kbB s[k].toNat with
          | true =>
            have HQ := Lib.hid hq
            clear hq
            go_wp2_with (go_at_call 64; refine (keybyte_any _ hb0 hb1 _).mono ?_; rw [HQ.out]; rintro e w' ⟨rfl, rfl⟩)
            go_round
            case rel => exact ⟨k + 1, by omega, by go_num, Lib.hid fun j hj h => by
              rcases Nat.lt_or_ge j k with h | h
              · exact HW.out j hj h
              · obtain rfl : j = k := by omega
                exact HQ.out⟩
            case measure => simp [intOf]; omega
          | false =>
            have HQ := Lib.hid hq
            have HK := Lib.hid (key_bad hlt hq)
            clear hq
            go_wp2_with (go_at_call 64; refine (keybyte_any _ hb0 hb1 _).mono ?_; rw [HQ.out]; rintro e w' ⟨rfl, rfl⟩)
            go_ret
            exact ⟨ret_bool HK.out.symm, rfl⟩
        · have HK := Lib.hid (key_all (s := s) (by omega) (by omega) (fun j hj => HW.out j hj (by omega)))
          go_wp2
          go_ret
          exact ⟨ret_bool HK.out.symm, rfl⟩

set_option maxHeartbeats 2000000 in
theorem l7key_any (s : ByteArray) (w : World) (hs : s.size ≤ maxLen) : Calls Tryz.prog 21 #[.string s] w (SameBool (keyB s) w) := by
  unfold maxLen at hs
  go_enter Tryz.func21, Tryz.ntmps21
  go_wp2
  go_loop [3] (fun i => ∃ k : Nat, k ≤ s.size ∧ i = .int .i64 k ∧ Hid (∀ j, (hj : j < s.size) → j < k → kbB s[j].toNat = true)) (fun i => s.size - (intOf i).toNat)
  case atStart => exact ⟨0, Nat.zero_le _, rfl, Lib.hid fun j _ h => by omega⟩
  case round =>
    obtain ⟨k, hk, rfl, HW⟩ := hrel
    by_cases hlt : k < s.size
    · have hb0 : (0 : Int) ≤ (s[k].toNat : Int) := by omega
      have hb1 : (s[k].toNat : Int) ≤ 255 := by have := s[k].toNat_lt; omega
      cases hq : kbB s[k].toNat with
      | true =>
        have hc : 97 ≤ (s[k].toNat : Int) ∧ (s[k].toNat : Int) ≤ 122 ∨ 48 ≤ (s[k].toNat : Int) ∧ (s[k].toNat : Int) ≤ 57 ∨ (s[k].toNat : Int) = 45 ∨ (s[k].toNat : Int) = 47 := by unfold kbB at hq; simpa using hq
        have HQ := Lib.hid hq
        clear hq
        go_wp2
        all_goals first
          | (exfalso; omega)
          | (exfalso; simp only [Bool.not_eq_true', beq_eq_false_iff_ne, ne_eq] at *; omega)
          | (go_round
             case rel => exact ⟨k + 1, by omega, by go_num, Lib.hid fun j hj h => by
               rcases Nat.lt_or_ge j k with h | h
               · exact HW.out j hj h
               · obtain rfl : j = k := by omega
                 exact HQ.out⟩
             case measure => simp [intOf]; omega)
      | false =>
        have hc : ¬ (97 ≤ (s[k].toNat : Int) ∧ (s[k].toNat : Int) ≤ 122 ∨ 48 ≤ (s[k].toNat : Int) ∧ (s[k].toNat : Int) ≤ 57 ∨ (s[k].toNat : Int) = 45 ∨ (s[k].toNat : Int) = 47) := by unfold kbB at hq; simpa using hq
        have HK := Lib.hid (key_bad hlt hq)
        clear hq
        have e45 : ((s[k].toNat : Int) == 45) = false := by rw [beq_eq_false_iff_ne]; omega
        have e47 : ((s[k].toNat : Int) == 47) = false := by rw [beq_eq_false_iff_ne]; omega
        rcases (show (97 ≤ (s[k].toNat : Int) ∧ 122 < (s[k].toNat : Int) ∧ 48 ≤ (s[k].toNat : Int) ∧ 57 < (s[k].toNat : Int)) ∨ ((s[k].toNat : Int) < 97 ∧ (s[k].toNat : Int) < 48) ∨ ((s[k].toNat : Int) < 97 ∧ 48 ≤ (s[k].toNat : Int) ∧ 57 < (s[k].toNat : Int)) by omega) with ⟨a1, a2, a3, a4⟩ | ⟨a1, a2⟩ | ⟨a1, a2, a3⟩
        · have d1 : decide ((s[k].toNat : Int) ≤ 122) = false := decide_eq_false (by omega)
          have d2 : decide ((s[k].toNat : Int) ≤ 57) = false := decide_eq_false (by omega)
          clear hc
          go_wp2
          go_ret
          exact ⟨ret_bool HK.out.symm, rfl⟩
        · clear hc
          go_wp2
          go_ret
          exact ⟨ret_bool HK.out.symm, rfl⟩
        · have d2 : decide ((s[k].toNat : Int) ≤ 57) = false := decide_eq_false (by omega)
          clear hc
          go_wp2
          go_ret
          exact ⟨ret_bool HK.out.symm, rfl⟩
    · have HK := Lib.hid (show inB s.size 1 40 = keyB s by
        by_cases h : 1 ≤ s.size ∧ s.size ≤ 40
        · rw [key_all (s := s) h.1 h.2 (fun j hj => HW.out j hj (by omega)), inB_iff]; omega
        · rw [key_size h]; unfold inB; exact decide_eq_false (by omega))
      go_wp2_with (go_at_call 32; refine (l1in_any _ _ _ _).mono ?_; rintro e w' ⟨rfl, rfl⟩)
      go_ret
      exact ⟨ret_bool HK.out, rfl⟩
end Go.Proofs.YtblpebdjbenphaaGreatDoor
