/- Texts put together, as a claim holds at most sixty files. -/
import Derived.Test.YtblpebdjbenphaaGreatDoorMg2
namespace Go.Proofs.YtblpebdjbenphaaGreatDoor
open Go.ChangeShapes Go.WideShapes Go.ChangeAt Go.RowKit
set_option linter.unusedVariables false
set_option maxRecDepth 100000

def claimB (a e u : Int) : Bool := inB a 0 3 && (inB e 1 1000000 && inB u 0 1000000)
theorem claimB_iff {a e u : Int} : claimB a e u = true ↔ (0 ≤ a ∧ a ≤ 3) ∧ (1 ≤ e ∧ e ≤ 1000000) ∧ (0 ≤ u ∧ u ≤ 1000000) := by
  unfold claimB
  simp only [Bool.and_eq_true, inB_iff]

def cat3 (a b c : ByteArray) : ByteArray := (((a ++ ⟨#[32]⟩) ++ b) ++ ⟨#[32]⟩) ++ c
def claimTx (a e u : Int) : ByteArray := if claimB a e u then cat3 (decB a) (decB e) (decB u) else ByteArray.empty
theorem cat_run {P : Program} {w : World} (a b : ByteArray) (n : Nat) (ha : a.size ≤ n) (hb : b.size ≤ n) (hn : n ≤ 4611686018427387903 := by decide) : (Op.stringOp .add a b).run P w = .ok (.string (a ++ b)) w :=
  run_string_add_sum w a b (by omega)
theorem join3 (a e u : Int) : joinB ⟨#[32]⟩ [a, e, u] = cat3 (decB a) (decB e) (decB u) := by
  apply ba_eq
  simp [joinB, cat3, Lib.join, List.intercalate, decB]

theorem nums_new (w : World) (t : TypeId) (ns : List Int) (h : ∀ n ∈ ns, In64 n) : Nums (w.alloc (.cells (ns.map fun n => Value.int .i64 n).toArray t)) w.heap.size ns :=
  ⟨by simp, fun j hj => by
    have := heap_alloc_new w (.cells (ns.map fun n => Value.int .i64 n).toArray t)
    unfold World.cell?
    rw [this]
    simp [hj], h⟩

end Go.Proofs.YtblpebdjbenphaaGreatDoor
namespace Go.Proofs.YtblpebdjbenphaaGreatDoor
open Go.ChangeShapes Go.WideShapes Go.ChangeAt Go.RowKit
set_option linter.unusedVariables false
set_option maxRecDepth 100000

def markB (e k : Int) : Bool := inB e 1 1000000 && inB k 0 3
theorem markB_iff {e k : Int} : markB e k = true ↔ (1 ≤ e ∧ e ≤ 1000000) ∧ (0 ≤ k ∧ k ≤ 3) := by
  unfold markB
  simp only [Bool.and_eq_true, inB_iff]
def okTx : ByteArray := ⟨#[111, 107, 32]⟩
def failTx : ByteArray := ⟨#[102, 97, 105, 108, 101, 100, 32]⟩
def markTx (ok : Bool) (e k : Int) : ByteArray := if markB e k then (if ok then okTx else failTx) ++ decB e ++ ⟨#[32]⟩ ++ decB k else ByteArray.empty

theorem app_le {a b : ByteArray} {m n : Nat} (ha : a.size ≤ m) (hb : b.size ≤ n) : (a ++ b).size ≤ m + n := by rw [ByteArray.size_append]; omega
theorem join2 (e k : Int) : joinB ⟨#[32]⟩ [e, k] = decB e ++ ⟨#[32]⟩ ++ decB k := by
  apply ba_eq
  simp [joinB, Lib.join, List.intercalate, decB]
theorem join2_size {e k : Int} (ze : (decB e).size ≤ 20) (zk : (decB k).size ≤ 20) : (joinB ⟨#[32]⟩ [e, k]).size ≤ 41 := by
  rw [join2, ByteArray.size_append, ByteArray.size_append]
  show (decB e).size + 1 + (decB k).size ≤ 41
  omega
theorem mark_ok {e k : Int} (h : markB e k = true) : (⟨#[111, 107]⟩ ++ ⟨#[32]⟩ ++ joinB ⟨#[32]⟩ [e, k] : ByteArray) = markTx true e k := by
  unfold markTx
  rw [if_pos h, if_pos rfl, join2]
  apply ba_eq
  simp [okTx]
theorem mark_fail {e k : Int} (h : markB e k = true) : (⟨#[102, 97, 105, 108, 101, 100]⟩ ++ ⟨#[32]⟩ ++ joinB ⟨#[32]⟩ [e, k] : ByteArray) = markTx false e k := by
  unfold markTx
  rw [if_pos h, if_neg (by simp), join2]
  apply ba_eq
  simp [failTx]

end Go.Proofs.YtblpebdjbenphaaGreatDoor
namespace Go.Proofs.YtblpebdjbenphaaGreatDoor
open Go.ChangeShapes Go.WideShapes Go.ChangeAt Go.RowKit
set_option linter.unusedVariables false
set_option maxRecDepth 100000

def slash : ByteArray := ⟨#[47]⟩
/-- A word, and the first k numbers, each behind a slash. -/
def nmTo (word : ByteArray) (ns : List Int) : Nat → ByteArray
  | 0 => word
  | k + 1 => nmTo word ns k ++ ⟨#[47]⟩ ++ decB (ns.getD k 0)
def allIn (ns : List Int) : Bool := ns.all fun n => inB n 0 1000000
def nameTx (word : ByteArray) (ns : List Int) : ByteArray := if allIn ns then nmTo word ns ns.length else ByteArray.empty
theorem allIn_yes {ns : List Int} (h : ∀ j (hj : j < ns.length), inB ns[j] 0 1000000 = true) : allIn ns = true := by
  unfold allIn
  rw [List.all_eq_true]
  intro n hn
  obtain ⟨j, hj, rfl⟩ := List.getElem_of_mem hn
  exact h j hj
theorem allIn_no {ns : List Int} {j : Nat} (hj : j < ns.length) (h : inB ns[j] 0 1000000 = false) : allIn ns = false := by
  unfold allIn
  rw [List.all_eq_false]
  exact ⟨ns[j], List.getElem_mem hj, by rw [h]; simp⟩
theorem name_no {word : ByteArray} {ns : List Int} (h : allIn ns = false) : nameTx word ns = ByteArray.empty := by unfold nameTx; rw [if_neg (by rw [h]; simp)]
theorem nmTo_list (word : ByteArray) (ns : List Int) : ∀ k, k ≤ ns.length → (nmTo word ns k).data.toList = word.data.toList ++ Lib.joinTail [47] ((ns.take k).map Lib.itoa)
  | 0, _ => by simp [nmTo, Lib.joinTail]
  | k + 1, h => by
    have hk : k < ns.length := h
    have ih := nmTo_list word ns k (by omega)
    have h3 : ((ns.take (k + 1)).map Lib.itoa) = (ns.take k).map Lib.itoa ++ [Lib.itoa ns[k]] := by
      rw [List.take_succ_eq_append_getElem hk, List.map_append]; rfl
    have h2 : Lib.joinTail [47] ((ns.take (k + 1)).map Lib.itoa) = Lib.joinTail [47] ((ns.take k).map Lib.itoa) ++ ([47] ++ Lib.itoa ns[k]) := by
      rw [h3]; simp [Lib.joinTail]
    rw [h2, nmTo, ByteArray.data_append, Array.toList_append, ByteArray.data_append, Array.toList_append, ih, decB_list, List.getD_eq_getElem?_getD, List.getElem?_eq_getElem hk]
    simp
theorem nm_join {word : ByteArray} {ns : List Int} (h : 0 < ns.length) : word ++ ⟨#[47]⟩ ++ joinB ⟨#[47]⟩ ns = nmTo word ns ns.length := by
  apply ba_eq
  rw [nmTo_list word ns ns.length (Nat.le_refl _), List.take_length]
  cases ns with
  | nil => simp at h
  | cons n r => simp [joinB, Lib.join_cons, Lib.joinTail]
theorem in_of {n : Int} (h : inB n 0 1000000 = true) : In64 n := by rw [inB_iff] at h; unfold In64; omega
theorem joinB_size {ns : List Int} (hl : ns.length ≤ 4) (h : ∀ n ∈ ns, In64 n) : (joinB ⟨#[47]⟩ ns).size ≤ 140737488355328 := by
  have := join_few (sep := ⟨#[47]⟩) hl hl (by decide) h
  simpa [joinB, ByteArray.size] using this
theorem nmTo_size {word : ByteArray} {ns : List Int} (hw : word.size ≤ 5) (h : ∀ j (hj : j < ns.length), inB ns[j] 0 1000000 = true) : ∀ k, k ≤ ns.length → (nmTo word ns k).size ≤ 5 + 21 * k
  | 0, _ => by simpa [nmTo] using hw
  | k + 1, hk => by
    have ih := nmTo_size hw h k (by omega)
    have hi := in_of (h k hk)
    unfold In64 at hi
    have hz := @decB_size ns[k] hi.1 (by omega)
    have e : ns.getD k 0 = ns[k] := by rw [List.getD_eq_getElem?_getD, List.getElem?_eq_getElem (by omega)]; rfl
    rw [nmTo, e, ByteArray.size_append, ByteArray.size_append]
    show _ + 1 + _ ≤ _
    omega

structure Nums0 (w : World) (g : Nat) (ns : List Int) : Prop where
  lt : g < w.heap.size
  cell : ∀ j (h : j < ns.length), w.cell? ⟨g, j, none⟩ = some (.int .i64 ns[j])
theorem Nums0.keep {w w1 : World} {g : Nat} {ns : List Int} (h : Nums0 w g ns) (hB : Below w.heap.size w w1) : Nums0 w1 g ns :=
  ⟨Nat.lt_of_lt_of_le h.lt hB.size, fun j hj => (hB.cell (p := ⟨g, j, none⟩) h.lt).trans (h.cell j hj)⟩
theorem nums0_new (w : World) (t : TypeId) (ns : List Int) : Nums0 (w.alloc (.cells (ns.map fun n => Value.int .i64 n).toArray t)) w.heap.size ns :=
  ⟨by simp, fun j hj => by
    have := heap_alloc_new w (.cells (ns.map fun n => Value.int .i64 n).toArray t)
    unfold World.cell?
    rw [this]
    simp [hj]⟩

set_option maxHeartbeats 2000000 in
theorem named_any (word : ByteArray) (g c : Nat) (ns : List Int) (w : World) (hw : word.size ≤ 5) (h0 : 0 < ns.length) (hl : ns.length ≤ 4) (hc : ns.length ≤ c) (h : Nums0 w g ns) (hT : Tabs w) :
    Calls Tryz.prog 31 #[.string word, .slice (some ⟨g, 0, none⟩) ns.length c] w (MadeTx (nameTx word ns) w) := by
  obtain ⟨N, hN⟩ : ∃ N, ns.length = N := ⟨_, rfl⟩
  have HN := Lib.hid hN
  have HS := Lib.hid h
  have HT := Lib.hid hT
  rw [hN] at h0 hl hc ⊢
  clear hN h hT
  go_enter Tryz.func31, Tryz.ntmps31
  go_wp2
  go_loop [9] (fun i => ∃ k : Nat, k ≤ N ∧ i = .int .i64 k ∧ Hid (∀ j, (hj : j < ns.length) → j < k → inB ns[j] 0 1000000 = true)) (fun i => N - (intOf i).toNat)
  case atStart => exact ⟨0, Nat.zero_le _, rfl, fun j hj hk => by omega⟩
  case round =>
    obtain ⟨k, hk, rfl, HA⟩ := hrel
    by_cases hlt : k < N
    · have hkl : k < ns.length := by rw [HN.out]; exact hlt
      have c0 := HS.out.cell k hkl
      obtain ⟨v, hv⟩ : ∃ v, ns[k] = v := ⟨_, rfl⟩
      rw [hv] at c0
      have HV := Lib.hid hv
      have HKL := Lib.hid hkl
      clear hv
      have hi0 : (0 : Int) ≤ (k : Int) := by omega
      have hi1 : (k : Int) < (N : Int) := by omega
      cases hq : inB v 0 1000000 with
      | true =>
        have HQ := Lib.hid hq
        clear hq
        go_wp2_with (go_at_call 50; refine (within_any _ _ _ _).mono ?_; rw [HQ.out]; rintro e w1 ⟨rfl, rfl⟩)
        go_round
        case rel =>
          refine ⟨k + 1, by omega, by go_num, fun j hj hjk => ?_⟩
          rcases Nat.lt_or_ge j k with h1 | h1
          · exact HA.out j hj h1
          · obtain rfl : j = k := by omega
            rw [HV.out]; exact HQ.out
        case measure => simp [intOf]; omega
      | false =>
        have HR := Lib.hid (name_no (word := word) (allIn_no HKL.out (by rw [HV.out]; exact hq)))
        have HQ := Lib.hid hq
        clear hq
        go_wp2_with (go_at_call 50; refine (within_any _ _ _ _).mono ?_; rw [HQ.out]; rintro e w1 ⟨rfl, rfl⟩)
        go_ret
        exact ⟨congrArg (fun s => Ending.returned (.string s)) HR.out.symm, Below.refl _ _⟩
    · obtain rfl : k = N := by omega
      have hall : ∀ j (hj : j < ns.length), inB ns[j] 0 1000000 = true := fun j hj => HA.out j hj (by rw [← HN.out]; exact hj)
      have hin : ∀ n ∈ ns, In64 n := fun n hn => by
        obtain ⟨j, hj, rfl⟩ := List.getElem_of_mem hn
        exact in_of (hall j hj)
      have hjs := joinB_size (by rw [HN.out]; exact hl) hin
      have hws : (word ++ ⟨#[47]⟩).size ≤ 6 := app_le (m := 5) (n := 1) hw (show (⟨#[47]⟩ : ByteArray).size ≤ 1 by decide)
      have HR := Lib.hid (show word ++ ⟨#[47]⟩ ++ joinB ⟨#[47]⟩ ns = nameTx word ns by
        unfold nameTx
        rw [if_pos (allIn_yes hall), nm_join (by rw [HN.out]; exact h0)])
      have HD := decimals_any ⟨#[47]⟩ g c ns w (by decide) (by rw [HN.out]; exact hl) (by rw [HN.out]; exact hc) ⟨HS.out.lt, HS.out.cell, hin⟩ HT.out
      rw [HN.out] at HD
      have HD := Lib.hid HD
      have hws2 : word.size ≤ 8388608 := by omega
      clear hall hin
      go_wp2_with fail
      refine HD.out.mono ?_
      rintro x w2 ⟨rfl, hB⟩
      have HB2 := Lib.hid hB
      clear hB
      go_wp2
      go_ret
      exact ⟨congrArg (fun s => Ending.returned (.string s)) HR.out, HB2.out⟩

def nameB (kind t e k p : Int) : ByteArray :=
  if kind = 1 then nameTx ⟨#[105, 110]⟩ [t]
  else if kind = 2 then nameTx ⟨#[99, 108, 97, 105, 109]⟩ [t]
  else if kind = 3 then nameTx ⟨#[109, 97, 114, 107]⟩ [t]
  else if kind = 4 then nameTx ⟨#[111, 117, 116]⟩ [t, e, k, p]
  else if kind = 5 then nameTx ⟨#[114, 101, 115]⟩ [t, e, k]
  else if kind = 6 then ⟨#[106, 111, 98]⟩ else ByteArray.empty

set_option maxHeartbeats 4000000 in
theorem nameof_any (kind t e k p : Int) (w : World) (hT : Tabs w) : Calls Tryz.prog 15 #[.int .i64 kind, .int .i64 t, .int .i64 e, .int .i64 k, .int .i64 p] w (MadeTx (nameB kind t e k p) w) := by
  have HT := Lib.hid hT
  clear hT
  by_cases h1 : kind = 1
  · subst h1
    have HR := Lib.hid (show nameB 1 t e k p = nameTx ⟨#[105, 110]⟩ [t] from rfl)
    go_enter Tryz.func15, Tryz.ntmps15
    go_wp2_with fail
    have hd := named_any ⟨#[105, 110]⟩ w.heap.size 1 [t] (w.alloc (.cells #[.int .i64 t] 2)) (by decide) (by simp) (by simp) (by simp) (nums0_new w 2 [t]) (HT.out.keep (below_alloc (Below.refl _ _) _))
    refine hd.mono ?_
    rintro x w2 ⟨rfl, hB⟩
    have HB2 := Lib.hid (below_via (below_alloc (Below.refl w.heap.size w) _) hB)
    clear hB hd
    go_wp2
    go_ret
    exact ⟨congrArg (fun s => Ending.returned (.string s)) HR.out.symm, HB2.out⟩
  by_cases h2 : kind = 2
  · subst h2
    have HR := Lib.hid (show nameB 2 t e k p = nameTx ⟨#[99, 108, 97, 105, 109]⟩ [t] from rfl)
    go_enter Tryz.func15, Tryz.ntmps15
    go_wp2_with fail
    have hd := named_any ⟨#[99, 108, 97, 105, 109]⟩ w.heap.size 1 [t] (w.alloc (.cells #[.int .i64 t] 2)) (by decide) (by simp) (by simp) (by simp) (nums0_new w 2 [t]) (HT.out.keep (below_alloc (Below.refl _ _) _))
    refine hd.mono ?_
    rintro x w2 ⟨rfl, hB⟩
    have HB2 := Lib.hid (below_via (below_alloc (Below.refl w.heap.size w) _) hB)
    clear hB hd
    go_wp2
    go_ret
    exact ⟨congrArg (fun s => Ending.returned (.string s)) HR.out.symm, HB2.out⟩
  by_cases h3 : kind = 3
  · subst h3
    have HR := Lib.hid (show nameB 3 t e k p = nameTx ⟨#[109, 97, 114, 107]⟩ [t] from rfl)
    go_enter Tryz.func15, Tryz.ntmps15
    go_wp2_with fail
    have hd := named_any ⟨#[109, 97, 114, 107]⟩ w.heap.size 1 [t] (w.alloc (.cells #[.int .i64 t] 2)) (by decide) (by simp) (by simp) (by simp) (nums0_new w 2 [t]) (HT.out.keep (below_alloc (Below.refl _ _) _))
    refine hd.mono ?_
    rintro x w2 ⟨rfl, hB⟩
    have HB2 := Lib.hid (below_via (below_alloc (Below.refl w.heap.size w) _) hB)
    clear hB hd
    go_wp2
    go_ret
    exact ⟨congrArg (fun s => Ending.returned (.string s)) HR.out.symm, HB2.out⟩
  by_cases h4 : kind = 4
  · subst h4
    have HR := Lib.hid (show nameB 4 t e k p = nameTx ⟨#[111, 117, 116]⟩ [t, e, k, p] from rfl)
    go_enter Tryz.func15, Tryz.ntmps15
    go_wp2_with fail
    have hd := named_any ⟨#[111, 117, 116]⟩ w.heap.size 4 [t, e, k, p] (w.alloc (.cells #[.int .i64 t, .int .i64 e, .int .i64 k, .int .i64 p] 2)) (by decide) (by simp) (by simp) (by simp) (nums0_new w 2 [t, e, k, p]) (HT.out.keep (below_alloc (Below.refl _ _) _))
    refine hd.mono ?_
    rintro x w2 ⟨rfl, hB⟩
    have HB2 := Lib.hid (below_via (below_alloc (Below.refl w.heap.size w) _) hB)
    clear hB hd
    go_wp2
    go_ret
    exact ⟨congrArg (fun s => Ending.returned (.string s)) HR.out.symm, HB2.out⟩
  by_cases h5 : kind = 5
  · subst h5
    have HR := Lib.hid (show nameB 5 t e k p = nameTx ⟨#[114, 101, 115]⟩ [t, e, k] from rfl)
    go_enter Tryz.func15, Tryz.ntmps15
    go_wp2_with fail
    have hd := named_any ⟨#[114, 101, 115]⟩ w.heap.size 3 [t, e, k] (w.alloc (.cells #[.int .i64 t, .int .i64 e, .int .i64 k] 2)) (by decide) (by simp) (by simp) (by simp) (nums0_new w 2 [t, e, k]) (HT.out.keep (below_alloc (Below.refl _ _) _))
    refine hd.mono ?_
    rintro x w2 ⟨rfl, hB⟩
    have HB2 := Lib.hid (below_via (below_alloc (Below.refl w.heap.size w) _) hB)
    clear hB hd
    go_wp2
    go_ret
    exact ⟨congrArg (fun s => Ending.returned (.string s)) HR.out.symm, HB2.out⟩
  by_cases h6 : kind = 6
  · subst h6
    have HR := Lib.hid (show nameB 6 t e k p = ⟨#[106, 111, 98]⟩ from rfl)
    go_enter Tryz.func15, Tryz.ntmps15
    go_wp2
    go_ret
    exact ⟨congrArg (fun s => Ending.returned (.string s)) HR.out.symm, Below.refl _ _⟩
  have HR := Lib.hid (show nameB kind t e k p = ByteArray.empty by unfold nameB; rw [if_neg h1, if_neg h2, if_neg h3, if_neg h4, if_neg h5, if_neg h6])
  have g1 : (kind == 1) = false := by simpa using h1
  have g2 : (kind == 2) = false := by simpa using h2
  have g3 : (kind == 3) = false := by simpa using h3
  have g4 : (kind == 4) = false := by simpa using h4
  have g5 : (kind == 5) = false := by simpa using h5
  have g6 : (kind == 6) = false := by simpa using h6
  clear h1 h2 h3 h4 h5 h6
  go_enter Tryz.func15, Tryz.ntmps15
  go_wp2
  go_ret
  exact ⟨congrArg (fun s => Ending.returned (.string s)) HR.out.symm, Below.refl _ _⟩
end Go.Proofs.YtblpebdjbenphaaGreatDoor
