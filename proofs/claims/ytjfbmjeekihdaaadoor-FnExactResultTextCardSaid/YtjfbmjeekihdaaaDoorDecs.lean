
/- Numbers in decimal, joined by a text: what the program writes. Only new blocks are made. -/
import Derived.Test.YtjfbmjeekihdaaaDoorDec
import Derived.Test.YtjfbmjeekihdaaaDoorTabs
import Derived.Test.YtjfbmjeekihdaaaDoorShelf
import Derived.Test.YtjfbmjeekihdaaaDoorOwn
namespace Go.Proofs.YtjfbmjeekihdaaaDoor
open Go.ChangeShapes Go.WideShapes Go.ChangeAt Go.RowKit
set_option linter.unusedVariables false
set_option maxRecDepth 100000

theorem below_grew (w : World) (k : Nat) (os : Array Obj) : Below w.heap.size w (Sort.grow (w.drewN k) os) :=
  ⟨rfl, rfl, rfl, by simp [Sort.grow], fun i hi => by
    show (w.heap ++ os)[i]? = w.heap[i]?
    rw [Array.getElem?_append_left hi]⟩
def In64 (n : Int) : Prop := -9223372036854775808 ≤ n ∧ n ≤ 9223372036854775807
theorem fmt_any (n : Int) (hn : In64 n) (w : World) (hT : Tabs w) : Calls Tryd.prog 60 #[.int .i64 n, .int .i64 10] w (MadeTx (decB n) w) := by
  refine (Tryd.strconv_FormatInt_10 n hn.1 hn.2 w hT).mono ?_
  rintro e w' ⟨rfl, k, os, rfl⟩
  exact ⟨rfl, below_grew w k os⟩

/-- The numbers ns in a row of cells. -/
structure Nums (w : World) (g : Nat) (ns : List Int) : Prop where
  lt : g < w.heap.size
  cell : ∀ j (h : j < ns.length), w.cell? ⟨g, j, none⟩ = some (.int .i64 ns[j])
  ok : ∀ n ∈ ns, In64 n
theorem Nums.keep {w w1 : World} {g : Nat} {ns : List Int} (h : Nums w g ns) (hB : Below w.heap.size w w1) : Nums w1 g ns :=
  ⟨Nat.lt_of_lt_of_le h.lt hB.size, fun j hj => (hB.cell (p := ⟨g, j, none⟩) h.lt).trans (h.cell j hj), h.ok⟩

theorem join_few {ns : List Int} {sep : ByteArray} {N : Nat} (hl : N ≤ 4) (hn : ns.length ≤ 4) (hsep : sep.size ≤ 1) (h : ∀ n ∈ ns, In64 n) : (Lib.join (ns.map Lib.itoa) sep.data.toList).length ≤ 140737488355328 := by
  cases ns with
  | nil => simp [Lib.join_nil]
  | cons n r =>
    have hb : ∀ (l : List Int), (∀ n ∈ l, In64 n) → Lib.lens (l.map Lib.itoa) ≤ 20 * l.length := by
      intro l
      induction l with
      | nil => intro _; simp [Lib.lens]
      | cons a t ih =>
        intro ht
        have h1 := itoa_len (ht a (by simp)).1 (by have := (ht a (by simp)).2; omega)
        have h2 := ih (fun x hx => ht x (by simp [hx]))
        simp only [Lib.lens, List.map_cons, List.sum_cons, List.length_cons] at h2 ⊢
        omega
    have h1 := hb (n :: r) h
    rw [List.map_cons, Lib.join_length]
    rw [List.map_cons] at h1
    have h2 : sep.data.toList.length * (r.map Lib.itoa).length ≤ 1 * 4 := by
      apply Nat.mul_le_mul
      · simpa using hsep
      · simp at hn ⊢; omega
    simp only [List.length_cons] at h1 hn
    omega
def joinB (sep : ByteArray) (ns : List Int) : ByteArray := ⟨(Lib.join (ns.map Lib.itoa) sep.data.toList).toArray⟩

set_option maxHeartbeats 2000000 in
theorem decimals_any (sep : ByteArray) (g c : Nat) (ns : List Int) (w : World) (hsep : sep.size ≤ 1) (hl : ns.length ≤ 4) (hc : ns.length ≤ c) (h : Nums w g ns) (hT : Tabs w) :
    Calls Tryd.prog 38 #[.string sep, .slice (some ⟨g, 0, none⟩) ns.length c] w (MadeTx (joinB sep ns) w) := by
  obtain ⟨N, hN⟩ : ∃ N, ns.length = N := ⟨_, rfl⟩
  have HN := Lib.hid hN
  have HS := Lib.hid h
  have HT := Lib.hid hT
  rw [hN] at hl hc ⊢
  clear hN h hT
  obtain ⟨i0, hi, hz0, hz1, hz2⟩ := info_parts infoStr
  go_enter Tryd.func38, Tryd.ntmps38
  go_wp2_with (at_make; refine wpList_make_full _ rfl _ _ 48 rfl w.heap.size 9 i0 _ 1 Tryd.underlying48 hi hz0 hz1 .i64 .i64 _ _ N rfl rfl rfl rfl (by rw [hz2]; omega) (by unfold maxLen; omega) (Nat.le_refl _) ?_; intro w1 hown hgrow)
  obtain ⟨cur0, hrow0, hsz0⟩ : ∃ cur, Row w1 w.heap.size 9 cur ∧ cur.size = N := by
    rcases hown.2 with ⟨h, _⟩ | ⟨g, cp, cur, hv, _, hh, _, _, hs, _⟩
    · simp at h
    · simp only [Value.slice.injEq, Option.some.injEq, Addr.mk.injEq, true_and, and_true] at hv
      obtain ⟨rfl, rfl⟩ := hv
      exact ⟨cur, hh, by omega⟩
  have HB0 := Lib.hid ((Below.refl w.heap.size w).grown hgrow (Nat.le_refl _) (by simp))
  have HR0 := Lib.hid hrow0
  have HS0 := Lib.hid hsz0
  clear hown hgrow hrow0 hsz0
  go_loopw [13] (fun i wr => ∃ k : Nat, k ≤ N ∧ i = .int .i64 k ∧ Hid (Below w.heap.size w wr ∧ ∃ cur, Row wr w.heap.size 9 cur ∧ cur.size = N ∧ ∀ j, (hj : j < ns.length) → j < k → cur[j]? = some (.string (decB ns[j])))) (fun i _ => N - (intOf i).toNat)
  case atStart => exact ⟨0, Nat.zero_le _, rfl, HB0.out, cur0, HR0.out, HS0.out, fun j hj hk => by omega⟩
  case round =>
    obtain ⟨k, hk, rfl, HW⟩ := hrel
    clear HB0 HR0 HS0
    by_cases hlt : k < N
    · have hkl : k < ns.length := by rw [HN.out]; exact hlt
      have c0 := (HW.out.1.cell (p := ⟨g, k, none⟩) HS.out.lt).trans (HS.out.cell k hkl)
      have HV := Lib.hid (HS.out.ok ns[k] (List.getElem_mem _))
      obtain ⟨v, hv⟩ : ∃ v, ns[k] = v := ⟨_, rfl⟩
      rw [hv] at c0 HV
      have HVV := Lib.hid hv
      clear hv
      have hgne : g ≠ w.heap.size := Nat.ne_of_lt HS.out.lt
      have hi0 : (0 : Int) ≤ (k : Int) := by omega
      have hi1 : (k : Int) < (N : Int) := by omega
      go_wp2_with fail
      refine (fmt_any v HV.out _ (HT.out.keep HW.out.1)).mono ?_
      rintro e w2 ⟨rfl, hB⟩
      obtain ⟨hb0, cur, hr, hs, hla⟩ := HW.out
      have hr2 := hr.keep hB
      have hA0 := hr2.cell (j := k) (by omega)
      have hf0 := hr2.free k
      have HB := Lib.hid (below_via hb0 hB)
      have HR2 := Lib.hid hr2
      have HS1 := Lib.hid hs
      have HL := Lib.hid hla
      generalize cur[k] = x0 at hA0
      clear hr hr2 hs hla hb0 hB HW c0
      go_wp2
      go_roundw
      case rel =>
        refine ⟨k + 1, by omega, by go_num, HB.out.setCell (Nat.le_refl _) _, _, HR2.out.set _ _, by simpa using HS1.out, fun j hj hjk => ?_⟩
        rcases Nat.lt_or_ge j k with hlt2 | hge
        · rw [Array.getElem?_setIfInBounds_ne (by omega)]; exact HL.out j hj hlt2
        · obtain rfl : j = k := by omega
          rw [Array.getElem?_setIfInBounds_self_of_lt (by rw [HS1.out]; exact hlt), HVV.out]
      case measure => simp [intOf]; omega
    · obtain rfl : k = N := by omega
      have hJ : (Lib.join (ns.map Lib.itoa) sep.data.toList).length ≤ 140737488355328 := join_few hl (by rw [HN.out]; exact hl) hsep HS.out.ok
      obtain ⟨hb0, cur, hr, hs, hla⟩ := HW.out
      have HB := Lib.hid hb0
      have HR2 := Lib.hid hr
      have HL := Lib.hid hla
      have HJ := Lib.hid hJ
      clear hr hs hla hb0 hJ HW
      have HM := Lib.hid (show (ns.map decB).length = k by simp [HN.out])
      have HD := Lib.hid (show (ns.map decB).map (·.data.toList) = ns.map Lib.itoa by simp [decB_list])
      go_wp2_with fail
      have hjoin := Tryd.strings_Join w.heap.size 0 k (ns.map decB) sep
      rw [HM.out, HD.out] at hjoin
      refine (hjoin _ (fun j x hx => ?_) HR2.out.lt (by omega) (Nat.le_refl _) HJ.out).mono ?_
      · obtain ⟨hj, he⟩ := List.getElem?_eq_some_iff.1 hx
        have hj2 : j < ns.length := by simpa using hj
        have h1 := HL.out j hj2 (by rw [← HN.out]; exact hj2)
        have h2 := HR2.out
        unfold Row at h2
        simp only [List.getElem_map] at he
        subst he
        simp [World.cell?, h2, h1]
      · rintro e w3 ⟨rfl, hB⟩
        have HB3 := Lib.hid (below_via HB.out hB)
        clear hB
        go_wp2
        go_ret
        exact ⟨rfl, HB3.out⟩
end Go.Proofs.YtjfbmjeekihdaaaDoor
