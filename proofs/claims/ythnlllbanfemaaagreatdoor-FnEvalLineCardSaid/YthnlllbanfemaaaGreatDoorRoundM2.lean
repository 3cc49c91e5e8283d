
/- A run comes back from its bytes, and what is read is these bytes again; the bytes of two parts. Plain mathematics. -/
import Derived.Test.YthnlllbanfemaaaGreatDoorRoundM
namespace Go.Proofs.YthnlllbanfemaaaGreatDoor
open Go.ChangeShapes Go.WideShapes Go.ChangeAt Go.RowKit
set_option linter.unusedVariables false
set_option maxRecDepth 100000

theorem bytes_len (s : ByteArray) : s.data.toList.length = s.size := Array.length_toList
theorem wf_bd {n : Int} (h : (Lit.int .i64 n).wf = true) : -9223372036854775808 ≤ n ∧ n ≤ 9223372036854775807 := by
  unfold Lit.wf at h
  rw [Bool.and_eq_true, decide_eq_true_eq, decide_eq_true_eq] at h
  exact h
def InByte (X : List Int) : Prop := ∀ x ∈ X, 0 ≤ x ∧ x < 256
theorem inByte_ints (l : List UInt8) : InByte (ints l) := by
  intro x hx
  unfold ints at hx
  obtain ⟨b, _, rfl⟩ := List.mem_map.1 hx
  have := UInt8.toNat_lt b
  omega
theorem inByte_append {X Y : List Int} (h : InByte X) (k : InByte Y) : InByte (X ++ Y) := by
  intro x hx
  rcases List.mem_append.1 hx with hx | hx
  · exact h x hx
  · exact k x hx
theorem inByte_one {x : Int} (h : 0 ≤ x ∧ x < 256) : InByte [x] := by
  intro y hy
  simp at hy
  subst hy; exact h
theorem inByte_bytesK (n : Int) : ∀ k, InByte (bytesK n k)
  | 0 => by intro x hx; simp [bytesK] at hx
  | k + 1 => inByte_append (inByte_bytesK n k) (inByte_one (by omega))
theorem inByte_recN (s : ByteArray) (n : Int) (h : s.size < 256) : InByte (recN s n) :=
  inByte_append (inByte_append (inByte_one (by omega)) (inByte_ints _)) (inByte_bytesK n 8)
theorem inByte_bytesTo (l : Recs) (h : ∀ i, i < l.length → (keyAt l i).size ≤ 40) : ∀ k, k ≤ l.length → InByte (bytesTo l k)
  | 0, _ => by intro x hx; simp [bytesTo] at hx
  | k + 1, hk => inByte_append (inByte_bytesTo l h k (by omega)) (inByte_recN _ _ (by have := h k (by omega); omega))
theorem byteAt_nums {X : List Int} {i : Nat} {x : Int} (h : InByte X) (hx : X[i]? = some x) : ((byteAt (strOfNums X) i).toNat : Int) = x := by
  obtain ⟨hi, rfl⟩ := List.getElem?_eq_some_iff.1 hx
  have hm := h _ (List.getElem_mem hi)
  unfold byteAt
  rw [strOfNums_data, List.getD_eq_getElem?_getD, List.getElem?_map, List.getElem?_eq_getElem hi]
  simp only [Option.map_some, Option.getD_some, UInt8.toNat_ofNat']
  omega
theorem bytesTo_pre (l : Recs) : ∀ j k, k ≤ j → ∃ Y, bytesTo l j = bytesTo l k ++ Y
  | 0, k, h => ⟨[], by obtain rfl : k = 0 := by omega
                       rw [List.append_nil]⟩
  | j + 1, k, h => by
    rcases Nat.lt_or_ge k (j + 1) with hl | hl
    · obtain ⟨Y, hY⟩ := bytesTo_pre l j k (by omega)
      exact ⟨Y ++ recN (keyAt l j) (numAt l j), by rw [bytesTo, hY, List.append_assoc]⟩
    · obtain rfl : k = j + 1 := by omega
      exact ⟨[], by rw [List.append_nil]⟩
/-- What lies at place i of record k. -/
theorem bytesTo_at (l : Recs) (n k i : Nat) (hk : k < n) (hi : i < 9 + (keyAt l k).size) : (bytesTo l n)[sizeTo l k + i]? = (recN (keyAt l k) (numAt l k))[i]? := by
  obtain ⟨Y, hY⟩ := bytesTo_pre l n (k + 1) (by omega)
  rw [hY, bytesTo, List.append_assoc, List.getElem?_append_right (by rw [bytesTo_len]; omega), bytesTo_len, Nat.add_sub_cancel_left, List.getElem?_append_left (by rw [recN_len]; omega)]
theorem recN_first (s : ByteArray) (n : Int) : (recN s n)[0]? = some (s.size : Int) := rfl
theorem recN_key (s : ByteArray) (n : Int) (i : Nat) (h : i < s.size) : (recN s n)[1 + i]? = some ((s.data.toList.getD i 0).toNat : Int) := by
  have hz := bytes_len s
  unfold recN
  rw [List.append_assoc, Nat.add_comm 1 i]
  show (ints s.data.toList ++ bytesK n 8)[i]? = _
  rw [List.getElem?_append_left (by simp [ints]; exact h)]
  unfold ints
  rw [List.getElem?_map, List.getD_eq_getElem?_getD, List.getElem?_eq_getElem (by omega)]
  rfl
theorem recN_num (s : ByteArray) (n : Int) (i : Nat) : (recN s n)[1 + s.size + i]? = (bytesK n 8)[i]? := by
  have hz := bytes_len s
  unfold recN
  rw [List.getElem?_append_right (by simp [ints]; omega)]
  congr 1
  simp [ints]
  omega
theorem extract_key (t s : ByteArray) (p : Nat) (hp : p + s.size ≤ t.size) (h : ∀ i, i < s.size → byteAt t (p + i) = byteAt s i) : t.extract p (p + s.size) = s := by
  apply ByteArray.ext
  apply Array.ext_getElem?
  intro i
  rw [ByteArray.data_extract, Array.getElem?_extract]
  have hz1 : t.data.size = t.size := rfl
  have hz2 : s.data.size = s.size := rfl
  by_cases hi : i < s.size
  · have := h i hi
    rw [if_pos (by omega)]
    rw [byteAt_eq (by omega), byteAt_eq hi] at this
    rw [Array.getElem?_eq_getElem (by omega), Array.getElem?_eq_getElem (by omega)]
    exact congrArg some this
  · rw [if_neg (by omega), Array.getElem?_eq_none (by omega)]

/-- A run's records lie one behind the other in its bytes. -/
theorem posK_run (l : Recs) (hk : ∀ i, i < l.length → (keyAt l i).size ≤ 40) (hw : ∀ x ∈ l, (Lit.int .i64 x.2).wf = true) (t : ByteArray) (ht : t = strOfNums (bytesTo l l.length)) : ∀ k, k ≤ l.length → posK t k = some (sizeTo l k) ∧ recsK t k = l.take k
  | 0, _ => ⟨rfl, by simp [recsK]⟩
  | k + 1, h => by
    obtain ⟨ih1, ih2⟩ := posK_run l hk hw t ht k (by omega)
    have hkl : k < l.length := h
    have hs := hk k hkl
    obtain ⟨s, hsd⟩ : ∃ s, keyAt l k = s := ⟨_, rfl⟩
    obtain ⟨m, hmd⟩ : ∃ m, numAt l k = m := ⟨_, rfl⟩
    have hmw : (Lit.int .i64 m).wf = true := by
      have := hw l[k] (List.getElem_mem hkl)
      rw [at_get l k hkl] at this
      rw [← hmd]; exact this
    have hin := inByte_bytesTo l hk l.length (Nat.le_refl _)
    have hat : ∀ i x, i < 9 + s.size → (recN s m)[i]? = some x → ((byteAt t (sizeTo l k + i)).toNat : Int) = x := by
      intro i x hi hx
      rw [ht]
      refine byteAt_nums hin ?_
      rw [bytesTo_at l l.length k i hkl (by rw [hsd]; exact hi), hsd, hmd]
      exact hx
    have hst : sizeTo l (k + 1) = sizeTo l k + (1 + s.size + 8) := by rw [← hsd]; rfl
    have hsz : sizeTo l (k + 1) ≤ t.size := by
      rw [ht, strOfNums_size, bytesTo_len]
      exact sizeTo_mono l _ _ h
    rw [hsd] at hs
    have he : keyEnd t (sizeTo l k) = sizeTo l k + 1 + s.size := by
      unfold keyEnd
      have := hat 0 _ (by omega) (recN_first s m)
      rw [Nat.add_zero] at this
      omega
    have hf : fitsB t (sizeTo l k) = true := fits_yes (by omega) (by rw [he]; omega)
    have hr : recAt t (sizeTo l k) = (s, m) := by
      unfold recAt
      rw [he]
      refine Prod.ext ?_ ?_
      · refine extract_key t s (sizeTo l k + 1) (by omega) fun i hi => ?_
        have := hat (1 + i) _ (by omega) (recN_key s m i hi)
        rw [← Nat.add_assoc] at this
        exact UInt8.toNat_inj.1 (by unfold byteAt at this ⊢; omega)
      · obtain ⟨V, hV⟩ : ∃ V : Nat, IntKind.u64.wrap m = (V : Int) := ⟨(IntKind.u64.wrap m).toNat, by have := u64_bd m; omega⟩
        have hVb : V < 18446744073709551616 := by have := u64_bd m; omega
        have hb : ∀ i, i < 8 → (byteAt t (sizeTo l k + 1 + s.size + i)).toNat = V / 256 ^ i % 256 := by
          intro i hi
          have := hat (1 + s.size + i) _ (by omega) ((recN_num s m i).trans (bytesK_get m V hV 8 i hi))
          rw [show sizeTo l k + 1 + s.size + i = sizeTo l k + (1 + s.size + i) by omega]
          omega
        have h8 := natTo_bytes t (sizeTo l k + 1 + s.size) V hVb hb 8 (Nat.le_refl _)
        show wrap64 (wordTo t (sizeTo l k + 1 + s.size) 8) = m
        rw [wordTo_nat _ _ 8 (Nat.le_refl _), h8, show V / 256 ^ (8 - 8) = V by simp, ← hV]
        have := wf_bd hmw
        exact wrap64_back m this.1 this.2
    refine ⟨?_, ?_⟩
    · rw [posK_step ih1 hf, he, hst]
      congr 1; omega
    · rw [recsK_step ih1, ih2, hr, List.take_add_one, List.getElem?_eq_getElem hkl, at_get l k hkl, hsd, hmd]; rfl
theorem read_back {l : Recs} (h : runOkB l = true) (hw : ∀ x ∈ l, (Lit.int .i64 x.2).wf = true) : readB (runBytesB l) = some l := by
  obtain ⟨h6, hk⟩ := runOk_keys h
  obtain ⟨h1, h2⟩ := posK_run l hk hw _ rfl l.length (Nat.le_refl _)
  have e : runBytesB l = strOfNums (bytesTo l l.length) := (runbytes_yes h rfl).symm
  rw [List.take_length] at h2
  rw [e, read_yes (k := l.length) (by rw [h1, strOfNums_size, bytesTo_len]) h6 (by rw [h2]; exact h), h2]

theorem ints_take (t : ByteArray) (p n : Nat) : ints (t.data.toList.take (p + n)) = ints (t.data.toList.take p) ++ ints ((t.data.toList.drop p).take n) := by
  unfold ints
  rw [← List.map_append, List.take_add]
theorem bytesK_same (t : ByteArray) (p : Nat) (hp : p + 8 ≤ t.size) (n : Int) (V : Nat) (hV : IntKind.u64.wrap n = (V : Int)) (hb : ∀ i, i < 8 → V / 256 ^ i % 256 = (byteAt t (p + i)).toNat) : bytesK n 8 = ints ((t.data.toList.drop p).take 8) := by
  have hz := bytes_len t
  apply List.ext_getElem?
  intro i
  by_cases hi : i < 8
  · rw [bytesK_get n V hV 8 i hi, hb i hi]
    unfold ints byteAt
    rw [List.getElem?_map, List.getElem?_take_of_lt hi, List.getElem?_drop, List.getD_eq_getElem?_getD, List.getElem?_eq_getElem (by omega)]
    rfl
  · rw [List.getElem?_eq_none (by rw [bytesK_len]; omega), List.getElem?_eq_none (by simp [ints]; omega)]
/-- The bytes of the records that are read are the text's. -/
theorem bytes_read (t : ByteArray) : ∀ k p, posK t k = some p → ∀ l : Recs, (∀ j, j < k → keyAt l j = (recAt t ((posK t j).getD 0)).1 ∧ numAt l j = (recAt t ((posK t j).getD 0)).2) → bytesTo l k = ints (t.data.toList.take p)
  | 0, p, h, l, _ => by
    simp [posK] at h
    subst h
    simp [bytesTo, ints]
  | k + 1, p, h, l, hl => by
    have hz := bytes_len t
    unfold posK at h
    split at h
    · rename_i at0 h0
      split at h
      · rename_i hf
        simp only [Option.some.injEq] at h
        have ih := bytes_read t k at0 h0 l (fun j hj => hl j (by omega))
        obtain ⟨e1, e2⟩ := hl k (by omega)
        rw [h0] at e1 e2
        simp only [Option.getD_some] at e1 e2
        simp [fitsB] at hf
        obtain ⟨hf1, hf2⟩ := hf
        have hks : (keyAt l k).size = (byteAt t at0).toNat := by
          rw [e1]
          show (t.extract _ _).size = _
          rw [ByteArray.size_extract]
          unfold keyEnd at hf2 ⊢
          omega
        have hke : keyEnd t at0 = at0 + 1 + (keyAt l k).size := by rw [hks]; rfl
        have hV := wordTo_nat t (keyEnd t at0) 8 (Nat.le_refl _)
        have hVb := natTo_8 t (keyEnd t at0)
        have hn : IntKind.u64.wrap (numAt l k) = ((natTo t (keyEnd t at0) 8 : Nat) : Int) := by
          rw [e2]
          show IntKind.u64.wrap (wrap64 (wordTo t (keyEnd t at0) 8)) = _
          rw [hV]
          exact u64_back _ hVb
        have hnum := bytesK_same t (keyEnd t at0) hf2 (numAt l k) _ hn (fun i hi => natTo_byte t _ i hi)
        have hkey : ints (keyAt l k).data.toList = ints ((t.data.toList.drop (at0 + 1)).take (keyAt l k).size) := by
          rw [e1]
          show ints (t.extract (at0 + 1) (keyEnd t at0)).data.toList = _
          rw [ByteArray.data_extract, Array.toList_extract, ← e1]
          congr 2
          rw [hke]
          simp [List.extract_eq_take_drop]
        have hone : [((keyAt l k).size : Int)] = ints ((t.data.toList.drop at0).take 1) := by
          rw [hks]
          unfold ints byteAt
          rw [List.drop_eq_getElem_cons (by omega), List.getD_eq_getElem?_getD, List.getElem?_eq_getElem (by omega)]
          rfl
        rw [bytesTo, ih, ← h, hke]
        rw [hke] at hnum
        unfold recN
        rw [ints_take t (at0 + 1 + (keyAt l k).size) 8, ints_take t (at0 + 1) (keyAt l k).size, ints_take t at0 1, ← hone, ← hkey, ← hnum]
        simp only [List.append_assoc]
      · cases h
    · cases h
theorem strOfNums_ints (l : List UInt8) : strOfNums (ints l) = ⟨l.toArray⟩ := by
  unfold strOfNums ints
  congr 2
  rw [List.map_map]
  conv => rhs; rw [← List.map_id l]
  apply List.map_congr_left
  intro b _
  simp
theorem recsK_at (t : ByteArray) : ∀ k j, j < k → (recsK t k)[j]? = some (recAt t ((posK t j).getD 0))
  | 0, j, h => by omega
  | k + 1, j, h => by
    rw [recsK]
    rcases Nat.lt_or_ge j k with hl | hl
    · rw [List.getElem?_append_left (by rw [recsK_len]; exact hl)]
      exact recsK_at t k j hl
    · obtain rfl : j = k := by omega
      rw [List.getElem?_append_right (by rw [recsK_len]; exact Nat.le_refl _), recsK_len, Nat.sub_self]; rfl
theorem read_bytes {t : ByteArray} {x : Recs} (h : readB t = some x) : runBytesB x = t ∧ runOkB x = true := by
  unfold readB at h
  rw [Option.map_eq_some_iff] at h
  obtain ⟨k, hf, rfl⟩ := h
  have h1 := List.find?_some hf
  rw [Bool.and_eq_true] at h1
  have hp := of_decide_eq_true h1.1
  refine ⟨?_, h1.2⟩
  rw [← runbytes_yes h1.2 (recsK_len t k)]
  rw [bytes_read t k t.size hp (recsK t k) (fun j hj => by
    have := recsK_at t k j hj
    unfold keyAt numAt
    rw [List.getD_eq_getElem?_getD, this]
    exact ⟨rfl, rfl⟩)]
  rw [List.take_of_length_le (by rw [bytes_len]; exact Nat.le_refl _), strOfNums_ints]

theorem bytesTo_flat (l : Recs) : ∀ k, k ≤ l.length → bytesTo l k = (l.take k).flatMap fun x => recN x.1 x.2
  | 0, _ => by simp [bytesTo]
  | k + 1, h => by
    rw [bytesTo, bytesTo_flat l k (by omega), List.take_add_one, List.getElem?_eq_getElem (by omega), at_get l k (by omega)]
    simp
theorem strOfNums_append (X Y : List Int) : strOfNums (X ++ Y) = strOfNums X ++ strOfNums Y := by
  apply ByteArray.ext
  rw [ByteArray.data_append]
  unfold strOfNums
  rw [List.map_append, List.append_toArray]
/-- A run in two parts. -/
theorem run_parts {l : Recs} (k : Nat) (h : runOkB l = true) : runOkB (l.take k) = true ∧ runOkB (l.drop k) = true ∧ runBytesB (l.take k) ++ runBytesB (l.drop k) = runBytesB l := by
  have hi := (runOk_iff l).1 h
  have hsub : ∀ m : Recs, m.Sublist l → runOkB m = true := fun m hm => by
    refine (runOk_iff m).2 ⟨?_, List.Pairwise.sublist hm hi.2⟩
    obtain ⟨h6, hk⟩ := runOk_keys h
    cases hc : recsOkB m with
    | true => rfl
    | false =>
      exfalso
      have h1 : m.length ≤ 600 := Nat.le_trans hm.length_le h6
      unfold recsOkB at hc
      rw [decide_eq_true h1, Bool.true_and, ← Bool.not_eq_true, List.all_eq_true] at hc
      refine hc fun i hi => ?_
      have him := List.mem_range.1 hi
      have hml : m[i] ∈ l := hm.subset (List.getElem_mem him)
      obtain ⟨j, hj, hje⟩ := List.getElem_of_mem hml
      have := hk j hj
      unfold okAt okB
      rw [decide_eq_true_eq]
      have e1 := at_get m i him
      have e2 := at_get l j hj
      rw [hje, e1] at e2
      have e3 : keyAt m i = keyAt l j := (Prod.ext_iff.1 e2).1
      rw [e3]
      exact this
  have h1 := hsub _ (List.take_sublist k l)
  have h2 := hsub _ (List.drop_sublist k l)
  refine ⟨h1, h2, ?_⟩
  rw [← runbytes_yes h1 rfl, ← runbytes_yes h2 rfl, ← runbytes_yes h rfl, ← strOfNums_append, bytesTo_flat _ _ (Nat.le_refl _), bytesTo_flat _ _ (Nat.le_refl _), bytesTo_flat _ _ (Nat.le_refl _), List.take_length, List.take_length, List.take_length, ← List.flatMap_append, List.take_append_drop]
end Go.Proofs.YthnlllbanfemaaaGreatDoor
