
/- What commands come to without those that were refused; versions. Plain mathematics. -/
import Derived.Test.YtblpebdjbenphaaDoorMg14
import Derived.Test.YtblpebdjbenphaaDoorLawM
namespace Go.Proofs.YtblpebdjbenphaaDoor
open Go.ChangeShapes Go.WideShapes Go.ChangeAt Go.RowKit
set_option linter.unusedVariables false
set_option maxRecDepth 100000

theorem perf_back {kind : Int} {key : ByteArray} {ver : Int} {data : ByteArray} {E : Els} (h : (performE kind key ver data E).2.2 ≠ 0) : (performE kind key ver data E).1 = E := by
  unfold performE at h ⊢
  split at h
  · rename_i hc
    rw [if_pos hc]
    split at h
    · rename_i h1; rw [if_pos h1]
      unfold createE at h ⊢
      cases hl : lookE key E with
      | none => rw [hl] at h; dsimp only at h ⊢; split at h
                · rename_i h2; rw [if_pos h2]
                · simp at h
      | some e => rw [hl] at h; dsimp only at h ⊢; split at h
                  · rename_i h2; rw [if_pos h2]; split at h
                    · rename_i h3; rw [if_pos h3]
                    · simp at h
                  · rename_i h2; rw [if_neg h2]
    · rename_i h1; rw [if_neg h1]
      split at h
      · rename_i h2; rw [if_pos h2]
        unfold replE at h ⊢
        cases hl : lookE key E with
        | none => rfl
        | some e => rw [hl] at h; dsimp only at h ⊢; split at h
                    · rename_i h3; rw [if_pos h3]
                    · rename_i h3; rw [if_neg h3]; split at h
                      · rename_i h4; rw [if_pos h4]; split at h
                        · rename_i h5; rw [if_pos h5]
                        · simp at h
                      · rename_i h4; rw [if_neg h4]
      · rename_i h2; rw [if_neg h2]
        unfold delE at h ⊢
        cases hl : lookE key E with
        | none => rfl
        | some e => rw [hl] at h; dsimp only at h ⊢; split at h
                    · rename_i h3; rw [if_pos h3]
                    · rename_i h3; rw [if_neg h3]; split at h
                      · simp at h
                      · rename_i h4; rw [if_neg h4]
  · rename_i hc; rw [if_neg hc]
/-- The i-th command's code. -/
def codeN (l : Cmds) (i : Nat) : Int := (performE (cmd0 l i) (cmd1 l i) (cmd2 l i) (cmd3 l i) (playK l i).1).2.2
theorem play_code (l : Cmds) : ∀ (k i : Nat), i < k → (playK l k).2[i]? = some (codeN l i)
  | 0, i, h => by omega
  | k + 1, i, h => by
    show ((playK l k).2 ++ [_])[i]? = _
    have hl := play_len l k
    by_cases hi : i < k
    · rw [List.getElem?_append_left (by omega)]; exact play_code l k i hi
    · obtain rfl : i = k := by omega
      rw [List.getElem?_append_right (by omega), hl]; simp [codeN]
def filtK (l : Cmds) : Nat → Cmds
  | 0 => []
  | k + 1 => if codeN l k = 0 then filtK l k ++ [(cmd0 l k, cmd1 l k, cmd2 l k, cmd3 l k)] else filtK l k
theorem filt_len (l : Cmds) : ∀ k, (filtK l k).length ≤ k
  | 0 => Nat.le_refl _
  | k + 1 => by
    have := filt_len l k
    unfold filtK
    split
    · simp; omega
    · omega
theorem cmd_left {F G : Cmds} {i : Nat} (h : i < F.length) : cmd0 (F ++ G) i = cmd0 F i ∧ cmd1 (F ++ G) i = cmd1 F i ∧ cmd2 (F ++ G) i = cmd2 F i ∧ cmd3 (F ++ G) i = cmd3 F i := by
  simp [cmd0, cmd1, cmd2, cmd3, List.getElem?_append_left h]
theorem play_left {F G : Cmds} : ∀ k, k ≤ F.length → playK (F ++ G) k = playK F k
  | 0, _ => rfl
  | k + 1, h => by
    have ih := play_left (F := F) (G := G) k (by omega)
    obtain ⟨h0, h1, h2, h3⟩ := cmd_left (F := F) (G := G) (i := k) (by omega)
    show (_, _) = (_, _)
    rw [ih, h0, h1, h2, h3]
theorem play_filt (l : Cmds) : ∀ k, (playK (filtK l k) (filtK l k).length).1 = (playK l k).1 ∧ ∀ c ∈ (playK (filtK l k) (filtK l k).length).2, c = 0
  | 0 => ⟨rfl, by intro c hc; simp [filtK, playK] at hc⟩
  | k + 1 => by
    obtain ⟨ih1, ih2⟩ := play_filt l k
    by_cases hc : codeN l k = 0
    · have e : filtK l (k + 1) = filtK l k ++ [(cmd0 l k, cmd1 l k, cmd2 l k, cmd3 l k)] := by show (if _ then _ else _) = _; rw [if_pos hc]
      rw [e]
      have hlen : (filtK l k ++ [(cmd0 l k, cmd1 l k, cmd2 l k, cmd3 l k)]).length = (filtK l k).length + 1 := by simp
      rw [hlen]
      obtain ⟨F, hF⟩ : ∃ F, filtK l k = F := ⟨_, rfl⟩
      rw [hF] at ih1 ih2 ⊢
      have hp := play_left (F := F) (G := [(cmd0 l k, cmd1 l k, cmd2 l k, cmd3 l k)]) F.length (Nat.le_refl _)
      have hg : cmd0 (F ++ [(cmd0 l k, cmd1 l k, cmd2 l k, cmd3 l k)]) F.length = cmd0 l k ∧ cmd1 (F ++ [(cmd0 l k, cmd1 l k, cmd2 l k, cmd3 l k)]) F.length = cmd1 l k ∧ cmd2 (F ++ [(cmd0 l k, cmd1 l k, cmd2 l k, cmd3 l k)]) F.length = cmd2 l k ∧ cmd3 (F ++ [(cmd0 l k, cmd1 l k, cmd2 l k, cmd3 l k)]) F.length = cmd3 l k := by
        refine ⟨?_, ?_, ?_, ?_⟩
        · simp [cmd0]
        · simp [cmd1]
        · simp [cmd2]
        · simp [cmd3]
      obtain ⟨g0, g1, g2, g3⟩ := hg
      constructor
      · show (performE _ _ _ _ _).1 = (performE _ _ _ _ _).1
        rw [g0, g1, g2, g3, hp, ih1]
      · intro c hcm
        have hcm : c ∈ (playK (F ++ [(cmd0 l k, cmd1 l k, cmd2 l k, cmd3 l k)]) F.length).2 ++ [(performE (cmd0 (F ++ [(cmd0 l k, cmd1 l k, cmd2 l k, cmd3 l k)]) F.length) (cmd1 (F ++ [(cmd0 l k, cmd1 l k, cmd2 l k, cmd3 l k)]) F.length) (cmd2 (F ++ [(cmd0 l k, cmd1 l k, cmd2 l k, cmd3 l k)]) F.length) (cmd3 (F ++ [(cmd0 l k, cmd1 l k, cmd2 l k, cmd3 l k)]) F.length) (playK (F ++ [(cmd0 l k, cmd1 l k, cmd2 l k, cmd3 l k)]) F.length).1).2.2] := hcm
        rw [g0, g1, g2, g3, hp, ih1] at hcm
        rcases List.mem_append.1 hcm with h | h
        · exact ih2 c h
        · simp only [List.mem_singleton] at h
          rw [h]; exact hc
    · have e : filtK l (k + 1) = filtK l k := by show (if _ then _ else _) = _; rw [if_neg hc]
      rw [e]
      refine ⟨?_, ih2⟩
      rw [ih1]
      exact (perf_back hc).symm
theorem play_take (l : Cmds) (n : Nat) : ∀ k, k ≤ n → playK (l.take n) k = playK l k
  | 0, _ => rfl
  | k + 1, h => by
    have ih := play_take l n k (by omega)
    have h0 : cmd0 (l.take n) k = cmd0 l k ∧ cmd1 (l.take n) k = cmd1 l k ∧ cmd2 (l.take n) k = cmd2 l k ∧ cmd3 (l.take n) k = cmd3 l k := by
      have : k < n := by omega
      simp [cmd0, cmd1, cmd2, cmd3, List.getElem?_take_of_lt this]
    obtain ⟨a0, a1, a2, a3⟩ := h0
    show (_, _) = (_, _)
    rw [ih, a0, a1, a2, a3]
/-- How a key's version moves with a command on it. -/
theorem ver_step {kind : Int} {key : ByteArray} {ver : Int} {data : ByteArray} {E : Els} (h : EP E) :
    verB key (objsOf (performE kind key ver data E).1) (gonsOf (performE kind key ver data E).1) - verB key (objsOf E) (gonsOf E) = if (performE kind key ver data E).2.2 = 0 ∧ kind ≠ 3 then 1 else 0 := by
  have hep := perf_ep (kind := kind) (key := key) (ver := ver) (data := data) h
  rw [ver_look hep.inc, ver_look h.inc]
  by_cases h0 : (performE kind key ver data E).2.2 = 0
  · unfold performE at h0 ⊢
    cases hc : cmdB kind key ver data with
    | false => rw [hc] at h0; simp at h0
    | true =>
      obtain ⟨hk, hcase⟩ := cmd_true hc
      simp only [hc, if_true] at h0 ⊢
      rcases hcase with ⟨rfl, _, hd⟩ | ⟨rfl, hv, hd⟩ | ⟨rfl, hv⟩
      · simp only [if_true] at h0 ⊢
        rw [if_pos ⟨h0, by decide⟩]
        cases hl : lookE key E with
        | none =>
          by_cases hf : E.length = 1100
          · rw [create_room hl hf] at h0; simp at h0
          · rw [create_new hl hf, look_put_same]; simp [verE]
        | some e =>
          cases hg : e.2.2 with
          | false => rw [create_there hl hg] at h0; simp at h0
          | true =>
            by_cases hf : e.1 = 1000000
            · rw [create_full hl hg hf] at h0; simp at h0
            · rw [create_again hl hg hf, look_put_same]; simp [verE]; omega
      · simp only [show ((2 : Int) = 1) = False by decide, if_false, if_true] at h0 ⊢
        rw [if_pos ⟨h0, by decide⟩]
        cases hl : lookE key E with
        | none => rw [repl_none (by rw [hl]; rfl)] at h0; simp at h0
        | some e =>
          cases hg : e.2.2 with
          | true => rw [repl_none (by rw [hl]; simp [obIs, hg])] at h0; simp at h0
          | false =>
            by_cases hev : e.1 = ver
            · by_cases hf : ver = 1000000
              · rw [repl_full hl hg hev hf] at h0; simp at h0
              · rw [repl_ok hl hg hev hf, look_put_same]; simp [verE]; omega
            · rw [repl_ver hl hg hev] at h0; simp at h0
      · simp only [show ((3 : Int) = 1) = False by decide, show ((3 : Int) = 2) = False by decide, if_false] at h0 ⊢
        rw [if_neg (fun k => k.2 rfl)]
        cases hl : lookE key E with
        | none => rw [del_none (by rw [hl]; rfl)] at h0; simp at h0
        | some e =>
          cases hg : e.2.2 with
          | true => rw [del_none (by rw [hl]; simp [obIs, hg])] at h0; simp at h0
          | false =>
            by_cases hev : e.1 = ver
            · rw [del_ok hl hg hev, look_put_same]; simp [verE]; omega
            · rw [del_ver hl hg hev] at h0; simp at h0
  · rw [perf_back h0, if_neg (fun k => h0 k.1)]; omega
end Go.Proofs.YtblpebdjbenphaaDoor
