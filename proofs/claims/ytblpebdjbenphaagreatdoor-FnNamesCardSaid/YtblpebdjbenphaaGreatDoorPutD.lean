
/- The program's put and del on its store in use. -/
import Derived.Test.YtblpebdjbenphaaGreatDoorMatch
namespace Go.Proofs.YtblpebdjbenphaaGreatDoor
open Go.ChangeShapes Go.WideShapes Go.ChangeAt Go.RowKit
set_option linter.unusedVariables false
set_option maxRecDepth 100000

def MadeC (base B b n : Nat) (q : Option Addr) (lk : Int) (E' : Els) (ret : Value) (w : World) (e : Ending) (w' : World) : Prop :=
  e = .returned ret ∧ Turn B b q w w' ∧ ∃ n' q' cp', n' ≤ n + 1 ∧ ObAt base w' B b n' q' cp' lk E'
theorem ObAt.base {base : Nat} {w : World} {B b n : Nat} {q : Option Addr} {cp : Nat} {lk : Int} {E : Els} (h : ObAt base w B b n q cp lk E) : base ≤ w.heap.size := Nat.le_of_lt (Nat.lt_of_le_of_lt h.geB h.row.lt)
theorem ObAt.put {base : Nat} {w w5 : World} {B b n : Nat} {q : Option Addr} {cp : Nat} {lk : Int} {E : Els} {key : ByteArray} {e : ElV} (h : ObAt base w B b n q cp lk E) (hE : IncT (ekeys E)) (hl : lookE key E ≠ none) (hm : MapIs w5 b (n + 1) (fun k => if sameT key k = true then some e else lookE k E)) (hg : w.grownBy w5 (some b)) : ObAt base w5 B b (n + 1) q cp lk (putE key e E) :=
  ⟨by rw [putE_len_old hE hl]; exact h.row.grown hg (fun he => map_ne_row h.map h.row (Option.some.inj he)), hm.as (fun s => (lookE_put E).symm) (Nat.le_refl _),
   by rw [putE_len_old hE hl, ekeys_old hE hl]; exact own_grown h.keys hg (fun x hx he => map_ne_own h.map h.keys x hx (Option.some.inj he)), h.geB, h.geb⟩
theorem look_some {r : Option ElV} {e : ElV} (h : r = some e) : r ≠ none := by rw [h]; simp
theorem Low.below {base : Nat} {A : ErrA} {w w1 : World} (h : Low base A w) (hw : base ≤ w.heap.size) (hB : Below w.heap.size w w1) : Low base A w1 := h.keep (hB.mono hw)

set_option maxHeartbeats 4000000 in
theorem pput_any (base B b n cp : Nat) (q : Option Addr) (lk : Int) (E : Els) (A : ErrA) (key : ByteArray) (ver : Int) (data : ByteArray) (w : World) (h : ObAt base w B b n q cp lk E) (hA : Low base A w) (hE : EP E) (hk : key.size ≤ maxLen) (hn : n < 1000000) (hv1 : 1 ≤ ver) (hv2 : ver ≤ 1000000) :
    Calls Tryz.prog 60 #[.pointer (some ⟨B, 0, none⟩), .string key, .int .i64 ver, .string data] w (MadeC base B b n q lk (replE key ver data E).1 (.tuple #[.int .i64 (replE key ver data E).2.1, codeV A (replE key ver data E).2.2]) w) := by
  have hb := h.base
  have HO := Lib.hid h
  have HA := Lib.hid hA
  have HE := Lib.hid hE.inc
  have HK := Lib.hid hk
  clear h hA hE hk
  go_enter Tryz.func60, Tryz.ntmps60
  go_wp2_with fail
  refine (match_any base B b n cp q lk E A key ver _ HO.out HA.out HK.out).mono ?_
  rintro e w1 ⟨rfl, hB⟩
  have HT1 := Lib.hid ((Turn.refl B b q w).below hB)
  have HO1 := Lib.hid (HO.out.keep hB)
  have HA1 := Lib.hid (HA.out.below hb hB)
  clear hB HA hb
  have e2 := HA1.out.tab.c2
  unfold errV at e2
  obtain ⟨cB0, cB2, cB3⟩ := HO1.out.cells
  have HFAIL := Lib.hid (fun c : Int => fun (hc : replE key ver data E = (E, 0, c)) => (show ∀ k, MadeC base B b n q lk (replE key ver data E).1 (.tuple #[.int .i64 (replE key ver data E).2.1, codeV A (replE key ver data E).2.2]) w (.returned (.tuple #[.int .i64 0, codeV A c])) (w1.drewN k) from fun k => by
    rw [hc]; exact ⟨rfl, HT1.out.below (below_drewN (Below.refl _ _) k), n, q, cp, Nat.le_succ _, HO1.out.keep (below_drewN (Below.refl _ _) k)⟩))
  cases hbO : obIs (lookE key E) with
  | false =>
    have hc : matchC (lookE key E) ver = 4 := by
      cases hl : lookE key E with
      | none => rfl
      | some e => rw [hl] at hbO; simp only [obIs, Bool.not_eq_false'] at hbO; simp [matchC, hbO]
    rw [hc, show codeV A 4 = .iface 171 (.pointer (some A.missing)) from rfl]
    have HF := Lib.hid (HFAIL.out 4 (repl_none hbO) 0)
    clear HFAIL hc
    go_wp2
    go_ret2
    exact HF.out
  | true =>
    cases hl : lookE key E with
    | none => rw [hl] at hbO; cases hbO
    | some e =>
      obtain ⟨v, d, g⟩ := e
      rw [hl] at hbO
      simp only [obIs, Bool.not_eq_true'] at hbO
      subst hbO
      by_cases hv : v = ver
      · subst hv
        rw [show matchC (some (v, d, false)) v = 0 by simp [matchC], show codeV A 0 = .nilIface from rfl]
        by_cases hf : v = 1000000
        · have HF := Lib.hid (HFAIL.out 3 (repl_full hl rfl rfl hf))
          have hfb : (v == 1000000) = true := by simp [hf]
          clear HFAIL
          go_wp2_with fail
          go_quiet (fail)
          go_wp2
          go_ret2
          exact HF.out _
        · have hfb : (v == 1000000) = false := by simp [hf]
          have HR := Lib.hid (repl_ok (key := key) (data := data) hl rfl rfl hf)
          have HL := Lib.hid (look_some hl)
          clear HFAIL hl
          go_wp2_with (at_mapUpdate; refine wpList_store_el _ rfl _ _ _ rfl b n _ rfl HO1.out.map (by unfold maxLen; omega) key rfl HK.out (v + 1, data, false) rfl ?_; intro w5 hm5 hg5; have HO5 := Lib.hid (HO1.out.put HE.out HL.out hm5 hg5); have HT5 := Lib.hid (HT1.out.grownMap hg5); clear hm5 hg5)
          go_ret2
          rw [HR.out]
          exact ⟨rfl, HT5.out, n + 1, q, cp, Nat.le_refl _, HO5.out⟩
      · rw [show matchC (some (v, d, false)) ver = 5 by simp [matchC, hv], show codeV A 5 = .iface 171 (.pointer (some A.ver)) from rfl]
        have HF := Lib.hid (HFAIL.out 5 (repl_ver hl rfl hv) 0)
        clear HFAIL hl
        go_wp2
        go_ret2
        exact HF.out

set_option maxHeartbeats 4000000 in
theorem pdel_any (base B b n cp : Nat) (q : Option Addr) (lk : Int) (E : Els) (A : ErrA) (key : ByteArray) (ver : Int) (w : World) (h : ObAt base w B b n q cp lk E) (hA : Low base A w) (hE : EP E) (hk : key.size ≤ maxLen) (hn : n < 1000000) :
    Calls Tryz.prog 61 #[.pointer (some ⟨B, 0, none⟩), .string key, .int .i64 ver] w (MadeC base B b n q lk (delE key ver E).1 (codeV A (delE key ver E).2.2) w) := by
  have hb := h.base
  have HO := Lib.hid h
  have HA := Lib.hid hA
  have HE := Lib.hid hE.inc
  have HK := Lib.hid hk
  clear h hA hE hk
  go_enter Tryz.func61, Tryz.ntmps61
  go_wp2_with fail
  refine (match_any base B b n cp q lk E A key ver _ HO.out HA.out HK.out).mono ?_
  rintro e w1 ⟨rfl, hB⟩
  have HT1 := Lib.hid ((Turn.refl B b q w).below hB)
  have HO1 := Lib.hid (HO.out.keep hB)
  clear hB HA hb
  obtain ⟨cB0, cB2, cB3⟩ := HO1.out.cells
  have HFAIL := Lib.hid (fun c : Int => fun (hc : delE key ver E = (E, 0, c)) => (show MadeC base B b n q lk (delE key ver E).1 (codeV A (delE key ver E).2.2) w (.returned (codeV A c)) w1 from by
    rw [hc]; exact ⟨rfl, HT1.out, n, q, cp, Nat.le_succ _, HO1.out⟩))
  cases hbO : obIs (lookE key E) with
  | false =>
    have hc : matchC (lookE key E) ver = 4 := by
      cases hl : lookE key E with
      | none => rfl
      | some e => rw [hl] at hbO; simp only [obIs, Bool.not_eq_false'] at hbO; simp [matchC, hbO]
    rw [hc, show codeV A 4 = .iface 171 (.pointer (some A.missing)) from rfl]
    have HF := Lib.hid (HFAIL.out 4 (del_none hbO))
    clear HFAIL hc
    go_wp2
    go_ret
    exact HF.out
  | true =>
    cases hl : lookE key E with
    | none => rw [hl] at hbO; cases hbO
    | some e =>
      obtain ⟨v, d, g⟩ := e
      rw [hl] at hbO
      simp only [obIs, Bool.not_eq_true'] at hbO
      subst hbO
      by_cases hv : v = ver
      · subst hv
        rw [show matchC (some (v, d, false)) v = 0 by simp [matchC], show codeV A 0 = .nilIface from rfl]
        have HR := Lib.hid (del_ok (key := key) hl rfl rfl)
        have HL := Lib.hid (look_some hl)
        clear HFAIL hl
        go_wp2_with (at_mapUpdate; refine wpList_store_el _ rfl _ _ _ rfl b n _ rfl HO1.out.map (by unfold maxLen; omega) key rfl HK.out (v, ⟨#[]⟩, true) rfl ?_; intro w5 hm5 hg5; have HO5 := Lib.hid (HO1.out.put HE.out HL.out hm5 hg5); have HT5 := Lib.hid (HT1.out.grownMap hg5); clear hm5 hg5)
        go_ret
        rw [HR.out]
        exact ⟨rfl, HT5.out, n + 1, q, cp, Nat.le_refl _, HO5.out⟩
      · rw [show matchC (some (v, d, false)) ver = 5 by simp [matchC, hv], show codeV A 5 = .iface 171 (.pointer (some A.ver)) from rfl]
        have HF := Lib.hid (HFAIL.out 5 (del_ver hl rfl hv))
        clear HFAIL hl
        go_wp2
        go_ret
        exact HF.out
end Go.Proofs.YtblpebdjbenphaaGreatDoor
