
/- The model's Create, Put and Del on any store that may be read. Only new blocks are made. -/
import Derived.Test.YtblpebdjbenphaaL7C
import Derived.Test.YtblpebdjbenphaaL7P
import Derived.Test.YtblpebdjbenphaaL7D
import Derived.Test.YtblpebdjbenphaaStoreOkS
namespace Go.Proofs.Ytblpebdjbenphaa
open Go.ChangeShapes Go.WideShapes Go.ChangeAt Go.RowKit
set_option linter.unusedVariables false
set_option maxRecDepth 100000

theorem sizeKey {s : ByteArray} (h : keyB s = true) : s.size ≤ maxLen := by have := key_len h; unfold maxLen; omega
/-- What Create, Put and Del come to: R. -/
def IsCreate (l : Objs) (m : Gones) (key data : ByteArray) (R : Els × Int × Int) : Prop := (StoP l m ∧ keyB key = true ∧ data.size ≤ 30000 → R = createE key data (elsOf l m)) ∧ (¬ (StoP l m ∧ keyB key = true ∧ data.size ≤ 30000) → R = ([], 0, 1))
def IsPut (l : Objs) (m : Gones) (key : ByteArray) (ver : Int) (data : ByteArray) (R : Els × Int × Int) : Prop := (StoP l m ∧ keyB key = true ∧ inB ver 1 1000000 = true ∧ data.size ≤ 30000 → R = replE key ver data (elsOf l m)) ∧ (¬ (StoP l m ∧ keyB key = true ∧ inB ver 1 1000000 = true ∧ data.size ≤ 30000) → R = ([], 0, 1))
def IsDel (l : Objs) (m : Gones) (key : ByteArray) (ver : Int) (R : Els × Int × Int) : Prop := (StoP l m ∧ keyB key = true ∧ inB ver 1 1000000 = true → R = delE key ver (elsOf l m)) ∧ (¬ (StoP l m ∧ keyB key = true ∧ inB ver 1 1000000 = true) → R = ([], 0, 1))
theorem isCreate_some (l : Objs) (m : Gones) (key data : ByteArray) : ∃ R, IsCreate l m key data R := by
  by_cases h : StoP l m ∧ keyB key = true ∧ data.size ≤ 30000
  · exact ⟨_, fun _ => rfl, fun k => absurd h k⟩
  · exact ⟨_, fun k => absurd k h, fun _ => rfl⟩
theorem isPut_some (l : Objs) (m : Gones) (key : ByteArray) (ver : Int) (data : ByteArray) : ∃ R, IsPut l m key ver data R := by
  by_cases h : StoP l m ∧ keyB key = true ∧ inB ver 1 1000000 = true ∧ data.size ≤ 30000
  · exact ⟨_, fun _ => rfl, fun k => absurd h k⟩
  · exact ⟨_, fun k => absurd k h, fun _ => rfl⟩
theorem isDel_some (l : Objs) (m : Gones) (key : ByteArray) (ver : Int) : ∃ R, IsDel l m key ver R := by
  by_cases h : StoP l m ∧ keyB key = true ∧ inB ver 1 1000000 = true
  · exact ⟨_, fun _ => rfl, fun k => absurd h k⟩
  · exact ⟨_, fun k => absurd k h, fun _ => rfl⟩
theorem StoI.els {w : World} {a g : Option Addr} {la ca lg cg : Nat} {l : Objs} {m : Gones} (h : StoI w a la ca l g lg cg m) : StoI w a la ca (objsOf (elsOf l m)) g lg cg (gonsOf (elsOf l m)) := by rw [els_back.1, els_back.2]; exact h
end Go.Proofs.Ytblpebdjbenphaa
