
/- The step of an instruction, as the program makes it. Only new blocks are made. -/
import Derived.Test.YthnlllbanfemaaaGreatDoorStepC
namespace Go.Proofs.YthnlllbanfemaaaGreatDoor
open Go.ChangeShapes Go.WideShapes Go.ChangeAt Go.RowKit
set_option linter.unusedVariables false
set_option maxRecDepth 100000

def MadeStep (op : Nat) (n : Int) (s : ByteArray) (w : World) (e : Ending) (w' : World) : Prop := ∃ v, e = .returned v ∧ Below w.heap.size w w' ∧ StepV w.heap.size w'.heap.size w' op n s v
theorem ontexts_any (f : FuncId) (w : World) : Calls Tryz.prog 112 #[.func (.func f) #[] #[]] w fun e w' => e = .returned (.func (.func 142) #[] #[.pointer (some ⟨w.heap.size, 0, none⟩)]) ∧ w' = w.alloc (.cells #[.func (.func f) #[] #[]] 152) := by
  go_enter Tryz.func112, Tryz.ntmps112
  go_wp2
  go_ret
  exact ⟨rfl, rfl⟩
theorem onnums_any (f : FuncId) (w : World) : Calls Tryz.prog 119 #[.func (.func f) #[] #[]] w fun e w' => e = .returned (.func (.func 143) #[] #[.pointer (some ⟨w.heap.size, 0, none⟩)]) ∧ w' = w.alloc (.cells #[.func (.func f) #[] #[]] 104) := by
  go_enter Tryz.func119, Tryz.ntmps119
  go_wp2
  go_ret
  exact ⟨rfl, rfl⟩
theorem emitstep_any (op : Nat) (h : op = 13 ∨ op = 14) (w : World) : Calls Tryz.prog 126 #[.int .i64 op] w fun e w' => e = .returned (.func (.func (capFn op)) #[] #[]) ∧ w' = w := by
  rcases h with rfl | rfl
  · go_enter Tryz.func126, Tryz.ntmps126
    go_wp2
    go_ret
    exact ⟨rfl, rfl⟩
  · go_enter Tryz.func126, Tryz.ntmps126
    go_wp2
    go_ret
    exact ⟨rfl, rfl⟩

set_option maxHeartbeats 1000000 in
theorem stepof1 (n : Int) (s : ByteArray) (w : World) : Calls Tryz.prog 92 #[.agg #[.int .i64 1, .int .i64 n, .string s]] w (MadeStep 1 n s w) := by
  go_enter Tryz.func92, Tryz.ntmps92
  go_wp2
  go_ret
  exact ⟨_, rfl, below_alloc (Below.refl _ _) _, ⟨w.heap.size, ⟨Nat.le_refl _, by simp⟩, rfl, ot_row_new _ _ _⟩⟩

set_option maxHeartbeats 1000000 in
theorem stepof2 (n : Int) (s : ByteArray) (w : World) : Calls Tryz.prog 92 #[.agg #[.int .i64 2, .int .i64 n, .string s]] w (MadeStep 2 n s w) := by
  go_enter Tryz.func92, Tryz.ntmps92
  go_wp2
  go_ret
  exact ⟨_, rfl, below_alloc (Below.refl _ _) _, ⟨w.heap.size, ⟨Nat.le_refl _, by simp⟩, rfl, ot_row_new _ _ _⟩⟩

set_option maxHeartbeats 1000000 in
theorem stepof3 (n : Int) (s : ByteArray) (w : World) : Calls Tryz.prog 92 #[.agg #[.int .i64 3, .int .i64 n, .string s]] w (MadeStep 3 n s w) := by
  go_enter Tryz.func92, Tryz.ntmps92
  go_wp2
  go_ret
  exact ⟨_, rfl, below_alloc (Below.refl _ _) _, ⟨w.heap.size, ⟨Nat.le_refl _, by simp⟩, rfl, ot_row_new _ _ _⟩⟩

set_option maxHeartbeats 1000000 in
theorem stepof4 (n : Int) (s : ByteArray) (w : World) : Calls Tryz.prog 92 #[.agg #[.int .i64 4, .int .i64 n, .string s]] w (MadeStep 4 n s w) := by
  go_enter Tryz.func92, Tryz.ntmps92
  go_wp2_with fail
  refine (ontexts_any _ _).mono ?_
  rintro e w1 ⟨rfl, rfl⟩
  go_wp2
  go_ret
  exact ⟨_, rfl, below_alloc (below_alloc (Below.refl _ _) _) _, ⟨_, ⟨by simp, by simp⟩, rfl, by have := ot_row_new (w.alloc (.cells #[.int .i64 4, .int .i64 n, .string s] 52)) #[.func (.func (inFn 4)) #[] #[]] 152; simpa [inFn] using this⟩⟩

set_option maxHeartbeats 1000000 in
theorem stepof5 (n : Int) (s : ByteArray) (w : World) : Calls Tryz.prog 92 #[.agg #[.int .i64 5, .int .i64 n, .string s]] w (MadeStep 5 n s w) := by
  go_enter Tryz.func92, Tryz.ntmps92
  go_wp2
  go_ret
  exact ⟨_, rfl, below_alloc (Below.refl _ _) _, rfl⟩

set_option maxHeartbeats 1000000 in
theorem stepof6 (n : Int) (s : ByteArray) (w : World) : Calls Tryz.prog 92 #[.agg #[.int .i64 6, .int .i64 n, .string s]] w (MadeStep 6 n s w) := by
  go_enter Tryz.func92, Tryz.ntmps92
  go_wp2
  go_ret
  exact ⟨_, rfl, below_alloc (Below.refl _ _) _, rfl⟩

set_option maxHeartbeats 1000000 in
theorem stepof7 (n : Int) (s : ByteArray) (w : World) : Calls Tryz.prog 92 #[.agg #[.int .i64 7, .int .i64 n, .string s]] w (MadeStep 7 n s w) := by
  go_enter Tryz.func92, Tryz.ntmps92
  go_wp2
  go_ret
  exact ⟨_, rfl, below_alloc (Below.refl _ _) _, rfl⟩

set_option maxHeartbeats 1000000 in
theorem stepof8 (n : Int) (s : ByteArray) (w : World) : Calls Tryz.prog 92 #[.agg #[.int .i64 8, .int .i64 n, .string s]] w (MadeStep 8 n s w) := by
  go_enter Tryz.func92, Tryz.ntmps92
  go_wp2_with fail
  refine (onnums_any _ _).mono ?_
  rintro e w1 ⟨rfl, rfl⟩
  go_wp2
  go_ret
  exact ⟨_, rfl, below_alloc (below_alloc (Below.refl _ _) _) _, ⟨_, ⟨by simp, by simp⟩, rfl, by have := ot_row_new (w.alloc (.cells #[.int .i64 8, .int .i64 n, .string s] 52)) #[.func (.func (inFn 8)) #[] #[]] 104; simpa [inFn] using this⟩⟩

set_option maxHeartbeats 1000000 in
theorem stepof9 (n : Int) (s : ByteArray) (w : World) : Calls Tryz.prog 92 #[.agg #[.int .i64 9, .int .i64 n, .string s]] w (MadeStep 9 n s w) := by
  go_enter Tryz.func92, Tryz.ntmps92
  go_wp2_with fail
  refine (onnums_any _ _).mono ?_
  rintro e w1 ⟨rfl, rfl⟩
  go_wp2
  go_ret
  exact ⟨_, rfl, below_alloc (below_alloc (Below.refl _ _) _) _, ⟨_, ⟨by simp, by simp⟩, rfl, by have := ot_row_new (w.alloc (.cells #[.int .i64 9, .int .i64 n, .string s] 52)) #[.func (.func (inFn 9)) #[] #[]] 104; simpa [inFn] using this⟩⟩

set_option maxHeartbeats 1000000 in
theorem stepof10 (n : Int) (s : ByteArray) (w : World) : Calls Tryz.prog 92 #[.agg #[.int .i64 10, .int .i64 n, .string s]] w (MadeStep 10 n s w) := by
  go_enter Tryz.func92, Tryz.ntmps92
  go_wp2_with fail
  refine (onnums_any _ _).mono ?_
  rintro e w1 ⟨rfl, rfl⟩
  go_wp2
  go_ret
  exact ⟨_, rfl, below_alloc (below_alloc (Below.refl _ _) _) _, ⟨_, ⟨by simp, by simp⟩, rfl, by have := ot_row_new (w.alloc (.cells #[.int .i64 10, .int .i64 n, .string s] 52)) #[.func (.func (inFn 10)) #[] #[]] 104; simpa [inFn] using this⟩⟩

set_option maxHeartbeats 1000000 in
theorem stepof11 (n : Int) (s : ByteArray) (w : World) : Calls Tryz.prog 92 #[.agg #[.int .i64 11, .int .i64 n, .string s]] w (MadeStep 11 n s w) := by
  go_enter Tryz.func92, Tryz.ntmps92
  go_wp2_with fail
  refine (onnums_any _ _).mono ?_
  rintro e w1 ⟨rfl, rfl⟩
  go_wp2
  go_ret
  exact ⟨_, rfl, below_alloc (below_alloc (Below.refl _ _) _) _, ⟨_, ⟨by simp, by simp⟩, rfl, by have := ot_row_new (w.alloc (.cells #[.int .i64 11, .int .i64 n, .string s] 52)) #[.func (.func (inFn 11)) #[] #[]] 104; simpa [inFn] using this⟩⟩

set_option maxHeartbeats 1000000 in
theorem stepof12 (n : Int) (s : ByteArray) (w : World) : Calls Tryz.prog 92 #[.agg #[.int .i64 12, .int .i64 n, .string s]] w (MadeStep 12 n s w) := by
  go_enter Tryz.func92, Tryz.ntmps92
  go_wp2_with fail
  refine (ontexts_any _ _).mono ?_
  rintro e w1 ⟨rfl, rfl⟩
  go_wp2
  go_ret
  exact ⟨_, rfl, below_alloc (below_alloc (Below.refl _ _) _) _, ⟨_, ⟨by simp, by simp⟩, rfl, by have := ot_row_new (w.alloc (.cells #[.int .i64 12, .int .i64 n, .string s] 52)) #[.func (.func (inFn 12)) #[] #[]] 152; simpa [inFn] using this⟩⟩

set_option maxHeartbeats 1000000 in
theorem stepof13 (n : Int) (s : ByteArray) (w : World) : Calls Tryz.prog 92 #[.agg #[.int .i64 13, .int .i64 n, .string s]] w (MadeStep 13 n s w) := by
  go_enter Tryz.func92, Tryz.ntmps92
  go_wp2_with fail
  refine (emitstep_any 13 (by decide) _).mono ?_
  rintro e w1 ⟨rfl, rfl⟩
  go_wp2
  go_ret
  exact ⟨_, rfl, below_alloc (Below.refl _ _) _, rfl⟩

set_option maxHeartbeats 1000000 in
theorem stepof14 (n : Int) (s : ByteArray) (w : World) : Calls Tryz.prog 92 #[.agg #[.int .i64 14, .int .i64 n, .string s]] w (MadeStep 14 n s w) := by
  go_enter Tryz.func92, Tryz.ntmps92
  go_wp2_with fail
  refine (emitstep_any 14 (by decide) _).mono ?_
  rintro e w1 ⟨rfl, rfl⟩
  go_wp2
  go_ret
  exact ⟨_, rfl, below_alloc (Below.refl _ _) _, rfl⟩

theorem stepof_any (op : Nat) (n : Int) (s : ByteArray) (w : World) (h1 : 1 ≤ op) (h2 : op ≤ 14) : Calls Tryz.prog 92 #[.agg #[.int .i64 op, .int .i64 n, .string s]] w (MadeStep op n s w) := by
  obtain rfl | rfl | rfl | rfl | rfl | rfl | rfl | rfl | rfl | rfl | rfl | rfl | rfl | rfl : op = 1 ∨ op = 2 ∨ op = 3 ∨ op = 4 ∨ op = 5 ∨ op = 6 ∨ op = 7 ∨ op = 8 ∨ op = 9 ∨ op = 10 ∨ op = 11 ∨ op = 12 ∨ op = 13 ∨ op = 14 := by omega
  · exact stepof1 n s w
  · exact stepof2 n s w
  · exact stepof3 n s w
  · exact stepof4 n s w
  · exact stepof5 n s w
  · exact stepof6 n s w
  · exact stepof7 n s w
  · exact stepof8 n s w
  · exact stepof9 n s w
  · exact stepof10 n s w
  · exact stepof11 n s w
  · exact stepof12 n s w
  · exact stepof13 n s w
  · exact stepof14 n s w
end Go.Proofs.YthnlllbanfemaaaGreatDoor
