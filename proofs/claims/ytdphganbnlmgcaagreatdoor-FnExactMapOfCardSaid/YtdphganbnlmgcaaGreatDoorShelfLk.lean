/- Where this program holds the functions and types of sync.Mutex. -/
import Derived.Test.YtdphganbnlmgcaaGreatDoorProg
import Derived.Conc.MuLone
import Derived.KernelRfl
namespace Go.Proofs
abbrev Tryz.muLink : Go.Conc.Locks.MuLink := { lock := 116, unlock := 117, ilock := 149, iunlock := 150, lockSlow := 165, unlockSlow := 168, disable := 161, enable := 163, acquire := 164, relMerge := 166, cas32 := 162, add32 := 167, tMutex := 67, tIMutex := 65, tPMutex := 186, tPIMutex := 197, tPI32 := 199, tUP := 201, tNoCopy := 59, tU32 := 61 }
theorem Tryz.muLib : Go.Conc.Locks.MuLib Tryz.prog Tryz.muLink :=
  ⟨Tryz.func116, Tryz.func117, Tryz.func149, Tryz.func150, Tryz.func161, Tryz.func163, Tryz.func164, Tryz.func166, Tryz.func162, Tryz.func167, Tryz.underlying65, Tryz.runUnderlying65, Tryz.sizeOf65, Tryz.isAgg65, Tryz.zeroValue65, Tryz.underlying67, Tryz.runUnderlying67, Tryz.sizeOf67, Tryz.isAgg67, Tryz.zeroValue67, Tryz.underlying186, Tryz.runUnderlying186, Tryz.sizeOf186, Tryz.isAgg186, Tryz.zeroValue186, Tryz.underlying197, Tryz.runUnderlying197, Tryz.sizeOf197, Tryz.isAgg197, Tryz.zeroValue197, Tryz.underlying199, Tryz.runUnderlying199, Tryz.sizeOf199, Tryz.isAgg199, Tryz.zeroValue199, Tryz.underlying201, Tryz.runUnderlying201, Tryz.sizeOf201, Tryz.isAgg201, Tryz.zeroValue201, Tryz.underlying59, Tryz.runUnderlying59, Tryz.sizeOf59, Tryz.isAgg59, Tryz.zeroValue59, Tryz.underlying21, Tryz.runUnderlying21, Tryz.sizeOf21, Tryz.isAgg21, Tryz.zeroValue21, (by kernel_rfl)⟩
end Go.Proofs
