/- Where this program holds the functions and types of sync.Mutex. -/
import Derived.Test.YtblpebdjbenphaaGreatDoorProg
import Derived.Conc.MuLone
import Derived.KernelRfl
namespace Go.Proofs
abbrev Tryz.muLink : Go.Conc.Locks.MuLink := { lock := 57, unlock := 58, ilock := 70, iunlock := 71, lockSlow := 86, unlockSlow := 89, disable := 82, enable := 84, acquire := 85, relMerge := 87, cas32 := 83, add32 := 88, tMutex := 101, tIMutex := 99, tPMutex := 119, tPIMutex := 141, tPI32 := 143, tUP := 145, tNoCopy := 96, tU32 := 97 }
theorem Tryz.muLib : Go.Conc.Locks.MuLib Tryz.prog Tryz.muLink :=
  ⟨Tryz.func57, Tryz.func58, Tryz.func70, Tryz.func71, Tryz.func82, Tryz.func84, Tryz.func85, Tryz.func87, Tryz.func83, Tryz.func88, Tryz.underlying99, Tryz.runUnderlying99, Tryz.sizeOf99, Tryz.isAgg99, Tryz.zeroValue99, Tryz.underlying101, Tryz.runUnderlying101, Tryz.sizeOf101, Tryz.isAgg101, Tryz.zeroValue101, Tryz.underlying119, Tryz.runUnderlying119, Tryz.sizeOf119, Tryz.isAgg119, Tryz.zeroValue119, Tryz.underlying141, Tryz.runUnderlying141, Tryz.sizeOf141, Tryz.isAgg141, Tryz.zeroValue141, Tryz.underlying143, Tryz.runUnderlying143, Tryz.sizeOf143, Tryz.isAgg143, Tryz.zeroValue143, Tryz.underlying145, Tryz.runUnderlying145, Tryz.sizeOf145, Tryz.isAgg145, Tryz.zeroValue145, Tryz.underlying96, Tryz.runUnderlying96, Tryz.sizeOf96, Tryz.isAgg96, Tryz.zeroValue96, Tryz.underlying21, Tryz.runUnderlying21, Tryz.sizeOf21, Tryz.isAgg21, Tryz.zeroValue21, (by kernel_rfl)⟩
end Go.Proofs
