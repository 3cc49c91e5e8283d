/- Where this program holds the functions and types of sync.Mutex. -/
import Derived.Test.YtblpebdjbenphaaDoorProg
import Derived.Conc.MuLone
import Derived.KernelRfl
namespace Go.Proofs
abbrev Tryd.muLink : Go.Conc.Locks.MuLink := { lock := 58, unlock := 59, ilock := 71, iunlock := 72, lockSlow := 81, unlockSlow := 84, disable := 77, enable := 79, acquire := 80, relMerge := 82, cas32 := 78, add32 := 83, tMutex := 97, tIMutex := 95, tPMutex := 112, tPIMutex := 129, tPI32 := 131, tUP := 133, tNoCopy := 92, tU32 := 93 }
theorem Tryd.muLib : Go.Conc.Locks.MuLib Tryd.prog Tryd.muLink :=
  ⟨Tryd.func58, Tryd.func59, Tryd.func71, Tryd.func72, Tryd.func77, Tryd.func79, Tryd.func80, Tryd.func82, Tryd.func78, Tryd.func83, Tryd.underlying95, Tryd.runUnderlying95, Tryd.sizeOf95, Tryd.isAgg95, Tryd.zeroValue95, Tryd.underlying97, Tryd.runUnderlying97, Tryd.sizeOf97, Tryd.isAgg97, Tryd.zeroValue97, Tryd.underlying112, Tryd.runUnderlying112, Tryd.sizeOf112, Tryd.isAgg112, Tryd.zeroValue112, Tryd.underlying129, Tryd.runUnderlying129, Tryd.sizeOf129, Tryd.isAgg129, Tryd.zeroValue129, Tryd.underlying131, Tryd.runUnderlying131, Tryd.sizeOf131, Tryd.isAgg131, Tryd.zeroValue131, Tryd.underlying133, Tryd.runUnderlying133, Tryd.sizeOf133, Tryd.isAgg133, Tryd.zeroValue133, Tryd.underlying92, Tryd.runUnderlying92, Tryd.sizeOf92, Tryd.isAgg92, Tryd.zeroValue92, Tryd.underlying21, Tryd.runUnderlying21, Tryd.sizeOf21, Tryd.isAgg21, Tryd.zeroValue21, (by kernel_rfl)⟩
end Go.Proofs
