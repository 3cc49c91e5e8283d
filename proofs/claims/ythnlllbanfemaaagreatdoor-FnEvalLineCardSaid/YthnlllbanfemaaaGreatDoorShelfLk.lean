/- Where this program holds the functions and types of sync.Mutex. -/
import Derived.Test.YthnlllbanfemaaaGreatDoorProg
import Derived.Conc.MuLone
import Derived.KernelRfl
namespace Go.Proofs
abbrev Tryz.muLink : Go.Conc.Locks.MuLink := { lock := 103, unlock := 104, ilock := 138, iunlock := 139, lockSlow := 161, unlockSlow := 164, disable := 157, enable := 159, acquire := 160, relMerge := 162, cas32 := 158, add32 := 163, tMutex := 78, tIMutex := 76, tPMutex := 168, tPIMutex := 180, tPI32 := 182, tUP := 184, tNoCopy := 70, tU32 := 72 }
theorem Tryz.muLib : Go.Conc.Locks.MuLib Tryz.prog Tryz.muLink :=
  ⟨Tryz.func103, Tryz.func104, Tryz.func138, Tryz.func139, Tryz.func157, Tryz.func159, Tryz.func160, Tryz.func162, Tryz.func158, Tryz.func163, Tryz.underlying76, Tryz.runUnderlying76, Tryz.sizeOf76, Tryz.isAgg76, Tryz.zeroValue76, Tryz.underlying78, Tryz.runUnderlying78, Tryz.sizeOf78, Tryz.isAgg78, Tryz.zeroValue78, Tryz.underlying168, Tryz.runUnderlying168, Tryz.sizeOf168, Tryz.isAgg168, Tryz.zeroValue168, Tryz.underlying180, Tryz.runUnderlying180, Tryz.sizeOf180, Tryz.isAgg180, Tryz.zeroValue180, Tryz.underlying182, Tryz.runUnderlying182, Tryz.sizeOf182, Tryz.isAgg182, Tryz.zeroValue182, Tryz.underlying184, Tryz.runUnderlying184, Tryz.sizeOf184, Tryz.isAgg184, Tryz.zeroValue184, Tryz.underlying70, Tryz.runUnderlying70, Tryz.sizeOf70, Tryz.isAgg70, Tryz.zeroValue70, Tryz.underlying21, Tryz.runUnderlying21, Tryz.sizeOf21, Tryz.isAgg21, Tryz.zeroValue21, (by kernel_rfl)⟩
end Go.Proofs
