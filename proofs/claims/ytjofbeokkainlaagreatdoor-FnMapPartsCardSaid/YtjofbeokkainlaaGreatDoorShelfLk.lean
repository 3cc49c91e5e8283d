/- Where this program holds the functions and types of sync.Mutex. -/
import Derived.Test.YtjofbeokkainlaaGreatDoorProg
import Derived.Conc.MuLone
import Derived.KernelRfl
namespace Go.Proofs
abbrev Tryz.muLink : Go.Conc.Locks.MuLink := { lock := 125, unlock := 126, ilock := 152, iunlock := 153, lockSlow := 167, unlockSlow := 170, disable := 163, enable := 165, acquire := 166, relMerge := 168, cas32 := 164, add32 := 169, tMutex := 65, tIMutex := 63, tPMutex := 182, tPIMutex := 190, tPI32 := 192, tUP := 194, tNoCopy := 57, tU32 := 59 }
theorem Tryz.muLib : Go.Conc.Locks.MuLib Tryz.prog Tryz.muLink :=
  ⟨Tryz.func125, Tryz.func126, Tryz.func152, Tryz.func153, Tryz.func163, Tryz.func165, Tryz.func166, Tryz.func168, Tryz.func164, Tryz.func169, Tryz.underlying63, Tryz.runUnderlying63, Tryz.sizeOf63, Tryz.isAgg63, Tryz.zeroValue63, Tryz.underlying65, Tryz.runUnderlying65, Tryz.sizeOf65, Tryz.isAgg65, Tryz.zeroValue65, Tryz.underlying182, Tryz.runUnderlying182, Tryz.sizeOf182, Tryz.isAgg182, Tryz.zeroValue182, Tryz.underlying190, Tryz.runUnderlying190, Tryz.sizeOf190, Tryz.isAgg190, Tryz.zeroValue190, Tryz.underlying192, Tryz.runUnderlying192, Tryz.sizeOf192, Tryz.isAgg192, Tryz.zeroValue192, Tryz.underlying194, Tryz.runUnderlying194, Tryz.sizeOf194, Tryz.isAgg194, Tryz.zeroValue194, Tryz.underlying57, Tryz.runUnderlying57, Tryz.sizeOf57, Tryz.isAgg57, Tryz.zeroValue57, Tryz.underlying21, Tryz.runUnderlying21, Tryz.sizeOf21, Tryz.isAgg21, Tryz.zeroValue21, (by kernel_rfl)⟩
end Go.Proofs
