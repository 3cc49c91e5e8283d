/- Where this program holds the functions and types of sync.Mutex. -/
import Derived.Test.YtdjfihoempjjpaaDoorProg
import Derived.Conc.MuLone
import Derived.KernelRfl
namespace Go.Proofs
abbrev Tryd.muLink : Go.Conc.Locks.MuLink := { lock := 90, unlock := 91, ilock := 105, iunlock := 106, lockSlow := 118, unlockSlow := 121, disable := 114, enable := 116, acquire := 117, relMerge := 119, cas32 := 115, add32 := 120, tMutex := 130, tIMutex := 128, tPMutex := 148, tPIMutex := 165, tPI32 := 167, tUP := 169, tNoCopy := 125, tU32 := 126 }
theorem Tryd.muLib : Go.Conc.Locks.MuLib Tryd.prog Tryd.muLink :=
  ⟨Tryd.func90, Tryd.func91, Tryd.func105, Tryd.func106, Tryd.func114, Tryd.func116, Tryd.func117, Tryd.func119, Tryd.func115, Tryd.func120, Tryd.underlying128, Tryd.runUnderlying128, Tryd.sizeOf128, Tryd.isAgg128, Tryd.zeroValue128, Tryd.underlying130, Tryd.runUnderlying130, Tryd.sizeOf130, Tryd.isAgg130, Tryd.zeroValue130, Tryd.underlying148, Tryd.runUnderlying148, Tryd.sizeOf148, Tryd.isAgg148, Tryd.zeroValue148, Tryd.underlying165, Tryd.runUnderlying165, Tryd.sizeOf165, Tryd.isAgg165, Tryd.zeroValue165, Tryd.underlying167, Tryd.runUnderlying167, Tryd.sizeOf167, Tryd.isAgg167, Tryd.zeroValue167, Tryd.underlying169, Tryd.runUnderlying169, Tryd.sizeOf169, Tryd.isAgg169, Tryd.zeroValue169, Tryd.underlying125, Tryd.runUnderlying125, Tryd.sizeOf125, Tryd.isAgg125, Tryd.zeroValue125, Tryd.underlying21, Tryd.runUnderlying21, Tryd.sizeOf21, Tryd.isAgg21, Tryd.zeroValue21, (by kernel_rfl)⟩
end Go.Proofs
