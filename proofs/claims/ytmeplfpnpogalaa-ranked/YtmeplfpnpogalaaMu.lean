import Derived.Test.YtmeplfpnpogalaaRows
import Derived.Conc.RwLib
import Derived.Conc.MuData
import Derived.KernelRfl
namespace Go.Proofs.Ytmeplfpnpogalaa
abbrev Try.muLink : Go.Conc.Locks.MuLink := { lock := 44, unlock := 45, ilock := 78, iunlock := 79, lockSlow := 111, unlockSlow := 113, disable := 90, enable := 91, acquire := 103, relMerge := 89, cas32 := 110, add32 := 112, tMutex := 101, tIMutex := 99, tPMutex := 141, tPIMutex := 173, tPI32 := 175, tUP := 158, tNoCopy := 96, tU32 := 97 }
theorem Try.muLib : Go.Conc.Locks.MuLib Try.prog Try.muLink :=
  ⟨Try.func44, Try.func45, Try.func78, Try.func79, Try.func90, Try.func91, Try.func103, Try.func89, Try.func110, Try.func112,
   Try.underlying99, Try.runUnderlying99, Try.sizeOf99, Try.isAgg99, Try.zeroValue99,
   Try.underlying101, Try.runUnderlying101, Try.sizeOf101, Try.isAgg101, Try.zeroValue101,
   Try.underlying141, Try.runUnderlying141, Try.sizeOf141, Try.isAgg141, Try.zeroValue141,
   Try.underlying173, Try.runUnderlying173, Try.sizeOf173, Try.isAgg173, Try.zeroValue173,
   Try.underlying175, Try.runUnderlying175, Try.sizeOf175, Try.isAgg175, Try.zeroValue175,
   Try.underlying158, Try.runUnderlying158, Try.sizeOf158, Try.isAgg158, Try.zeroValue158,
   Try.underlying96, Try.runUnderlying96, Try.sizeOf96, Try.isAgg96, Try.zeroValue96,
   Try.underlying21, Try.runUnderlying21, Try.sizeOf21, Try.isAgg21, Try.zeroValue21, (by kernel_rfl)⟩
end Go.Proofs.Ytmeplfpnpogalaa
