/-
  The numbers under which the dump holds the lock's functions and types, and that it holds them.
-/
import Derived.Test.YtdcjhjpbkpiddaaProg
import Derived.Conc.MuLone
import Derived.KernelRfl
namespace Go.Proofs.Ytdcjhjpbkpiddaa
abbrev muLink : Go.Conc.Locks.MuLink := { lock := 17, unlock := 18, ilock := 35, iunlock := 36, lockSlow := 49, unlockSlow := 52, disable := 45, enable := 47, acquire := 48, relMerge := 50, cas32 := 46, add32 := 51, tMutex := 54, tIMutex := 52, tPMutex := 76, tPIMutex := 81, tPI32 := 83, tUP := 85, tNoCopy := 49, tU32 := 50 }
set_option maxRecDepth 100000 in
theorem muLib : Go.Conc.Locks.MuLib Try.prog muLink :=
  ⟨Try.func17, Try.func18, Try.func35, Try.func36, Try.func45, Try.func47, Try.func48, Try.func50, Try.func46, Try.func51, Try.underlying52, Try.runUnderlying52, Try.sizeOf52, Try.isAgg52, Try.zeroValue52, Try.underlying54, Try.runUnderlying54, Try.sizeOf54, Try.isAgg54, Try.zeroValue54, Try.underlying76, Try.runUnderlying76, Try.sizeOf76, Try.isAgg76, Try.zeroValue76, Try.underlying81, Try.runUnderlying81, Try.sizeOf81, Try.isAgg81, Try.zeroValue81, Try.underlying83, Try.runUnderlying83, Try.sizeOf83, Try.isAgg83, Try.zeroValue83, Try.underlying85, Try.runUnderlying85, Try.sizeOf85, Try.isAgg85, Try.zeroValue85, Try.underlying49, Try.runUnderlying49, Try.sizeOf49, Try.isAgg49, Try.zeroValue49, Try.underlying21, Try.runUnderlying21, Try.sizeOf21, Try.isAgg21, Try.zeroValue21, (by kernel_rfl)⟩
end Go.Proofs.Ytdcjhjpbkpiddaa
