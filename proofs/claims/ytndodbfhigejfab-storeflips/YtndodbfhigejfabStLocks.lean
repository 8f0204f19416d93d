/-
  The numbers under which the dump holds the lock's functions and types, and that it holds them.
-/
import Derived.Test.YtndodbfhigejfabProg
import Derived.Conc.MuLone
import Derived.KernelRfl
namespace Go.Proofs.Ytndodbfhigejfab
abbrev muLink : Go.Conc.Locks.MuLink := { lock := 48, unlock := 49, ilock := 82, iunlock := 83, lockSlow := 98, unlockSlow := 101, disable := 94, enable := 96, acquire := 97, relMerge := 99, cas32 := 95, add32 := 100, tMutex := 91, tIMutex := 89, tPMutex := 127, tPIMutex := 136, tPI32 := 138, tUP := 140, tNoCopy := 87, tU32 := 28 }
theorem muLib : Go.Conc.Locks.MuLib Try.prog muLink :=
  ⟨Try.func48, Try.func49, Try.func82, Try.func83, Try.func94, Try.func96, Try.func97, Try.func99, Try.func95, Try.func100, Try.underlying89, Try.runUnderlying89, Try.sizeOf89, Try.isAgg89, Try.zeroValue89, Try.underlying91, Try.runUnderlying91, Try.sizeOf91, Try.isAgg91, Try.zeroValue91, Try.underlying127, Try.runUnderlying127, Try.sizeOf127, Try.isAgg127, Try.zeroValue127, Try.underlying136, Try.runUnderlying136, Try.sizeOf136, Try.isAgg136, Try.zeroValue136, Try.underlying138, Try.runUnderlying138, Try.sizeOf138, Try.isAgg138, Try.zeroValue138, Try.underlying140, Try.runUnderlying140, Try.sizeOf140, Try.isAgg140, Try.zeroValue140, Try.underlying87, Try.runUnderlying87, Try.sizeOf87, Try.isAgg87, Try.zeroValue87, Try.underlying21, Try.runUnderlying21, Try.sizeOf21, Try.isAgg21, Try.zeroValue21, (by kernel_rfl)⟩
end Go.Proofs.Ytndodbfhigejfab
