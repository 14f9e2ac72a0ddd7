/- Contracts of the library's functions, laid at this program: tables of numbers, each fact the program's own or the kernel's comparison. -/
import Derived.Shelf.SlSortCmp.Insertion1
import Derived.Test.YtjeebcnjdhlcfaaDoorChecked
namespace Go.Proofs.YtjeebcnjdhlcfaaDoor
open Go.Shelf
def Tryd.insInts_ren : Go.Shelf.Ren := ⟨fun | 20 => 35 | n => n, fun | 24 => 3 | 22 => 28 | 3 => 3 | 25 => 41 | 4 => 4 | 0 => 0 | n => n, fun | n => n⟩
theorem Tryd.insInts : Go.Proofs.SlLaysF.n20 Tryd.prog Tryd.insInts_ren := {
  mixed := by kernel_rfl
  f20 := ⟨Tryd.f35.name, by decide, Tryd.func35.trans (congrArg some (by kernel_rfl))⟩
  t0 := Tryd.underlying0
  a0 := Tryd.isAgg0
  z0 := Tryd.sizeOf0
  v0 := Tryd.zeroValue0
  t3 := Tryd.underlying3
  a3 := Tryd.isAgg3
  z3 := Tryd.sizeOf3
  v3 := Tryd.zeroValue3
  t4 := Tryd.underlying4
  a4 := Tryd.isAgg4
  z4 := Tryd.sizeOf4
  v4 := Tryd.zeroValue4
  t22 := Tryd.underlying28
  a22 := Tryd.isAgg28
  z22 := Tryd.sizeOf28
  v22 := Tryd.zeroValue28
  a24 := Tryd.isAgg3
  z24 := Tryd.sizeOf3
  t25 := Tryd.underlying41
  a25 := Tryd.isAgg41
  z25 := Tryd.sizeOf41
  v25 := Tryd.zeroValue41 }
end Go.Proofs.YtjeebcnjdhlcfaaDoor
