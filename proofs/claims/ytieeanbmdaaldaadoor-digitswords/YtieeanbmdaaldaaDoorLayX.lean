/-
  The library's functions that the shelf's contracts speak of, by their numbers here.
-/
import Derived.Shelf.LaysM
import Derived.Test.YtieeanbmdaaldaaDoorProg
namespace Go.Proofs.YtieeanbmdaaldaaDoor
set_option maxRecDepth 100000
def lX_ren : Go.Shelf.Ren := ⟨fun | 137 => 38 | 217 => 55 | 266 => 68 | n => n, fun | 9 => 9 | 5 => 5 | 3 => 3 | n => n, fun | n => n⟩
theorem lX : Go.Proofs.Lays.n137 Tryd.prog lX_ren where
  mixed := by kernel_rfl
  f137 := Tryd.func38.trans (congrArg some (by kernel_rfl))
  f217 := Tryd.func55.trans (congrArg some (by kernel_rfl))
  f266 := Tryd.func68.trans (congrArg some (by kernel_rfl))
  t3 := Tryd.underlying3
  a3 := Tryd.isAgg3
  z3 := Tryd.sizeOf3
  v3 := Tryd.zeroValue3
  t5 := Tryd.underlying5
  a5 := Tryd.isAgg5
  z5 := Tryd.sizeOf5
  v5 := Tryd.zeroValue5
  t9 := Tryd.underlying9
  a9 := Tryd.isAgg9
  z9 := Tryd.sizeOf9
  v9 := Tryd.zeroValue9
end Go.Proofs.YtieeanbmdaaldaaDoor
