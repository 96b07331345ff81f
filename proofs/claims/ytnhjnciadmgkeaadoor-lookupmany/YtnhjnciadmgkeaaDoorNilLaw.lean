/-
  A nil table has nothing: the law, as the frame wants it.
-/
import Derived.Test.YtnhjnciadmgkeaaDoorAlive
namespace Go.Proofs.YtnhjnciadmgkeaaDoor
open Go.ChangeShapes Go.WideShapes Go.ChangeAt Go.RowKit
set_option linter.unusedVariables false
theorem below_of_grown {w w' : World} (h : w.grownBy w' none) : Below w.heap.size w w' :=
  ⟨h.os, h.tape, h.output, h.size, fun k hk => h.block k hk (by simp)⟩
theorem lookupNil_law (key node : Int) (W : World) (w0 : (Lit.int .u64 key).wf = true) (w1 : (Lit.int .i32 node).wf = true) (ht : Tab W) (hh : 1 < W.heap.size) :
    Calls Tryd.prog 5 #[.int .u64 key, .int .i32 node] W fun e W' => e = .returned (.bool true) ∧ Below W.heap.size W W' :=
  (lookupNil_walk key node W ht).mono fun e W' h => ⟨h.1, below_of_grown h.2⟩
end Go.Proofs.YtnhjnciadmgkeaaDoor
