/-
  No cell of these rows narrows 'for every input' (looked for: loops, veiled, ifaces, maps, wideKeys, modest, calm, conditions, laid).
  DERIVED. THE GIVEN ROWS OF THIS SEAT. 5 by the template 'for every input the law returns true; each argument reads behind the call as it read before'; 0 by the template 'total and deterministic' (their statements: YtifenpmkbnohhaaTotals.lean).
  GIVEN WITH THE SEED: the statements are not yours to turn. If you find one false, say at which input.
  Laid BY PROGRAM, IN A SANDBOX (cutbox-rows.mjs): the forced cells as the released guide's own fill.sh prints them over the translation ec602f7a72fc91fc… (all of the seat's roots in one cut). By AI agents, Wed Nov 11 2026. No macro, syntax, notation, axiom, sorry.
-/
import Derived.Test.YtifenpmkbnohhaaChecked
import GoSem.Claim
import GoSem.ClaimJoined
import GoSem.ClaimMapViews
import Derived.JoinedTies
import Derived.KernelRfl
namespace Go.Proofs.Ytifenpmkbnohhaa
/- THE CELL 'sum', in the pinned program and in every row, IS THE sha256 OF THE DUMP (.gsa) THAT YtifenpmkbnohhaaProg.lean LOADS. Nothing in Lean hashes anything: it is a label: what it is worth is what the hold of that sum in a sandbox is worth. -/
noncomputable def Try.pinned : Pinned := { name := "ytifenpmkbnohhaa", sum := "ec602f7a72fc91fc67dcde05bb3373d41e1a4689b81bd79baff275b0942446d7", checked := Try.checked }
namespace Rows
def none {H : Type} : Left H := { results := [], args := [] }

/-- 'hutchlaw12.StackPlays': WHATEVER THE INPUT: true; the input reads as it did. -/
def stackPlaysSpec : ChangeSpec := { name := "stackPlays", fn := fun _ => fun
  | [d1, d2] => { results := [.lit (.bool true)], args := [d1, d2] }
  | _ => none }
def stackPlaysRow : OpenClaim := { program := "ytifenpmkbnohhaa", sum := "ec602f7a72fc91fc67dcde05bb3373d41e1a4689b81bd79baff275b0942446d7", func := "hutch/hutchlaw12.StackPlays", spec := "stackPlays", inPlace := ["slices.overlaps[hutch/api.Page]"], unfollowed := true, recurses := true, apart := false }
def StackPlaysSaid : Prop := stackPlaysRow.holds Try.pinned (OpenSpec.ofChange stackPlaysSpec)

/-- ITS FALSE NEIGHBOUR: 'it returns false'. Refute it at one input. -/
def stackPlaysWrong : ChangeSpec := { name := "stackPlays", fn := fun _ => fun
  | [d1, d2] => { results := [.lit (.bool false)], args := [d1, d2] }
  | _ => none }
def StackPlaysWrongFalsely : Prop := stackPlaysRow.holds Try.pinned (OpenSpec.ofChange stackPlaysWrong)

/-- 'hutchlaw12.StackRights': WHATEVER THE INPUT: true; the input reads as it did. -/
def stackRightsSpec : ChangeSpec := { name := "stackRights", fn := fun _ => fun
  | [d1, d2] => { results := [.lit (.bool true)], args := [d1, d2] }
  | _ => none }
def stackRightsRow : OpenClaim := { program := "ytifenpmkbnohhaa", sum := "ec602f7a72fc91fc67dcde05bb3373d41e1a4689b81bd79baff275b0942446d7", func := "hutch/hutchlaw12.StackRights", spec := "stackRights", inPlace := ["slices.overlaps[hutch/api.Page]"], unfollowed := true, recurses := true, apart := false }
def StackRightsSaid : Prop := stackRightsRow.holds Try.pinned (OpenSpec.ofChange stackRightsSpec)

/-- ITS FALSE NEIGHBOUR: 'it returns false'. Refute it at one input. -/
def stackRightsWrong : ChangeSpec := { name := "stackRights", fn := fun _ => fun
  | [d1, d2] => { results := [.lit (.bool false)], args := [d1, d2] }
  | _ => none }
def StackRightsWrongFalsely : Prop := stackRightsRow.holds Try.pinned (OpenSpec.ofChange stackRightsWrong)

/-- 'hutchlaw12.StackHolds': WHATEVER THE INPUT: true; the input reads as it did. -/
def stackHoldsSpec : ChangeSpec := { name := "stackHolds", fn := fun _ => fun
  | [d1, d2] => { results := [.lit (.bool true)], args := [d1, d2] }
  | _ => none }
def stackHoldsRow : OpenClaim := { program := "ytifenpmkbnohhaa", sum := "ec602f7a72fc91fc67dcde05bb3373d41e1a4689b81bd79baff275b0942446d7", func := "hutch/hutchlaw12.StackHolds", spec := "stackHolds", inPlace := ["slices.overlaps[hutch/api.Page]"], unfollowed := true, recurses := true, apart := false }
def StackHoldsSaid : Prop := stackHoldsRow.holds Try.pinned (OpenSpec.ofChange stackHoldsSpec)

/-- ITS FALSE NEIGHBOUR: 'it returns false'. Refute it at one input. -/
def stackHoldsWrong : ChangeSpec := { name := "stackHolds", fn := fun _ => fun
  | [d1, d2] => { results := [.lit (.bool false)], args := [d1, d2] }
  | _ => none }
def StackHoldsWrongFalsely : Prop := stackHoldsRow.holds Try.pinned (OpenSpec.ofChange stackHoldsWrong)

/-- 'hutchlaw12.StackScan': WHATEVER THE INPUT: true; the input reads as it did. -/
def stackScanSpec : ChangeSpec := { name := "stackScan", fn := fun _ => fun
  | [d1, d2, d3] => { results := [.lit (.bool true)], args := [d1, d2, d3] }
  | _ => none }
def stackScanRow : OpenClaim := { program := "ytifenpmkbnohhaa", sum := "ec602f7a72fc91fc67dcde05bb3373d41e1a4689b81bd79baff275b0942446d7", func := "hutch/hutchlaw12.StackScan", spec := "stackScan", inPlace := ["slices.overlaps[hutch/api.Page]"], unfollowed := true, recurses := true, apart := false }
def StackScanSaid : Prop := stackScanRow.holds Try.pinned (OpenSpec.ofChange stackScanSpec)

/-- ITS FALSE NEIGHBOUR: 'it returns false'. Refute it at one input. -/
def stackScanWrong : ChangeSpec := { name := "stackScan", fn := fun _ => fun
  | [d1, d2, d3] => { results := [.lit (.bool false)], args := [d1, d2, d3] }
  | _ => none }
def StackScanWrongFalsely : Prop := stackScanRow.holds Try.pinned (OpenSpec.ofChange stackScanWrong)

/-- 'hutchlaw12.StackWork': WHATEVER THE INPUT: true; the input reads as it did. -/
def stackWorkSpec : ChangeSpec := { name := "stackWork", fn := fun _ => fun
  | [d1, d2] => { results := [.lit (.bool true)], args := [d1, d2] }
  | _ => none }
def stackWorkRow : OpenClaim := { program := "ytifenpmkbnohhaa", sum := "ec602f7a72fc91fc67dcde05bb3373d41e1a4689b81bd79baff275b0942446d7", func := "hutch/hutchlaw12.StackWork", spec := "stackWork", inPlace := ["slices.overlaps[hutch/api.Page]"], unfollowed := true, recurses := true, apart := false }
def StackWorkSaid : Prop := stackWorkRow.holds Try.pinned (OpenSpec.ofChange stackWorkSpec)

/-- ITS FALSE NEIGHBOUR: 'it returns false'. Refute it at one input. -/
def stackWorkWrong : ChangeSpec := { name := "stackWork", fn := fun _ => fun
  | [d1, d2] => { results := [.lit (.bool false)], args := [d1, d2] }
  | _ => none }
def StackWorkWrongFalsely : Prop := stackWorkRow.holds Try.pinned (OpenSpec.ofChange stackWorkWrong)

/- THE SECOND FORM. 'bulk': how many values and letters a reading holds, each counted each time it is reached (what is shared counts as often as it is met; a slice's spare places count too). A statement '..UptoSaid' is the law's where the arguments, and the package variables that the reading takes, are together of bulk at most 1048576: NARROWER than '..Said'. Prove '..Said' where nothing that the law and all that it calls make is longer than what came in: it says more and counts as full. Else prove '..UptoSaid'. A law counts once. -/
mutual
def uptoBulk {H : Type} : DataW H → Nat
  | .lit (.string bytes) => bytes.length + 1
  | .lit _ => 1
  | .nil => 1
  | .ptr d => uptoBulk d + 1
  | .slice elems spare => uptoBulkAll elems + uptoBulkAll spare + 1
  | .agg parts => uptoBulkAll parts + 1
  | .iface _ d => uptoBulk d + 1
  | .map entries => uptoBulkEntries entries + 1
  | .held _ => 1
def uptoBulkAll {H : Type} : List (DataW H) → Nat
  | [] => 0
  | d :: r => uptoBulk d + uptoBulkAll r
def uptoBulkEntries {H : Type} : List (Lit × DataW H) → Nat
  | [] => 0
  | x :: r => uptoBulkEntry x + uptoBulkEntries r
def uptoBulkEntry {H : Type} : Lit × DataW H → Nat
  | (.string bytes, d) => bytes.length + uptoBulk d + 1
  | (_, d) => uptoBulk d + 1
 end
def uptoSmall : (H : Type) → List (DataW H) → Bool := fun _ ds => decide (uptoBulkAll ds ≤ 1048576)
def OpenSpec.upto (s : _root_.Go.ChangeSpec) : _root_.Go.OpenSpec := { _root_.Go.OpenSpec.ofChange s with cond := some uptoSmall }

/-- 'hutchlaw12.StackPlays', WHERE WHAT IT READS IS OF BULK AT MOST 1048576: true; the input reads as it did. -/
def stackPlaysUptoRow : OpenClaim := { program := "ytifenpmkbnohhaa", sum := "ec602f7a72fc91fc67dcde05bb3373d41e1a4689b81bd79baff275b0942446d7", func := "hutch/hutchlaw12.StackPlays", spec := "stackPlays", inPlace := ["slices.overlaps[hutch/api.Page]"], unfollowed := true, recurses := true, apart := false, narrowed := true }
def StackPlaysUptoSaid : Prop := stackPlaysUptoRow.holds Try.pinned (OpenSpec.upto stackPlaysSpec)

/-- 'hutchlaw12.StackRights', WHERE WHAT IT READS IS OF BULK AT MOST 1048576: true; the input reads as it did. -/
def stackRightsUptoRow : OpenClaim := { program := "ytifenpmkbnohhaa", sum := "ec602f7a72fc91fc67dcde05bb3373d41e1a4689b81bd79baff275b0942446d7", func := "hutch/hutchlaw12.StackRights", spec := "stackRights", inPlace := ["slices.overlaps[hutch/api.Page]"], unfollowed := true, recurses := true, apart := false, narrowed := true }
def StackRightsUptoSaid : Prop := stackRightsUptoRow.holds Try.pinned (OpenSpec.upto stackRightsSpec)

/-- 'hutchlaw12.StackHolds', WHERE WHAT IT READS IS OF BULK AT MOST 1048576: true; the input reads as it did. -/
def stackHoldsUptoRow : OpenClaim := { program := "ytifenpmkbnohhaa", sum := "ec602f7a72fc91fc67dcde05bb3373d41e1a4689b81bd79baff275b0942446d7", func := "hutch/hutchlaw12.StackHolds", spec := "stackHolds", inPlace := ["slices.overlaps[hutch/api.Page]"], unfollowed := true, recurses := true, apart := false, narrowed := true }
def StackHoldsUptoSaid : Prop := stackHoldsUptoRow.holds Try.pinned (OpenSpec.upto stackHoldsSpec)

/-- 'hutchlaw12.StackScan', WHERE WHAT IT READS IS OF BULK AT MOST 1048576: true; the input reads as it did. -/
def stackScanUptoRow : OpenClaim := { program := "ytifenpmkbnohhaa", sum := "ec602f7a72fc91fc67dcde05bb3373d41e1a4689b81bd79baff275b0942446d7", func := "hutch/hutchlaw12.StackScan", spec := "stackScan", inPlace := ["slices.overlaps[hutch/api.Page]"], unfollowed := true, recurses := true, apart := false, narrowed := true }
def StackScanUptoSaid : Prop := stackScanUptoRow.holds Try.pinned (OpenSpec.upto stackScanSpec)

/-- 'hutchlaw12.StackWork', WHERE WHAT IT READS IS OF BULK AT MOST 1048576: true; the input reads as it did. -/
def stackWorkUptoRow : OpenClaim := { program := "ytifenpmkbnohhaa", sum := "ec602f7a72fc91fc67dcde05bb3373d41e1a4689b81bd79baff275b0942446d7", func := "hutch/hutchlaw12.StackWork", spec := "stackWork", inPlace := ["slices.overlaps[hutch/api.Page]"], unfollowed := true, recurses := true, apart := false, narrowed := true }
def StackWorkUptoSaid : Prop := stackWorkUptoRow.holds Try.pinned (OpenSpec.upto stackWorkSpec)

end Rows
end Go.Proofs.Ytifenpmkbnohhaa
