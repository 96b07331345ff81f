/-
  No cell of these rows narrows 'for every input' (looked for: loops, veiled, ifaces, maps, wideKeys, modest, calm, conditions, laid).
  DERIVED. THE GIVEN ROWS OF THIS SEAT. 5 by the template 'for every input the law returns true; each argument reads behind the call as it read before'; 0 by the template 'total and deterministic' (their statements: YtejcahkkpednfaaTotals.lean).
  GIVEN WITH THE SEED: the statements are not yours to turn. If you find one false, say at which input.
  Laid BY PROGRAM, IN A SANDBOX (cutbox-rows.mjs): the forced cells as the released guide's own fill.sh prints them over the translation 78642eba3008c8b8… (all of the seat's roots in one cut). By AI agents, Wed Nov 11 2026. No macro, syntax, notation, axiom, sorry.
-/
import Derived.Test.YtejcahkkpednfaaChecked
import GoSem.Claim
import GoSem.ClaimJoined
import GoSem.ClaimMapViews
import Derived.JoinedTies
import Derived.KernelRfl
namespace Go.Proofs.Ytejcahkkpednfaa
/- THE CELL 'sum', in the pinned program and in every row, IS THE sha256 OF THE DUMP (.gsa) THAT YtejcahkkpednfaaProg.lean LOADS. Nothing in Lean hashes anything: it is a label: what it is worth is what the hold of that sum in a sandbox is worth. -/
noncomputable def Try.pinned : Pinned := { name := "ytejcahkkpednfaa", sum := "78642eba3008c8b85e81155cd9989ece5ca56a567dbb84da87ff8527b639e87b", checked := Try.checked }
namespace Rows
def none {H : Type} : Left H := { results := [], args := [] }

/-- 'hutchlaw13.WheelPlays': WHATEVER THE INPUT: true; the input reads as it did. -/
def wheelPlaysSpec : ChangeSpec := { name := "wheelPlays", fn := fun _ => fun
  | [d1, d2] => { results := [.lit (.bool true)], args := [d1, d2] }
  | _ => none }
def wheelPlaysRow : OpenClaim := { program := "ytejcahkkpednfaa", sum := "78642eba3008c8b85e81155cd9989ece5ca56a567dbb84da87ff8527b639e87b", func := "hutch/hutchlaw13.WheelPlays", spec := "wheelPlays", unfollowed := true, recurses := true, apart := false }
def WheelPlaysSaid : Prop := wheelPlaysRow.holds Try.pinned (OpenSpec.ofChange wheelPlaysSpec)

/-- ITS FALSE NEIGHBOUR: 'it returns false'. Refute it at one input. -/
def wheelPlaysWrong : ChangeSpec := { name := "wheelPlays", fn := fun _ => fun
  | [d1, d2] => { results := [.lit (.bool false)], args := [d1, d2] }
  | _ => none }
def WheelPlaysWrongFalsely : Prop := wheelPlaysRow.holds Try.pinned (OpenSpec.ofChange wheelPlaysWrong)

/-- 'hutchlaw13.WheelRights': WHATEVER THE INPUT: true; the input reads as it did. -/
def wheelRightsSpec : ChangeSpec := { name := "wheelRights", fn := fun _ => fun
  | [d1, d2] => { results := [.lit (.bool true)], args := [d1, d2] }
  | _ => none }
def wheelRightsRow : OpenClaim := { program := "ytejcahkkpednfaa", sum := "78642eba3008c8b85e81155cd9989ece5ca56a567dbb84da87ff8527b639e87b", func := "hutch/hutchlaw13.WheelRights", spec := "wheelRights", unfollowed := true, recurses := true, apart := false }
def WheelRightsSaid : Prop := wheelRightsRow.holds Try.pinned (OpenSpec.ofChange wheelRightsSpec)

/-- ITS FALSE NEIGHBOUR: 'it returns false'. Refute it at one input. -/
def wheelRightsWrong : ChangeSpec := { name := "wheelRights", fn := fun _ => fun
  | [d1, d2] => { results := [.lit (.bool false)], args := [d1, d2] }
  | _ => none }
def WheelRightsWrongFalsely : Prop := wheelRightsRow.holds Try.pinned (OpenSpec.ofChange wheelRightsWrong)

/-- 'hutchlaw13.WheelHolds': WHATEVER THE INPUT: true; the input reads as it did. -/
def wheelHoldsSpec : ChangeSpec := { name := "wheelHolds", fn := fun _ => fun
  | [d1, d2] => { results := [.lit (.bool true)], args := [d1, d2] }
  | _ => none }
def wheelHoldsRow : OpenClaim := { program := "ytejcahkkpednfaa", sum := "78642eba3008c8b85e81155cd9989ece5ca56a567dbb84da87ff8527b639e87b", func := "hutch/hutchlaw13.WheelHolds", spec := "wheelHolds", unfollowed := true, recurses := true, apart := false }
def WheelHoldsSaid : Prop := wheelHoldsRow.holds Try.pinned (OpenSpec.ofChange wheelHoldsSpec)

/-- ITS FALSE NEIGHBOUR: 'it returns false'. Refute it at one input. -/
def wheelHoldsWrong : ChangeSpec := { name := "wheelHolds", fn := fun _ => fun
  | [d1, d2] => { results := [.lit (.bool false)], args := [d1, d2] }
  | _ => none }
def WheelHoldsWrongFalsely : Prop := wheelHoldsRow.holds Try.pinned (OpenSpec.ofChange wheelHoldsWrong)

/-- 'hutchlaw13.WheelScan': WHATEVER THE INPUT: true; the input reads as it did. -/
def wheelScanSpec : ChangeSpec := { name := "wheelScan", fn := fun _ => fun
  | [d1, d2, d3] => { results := [.lit (.bool true)], args := [d1, d2, d3] }
  | _ => none }
def wheelScanRow : OpenClaim := { program := "ytejcahkkpednfaa", sum := "78642eba3008c8b85e81155cd9989ece5ca56a567dbb84da87ff8527b639e87b", func := "hutch/hutchlaw13.WheelScan", spec := "wheelScan", unfollowed := true, recurses := true, apart := false }
def WheelScanSaid : Prop := wheelScanRow.holds Try.pinned (OpenSpec.ofChange wheelScanSpec)

/-- ITS FALSE NEIGHBOUR: 'it returns false'. Refute it at one input. -/
def wheelScanWrong : ChangeSpec := { name := "wheelScan", fn := fun _ => fun
  | [d1, d2, d3] => { results := [.lit (.bool false)], args := [d1, d2, d3] }
  | _ => none }
def WheelScanWrongFalsely : Prop := wheelScanRow.holds Try.pinned (OpenSpec.ofChange wheelScanWrong)

/-- 'hutchlaw13.WheelWork': WHATEVER THE INPUT: true; the input reads as it did. -/
def wheelWorkSpec : ChangeSpec := { name := "wheelWork", fn := fun _ => fun
  | [d1, d2] => { results := [.lit (.bool true)], args := [d1, d2] }
  | _ => none }
def wheelWorkRow : OpenClaim := { program := "ytejcahkkpednfaa", sum := "78642eba3008c8b85e81155cd9989ece5ca56a567dbb84da87ff8527b639e87b", func := "hutch/hutchlaw13.WheelWork", spec := "wheelWork", unfollowed := true, recurses := true, apart := false }
def WheelWorkSaid : Prop := wheelWorkRow.holds Try.pinned (OpenSpec.ofChange wheelWorkSpec)

/-- ITS FALSE NEIGHBOUR: 'it returns false'. Refute it at one input. -/
def wheelWorkWrong : ChangeSpec := { name := "wheelWork", fn := fun _ => fun
  | [d1, d2] => { results := [.lit (.bool false)], args := [d1, d2] }
  | _ => none }
def WheelWorkWrongFalsely : Prop := wheelWorkRow.holds Try.pinned (OpenSpec.ofChange wheelWorkWrong)

/- THE SECOND FORM. 'bulk': how many values and letters a reading holds, each counted each time it is reached (what is shared counts as often as it is met; a slice's spare places count too). A statement '..UptoSaid' is the law's where the arguments, and the package variables that the reading takes, are together of bulk at most 1048576: NARROWER than '..Said'. Prove '..Said' where nothing that the law and all that it calls make is longer than what came in: it says more and counts as full. Else prove '..UptoSaid'. A law counts once. -/
mutual
def uptoBulk {H : Type} : DataW H → Nat
  | .lit (.string bytes) => bytes.length + 1
  | .lit _ => 1
  | .nil => 1
  | .ptr d => uptoBulk d + 1
  | .slice elems spare => uptoBulkAll elems + uptoBulkAll spare + 1
  | .agg parts => uptoBulkAll parts + 1
  | .iface _ d => uptoBulk d + 1
  | .map entries => uptoBulkEntries entries + 1
  | .held _ => 1
def uptoBulkAll {H : Type} : List (DataW H) → Nat
  | [] => 0
  | d :: r => uptoBulk d + uptoBulkAll r
def uptoBulkEntries {H : Type} : List (Lit × DataW H) → Nat
  | [] => 0
  | x :: r => uptoBulkEntry x + uptoBulkEntries r
def uptoBulkEntry {H : Type} : Lit × DataW H → Nat
  | (.string bytes, d) => bytes.length + uptoBulk d + 1
  | (_, d) => uptoBulk d + 1
 end
def uptoSmall : (H : Type) → List (DataW H) → Bool := fun _ ds => decide (uptoBulkAll ds ≤ 1048576)
def OpenSpec.upto (s : _root_.Go.ChangeSpec) : _root_.Go.OpenSpec := { _root_.Go.OpenSpec.ofChange s with cond := some uptoSmall }

/-- 'hutchlaw13.WheelPlays', WHERE WHAT IT READS IS OF BULK AT MOST 1048576: true; the input reads as it did. -/
def wheelPlaysUptoRow : OpenClaim := { program := "ytejcahkkpednfaa", sum := "78642eba3008c8b85e81155cd9989ece5ca56a567dbb84da87ff8527b639e87b", func := "hutch/hutchlaw13.WheelPlays", spec := "wheelPlays", unfollowed := true, recurses := true, apart := false, narrowed := true }
def WheelPlaysUptoSaid : Prop := wheelPlaysUptoRow.holds Try.pinned (OpenSpec.upto wheelPlaysSpec)

/-- 'hutchlaw13.WheelRights', WHERE WHAT IT READS IS OF BULK AT MOST 1048576: true; the input reads as it did. -/
def wheelRightsUptoRow : OpenClaim := { program := "ytejcahkkpednfaa", sum := "78642eba3008c8b85e81155cd9989ece5ca56a567dbb84da87ff8527b639e87b", func := "hutch/hutchlaw13.WheelRights", spec := "wheelRights", unfollowed := true, recurses := true, apart := false, narrowed := true }
def WheelRightsUptoSaid : Prop := wheelRightsUptoRow.holds Try.pinned (OpenSpec.upto wheelRightsSpec)

/-- 'hutchlaw13.WheelHolds', WHERE WHAT IT READS IS OF BULK AT MOST 1048576: true; the input reads as it did. -/
def wheelHoldsUptoRow : OpenClaim := { program := "ytejcahkkpednfaa", sum := "78642eba3008c8b85e81155cd9989ece5ca56a567dbb84da87ff8527b639e87b", func := "hutch/hutchlaw13.WheelHolds", spec := "wheelHolds", unfollowed := true, recurses := true, apart := false, narrowed := true }
def WheelHoldsUptoSaid : Prop := wheelHoldsUptoRow.holds Try.pinned (OpenSpec.upto wheelHoldsSpec)

/-- 'hutchlaw13.WheelScan', WHERE WHAT IT READS IS OF BULK AT MOST 1048576: true; the input reads as it did. -/
def wheelScanUptoRow : OpenClaim := { program := "ytejcahkkpednfaa", sum := "78642eba3008c8b85e81155cd9989ece5ca56a567dbb84da87ff8527b639e87b", func := "hutch/hutchlaw13.WheelScan", spec := "wheelScan", unfollowed := true, recurses := true, apart := false, narrowed := true }
def WheelScanUptoSaid : Prop := wheelScanUptoRow.holds Try.pinned (OpenSpec.upto wheelScanSpec)

/-- 'hutchlaw13.WheelWork', WHERE WHAT IT READS IS OF BULK AT MOST 1048576: true; the input reads as it did. -/
def wheelWorkUptoRow : OpenClaim := { program := "ytejcahkkpednfaa", sum := "78642eba3008c8b85e81155cd9989ece5ca56a567dbb84da87ff8527b639e87b", func := "hutch/hutchlaw13.WheelWork", spec := "wheelWork", unfollowed := true, recurses := true, apart := false, narrowed := true }
def WheelWorkUptoSaid : Prop := wheelWorkUptoRow.holds Try.pinned (OpenSpec.upto wheelWorkSpec)

end Rows
end Go.Proofs.Ytejcahkkpednfaa
