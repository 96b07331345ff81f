/-
  No cell of these rows narrows 'for every input' (looked for: loops, veiled, ifaces, maps, wideKeys, modest, calm, conditions, laid).
  DERIVED. THE GIVEN ROWS OF THIS SEAT. 4 by the template 'for every input the law returns true; each argument reads behind the call as it read before'; 0 by the template 'total and deterministic' (their statements: YtjligfgaahcogaaTotals.lean).
  GIVEN WITH THE SEED: the statements are not yours to turn. If you find one false, say at which input.
  Laid BY PROGRAM, IN A SANDBOX (cutbox-rows.mjs): the forced cells as the released guide's own fill.sh prints them over the translation 62f42d645733979e… (all of the seat's roots in one cut). By AI agents, Wed Nov 11 2026. No macro, syntax, notation, axiom, sorry.
-/
import Derived.Test.YtjligfgaahcogaaChecked
import GoSem.Claim
import GoSem.ClaimJoined
import GoSem.ClaimMapViews
import Derived.JoinedTies
import Derived.KernelRfl
namespace Go.Proofs.Ytjligfgaahcogaa
/- THE CELL 'sum', in the pinned program and in every row, IS THE sha256 OF THE DUMP (.gsa) THAT YtjligfgaahcogaaProg.lean LOADS. Nothing in Lean hashes anything: it is a label: what it is worth is what the hold of that sum in a sandbox is worth. -/
noncomputable def Try.pinned : Pinned := { name := "ytjligfgaahcogaa", sum := "62f42d645733979e7149aa202abee49e631fce7ac0d45c14c63cecb2586ee2e1", checked := Try.checked }
namespace Rows
def none {H : Type} : Left H := { results := [], args := [] }

/-- 'hutchlaw05.DialPlays': WHATEVER THE INPUT: true; the input reads as it did. -/
def dialPlaysSpec : ChangeSpec := { name := "dialPlays", fn := fun _ => fun
  | [d1, d2, d3] => { results := [.lit (.bool true)], args := [d1, d2, d3] }
  | _ => none }
def dialPlaysRow : OpenClaim := { program := "ytjligfgaahcogaa", sum := "62f42d645733979e7149aa202abee49e631fce7ac0d45c14c63cecb2586ee2e1", func := "hutch/hutchlaw05.DialPlays", spec := "dialPlays", unfollowed := true, recurses := true, apart := false }
def DialPlaysSaid : Prop := dialPlaysRow.holds Try.pinned (OpenSpec.ofChange dialPlaysSpec)

/-- ITS FALSE NEIGHBOUR: 'it returns false'. Refute it at one input. -/
def dialPlaysWrong : ChangeSpec := { name := "dialPlays", fn := fun _ => fun
  | [d1, d2, d3] => { results := [.lit (.bool false)], args := [d1, d2, d3] }
  | _ => none }
def DialPlaysWrongFalsely : Prop := dialPlaysRow.holds Try.pinned (OpenSpec.ofChange dialPlaysWrong)

/-- 'hutchlaw05.DialSurvives': WHATEVER THE INPUT: true; the input reads as it did. -/
def dialSurvivesSpec : ChangeSpec := { name := "dialSurvives", fn := fun _ => fun
  | [d1, d2] => { results := [.lit (.bool true)], args := [d1, d2] }
  | _ => none }
def dialSurvivesRow : OpenClaim := { program := "ytjligfgaahcogaa", sum := "62f42d645733979e7149aa202abee49e631fce7ac0d45c14c63cecb2586ee2e1", func := "hutch/hutchlaw05.DialSurvives", spec := "dialSurvives", unfollowed := true, recurses := true, apart := false }
def DialSurvivesSaid : Prop := dialSurvivesRow.holds Try.pinned (OpenSpec.ofChange dialSurvivesSpec)

/-- ITS FALSE NEIGHBOUR: 'it returns false'. Refute it at one input. -/
def dialSurvivesWrong : ChangeSpec := { name := "dialSurvives", fn := fun _ => fun
  | [d1, d2] => { results := [.lit (.bool false)], args := [d1, d2] }
  | _ => none }
def DialSurvivesWrongFalsely : Prop := dialSurvivesRow.holds Try.pinned (OpenSpec.ofChange dialSurvivesWrong)

/-- 'hutchlaw05.DialTells': WHATEVER THE INPUT: true; the input reads as it did. -/
def dialTellsSpec : ChangeSpec := { name := "dialTells", fn := fun _ => fun
  | [d1, d2] => { results := [.lit (.bool true)], args := [d1, d2] }
  | _ => none }
def dialTellsRow : OpenClaim := { program := "ytjligfgaahcogaa", sum := "62f42d645733979e7149aa202abee49e631fce7ac0d45c14c63cecb2586ee2e1", func := "hutch/hutchlaw05.DialTells", spec := "dialTells", unfollowed := true, recurses := true, apart := false }
def DialTellsSaid : Prop := dialTellsRow.holds Try.pinned (OpenSpec.ofChange dialTellsSpec)

/-- ITS FALSE NEIGHBOUR: 'it returns false'. Refute it at one input. -/
def dialTellsWrong : ChangeSpec := { name := "dialTells", fn := fun _ => fun
  | [d1, d2] => { results := [.lit (.bool false)], args := [d1, d2] }
  | _ => none }
def DialTellsWrongFalsely : Prop := dialTellsRow.holds Try.pinned (OpenSpec.ofChange dialTellsWrong)

/-- 'hutchlaw05.DialNil': WHATEVER THE INPUT: true; the input reads as it did. -/
def dialNilSpec : ChangeSpec := { name := "dialNil", fn := fun _ => fun
  | [d1, d2] => { results := [.lit (.bool true)], args := [d1, d2] }
  | _ => none }
def dialNilRow : OpenClaim := { program := "ytjligfgaahcogaa", sum := "62f42d645733979e7149aa202abee49e631fce7ac0d45c14c63cecb2586ee2e1", func := "hutch/hutchlaw05.DialNil", spec := "dialNil", unfollowed := true, recurses := true, apart := false }
def DialNilSaid : Prop := dialNilRow.holds Try.pinned (OpenSpec.ofChange dialNilSpec)

/-- ITS FALSE NEIGHBOUR: 'it returns false'. Refute it at one input. -/
def dialNilWrong : ChangeSpec := { name := "dialNil", fn := fun _ => fun
  | [d1, d2] => { results := [.lit (.bool false)], args := [d1, d2] }
  | _ => none }
def DialNilWrongFalsely : Prop := dialNilRow.holds Try.pinned (OpenSpec.ofChange dialNilWrong)

/- THE SECOND FORM. 'bulk': how many values and letters a reading holds, each counted each time it is reached (what is shared counts as often as it is met; a slice's spare places count too). A statement '..UptoSaid' is the law's where the arguments, and the package variables that the reading takes, are together of bulk at most 1048576: NARROWER than '..Said'. Prove '..Said' where nothing that the law and all that it calls make is longer than what came in: it says more and counts as full. Else prove '..UptoSaid'. A law counts once. -/
mutual
def uptoBulk {H : Type} : DataW H → Nat
  | .lit (.string bytes) => bytes.length + 1
  | .lit _ => 1
  | .nil => 1
  | .ptr d => uptoBulk d + 1
  | .slice elems spare => uptoBulkAll elems + uptoBulkAll spare + 1
  | .agg parts => uptoBulkAll parts + 1
  | .iface _ d => uptoBulk d + 1
  | .map entries => uptoBulkEntries entries + 1
  | .held _ => 1
def uptoBulkAll {H : Type} : List (DataW H) → Nat
  | [] => 0
  | d :: r => uptoBulk d + uptoBulkAll r
def uptoBulkEntries {H : Type} : List (Lit × DataW H) → Nat
  | [] => 0
  | x :: r => uptoBulkEntry x + uptoBulkEntries r
def uptoBulkEntry {H : Type} : Lit × DataW H → Nat
  | (.string bytes, d) => bytes.length + uptoBulk d + 1
  | (_, d) => uptoBulk d + 1
 end
def uptoSmall : (H : Type) → List (DataW H) → Bool := fun _ ds => decide (uptoBulkAll ds ≤ 1048576)
def OpenSpec.upto (s : _root_.Go.ChangeSpec) : _root_.Go.OpenSpec := { _root_.Go.OpenSpec.ofChange s with cond := some uptoSmall }

/-- 'hutchlaw05.DialPlays', WHERE WHAT IT READS IS OF BULK AT MOST 1048576: true; the input reads as it did. -/
def dialPlaysUptoRow : OpenClaim := { program := "ytjligfgaahcogaa", sum := "62f42d645733979e7149aa202abee49e631fce7ac0d45c14c63cecb2586ee2e1", func := "hutch/hutchlaw05.DialPlays", spec := "dialPlays", unfollowed := true, recurses := true, apart := false, narrowed := true }
def DialPlaysUptoSaid : Prop := dialPlaysUptoRow.holds Try.pinned (OpenSpec.upto dialPlaysSpec)

/-- 'hutchlaw05.DialSurvives', WHERE WHAT IT READS IS OF BULK AT MOST 1048576: true; the input reads as it did. -/
def dialSurvivesUptoRow : OpenClaim := { program := "ytjligfgaahcogaa", sum := "62f42d645733979e7149aa202abee49e631fce7ac0d45c14c63cecb2586ee2e1", func := "hutch/hutchlaw05.DialSurvives", spec := "dialSurvives", unfollowed := true, recurses := true, apart := false, narrowed := true }
def DialSurvivesUptoSaid : Prop := dialSurvivesUptoRow.holds Try.pinned (OpenSpec.upto dialSurvivesSpec)

/-- 'hutchlaw05.DialTells', WHERE WHAT IT READS IS OF BULK AT MOST 1048576: true; the input reads as it did. -/
def dialTellsUptoRow : OpenClaim := { program := "ytjligfgaahcogaa", sum := "62f42d645733979e7149aa202abee49e631fce7ac0d45c14c63cecb2586ee2e1", func := "hutch/hutchlaw05.DialTells", spec := "dialTells", unfollowed := true, recurses := true, apart := false, narrowed := true }
def DialTellsUptoSaid : Prop := dialTellsUptoRow.holds Try.pinned (OpenSpec.upto dialTellsSpec)

/-- 'hutchlaw05.DialNil', WHERE WHAT IT READS IS OF BULK AT MOST 1048576: true; the input reads as it did. -/
def dialNilUptoRow : OpenClaim := { program := "ytjligfgaahcogaa", sum := "62f42d645733979e7149aa202abee49e631fce7ac0d45c14c63cecb2586ee2e1", func := "hutch/hutchlaw05.DialNil", spec := "dialNil", unfollowed := true, recurses := true, apart := false, narrowed := true }
def DialNilUptoSaid : Prop := dialNilUptoRow.holds Try.pinned (OpenSpec.upto dialNilSpec)

end Rows
end Go.Proofs.Ytjligfgaahcogaa
