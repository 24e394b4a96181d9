/-
  No cell of these rows narrows 'for every input' (looked for: loops, veiled, ifaces, maps, wideKeys, modest, calm, conditions, laid).
  DERIVED. THE GIVEN ROWS OF THIS SEAT. 8 by the template 'for every input the law returns true; each argument reads behind the call as it read before'; 0 by the template 'total and deterministic' (their statements: YtnmiompeofbagaaTotals.lean).
  GIVEN WITH THE SEED: the statements are not yours to turn. If you find one false, say at which input.
  Laid BY PROGRAM, IN A SANDBOX (cutbox-rows.mjs): the forced cells as the released guide's own fill.sh prints them over the translation 220d144d1e1ca1e1… (all of the seat's roots in one cut). By AI agents, Wed Nov 11 2026. No macro, syntax, notation, axiom, sorry.
-/
import Derived.Test.YtnmiompeofbagaaChecked
import GoSem.Claim
import GoSem.ClaimJoined
import GoSem.ClaimMapViews
import Derived.JoinedTies
import Derived.KernelRfl
namespace Go.Proofs.Ytnmiompeofbagaa
/- THE CELL 'sum', in the pinned program and in every row, IS THE sha256 OF THE DUMP (.gsa) THAT YtnmiompeofbagaaProg.lean LOADS. Nothing in Lean hashes anything: it is a label: what it is worth is what the hold of that sum in a sandbox is worth. -/
noncomputable def Try.pinned : Pinned := { name := "ytnmiompeofbagaa", sum := "220d144d1e1ca1e174a43135db3685835a6c2ea0b55ca44e90d046c8481cec3e", checked := Try.checked }
namespace Rows
def none {H : Type} : Left H := { results := [], args := [] }

/-- 'shearworkslaw05.TallySets': WHATEVER THE INPUT: true; the input reads as it did. -/
def tallySetsSpec : ChangeSpec := { name := "tallySets", fn := fun _ => fun
  | [d] => { results := [.lit (.bool true)], args := [d] }
  | _ => none }
def tallySetsRow : OpenClaim := { program := "ytnmiompeofbagaa", sum := "220d144d1e1ca1e174a43135db3685835a6c2ea0b55ca44e90d046c8481cec3e", func := "shearworks/shearworkslaw05.TallySets", spec := "tallySets", unfollowed := true, recurses := true, plainKeys := false, apart := false }
def TallySetsSaid : Prop := tallySetsRow.holds Try.pinned (OpenSpec.ofChange tallySetsSpec)

/-- ITS FALSE NEIGHBOUR: 'it returns false'. Refute it at one input. -/
def tallySetsWrong : ChangeSpec := { name := "tallySets", fn := fun _ => fun
  | [d] => { results := [.lit (.bool false)], args := [d] }
  | _ => none }
def TallySetsWrongFalsely : Prop := tallySetsRow.holds Try.pinned (OpenSpec.ofChange tallySetsWrong)

/-- 'shearworkslaw05.TallyNames': WHATEVER THE INPUT: true; the input reads as it did. -/
def tallyNamesSpec : ChangeSpec := { name := "tallyNames", fn := fun _ => fun
  | [] => { results := [.lit (.bool true)], args := [] }
  | _ => none }
def tallyNamesRow : OpenClaim := { program := "ytnmiompeofbagaa", sum := "220d144d1e1ca1e174a43135db3685835a6c2ea0b55ca44e90d046c8481cec3e", func := "shearworks/shearworkslaw05.TallyNames", spec := "tallyNames", unfollowed := true, recurses := true, plainKeys := false, apart := false }
def TallyNamesSaid : Prop := tallyNamesRow.holds Try.pinned (OpenSpec.ofChange tallyNamesSpec)

/-- ITS FALSE NEIGHBOUR: 'it returns false'. Refute it at one input. -/
def tallyNamesWrong : ChangeSpec := { name := "tallyNames", fn := fun _ => fun
  | [] => { results := [.lit (.bool false)], args := [] }
  | _ => none }
def TallyNamesWrongFalsely : Prop := tallyNamesRow.holds Try.pinned (OpenSpec.ofChange tallyNamesWrong)

/-- 'shearworkslaw05.TallyTrue': WHATEVER THE INPUT: true; the input reads as it did. -/
def tallyTrueSpec : ChangeSpec := { name := "tallyTrue", fn := fun _ => fun
  | [d1, d2, d3, d4] => { results := [.lit (.bool true)], args := [d1, d2, d3, d4] }
  | _ => none }
def tallyTrueRow : OpenClaim := { program := "ytnmiompeofbagaa", sum := "220d144d1e1ca1e174a43135db3685835a6c2ea0b55ca44e90d046c8481cec3e", func := "shearworks/shearworkslaw05.TallyTrue", spec := "tallyTrue", unfollowed := true, recurses := true, plainKeys := false, apart := false }
def TallyTrueSaid : Prop := tallyTrueRow.holds Try.pinned (OpenSpec.ofChange tallyTrueSpec)

/-- ITS FALSE NEIGHBOUR: 'it returns false'. Refute it at one input. -/
def tallyTrueWrong : ChangeSpec := { name := "tallyTrue", fn := fun _ => fun
  | [d1, d2, d3, d4] => { results := [.lit (.bool false)], args := [d1, d2, d3, d4] }
  | _ => none }
def TallyTrueWrongFalsely : Prop := tallyTrueRow.holds Try.pinned (OpenSpec.ofChange tallyTrueWrong)

/-- 'shearworkslaw05.TallyEnds': WHATEVER THE INPUT: true; the input reads as it did. -/
def tallyEndsSpec : ChangeSpec := { name := "tallyEnds", fn := fun _ => fun
  | [d1, d2, d3] => { results := [.lit (.bool true)], args := [d1, d2, d3] }
  | _ => none }
def tallyEndsRow : OpenClaim := { program := "ytnmiompeofbagaa", sum := "220d144d1e1ca1e174a43135db3685835a6c2ea0b55ca44e90d046c8481cec3e", func := "shearworks/shearworkslaw05.TallyEnds", spec := "tallyEnds", unfollowed := true, recurses := true, plainKeys := false, apart := false }
def TallyEndsSaid : Prop := tallyEndsRow.holds Try.pinned (OpenSpec.ofChange tallyEndsSpec)

/-- ITS FALSE NEIGHBOUR: 'it returns false'. Refute it at one input. -/
def tallyEndsWrong : ChangeSpec := { name := "tallyEnds", fn := fun _ => fun
  | [d1, d2, d3] => { results := [.lit (.bool false)], args := [d1, d2, d3] }
  | _ => none }
def TallyEndsWrongFalsely : Prop := tallyEndsRow.holds Try.pinned (OpenSpec.ofChange tallyEndsWrong)

/-- 'shearworkslaw05.TallySums': WHATEVER THE INPUT: true; the input reads as it did. -/
def tallySumsSpec : ChangeSpec := { name := "tallySums", fn := fun _ => fun
  | [d1, d2, d3] => { results := [.lit (.bool true)], args := [d1, d2, d3] }
  | _ => none }
def tallySumsRow : OpenClaim := { program := "ytnmiompeofbagaa", sum := "220d144d1e1ca1e174a43135db3685835a6c2ea0b55ca44e90d046c8481cec3e", func := "shearworks/shearworkslaw05.TallySums", spec := "tallySums", unfollowed := true, recurses := true, plainKeys := false, apart := false }
def TallySumsSaid : Prop := tallySumsRow.holds Try.pinned (OpenSpec.ofChange tallySumsSpec)

/-- ITS FALSE NEIGHBOUR: 'it returns false'. Refute it at one input. -/
def tallySumsWrong : ChangeSpec := { name := "tallySums", fn := fun _ => fun
  | [d1, d2, d3] => { results := [.lit (.bool false)], args := [d1, d2, d3] }
  | _ => none }
def TallySumsWrongFalsely : Prop := tallySumsRow.holds Try.pinned (OpenSpec.ofChange tallySumsWrong)

/-- 'shearworkslaw05.TallyFalse': WHATEVER THE INPUT: true; the input reads as it did. -/
def tallyFalseSpec : ChangeSpec := { name := "tallyFalse", fn := fun _ => fun
  | [d1, d2] => { results := [.lit (.bool true)], args := [d1, d2] }
  | _ => none }
def tallyFalseRow : OpenClaim := { program := "ytnmiompeofbagaa", sum := "220d144d1e1ca1e174a43135db3685835a6c2ea0b55ca44e90d046c8481cec3e", func := "shearworks/shearworkslaw05.TallyFalse", spec := "tallyFalse", unfollowed := true, recurses := true, plainKeys := false, apart := false }
def TallyFalseSaid : Prop := tallyFalseRow.holds Try.pinned (OpenSpec.ofChange tallyFalseSpec)

/-- ITS FALSE NEIGHBOUR: 'it returns false'. Refute it at one input. -/
def tallyFalseWrong : ChangeSpec := { name := "tallyFalse", fn := fun _ => fun
  | [d1, d2] => { results := [.lit (.bool false)], args := [d1, d2] }
  | _ => none }
def TallyFalseWrongFalsely : Prop := tallyFalseRow.holds Try.pinned (OpenSpec.ofChange tallyFalseWrong)

/-- 'shearworkslaw05.TallyClash': WHATEVER THE INPUT: true; the input reads as it did. -/
def tallyClashSpec : ChangeSpec := { name := "tallyClash", fn := fun _ => fun
  | [d1, d2] => { results := [.lit (.bool true)], args := [d1, d2] }
  | _ => none }
def tallyClashRow : OpenClaim := { program := "ytnmiompeofbagaa", sum := "220d144d1e1ca1e174a43135db3685835a6c2ea0b55ca44e90d046c8481cec3e", func := "shearworks/shearworkslaw05.TallyClash", spec := "tallyClash", unfollowed := true, recurses := true, plainKeys := false, apart := false }
def TallyClashSaid : Prop := tallyClashRow.holds Try.pinned (OpenSpec.ofChange tallyClashSpec)

/-- ITS FALSE NEIGHBOUR: 'it returns false'. Refute it at one input. -/
def tallyClashWrong : ChangeSpec := { name := "tallyClash", fn := fun _ => fun
  | [d1, d2] => { results := [.lit (.bool false)], args := [d1, d2] }
  | _ => none }
def TallyClashWrongFalsely : Prop := tallyClashRow.holds Try.pinned (OpenSpec.ofChange tallyClashWrong)

/-- 'shearworkslaw05.TallyMore': WHATEVER THE INPUT: true; the input reads as it did. -/
def tallyMoreSpec : ChangeSpec := { name := "tallyMore", fn := fun _ => fun
  | [d1, d2, d3] => { results := [.lit (.bool true)], args := [d1, d2, d3] }
  | _ => none }
def tallyMoreRow : OpenClaim := { program := "ytnmiompeofbagaa", sum := "220d144d1e1ca1e174a43135db3685835a6c2ea0b55ca44e90d046c8481cec3e", func := "shearworks/shearworkslaw05.TallyMore", spec := "tallyMore", unfollowed := true, recurses := true, plainKeys := false, apart := false }
def TallyMoreSaid : Prop := tallyMoreRow.holds Try.pinned (OpenSpec.ofChange tallyMoreSpec)

/-- ITS FALSE NEIGHBOUR: 'it returns false'. Refute it at one input. -/
def tallyMoreWrong : ChangeSpec := { name := "tallyMore", fn := fun _ => fun
  | [d1, d2, d3] => { results := [.lit (.bool false)], args := [d1, d2, d3] }
  | _ => none }
def TallyMoreWrongFalsely : Prop := tallyMoreRow.holds Try.pinned (OpenSpec.ofChange tallyMoreWrong)

/- THE SECOND FORM. 'bulk': how many values and letters a reading holds, each counted each time it is reached (what is shared counts as often as it is met; a slice's spare places count too). A statement '..UptoSaid' is the law's where the arguments, and the package variables that the reading takes, are together of bulk at most 1048576: NARROWER than '..Said'. Prove '..Said' where nothing that the law and all that it calls make is longer than what came in: it says more and counts as full. Else prove '..UptoSaid'. A law counts once. -/
mutual
def uptoBulk {H : Type} : DataW H → Nat
  | .lit (.string bytes) => bytes.length + 1
  | .lit _ => 1
  | .nil => 1
  | .ptr d => uptoBulk d + 1
  | .slice elems spare => uptoBulkAll elems + uptoBulkAll spare + 1
  | .agg parts => uptoBulkAll parts + 1
  | .iface _ d => uptoBulk d + 1
  | .map entries => uptoBulkEntries entries + 1
  | .held _ => 1
def uptoBulkAll {H : Type} : List (DataW H) → Nat
  | [] => 0
  | d :: r => uptoBulk d + uptoBulkAll r
def uptoBulkEntries {H : Type} : List (Lit × DataW H) → Nat
  | [] => 0
  | x :: r => uptoBulkEntry x + uptoBulkEntries r
def uptoBulkEntry {H : Type} : Lit × DataW H → Nat
  | (.string bytes, d) => bytes.length + uptoBulk d + 1
  | (_, d) => uptoBulk d + 1
 end
def uptoSmall : (H : Type) → List (DataW H) → Bool := fun _ ds => decide (uptoBulkAll ds ≤ 1048576)
def OpenSpec.upto (s : _root_.Go.ChangeSpec) : _root_.Go.OpenSpec := { _root_.Go.OpenSpec.ofChange s with cond := some uptoSmall }

/-- 'shearworkslaw05.TallySets', WHERE WHAT IT READS IS OF BULK AT MOST 1048576: true; the input reads as it did. -/
def tallySetsUptoRow : OpenClaim := { program := "ytnmiompeofbagaa", sum := "220d144d1e1ca1e174a43135db3685835a6c2ea0b55ca44e90d046c8481cec3e", func := "shearworks/shearworkslaw05.TallySets", spec := "tallySets", unfollowed := true, recurses := true, plainKeys := false, apart := false, narrowed := true }
def TallySetsUptoSaid : Prop := tallySetsUptoRow.holds Try.pinned (OpenSpec.upto tallySetsSpec)

/-- 'shearworkslaw05.TallyNames', WHERE WHAT IT READS IS OF BULK AT MOST 1048576: true; the input reads as it did. -/
def tallyNamesUptoRow : OpenClaim := { program := "ytnmiompeofbagaa", sum := "220d144d1e1ca1e174a43135db3685835a6c2ea0b55ca44e90d046c8481cec3e", func := "shearworks/shearworkslaw05.TallyNames", spec := "tallyNames", unfollowed := true, recurses := true, plainKeys := false, apart := false, narrowed := true }
def TallyNamesUptoSaid : Prop := tallyNamesUptoRow.holds Try.pinned (OpenSpec.upto tallyNamesSpec)

/-- 'shearworkslaw05.TallyTrue', WHERE WHAT IT READS IS OF BULK AT MOST 1048576: true; the input reads as it did. -/
def tallyTrueUptoRow : OpenClaim := { program := "ytnmiompeofbagaa", sum := "220d144d1e1ca1e174a43135db3685835a6c2ea0b55ca44e90d046c8481cec3e", func := "shearworks/shearworkslaw05.TallyTrue", spec := "tallyTrue", unfollowed := true, recurses := true, plainKeys := false, apart := false, narrowed := true }
def TallyTrueUptoSaid : Prop := tallyTrueUptoRow.holds Try.pinned (OpenSpec.upto tallyTrueSpec)

/-- 'shearworkslaw05.TallyEnds', WHERE WHAT IT READS IS OF BULK AT MOST 1048576: true; the input reads as it did. -/
def tallyEndsUptoRow : OpenClaim := { program := "ytnmiompeofbagaa", sum := "220d144d1e1ca1e174a43135db3685835a6c2ea0b55ca44e90d046c8481cec3e", func := "shearworks/shearworkslaw05.TallyEnds", spec := "tallyEnds", unfollowed := true, recurses := true, plainKeys := false, apart := false, narrowed := true }
def TallyEndsUptoSaid : Prop := tallyEndsUptoRow.holds Try.pinned (OpenSpec.upto tallyEndsSpec)

/-- 'shearworkslaw05.TallySums', WHERE WHAT IT READS IS OF BULK AT MOST 1048576: true; the input reads as it did. -/
def tallySumsUptoRow : OpenClaim := { program := "ytnmiompeofbagaa", sum := "220d144d1e1ca1e174a43135db3685835a6c2ea0b55ca44e90d046c8481cec3e", func := "shearworks/shearworkslaw05.TallySums", spec := "tallySums", unfollowed := true, recurses := true, plainKeys := false, apart := false, narrowed := true }
def TallySumsUptoSaid : Prop := tallySumsUptoRow.holds Try.pinned (OpenSpec.upto tallySumsSpec)

/-- 'shearworkslaw05.TallyFalse', WHERE WHAT IT READS IS OF BULK AT MOST 1048576: true; the input reads as it did. -/
def tallyFalseUptoRow : OpenClaim := { program := "ytnmiompeofbagaa", sum := "220d144d1e1ca1e174a43135db3685835a6c2ea0b55ca44e90d046c8481cec3e", func := "shearworks/shearworkslaw05.TallyFalse", spec := "tallyFalse", unfollowed := true, recurses := true, plainKeys := false, apart := false, narrowed := true }
def TallyFalseUptoSaid : Prop := tallyFalseUptoRow.holds Try.pinned (OpenSpec.upto tallyFalseSpec)

/-- 'shearworkslaw05.TallyClash', WHERE WHAT IT READS IS OF BULK AT MOST 1048576: true; the input reads as it did. -/
def tallyClashUptoRow : OpenClaim := { program := "ytnmiompeofbagaa", sum := "220d144d1e1ca1e174a43135db3685835a6c2ea0b55ca44e90d046c8481cec3e", func := "shearworks/shearworkslaw05.TallyClash", spec := "tallyClash", unfollowed := true, recurses := true, plainKeys := false, apart := false, narrowed := true }
def TallyClashUptoSaid : Prop := tallyClashUptoRow.holds Try.pinned (OpenSpec.upto tallyClashSpec)

/-- 'shearworkslaw05.TallyMore', WHERE WHAT IT READS IS OF BULK AT MOST 1048576: true; the input reads as it did. -/
def tallyMoreUptoRow : OpenClaim := { program := "ytnmiompeofbagaa", sum := "220d144d1e1ca1e174a43135db3685835a6c2ea0b55ca44e90d046c8481cec3e", func := "shearworks/shearworkslaw05.TallyMore", spec := "tallyMore", unfollowed := true, recurses := true, plainKeys := false, apart := false, narrowed := true }
def TallyMoreUptoSaid : Prop := tallyMoreUptoRow.holds Try.pinned (OpenSpec.upto tallyMoreSpec)

end Rows
end Go.Proofs.Ytnmiompeofbagaa
