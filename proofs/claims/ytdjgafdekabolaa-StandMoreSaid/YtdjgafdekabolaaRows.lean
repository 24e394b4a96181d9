/-
  No cell of these rows narrows 'for every input' (looked for: loops, veiled, ifaces, maps, wideKeys, modest, calm, conditions, laid).
  DERIVED. THE GIVEN ROWS OF THIS SEAT. 9 by the template 'for every input the law returns true; each argument reads behind the call as it read before'; 0 by the template 'total and deterministic' (their statements: YtdjgafdekabolaaTotals.lean).
  GIVEN WITH THE SEED: the statements are not yours to turn. If you find one false, say at which input.
  Laid BY PROGRAM, IN A SANDBOX (cutbox-rows.mjs): the forced cells as the released guide's own fill.sh prints them over the translation 0fafd19ca4e38cbb… (all of the seat's roots in one cut). By AI agents, Wed Nov 11 2026. No macro, syntax, notation, axiom, sorry.
-/
import Derived.Test.YtdjgafdekabolaaChecked
import GoSem.Claim
import GoSem.ClaimJoined
import GoSem.ClaimMapViews
import Derived.JoinedTies
import Derived.KernelRfl
namespace Go.Proofs.Ytdjgafdekabolaa
/- THE CELL 'sum', in the pinned program and in every row, IS THE sha256 OF THE DUMP (.gsa) THAT YtdjgafdekabolaaProg.lean LOADS. Nothing in Lean hashes anything: it is a label: what it is worth is what the hold of that sum in a sandbox is worth. -/
noncomputable def Try.pinned : Pinned := { name := "ytdjgafdekabolaa", sum := "0fafd19ca4e38cbbacbb1084d87cd714c1e6a2c4bdb2abf2446d296c629262f7", checked := Try.checked }
namespace Rows
def none {H : Type} : Left H := { results := [], args := [] }

/-- 'shearworkslaw04.StandReads': WHATEVER THE INPUT: true; the input reads as it did. -/
def standReadsSpec : ChangeSpec := { name := "standReads", fn := fun _ => fun
  | [d1, d2, d3, d4] => { results := [.lit (.bool true)], args := [d1, d2, d3, d4] }
  | _ => none }
def standReadsRow : OpenClaim := { program := "ytdjgafdekabolaa", sum := "0fafd19ca4e38cbbacbb1084d87cd714c1e6a2c4bdb2abf2446d296c629262f7", func := "shearworks/shearworkslaw04.StandReads", spec := "standReads", unfollowed := true, recurses := true, plainKeys := false, apart := false }
def StandReadsSaid : Prop := standReadsRow.holds Try.pinned (OpenSpec.ofChange standReadsSpec)

/-- ITS FALSE NEIGHBOUR: 'it returns false'. Refute it at one input. -/
def standReadsWrong : ChangeSpec := { name := "standReads", fn := fun _ => fun
  | [d1, d2, d3, d4] => { results := [.lit (.bool false)], args := [d1, d2, d3, d4] }
  | _ => none }
def StandReadsWrongFalsely : Prop := standReadsRow.holds Try.pinned (OpenSpec.ofChange standReadsWrong)

/-- 'shearworkslaw04.StandRuns': WHATEVER THE INPUT: true; the input reads as it did. -/
def standRunsSpec : ChangeSpec := { name := "standRuns", fn := fun _ => fun
  | [d1, d2] => { results := [.lit (.bool true)], args := [d1, d2] }
  | _ => none }
def standRunsRow : OpenClaim := { program := "ytdjgafdekabolaa", sum := "0fafd19ca4e38cbbacbb1084d87cd714c1e6a2c4bdb2abf2446d296c629262f7", func := "shearworks/shearworkslaw04.StandRuns", spec := "standRuns", unfollowed := true, recurses := true, plainKeys := false, apart := false }
def StandRunsSaid : Prop := standRunsRow.holds Try.pinned (OpenSpec.ofChange standRunsSpec)

/-- ITS FALSE NEIGHBOUR: 'it returns false'. Refute it at one input. -/
def standRunsWrong : ChangeSpec := { name := "standRuns", fn := fun _ => fun
  | [d1, d2] => { results := [.lit (.bool false)], args := [d1, d2] }
  | _ => none }
def StandRunsWrongFalsely : Prop := standRunsRow.holds Try.pinned (OpenSpec.ofChange standRunsWrong)

/-- 'shearworkslaw04.StandTrue': WHATEVER THE INPUT: true; the input reads as it did. -/
def standTrueSpec : ChangeSpec := { name := "standTrue", fn := fun _ => fun
  | [d1, d2, d3] => { results := [.lit (.bool true)], args := [d1, d2, d3] }
  | _ => none }
def standTrueRow : OpenClaim := { program := "ytdjgafdekabolaa", sum := "0fafd19ca4e38cbbacbb1084d87cd714c1e6a2c4bdb2abf2446d296c629262f7", func := "shearworks/shearworkslaw04.StandTrue", spec := "standTrue", unfollowed := true, recurses := true, plainKeys := false, apart := false }
def StandTrueSaid : Prop := standTrueRow.holds Try.pinned (OpenSpec.ofChange standTrueSpec)

/-- ITS FALSE NEIGHBOUR: 'it returns false'. Refute it at one input. -/
def standTrueWrong : ChangeSpec := { name := "standTrue", fn := fun _ => fun
  | [d1, d2, d3] => { results := [.lit (.bool false)], args := [d1, d2, d3] }
  | _ => none }
def StandTrueWrongFalsely : Prop := standTrueRow.holds Try.pinned (OpenSpec.ofChange standTrueWrong)

/-- 'shearworkslaw04.StandEnds': WHATEVER THE INPUT: true; the input reads as it did. -/
def standEndsSpec : ChangeSpec := { name := "standEnds", fn := fun _ => fun
  | [d1, d2, d3] => { results := [.lit (.bool true)], args := [d1, d2, d3] }
  | _ => none }
def standEndsRow : OpenClaim := { program := "ytdjgafdekabolaa", sum := "0fafd19ca4e38cbbacbb1084d87cd714c1e6a2c4bdb2abf2446d296c629262f7", func := "shearworks/shearworkslaw04.StandEnds", spec := "standEnds", unfollowed := true, recurses := true, plainKeys := false, apart := false }
def StandEndsSaid : Prop := standEndsRow.holds Try.pinned (OpenSpec.ofChange standEndsSpec)

/-- ITS FALSE NEIGHBOUR: 'it returns false'. Refute it at one input. -/
def standEndsWrong : ChangeSpec := { name := "standEnds", fn := fun _ => fun
  | [d1, d2, d3] => { results := [.lit (.bool false)], args := [d1, d2, d3] }
  | _ => none }
def StandEndsWrongFalsely : Prop := standEndsRow.holds Try.pinned (OpenSpec.ofChange standEndsWrong)

/-- 'shearworkslaw04.StandTakes': WHATEVER THE INPUT: true; the input reads as it did. -/
def standTakesSpec : ChangeSpec := { name := "standTakes", fn := fun _ => fun
  | [d1, d2, d3] => { results := [.lit (.bool true)], args := [d1, d2, d3] }
  | _ => none }
def standTakesRow : OpenClaim := { program := "ytdjgafdekabolaa", sum := "0fafd19ca4e38cbbacbb1084d87cd714c1e6a2c4bdb2abf2446d296c629262f7", func := "shearworks/shearworkslaw04.StandTakes", spec := "standTakes", unfollowed := true, recurses := true, plainKeys := false, apart := false }
def StandTakesSaid : Prop := standTakesRow.holds Try.pinned (OpenSpec.ofChange standTakesSpec)

/-- ITS FALSE NEIGHBOUR: 'it returns false'. Refute it at one input. -/
def standTakesWrong : ChangeSpec := { name := "standTakes", fn := fun _ => fun
  | [d1, d2, d3] => { results := [.lit (.bool false)], args := [d1, d2, d3] }
  | _ => none }
def StandTakesWrongFalsely : Prop := standTakesRow.holds Try.pinned (OpenSpec.ofChange standTakesWrong)

/-- 'shearworkslaw04.StandRises': WHATEVER THE INPUT: true; the input reads as it did. -/
def standRisesSpec : ChangeSpec := { name := "standRises", fn := fun _ => fun
  | [d1, d2] => { results := [.lit (.bool true)], args := [d1, d2] }
  | _ => none }
def standRisesRow : OpenClaim := { program := "ytdjgafdekabolaa", sum := "0fafd19ca4e38cbbacbb1084d87cd714c1e6a2c4bdb2abf2446d296c629262f7", func := "shearworks/shearworkslaw04.StandRises", spec := "standRises", unfollowed := true, recurses := true, plainKeys := false, apart := false }
def StandRisesSaid : Prop := standRisesRow.holds Try.pinned (OpenSpec.ofChange standRisesSpec)

/-- ITS FALSE NEIGHBOUR: 'it returns false'. Refute it at one input. -/
def standRisesWrong : ChangeSpec := { name := "standRises", fn := fun _ => fun
  | [d1, d2] => { results := [.lit (.bool false)], args := [d1, d2] }
  | _ => none }
def StandRisesWrongFalsely : Prop := standRisesRow.holds Try.pinned (OpenSpec.ofChange standRisesWrong)

/-- 'shearworkslaw04.StandClash': WHATEVER THE INPUT: true; the input reads as it did. -/
def standClashSpec : ChangeSpec := { name := "standClash", fn := fun _ => fun
  | [d1, d2] => { results := [.lit (.bool true)], args := [d1, d2] }
  | _ => none }
def standClashRow : OpenClaim := { program := "ytdjgafdekabolaa", sum := "0fafd19ca4e38cbbacbb1084d87cd714c1e6a2c4bdb2abf2446d296c629262f7", func := "shearworks/shearworkslaw04.StandClash", spec := "standClash", unfollowed := true, recurses := true, plainKeys := false, apart := false }
def StandClashSaid : Prop := standClashRow.holds Try.pinned (OpenSpec.ofChange standClashSpec)

/-- ITS FALSE NEIGHBOUR: 'it returns false'. Refute it at one input. -/
def standClashWrong : ChangeSpec := { name := "standClash", fn := fun _ => fun
  | [d1, d2] => { results := [.lit (.bool false)], args := [d1, d2] }
  | _ => none }
def StandClashWrongFalsely : Prop := standClashRow.holds Try.pinned (OpenSpec.ofChange standClashWrong)

/-- 'shearworkslaw04.StandMore': WHATEVER THE INPUT: true; the input reads as it did. -/
def standMoreSpec : ChangeSpec := { name := "standMore", fn := fun _ => fun
  | [d1, d2, d3, d4, d5] => { results := [.lit (.bool true)], args := [d1, d2, d3, d4, d5] }
  | _ => none }
def standMoreRow : OpenClaim := { program := "ytdjgafdekabolaa", sum := "0fafd19ca4e38cbbacbb1084d87cd714c1e6a2c4bdb2abf2446d296c629262f7", func := "shearworks/shearworkslaw04.StandMore", spec := "standMore", unfollowed := true, recurses := true, plainKeys := false, apart := false }
def StandMoreSaid : Prop := standMoreRow.holds Try.pinned (OpenSpec.ofChange standMoreSpec)

/-- ITS FALSE NEIGHBOUR: 'it returns false'. Refute it at one input. -/
def standMoreWrong : ChangeSpec := { name := "standMore", fn := fun _ => fun
  | [d1, d2, d3, d4, d5] => { results := [.lit (.bool false)], args := [d1, d2, d3, d4, d5] }
  | _ => none }
def StandMoreWrongFalsely : Prop := standMoreRow.holds Try.pinned (OpenSpec.ofChange standMoreWrong)

/-- 'shearworkstop.TopShorn': WHATEVER THE INPUT: true; the input reads as it did. -/
def topShornSpec : ChangeSpec := { name := "topShorn", fn := fun _ => fun
  | [d1, d2, d3, d4] => { results := [.lit (.bool true)], args := [d1, d2, d3, d4] }
  | _ => none }
def topShornRow : OpenClaim := { program := "ytdjgafdekabolaa", sum := "0fafd19ca4e38cbbacbb1084d87cd714c1e6a2c4bdb2abf2446d296c629262f7", func := "shearworks/shearworkstop.TopShorn", spec := "topShorn", unfollowed := true, recurses := true, plainKeys := false, apart := false }
def TopShornSaid : Prop := topShornRow.holds Try.pinned (OpenSpec.ofChange topShornSpec)

/-- ITS FALSE NEIGHBOUR: 'it returns false'. Refute it at one input. -/
def topShornWrong : ChangeSpec := { name := "topShorn", fn := fun _ => fun
  | [d1, d2, d3, d4] => { results := [.lit (.bool false)], args := [d1, d2, d3, d4] }
  | _ => none }
def TopShornWrongFalsely : Prop := topShornRow.holds Try.pinned (OpenSpec.ofChange topShornWrong)

/- THE SECOND FORM. 'bulk': how many values and letters a reading holds, each counted each time it is reached (what is shared counts as often as it is met; a slice's spare places count too). A statement '..UptoSaid' is the law's where the arguments, and the package variables that the reading takes, are together of bulk at most 1048576: NARROWER than '..Said'. Prove '..Said' where nothing that the law and all that it calls make is longer than what came in: it says more and counts as full. Else prove '..UptoSaid'. A law counts once. -/
mutual
def uptoBulk {H : Type} : DataW H → Nat
  | .lit (.string bytes) => bytes.length + 1
  | .lit _ => 1
  | .nil => 1
  | .ptr d => uptoBulk d + 1
  | .slice elems spare => uptoBulkAll elems + uptoBulkAll spare + 1
  | .agg parts => uptoBulkAll parts + 1
  | .iface _ d => uptoBulk d + 1
  | .map entries => uptoBulkEntries entries + 1
  | .held _ => 1
def uptoBulkAll {H : Type} : List (DataW H) → Nat
  | [] => 0
  | d :: r => uptoBulk d + uptoBulkAll r
def uptoBulkEntries {H : Type} : List (Lit × DataW H) → Nat
  | [] => 0
  | x :: r => uptoBulkEntry x + uptoBulkEntries r
def uptoBulkEntry {H : Type} : Lit × DataW H → Nat
  | (.string bytes, d) => bytes.length + uptoBulk d + 1
  | (_, d) => uptoBulk d + 1
 end
def uptoSmall : (H : Type) → List (DataW H) → Bool := fun _ ds => decide (uptoBulkAll ds ≤ 1048576)
def OpenSpec.upto (s : _root_.Go.ChangeSpec) : _root_.Go.OpenSpec := { _root_.Go.OpenSpec.ofChange s with cond := some uptoSmall }

/-- 'shearworkslaw04.StandReads', WHERE WHAT IT READS IS OF BULK AT MOST 1048576: true; the input reads as it did. -/
def standReadsUptoRow : OpenClaim := { program := "ytdjgafdekabolaa", sum := "0fafd19ca4e38cbbacbb1084d87cd714c1e6a2c4bdb2abf2446d296c629262f7", func := "shearworks/shearworkslaw04.StandReads", spec := "standReads", unfollowed := true, recurses := true, plainKeys := false, apart := false, narrowed := true }
def StandReadsUptoSaid : Prop := standReadsUptoRow.holds Try.pinned (OpenSpec.upto standReadsSpec)

/-- 'shearworkslaw04.StandRuns', WHERE WHAT IT READS IS OF BULK AT MOST 1048576: true; the input reads as it did. -/
def standRunsUptoRow : OpenClaim := { program := "ytdjgafdekabolaa", sum := "0fafd19ca4e38cbbacbb1084d87cd714c1e6a2c4bdb2abf2446d296c629262f7", func := "shearworks/shearworkslaw04.StandRuns", spec := "standRuns", unfollowed := true, recurses := true, plainKeys := false, apart := false, narrowed := true }
def StandRunsUptoSaid : Prop := standRunsUptoRow.holds Try.pinned (OpenSpec.upto standRunsSpec)

/-- 'shearworkslaw04.StandTrue', WHERE WHAT IT READS IS OF BULK AT MOST 1048576: true; the input reads as it did. -/
def standTrueUptoRow : OpenClaim := { program := "ytdjgafdekabolaa", sum := "0fafd19ca4e38cbbacbb1084d87cd714c1e6a2c4bdb2abf2446d296c629262f7", func := "shearworks/shearworkslaw04.StandTrue", spec := "standTrue", unfollowed := true, recurses := true, plainKeys := false, apart := false, narrowed := true }
def StandTrueUptoSaid : Prop := standTrueUptoRow.holds Try.pinned (OpenSpec.upto standTrueSpec)

/-- 'shearworkslaw04.StandEnds', WHERE WHAT IT READS IS OF BULK AT MOST 1048576: true; the input reads as it did. -/
def standEndsUptoRow : OpenClaim := { program := "ytdjgafdekabolaa", sum := "0fafd19ca4e38cbbacbb1084d87cd714c1e6a2c4bdb2abf2446d296c629262f7", func := "shearworks/shearworkslaw04.StandEnds", spec := "standEnds", unfollowed := true, recurses := true, plainKeys := false, apart := false, narrowed := true }
def StandEndsUptoSaid : Prop := standEndsUptoRow.holds Try.pinned (OpenSpec.upto standEndsSpec)

/-- 'shearworkslaw04.StandTakes', WHERE WHAT IT READS IS OF BULK AT MOST 1048576: true; the input reads as it did. -/
def standTakesUptoRow : OpenClaim := { program := "ytdjgafdekabolaa", sum := "0fafd19ca4e38cbbacbb1084d87cd714c1e6a2c4bdb2abf2446d296c629262f7", func := "shearworks/shearworkslaw04.StandTakes", spec := "standTakes", unfollowed := true, recurses := true, plainKeys := false, apart := false, narrowed := true }
def StandTakesUptoSaid : Prop := standTakesUptoRow.holds Try.pinned (OpenSpec.upto standTakesSpec)

/-- 'shearworkslaw04.StandRises', WHERE WHAT IT READS IS OF BULK AT MOST 1048576: true; the input reads as it did. -/
def standRisesUptoRow : OpenClaim := { program := "ytdjgafdekabolaa", sum := "0fafd19ca4e38cbbacbb1084d87cd714c1e6a2c4bdb2abf2446d296c629262f7", func := "shearworks/shearworkslaw04.StandRises", spec := "standRises", unfollowed := true, recurses := true, plainKeys := false, apart := false, narrowed := true }
def StandRisesUptoSaid : Prop := standRisesUptoRow.holds Try.pinned (OpenSpec.upto standRisesSpec)

/-- 'shearworkslaw04.StandClash', WHERE WHAT IT READS IS OF BULK AT MOST 1048576: true; the input reads as it did. -/
def standClashUptoRow : OpenClaim := { program := "ytdjgafdekabolaa", sum := "0fafd19ca4e38cbbacbb1084d87cd714c1e6a2c4bdb2abf2446d296c629262f7", func := "shearworks/shearworkslaw04.StandClash", spec := "standClash", unfollowed := true, recurses := true, plainKeys := false, apart := false, narrowed := true }
def StandClashUptoSaid : Prop := standClashUptoRow.holds Try.pinned (OpenSpec.upto standClashSpec)

/-- 'shearworkslaw04.StandMore', WHERE WHAT IT READS IS OF BULK AT MOST 1048576: true; the input reads as it did. -/
def standMoreUptoRow : OpenClaim := { program := "ytdjgafdekabolaa", sum := "0fafd19ca4e38cbbacbb1084d87cd714c1e6a2c4bdb2abf2446d296c629262f7", func := "shearworks/shearworkslaw04.StandMore", spec := "standMore", unfollowed := true, recurses := true, plainKeys := false, apart := false, narrowed := true }
def StandMoreUptoSaid : Prop := standMoreUptoRow.holds Try.pinned (OpenSpec.upto standMoreSpec)

/-- 'shearworkstop.TopShorn', WHERE WHAT IT READS IS OF BULK AT MOST 1048576: true; the input reads as it did. -/
def topShornUptoRow : OpenClaim := { program := "ytdjgafdekabolaa", sum := "0fafd19ca4e38cbbacbb1084d87cd714c1e6a2c4bdb2abf2446d296c629262f7", func := "shearworks/shearworkstop.TopShorn", spec := "topShorn", unfollowed := true, recurses := true, plainKeys := false, apart := false, narrowed := true }
def TopShornUptoSaid : Prop := topShornUptoRow.holds Try.pinned (OpenSpec.upto topShornSpec)

end Rows
end Go.Proofs.Ytdjgafdekabolaa
