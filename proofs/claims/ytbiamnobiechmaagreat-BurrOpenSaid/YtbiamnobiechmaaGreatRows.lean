/-
  No cell of these rows narrows 'for every input' (looked for: loops, veiled, ifaces, maps, wideKeys, modest, calm, conditions, laid).
  DERIVED. THE GIVEN ROWS OF THIS SEAT. 9 by the template 'for every input the law returns true; each argument reads behind the call as it read before'; 0 by the template 'total and deterministic' (their statements: YtbiamnobiechmaaGreatTotals.lean).
  GIVEN WITH THE SEED: the statements are not yours to turn. If you find one false, say at which input.
  Laid BY PROGRAM, IN A SANDBOX (cutbox-rows.mjs): the forced cells as the released guide's own fill.sh prints them over the translation 1fd9f2bcab336c41… (all of the seat's roots in one cut). By AI agents, Wed Nov 11 2026. No macro, syntax, notation, axiom, sorry.
-/
import Derived.Test.YtbiamnobiechmaaGreatChecked
import GoSem.Claim
import GoSem.ClaimJoined
import GoSem.ClaimMapViews
import Derived.JoinedTies
import Derived.KernelRfl
namespace Go.Proofs.YtbiamnobiechmaaGreat
/- THE CELL 'sum', in the pinned program and in every row, IS THE sha256 OF THE DUMP (.gsa) THAT YtbiamnobiechmaaGreatProg.lean LOADS. Nothing in Lean hashes anything: it is a label: what it is worth is what the hold of that sum in a sandbox is worth. -/
noncomputable def Tryz.pinned : Pinned := { name := "ytbiamnobiechmaagreat", sum := "1fd9f2bcab336c41b0bc83ec83c376369459bee700fa2a4b6cf50f83c26e9e5d", checked := Tryz.checked }
namespace Rows
def none {H : Type} : Left H := { results := [], args := [] }

/-- 'shearworkslaw07.BurrTells': WHATEVER THE INPUT: true; the input reads as it did. -/
def burrTellsSpec : ChangeSpec := { name := "burrTells", fn := fun _ => fun
  | [d] => { results := [.lit (.bool true)], args := [d] }
  | _ => none }
def burrTellsRow : OpenClaim := { program := "ytbiamnobiechmaagreat", sum := "1fd9f2bcab336c41b0bc83ec83c376369459bee700fa2a4b6cf50f83c26e9e5d", func := "shearworks/shearworkslaw07.BurrTells", spec := "burrTells", unfollowed := true, recurses := true, plainKeys := false, apart := false }
def BurrTellsSaid : Prop := burrTellsRow.holds Tryz.pinned (OpenSpec.ofChange burrTellsSpec)

/-- ITS FALSE NEIGHBOUR: 'it returns false'. Refute it at one input. -/
def burrTellsWrong : ChangeSpec := { name := "burrTells", fn := fun _ => fun
  | [d] => { results := [.lit (.bool false)], args := [d] }
  | _ => none }
def BurrTellsWrongFalsely : Prop := burrTellsRow.holds Tryz.pinned (OpenSpec.ofChange burrTellsWrong)

/-- 'shearworkslaw07.BurrOpens': WHATEVER THE INPUT: true; the input reads as it did. -/
def burrOpensSpec : ChangeSpec := { name := "burrOpens", fn := fun _ => fun
  | [d] => { results := [.lit (.bool true)], args := [d] }
  | _ => none }
def burrOpensRow : OpenClaim := { program := "ytbiamnobiechmaagreat", sum := "1fd9f2bcab336c41b0bc83ec83c376369459bee700fa2a4b6cf50f83c26e9e5d", func := "shearworks/shearworkslaw07.BurrOpens", spec := "burrOpens", unfollowed := true, recurses := true, plainKeys := false, apart := false }
def BurrOpensSaid : Prop := burrOpensRow.holds Tryz.pinned (OpenSpec.ofChange burrOpensSpec)

/-- ITS FALSE NEIGHBOUR: 'it returns false'. Refute it at one input. -/
def burrOpensWrong : ChangeSpec := { name := "burrOpens", fn := fun _ => fun
  | [d] => { results := [.lit (.bool false)], args := [d] }
  | _ => none }
def BurrOpensWrongFalsely : Prop := burrOpensRow.holds Tryz.pinned (OpenSpec.ofChange burrOpensWrong)

/-- 'shearworkslaw07.BurrNames': WHATEVER THE INPUT: true; the input reads as it did. -/
def burrNamesSpec : ChangeSpec := { name := "burrNames", fn := fun _ => fun
  | [] => { results := [.lit (.bool true)], args := [] }
  | _ => none }
def burrNamesRow : OpenClaim := { program := "ytbiamnobiechmaagreat", sum := "1fd9f2bcab336c41b0bc83ec83c376369459bee700fa2a4b6cf50f83c26e9e5d", func := "shearworks/shearworkslaw07.BurrNames", spec := "burrNames", unfollowed := true, recurses := true, plainKeys := false, apart := false }
def BurrNamesSaid : Prop := burrNamesRow.holds Tryz.pinned (OpenSpec.ofChange burrNamesSpec)

/-- ITS FALSE NEIGHBOUR: 'it returns false'. Refute it at one input. -/
def burrNamesWrong : ChangeSpec := { name := "burrNames", fn := fun _ => fun
  | [] => { results := [.lit (.bool false)], args := [] }
  | _ => none }
def BurrNamesWrongFalsely : Prop := burrNamesRow.holds Tryz.pinned (OpenSpec.ofChange burrNamesWrong)

/-- 'shearworkslaw07.BurrTrue': WHATEVER THE INPUT: true; the input reads as it did. -/
def burrTrueSpec : ChangeSpec := { name := "burrTrue", fn := fun _ => fun
  | [d1, d2, d3] => { results := [.lit (.bool true)], args := [d1, d2, d3] }
  | _ => none }
def burrTrueRow : OpenClaim := { program := "ytbiamnobiechmaagreat", sum := "1fd9f2bcab336c41b0bc83ec83c376369459bee700fa2a4b6cf50f83c26e9e5d", func := "shearworks/shearworkslaw07.BurrTrue", spec := "burrTrue", unfollowed := true, recurses := true, plainKeys := false, apart := false }
def BurrTrueSaid : Prop := burrTrueRow.holds Tryz.pinned (OpenSpec.ofChange burrTrueSpec)

/-- ITS FALSE NEIGHBOUR: 'it returns false'. Refute it at one input. -/
def burrTrueWrong : ChangeSpec := { name := "burrTrue", fn := fun _ => fun
  | [d1, d2, d3] => { results := [.lit (.bool false)], args := [d1, d2, d3] }
  | _ => none }
def BurrTrueWrongFalsely : Prop := burrTrueRow.holds Tryz.pinned (OpenSpec.ofChange burrTrueWrong)

/-- 'shearworkslaw07.BurrWays': WHATEVER THE INPUT: true; the input reads as it did. -/
def burrWaysSpec : ChangeSpec := { name := "burrWays", fn := fun _ => fun
  | [d] => { results := [.lit (.bool true)], args := [d] }
  | _ => none }
def burrWaysRow : OpenClaim := { program := "ytbiamnobiechmaagreat", sum := "1fd9f2bcab336c41b0bc83ec83c376369459bee700fa2a4b6cf50f83c26e9e5d", func := "shearworks/shearworkslaw07.BurrWays", spec := "burrWays", unfollowed := true, recurses := true, plainKeys := false, apart := false }
def BurrWaysSaid : Prop := burrWaysRow.holds Tryz.pinned (OpenSpec.ofChange burrWaysSpec)

/-- ITS FALSE NEIGHBOUR: 'it returns false'. Refute it at one input. -/
def burrWaysWrong : ChangeSpec := { name := "burrWays", fn := fun _ => fun
  | [d] => { results := [.lit (.bool false)], args := [d] }
  | _ => none }
def BurrWaysWrongFalsely : Prop := burrWaysRow.holds Tryz.pinned (OpenSpec.ofChange burrWaysWrong)

/-- 'shearworkslaw07.BurrOpen': WHATEVER THE INPUT: true; the input reads as it did. -/
def burrOpenSpec : ChangeSpec := { name := "burrOpen", fn := fun _ => fun
  | [d1, d2] => { results := [.lit (.bool true)], args := [d1, d2] }
  | _ => none }
def burrOpenRow : OpenClaim := { program := "ytbiamnobiechmaagreat", sum := "1fd9f2bcab336c41b0bc83ec83c376369459bee700fa2a4b6cf50f83c26e9e5d", func := "shearworks/shearworkslaw07.BurrOpen", spec := "burrOpen", unfollowed := true, recurses := true, plainKeys := false, apart := false }
def BurrOpenSaid : Prop := burrOpenRow.holds Tryz.pinned (OpenSpec.ofChange burrOpenSpec)

/-- ITS FALSE NEIGHBOUR: 'it returns false'. Refute it at one input. -/
def burrOpenWrong : ChangeSpec := { name := "burrOpen", fn := fun _ => fun
  | [d1, d2] => { results := [.lit (.bool false)], args := [d1, d2] }
  | _ => none }
def BurrOpenWrongFalsely : Prop := burrOpenRow.holds Tryz.pinned (OpenSpec.ofChange burrOpenWrong)

/-- 'shearworkslaw07.BurrNext': WHATEVER THE INPUT: true; the input reads as it did. -/
def burrNextSpec : ChangeSpec := { name := "burrNext", fn := fun _ => fun
  | [d1, d2] => { results := [.lit (.bool true)], args := [d1, d2] }
  | _ => none }
def burrNextRow : OpenClaim := { program := "ytbiamnobiechmaagreat", sum := "1fd9f2bcab336c41b0bc83ec83c376369459bee700fa2a4b6cf50f83c26e9e5d", func := "shearworks/shearworkslaw07.BurrNext", spec := "burrNext", unfollowed := true, recurses := true, plainKeys := false, apart := false }
def BurrNextSaid : Prop := burrNextRow.holds Tryz.pinned (OpenSpec.ofChange burrNextSpec)

/-- ITS FALSE NEIGHBOUR: 'it returns false'. Refute it at one input. -/
def burrNextWrong : ChangeSpec := { name := "burrNext", fn := fun _ => fun
  | [d1, d2] => { results := [.lit (.bool false)], args := [d1, d2] }
  | _ => none }
def BurrNextWrongFalsely : Prop := burrNextRow.holds Tryz.pinned (OpenSpec.ofChange burrNextWrong)

/-- 'shearworkslaw07.BurrClash': WHATEVER THE INPUT: true; the input reads as it did. -/
def burrClashSpec : ChangeSpec := { name := "burrClash", fn := fun _ => fun
  | [d1, d2] => { results := [.lit (.bool true)], args := [d1, d2] }
  | _ => none }
def burrClashRow : OpenClaim := { program := "ytbiamnobiechmaagreat", sum := "1fd9f2bcab336c41b0bc83ec83c376369459bee700fa2a4b6cf50f83c26e9e5d", func := "shearworks/shearworkslaw07.BurrClash", spec := "burrClash", unfollowed := true, recurses := true, plainKeys := false, apart := false }
def BurrClashSaid : Prop := burrClashRow.holds Tryz.pinned (OpenSpec.ofChange burrClashSpec)

/-- ITS FALSE NEIGHBOUR: 'it returns false'. Refute it at one input. -/
def burrClashWrong : ChangeSpec := { name := "burrClash", fn := fun _ => fun
  | [d1, d2] => { results := [.lit (.bool false)], args := [d1, d2] }
  | _ => none }
def BurrClashWrongFalsely : Prop := burrClashRow.holds Tryz.pinned (OpenSpec.ofChange burrClashWrong)

/-- 'shearworkslaw07.BurrMore': WHATEVER THE INPUT: true; the input reads as it did. -/
def burrMoreSpec : ChangeSpec := { name := "burrMore", fn := fun _ => fun
  | [d1, d2, d3] => { results := [.lit (.bool true)], args := [d1, d2, d3] }
  | _ => none }
def burrMoreRow : OpenClaim := { program := "ytbiamnobiechmaagreat", sum := "1fd9f2bcab336c41b0bc83ec83c376369459bee700fa2a4b6cf50f83c26e9e5d", func := "shearworks/shearworkslaw07.BurrMore", spec := "burrMore", unfollowed := true, recurses := true, plainKeys := false, apart := false }
def BurrMoreSaid : Prop := burrMoreRow.holds Tryz.pinned (OpenSpec.ofChange burrMoreSpec)

/-- ITS FALSE NEIGHBOUR: 'it returns false'. Refute it at one input. -/
def burrMoreWrong : ChangeSpec := { name := "burrMore", fn := fun _ => fun
  | [d1, d2, d3] => { results := [.lit (.bool false)], args := [d1, d2, d3] }
  | _ => none }
def BurrMoreWrongFalsely : Prop := burrMoreRow.holds Tryz.pinned (OpenSpec.ofChange burrMoreWrong)

/- THE SECOND FORM. 'bulk': how many values and letters a reading holds, each counted each time it is reached (what is shared counts as often as it is met; a slice's spare places count too). A statement '..UptoSaid' is the law's where the arguments, and the package variables that the reading takes, are together of bulk at most 1048576: NARROWER than '..Said'. Prove '..Said' where nothing that the law and all that it calls make is longer than what came in: it says more and counts as full. Else prove '..UptoSaid'. A law counts once. -/
mutual
def uptoBulk {H : Type} : DataW H → Nat
  | .lit (.string bytes) => bytes.length + 1
  | .lit _ => 1
  | .nil => 1
  | .ptr d => uptoBulk d + 1
  | .slice elems spare => uptoBulkAll elems + uptoBulkAll spare + 1
  | .agg parts => uptoBulkAll parts + 1
  | .iface _ d => uptoBulk d + 1
  | .map entries => uptoBulkEntries entries + 1
  | .held _ => 1
def uptoBulkAll {H : Type} : List (DataW H) → Nat
  | [] => 0
  | d :: r => uptoBulk d + uptoBulkAll r
def uptoBulkEntries {H : Type} : List (Lit × DataW H) → Nat
  | [] => 0
  | x :: r => uptoBulkEntry x + uptoBulkEntries r
def uptoBulkEntry {H : Type} : Lit × DataW H → Nat
  | (.string bytes, d) => bytes.length + uptoBulk d + 1
  | (_, d) => uptoBulk d + 1
 end
def uptoSmall : (H : Type) → List (DataW H) → Bool := fun _ ds => decide (uptoBulkAll ds ≤ 1048576)
def OpenSpec.upto (s : _root_.Go.ChangeSpec) : _root_.Go.OpenSpec := { _root_.Go.OpenSpec.ofChange s with cond := some uptoSmall }

/-- 'shearworkslaw07.BurrTells', WHERE WHAT IT READS IS OF BULK AT MOST 1048576: true; the input reads as it did. -/
def burrTellsUptoRow : OpenClaim := { program := "ytbiamnobiechmaagreat", sum := "1fd9f2bcab336c41b0bc83ec83c376369459bee700fa2a4b6cf50f83c26e9e5d", func := "shearworks/shearworkslaw07.BurrTells", spec := "burrTells", unfollowed := true, recurses := true, plainKeys := false, apart := false, narrowed := true }
def BurrTellsUptoSaid : Prop := burrTellsUptoRow.holds Tryz.pinned (OpenSpec.upto burrTellsSpec)

/-- 'shearworkslaw07.BurrOpens', WHERE WHAT IT READS IS OF BULK AT MOST 1048576: true; the input reads as it did. -/
def burrOpensUptoRow : OpenClaim := { program := "ytbiamnobiechmaagreat", sum := "1fd9f2bcab336c41b0bc83ec83c376369459bee700fa2a4b6cf50f83c26e9e5d", func := "shearworks/shearworkslaw07.BurrOpens", spec := "burrOpens", unfollowed := true, recurses := true, plainKeys := false, apart := false, narrowed := true }
def BurrOpensUptoSaid : Prop := burrOpensUptoRow.holds Tryz.pinned (OpenSpec.upto burrOpensSpec)

/-- 'shearworkslaw07.BurrNames', WHERE WHAT IT READS IS OF BULK AT MOST 1048576: true; the input reads as it did. -/
def burrNamesUptoRow : OpenClaim := { program := "ytbiamnobiechmaagreat", sum := "1fd9f2bcab336c41b0bc83ec83c376369459bee700fa2a4b6cf50f83c26e9e5d", func := "shearworks/shearworkslaw07.BurrNames", spec := "burrNames", unfollowed := true, recurses := true, plainKeys := false, apart := false, narrowed := true }
def BurrNamesUptoSaid : Prop := burrNamesUptoRow.holds Tryz.pinned (OpenSpec.upto burrNamesSpec)

/-- 'shearworkslaw07.BurrTrue', WHERE WHAT IT READS IS OF BULK AT MOST 1048576: true; the input reads as it did. -/
def burrTrueUptoRow : OpenClaim := { program := "ytbiamnobiechmaagreat", sum := "1fd9f2bcab336c41b0bc83ec83c376369459bee700fa2a4b6cf50f83c26e9e5d", func := "shearworks/shearworkslaw07.BurrTrue", spec := "burrTrue", unfollowed := true, recurses := true, plainKeys := false, apart := false, narrowed := true }
def BurrTrueUptoSaid : Prop := burrTrueUptoRow.holds Tryz.pinned (OpenSpec.upto burrTrueSpec)

/-- 'shearworkslaw07.BurrWays', WHERE WHAT IT READS IS OF BULK AT MOST 1048576: true; the input reads as it did. -/
def burrWaysUptoRow : OpenClaim := { program := "ytbiamnobiechmaagreat", sum := "1fd9f2bcab336c41b0bc83ec83c376369459bee700fa2a4b6cf50f83c26e9e5d", func := "shearworks/shearworkslaw07.BurrWays", spec := "burrWays", unfollowed := true, recurses := true, plainKeys := false, apart := false, narrowed := true }
def BurrWaysUptoSaid : Prop := burrWaysUptoRow.holds Tryz.pinned (OpenSpec.upto burrWaysSpec)

/-- 'shearworkslaw07.BurrOpen', WHERE WHAT IT READS IS OF BULK AT MOST 1048576: true; the input reads as it did. -/
def burrOpenUptoRow : OpenClaim := { program := "ytbiamnobiechmaagreat", sum := "1fd9f2bcab336c41b0bc83ec83c376369459bee700fa2a4b6cf50f83c26e9e5d", func := "shearworks/shearworkslaw07.BurrOpen", spec := "burrOpen", unfollowed := true, recurses := true, plainKeys := false, apart := false, narrowed := true }
def BurrOpenUptoSaid : Prop := burrOpenUptoRow.holds Tryz.pinned (OpenSpec.upto burrOpenSpec)

/-- 'shearworkslaw07.BurrNext', WHERE WHAT IT READS IS OF BULK AT MOST 1048576: true; the input reads as it did. -/
def burrNextUptoRow : OpenClaim := { program := "ytbiamnobiechmaagreat", sum := "1fd9f2bcab336c41b0bc83ec83c376369459bee700fa2a4b6cf50f83c26e9e5d", func := "shearworks/shearworkslaw07.BurrNext", spec := "burrNext", unfollowed := true, recurses := true, plainKeys := false, apart := false, narrowed := true }
def BurrNextUptoSaid : Prop := burrNextUptoRow.holds Tryz.pinned (OpenSpec.upto burrNextSpec)

/-- 'shearworkslaw07.BurrClash', WHERE WHAT IT READS IS OF BULK AT MOST 1048576: true; the input reads as it did. -/
def burrClashUptoRow : OpenClaim := { program := "ytbiamnobiechmaagreat", sum := "1fd9f2bcab336c41b0bc83ec83c376369459bee700fa2a4b6cf50f83c26e9e5d", func := "shearworks/shearworkslaw07.BurrClash", spec := "burrClash", unfollowed := true, recurses := true, plainKeys := false, apart := false, narrowed := true }
def BurrClashUptoSaid : Prop := burrClashUptoRow.holds Tryz.pinned (OpenSpec.upto burrClashSpec)

/-- 'shearworkslaw07.BurrMore', WHERE WHAT IT READS IS OF BULK AT MOST 1048576: true; the input reads as it did. -/
def burrMoreUptoRow : OpenClaim := { program := "ytbiamnobiechmaagreat", sum := "1fd9f2bcab336c41b0bc83ec83c376369459bee700fa2a4b6cf50f83c26e9e5d", func := "shearworks/shearworkslaw07.BurrMore", spec := "burrMore", unfollowed := true, recurses := true, plainKeys := false, apart := false, narrowed := true }
def BurrMoreUptoSaid : Prop := burrMoreUptoRow.holds Tryz.pinned (OpenSpec.upto burrMoreSpec)

end Rows
end Go.Proofs.YtbiamnobiechmaaGreat
