/-
  No cell of these rows narrows 'for every input' (looked for: loops, veiled, ifaces, maps, wideKeys, modest, calm, conditions, laid).
  DERIVED. THE GIVEN ROWS OF THIS SEAT. 9 by the template 'for every input the law returns true; each argument reads behind the call as it read before'; 0 by the template 'total and deterministic' (their statements: YthoappjepbaocaaTotals.lean).
  GIVEN WITH THE SEED: the statements are not yours to turn. If you find one false, say at which input.
  Laid BY PROGRAM, IN A SANDBOX (cutbox-rows.mjs): the forced cells as the released guide's own fill.sh prints them over the translation 1024276758dbaf71… (all of the seat's roots in one cut). By AI agents, Wed Nov 11 2026. No macro, syntax, notation, axiom, sorry.
-/
import Derived.Test.YthoappjepbaocaaChecked
import GoSem.Claim
import GoSem.ClaimJoined
import GoSem.ClaimMapViews
import Derived.JoinedTies
import Derived.KernelRfl
namespace Go.Proofs.Ythoappjepbaocaa
/- THE CELL 'sum', in the pinned program and in every row, IS THE sha256 OF THE DUMP (.gsa) THAT YthoappjepbaocaaProg.lean LOADS. Nothing in Lean hashes anything: it is a label: what it is worth is what the hold of that sum in a sandbox is worth. -/
noncomputable def Try.pinned : Pinned := { name := "ythoappjepbaocaa", sum := "1024276758dbaf714cf073c2dd3da8f7b3f2b45cbd6d93497b1e800ef760d992", checked := Try.checked }
namespace Rows
def none {H : Type} : Left H := { results := [], args := [] }

/-- 'shearworkslaw02.DryReads': WHATEVER THE INPUT: true; the input reads as it did. -/
def dryReadsSpec : ChangeSpec := { name := "dryReads", fn := fun _ => fun
  | [d1, d2, d3] => { results := [.lit (.bool true)], args := [d1, d2, d3] }
  | _ => none }
def dryReadsRow : OpenClaim := { program := "ythoappjepbaocaa", sum := "1024276758dbaf714cf073c2dd3da8f7b3f2b45cbd6d93497b1e800ef760d992", func := "shearworks/shearworkslaw02.DryReads", spec := "dryReads", unfollowed := true, recurses := true, plainKeys := false, apart := false }
def DryReadsSaid : Prop := dryReadsRow.holds Try.pinned (OpenSpec.ofChange dryReadsSpec)

/-- ITS FALSE NEIGHBOUR: 'it returns false'. Refute it at one input. -/
def dryReadsWrong : ChangeSpec := { name := "dryReads", fn := fun _ => fun
  | [d1, d2, d3] => { results := [.lit (.bool false)], args := [d1, d2, d3] }
  | _ => none }
def DryReadsWrongFalsely : Prop := dryReadsRow.holds Try.pinned (OpenSpec.ofChange dryReadsWrong)

/-- 'shearworkslaw02.DryLooks': WHATEVER THE INPUT: true; the input reads as it did. -/
def dryLooksSpec : ChangeSpec := { name := "dryLooks", fn := fun _ => fun
  | [d] => { results := [.lit (.bool true)], args := [d] }
  | _ => none }
def dryLooksRow : OpenClaim := { program := "ythoappjepbaocaa", sum := "1024276758dbaf714cf073c2dd3da8f7b3f2b45cbd6d93497b1e800ef760d992", func := "shearworks/shearworkslaw02.DryLooks", spec := "dryLooks", unfollowed := true, recurses := true, plainKeys := false, apart := false }
def DryLooksSaid : Prop := dryLooksRow.holds Try.pinned (OpenSpec.ofChange dryLooksSpec)

/-- ITS FALSE NEIGHBOUR: 'it returns false'. Refute it at one input. -/
def dryLooksWrong : ChangeSpec := { name := "dryLooks", fn := fun _ => fun
  | [d] => { results := [.lit (.bool false)], args := [d] }
  | _ => none }
def DryLooksWrongFalsely : Prop := dryLooksRow.holds Try.pinned (OpenSpec.ofChange dryLooksWrong)

/-- 'shearworkslaw02.DryTrue': WHATEVER THE INPUT: true; the input reads as it did. -/
def dryTrueSpec : ChangeSpec := { name := "dryTrue", fn := fun _ => fun
  | [d1, d2] => { results := [.lit (.bool true)], args := [d1, d2] }
  | _ => none }
def dryTrueRow : OpenClaim := { program := "ythoappjepbaocaa", sum := "1024276758dbaf714cf073c2dd3da8f7b3f2b45cbd6d93497b1e800ef760d992", func := "shearworks/shearworkslaw02.DryTrue", spec := "dryTrue", unfollowed := true, recurses := true, plainKeys := false, apart := false }
def DryTrueSaid : Prop := dryTrueRow.holds Try.pinned (OpenSpec.ofChange dryTrueSpec)

/-- ITS FALSE NEIGHBOUR: 'it returns false'. Refute it at one input. -/
def dryTrueWrong : ChangeSpec := { name := "dryTrue", fn := fun _ => fun
  | [d1, d2] => { results := [.lit (.bool false)], args := [d1, d2] }
  | _ => none }
def DryTrueWrongFalsely : Prop := dryTrueRow.holds Try.pinned (OpenSpec.ofChange dryTrueWrong)

/-- 'shearworkslaw02.DryEnds': WHATEVER THE INPUT: true; the input reads as it did. -/
def dryEndsSpec : ChangeSpec := { name := "dryEnds", fn := fun _ => fun
  | [d1, d2] => { results := [.lit (.bool true)], args := [d1, d2] }
  | _ => none }
def dryEndsRow : OpenClaim := { program := "ythoappjepbaocaa", sum := "1024276758dbaf714cf073c2dd3da8f7b3f2b45cbd6d93497b1e800ef760d992", func := "shearworks/shearworkslaw02.DryEnds", spec := "dryEnds", unfollowed := true, recurses := true, plainKeys := false, apart := false }
def DryEndsSaid : Prop := dryEndsRow.holds Try.pinned (OpenSpec.ofChange dryEndsSpec)

/-- ITS FALSE NEIGHBOUR: 'it returns false'. Refute it at one input. -/
def dryEndsWrong : ChangeSpec := { name := "dryEnds", fn := fun _ => fun
  | [d1, d2] => { results := [.lit (.bool false)], args := [d1, d2] }
  | _ => none }
def DryEndsWrongFalsely : Prop := dryEndsRow.holds Try.pinned (OpenSpec.ofChange dryEndsWrong)

/-- 'shearworkslaw02.DryParts': WHATEVER THE INPUT: true; the input reads as it did. -/
def dryPartsSpec : ChangeSpec := { name := "dryParts", fn := fun _ => fun
  | [d1, d2, d3] => { results := [.lit (.bool true)], args := [d1, d2, d3] }
  | _ => none }
def dryPartsRow : OpenClaim := { program := "ythoappjepbaocaa", sum := "1024276758dbaf714cf073c2dd3da8f7b3f2b45cbd6d93497b1e800ef760d992", func := "shearworks/shearworkslaw02.DryParts", spec := "dryParts", unfollowed := true, recurses := true, plainKeys := false, apart := false }
def DryPartsSaid : Prop := dryPartsRow.holds Try.pinned (OpenSpec.ofChange dryPartsSpec)

/-- ITS FALSE NEIGHBOUR: 'it returns false'. Refute it at one input. -/
def dryPartsWrong : ChangeSpec := { name := "dryParts", fn := fun _ => fun
  | [d1, d2, d3] => { results := [.lit (.bool false)], args := [d1, d2, d3] }
  | _ => none }
def DryPartsWrongFalsely : Prop := dryPartsRow.holds Try.pinned (OpenSpec.ofChange dryPartsWrong)

/-- 'shearworkslaw02.DryShears': WHATEVER THE INPUT: true; the input reads as it did. -/
def dryShearsSpec : ChangeSpec := { name := "dryShears", fn := fun _ => fun
  | [d] => { results := [.lit (.bool true)], args := [d] }
  | _ => none }
def dryShearsRow : OpenClaim := { program := "ythoappjepbaocaa", sum := "1024276758dbaf714cf073c2dd3da8f7b3f2b45cbd6d93497b1e800ef760d992", func := "shearworks/shearworkslaw02.DryShears", spec := "dryShears", unfollowed := true, recurses := true, plainKeys := false, apart := false }
def DryShearsSaid : Prop := dryShearsRow.holds Try.pinned (OpenSpec.ofChange dryShearsSpec)

/-- ITS FALSE NEIGHBOUR: 'it returns false'. Refute it at one input. -/
def dryShearsWrong : ChangeSpec := { name := "dryShears", fn := fun _ => fun
  | [d] => { results := [.lit (.bool false)], args := [d] }
  | _ => none }
def DryShearsWrongFalsely : Prop := dryShearsRow.holds Try.pinned (OpenSpec.ofChange dryShearsWrong)

/-- 'shearworkslaw02.DryAll': WHATEVER THE INPUT: true; the input reads as it did. -/
def dryAllSpec : ChangeSpec := { name := "dryAll", fn := fun _ => fun
  | [d] => { results := [.lit (.bool true)], args := [d] }
  | _ => none }
def dryAllRow : OpenClaim := { program := "ythoappjepbaocaa", sum := "1024276758dbaf714cf073c2dd3da8f7b3f2b45cbd6d93497b1e800ef760d992", func := "shearworks/shearworkslaw02.DryAll", spec := "dryAll", unfollowed := true, recurses := true, plainKeys := false, apart := false }
def DryAllSaid : Prop := dryAllRow.holds Try.pinned (OpenSpec.ofChange dryAllSpec)

/-- ITS FALSE NEIGHBOUR: 'it returns false'. Refute it at one input. -/
def dryAllWrong : ChangeSpec := { name := "dryAll", fn := fun _ => fun
  | [d] => { results := [.lit (.bool false)], args := [d] }
  | _ => none }
def DryAllWrongFalsely : Prop := dryAllRow.holds Try.pinned (OpenSpec.ofChange dryAllWrong)

/-- 'shearworkslaw02.DryClash': WHATEVER THE INPUT: true; the input reads as it did. -/
def dryClashSpec : ChangeSpec := { name := "dryClash", fn := fun _ => fun
  | [d1, d2] => { results := [.lit (.bool true)], args := [d1, d2] }
  | _ => none }
def dryClashRow : OpenClaim := { program := "ythoappjepbaocaa", sum := "1024276758dbaf714cf073c2dd3da8f7b3f2b45cbd6d93497b1e800ef760d992", func := "shearworks/shearworkslaw02.DryClash", spec := "dryClash", unfollowed := true, recurses := true, plainKeys := false, apart := false }
def DryClashSaid : Prop := dryClashRow.holds Try.pinned (OpenSpec.ofChange dryClashSpec)

/-- ITS FALSE NEIGHBOUR: 'it returns false'. Refute it at one input. -/
def dryClashWrong : ChangeSpec := { name := "dryClash", fn := fun _ => fun
  | [d1, d2] => { results := [.lit (.bool false)], args := [d1, d2] }
  | _ => none }
def DryClashWrongFalsely : Prop := dryClashRow.holds Try.pinned (OpenSpec.ofChange dryClashWrong)

/-- 'shearworkslaw02.DryMore': WHATEVER THE INPUT: true; the input reads as it did. -/
def dryMoreSpec : ChangeSpec := { name := "dryMore", fn := fun _ => fun
  | [d1, d2, d3] => { results := [.lit (.bool true)], args := [d1, d2, d3] }
  | _ => none }
def dryMoreRow : OpenClaim := { program := "ythoappjepbaocaa", sum := "1024276758dbaf714cf073c2dd3da8f7b3f2b45cbd6d93497b1e800ef760d992", func := "shearworks/shearworkslaw02.DryMore", spec := "dryMore", unfollowed := true, recurses := true, plainKeys := false, apart := false }
def DryMoreSaid : Prop := dryMoreRow.holds Try.pinned (OpenSpec.ofChange dryMoreSpec)

/-- ITS FALSE NEIGHBOUR: 'it returns false'. Refute it at one input. -/
def dryMoreWrong : ChangeSpec := { name := "dryMore", fn := fun _ => fun
  | [d1, d2, d3] => { results := [.lit (.bool false)], args := [d1, d2, d3] }
  | _ => none }
def DryMoreWrongFalsely : Prop := dryMoreRow.holds Try.pinned (OpenSpec.ofChange dryMoreWrong)

/- THE SECOND FORM. 'bulk': how many values and letters a reading holds, each counted each time it is reached (what is shared counts as often as it is met; a slice's spare places count too). A statement '..UptoSaid' is the law's where the arguments, and the package variables that the reading takes, are together of bulk at most 1048576: NARROWER than '..Said'. Prove '..Said' where nothing that the law and all that it calls make is longer than what came in: it says more and counts as full. Else prove '..UptoSaid'. A law counts once. -/
mutual
def uptoBulk {H : Type} : DataW H → Nat
  | .lit (.string bytes) => bytes.length + 1
  | .lit _ => 1
  | .nil => 1
  | .ptr d => uptoBulk d + 1
  | .slice elems spare => uptoBulkAll elems + uptoBulkAll spare + 1
  | .agg parts => uptoBulkAll parts + 1
  | .iface _ d => uptoBulk d + 1
  | .map entries => uptoBulkEntries entries + 1
  | .held _ => 1
def uptoBulkAll {H : Type} : List (DataW H) → Nat
  | [] => 0
  | d :: r => uptoBulk d + uptoBulkAll r
def uptoBulkEntries {H : Type} : List (Lit × DataW H) → Nat
  | [] => 0
  | x :: r => uptoBulkEntry x + uptoBulkEntries r
def uptoBulkEntry {H : Type} : Lit × DataW H → Nat
  | (.string bytes, d) => bytes.length + uptoBulk d + 1
  | (_, d) => uptoBulk d + 1
 end
def uptoSmall : (H : Type) → List (DataW H) → Bool := fun _ ds => decide (uptoBulkAll ds ≤ 1048576)
def OpenSpec.upto (s : _root_.Go.ChangeSpec) : _root_.Go.OpenSpec := { _root_.Go.OpenSpec.ofChange s with cond := some uptoSmall }

/-- 'shearworkslaw02.DryReads', WHERE WHAT IT READS IS OF BULK AT MOST 1048576: true; the input reads as it did. -/
def dryReadsUptoRow : OpenClaim := { program := "ythoappjepbaocaa", sum := "1024276758dbaf714cf073c2dd3da8f7b3f2b45cbd6d93497b1e800ef760d992", func := "shearworks/shearworkslaw02.DryReads", spec := "dryReads", unfollowed := true, recurses := true, plainKeys := false, apart := false, narrowed := true }
def DryReadsUptoSaid : Prop := dryReadsUptoRow.holds Try.pinned (OpenSpec.upto dryReadsSpec)

/-- 'shearworkslaw02.DryLooks', WHERE WHAT IT READS IS OF BULK AT MOST 1048576: true; the input reads as it did. -/
def dryLooksUptoRow : OpenClaim := { program := "ythoappjepbaocaa", sum := "1024276758dbaf714cf073c2dd3da8f7b3f2b45cbd6d93497b1e800ef760d992", func := "shearworks/shearworkslaw02.DryLooks", spec := "dryLooks", unfollowed := true, recurses := true, plainKeys := false, apart := false, narrowed := true }
def DryLooksUptoSaid : Prop := dryLooksUptoRow.holds Try.pinned (OpenSpec.upto dryLooksSpec)

/-- 'shearworkslaw02.DryTrue', WHERE WHAT IT READS IS OF BULK AT MOST 1048576: true; the input reads as it did. -/
def dryTrueUptoRow : OpenClaim := { program := "ythoappjepbaocaa", sum := "1024276758dbaf714cf073c2dd3da8f7b3f2b45cbd6d93497b1e800ef760d992", func := "shearworks/shearworkslaw02.DryTrue", spec := "dryTrue", unfollowed := true, recurses := true, plainKeys := false, apart := false, narrowed := true }
def DryTrueUptoSaid : Prop := dryTrueUptoRow.holds Try.pinned (OpenSpec.upto dryTrueSpec)

/-- 'shearworkslaw02.DryEnds', WHERE WHAT IT READS IS OF BULK AT MOST 1048576: true; the input reads as it did. -/
def dryEndsUptoRow : OpenClaim := { program := "ythoappjepbaocaa", sum := "1024276758dbaf714cf073c2dd3da8f7b3f2b45cbd6d93497b1e800ef760d992", func := "shearworks/shearworkslaw02.DryEnds", spec := "dryEnds", unfollowed := true, recurses := true, plainKeys := false, apart := false, narrowed := true }
def DryEndsUptoSaid : Prop := dryEndsUptoRow.holds Try.pinned (OpenSpec.upto dryEndsSpec)

/-- 'shearworkslaw02.DryParts', WHERE WHAT IT READS IS OF BULK AT MOST 1048576: true; the input reads as it did. -/
def dryPartsUptoRow : OpenClaim := { program := "ythoappjepbaocaa", sum := "1024276758dbaf714cf073c2dd3da8f7b3f2b45cbd6d93497b1e800ef760d992", func := "shearworks/shearworkslaw02.DryParts", spec := "dryParts", unfollowed := true, recurses := true, plainKeys := false, apart := false, narrowed := true }
def DryPartsUptoSaid : Prop := dryPartsUptoRow.holds Try.pinned (OpenSpec.upto dryPartsSpec)

/-- 'shearworkslaw02.DryShears', WHERE WHAT IT READS IS OF BULK AT MOST 1048576: true; the input reads as it did. -/
def dryShearsUptoRow : OpenClaim := { program := "ythoappjepbaocaa", sum := "1024276758dbaf714cf073c2dd3da8f7b3f2b45cbd6d93497b1e800ef760d992", func := "shearworks/shearworkslaw02.DryShears", spec := "dryShears", unfollowed := true, recurses := true, plainKeys := false, apart := false, narrowed := true }
def DryShearsUptoSaid : Prop := dryShearsUptoRow.holds Try.pinned (OpenSpec.upto dryShearsSpec)

/-- 'shearworkslaw02.DryAll', WHERE WHAT IT READS IS OF BULK AT MOST 1048576: true; the input reads as it did. -/
def dryAllUptoRow : OpenClaim := { program := "ythoappjepbaocaa", sum := "1024276758dbaf714cf073c2dd3da8f7b3f2b45cbd6d93497b1e800ef760d992", func := "shearworks/shearworkslaw02.DryAll", spec := "dryAll", unfollowed := true, recurses := true, plainKeys := false, apart := false, narrowed := true }
def DryAllUptoSaid : Prop := dryAllUptoRow.holds Try.pinned (OpenSpec.upto dryAllSpec)

/-- 'shearworkslaw02.DryClash', WHERE WHAT IT READS IS OF BULK AT MOST 1048576: true; the input reads as it did. -/
def dryClashUptoRow : OpenClaim := { program := "ythoappjepbaocaa", sum := "1024276758dbaf714cf073c2dd3da8f7b3f2b45cbd6d93497b1e800ef760d992", func := "shearworks/shearworkslaw02.DryClash", spec := "dryClash", unfollowed := true, recurses := true, plainKeys := false, apart := false, narrowed := true }
def DryClashUptoSaid : Prop := dryClashUptoRow.holds Try.pinned (OpenSpec.upto dryClashSpec)

/-- 'shearworkslaw02.DryMore', WHERE WHAT IT READS IS OF BULK AT MOST 1048576: true; the input reads as it did. -/
def dryMoreUptoRow : OpenClaim := { program := "ythoappjepbaocaa", sum := "1024276758dbaf714cf073c2dd3da8f7b3f2b45cbd6d93497b1e800ef760d992", func := "shearworks/shearworkslaw02.DryMore", spec := "dryMore", unfollowed := true, recurses := true, plainKeys := false, apart := false, narrowed := true }
def DryMoreUptoSaid : Prop := dryMoreUptoRow.holds Try.pinned (OpenSpec.upto dryMoreSpec)

end Rows
end Go.Proofs.Ythoappjepbaocaa
