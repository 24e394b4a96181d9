/-
  No cell of these rows narrows 'for every input' (looked for: loops, veiled, ifaces, maps, wideKeys, modest, calm, conditions, laid).
  DERIVED. THE GIVEN ROWS OF THIS SEAT. 7 by the template 'for every input the law returns true; each argument reads behind the call as it read before'; 0 by the template 'total and deterministic' (their statements: YtgidjimpobeahaaTotals.lean).
  GIVEN WITH THE SEED: the statements are not yours to turn. If you find one false, say at which input.
  Laid BY PROGRAM, IN A SANDBOX (cutbox-rows.mjs): the forced cells as the released guide's own fill.sh prints them over the translation 82335e1b96345576… (all of the seat's roots in one cut). By AI agents, Wed Nov 11 2026. No macro, syntax, notation, axiom, sorry.
-/
import Derived.Test.YtgidjimpobeahaaChecked
import GoSem.Claim
import GoSem.ClaimJoined
import GoSem.ClaimMapViews
import Derived.JoinedTies
import Derived.KernelRfl
namespace Go.Proofs.Ytgidjimpobeahaa
/- THE CELL 'sum', in the pinned program and in every row, IS THE sha256 OF THE DUMP (.gsa) THAT YtgidjimpobeahaaProg.lean LOADS. Nothing in Lean hashes anything: it is a label: what it is worth is what the hold of that sum in a sandbox is worth. -/
noncomputable def Try.pinned : Pinned := { name := "ytgidjimpobeahaa", sum := "82335e1b96345576680848debc5397fc45a45ed850e35753dc6564bbd3d5bc29", checked := Try.checked }
namespace Rows
def none {H : Type} : Left H := { results := [], args := [] }

/-- 'shearworkslaw06.ClassTrue': WHATEVER THE INPUT: true; the input reads as it did. -/
def classTrueSpec : ChangeSpec := { name := "classTrue", fn := fun _ => fun
  | [d1, d2] => { results := [.lit (.bool true)], args := [d1, d2] }
  | _ => none }
def classTrueRow : OpenClaim := { program := "ytgidjimpobeahaa", sum := "82335e1b96345576680848debc5397fc45a45ed850e35753dc6564bbd3d5bc29", func := "shearworks/shearworkslaw06.ClassTrue", spec := "classTrue", unfollowed := true, recurses := true, plainKeys := false, apart := false }
def ClassTrueSaid : Prop := classTrueRow.holds Try.pinned (OpenSpec.ofChange classTrueSpec)

/-- ITS FALSE NEIGHBOUR: 'it returns false'. Refute it at one input. -/
def classTrueWrong : ChangeSpec := { name := "classTrue", fn := fun _ => fun
  | [d1, d2] => { results := [.lit (.bool false)], args := [d1, d2] }
  | _ => none }
def ClassTrueWrongFalsely : Prop := classTrueRow.holds Try.pinned (OpenSpec.ofChange classTrueWrong)

/-- 'shearworkslaw06.ClassEnds': WHATEVER THE INPUT: true; the input reads as it did. -/
def classEndsSpec : ChangeSpec := { name := "classEnds", fn := fun _ => fun
  | [d1, d2] => { results := [.lit (.bool true)], args := [d1, d2] }
  | _ => none }
def classEndsRow : OpenClaim := { program := "ytgidjimpobeahaa", sum := "82335e1b96345576680848debc5397fc45a45ed850e35753dc6564bbd3d5bc29", func := "shearworks/shearworkslaw06.ClassEnds", spec := "classEnds", unfollowed := true, recurses := true, plainKeys := false, apart := false }
def ClassEndsSaid : Prop := classEndsRow.holds Try.pinned (OpenSpec.ofChange classEndsSpec)

/-- ITS FALSE NEIGHBOUR: 'it returns false'. Refute it at one input. -/
def classEndsWrong : ChangeSpec := { name := "classEnds", fn := fun _ => fun
  | [d1, d2] => { results := [.lit (.bool false)], args := [d1, d2] }
  | _ => none }
def ClassEndsWrongFalsely : Prop := classEndsRow.holds Try.pinned (OpenSpec.ofChange classEndsWrong)

/-- 'shearworkslaw06.ClassMistaken': WHATEVER THE INPUT: true; the input reads as it did. -/
def classMistakenSpec : ChangeSpec := { name := "classMistaken", fn := fun _ => fun
  | [d1, d2] => { results := [.lit (.bool true)], args := [d1, d2] }
  | _ => none }
def classMistakenRow : OpenClaim := { program := "ytgidjimpobeahaa", sum := "82335e1b96345576680848debc5397fc45a45ed850e35753dc6564bbd3d5bc29", func := "shearworks/shearworkslaw06.ClassMistaken", spec := "classMistaken", unfollowed := true, recurses := true, plainKeys := false, apart := false }
def ClassMistakenSaid : Prop := classMistakenRow.holds Try.pinned (OpenSpec.ofChange classMistakenSpec)

/-- ITS FALSE NEIGHBOUR: 'it returns false'. Refute it at one input. -/
def classMistakenWrong : ChangeSpec := { name := "classMistaken", fn := fun _ => fun
  | [d1, d2] => { results := [.lit (.bool false)], args := [d1, d2] }
  | _ => none }
def ClassMistakenWrongFalsely : Prop := classMistakenRow.holds Try.pinned (OpenSpec.ofChange classMistakenWrong)

/-- 'shearworkslaw06.ClassKeeps': WHATEVER THE INPUT: true; the input reads as it did. -/
def classKeepsSpec : ChangeSpec := { name := "classKeeps", fn := fun _ => fun
  | [d] => { results := [.lit (.bool true)], args := [d] }
  | _ => none }
def classKeepsRow : OpenClaim := { program := "ytgidjimpobeahaa", sum := "82335e1b96345576680848debc5397fc45a45ed850e35753dc6564bbd3d5bc29", func := "shearworks/shearworkslaw06.ClassKeeps", spec := "classKeeps", unfollowed := true, recurses := true, plainKeys := false, apart := false }
def ClassKeepsSaid : Prop := classKeepsRow.holds Try.pinned (OpenSpec.ofChange classKeepsSpec)

/-- ITS FALSE NEIGHBOUR: 'it returns false'. Refute it at one input. -/
def classKeepsWrong : ChangeSpec := { name := "classKeeps", fn := fun _ => fun
  | [d] => { results := [.lit (.bool false)], args := [d] }
  | _ => none }
def ClassKeepsWrongFalsely : Prop := classKeepsRow.holds Try.pinned (OpenSpec.ofChange classKeepsWrong)

/-- 'shearworkslaw06.ClassMore': WHATEVER THE INPUT: true; the input reads as it did. -/
def classMoreSpec : ChangeSpec := { name := "classMore", fn := fun _ => fun
  | [d1, d2] => { results := [.lit (.bool true)], args := [d1, d2] }
  | _ => none }
def classMoreRow : OpenClaim := { program := "ytgidjimpobeahaa", sum := "82335e1b96345576680848debc5397fc45a45ed850e35753dc6564bbd3d5bc29", func := "shearworks/shearworkslaw06.ClassMore", spec := "classMore", unfollowed := true, recurses := true, plainKeys := false, apart := false }
def ClassMoreSaid : Prop := classMoreRow.holds Try.pinned (OpenSpec.ofChange classMoreSpec)

/-- ITS FALSE NEIGHBOUR: 'it returns false'. Refute it at one input. -/
def classMoreWrong : ChangeSpec := { name := "classMore", fn := fun _ => fun
  | [d1, d2] => { results := [.lit (.bool false)], args := [d1, d2] }
  | _ => none }
def ClassMoreWrongFalsely : Prop := classMoreRow.holds Try.pinned (OpenSpec.ofChange classMoreWrong)

/-- 'shearworkslaw06.ClassClash': WHATEVER THE INPUT: true; the input reads as it did. -/
def classClashSpec : ChangeSpec := { name := "classClash", fn := fun _ => fun
  | [d1, d2] => { results := [.lit (.bool true)], args := [d1, d2] }
  | _ => none }
def classClashRow : OpenClaim := { program := "ytgidjimpobeahaa", sum := "82335e1b96345576680848debc5397fc45a45ed850e35753dc6564bbd3d5bc29", func := "shearworks/shearworkslaw06.ClassClash", spec := "classClash", unfollowed := true, recurses := true, plainKeys := false, apart := false }
def ClassClashSaid : Prop := classClashRow.holds Try.pinned (OpenSpec.ofChange classClashSpec)

/-- ITS FALSE NEIGHBOUR: 'it returns false'. Refute it at one input. -/
def classClashWrong : ChangeSpec := { name := "classClash", fn := fun _ => fun
  | [d1, d2] => { results := [.lit (.bool false)], args := [d1, d2] }
  | _ => none }
def ClassClashWrongFalsely : Prop := classClashRow.holds Try.pinned (OpenSpec.ofChange classClashWrong)

/-- 'shearworkslaw06.ClassWide': WHATEVER THE INPUT: true; the input reads as it did. -/
def classWideSpec : ChangeSpec := { name := "classWide", fn := fun _ => fun
  | [d1, d2, d3] => { results := [.lit (.bool true)], args := [d1, d2, d3] }
  | _ => none }
def classWideRow : OpenClaim := { program := "ytgidjimpobeahaa", sum := "82335e1b96345576680848debc5397fc45a45ed850e35753dc6564bbd3d5bc29", func := "shearworks/shearworkslaw06.ClassWide", spec := "classWide", unfollowed := true, recurses := true, plainKeys := false, apart := false }
def ClassWideSaid : Prop := classWideRow.holds Try.pinned (OpenSpec.ofChange classWideSpec)

/-- ITS FALSE NEIGHBOUR: 'it returns false'. Refute it at one input. -/
def classWideWrong : ChangeSpec := { name := "classWide", fn := fun _ => fun
  | [d1, d2, d3] => { results := [.lit (.bool false)], args := [d1, d2, d3] }
  | _ => none }
def ClassWideWrongFalsely : Prop := classWideRow.holds Try.pinned (OpenSpec.ofChange classWideWrong)

/- THE SECOND FORM. 'bulk': how many values and letters a reading holds, each counted each time it is reached (what is shared counts as often as it is met; a slice's spare places count too). A statement '..UptoSaid' is the law's where the arguments, and the package variables that the reading takes, are together of bulk at most 1048576: NARROWER than '..Said'. Prove '..Said' where nothing that the law and all that it calls make is longer than what came in: it says more and counts as full. Else prove '..UptoSaid'. A law counts once. -/
mutual
def uptoBulk {H : Type} : DataW H → Nat
  | .lit (.string bytes) => bytes.length + 1
  | .lit _ => 1
  | .nil => 1
  | .ptr d => uptoBulk d + 1
  | .slice elems spare => uptoBulkAll elems + uptoBulkAll spare + 1
  | .agg parts => uptoBulkAll parts + 1
  | .iface _ d => uptoBulk d + 1
  | .map entries => uptoBulkEntries entries + 1
  | .held _ => 1
def uptoBulkAll {H : Type} : List (DataW H) → Nat
  | [] => 0
  | d :: r => uptoBulk d + uptoBulkAll r
def uptoBulkEntries {H : Type} : List (Lit × DataW H) → Nat
  | [] => 0
  | x :: r => uptoBulkEntry x + uptoBulkEntries r
def uptoBulkEntry {H : Type} : Lit × DataW H → Nat
  | (.string bytes, d) => bytes.length + uptoBulk d + 1
  | (_, d) => uptoBulk d + 1
 end
def uptoSmall : (H : Type) → List (DataW H) → Bool := fun _ ds => decide (uptoBulkAll ds ≤ 1048576)
def OpenSpec.upto (s : _root_.Go.ChangeSpec) : _root_.Go.OpenSpec := { _root_.Go.OpenSpec.ofChange s with cond := some uptoSmall }

/-- 'shearworkslaw06.ClassTrue', WHERE WHAT IT READS IS OF BULK AT MOST 1048576: true; the input reads as it did. -/
def classTrueUptoRow : OpenClaim := { program := "ytgidjimpobeahaa", sum := "82335e1b96345576680848debc5397fc45a45ed850e35753dc6564bbd3d5bc29", func := "shearworks/shearworkslaw06.ClassTrue", spec := "classTrue", unfollowed := true, recurses := true, plainKeys := false, apart := false, narrowed := true }
def ClassTrueUptoSaid : Prop := classTrueUptoRow.holds Try.pinned (OpenSpec.upto classTrueSpec)

/-- 'shearworkslaw06.ClassEnds', WHERE WHAT IT READS IS OF BULK AT MOST 1048576: true; the input reads as it did. -/
def classEndsUptoRow : OpenClaim := { program := "ytgidjimpobeahaa", sum := "82335e1b96345576680848debc5397fc45a45ed850e35753dc6564bbd3d5bc29", func := "shearworks/shearworkslaw06.ClassEnds", spec := "classEnds", unfollowed := true, recurses := true, plainKeys := false, apart := false, narrowed := true }
def ClassEndsUptoSaid : Prop := classEndsUptoRow.holds Try.pinned (OpenSpec.upto classEndsSpec)

/-- 'shearworkslaw06.ClassMistaken', WHERE WHAT IT READS IS OF BULK AT MOST 1048576: true; the input reads as it did. -/
def classMistakenUptoRow : OpenClaim := { program := "ytgidjimpobeahaa", sum := "82335e1b96345576680848debc5397fc45a45ed850e35753dc6564bbd3d5bc29", func := "shearworks/shearworkslaw06.ClassMistaken", spec := "classMistaken", unfollowed := true, recurses := true, plainKeys := false, apart := false, narrowed := true }
def ClassMistakenUptoSaid : Prop := classMistakenUptoRow.holds Try.pinned (OpenSpec.upto classMistakenSpec)

/-- 'shearworkslaw06.ClassKeeps', WHERE WHAT IT READS IS OF BULK AT MOST 1048576: true; the input reads as it did. -/
def classKeepsUptoRow : OpenClaim := { program := "ytgidjimpobeahaa", sum := "82335e1b96345576680848debc5397fc45a45ed850e35753dc6564bbd3d5bc29", func := "shearworks/shearworkslaw06.ClassKeeps", spec := "classKeeps", unfollowed := true, recurses := true, plainKeys := false, apart := false, narrowed := true }
def ClassKeepsUptoSaid : Prop := classKeepsUptoRow.holds Try.pinned (OpenSpec.upto classKeepsSpec)

/-- 'shearworkslaw06.ClassMore', WHERE WHAT IT READS IS OF BULK AT MOST 1048576: true; the input reads as it did. -/
def classMoreUptoRow : OpenClaim := { program := "ytgidjimpobeahaa", sum := "82335e1b96345576680848debc5397fc45a45ed850e35753dc6564bbd3d5bc29", func := "shearworks/shearworkslaw06.ClassMore", spec := "classMore", unfollowed := true, recurses := true, plainKeys := false, apart := false, narrowed := true }
def ClassMoreUptoSaid : Prop := classMoreUptoRow.holds Try.pinned (OpenSpec.upto classMoreSpec)

/-- 'shearworkslaw06.ClassClash', WHERE WHAT IT READS IS OF BULK AT MOST 1048576: true; the input reads as it did. -/
def classClashUptoRow : OpenClaim := { program := "ytgidjimpobeahaa", sum := "82335e1b96345576680848debc5397fc45a45ed850e35753dc6564bbd3d5bc29", func := "shearworks/shearworkslaw06.ClassClash", spec := "classClash", unfollowed := true, recurses := true, plainKeys := false, apart := false, narrowed := true }
def ClassClashUptoSaid : Prop := classClashUptoRow.holds Try.pinned (OpenSpec.upto classClashSpec)

/-- 'shearworkslaw06.ClassWide', WHERE WHAT IT READS IS OF BULK AT MOST 1048576: true; the input reads as it did. -/
def classWideUptoRow : OpenClaim := { program := "ytgidjimpobeahaa", sum := "82335e1b96345576680848debc5397fc45a45ed850e35753dc6564bbd3d5bc29", func := "shearworks/shearworkslaw06.ClassWide", spec := "classWide", unfollowed := true, recurses := true, plainKeys := false, apart := false, narrowed := true }
def ClassWideUptoSaid : Prop := classWideUptoRow.holds Try.pinned (OpenSpec.upto classWideSpec)

end Rows
end Go.Proofs.Ytgidjimpobeahaa
