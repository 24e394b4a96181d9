/-
  NARROWER THAN 'FOR EVERY INPUT', by the rows' own cells (each row's printed sentence says how): PressReads: laid · PressPlans: laid · PressTrue: laid · PressEnds: laid · PressParts: laid · PressFits: laid · PressPlan: laid · PressMore: laid.
  DERIVED. THE GIVEN ROWS OF THIS SEAT. 8 by the template 'for every input the law returns true; each argument reads behind the call as it read before'; 0 by the template 'total and deterministic' (their statements: YtbkbbkkmahenlaaGreatDoorTotals.lean).
  GIVEN WITH THE SEED: the statements are not yours to turn. If you find one false, say at which input.
  Laid BY PROGRAM, IN A SANDBOX (cutbox-rows.mjs): the forced cells as the released guide's own fill.sh prints them over the translation 62ac7e22cc328f96… (all of the seat's roots in one cut). By AI agents, Wed Nov 11 2026. No macro, syntax, notation, axiom, sorry.
-/
import Derived.Test.YtbkbbkkmahenlaaGreatDoorChecked
import GoSem.Claim
import GoSem.ClaimJoined
import GoSem.ClaimMapViews
import Derived.JoinedTies
import Derived.KernelRfl
namespace Go.Proofs.YtbkbbkkmahenlaaGreatDoor
/- THE CELL 'sum', in the pinned program and in every row, IS THE sha256 OF THE DUMP (.gsa) THAT YtbkbbkkmahenlaaGreatDoorProg.lean LOADS. Nothing in Lean hashes anything: it is a label: what it is worth is what the hold of that sum in a sandbox is worth. -/
noncomputable def Tryz.pinned : Pinned := { name := "ytbkbbkkmahenlaagreatdoor", sum := "62ac7e22cc328f9666a68a23e51fb9c4abdb0d0e3f602df43b154c13c1b15bb6", checked := Tryz.checked }
namespace Rows
def none {H : Type} : Left H := { results := [], args := [] }

/- WHAT THE LISTED PACKAGE-LEVEL VARIABLES READ AS WHEN THE CALL BEGINS. Each datum BY PROGRAM (the guide's laid-datum.mjs) off the statement by which the dump's own 'gosem.cut.vars' lays the variable. In a bare row this is a premise. The card (YtbkbbkkmahenlaaGreatDoorCards.lean) ties it to the program's text. -/
def laid_math_bits_deBruijn32tab {H : Type} : DataW H := .agg [.lit (.int .u8 0), .lit (.int .u8 1), .lit (.int .u8 28), .lit (.int .u8 2), .lit (.int .u8 29), .lit (.int .u8 14), .lit (.int .u8 24), .lit (.int .u8 3), .lit (.int .u8 30), .lit (.int .u8 22), .lit (.int .u8 20), .lit (.int .u8 15), .lit (.int .u8 25), .lit (.int .u8 17), .lit (.int .u8 4), .lit (.int .u8 8), .lit (.int .u8 31), .lit (.int .u8 27), .lit (.int .u8 13), .lit (.int .u8 23), .lit (.int .u8 21), .lit (.int .u8 19), .lit (.int .u8 16), .lit (.int .u8 7), .lit (.int .u8 26), .lit (.int .u8 12), .lit (.int .u8 18), .lit (.int .u8 6), .lit (.int .u8 11), .lit (.int .u8 5), .lit (.int .u8 10), .lit (.int .u8 9)]
def laid_math_bits_deBruijn64tab {H : Type} : DataW H := .agg [.lit (.int .u8 0), .lit (.int .u8 1), .lit (.int .u8 56), .lit (.int .u8 2), .lit (.int .u8 57), .lit (.int .u8 49), .lit (.int .u8 28), .lit (.int .u8 3), .lit (.int .u8 61), .lit (.int .u8 58), .lit (.int .u8 42), .lit (.int .u8 50), .lit (.int .u8 38), .lit (.int .u8 29), .lit (.int .u8 17), .lit (.int .u8 4), .lit (.int .u8 62), .lit (.int .u8 47), .lit (.int .u8 59), .lit (.int .u8 36), .lit (.int .u8 45), .lit (.int .u8 43), .lit (.int .u8 51), .lit (.int .u8 22), .lit (.int .u8 53), .lit (.int .u8 39), .lit (.int .u8 33), .lit (.int .u8 30), .lit (.int .u8 24), .lit (.int .u8 18), .lit (.int .u8 12), .lit (.int .u8 5), .lit (.int .u8 63), .lit (.int .u8 55), .lit (.int .u8 48), .lit (.int .u8 27), .lit (.int .u8 60), .lit (.int .u8 41), .lit (.int .u8 37), .lit (.int .u8 16), .lit (.int .u8 46), .lit (.int .u8 35), .lit (.int .u8 44), .lit (.int .u8 21), .lit (.int .u8 52), .lit (.int .u8 32), .lit (.int .u8 23), .lit (.int .u8 11), .lit (.int .u8 54), .lit (.int .u8 26), .lit (.int .u8 40), .lit (.int .u8 15), .lit (.int .u8 34), .lit (.int .u8 20), .lit (.int .u8 31), .lit (.int .u8 10), .lit (.int .u8 25), .lit (.int .u8 14), .lit (.int .u8 19), .lit (.int .u8 9), .lit (.int .u8 13), .lit (.int .u8 8), .lit (.int .u8 7), .lit (.int .u8 6)]

/-- 'shearworkslaw08.PressReads': WHATEVER THE INPUT: true; the input reads as it did. -/
def pressReadsSpec : ChangeSpec := { name := "pressReads", fn := fun _ => fun
  | [d1, d2] => { results := [.lit (.bool true)], args := [d1, d2] }
  | _ => none }
def pressReadsRow : OpenClaim := { program := "ytbkbbkkmahenlaagreatdoor", sum := "62ac7e22cc328f9666a68a23e51fb9c4abdb0d0e3f602df43b154c13c1b15bb6", func := "shearworks/shearworkslaw08.PressReads", spec := "pressReads", unfollowed := true, recurses := true, named := ["math/bits.deBruijn32tab", "math/bits.deBruijn64tab"], plainKeys := false, apart := false, laid := [("math/bits.deBruijn32tab", laid_math_bits_deBruijn32tab), ("math/bits.deBruijn64tab", laid_math_bits_deBruijn64tab)] }
def PressReadsSaid : Prop := pressReadsRow.holds Tryz.pinned (OpenSpec.ofChange pressReadsSpec)

/-- ITS FALSE NEIGHBOUR: 'it returns false'. Refute it at one input. -/
def pressReadsWrong : ChangeSpec := { name := "pressReads", fn := fun _ => fun
  | [d1, d2] => { results := [.lit (.bool false)], args := [d1, d2] }
  | _ => none }
def PressReadsWrongFalsely : Prop := pressReadsRow.holds Tryz.pinned (OpenSpec.ofChange pressReadsWrong)

/-- 'shearworkslaw08.PressPlans': WHATEVER THE INPUT: true; the input reads as it did. -/
def pressPlansSpec : ChangeSpec := { name := "pressPlans", fn := fun _ => fun
  | [d] => { results := [.lit (.bool true)], args := [d] }
  | _ => none }
def pressPlansRow : OpenClaim := { program := "ytbkbbkkmahenlaagreatdoor", sum := "62ac7e22cc328f9666a68a23e51fb9c4abdb0d0e3f602df43b154c13c1b15bb6", func := "shearworks/shearworkslaw08.PressPlans", spec := "pressPlans", unfollowed := true, recurses := true, named := ["math/bits.deBruijn32tab", "math/bits.deBruijn64tab"], plainKeys := false, apart := false, laid := [("math/bits.deBruijn32tab", laid_math_bits_deBruijn32tab), ("math/bits.deBruijn64tab", laid_math_bits_deBruijn64tab)] }
def PressPlansSaid : Prop := pressPlansRow.holds Tryz.pinned (OpenSpec.ofChange pressPlansSpec)

/-- ITS FALSE NEIGHBOUR: 'it returns false'. Refute it at one input. -/
def pressPlansWrong : ChangeSpec := { name := "pressPlans", fn := fun _ => fun
  | [d] => { results := [.lit (.bool false)], args := [d] }
  | _ => none }
def PressPlansWrongFalsely : Prop := pressPlansRow.holds Tryz.pinned (OpenSpec.ofChange pressPlansWrong)

/-- 'shearworkslaw08.PressTrue': WHATEVER THE INPUT: true; the input reads as it did. -/
def pressTrueSpec : ChangeSpec := { name := "pressTrue", fn := fun _ => fun
  | [d1, d2, d3] => { results := [.lit (.bool true)], args := [d1, d2, d3] }
  | _ => none }
def pressTrueRow : OpenClaim := { program := "ytbkbbkkmahenlaagreatdoor", sum := "62ac7e22cc328f9666a68a23e51fb9c4abdb0d0e3f602df43b154c13c1b15bb6", func := "shearworks/shearworkslaw08.PressTrue", spec := "pressTrue", unfollowed := true, recurses := true, named := ["math/bits.deBruijn32tab", "math/bits.deBruijn64tab"], plainKeys := false, apart := false, laid := [("math/bits.deBruijn32tab", laid_math_bits_deBruijn32tab), ("math/bits.deBruijn64tab", laid_math_bits_deBruijn64tab)] }
def PressTrueSaid : Prop := pressTrueRow.holds Tryz.pinned (OpenSpec.ofChange pressTrueSpec)

/-- ITS FALSE NEIGHBOUR: 'it returns false'. Refute it at one input. -/
def pressTrueWrong : ChangeSpec := { name := "pressTrue", fn := fun _ => fun
  | [d1, d2, d3] => { results := [.lit (.bool false)], args := [d1, d2, d3] }
  | _ => none }
def PressTrueWrongFalsely : Prop := pressTrueRow.holds Tryz.pinned (OpenSpec.ofChange pressTrueWrong)

/-- 'shearworkslaw08.PressEnds': WHATEVER THE INPUT: true; the input reads as it did. -/
def pressEndsSpec : ChangeSpec := { name := "pressEnds", fn := fun _ => fun
  | [d1, d2] => { results := [.lit (.bool true)], args := [d1, d2] }
  | _ => none }
def pressEndsRow : OpenClaim := { program := "ytbkbbkkmahenlaagreatdoor", sum := "62ac7e22cc328f9666a68a23e51fb9c4abdb0d0e3f602df43b154c13c1b15bb6", func := "shearworks/shearworkslaw08.PressEnds", spec := "pressEnds", unfollowed := true, recurses := true, named := ["math/bits.deBruijn32tab", "math/bits.deBruijn64tab"], plainKeys := false, apart := false, laid := [("math/bits.deBruijn32tab", laid_math_bits_deBruijn32tab), ("math/bits.deBruijn64tab", laid_math_bits_deBruijn64tab)] }
def PressEndsSaid : Prop := pressEndsRow.holds Tryz.pinned (OpenSpec.ofChange pressEndsSpec)

/-- ITS FALSE NEIGHBOUR: 'it returns false'. Refute it at one input. -/
def pressEndsWrong : ChangeSpec := { name := "pressEnds", fn := fun _ => fun
  | [d1, d2] => { results := [.lit (.bool false)], args := [d1, d2] }
  | _ => none }
def PressEndsWrongFalsely : Prop := pressEndsRow.holds Tryz.pinned (OpenSpec.ofChange pressEndsWrong)

/-- 'shearworkslaw08.PressParts': WHATEVER THE INPUT: true; the input reads as it did. -/
def pressPartsSpec : ChangeSpec := { name := "pressParts", fn := fun _ => fun
  | [d1, d2, d3] => { results := [.lit (.bool true)], args := [d1, d2, d3] }
  | _ => none }
def pressPartsRow : OpenClaim := { program := "ytbkbbkkmahenlaagreatdoor", sum := "62ac7e22cc328f9666a68a23e51fb9c4abdb0d0e3f602df43b154c13c1b15bb6", func := "shearworks/shearworkslaw08.PressParts", spec := "pressParts", unfollowed := true, recurses := true, named := ["math/bits.deBruijn32tab", "math/bits.deBruijn64tab"], plainKeys := false, apart := false, laid := [("math/bits.deBruijn32tab", laid_math_bits_deBruijn32tab), ("math/bits.deBruijn64tab", laid_math_bits_deBruijn64tab)] }
def PressPartsSaid : Prop := pressPartsRow.holds Tryz.pinned (OpenSpec.ofChange pressPartsSpec)

/-- ITS FALSE NEIGHBOUR: 'it returns false'. Refute it at one input. -/
def pressPartsWrong : ChangeSpec := { name := "pressParts", fn := fun _ => fun
  | [d1, d2, d3] => { results := [.lit (.bool false)], args := [d1, d2, d3] }
  | _ => none }
def PressPartsWrongFalsely : Prop := pressPartsRow.holds Tryz.pinned (OpenSpec.ofChange pressPartsWrong)

/-- 'shearworkslaw08.PressFits': WHATEVER THE INPUT: true; the input reads as it did. -/
def pressFitsSpec : ChangeSpec := { name := "pressFits", fn := fun _ => fun
  | [d1, d2] => { results := [.lit (.bool true)], args := [d1, d2] }
  | _ => none }
def pressFitsRow : OpenClaim := { program := "ytbkbbkkmahenlaagreatdoor", sum := "62ac7e22cc328f9666a68a23e51fb9c4abdb0d0e3f602df43b154c13c1b15bb6", func := "shearworks/shearworkslaw08.PressFits", spec := "pressFits", unfollowed := true, recurses := true, named := ["math/bits.deBruijn32tab", "math/bits.deBruijn64tab"], plainKeys := false, apart := false, laid := [("math/bits.deBruijn32tab", laid_math_bits_deBruijn32tab), ("math/bits.deBruijn64tab", laid_math_bits_deBruijn64tab)] }
def PressFitsSaid : Prop := pressFitsRow.holds Tryz.pinned (OpenSpec.ofChange pressFitsSpec)

/-- ITS FALSE NEIGHBOUR: 'it returns false'. Refute it at one input. -/
def pressFitsWrong : ChangeSpec := { name := "pressFits", fn := fun _ => fun
  | [d1, d2] => { results := [.lit (.bool false)], args := [d1, d2] }
  | _ => none }
def PressFitsWrongFalsely : Prop := pressFitsRow.holds Tryz.pinned (OpenSpec.ofChange pressFitsWrong)

/-- 'shearworkslaw08.PressPlan': WHATEVER THE INPUT: true; the input reads as it did. -/
def pressPlanSpec : ChangeSpec := { name := "pressPlan", fn := fun _ => fun
  | [d1, d2] => { results := [.lit (.bool true)], args := [d1, d2] }
  | _ => none }
def pressPlanRow : OpenClaim := { program := "ytbkbbkkmahenlaagreatdoor", sum := "62ac7e22cc328f9666a68a23e51fb9c4abdb0d0e3f602df43b154c13c1b15bb6", func := "shearworks/shearworkslaw08.PressPlan", spec := "pressPlan", unfollowed := true, recurses := true, named := ["math/bits.deBruijn32tab", "math/bits.deBruijn64tab"], plainKeys := false, apart := false, laid := [("math/bits.deBruijn32tab", laid_math_bits_deBruijn32tab), ("math/bits.deBruijn64tab", laid_math_bits_deBruijn64tab)] }
def PressPlanSaid : Prop := pressPlanRow.holds Tryz.pinned (OpenSpec.ofChange pressPlanSpec)

/-- ITS FALSE NEIGHBOUR: 'it returns false'. Refute it at one input. -/
def pressPlanWrong : ChangeSpec := { name := "pressPlan", fn := fun _ => fun
  | [d1, d2] => { results := [.lit (.bool false)], args := [d1, d2] }
  | _ => none }
def PressPlanWrongFalsely : Prop := pressPlanRow.holds Tryz.pinned (OpenSpec.ofChange pressPlanWrong)

/-- 'shearworkslaw08.PressMore': WHATEVER THE INPUT: true; the input reads as it did. -/
def pressMoreSpec : ChangeSpec := { name := "pressMore", fn := fun _ => fun
  | [d1, d2, d3, d4] => { results := [.lit (.bool true)], args := [d1, d2, d3, d4] }
  | _ => none }
def pressMoreRow : OpenClaim := { program := "ytbkbbkkmahenlaagreatdoor", sum := "62ac7e22cc328f9666a68a23e51fb9c4abdb0d0e3f602df43b154c13c1b15bb6", func := "shearworks/shearworkslaw08.PressMore", spec := "pressMore", unfollowed := true, recurses := true, named := ["math/bits.deBruijn32tab", "math/bits.deBruijn64tab"], plainKeys := false, apart := false, laid := [("math/bits.deBruijn32tab", laid_math_bits_deBruijn32tab), ("math/bits.deBruijn64tab", laid_math_bits_deBruijn64tab)] }
def PressMoreSaid : Prop := pressMoreRow.holds Tryz.pinned (OpenSpec.ofChange pressMoreSpec)

/-- ITS FALSE NEIGHBOUR: 'it returns false'. Refute it at one input. -/
def pressMoreWrong : ChangeSpec := { name := "pressMore", fn := fun _ => fun
  | [d1, d2, d3, d4] => { results := [.lit (.bool false)], args := [d1, d2, d3, d4] }
  | _ => none }
def PressMoreWrongFalsely : Prop := pressMoreRow.holds Tryz.pinned (OpenSpec.ofChange pressMoreWrong)

/- THE SECOND FORM. 'bulk': how many values and letters a reading holds, each counted each time it is reached (what is shared counts as often as it is met; a slice's spare places count too). A statement '..UptoSaid' is the law's where the arguments, and the package variables that the reading takes, are together of bulk at most 1048576: NARROWER than '..Said'. Prove '..Said' where nothing that the law and all that it calls make is longer than what came in: it says more and counts as full. Else prove '..UptoSaid'. A law counts once. -/
mutual
def uptoBulk {H : Type} : DataW H → Nat
  | .lit (.string bytes) => bytes.length + 1
  | .lit _ => 1
  | .nil => 1
  | .ptr d => uptoBulk d + 1
  | .slice elems spare => uptoBulkAll elems + uptoBulkAll spare + 1
  | .agg parts => uptoBulkAll parts + 1
  | .iface _ d => uptoBulk d + 1
  | .map entries => uptoBulkEntries entries + 1
  | .held _ => 1
def uptoBulkAll {H : Type} : List (DataW H) → Nat
  | [] => 0
  | d :: r => uptoBulk d + uptoBulkAll r
def uptoBulkEntries {H : Type} : List (Lit × DataW H) → Nat
  | [] => 0
  | x :: r => uptoBulkEntry x + uptoBulkEntries r
def uptoBulkEntry {H : Type} : Lit × DataW H → Nat
  | (.string bytes, d) => bytes.length + uptoBulk d + 1
  | (_, d) => uptoBulk d + 1
 end
def uptoSmall : (H : Type) → List (DataW H) → Bool := fun _ ds => decide (uptoBulkAll ds ≤ 1048576)
def OpenSpec.upto (s : _root_.Go.ChangeSpec) : _root_.Go.OpenSpec := { _root_.Go.OpenSpec.ofChange s with cond := some uptoSmall }

/-- 'shearworkslaw08.PressReads', WHERE WHAT IT READS IS OF BULK AT MOST 1048576: true; the input reads as it did. -/
def pressReadsUptoRow : OpenClaim := { program := "ytbkbbkkmahenlaagreatdoor", sum := "62ac7e22cc328f9666a68a23e51fb9c4abdb0d0e3f602df43b154c13c1b15bb6", func := "shearworks/shearworkslaw08.PressReads", spec := "pressReads", unfollowed := true, recurses := true, named := ["math/bits.deBruijn32tab", "math/bits.deBruijn64tab"], plainKeys := false, apart := false, laid := [("math/bits.deBruijn32tab", laid_math_bits_deBruijn32tab), ("math/bits.deBruijn64tab", laid_math_bits_deBruijn64tab)], narrowed := true }
def PressReadsUptoSaid : Prop := pressReadsUptoRow.holds Tryz.pinned (OpenSpec.upto pressReadsSpec)

/-- 'shearworkslaw08.PressPlans', WHERE WHAT IT READS IS OF BULK AT MOST 1048576: true; the input reads as it did. -/
def pressPlansUptoRow : OpenClaim := { program := "ytbkbbkkmahenlaagreatdoor", sum := "62ac7e22cc328f9666a68a23e51fb9c4abdb0d0e3f602df43b154c13c1b15bb6", func := "shearworks/shearworkslaw08.PressPlans", spec := "pressPlans", unfollowed := true, recurses := true, named := ["math/bits.deBruijn32tab", "math/bits.deBruijn64tab"], plainKeys := false, apart := false, laid := [("math/bits.deBruijn32tab", laid_math_bits_deBruijn32tab), ("math/bits.deBruijn64tab", laid_math_bits_deBruijn64tab)], narrowed := true }
def PressPlansUptoSaid : Prop := pressPlansUptoRow.holds Tryz.pinned (OpenSpec.upto pressPlansSpec)

/-- 'shearworkslaw08.PressTrue', WHERE WHAT IT READS IS OF BULK AT MOST 1048576: true; the input reads as it did. -/
def pressTrueUptoRow : OpenClaim := { program := "ytbkbbkkmahenlaagreatdoor", sum := "62ac7e22cc328f9666a68a23e51fb9c4abdb0d0e3f602df43b154c13c1b15bb6", func := "shearworks/shearworkslaw08.PressTrue", spec := "pressTrue", unfollowed := true, recurses := true, named := ["math/bits.deBruijn32tab", "math/bits.deBruijn64tab"], plainKeys := false, apart := false, laid := [("math/bits.deBruijn32tab", laid_math_bits_deBruijn32tab), ("math/bits.deBruijn64tab", laid_math_bits_deBruijn64tab)], narrowed := true }
def PressTrueUptoSaid : Prop := pressTrueUptoRow.holds Tryz.pinned (OpenSpec.upto pressTrueSpec)

/-- 'shearworkslaw08.PressEnds', WHERE WHAT IT READS IS OF BULK AT MOST 1048576: true; the input reads as it did. -/
def pressEndsUptoRow : OpenClaim := { program := "ytbkbbkkmahenlaagreatdoor", sum := "62ac7e22cc328f9666a68a23e51fb9c4abdb0d0e3f602df43b154c13c1b15bb6", func := "shearworks/shearworkslaw08.PressEnds", spec := "pressEnds", unfollowed := true, recurses := true, named := ["math/bits.deBruijn32tab", "math/bits.deBruijn64tab"], plainKeys := false, apart := false, laid := [("math/bits.deBruijn32tab", laid_math_bits_deBruijn32tab), ("math/bits.deBruijn64tab", laid_math_bits_deBruijn64tab)], narrowed := true }
def PressEndsUptoSaid : Prop := pressEndsUptoRow.holds Tryz.pinned (OpenSpec.upto pressEndsSpec)

/-- 'shearworkslaw08.PressParts', WHERE WHAT IT READS IS OF BULK AT MOST 1048576: true; the input reads as it did. -/
def pressPartsUptoRow : OpenClaim := { program := "ytbkbbkkmahenlaagreatdoor", sum := "62ac7e22cc328f9666a68a23e51fb9c4abdb0d0e3f602df43b154c13c1b15bb6", func := "shearworks/shearworkslaw08.PressParts", spec := "pressParts", unfollowed := true, recurses := true, named := ["math/bits.deBruijn32tab", "math/bits.deBruijn64tab"], plainKeys := false, apart := false, laid := [("math/bits.deBruijn32tab", laid_math_bits_deBruijn32tab), ("math/bits.deBruijn64tab", laid_math_bits_deBruijn64tab)], narrowed := true }
def PressPartsUptoSaid : Prop := pressPartsUptoRow.holds Tryz.pinned (OpenSpec.upto pressPartsSpec)

/-- 'shearworkslaw08.PressFits', WHERE WHAT IT READS IS OF BULK AT MOST 1048576: true; the input reads as it did. -/
def pressFitsUptoRow : OpenClaim := { program := "ytbkbbkkmahenlaagreatdoor", sum := "62ac7e22cc328f9666a68a23e51fb9c4abdb0d0e3f602df43b154c13c1b15bb6", func := "shearworks/shearworkslaw08.PressFits", spec := "pressFits", unfollowed := true, recurses := true, named := ["math/bits.deBruijn32tab", "math/bits.deBruijn64tab"], plainKeys := false, apart := false, laid := [("math/bits.deBruijn32tab", laid_math_bits_deBruijn32tab), ("math/bits.deBruijn64tab", laid_math_bits_deBruijn64tab)], narrowed := true }
def PressFitsUptoSaid : Prop := pressFitsUptoRow.holds Tryz.pinned (OpenSpec.upto pressFitsSpec)

/-- 'shearworkslaw08.PressPlan', WHERE WHAT IT READS IS OF BULK AT MOST 1048576: true; the input reads as it did. -/
def pressPlanUptoRow : OpenClaim := { program := "ytbkbbkkmahenlaagreatdoor", sum := "62ac7e22cc328f9666a68a23e51fb9c4abdb0d0e3f602df43b154c13c1b15bb6", func := "shearworks/shearworkslaw08.PressPlan", spec := "pressPlan", unfollowed := true, recurses := true, named := ["math/bits.deBruijn32tab", "math/bits.deBruijn64tab"], plainKeys := false, apart := false, laid := [("math/bits.deBruijn32tab", laid_math_bits_deBruijn32tab), ("math/bits.deBruijn64tab", laid_math_bits_deBruijn64tab)], narrowed := true }
def PressPlanUptoSaid : Prop := pressPlanUptoRow.holds Tryz.pinned (OpenSpec.upto pressPlanSpec)

/-- 'shearworkslaw08.PressMore', WHERE WHAT IT READS IS OF BULK AT MOST 1048576: true; the input reads as it did. -/
def pressMoreUptoRow : OpenClaim := { program := "ytbkbbkkmahenlaagreatdoor", sum := "62ac7e22cc328f9666a68a23e51fb9c4abdb0d0e3f602df43b154c13c1b15bb6", func := "shearworks/shearworkslaw08.PressMore", spec := "pressMore", unfollowed := true, recurses := true, named := ["math/bits.deBruijn32tab", "math/bits.deBruijn64tab"], plainKeys := false, apart := false, laid := [("math/bits.deBruijn32tab", laid_math_bits_deBruijn32tab), ("math/bits.deBruijn64tab", laid_math_bits_deBruijn64tab)], narrowed := true }
def PressMoreUptoSaid : Prop := pressMoreUptoRow.holds Tryz.pinned (OpenSpec.upto pressMoreSpec)

end Rows
end Go.Proofs.YtbkbbkkmahenlaaGreatDoor
