/- How many fleeces a set has, from 512 to 1023. No conditions. -/
import Derived.Test.YtbkbbkkmahenlaaGreatDoorPrC
/- Layer 8: how many there are in a set, one by one (from 512 on). -/
namespace Go.Ag
open Go.Proofs
set_option maxRecDepth 1000000
theorem sizA4 : ((List.range 64).all fun n => tells cfg0 2000 (sizE (512 + n))) = true := by kernel_rfl
theorem sizB4 : ((List.range 64).all fun n => tells cfg0 2000 (sizE (576 + n))) = true := by kernel_rfl
end Go.Ag
/- Layer 8: how many there are in a set, one by one (from 640 on). -/
namespace Go.Ag
open Go.Proofs
set_option maxRecDepth 1000000
theorem sizA5 : ((List.range 64).all fun n => tells cfg0 2000 (sizE (640 + n))) = true := by kernel_rfl
theorem sizB5 : ((List.range 64).all fun n => tells cfg0 2000 (sizE (704 + n))) = true := by kernel_rfl
end Go.Ag
/- Layer 8: how many there are in a set, one by one (from 768 on). -/
namespace Go.Ag
open Go.Proofs
set_option maxRecDepth 1000000
theorem sizA6 : ((List.range 64).all fun n => tells cfg0 2000 (sizE (768 + n))) = true := by kernel_rfl
theorem sizB6 : ((List.range 64).all fun n => tells cfg0 2000 (sizE (832 + n))) = true := by kernel_rfl
end Go.Ag
/- Layer 8: how many there are in a set, one by one (from 896 on). -/
namespace Go.Ag
open Go.Proofs
set_option maxRecDepth 1000000
theorem sizA7 : ((List.range 64).all fun n => tells cfg0 2000 (sizE (896 + n))) = true := by kernel_rfl
theorem sizB7 : ((List.range 64).all fun n => tells cfg0 2000 (sizE (960 + n))) = true := by kernel_rfl
end Go.Ag
