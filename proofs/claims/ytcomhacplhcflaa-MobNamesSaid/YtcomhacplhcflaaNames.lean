/- Proved: MobNames returns true, whatever the memory, and changes nothing that was there. No conditions. The program's calls are run in the kernel by an evaluator that is proved right; calls that come more than once are laid in a table. -/
import Derived.Test.YtcomhacplhcflaaAgC
import Derived.Test.YtcomhacplhcflaaRows
import Derived.WalkKit
import Derived.ProofKit
import Derived.OpenShut
namespace Go.Proofs.Ytcomhacplhcflaa.mobNames
open Go.ChangeShapes Go.WideShapes Go.ChangeAt Go.RowKit
set_option linter.unusedVariables false      -- a walk need not use every 'w<i>' (that an integer argument fits its kind)

theorem own : ownKnob Try.prog.godebug = none := by kernel_rfl

def inl : List Nat := [29, 30, 35, 36, 37, 39, 43, 54, 66, 68, 71, 77, 78, 84, 87, 88, 91, 94, 96, 98, 100, 103, 112, 115, 116]
noncomputable def cfg (es : List Go.Ag.Known) : Go.Ag.Cfg := { P := Try.prog, pure := fun f => !inl.contains f, con := Go.Ag.conTab es }
theorem mix : Try.prog.follows .mixedOrders = true := by kernel_rfl
def e0 : Go.Ag.Known := ⟨19, [.lit (.slice none 0 0)], (.agg [.sl [.lit (.bool true), .lit (.int .i64 1), .lit (.bool false), .lit (.int .i64 0), .lit (.bool true), .lit (.int .i64 2), .lit (.bool false), .lit (.int .i64 0)] 0 4, .sl [.lit (.int .i64 2), .lit (.int .i64 3), .lit (.int .i64 1), .lit (.int .i64 1), .lit (.int .i64 2), .lit (.int .i64 2)] 0 3, .sl [.lit (.int .i64 0), .lit (.int .i64 0), .lit (.int .i64 1), .lit (.int .i64 4), .lit (.int .i64 1), .lit (.int .i64 3), .lit (.int .i64 3), .lit (.int .i64 2)] 0 2, .lit (.slice none 0 0)])⟩
theorem k0 : e0.ok Try.prog := Go.Ag.tells_ok (C := cfg []) mix (Go.Ag.conTab_ok rfl (fun _ h => nomatch h)) (n := 2000) (by kernel_rfl)
def tab0 : List Go.Ag.Known := e0 :: []
theorem t0 : ∀ e ∈ tab0, e.ok Try.prog := List.forall_mem_cons.2 ⟨k0, (fun _ h => nomatch h)⟩
def e1 : Go.Ag.Known := ⟨19, [.sl [.lit (.int .i64 0), .lit (.int .i64 1), .lit (.int .i64 4), .lit (.int .i64 4)] 0 1], (.agg [.sl [.lit (.bool true), .lit (.int .i64 1), .lit (.bool false), .lit (.int .i64 0), .lit (.bool true), .lit (.int .i64 2), .lit (.bool false), .lit (.int .i64 0)] 0 4, .sl [.lit (.int .i64 2), .lit (.int .i64 3), .lit (.int .i64 1), .lit (.int .i64 1), .lit (.int .i64 2), .lit (.int .i64 2)] 0 3, .sl [.lit (.int .i64 0), .lit (.int .i64 0), .lit (.int .i64 1), .lit (.int .i64 4), .lit (.int .i64 1), .lit (.int .i64 3), .lit (.int .i64 3), .lit (.int .i64 2)] 0 2, .sl [.lit (.int .i64 0), .lit (.int .i64 1), .lit (.int .i64 4), .lit (.int .i64 4)] 0 1])⟩
theorem k1 : e1.ok Try.prog := Go.Ag.tells_ok (C := cfg tab0) mix (Go.Ag.conTab_ok rfl t0) (n := 2000) (by kernel_rfl)
def tab1 : List Go.Ag.Known := e1 :: tab0
theorem t1 : ∀ e ∈ tab1, e.ok Try.prog := List.forall_mem_cons.2 ⟨k1, t0⟩
def e2 : Go.Ag.Known := ⟨21, [], (.agg [.sl [.lit (.bool true), .lit (.int .i64 1), .lit (.bool false), .lit (.int .i64 0), .lit (.bool true), .lit (.int .i64 2), .lit (.bool false), .lit (.int .i64 0)] 0 4, .sl [.lit (.int .i64 2), .lit (.int .i64 3), .lit (.int .i64 1), .lit (.int .i64 1), .lit (.int .i64 2), .lit (.int .i64 2)] 0 3, .sl [.lit (.int .i64 0), .lit (.int .i64 0), .lit (.int .i64 1), .lit (.int .i64 4), .lit (.int .i64 1), .lit (.int .i64 3), .lit (.int .i64 3), .lit (.int .i64 2)] 0 2, .sl [.lit (.int .i64 0), .lit (.int .i64 1), .lit (.int .i64 4), .lit (.int .i64 4)] 0 1])⟩
theorem k2 : e2.ok Try.prog := Go.Ag.tells_ok (C := cfg tab1) mix (Go.Ag.conTab_ok rfl t1) (n := 2000) (by kernel_rfl)
def tab2 : List Go.Ag.Known := e2 :: tab1
theorem t2 : ∀ e ∈ tab2, e.ok Try.prog := List.forall_mem_cons.2 ⟨k2, t1⟩
def e3 : Go.Ag.Known := ⟨22, [.agg [.sl [.lit (.bool true), .lit (.int .i64 1), .lit (.bool false), .lit (.int .i64 0), .lit (.bool true), .lit (.int .i64 2), .lit (.bool false), .lit (.int .i64 0)] 0 4, .sl [.lit (.int .i64 2), .lit (.int .i64 3), .lit (.int .i64 1), .lit (.int .i64 1), .lit (.int .i64 2), .lit (.int .i64 2)] 0 3, .sl [.lit (.int .i64 0), .lit (.int .i64 0), .lit (.int .i64 1), .lit (.int .i64 4), .lit (.int .i64 1), .lit (.int .i64 3), .lit (.int .i64 3), .lit (.int .i64 2)] 0 2, .lit (.slice none 0 0)], .lit (.int .i64 0), .lit (.int .i64 1)], (.tuple [.agg [.lit (.int .i64 2), .lit (.int .i64 4)], .lit (.int .i64 0)])⟩
theorem k3 : e3.ok Try.prog := Go.Ag.tells_ok (C := cfg tab2) mix (Go.Ag.conTab_ok rfl t2) (n := 2000) (by kernel_rfl)
def tab3 : List Go.Ag.Known := e3 :: tab2
theorem t3 : ∀ e ∈ tab3, e.ok Try.prog := List.forall_mem_cons.2 ⟨k3, t2⟩
def e4 : Go.Ag.Known := ⟨22, [.agg [.sl [.lit (.bool true), .lit (.int .i64 1), .lit (.bool false), .lit (.int .i64 0), .lit (.bool true), .lit (.int .i64 2), .lit (.bool false), .lit (.int .i64 0)] 0 4, .sl [.lit (.int .i64 2), .lit (.int .i64 3), .lit (.int .i64 1), .lit (.int .i64 1), .lit (.int .i64 2), .lit (.int .i64 2)] 0 3, .sl [.lit (.int .i64 0), .lit (.int .i64 0), .lit (.int .i64 1), .lit (.int .i64 4), .lit (.int .i64 1), .lit (.int .i64 3), .lit (.int .i64 3), .lit (.int .i64 2)] 0 2, .lit (.slice none 0 0)], .lit (.int .i64 0), .lit (.int .i64 2)], (.tuple [.agg [.lit (.int .i64 3), .lit (.int .i64 5)], .lit (.int .i64 0)])⟩
theorem k4 : e4.ok Try.prog := Go.Ag.tells_ok (C := cfg tab3) mix (Go.Ag.conTab_ok rfl t3) (n := 2000) (by kernel_rfl)
def tab4 : List Go.Ag.Known := e4 :: tab3
theorem t4 : ∀ e ∈ tab4, e.ok Try.prog := List.forall_mem_cons.2 ⟨k4, t3⟩
def e5 : Go.Ag.Known := ⟨22, [.agg [.sl [.lit (.bool true), .lit (.int .i64 1), .lit (.bool false), .lit (.int .i64 0), .lit (.bool true), .lit (.int .i64 2), .lit (.bool false), .lit (.int .i64 0)] 0 4, .sl [.lit (.int .i64 2), .lit (.int .i64 3), .lit (.int .i64 1), .lit (.int .i64 1), .lit (.int .i64 2), .lit (.int .i64 2)] 0 3, .sl [.lit (.int .i64 0), .lit (.int .i64 0), .lit (.int .i64 1), .lit (.int .i64 4), .lit (.int .i64 1), .lit (.int .i64 3), .lit (.int .i64 3), .lit (.int .i64 2)] 0 2, .lit (.slice none 0 0)], .lit (.int .i64 1), .lit (.int .i64 3)], (.tuple [.agg [.lit (.int .i64 8), .lit (.int .i64 8)], .lit (.int .i64 0)])⟩
theorem k5 : e5.ok Try.prog := Go.Ag.tells_ok (C := cfg tab4) mix (Go.Ag.conTab_ok rfl t4) (n := 2000) (by kernel_rfl)
def tab5 : List Go.Ag.Known := e5 :: tab4
theorem t5 : ∀ e ∈ tab5, e.ok Try.prog := List.forall_mem_cons.2 ⟨k5, t4⟩
def e6 : Go.Ag.Known := ⟨22, [.agg [.sl [.lit (.bool true), .lit (.int .i64 1), .lit (.bool false), .lit (.int .i64 0), .lit (.bool true), .lit (.int .i64 2), .lit (.bool false), .lit (.int .i64 0)] 0 4, .sl [.lit (.int .i64 2), .lit (.int .i64 3), .lit (.int .i64 1), .lit (.int .i64 1), .lit (.int .i64 2), .lit (.int .i64 2)] 0 3, .sl [.lit (.int .i64 0), .lit (.int .i64 0), .lit (.int .i64 1), .lit (.int .i64 4), .lit (.int .i64 1), .lit (.int .i64 3), .lit (.int .i64 3), .lit (.int .i64 2)] 0 2, .sl [.lit (.int .i64 0), .lit (.int .i64 1), .lit (.int .i64 4), .lit (.int .i64 4)] 0 1], .lit (.int .i64 0), .lit (.int .i64 3)], (.tuple [.agg [.lit (.int .i64 9), .lit (.int .i64 9)], .lit (.int .i64 0)])⟩
theorem k6 : e6.ok Try.prog := Go.Ag.tells_ok (C := cfg tab5) mix (Go.Ag.conTab_ok rfl t5) (n := 2000) (by kernel_rfl)
def tab6 : List Go.Ag.Known := e6 :: tab5
theorem t6 : ∀ e ∈ tab6, e.ok Try.prog := List.forall_mem_cons.2 ⟨k6, t5⟩
def e7 : Go.Ag.Known := ⟨23, [.agg [.sl [.lit (.bool true), .lit (.int .i64 1), .lit (.bool false), .lit (.int .i64 0), .lit (.bool true), .lit (.int .i64 2), .lit (.bool false), .lit (.int .i64 0)] 0 4, .sl [.lit (.int .i64 2), .lit (.int .i64 3), .lit (.int .i64 1), .lit (.int .i64 1), .lit (.int .i64 2), .lit (.int .i64 2)] 0 3, .sl [.lit (.int .i64 0), .lit (.int .i64 0), .lit (.int .i64 1), .lit (.int .i64 4), .lit (.int .i64 1), .lit (.int .i64 3), .lit (.int .i64 3), .lit (.int .i64 2)] 0 2, .lit (.slice none 0 0)], .lit (.int .i64 0), .lit (.int .i64 0)], (.tuple [.lit (.int .i64 1), .lit (.int .i64 0)])⟩
theorem k7 : e7.ok Try.prog := Go.Ag.tells_ok (C := cfg tab6) mix (Go.Ag.conTab_ok rfl t6) (n := 2000) (by kernel_rfl)
def tab7 : List Go.Ag.Known := e7 :: tab6
theorem t7 : ∀ e ∈ tab7, e.ok Try.prog := List.forall_mem_cons.2 ⟨k7, t6⟩
def e8 : Go.Ag.Known := ⟨23, [.agg [.sl [.lit (.bool true), .lit (.int .i64 1), .lit (.bool false), .lit (.int .i64 0), .lit (.bool true), .lit (.int .i64 2), .lit (.bool false), .lit (.int .i64 0)] 0 4, .sl [.lit (.int .i64 2), .lit (.int .i64 3), .lit (.int .i64 1), .lit (.int .i64 1), .lit (.int .i64 2), .lit (.int .i64 2)] 0 3, .sl [.lit (.int .i64 0), .lit (.int .i64 0), .lit (.int .i64 1), .lit (.int .i64 4), .lit (.int .i64 1), .lit (.int .i64 3), .lit (.int .i64 3), .lit (.int .i64 2)] 0 2, .sl [.lit (.int .i64 0), .lit (.int .i64 1), .lit (.int .i64 4), .lit (.int .i64 4)] 0 1], .lit (.int .i64 0), .lit (.int .i64 4)], (.tuple [.lit (.int .i64 2), .lit (.int .i64 0)])⟩
theorem k8 : e8.ok Try.prog := Go.Ag.tells_ok (C := cfg tab7) mix (Go.Ag.conTab_ok rfl t7) (n := 2000) (by kernel_rfl)
def tab8 : List Go.Ag.Known := e8 :: tab7
theorem t8 : ∀ e ∈ tab8, e.ok Try.prog := List.forall_mem_cons.2 ⟨k8, t7⟩
def e9 : Go.Ag.Known := ⟨24, [.agg [.sl [.lit (.bool true), .lit (.int .i64 1), .lit (.bool false), .lit (.int .i64 0), .lit (.bool true), .lit (.int .i64 2), .lit (.bool false), .lit (.int .i64 0)] 0 4, .sl [.lit (.int .i64 2), .lit (.int .i64 3), .lit (.int .i64 1), .lit (.int .i64 1), .lit (.int .i64 2), .lit (.int .i64 2)] 0 3, .sl [.lit (.int .i64 0), .lit (.int .i64 0), .lit (.int .i64 1), .lit (.int .i64 4), .lit (.int .i64 1), .lit (.int .i64 3), .lit (.int .i64 3), .lit (.int .i64 2)] 0 2, .lit (.slice none 0 0)], .lit (.int .i64 0)], (.tuple [.agg [.lit (.int .i64 3), .lit (.int .i64 4)], .lit (.int .i64 0)])⟩
theorem k9 : e9.ok Try.prog := Go.Ag.tells_ok (C := cfg tab8) mix (Go.Ag.conTab_ok rfl t8) (n := 2000) (by kernel_rfl)
def tab9 : List Go.Ag.Known := e9 :: tab8
theorem t9 : ∀ e ∈ tab9, e.ok Try.prog := List.forall_mem_cons.2 ⟨k9, t8⟩
def e10 : Go.Ag.Known := ⟨24, [.agg [.sl [.lit (.bool true), .lit (.int .i64 1), .lit (.bool false), .lit (.int .i64 0), .lit (.bool true), .lit (.int .i64 2), .lit (.bool false), .lit (.int .i64 0)] 0 4, .sl [.lit (.int .i64 2), .lit (.int .i64 3), .lit (.int .i64 1), .lit (.int .i64 1), .lit (.int .i64 2), .lit (.int .i64 2)] 0 3, .sl [.lit (.int .i64 0), .lit (.int .i64 0), .lit (.int .i64 1), .lit (.int .i64 4), .lit (.int .i64 1), .lit (.int .i64 3), .lit (.int .i64 3), .lit (.int .i64 2)] 0 2, .lit (.slice none 0 0)], .lit (.int .i64 1)], (.tuple [.agg [.lit (.int .i64 2), .lit (.int .i64 2)], .lit (.int .i64 0)])⟩
theorem k10 : e10.ok Try.prog := Go.Ag.tells_ok (C := cfg tab9) mix (Go.Ag.conTab_ok rfl t9) (n := 2000) (by kernel_rfl)
def tab10 : List Go.Ag.Known := e10 :: tab9
theorem t10 : ∀ e ∈ tab10, e.ok Try.prog := List.forall_mem_cons.2 ⟨k10, t9⟩
def e11 : Go.Ag.Known := ⟨13, [.agg [.sl [.lit (.bool true), .lit (.int .i64 1), .lit (.bool false), .lit (.int .i64 0), .lit (.bool true), .lit (.int .i64 2), .lit (.bool false), .lit (.int .i64 0)] 0 4, .sl [.lit (.int .i64 2), .lit (.int .i64 3), .lit (.int .i64 1), .lit (.int .i64 1), .lit (.int .i64 2), .lit (.int .i64 2)] 0 3, .sl [.lit (.int .i64 0), .lit (.int .i64 0), .lit (.int .i64 1), .lit (.int .i64 4), .lit (.int .i64 1), .lit (.int .i64 3), .lit (.int .i64 3), .lit (.int .i64 2)] 0 2, .lit (.slice none 0 0)], .lit (.int .i64 0), .lit (.int .i64 1)], (.tuple [.lit (.int .i64 1), .lit (.int .i64 0)])⟩
theorem k11 : e11.ok Try.prog := Go.Ag.tells_ok (C := cfg tab10) mix (Go.Ag.conTab_ok rfl t10) (n := 2000) (by kernel_rfl)
def tab11 : List Go.Ag.Known := e11 :: tab10
theorem t11 : ∀ e ∈ tab11, e.ok Try.prog := List.forall_mem_cons.2 ⟨k11, t10⟩
def e12 : Go.Ag.Known := ⟨13, [.agg [.sl [.lit (.bool true), .lit (.int .i64 1), .lit (.bool false), .lit (.int .i64 0), .lit (.bool true), .lit (.int .i64 2), .lit (.bool false), .lit (.int .i64 0)] 0 4, .sl [.lit (.int .i64 2), .lit (.int .i64 3), .lit (.int .i64 1), .lit (.int .i64 1), .lit (.int .i64 2), .lit (.int .i64 2)] 0 3, .sl [.lit (.int .i64 0), .lit (.int .i64 0), .lit (.int .i64 1), .lit (.int .i64 4), .lit (.int .i64 1), .lit (.int .i64 3), .lit (.int .i64 3), .lit (.int .i64 2)] 0 2, .sl [.lit (.int .i64 0), .lit (.int .i64 1), .lit (.int .i64 4), .lit (.int .i64 4)] 0 1], .lit (.int .i64 0), .lit (.int .i64 1)], (.tuple [.lit (.int .i64 0), .lit (.int .i64 0)])⟩
theorem k12 : e12.ok Try.prog := Go.Ag.tells_ok (C := cfg tab11) mix (Go.Ag.conTab_ok rfl t11) (n := 2000) (by kernel_rfl)
def tab12 : List Go.Ag.Known := e12 :: tab11
theorem t12 : ∀ e ∈ tab12, e.ok Try.prog := List.forall_mem_cons.2 ⟨k12, t11⟩
def e13 : Go.Ag.Known := ⟨15, [.agg [.sl [.lit (.bool true), .lit (.int .i64 1), .lit (.bool false), .lit (.int .i64 0), .lit (.bool true), .lit (.int .i64 2), .lit (.bool false), .lit (.int .i64 0)] 0 4, .sl [.lit (.int .i64 2), .lit (.int .i64 3), .lit (.int .i64 1), .lit (.int .i64 1), .lit (.int .i64 2), .lit (.int .i64 2)] 0 3, .sl [.lit (.int .i64 0), .lit (.int .i64 0), .lit (.int .i64 1), .lit (.int .i64 4), .lit (.int .i64 1), .lit (.int .i64 3), .lit (.int .i64 3), .lit (.int .i64 2)] 0 2, .lit (.slice none 0 0)], .lit (.int .i64 7)], (.tuple [.lit (.int .i64 0), .lit (.int .i64 1), .lit (.int .i64 0)])⟩
theorem k13 : e13.ok Try.prog := Go.Ag.tells_ok (C := cfg tab12) mix (Go.Ag.conTab_ok rfl t12) (n := 2000) (by kernel_rfl)
def tab13 : List Go.Ag.Known := e13 :: tab12
theorem t13 : ∀ e ∈ tab13, e.ok Try.prog := List.forall_mem_cons.2 ⟨k13, t12⟩
def e14 : Go.Ag.Known := ⟨17, [.agg [.sl [.lit (.bool true), .lit (.int .i64 1), .lit (.bool false), .lit (.int .i64 0), .lit (.bool true), .lit (.int .i64 2), .lit (.bool false), .lit (.int .i64 0)] 0 4, .sl [.lit (.int .i64 2), .lit (.int .i64 3), .lit (.int .i64 1), .lit (.int .i64 1), .lit (.int .i64 2), .lit (.int .i64 2)] 0 3, .sl [.lit (.int .i64 0), .lit (.int .i64 0), .lit (.int .i64 1), .lit (.int .i64 4), .lit (.int .i64 1), .lit (.int .i64 3), .lit (.int .i64 3), .lit (.int .i64 2)] 0 2, .sl [.lit (.int .i64 0), .lit (.int .i64 1), .lit (.int .i64 4), .lit (.int .i64 4)] 0 1]], (.tuple [.lit (.int .i64 0), .lit (.int .i64 4)])⟩
theorem k14 : e14.ok Try.prog := Go.Ag.tells_ok (C := cfg tab13) mix (Go.Ag.conTab_ok rfl t13) (n := 2000) (by kernel_rfl)
def tab14 : List Go.Ag.Known := e14 :: tab13
theorem t14 : ∀ e ∈ tab14, e.ok Try.prog := List.forall_mem_cons.2 ⟨k14, t13⟩
def e15 : Go.Ag.Known := ⟨19, [.sl [.lit (.int .i64 0), .lit (.int .i64 1), .lit (.int .i64 4), .lit (.int .i64 4), .lit (.int .i64 0), .lit (.int .i64 2), .lit (.int .i64 3), .lit (.int .i64 4)] 0 2], (.agg [.sl [.lit (.bool true), .lit (.int .i64 1), .lit (.bool false), .lit (.int .i64 0), .lit (.bool true), .lit (.int .i64 2), .lit (.bool false), .lit (.int .i64 0)] 0 4, .sl [.lit (.int .i64 2), .lit (.int .i64 3), .lit (.int .i64 1), .lit (.int .i64 1), .lit (.int .i64 2), .lit (.int .i64 2)] 0 3, .sl [.lit (.int .i64 0), .lit (.int .i64 0), .lit (.int .i64 1), .lit (.int .i64 4), .lit (.int .i64 1), .lit (.int .i64 3), .lit (.int .i64 3), .lit (.int .i64 2)] 0 2, .sl [.lit (.int .i64 0), .lit (.int .i64 1), .lit (.int .i64 4), .lit (.int .i64 4), .lit (.int .i64 0), .lit (.int .i64 2), .lit (.int .i64 3), .lit (.int .i64 4)] 0 2])⟩
theorem k15 : e15.ok Try.prog := Go.Ag.tells_ok (C := cfg tab14) mix (Go.Ag.conTab_ok rfl t14) (n := 2000) (by kernel_rfl)
def tab15 : List Go.Ag.Known := e15 :: tab14
theorem t15 : ∀ e ∈ tab15, e.ok Try.prog := List.forall_mem_cons.2 ⟨k15, t14⟩
def e16 : Go.Ag.Known := ⟨26, [], (.agg [.sl [.lit (.bool true), .lit (.int .i64 1), .lit (.bool false), .lit (.int .i64 0), .lit (.bool true), .lit (.int .i64 2), .lit (.bool false), .lit (.int .i64 0)] 0 4, .sl [.lit (.int .i64 2), .lit (.int .i64 3), .lit (.int .i64 1), .lit (.int .i64 1), .lit (.int .i64 2), .lit (.int .i64 2)] 0 3, .sl [.lit (.int .i64 0), .lit (.int .i64 0), .lit (.int .i64 1), .lit (.int .i64 4), .lit (.int .i64 1), .lit (.int .i64 3), .lit (.int .i64 3), .lit (.int .i64 2)] 0 2, .sl [.lit (.int .i64 0), .lit (.int .i64 1), .lit (.int .i64 4), .lit (.int .i64 4), .lit (.int .i64 0), .lit (.int .i64 2), .lit (.int .i64 3), .lit (.int .i64 4)] 0 2])⟩
theorem k16 : e16.ok Try.prog := Go.Ag.tells_ok (C := cfg tab15) mix (Go.Ag.conTab_ok rfl t15) (n := 2000) (by kernel_rfl)
def tab16 : List Go.Ag.Known := e16 :: tab15
theorem t16 : ∀ e ∈ tab16, e.ok Try.prog := List.forall_mem_cons.2 ⟨k16, t15⟩
def e17 : Go.Ag.Known := ⟨24, [.agg [.sl [.lit (.bool true), .lit (.int .i64 1), .lit (.bool false), .lit (.int .i64 0), .lit (.bool true), .lit (.int .i64 2), .lit (.bool false), .lit (.int .i64 0)] 0 4, .sl [.lit (.int .i64 2), .lit (.int .i64 3), .lit (.int .i64 1), .lit (.int .i64 1), .lit (.int .i64 2), .lit (.int .i64 2)] 0 3, .sl [.lit (.int .i64 0), .lit (.int .i64 0), .lit (.int .i64 1), .lit (.int .i64 4), .lit (.int .i64 1), .lit (.int .i64 3), .lit (.int .i64 3), .lit (.int .i64 2)] 0 2, .sl [.lit (.int .i64 0), .lit (.int .i64 1), .lit (.int .i64 4), .lit (.int .i64 4), .lit (.int .i64 0), .lit (.int .i64 2), .lit (.int .i64 3), .lit (.int .i64 4)] 0 2], .lit (.int .i64 0)], (.tuple [.agg [.lit (.int .i64 0), .lit (.int .i64 0)], .lit (.int .i64 10)])⟩
theorem k17 : e17.ok Try.prog := Go.Ag.tells_ok (C := cfg tab16) mix (Go.Ag.conTab_ok rfl t16) (n := 2000) (by kernel_rfl)
def tab17 : List Go.Ag.Known := e17 :: tab16
theorem t17 : ∀ e ∈ tab17, e.ok Try.prog := List.forall_mem_cons.2 ⟨k17, t16⟩
def e18 : Go.Ag.Known := ⟨25, [.agg [.sl [.lit (.bool true), .lit (.int .i64 1), .lit (.bool false), .lit (.int .i64 0), .lit (.bool true), .lit (.int .i64 2), .lit (.bool false), .lit (.int .i64 0)] 0 4, .sl [.lit (.int .i64 2), .lit (.int .i64 3), .lit (.int .i64 1), .lit (.int .i64 1), .lit (.int .i64 2), .lit (.int .i64 2)] 0 3, .sl [.lit (.int .i64 0), .lit (.int .i64 0), .lit (.int .i64 1), .lit (.int .i64 4), .lit (.int .i64 1), .lit (.int .i64 3), .lit (.int .i64 3), .lit (.int .i64 2)] 0 2, .sl [.lit (.int .i64 0), .lit (.int .i64 1), .lit (.int .i64 4), .lit (.int .i64 4), .lit (.int .i64 0), .lit (.int .i64 2), .lit (.int .i64 3), .lit (.int .i64 4)] 0 2], .lit (.int .i64 0)], (.tuple [.lit (.int .i64 0), .lit (.int .i64 10)])⟩
theorem k18 : e18.ok Try.prog := Go.Ag.tells_ok (C := cfg tab17) mix (Go.Ag.conTab_ok rfl t17) (n := 2000) (by kernel_rfl)
def tab18 : List Go.Ag.Known := e18 :: tab17
theorem t18 : ∀ e ∈ tab18, e.ok Try.prog := List.forall_mem_cons.2 ⟨k18, t17⟩
def e19 : Go.Ag.Known := ⟨22, [.agg [.sl [.lit (.bool true), .lit (.int .i64 1), .lit (.bool false), .lit (.int .i64 0), .lit (.bool true), .lit (.int .i64 2), .lit (.bool false), .lit (.int .i64 0)] 0 4, .sl [.lit (.int .i64 2), .lit (.int .i64 3), .lit (.int .i64 1), .lit (.int .i64 1), .lit (.int .i64 2), .lit (.int .i64 2)] 0 3, .sl [.lit (.int .i64 0), .lit (.int .i64 0), .lit (.int .i64 1), .lit (.int .i64 4), .lit (.int .i64 1), .lit (.int .i64 3), .lit (.int .i64 3), .lit (.int .i64 2)] 0 2, .lit (.slice none 0 0)], .lit (.int .i64 0), .lit (.int .i64 3)], (.tuple [.agg [.lit (.int .i64 7), .lit (.int .i64 9)], .lit (.int .i64 0)])⟩
theorem k19 : e19.ok Try.prog := Go.Ag.tells_ok (C := cfg tab18) mix (Go.Ag.conTab_ok rfl t18) (n := 2000) (by kernel_rfl)
def tab19 : List Go.Ag.Known := e19 :: tab18
theorem t19 : ∀ e ∈ tab19, e.ok Try.prog := List.forall_mem_cons.2 ⟨k19, t18⟩
def e20 : Go.Ag.Known := ⟨23, [.agg [.sl [.lit (.bool true), .lit (.int .i64 1), .lit (.bool false), .lit (.int .i64 0), .lit (.bool true), .lit (.int .i64 2), .lit (.bool false), .lit (.int .i64 0)] 0 4, .sl [.lit (.int .i64 2), .lit (.int .i64 3), .lit (.int .i64 1), .lit (.int .i64 1), .lit (.int .i64 2), .lit (.int .i64 2)] 0 3, .sl [.lit (.int .i64 0), .lit (.int .i64 0), .lit (.int .i64 1), .lit (.int .i64 4), .lit (.int .i64 1), .lit (.int .i64 3), .lit (.int .i64 3), .lit (.int .i64 2)] 0 2, .lit (.slice none 0 0)], .lit (.int .i64 0), .lit (.int .i64 4)], (.tuple [.lit (.int .i64 6), .lit (.int .i64 0)])⟩
theorem k20 : e20.ok Try.prog := Go.Ag.tells_ok (C := cfg tab19) mix (Go.Ag.conTab_ok rfl t19) (n := 2000) (by kernel_rfl)
def tab20 : List Go.Ag.Known := e20 :: tab19
theorem t20 : ∀ e ∈ tab20, e.ok Try.prog := List.forall_mem_cons.2 ⟨k20, t19⟩
def e21 : Go.Ag.Known := ⟨24, [.agg [.sl [.lit (.bool true), .lit (.int .i64 1), .lit (.bool false), .lit (.int .i64 0), .lit (.bool true), .lit (.int .i64 2), .lit (.bool false), .lit (.int .i64 0)] 0 4, .sl [.lit (.int .i64 2), .lit (.int .i64 3), .lit (.int .i64 1), .lit (.int .i64 1), .lit (.int .i64 2), .lit (.int .i64 2)] 0 3, .sl [.lit (.int .i64 0), .lit (.int .i64 0), .lit (.int .i64 1), .lit (.int .i64 4), .lit (.int .i64 1), .lit (.int .i64 3), .lit (.int .i64 3), .lit (.int .i64 2)] 0 2, .sl [.lit (.int .i64 0), .lit (.int .i64 1), .lit (.int .i64 4), .lit (.int .i64 4)] 0 1], .lit (.int .i64 0)], (.tuple [.agg [.lit (.int .i64 4), .lit (.int .i64 4)], .lit (.int .i64 0)])⟩
theorem k21 : e21.ok Try.prog := Go.Ag.tells_ok (C := cfg tab20) mix (Go.Ag.conTab_ok rfl t20) (n := 2000) (by kernel_rfl)
def tab21 : List Go.Ag.Known := e21 :: tab20
theorem t21 : ∀ e ∈ tab21, e.ok Try.prog := List.forall_mem_cons.2 ⟨k21, t20⟩
def e22 : Go.Ag.Known := ⟨25, [.agg [.sl [.lit (.bool true), .lit (.int .i64 1), .lit (.bool false), .lit (.int .i64 0), .lit (.bool true), .lit (.int .i64 2), .lit (.bool false), .lit (.int .i64 0)] 0 4, .sl [.lit (.int .i64 2), .lit (.int .i64 3), .lit (.int .i64 1), .lit (.int .i64 1), .lit (.int .i64 2), .lit (.int .i64 2)] 0 3, .sl [.lit (.int .i64 0), .lit (.int .i64 0), .lit (.int .i64 1), .lit (.int .i64 4), .lit (.int .i64 1), .lit (.int .i64 3), .lit (.int .i64 3), .lit (.int .i64 2)] 0 2, .lit (.slice none 0 0)], .lit (.int .i64 0)], (.tuple [.lit (.int .i64 2), .lit (.int .i64 0)])⟩
theorem k22 : e22.ok Try.prog := Go.Ag.tells_ok (C := cfg tab21) mix (Go.Ag.conTab_ok rfl t21) (n := 2000) (by kernel_rfl)
def tab22 : List Go.Ag.Known := e22 :: tab21
theorem t22 : ∀ e ∈ tab22, e.ok Try.prog := List.forall_mem_cons.2 ⟨k22, t21⟩
def e23 : Go.Ag.Known := ⟨13, [.agg [.sl [.lit (.bool true), .lit (.int .i64 1), .lit (.bool false), .lit (.int .i64 0), .lit (.bool true), .lit (.int .i64 2), .lit (.bool false), .lit (.int .i64 0)] 0 4, .sl [.lit (.int .i64 2), .lit (.int .i64 3), .lit (.int .i64 1), .lit (.int .i64 1), .lit (.int .i64 2), .lit (.int .i64 2)] 0 3, .sl [.lit (.int .i64 0), .lit (.int .i64 0), .lit (.int .i64 1), .lit (.int .i64 4), .lit (.int .i64 1), .lit (.int .i64 3), .lit (.int .i64 3), .lit (.int .i64 2)] 0 2, .sl [.lit (.int .i64 0), .lit (.int .i64 1), .lit (.int .i64 4), .lit (.int .i64 4)] 0 1], .lit (.int .i64 1), .lit (.int .i64 0)], (.tuple [.lit (.int .i64 2), .lit (.int .i64 0)])⟩
theorem k23 : e23.ok Try.prog := Go.Ag.tells_ok (C := cfg tab22) mix (Go.Ag.conTab_ok rfl t22) (n := 2000) (by kernel_rfl)
def tab23 : List Go.Ag.Known := e23 :: tab22
theorem t23 : ∀ e ∈ tab23, e.ok Try.prog := List.forall_mem_cons.2 ⟨k23, t22⟩
def e24 : Go.Ag.Known := ⟨15, [.agg [.sl [.lit (.bool true), .lit (.int .i64 1), .lit (.bool false), .lit (.int .i64 0), .lit (.bool true), .lit (.int .i64 2), .lit (.bool false), .lit (.int .i64 0)] 0 4, .sl [.lit (.int .i64 2), .lit (.int .i64 3), .lit (.int .i64 1), .lit (.int .i64 1), .lit (.int .i64 2), .lit (.int .i64 2)] 0 3, .sl [.lit (.int .i64 0), .lit (.int .i64 0), .lit (.int .i64 1), .lit (.int .i64 4), .lit (.int .i64 1), .lit (.int .i64 3), .lit (.int .i64 3), .lit (.int .i64 2)] 0 2, .lit (.slice none 0 0)], .lit (.int .i64 8)], (.tuple [.lit (.int .i64 2), .lit (.int .i64 3), .lit (.int .i64 0)])⟩
theorem k24 : e24.ok Try.prog := Go.Ag.tells_ok (C := cfg tab23) mix (Go.Ag.conTab_ok rfl t23) (n := 2000) (by kernel_rfl)
def tab24 : List Go.Ag.Known := e24 :: tab23
theorem t24 : ∀ e ∈ tab24, e.ok Try.prog := List.forall_mem_cons.2 ⟨k24, t23⟩
def e25 : Go.Ag.Known := ⟨17, [.agg [.sl [.lit (.bool true), .lit (.int .i64 1), .lit (.bool false), .lit (.int .i64 0), .lit (.bool true), .lit (.int .i64 2), .lit (.bool false), .lit (.int .i64 0)] 0 4, .sl [.lit (.int .i64 2), .lit (.int .i64 3), .lit (.int .i64 1), .lit (.int .i64 1), .lit (.int .i64 2), .lit (.int .i64 2)] 0 3, .sl [.lit (.int .i64 0), .lit (.int .i64 0), .lit (.int .i64 1), .lit (.int .i64 4), .lit (.int .i64 1), .lit (.int .i64 3), .lit (.int .i64 3), .lit (.int .i64 2)] 0 2, .sl [.lit (.int .i64 0), .lit (.int .i64 1), .lit (.int .i64 4), .lit (.int .i64 4), .lit (.int .i64 0), .lit (.int .i64 2), .lit (.int .i64 3), .lit (.int .i64 4)] 0 2]], (.tuple [.lit (.int .i64 3), .lit (.int .i64 0)])⟩
theorem k25 : e25.ok Try.prog := Go.Ag.tells_ok (C := cfg tab24) mix (Go.Ag.conTab_ok rfl t24) (n := 2000) (by kernel_rfl)
def tab25 : List Go.Ag.Known := e25 :: tab24
theorem t25 : ∀ e ∈ tab25, e.ok Try.prog := List.forall_mem_cons.2 ⟨k25, t24⟩
def e26 : Go.Ag.Known := ⟨12, [], (.lit (.bool true))⟩
theorem k26 : e26.ok Try.prog := Go.Ag.tells_ok (C := cfg tab25) mix (Go.Ag.conTab_ok rfl t25) (n := 2000) (by kernel_rfl)
def tab26 : List Go.Ag.Known := e26 :: tab25
theorem t26 : ∀ e ∈ tab26, e.ok Try.prog := List.forall_mem_cons.2 ⟨k26, t25⟩
def e27 : Go.Ag.Known := ⟨4, [], (.lit (.bool true))⟩
theorem k27 : e27.ok Try.prog := Go.Ag.tells_ok (C := cfg tab26) mix (Go.Ag.conTab_ok rfl t26) (n := 2000) (by kernel_rfl)
def tab27 : List Go.Ag.Known := e27 :: tab26
theorem t27 : ∀ e ∈ tab27, e.ok Try.prog := List.forall_mem_cons.2 ⟨k27, t26⟩
theorem walk (w : World) : Calls Try.prog 4 #[] w fun e w' => e = .returned (.bool true) ∧ RowKit.Below w.heap.size w w' := Go.Ag.calls_of_ok (args := []) k27 w #[] rfl trivial

/-! ### THE ROW's STEP: WRITTEN OUT: LEAVE IT -/
set_option maxRecDepth 100000 in
theorem lifted (os : Os) (started : os.Started) (H : Type) (enc : TypeId × Value → H) :
    ReturnsInHanded {} Try.checked os 4 .any (Rows.mobNamesSpec.pre6 enc Try.prog Try.f4 Rows.mobNamesRow.domain false) (Rows.mobNamesSpec.post enc Try.prog Try.f4 false true false false) := by
  refine returnsInHanded_of_change (C := Try.checked) own started (by kernel_rfl) Try.func4
    (ChangeSpec.witness6 (enc := enc) (C := Try.checked) false ⟨#[], #[], []⟩ 8 (by kernel_rfl) (by kernel_rfl) (by kernel_rfl) (by kernel_rfl)) ?_
  intro W base args ds gs before hval0 hW hcnd _
  have hval : ∀ (j : Nat) t v, Try.f4.params[j]? = some t → args[j]? = some v → Value.okWide Try.prog W .any base t v := hval0
  have hW' := hW
  obtain ⟨p, q, hA0, hV, rfl, hfz, hnd⟩ := hW
  have hA : DataW.TrodAll enc Try.prog W 0 (fun _ => true) true Try.f4.params.toList args.toList ds p := hA0
  rw [Try.params4] at hA hval
  obtain ⟨rfl, rfl, rfl⟩ := trodAll_none hA
  obtain ⟨rfl, rfl⟩ := trodVars_none hV
  clear hA0 hval0
  simp only [List.append_nil] at hW'
  refine (walk  W).mono fun e W' ⟨he, hg⟩ => ?_
  subst he
  exact ⟨_, rfl, Go.Ag.post_kept (pa := []) (pv := []) hW' hg rfl (fun _ _ => rfl) (fun _ _ => rfl) (fun _ _ _ => (trodAll_cons_mk (shut_bool Try.underlying4 _) trodAll_mk0))
    (ok_one (by kernel_rfl) rfl (okWide_bool_mk Try.underlying4 _))⟩

theorem over : Rows.mobNamesRow.holds Try.pinned (OpenSpec.ofChange Rows.mobNamesSpec) :=
  OpenClaim.holds_of_wide 4 Try.f4 rfl rfl rfl rfl rfl rfl rfl ⟨rfl, rfl, rfl, rfl, rfl⟩ rfl rfl rfl rfl rfl (by kernel_rfl) Try.func4 (by kernel_rfl)
    (of_decide_eq_true (by kernel_rfl)) (by unfold Func.isWrapper; first | (rw [if_pos (by decide +kernel)]; kernel_rfl) | (rw [if_neg (by decide +kernel)]; exact ⟨rfl, rfl⟩))
    (fun os started H enc _ => lifted os started H enc)

/-- ████ THE STATEMENT ████ -/
theorem proved : Rows.MobNamesSaid :=
  over
end Go.Proofs.Ytcomhacplhcflaa.mobNames
