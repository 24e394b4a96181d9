/- The laws of layer 8 are awake: calls that are known. No conditions. -/
import Derived.Test.YtbkbbkkmahenlaaGreatDoorAgC
import Derived.Test.YtbkbbkkmahenlaaGreatDoorPrF
import Derived.Test.YtbkbbkkmahenlaaGreatDoorProg
/- Layer 8: the laws are awake: known calls. No conditions. -/
namespace Go.Ag
open Go.Proofs
set_option maxRecDepth 100000
namespace Awake
def inl : List Nat := [44, 45, 50, 51, 56, 64, 65, 66, 68, 70, 78, 79, 86, 87, 92, 93, 94, 101, 102, 103, 110, 111, 114, 115, 119, 120, 121, 122, 124, 125, 126, 127, 128, 129, 130, 132, 133, 136, 137, 138, 157, 158, 159]
noncomputable def cfg (es : List Go.Ag.Known) : Go.Ag.Cfg := { P := Tryz.prog, pure := fun f => !inl.contains f, con := Go.Ag.conTab es }
theorem mix : Tryz.prog.follows .mixedOrders = true := by kernel_rfl
def e0 : Go.Ag.Known := ⟨37, [.lit (.int .i64 4), .lit (.int .i64 5)], (.agg [.lit (.int .i64 4), .lit (.int .i64 5)])⟩
theorem k0 : e0.ok Tryz.prog := Go.Ag.tells_ok (C := cfg []) mix (Go.Ag.conTab_ok rfl (fun _ h => nomatch h)) (n := 2000) (by kernel_rfl)
def tab0 : List Go.Ag.Known := e0 :: []
theorem t0 : ∀ e ∈ tab0, e.ok Tryz.prog := List.forall_mem_cons.2 ⟨k0, (fun _ h => nomatch h)⟩
def e1 : Go.Ag.Known := ⟨76, [.lit (.int .i64 4), .lit (.int .i64 5), .lit (.int .i64 0)], (.agg [.lit (.int .i64 4), .lit (.int .i64 5), .lit (.int .i64 0)])⟩
theorem k1 : e1.ok Tryz.prog := Go.Ag.tells_ok (C := cfg tab0) mix (Go.Ag.conTab_ok rfl t0) (n := 2000) (by kernel_rfl)
def tab1 : List Go.Ag.Known := e1 :: tab0
theorem t1 : ∀ e ∈ tab1, e.ok Tryz.prog := List.forall_mem_cons.2 ⟨k1, t0⟩
def e2 : Go.Ag.Known := ⟨37, [.lit (.int .i64 5), .lit (.int .i64 5)], (.agg [.lit (.int .i64 5), .lit (.int .i64 5)])⟩
theorem k2 : e2.ok Tryz.prog := Go.Ag.tells_ok (C := cfg tab1) mix (Go.Ag.conTab_ok rfl t1) (n := 2000) (by kernel_rfl)
def tab2 : List Go.Ag.Known := e2 :: tab1
theorem t2 : ∀ e ∈ tab2, e.ok Tryz.prog := List.forall_mem_cons.2 ⟨k2, t1⟩
def e3 : Go.Ag.Known := ⟨76, [.lit (.int .i64 5), .lit (.int .i64 5), .lit (.int .i64 0)], (.agg [.lit (.int .i64 5), .lit (.int .i64 5), .lit (.int .i64 0)])⟩
theorem k3 : e3.ok Tryz.prog := Go.Ag.tells_ok (C := cfg tab2) mix (Go.Ag.conTab_ok rfl t2) (n := 2000) (by kernel_rfl)
def tab3 : List Go.Ag.Known := e3 :: tab2
theorem t3 : ∀ e ∈ tab3, e.ok Tryz.prog := List.forall_mem_cons.2 ⟨k3, t2⟩
def e4 : Go.Ag.Known := ⟨37, [.lit (.int .i64 3), .lit (.int .i64 4)], (.agg [.lit (.int .i64 3), .lit (.int .i64 4)])⟩
theorem k4 : e4.ok Tryz.prog := Go.Ag.tells_ok (C := cfg tab3) mix (Go.Ag.conTab_ok rfl t3) (n := 2000) (by kernel_rfl)
def tab4 : List Go.Ag.Known := e4 :: tab3
theorem t4 : ∀ e ∈ tab4, e.ok Tryz.prog := List.forall_mem_cons.2 ⟨k4, t3⟩
def e5 : Go.Ag.Known := ⟨76, [.lit (.int .i64 3), .lit (.int .i64 4), .lit (.int .i64 0)], (.agg [.lit (.int .i64 3), .lit (.int .i64 4), .lit (.int .i64 0)])⟩
theorem k5 : e5.ok Tryz.prog := Go.Ag.tells_ok (C := cfg tab4) mix (Go.Ag.conTab_ok rfl t4) (n := 2000) (by kernel_rfl)
def tab5 : List Go.Ag.Known := e5 :: tab4
theorem t5 : ∀ e ∈ tab5, e.ok Tryz.prog := List.forall_mem_cons.2 ⟨k5, t4⟩
def e6 : Go.Ag.Known := ⟨37, [.lit (.int .i64 6), .lit (.int .i64 7)], (.agg [.lit (.int .i64 6), .lit (.int .i64 7)])⟩
theorem k6 : e6.ok Tryz.prog := Go.Ag.tells_ok (C := cfg tab5) mix (Go.Ag.conTab_ok rfl t5) (n := 2000) (by kernel_rfl)
def tab6 : List Go.Ag.Known := e6 :: tab5
theorem t6 : ∀ e ∈ tab6, e.ok Tryz.prog := List.forall_mem_cons.2 ⟨k6, t5⟩
def e7 : Go.Ag.Known := ⟨76, [.lit (.int .i64 6), .lit (.int .i64 7), .lit (.int .i64 1)], (.agg [.lit (.int .i64 6), .lit (.int .i64 7), .lit (.int .i64 1)])⟩
theorem k7 : e7.ok Tryz.prog := Go.Ag.tells_ok (C := cfg tab6) mix (Go.Ag.conTab_ok rfl t6) (n := 2000) (by kernel_rfl)
def tab7 : List Go.Ag.Known := e7 :: tab6
theorem t7 : ∀ e ∈ tab7, e.ok Tryz.prog := List.forall_mem_cons.2 ⟨k7, t6⟩
def e8 : Go.Ag.Known := ⟨37, [.lit (.int .i64 4), .lit (.int .i64 4)], (.agg [.lit (.int .i64 4), .lit (.int .i64 4)])⟩
theorem k8 : e8.ok Tryz.prog := Go.Ag.tells_ok (C := cfg tab7) mix (Go.Ag.conTab_ok rfl t7) (n := 2000) (by kernel_rfl)
def tab8 : List Go.Ag.Known := e8 :: tab7
theorem t8 : ∀ e ∈ tab8, e.ok Tryz.prog := List.forall_mem_cons.2 ⟨k8, t7⟩
def e9 : Go.Ag.Known := ⟨76, [.lit (.int .i64 4), .lit (.int .i64 4), .lit (.int .i64 1)], (.agg [.lit (.int .i64 4), .lit (.int .i64 4), .lit (.int .i64 1)])⟩
theorem k9 : e9.ok Tryz.prog := Go.Ag.tells_ok (C := cfg tab8) mix (Go.Ag.conTab_ok rfl t8) (n := 2000) (by kernel_rfl)
def tab9 : List Go.Ag.Known := e9 :: tab8
theorem t9 : ∀ e ∈ tab9, e.ok Tryz.prog := List.forall_mem_cons.2 ⟨k9, t8⟩
def e10 : Go.Ag.Known := ⟨37, [.lit (.int .i64 2), .lit (.int .i64 3)], (.agg [.lit (.int .i64 2), .lit (.int .i64 3)])⟩
theorem k10 : e10.ok Tryz.prog := Go.Ag.tells_ok (C := cfg tab9) mix (Go.Ag.conTab_ok rfl t9) (n := 2000) (by kernel_rfl)
def tab10 : List Go.Ag.Known := e10 :: tab9
theorem t10 : ∀ e ∈ tab10, e.ok Tryz.prog := List.forall_mem_cons.2 ⟨k10, t9⟩
def e11 : Go.Ag.Known := ⟨76, [.lit (.int .i64 2), .lit (.int .i64 3), .lit (.int .i64 0)], (.agg [.lit (.int .i64 2), .lit (.int .i64 3), .lit (.int .i64 0)])⟩
theorem k11 : e11.ok Tryz.prog := Go.Ag.tells_ok (C := cfg tab10) mix (Go.Ag.conTab_ok rfl t10) (n := 2000) (by kernel_rfl)
def tab11 : List Go.Ag.Known := e11 :: tab10
theorem t11 : ∀ e ∈ tab11, e.ok Tryz.prog := List.forall_mem_cons.2 ⟨k11, t10⟩
def e12 : Go.Ag.Known := ⟨43, [.lit (.slice none 0 0)], (.agg [.sl [.lit (.int .i64 4), .lit (.int .i64 5), .lit (.int .i64 0), .lit (.int .i64 5), .lit (.int .i64 5), .lit (.int .i64 0), .lit (.int .i64 3), .lit (.int .i64 4), .lit (.int .i64 0), .lit (.int .i64 6), .lit (.int .i64 7), .lit (.int .i64 1), .lit (.int .i64 4), .lit (.int .i64 4), .lit (.int .i64 1), .lit (.int .i64 2), .lit (.int .i64 3), .lit (.int .i64 0)] 0 6, .lit (.int .i64 9), .lit (.int .i64 12), .lit (.int .i64 3), .lit (.slice none 0 0)])⟩
theorem k12 : e12.ok Tryz.prog := Go.Ag.tells_ok (C := cfg tab11) mix (Go.Ag.conTab_ok rfl t11) (n := 2000) (by kernel_rfl)
def tab12 : List Go.Ag.Known := e12 :: tab11
theorem t12 : ∀ e ∈ tab12, e.ok Tryz.prog := List.forall_mem_cons.2 ⟨k12, t11⟩
def e13 : Go.Ag.Known := ⟨37, [.lit (.int .i64 14), .lit (.int .i64 14)], (.agg [.lit (.int .i64 14), .lit (.int .i64 14)])⟩
theorem k13 : e13.ok Tryz.prog := Go.Ag.tells_ok (C := cfg tab12) mix (Go.Ag.conTab_ok rfl t12) (n := 2000) (by kernel_rfl)
def tab13 : List Go.Ag.Known := e13 :: tab12
theorem t13 : ∀ e ∈ tab13, e.ok Tryz.prog := List.forall_mem_cons.2 ⟨k13, t12⟩
def e14 : Go.Ag.Known := ⟨38, [.lit (.int .i64 7), .lit (.int .i64 14), .lit (.int .i64 14)], (.agg [.lit (.int .i64 7), .lit (.int .i64 14), .lit (.int .i64 14)])⟩
theorem k14 : e14.ok Tryz.prog := Go.Ag.tells_ok (C := cfg tab13) mix (Go.Ag.conTab_ok rfl t13) (n := 2000) (by kernel_rfl)
def tab14 : List Go.Ag.Known := e14 :: tab13
theorem t14 : ∀ e ∈ tab14, e.ok Tryz.prog := List.forall_mem_cons.2 ⟨k14, t13⟩
def e15 : Go.Ag.Known := ⟨43, [.sl [.lit (.int .i64 7), .lit (.int .i64 14), .lit (.int .i64 14)] 0 1], (.agg [.sl [.lit (.int .i64 4), .lit (.int .i64 5), .lit (.int .i64 0), .lit (.int .i64 5), .lit (.int .i64 5), .lit (.int .i64 0), .lit (.int .i64 3), .lit (.int .i64 4), .lit (.int .i64 0), .lit (.int .i64 6), .lit (.int .i64 7), .lit (.int .i64 1), .lit (.int .i64 4), .lit (.int .i64 4), .lit (.int .i64 1), .lit (.int .i64 2), .lit (.int .i64 3), .lit (.int .i64 0)] 0 6, .lit (.int .i64 9), .lit (.int .i64 12), .lit (.int .i64 3), .sl [.lit (.int .i64 7), .lit (.int .i64 14), .lit (.int .i64 14)] 0 1])⟩
theorem k15 : e15.ok Tryz.prog := Go.Ag.tells_ok (C := cfg tab14) mix (Go.Ag.conTab_ok rfl t14) (n := 2000) (by kernel_rfl)
def tab15 : List Go.Ag.Known := e15 :: tab14
theorem t15 : ∀ e ∈ tab15, e.ok Tryz.prog := List.forall_mem_cons.2 ⟨k15, t14⟩
def e16 : Go.Ag.Known := ⟨96, [.agg [.lit (.int .i64 4), .lit (.int .i64 5)], .lit (.int .i64 20)], (.lit (.bool true))⟩
theorem k16 : e16.ok Tryz.prog := Go.Ag.tells_ok (C := cfg tab15) mix (Go.Ag.conTab_ok rfl t15) (n := 2000) (by kernel_rfl)
def tab16 : List Go.Ag.Known := e16 :: tab15
theorem t16 : ∀ e ∈ tab16, e.ok Tryz.prog := List.forall_mem_cons.2 ⟨k16, t15⟩
def e17 : Go.Ag.Known := ⟨97, [.lit (.int .i64 0), .lit (.int .i64 0), .lit (.int .i64 2)], (.lit (.bool true))⟩
theorem k17 : e17.ok Tryz.prog := Go.Ag.tells_ok (C := cfg tab16) mix (Go.Ag.conTab_ok rfl t16) (n := 2000) (by kernel_rfl)
def tab17 : List Go.Ag.Known := e17 :: tab16
theorem t17 : ∀ e ∈ tab17, e.ok Tryz.prog := List.forall_mem_cons.2 ⟨k17, t16⟩
def e18 : Go.Ag.Known := ⟨96, [.agg [.lit (.int .i64 5), .lit (.int .i64 5)], .lit (.int .i64 20)], (.lit (.bool true))⟩
theorem k18 : e18.ok Tryz.prog := Go.Ag.tells_ok (C := cfg tab17) mix (Go.Ag.conTab_ok rfl t17) (n := 2000) (by kernel_rfl)
def tab18 : List Go.Ag.Known := e18 :: tab17
theorem t18 : ∀ e ∈ tab18, e.ok Tryz.prog := List.forall_mem_cons.2 ⟨k18, t17⟩
def e19 : Go.Ag.Known := ⟨96, [.agg [.lit (.int .i64 3), .lit (.int .i64 4)], .lit (.int .i64 20)], (.lit (.bool true))⟩
theorem k19 : e19.ok Tryz.prog := Go.Ag.tells_ok (C := cfg tab18) mix (Go.Ag.conTab_ok rfl t18) (n := 2000) (by kernel_rfl)
def tab19 : List Go.Ag.Known := e19 :: tab18
theorem t19 : ∀ e ∈ tab19, e.ok Tryz.prog := List.forall_mem_cons.2 ⟨k19, t18⟩
def e20 : Go.Ag.Known := ⟨96, [.agg [.lit (.int .i64 6), .lit (.int .i64 7)], .lit (.int .i64 20)], (.lit (.bool true))⟩
theorem k20 : e20.ok Tryz.prog := Go.Ag.tells_ok (C := cfg tab19) mix (Go.Ag.conTab_ok rfl t19) (n := 2000) (by kernel_rfl)
def tab20 : List Go.Ag.Known := e20 :: tab19
theorem t20 : ∀ e ∈ tab20, e.ok Tryz.prog := List.forall_mem_cons.2 ⟨k20, t19⟩
def e21 : Go.Ag.Known := ⟨97, [.lit (.int .i64 1), .lit (.int .i64 0), .lit (.int .i64 2)], (.lit (.bool true))⟩
theorem k21 : e21.ok Tryz.prog := Go.Ag.tells_ok (C := cfg tab20) mix (Go.Ag.conTab_ok rfl t20) (n := 2000) (by kernel_rfl)
def tab21 : List Go.Ag.Known := e21 :: tab20
theorem t21 : ∀ e ∈ tab21, e.ok Tryz.prog := List.forall_mem_cons.2 ⟨k21, t20⟩
def e22 : Go.Ag.Known := ⟨96, [.agg [.lit (.int .i64 4), .lit (.int .i64 4)], .lit (.int .i64 20)], (.lit (.bool true))⟩
theorem k22 : e22.ok Tryz.prog := Go.Ag.tells_ok (C := cfg tab21) mix (Go.Ag.conTab_ok rfl t21) (n := 2000) (by kernel_rfl)
def tab22 : List Go.Ag.Known := e22 :: tab21
theorem t22 : ∀ e ∈ tab22, e.ok Tryz.prog := List.forall_mem_cons.2 ⟨k22, t21⟩
def e23 : Go.Ag.Known := ⟨96, [.agg [.lit (.int .i64 2), .lit (.int .i64 3)], .lit (.int .i64 20)], (.lit (.bool true))⟩
theorem k23 : e23.ok Tryz.prog := Go.Ag.tells_ok (C := cfg tab22) mix (Go.Ag.conTab_ok rfl t22) (n := 2000) (by kernel_rfl)
def tab23 : List Go.Ag.Known := e23 :: tab22
theorem t23 : ∀ e ∈ tab23, e.ok Tryz.prog := List.forall_mem_cons.2 ⟨k23, t22⟩
def e24 : Go.Ag.Known := ⟨96, [.agg [.lit (.int .i64 9), .lit (.int .i64 12)], .lit (.int .i64 200)], (.lit (.bool true))⟩
theorem k24 : e24.ok Tryz.prog := Go.Ag.tells_ok (C := cfg tab23) mix (Go.Ag.conTab_ok rfl t23) (n := 2000) (by kernel_rfl)
def tab24 : List Go.Ag.Known := e24 :: tab23
theorem t24 : ∀ e ∈ tab24, e.ok Tryz.prog := List.forall_mem_cons.2 ⟨k24, t23⟩
def e25 : Go.Ag.Known := ⟨97, [.lit (.int .i64 3), .lit (.int .i64 0), .lit (.int .i64 5)], (.lit (.bool true))⟩
theorem k25 : e25.ok Tryz.prog := Go.Ag.tells_ok (C := cfg tab24) mix (Go.Ag.conTab_ok rfl t24) (n := 2000) (by kernel_rfl)
def tab25 : List Go.Ag.Known := e25 :: tab24
theorem t25 : ∀ e ∈ tab25, e.ok Tryz.prog := List.forall_mem_cons.2 ⟨k25, t24⟩
def e26 : Go.Ag.Known := ⟨97, [.lit (.int .i64 7), .lit (.int .i64 0), .lit (.int .i64 63)], (.lit (.bool true))⟩
theorem k26 : e26.ok Tryz.prog := Go.Ag.tells_ok (C := cfg tab25) mix (Go.Ag.conTab_ok rfl t25) (n := 2000) (by kernel_rfl)
def tab26 : List Go.Ag.Known := e26 :: tab25
theorem t26 : ∀ e ∈ tab26, e.ok Tryz.prog := List.forall_mem_cons.2 ⟨k26, t25⟩
def e27 : Go.Ag.Known := ⟨77, [.lit (.int .i64 7), .lit (.int .i64 6)], (.lit (.bool true))⟩
theorem k27 : e27.ok Tryz.prog := Go.Ag.tells_ok (C := cfg tab26) mix (Go.Ag.conTab_ok rfl t26) (n := 2000) (by kernel_rfl)
def tab27 : List Go.Ag.Known := e27 :: tab26
theorem t27 : ∀ e ∈ tab27, e.ok Tryz.prog := List.forall_mem_cons.2 ⟨k27, t26⟩
def e28 : Go.Ag.Known := ⟨96, [.agg [.lit (.int .i64 14), .lit (.int .i64 14)], .lit (.int .i64 200)], (.lit (.bool true))⟩
theorem k28 : e28.ok Tryz.prog := Go.Ag.tells_ok (C := cfg tab27) mix (Go.Ag.conTab_ok rfl t27) (n := 2000) (by kernel_rfl)
def tab28 : List Go.Ag.Known := e28 :: tab27
theorem t28 : ∀ e ∈ tab28, e.ok Tryz.prog := List.forall_mem_cons.2 ⟨k28, t27⟩
def e29 : Go.Ag.Known := ⟨60, [.agg [.sl [.lit (.int .i64 4), .lit (.int .i64 5), .lit (.int .i64 0), .lit (.int .i64 5), .lit (.int .i64 5), .lit (.int .i64 0), .lit (.int .i64 3), .lit (.int .i64 4), .lit (.int .i64 0), .lit (.int .i64 6), .lit (.int .i64 7), .lit (.int .i64 1), .lit (.int .i64 4), .lit (.int .i64 4), .lit (.int .i64 1), .lit (.int .i64 2), .lit (.int .i64 3), .lit (.int .i64 0)] 0 6, .lit (.int .i64 9), .lit (.int .i64 12), .lit (.int .i64 3), .sl [.lit (.int .i64 7), .lit (.int .i64 14), .lit (.int .i64 14)] 0 1]], (.lit (.bool true))⟩
theorem k29 : e29.ok Tryz.prog := Go.Ag.tells_ok (C := cfg tab28) mix (Go.Ag.conTab_ok rfl t28) (n := 2000) (by kernel_rfl)
def tab29 : List Go.Ag.Known := e29 :: tab28
theorem t29 : ∀ e ∈ tab29, e.ok Tryz.prog := List.forall_mem_cons.2 ⟨k29, t28⟩
def e30 : Go.Ag.Known := ⟨97, [.lit (.int .i64 3), .lit (.int .i64 0), .lit (.int .i64 63)], (.lit (.bool true))⟩
theorem k30 : e30.ok Tryz.prog := Go.Ag.tells_ok (C := cfg tab29) mix (Go.Ag.conTab_ok rfl t29) (n := 2000) (by kernel_rfl)
def tab30 : List Go.Ag.Known := e30 :: tab29
theorem t30 : ∀ e ∈ tab30, e.ok Tryz.prog := List.forall_mem_cons.2 ⟨k30, t29⟩
def e31 : Go.Ag.Known := ⟨77, [.lit (.int .i64 3), .lit (.int .i64 6)], (.lit (.bool true))⟩
theorem k31 : e31.ok Tryz.prog := Go.Ag.tells_ok (C := cfg tab30) mix (Go.Ag.conTab_ok rfl t30) (n := 2000) (by kernel_rfl)
def tab31 : List Go.Ag.Known := e31 :: tab30
theorem t31 : ∀ e ∈ tab31, e.ok Tryz.prog := List.forall_mem_cons.2 ⟨k31, t30⟩
def e32 : Go.Ag.Known := ⟨61, [.agg [.sl [.lit (.int .i64 4), .lit (.int .i64 5), .lit (.int .i64 0), .lit (.int .i64 5), .lit (.int .i64 5), .lit (.int .i64 0), .lit (.int .i64 3), .lit (.int .i64 4), .lit (.int .i64 0), .lit (.int .i64 6), .lit (.int .i64 7), .lit (.int .i64 1), .lit (.int .i64 4), .lit (.int .i64 4), .lit (.int .i64 1), .lit (.int .i64 2), .lit (.int .i64 3), .lit (.int .i64 0)] 0 6, .lit (.int .i64 9), .lit (.int .i64 12), .lit (.int .i64 3), .sl [.lit (.int .i64 7), .lit (.int .i64 14), .lit (.int .i64 14)] 0 1]], (.agg [.lit (.int .i64 4), .lit (.int .i64 5), .lit (.int .i64 0), .lit (.int .i64 5), .lit (.int .i64 5), .lit (.int .i64 0), .lit (.int .i64 3), .lit (.int .i64 4), .lit (.int .i64 0), .lit (.int .i64 6), .lit (.int .i64 7), .lit (.int .i64 1), .lit (.int .i64 4), .lit (.int .i64 4), .lit (.int .i64 1), .lit (.int .i64 2), .lit (.int .i64 3), .lit (.int .i64 0), .lit (.int .i64 0), .lit (.int .i64 0), .lit (.int .i64 0), .lit (.int .i64 0), .lit (.int .i64 0), .lit (.int .i64 0), .lit (.int .i64 0), .lit (.int .i64 0), .lit (.int .i64 0), .lit (.int .i64 0), .lit (.int .i64 0), .lit (.int .i64 0), .lit (.int .i64 39), .lit (.int .i64 24), .lit (.int .i64 0), .sl [.lit (.int .i64 7), .lit (.int .i64 14), .lit (.int .i64 14)] 0 1, .lit (.int .i64 9), .lit (.int .i64 12), .lit (.int .i64 63), .lit (.int .i64 3)])⟩
theorem k32 : e32.ok Tryz.prog := Go.Ag.tells_ok (C := cfg tab31) mix (Go.Ag.conTab_ok rfl t31) (n := 2000) (by kernel_rfl)
def tab32 : List Go.Ag.Known := e32 :: tab31
theorem t32 : ∀ e ∈ tab32, e.ok Tryz.prog := List.forall_mem_cons.2 ⟨k32, t31⟩
def e33 : Go.Ag.Known := ⟨82, [.lit (.slice none 0 0)], (.agg [.lit (.int .i64 0), .lit (.int .i64 0)])⟩
theorem k33 : e33.ok Tryz.prog := Go.Ag.tells_ok (C := cfg tab32) mix (Go.Ag.conTab_ok rfl t32) (n := 2000) (by kernel_rfl)
def tab33 : List Go.Ag.Known := e33 :: tab32
theorem t33 : ∀ e ∈ tab33, e.ok Tryz.prog := List.forall_mem_cons.2 ⟨k33, t32⟩
def e34 : Go.Ag.Known := ⟨83, [.agg [.lit (.int .i64 4), .lit (.int .i64 5), .lit (.int .i64 0), .lit (.int .i64 5), .lit (.int .i64 5), .lit (.int .i64 0), .lit (.int .i64 3), .lit (.int .i64 4), .lit (.int .i64 0), .lit (.int .i64 6), .lit (.int .i64 7), .lit (.int .i64 1), .lit (.int .i64 4), .lit (.int .i64 4), .lit (.int .i64 1), .lit (.int .i64 2), .lit (.int .i64 3), .lit (.int .i64 0), .lit (.int .i64 0), .lit (.int .i64 0), .lit (.int .i64 0), .lit (.int .i64 0), .lit (.int .i64 0), .lit (.int .i64 0), .lit (.int .i64 0), .lit (.int .i64 0), .lit (.int .i64 0), .lit (.int .i64 0), .lit (.int .i64 0), .lit (.int .i64 0), .lit (.int .i64 39), .lit (.int .i64 24), .lit (.int .i64 0), .sl [.lit (.int .i64 7), .lit (.int .i64 14), .lit (.int .i64 14)] 0 1, .lit (.int .i64 9), .lit (.int .i64 12), .lit (.int .i64 63), .lit (.int .i64 3)], .lit (.int .i64 0)], (.agg [.lit (.int .i64 0), .lit (.int .i64 0)])⟩
theorem k34 : e34.ok Tryz.prog := Go.Ag.tells_ok (C := cfg tab33) mix (Go.Ag.conTab_ok rfl t33) (n := 2000) (by kernel_rfl)
def tab34 : List Go.Ag.Known := e34 :: tab33
theorem t34 : ∀ e ∈ tab34, e.ok Tryz.prog := List.forall_mem_cons.2 ⟨k34, t33⟩
def e35 : Go.Ag.Known := ⟨82, [.sl [.lit (.int .i64 4), .lit (.int .i64 5), .lit (.int .i64 5), .lit (.int .i64 5), .lit (.int .i64 3), .lit (.int .i64 4)] 0 3], (.agg [.lit (.int .i64 12), .lit (.int .i64 14)])⟩
theorem k35 : e35.ok Tryz.prog := Go.Ag.tells_ok (C := cfg tab34) mix (Go.Ag.conTab_ok rfl t34) (n := 2000) (by kernel_rfl)
def tab35 : List Go.Ag.Known := e35 :: tab34
theorem t35 : ∀ e ∈ tab35, e.ok Tryz.prog := List.forall_mem_cons.2 ⟨k35, t34⟩
def e36 : Go.Ag.Known := ⟨83, [.agg [.lit (.int .i64 4), .lit (.int .i64 5), .lit (.int .i64 0), .lit (.int .i64 5), .lit (.int .i64 5), .lit (.int .i64 0), .lit (.int .i64 3), .lit (.int .i64 4), .lit (.int .i64 0), .lit (.int .i64 6), .lit (.int .i64 7), .lit (.int .i64 1), .lit (.int .i64 4), .lit (.int .i64 4), .lit (.int .i64 1), .lit (.int .i64 2), .lit (.int .i64 3), .lit (.int .i64 0), .lit (.int .i64 0), .lit (.int .i64 0), .lit (.int .i64 0), .lit (.int .i64 0), .lit (.int .i64 0), .lit (.int .i64 0), .lit (.int .i64 0), .lit (.int .i64 0), .lit (.int .i64 0), .lit (.int .i64 0), .lit (.int .i64 0), .lit (.int .i64 0), .lit (.int .i64 39), .lit (.int .i64 24), .lit (.int .i64 0), .sl [.lit (.int .i64 7), .lit (.int .i64 14), .lit (.int .i64 14)] 0 1, .lit (.int .i64 9), .lit (.int .i64 12), .lit (.int .i64 63), .lit (.int .i64 3)], .lit (.int .i64 7)], (.agg [.lit (.int .i64 12), .lit (.int .i64 14)])⟩
theorem k36 : e36.ok Tryz.prog := Go.Ag.tells_ok (C := cfg tab35) mix (Go.Ag.conTab_ok rfl t35) (n := 2000) (by kernel_rfl)
def tab36 : List Go.Ag.Known := e36 :: tab35
theorem t36 : ∀ e ∈ tab36, e.ok Tryz.prog := List.forall_mem_cons.2 ⟨k36, t35⟩
def e37 : Go.Ag.Known := ⟨117, [.agg [.lit (.int .i64 14), .lit (.int .i64 14)], .agg [.lit (.int .i64 0), .lit (.int .i64 0)]], (.agg [.lit (.int .i64 14), .lit (.int .i64 14)])⟩
theorem k37 : e37.ok Tryz.prog := Go.Ag.tells_ok (C := cfg tab36) mix (Go.Ag.conTab_ok rfl t36) (n := 2000) (by kernel_rfl)
def tab37 : List Go.Ag.Known := e37 :: tab36
theorem t37 : ∀ e ∈ tab37, e.ok Tryz.prog := List.forall_mem_cons.2 ⟨k37, t36⟩
def e38 : Go.Ag.Known := ⟨116, [.agg [.lit (.int .i64 12), .lit (.int .i64 14)], .agg [.lit (.int .i64 14), .lit (.int .i64 14)]], (.agg [.lit (.int .i64 14), .lit (.int .i64 14)])⟩
theorem k38 : e38.ok Tryz.prog := Go.Ag.tells_ok (C := cfg tab37) mix (Go.Ag.conTab_ok rfl t37) (n := 2000) (by kernel_rfl)
def tab38 : List Go.Ag.Known := e38 :: tab37
theorem t38 : ∀ e ∈ tab38, e.ok Tryz.prog := List.forall_mem_cons.2 ⟨k38, t37⟩
def e39 : Go.Ag.Known := ⟨81, [.agg [.lit (.int .i64 4), .lit (.int .i64 5), .lit (.int .i64 0), .lit (.int .i64 5), .lit (.int .i64 5), .lit (.int .i64 0), .lit (.int .i64 3), .lit (.int .i64 4), .lit (.int .i64 0), .lit (.int .i64 6), .lit (.int .i64 7), .lit (.int .i64 1), .lit (.int .i64 4), .lit (.int .i64 4), .lit (.int .i64 1), .lit (.int .i64 2), .lit (.int .i64 3), .lit (.int .i64 0), .lit (.int .i64 0), .lit (.int .i64 0), .lit (.int .i64 0), .lit (.int .i64 0), .lit (.int .i64 0), .lit (.int .i64 0), .lit (.int .i64 0), .lit (.int .i64 0), .lit (.int .i64 0), .lit (.int .i64 0), .lit (.int .i64 0), .lit (.int .i64 0), .lit (.int .i64 39), .lit (.int .i64 24), .lit (.int .i64 0), .sl [.lit (.int .i64 7), .lit (.int .i64 14), .lit (.int .i64 14)] 0 1, .lit (.int .i64 9), .lit (.int .i64 12), .lit (.int .i64 63), .lit (.int .i64 3)], .agg [.lit (.int .i64 7), .lit (.int .i64 14), .lit (.int .i64 14)], .lit (.int .i64 7)], (.agg [.lit (.int .i64 14), .lit (.int .i64 14)])⟩
theorem k39 : e39.ok Tryz.prog := Go.Ag.tells_ok (C := cfg tab38) mix (Go.Ag.conTab_ok rfl t38) (n := 2000) (by kernel_rfl)
def tab39 : List Go.Ag.Known := e39 :: tab38
theorem t39 : ∀ e ∈ tab39, e.ok Tryz.prog := List.forall_mem_cons.2 ⟨k39, t38⟩
def e40 : Go.Ag.Known := ⟨99, [.agg [.lit (.int .i64 4), .lit (.int .i64 5), .lit (.int .i64 0), .lit (.int .i64 5), .lit (.int .i64 5), .lit (.int .i64 0), .lit (.int .i64 3), .lit (.int .i64 4), .lit (.int .i64 0), .lit (.int .i64 6), .lit (.int .i64 7), .lit (.int .i64 1), .lit (.int .i64 4), .lit (.int .i64 4), .lit (.int .i64 1), .lit (.int .i64 2), .lit (.int .i64 3), .lit (.int .i64 0), .lit (.int .i64 0), .lit (.int .i64 0), .lit (.int .i64 0), .lit (.int .i64 0), .lit (.int .i64 0), .lit (.int .i64 0), .lit (.int .i64 0), .lit (.int .i64 0), .lit (.int .i64 0), .lit (.int .i64 0), .lit (.int .i64 0), .lit (.int .i64 0), .lit (.int .i64 39), .lit (.int .i64 24), .lit (.int .i64 0), .sl [.lit (.int .i64 7), .lit (.int .i64 14), .lit (.int .i64 14)] 0 1, .lit (.int .i64 9), .lit (.int .i64 12), .lit (.int .i64 63), .lit (.int .i64 3)]], (.sl [.lit (.int .i64 14), .lit (.int .i64 14)] 0 1)⟩
theorem k40 : e40.ok Tryz.prog := Go.Ag.tells_ok (C := cfg tab39) mix (Go.Ag.conTab_ok rfl t39) (n := 2000) (by kernel_rfl)
def tab40 : List Go.Ag.Known := e40 :: tab39
theorem t40 : ∀ e ∈ tab40, e.ok Tryz.prog := List.forall_mem_cons.2 ⟨k40, t39⟩
def e41 : Go.Ag.Known := ⟨80, [.agg [.lit (.int .i64 4), .lit (.int .i64 5), .lit (.int .i64 0), .lit (.int .i64 5), .lit (.int .i64 5), .lit (.int .i64 0), .lit (.int .i64 3), .lit (.int .i64 4), .lit (.int .i64 0), .lit (.int .i64 6), .lit (.int .i64 7), .lit (.int .i64 1), .lit (.int .i64 4), .lit (.int .i64 4), .lit (.int .i64 1), .lit (.int .i64 2), .lit (.int .i64 3), .lit (.int .i64 0), .lit (.int .i64 0), .lit (.int .i64 0), .lit (.int .i64 0), .lit (.int .i64 0), .lit (.int .i64 0), .lit (.int .i64 0), .lit (.int .i64 0), .lit (.int .i64 0), .lit (.int .i64 0), .lit (.int .i64 0), .lit (.int .i64 0), .lit (.int .i64 0), .lit (.int .i64 39), .lit (.int .i64 24), .lit (.int .i64 0), .sl [.lit (.int .i64 7), .lit (.int .i64 14), .lit (.int .i64 14)] 0 1, .lit (.int .i64 9), .lit (.int .i64 12), .lit (.int .i64 63), .lit (.int .i64 3)]], (.agg [.lit (.int .i64 4), .lit (.int .i64 5), .lit (.int .i64 0), .lit (.int .i64 5), .lit (.int .i64 5), .lit (.int .i64 0), .lit (.int .i64 3), .lit (.int .i64 4), .lit (.int .i64 0), .lit (.int .i64 6), .lit (.int .i64 7), .lit (.int .i64 1), .lit (.int .i64 4), .lit (.int .i64 4), .lit (.int .i64 1), .lit (.int .i64 2), .lit (.int .i64 3), .lit (.int .i64 0), .lit (.int .i64 0), .lit (.int .i64 0), .lit (.int .i64 0), .lit (.int .i64 0), .lit (.int .i64 0), .lit (.int .i64 0), .lit (.int .i64 0), .lit (.int .i64 0), .lit (.int .i64 0), .lit (.int .i64 0), .lit (.int .i64 0), .lit (.int .i64 0), .lit (.int .i64 39), .lit (.int .i64 24), .lit (.int .i64 0), .sl [.lit (.int .i64 7), .lit (.int .i64 14), .lit (.int .i64 14)] 0 1, .lit (.int .i64 9), .lit (.int .i64 12), .lit (.int .i64 63), .lit (.int .i64 3)])⟩
theorem k41 : e41.ok Tryz.prog := Go.Ag.tells_ok (C := cfg tab40) mix (Go.Ag.conTab_ok rfl t40) (n := 2000) (by kernel_rfl)
def tab41 : List Go.Ag.Known := e41 :: tab40
theorem t41 : ∀ e ∈ tab41, e.ok Tryz.prog := List.forall_mem_cons.2 ⟨k41, t40⟩
def e42 : Go.Ag.Known := ⟨82, [.sl [.lit (.int .i64 3), .lit (.int .i64 4)] 0 1], (.agg [.lit (.int .i64 3), .lit (.int .i64 4)])⟩
theorem k42 : e42.ok Tryz.prog := Go.Ag.tells_ok (C := cfg tab41) mix (Go.Ag.conTab_ok rfl t41) (n := 2000) (by kernel_rfl)
def tab42 : List Go.Ag.Known := e42 :: tab41
theorem t42 : ∀ e ∈ tab42, e.ok Tryz.prog := List.forall_mem_cons.2 ⟨k42, t41⟩
def e43 : Go.Ag.Known := ⟨83, [.agg [.lit (.int .i64 4), .lit (.int .i64 5), .lit (.int .i64 0), .lit (.int .i64 5), .lit (.int .i64 5), .lit (.int .i64 0), .lit (.int .i64 3), .lit (.int .i64 4), .lit (.int .i64 0), .lit (.int .i64 6), .lit (.int .i64 7), .lit (.int .i64 1), .lit (.int .i64 4), .lit (.int .i64 4), .lit (.int .i64 1), .lit (.int .i64 2), .lit (.int .i64 3), .lit (.int .i64 0), .lit (.int .i64 0), .lit (.int .i64 0), .lit (.int .i64 0), .lit (.int .i64 0), .lit (.int .i64 0), .lit (.int .i64 0), .lit (.int .i64 0), .lit (.int .i64 0), .lit (.int .i64 0), .lit (.int .i64 0), .lit (.int .i64 0), .lit (.int .i64 0), .lit (.int .i64 39), .lit (.int .i64 24), .lit (.int .i64 0), .sl [.lit (.int .i64 7), .lit (.int .i64 14), .lit (.int .i64 14)] 0 1, .lit (.int .i64 9), .lit (.int .i64 12), .lit (.int .i64 63), .lit (.int .i64 3)], .lit (.int .i64 4)], (.agg [.lit (.int .i64 3), .lit (.int .i64 4)])⟩
theorem k43 : e43.ok Tryz.prog := Go.Ag.tells_ok (C := cfg tab42) mix (Go.Ag.conTab_ok rfl t42) (n := 2000) (by kernel_rfl)
def tab43 : List Go.Ag.Known := e43 :: tab42
theorem t43 : ∀ e ∈ tab43, e.ok Tryz.prog := List.forall_mem_cons.2 ⟨k43, t42⟩
def e44 : Go.Ag.Known := ⟨82, [.sl [.lit (.int .i64 4), .lit (.int .i64 5), .lit (.int .i64 5), .lit (.int .i64 5)] 0 2], (.agg [.lit (.int .i64 9), .lit (.int .i64 10)])⟩
theorem k44 : e44.ok Tryz.prog := Go.Ag.tells_ok (C := cfg tab43) mix (Go.Ag.conTab_ok rfl t43) (n := 2000) (by kernel_rfl)
def tab44 : List Go.Ag.Known := e44 :: tab43
theorem t44 : ∀ e ∈ tab44, e.ok Tryz.prog := List.forall_mem_cons.2 ⟨k44, t43⟩
def e45 : Go.Ag.Known := ⟨83, [.agg [.lit (.int .i64 4), .lit (.int .i64 5), .lit (.int .i64 0), .lit (.int .i64 5), .lit (.int .i64 5), .lit (.int .i64 0), .lit (.int .i64 3), .lit (.int .i64 4), .lit (.int .i64 0), .lit (.int .i64 6), .lit (.int .i64 7), .lit (.int .i64 1), .lit (.int .i64 4), .lit (.int .i64 4), .lit (.int .i64 1), .lit (.int .i64 2), .lit (.int .i64 3), .lit (.int .i64 0), .lit (.int .i64 0), .lit (.int .i64 0), .lit (.int .i64 0), .lit (.int .i64 0), .lit (.int .i64 0), .lit (.int .i64 0), .lit (.int .i64 0), .lit (.int .i64 0), .lit (.int .i64 0), .lit (.int .i64 0), .lit (.int .i64 0), .lit (.int .i64 0), .lit (.int .i64 39), .lit (.int .i64 24), .lit (.int .i64 0), .sl [.lit (.int .i64 7), .lit (.int .i64 14), .lit (.int .i64 14)] 0 1, .lit (.int .i64 9), .lit (.int .i64 12), .lit (.int .i64 63), .lit (.int .i64 3)], .lit (.int .i64 3)], (.agg [.lit (.int .i64 9), .lit (.int .i64 10)])⟩
theorem k45 : e45.ok Tryz.prog := Go.Ag.tells_ok (C := cfg tab44) mix (Go.Ag.conTab_ok rfl t44) (n := 2000) (by kernel_rfl)
def tab45 : List Go.Ag.Known := e45 :: tab44
theorem t45 : ∀ e ∈ tab45, e.ok Tryz.prog := List.forall_mem_cons.2 ⟨k45, t44⟩
def e46 : Go.Ag.Known := ⟨117, [.agg [.lit (.int .i64 14), .lit (.int .i64 14)], .agg [.lit (.int .i64 3), .lit (.int .i64 4)]], (.agg [.lit (.int .i64 10), .lit (.int .i64 11)])⟩
theorem k46 : e46.ok Tryz.prog := Go.Ag.tells_ok (C := cfg tab45) mix (Go.Ag.conTab_ok rfl t45) (n := 2000) (by kernel_rfl)
def tab46 : List Go.Ag.Known := e46 :: tab45
theorem t46 : ∀ e ∈ tab46, e.ok Tryz.prog := List.forall_mem_cons.2 ⟨k46, t45⟩
def e47 : Go.Ag.Known := ⟨116, [.agg [.lit (.int .i64 9), .lit (.int .i64 10)], .agg [.lit (.int .i64 10), .lit (.int .i64 11)]], (.agg [.lit (.int .i64 10), .lit (.int .i64 10)])⟩
theorem k47 : e47.ok Tryz.prog := Go.Ag.tells_ok (C := cfg tab46) mix (Go.Ag.conTab_ok rfl t46) (n := 2000) (by kernel_rfl)
def tab47 : List Go.Ag.Known := e47 :: tab46
theorem t47 : ∀ e ∈ tab47, e.ok Tryz.prog := List.forall_mem_cons.2 ⟨k47, t46⟩
def e48 : Go.Ag.Known := ⟨81, [.agg [.lit (.int .i64 4), .lit (.int .i64 5), .lit (.int .i64 0), .lit (.int .i64 5), .lit (.int .i64 5), .lit (.int .i64 0), .lit (.int .i64 3), .lit (.int .i64 4), .lit (.int .i64 0), .lit (.int .i64 6), .lit (.int .i64 7), .lit (.int .i64 1), .lit (.int .i64 4), .lit (.int .i64 4), .lit (.int .i64 1), .lit (.int .i64 2), .lit (.int .i64 3), .lit (.int .i64 0), .lit (.int .i64 0), .lit (.int .i64 0), .lit (.int .i64 0), .lit (.int .i64 0), .lit (.int .i64 0), .lit (.int .i64 0), .lit (.int .i64 0), .lit (.int .i64 0), .lit (.int .i64 0), .lit (.int .i64 0), .lit (.int .i64 0), .lit (.int .i64 0), .lit (.int .i64 39), .lit (.int .i64 24), .lit (.int .i64 0), .sl [.lit (.int .i64 7), .lit (.int .i64 14), .lit (.int .i64 14)] 0 1, .lit (.int .i64 9), .lit (.int .i64 12), .lit (.int .i64 63), .lit (.int .i64 3)], .agg [.lit (.int .i64 7), .lit (.int .i64 14), .lit (.int .i64 14)], .lit (.int .i64 3)], (.agg [.lit (.int .i64 10), .lit (.int .i64 10)])⟩
theorem k48 : e48.ok Tryz.prog := Go.Ag.tells_ok (C := cfg tab47) mix (Go.Ag.conTab_ok rfl t47) (n := 2000) (by kernel_rfl)
def tab48 : List Go.Ag.Known := e48 :: tab47
theorem t48 : ∀ e ∈ tab48, e.ok Tryz.prog := List.forall_mem_cons.2 ⟨k48, t47⟩
def e49 : Go.Ag.Known := ⟨82, [.sl [.lit (.int .i64 10), .lit (.int .i64 10), .lit (.int .i64 0), .lit (.int .i64 0)] 0 2], (.agg [.lit (.int .i64 10), .lit (.int .i64 10)])⟩
theorem k49 : e49.ok Tryz.prog := Go.Ag.tells_ok (C := cfg tab48) mix (Go.Ag.conTab_ok rfl t48) (n := 2000) (by kernel_rfl)
def tab49 : List Go.Ag.Known := e49 :: tab48
theorem t49 : ∀ e ∈ tab49, e.ok Tryz.prog := List.forall_mem_cons.2 ⟨k49, t48⟩
def e50 : Go.Ag.Known := ⟨46, [.agg [.lit (.int .i64 4), .lit (.int .i64 5), .lit (.int .i64 0), .lit (.int .i64 5), .lit (.int .i64 5), .lit (.int .i64 0), .lit (.int .i64 3), .lit (.int .i64 4), .lit (.int .i64 0), .lit (.int .i64 6), .lit (.int .i64 7), .lit (.int .i64 1), .lit (.int .i64 4), .lit (.int .i64 4), .lit (.int .i64 1), .lit (.int .i64 2), .lit (.int .i64 3), .lit (.int .i64 0), .lit (.int .i64 0), .lit (.int .i64 0), .lit (.int .i64 0), .lit (.int .i64 0), .lit (.int .i64 0), .lit (.int .i64 0), .lit (.int .i64 0), .lit (.int .i64 0), .lit (.int .i64 0), .lit (.int .i64 0), .lit (.int .i64 0), .lit (.int .i64 0), .lit (.int .i64 39), .lit (.int .i64 24), .lit (.int .i64 0), .sl [.lit (.int .i64 7), .lit (.int .i64 14), .lit (.int .i64 14)] 0 1, .lit (.int .i64 9), .lit (.int .i64 12), .lit (.int .i64 63), .lit (.int .i64 3)], .lit (.int .i64 3)], (.agg [.lit (.int .i64 10), .lit (.int .i64 10)])⟩
theorem k50 : e50.ok Tryz.prog := Go.Ag.tells_ok (C := cfg tab49) mix (Go.Ag.conTab_ok rfl t49) (n := 2000) (by kernel_rfl)
def tab50 : List Go.Ag.Known := e50 :: tab49
theorem t50 : ∀ e ∈ tab50, e.ok Tryz.prog := List.forall_mem_cons.2 ⟨k50, t49⟩
def e51 : Go.Ag.Known := ⟨13, [.agg [.sl [.lit (.int .i64 4), .lit (.int .i64 5), .lit (.int .i64 0), .lit (.int .i64 5), .lit (.int .i64 5), .lit (.int .i64 0), .lit (.int .i64 3), .lit (.int .i64 4), .lit (.int .i64 0), .lit (.int .i64 6), .lit (.int .i64 7), .lit (.int .i64 1), .lit (.int .i64 4), .lit (.int .i64 4), .lit (.int .i64 1), .lit (.int .i64 2), .lit (.int .i64 3), .lit (.int .i64 0)] 0 6, .lit (.int .i64 9), .lit (.int .i64 12), .lit (.int .i64 3), .sl [.lit (.int .i64 7), .lit (.int .i64 14), .lit (.int .i64 14)] 0 1], .lit (.int .i64 3)], (.tuple [.agg [.lit (.int .i64 10), .lit (.int .i64 10)], .lit (.int .i64 0)])⟩
theorem k51 : e51.ok Tryz.prog := Go.Ag.tells_ok (C := cfg tab50) mix (Go.Ag.conTab_ok rfl t50) (n := 2000) (by kernel_rfl)
def tab51 : List Go.Ag.Known := e51 :: tab50
theorem t51 : ∀ e ∈ tab51, e.ok Tryz.prog := List.forall_mem_cons.2 ⟨k51, t50⟩
def e52 : Go.Ag.Known := ⟨60, [.agg [.sl [.lit (.int .i64 4), .lit (.int .i64 5), .lit (.int .i64 0), .lit (.int .i64 5), .lit (.int .i64 5), .lit (.int .i64 0), .lit (.int .i64 3), .lit (.int .i64 4), .lit (.int .i64 0), .lit (.int .i64 6), .lit (.int .i64 7), .lit (.int .i64 1), .lit (.int .i64 4), .lit (.int .i64 4), .lit (.int .i64 1), .lit (.int .i64 2), .lit (.int .i64 3), .lit (.int .i64 0)] 0 6, .lit (.int .i64 9), .lit (.int .i64 12), .lit (.int .i64 3), .lit (.slice none 0 0)]], (.lit (.bool true))⟩
theorem k52 : e52.ok Tryz.prog := Go.Ag.tells_ok (C := cfg tab51) mix (Go.Ag.conTab_ok rfl t51) (n := 2000) (by kernel_rfl)
def tab52 : List Go.Ag.Known := e52 :: tab51
theorem t52 : ∀ e ∈ tab52, e.ok Tryz.prog := List.forall_mem_cons.2 ⟨k52, t51⟩
def e53 : Go.Ag.Known := ⟨97, [.lit (.int .i64 5), .lit (.int .i64 0), .lit (.int .i64 63)], (.lit (.bool true))⟩
theorem k53 : e53.ok Tryz.prog := Go.Ag.tells_ok (C := cfg tab52) mix (Go.Ag.conTab_ok rfl t52) (n := 2000) (by kernel_rfl)
def tab53 : List Go.Ag.Known := e53 :: tab52
theorem t53 : ∀ e ∈ tab53, e.ok Tryz.prog := List.forall_mem_cons.2 ⟨k53, t52⟩
def e54 : Go.Ag.Known := ⟨77, [.lit (.int .i64 5), .lit (.int .i64 6)], (.lit (.bool true))⟩
theorem k54 : e54.ok Tryz.prog := Go.Ag.tells_ok (C := cfg tab53) mix (Go.Ag.conTab_ok rfl t53) (n := 2000) (by kernel_rfl)
def tab54 : List Go.Ag.Known := e54 :: tab53
theorem t54 : ∀ e ∈ tab54, e.ok Tryz.prog := List.forall_mem_cons.2 ⟨k54, t53⟩
def e55 : Go.Ag.Known := ⟨61, [.agg [.sl [.lit (.int .i64 4), .lit (.int .i64 5), .lit (.int .i64 0), .lit (.int .i64 5), .lit (.int .i64 5), .lit (.int .i64 0), .lit (.int .i64 3), .lit (.int .i64 4), .lit (.int .i64 0), .lit (.int .i64 6), .lit (.int .i64 7), .lit (.int .i64 1), .lit (.int .i64 4), .lit (.int .i64 4), .lit (.int .i64 1), .lit (.int .i64 2), .lit (.int .i64 3), .lit (.int .i64 0)] 0 6, .lit (.int .i64 9), .lit (.int .i64 12), .lit (.int .i64 3), .lit (.slice none 0 0)]], (.agg [.lit (.int .i64 4), .lit (.int .i64 5), .lit (.int .i64 0), .lit (.int .i64 5), .lit (.int .i64 5), .lit (.int .i64 0), .lit (.int .i64 3), .lit (.int .i64 4), .lit (.int .i64 0), .lit (.int .i64 6), .lit (.int .i64 7), .lit (.int .i64 1), .lit (.int .i64 4), .lit (.int .i64 4), .lit (.int .i64 1), .lit (.int .i64 2), .lit (.int .i64 3), .lit (.int .i64 0), .lit (.int .i64 0), .lit (.int .i64 0), .lit (.int .i64 0), .lit (.int .i64 0), .lit (.int .i64 0), .lit (.int .i64 0), .lit (.int .i64 0), .lit (.int .i64 0), .lit (.int .i64 0), .lit (.int .i64 0), .lit (.int .i64 0), .lit (.int .i64 0), .lit (.int .i64 39), .lit (.int .i64 24), .lit (.int .i64 0), .lit (.slice none 0 0), .lit (.int .i64 9), .lit (.int .i64 12), .lit (.int .i64 63), .lit (.int .i64 3)])⟩
theorem k55 : e55.ok Tryz.prog := Go.Ag.tells_ok (C := cfg tab54) mix (Go.Ag.conTab_ok rfl t54) (n := 2000) (by kernel_rfl)
def tab55 : List Go.Ag.Known := e55 :: tab54
theorem t55 : ∀ e ∈ tab55, e.ok Tryz.prog := List.forall_mem_cons.2 ⟨k55, t54⟩
def e56 : Go.Ag.Known := ⟨99, [.agg [.lit (.int .i64 4), .lit (.int .i64 5), .lit (.int .i64 0), .lit (.int .i64 5), .lit (.int .i64 5), .lit (.int .i64 0), .lit (.int .i64 3), .lit (.int .i64 4), .lit (.int .i64 0), .lit (.int .i64 6), .lit (.int .i64 7), .lit (.int .i64 1), .lit (.int .i64 4), .lit (.int .i64 4), .lit (.int .i64 1), .lit (.int .i64 2), .lit (.int .i64 3), .lit (.int .i64 0), .lit (.int .i64 0), .lit (.int .i64 0), .lit (.int .i64 0), .lit (.int .i64 0), .lit (.int .i64 0), .lit (.int .i64 0), .lit (.int .i64 0), .lit (.int .i64 0), .lit (.int .i64 0), .lit (.int .i64 0), .lit (.int .i64 0), .lit (.int .i64 0), .lit (.int .i64 39), .lit (.int .i64 24), .lit (.int .i64 0), .lit (.slice none 0 0), .lit (.int .i64 9), .lit (.int .i64 12), .lit (.int .i64 63), .lit (.int .i64 3)]], (.lit (.slice none 0 0))⟩
theorem k56 : e56.ok Tryz.prog := Go.Ag.tells_ok (C := cfg tab55) mix (Go.Ag.conTab_ok rfl t55) (n := 2000) (by kernel_rfl)
def tab56 : List Go.Ag.Known := e56 :: tab55
theorem t56 : ∀ e ∈ tab56, e.ok Tryz.prog := List.forall_mem_cons.2 ⟨k56, t55⟩
def e57 : Go.Ag.Known := ⟨80, [.agg [.lit (.int .i64 4), .lit (.int .i64 5), .lit (.int .i64 0), .lit (.int .i64 5), .lit (.int .i64 5), .lit (.int .i64 0), .lit (.int .i64 3), .lit (.int .i64 4), .lit (.int .i64 0), .lit (.int .i64 6), .lit (.int .i64 7), .lit (.int .i64 1), .lit (.int .i64 4), .lit (.int .i64 4), .lit (.int .i64 1), .lit (.int .i64 2), .lit (.int .i64 3), .lit (.int .i64 0), .lit (.int .i64 0), .lit (.int .i64 0), .lit (.int .i64 0), .lit (.int .i64 0), .lit (.int .i64 0), .lit (.int .i64 0), .lit (.int .i64 0), .lit (.int .i64 0), .lit (.int .i64 0), .lit (.int .i64 0), .lit (.int .i64 0), .lit (.int .i64 0), .lit (.int .i64 39), .lit (.int .i64 24), .lit (.int .i64 0), .lit (.slice none 0 0), .lit (.int .i64 9), .lit (.int .i64 12), .lit (.int .i64 63), .lit (.int .i64 3)]], (.agg [.lit (.int .i64 4), .lit (.int .i64 5), .lit (.int .i64 0), .lit (.int .i64 5), .lit (.int .i64 5), .lit (.int .i64 0), .lit (.int .i64 3), .lit (.int .i64 4), .lit (.int .i64 0), .lit (.int .i64 6), .lit (.int .i64 7), .lit (.int .i64 1), .lit (.int .i64 4), .lit (.int .i64 4), .lit (.int .i64 1), .lit (.int .i64 2), .lit (.int .i64 3), .lit (.int .i64 0), .lit (.int .i64 0), .lit (.int .i64 0), .lit (.int .i64 0), .lit (.int .i64 0), .lit (.int .i64 0), .lit (.int .i64 0), .lit (.int .i64 0), .lit (.int .i64 0), .lit (.int .i64 0), .lit (.int .i64 0), .lit (.int .i64 0), .lit (.int .i64 0), .lit (.int .i64 39), .lit (.int .i64 24), .lit (.int .i64 0), .lit (.slice none 0 0), .lit (.int .i64 9), .lit (.int .i64 12), .lit (.int .i64 63), .lit (.int .i64 3)])⟩
theorem k57 : e57.ok Tryz.prog := Go.Ag.tells_ok (C := cfg tab56) mix (Go.Ag.conTab_ok rfl t56) (n := 2000) (by kernel_rfl)
def tab57 : List Go.Ag.Known := e57 :: tab56
theorem t57 : ∀ e ∈ tab57, e.ok Tryz.prog := List.forall_mem_cons.2 ⟨k57, t56⟩
def e58 : Go.Ag.Known := ⟨82, [.sl [.lit (.int .i64 4), .lit (.int .i64 5), .lit (.int .i64 3), .lit (.int .i64 4)] 0 2], (.agg [.lit (.int .i64 7), .lit (.int .i64 9)])⟩
theorem k58 : e58.ok Tryz.prog := Go.Ag.tells_ok (C := cfg tab57) mix (Go.Ag.conTab_ok rfl t57) (n := 2000) (by kernel_rfl)
def tab58 : List Go.Ag.Known := e58 :: tab57
theorem t58 : ∀ e ∈ tab58, e.ok Tryz.prog := List.forall_mem_cons.2 ⟨k58, t57⟩
def e59 : Go.Ag.Known := ⟨83, [.agg [.lit (.int .i64 4), .lit (.int .i64 5), .lit (.int .i64 0), .lit (.int .i64 5), .lit (.int .i64 5), .lit (.int .i64 0), .lit (.int .i64 3), .lit (.int .i64 4), .lit (.int .i64 0), .lit (.int .i64 6), .lit (.int .i64 7), .lit (.int .i64 1), .lit (.int .i64 4), .lit (.int .i64 4), .lit (.int .i64 1), .lit (.int .i64 2), .lit (.int .i64 3), .lit (.int .i64 0), .lit (.int .i64 0), .lit (.int .i64 0), .lit (.int .i64 0), .lit (.int .i64 0), .lit (.int .i64 0), .lit (.int .i64 0), .lit (.int .i64 0), .lit (.int .i64 0), .lit (.int .i64 0), .lit (.int .i64 0), .lit (.int .i64 0), .lit (.int .i64 0), .lit (.int .i64 39), .lit (.int .i64 24), .lit (.int .i64 0), .lit (.slice none 0 0), .lit (.int .i64 9), .lit (.int .i64 12), .lit (.int .i64 63), .lit (.int .i64 3)], .lit (.int .i64 5)], (.agg [.lit (.int .i64 7), .lit (.int .i64 9)])⟩
theorem k59 : e59.ok Tryz.prog := Go.Ag.tells_ok (C := cfg tab58) mix (Go.Ag.conTab_ok rfl t58) (n := 2000) (by kernel_rfl)
def tab59 : List Go.Ag.Known := e59 :: tab58
theorem t59 : ∀ e ∈ tab59, e.ok Tryz.prog := List.forall_mem_cons.2 ⟨k59, t58⟩
def e60 : Go.Ag.Known := ⟨82, [.sl [.lit (.int .i64 7), .lit (.int .i64 9)] 0 1], (.agg [.lit (.int .i64 7), .lit (.int .i64 9)])⟩
theorem k60 : e60.ok Tryz.prog := Go.Ag.tells_ok (C := cfg tab59) mix (Go.Ag.conTab_ok rfl t59) (n := 2000) (by kernel_rfl)
def tab60 : List Go.Ag.Known := e60 :: tab59
theorem t60 : ∀ e ∈ tab60, e.ok Tryz.prog := List.forall_mem_cons.2 ⟨k60, t59⟩
def e61 : Go.Ag.Known := ⟨46, [.agg [.lit (.int .i64 4), .lit (.int .i64 5), .lit (.int .i64 0), .lit (.int .i64 5), .lit (.int .i64 5), .lit (.int .i64 0), .lit (.int .i64 3), .lit (.int .i64 4), .lit (.int .i64 0), .lit (.int .i64 6), .lit (.int .i64 7), .lit (.int .i64 1), .lit (.int .i64 4), .lit (.int .i64 4), .lit (.int .i64 1), .lit (.int .i64 2), .lit (.int .i64 3), .lit (.int .i64 0), .lit (.int .i64 0), .lit (.int .i64 0), .lit (.int .i64 0), .lit (.int .i64 0), .lit (.int .i64 0), .lit (.int .i64 0), .lit (.int .i64 0), .lit (.int .i64 0), .lit (.int .i64 0), .lit (.int .i64 0), .lit (.int .i64 0), .lit (.int .i64 0), .lit (.int .i64 39), .lit (.int .i64 24), .lit (.int .i64 0), .lit (.slice none 0 0), .lit (.int .i64 9), .lit (.int .i64 12), .lit (.int .i64 63), .lit (.int .i64 3)], .lit (.int .i64 5)], (.agg [.lit (.int .i64 7), .lit (.int .i64 9)])⟩
theorem k61 : e61.ok Tryz.prog := Go.Ag.tells_ok (C := cfg tab60) mix (Go.Ag.conTab_ok rfl t60) (n := 2000) (by kernel_rfl)
def tab61 : List Go.Ag.Known := e61 :: tab60
theorem t61 : ∀ e ∈ tab61, e.ok Tryz.prog := List.forall_mem_cons.2 ⟨k61, t60⟩
def e62 : Go.Ag.Known := ⟨88, [.lit (.int .i64 5), .sl [.iface 74 (.agg [.lit (.int .i64 39), .lit (.int .i64 24), .lit (.int .i64 0)]), .iface 123 (.agg [.lit (.int .i64 4), .lit (.int .i64 5), .lit (.int .i64 0), .lit (.int .i64 5), .lit (.int .i64 5), .lit (.int .i64 0), .lit (.int .i64 3), .lit (.int .i64 4), .lit (.int .i64 0), .lit (.int .i64 6), .lit (.int .i64 7), .lit (.int .i64 1), .lit (.int .i64 4), .lit (.int .i64 4), .lit (.int .i64 1), .lit (.int .i64 2), .lit (.int .i64 3), .lit (.int .i64 0), .lit (.int .i64 0), .lit (.int .i64 0), .lit (.int .i64 0), .lit (.int .i64 0), .lit (.int .i64 0), .lit (.int .i64 0), .lit (.int .i64 0), .lit (.int .i64 0), .lit (.int .i64 0), .lit (.int .i64 0), .lit (.int .i64 0), .lit (.int .i64 0), .lit (.int .i64 39), .lit (.int .i64 24), .lit (.int .i64 0), .lit (.slice none 0 0), .lit (.int .i64 9), .lit (.int .i64 12), .lit (.int .i64 63), .lit (.int .i64 3), .func (.func 89) [.agg [.lit (.int .i64 9), .lit (.int .i64 12)]] []])] 0 2], (.lit (.bool false))⟩
theorem k62 : e62.ok Tryz.prog := Go.Ag.tells_ok (C := cfg tab61) mix (Go.Ag.conTab_ok rfl t61) (n := 2000) (by kernel_rfl)
def tab62 : List Go.Ag.Known := e62 :: tab61
theorem t62 : ∀ e ∈ tab62, e.ok Tryz.prog := List.forall_mem_cons.2 ⟨k62, t61⟩
def e63 : Go.Ag.Known := ⟨53, [.agg [.lit (.int .i64 4), .lit (.int .i64 5), .lit (.int .i64 0), .lit (.int .i64 5), .lit (.int .i64 5), .lit (.int .i64 0), .lit (.int .i64 3), .lit (.int .i64 4), .lit (.int .i64 0), .lit (.int .i64 6), .lit (.int .i64 7), .lit (.int .i64 1), .lit (.int .i64 4), .lit (.int .i64 4), .lit (.int .i64 1), .lit (.int .i64 2), .lit (.int .i64 3), .lit (.int .i64 0), .lit (.int .i64 0), .lit (.int .i64 0), .lit (.int .i64 0), .lit (.int .i64 0), .lit (.int .i64 0), .lit (.int .i64 0), .lit (.int .i64 0), .lit (.int .i64 0), .lit (.int .i64 0), .lit (.int .i64 0), .lit (.int .i64 0), .lit (.int .i64 0), .lit (.int .i64 39), .lit (.int .i64 24), .lit (.int .i64 0), .lit (.slice none 0 0), .lit (.int .i64 9), .lit (.int .i64 12), .lit (.int .i64 63), .lit (.int .i64 3)], .lit (.int .i64 5)], (.lit (.bool false))⟩
theorem k63 : e63.ok Tryz.prog := Go.Ag.tells_ok (C := cfg tab62) mix (Go.Ag.conTab_ok rfl t62) (n := 2000) (by kernel_rfl)
def tab63 : List Go.Ag.Known := e63 :: tab62
theorem t63 : ∀ e ∈ tab63, e.ok Tryz.prog := List.forall_mem_cons.2 ⟨k63, t62⟩
def e64 : Go.Ag.Known := ⟨116, [.agg [.lit (.int .i64 9), .lit (.int .i64 12)], .agg [.lit (.int .i64 7), .lit (.int .i64 9)]], (.agg [.lit (.int .i64 9), .lit (.int .i64 9)])⟩
theorem k64 : e64.ok Tryz.prog := Go.Ag.tells_ok (C := cfg tab63) mix (Go.Ag.conTab_ok rfl t63) (n := 2000) (by kernel_rfl)
def tab64 : List Go.Ag.Known := e64 :: tab63
theorem t64 : ∀ e ∈ tab64, e.ok Tryz.prog := List.forall_mem_cons.2 ⟨k64, t63⟩
def e65 : Go.Ag.Known := ⟨88, [.lit (.int .i64 5), .sl [.iface 74 (.agg [.lit (.int .i64 39), .lit (.int .i64 24), .lit (.int .i64 0)]), .iface 123 (.agg [.lit (.int .i64 4), .lit (.int .i64 5), .lit (.int .i64 0), .lit (.int .i64 5), .lit (.int .i64 5), .lit (.int .i64 0), .lit (.int .i64 3), .lit (.int .i64 4), .lit (.int .i64 0), .lit (.int .i64 6), .lit (.int .i64 7), .lit (.int .i64 1), .lit (.int .i64 4), .lit (.int .i64 4), .lit (.int .i64 1), .lit (.int .i64 2), .lit (.int .i64 3), .lit (.int .i64 0), .lit (.int .i64 0), .lit (.int .i64 0), .lit (.int .i64 0), .lit (.int .i64 0), .lit (.int .i64 0), .lit (.int .i64 0), .lit (.int .i64 0), .lit (.int .i64 0), .lit (.int .i64 0), .lit (.int .i64 0), .lit (.int .i64 0), .lit (.int .i64 0), .lit (.int .i64 39), .lit (.int .i64 24), .lit (.int .i64 0), .lit (.slice none 0 0), .lit (.int .i64 9), .lit (.int .i64 12), .lit (.int .i64 63), .lit (.int .i64 3), .func (.func 90) [.agg [.lit (.int .i64 9), .lit (.int .i64 12)]] []])] 0 2], (.lit (.bool true))⟩
theorem k65 : e65.ok Tryz.prog := Go.Ag.tells_ok (C := cfg tab64) mix (Go.Ag.conTab_ok rfl t64) (n := 2000) (by kernel_rfl)
def tab65 : List Go.Ag.Known := e65 :: tab64
theorem t65 : ∀ e ∈ tab65, e.ok Tryz.prog := List.forall_mem_cons.2 ⟨k65, t64⟩
def e66 : Go.Ag.Known := ⟨54, [.agg [.lit (.int .i64 4), .lit (.int .i64 5), .lit (.int .i64 0), .lit (.int .i64 5), .lit (.int .i64 5), .lit (.int .i64 0), .lit (.int .i64 3), .lit (.int .i64 4), .lit (.int .i64 0), .lit (.int .i64 6), .lit (.int .i64 7), .lit (.int .i64 1), .lit (.int .i64 4), .lit (.int .i64 4), .lit (.int .i64 1), .lit (.int .i64 2), .lit (.int .i64 3), .lit (.int .i64 0), .lit (.int .i64 0), .lit (.int .i64 0), .lit (.int .i64 0), .lit (.int .i64 0), .lit (.int .i64 0), .lit (.int .i64 0), .lit (.int .i64 0), .lit (.int .i64 0), .lit (.int .i64 0), .lit (.int .i64 0), .lit (.int .i64 0), .lit (.int .i64 0), .lit (.int .i64 39), .lit (.int .i64 24), .lit (.int .i64 0), .lit (.slice none 0 0), .lit (.int .i64 9), .lit (.int .i64 12), .lit (.int .i64 63), .lit (.int .i64 3)], .lit (.int .i64 5)], (.lit (.bool true))⟩
theorem k66 : e66.ok Tryz.prog := Go.Ag.tells_ok (C := cfg tab65) mix (Go.Ag.conTab_ok rfl t65) (n := 2000) (by kernel_rfl)
def tab66 : List Go.Ag.Known := e66 :: tab65
theorem t66 : ∀ e ∈ tab66, e.ok Tryz.prog := List.forall_mem_cons.2 ⟨k66, t65⟩
def e67 : Go.Ag.Known := ⟨15, [.agg [.sl [.lit (.int .i64 4), .lit (.int .i64 5), .lit (.int .i64 0), .lit (.int .i64 5), .lit (.int .i64 5), .lit (.int .i64 0), .lit (.int .i64 3), .lit (.int .i64 4), .lit (.int .i64 0), .lit (.int .i64 6), .lit (.int .i64 7), .lit (.int .i64 1), .lit (.int .i64 4), .lit (.int .i64 4), .lit (.int .i64 1), .lit (.int .i64 2), .lit (.int .i64 3), .lit (.int .i64 0)] 0 6, .lit (.int .i64 9), .lit (.int .i64 12), .lit (.int .i64 3), .lit (.slice none 0 0)], .lit (.int .i64 5)], (.tuple [.lit (.int .i64 1), .lit (.int .i64 0)])⟩
theorem k67 : e67.ok Tryz.prog := Go.Ag.tells_ok (C := cfg tab66) mix (Go.Ag.conTab_ok rfl t66) (n := 2000) (by kernel_rfl)
def tab67 : List Go.Ag.Known := e67 :: tab66
theorem t67 : ∀ e ∈ tab67, e.ok Tryz.prog := List.forall_mem_cons.2 ⟨k67, t66⟩
def e68 : Go.Ag.Known := ⟨21, [.agg [.sl [.lit (.int .i64 4), .lit (.int .i64 5), .lit (.int .i64 0), .lit (.int .i64 5), .lit (.int .i64 5), .lit (.int .i64 0), .lit (.int .i64 3), .lit (.int .i64 4), .lit (.int .i64 0), .lit (.int .i64 6), .lit (.int .i64 7), .lit (.int .i64 1), .lit (.int .i64 4), .lit (.int .i64 4), .lit (.int .i64 1), .lit (.int .i64 2), .lit (.int .i64 3), .lit (.int .i64 0)] 0 6, .lit (.int .i64 9), .lit (.int .i64 12), .lit (.int .i64 3), .lit (.slice none 0 0)]], (.tuple [.lit (.int .i64 5), .lit (.int .i64 2), .lit (.int .i64 0)])⟩
theorem k68 : e68.ok Tryz.prog := Go.Ag.smp_21
def tab68 : List Go.Ag.Known := e68 :: tab67
theorem t68 : ∀ e ∈ tab68, e.ok Tryz.prog := List.forall_mem_cons.2 ⟨k68, t67⟩
def e69 : Go.Ag.Known := ⟨23, [.agg [.sl [.lit (.int .i64 4), .lit (.int .i64 5), .lit (.int .i64 0), .lit (.int .i64 5), .lit (.int .i64 5), .lit (.int .i64 0), .lit (.int .i64 3), .lit (.int .i64 4), .lit (.int .i64 0), .lit (.int .i64 6), .lit (.int .i64 7), .lit (.int .i64 1), .lit (.int .i64 4), .lit (.int .i64 4), .lit (.int .i64 1), .lit (.int .i64 2), .lit (.int .i64 3), .lit (.int .i64 0)] 0 6, .lit (.int .i64 9), .lit (.int .i64 12), .lit (.int .i64 3), .lit (.slice none 0 0)]], (.tuple [.sl [.lit (.int .i64 24), .lit (.int .i64 37)] 0 2, .lit (.int .i64 0)])⟩
theorem k69 : e69.ok Tryz.prog := Go.Ag.smp_23
def tab69 : List Go.Ag.Known := e69 :: tab68
theorem t69 : ∀ e ∈ tab69, e.ok Tryz.prog := List.forall_mem_cons.2 ⟨k69, t68⟩
def e70 : Go.Ag.Known := ⟨25, [.agg [.sl [.lit (.int .i64 4), .lit (.int .i64 5), .lit (.int .i64 0), .lit (.int .i64 5), .lit (.int .i64 5), .lit (.int .i64 0), .lit (.int .i64 3), .lit (.int .i64 4), .lit (.int .i64 0), .lit (.int .i64 6), .lit (.int .i64 7), .lit (.int .i64 1), .lit (.int .i64 4), .lit (.int .i64 4), .lit (.int .i64 1), .lit (.int .i64 2), .lit (.int .i64 3), .lit (.int .i64 0)] 0 6, .lit (.int .i64 9), .lit (.int .i64 12), .lit (.int .i64 3), .lit (.slice none 0 0)]], (.tuple [.agg [.lit (.int .i64 1), .lit (.int .i64 0), .lit (.int .i64 0)], .lit (.int .i64 0)])⟩
theorem k70 : e70.ok Tryz.prog := Go.Ag.smp_25
def tab70 : List Go.Ag.Known := e70 :: tab69
theorem t70 : ∀ e ∈ tab70, e.ok Tryz.prog := List.forall_mem_cons.2 ⟨k70, t69⟩
def e71 : Go.Ag.Known := ⟨135, [.lit (.int .u64 (58))], (.lit (.int .i64 1))⟩
theorem k71 : e71.ok Tryz.prog := Go.Ag.tells_ok (C := cfg tab70) mix (Go.Ag.conTab_ok rfl t70) (n := 2000) (by kernel_rfl)
def tab71 : List Go.Ag.Known := e71 :: tab70
theorem t71 : ∀ e ∈ tab71, e.ok Tryz.prog := List.forall_mem_cons.2 ⟨k71, t70⟩
def e72 : Go.Ag.Known := ⟨123, [.lit (.int .u64 (58))], (.lit (.int .i64 1))⟩
theorem k72 : e72.ok Tryz.prog := Go.Ag.tells_ok (C := cfg tab71) mix (Go.Ag.conTab_ok rfl t71) (n := 2000) (by kernel_rfl)
def tab72 : List Go.Ag.Known := e72 :: tab71
theorem t72 : ∀ e ∈ tab72, e.ok Tryz.prog := List.forall_mem_cons.2 ⟨k72, t71⟩
def e73 : Go.Ag.Known := ⟨83, [.agg [.lit (.int .i64 4), .lit (.int .i64 5), .lit (.int .i64 0), .lit (.int .i64 5), .lit (.int .i64 5), .lit (.int .i64 0), .lit (.int .i64 3), .lit (.int .i64 4), .lit (.int .i64 0), .lit (.int .i64 6), .lit (.int .i64 7), .lit (.int .i64 1), .lit (.int .i64 4), .lit (.int .i64 4), .lit (.int .i64 1), .lit (.int .i64 2), .lit (.int .i64 3), .lit (.int .i64 0), .lit (.int .i64 0), .lit (.int .i64 0), .lit (.int .i64 0), .lit (.int .i64 0), .lit (.int .i64 0), .lit (.int .i64 0), .lit (.int .i64 0), .lit (.int .i64 0), .lit (.int .i64 0), .lit (.int .i64 0), .lit (.int .i64 0), .lit (.int .i64 0), .lit (.int .i64 39), .lit (.int .i64 24), .lit (.int .i64 0), .lit (.slice none 0 0), .lit (.int .i64 9), .lit (.int .i64 12), .lit (.int .i64 63), .lit (.int .i64 3)], .lit (.int .i64 7)], (.agg [.lit (.int .i64 12), .lit (.int .i64 14)])⟩
theorem k73 : e73.ok Tryz.prog := Go.Ag.tells_ok (C := cfg tab72) mix (Go.Ag.conTab_ok rfl t72) (n := 2000) (by kernel_rfl)
def tab73 : List Go.Ag.Known := e73 :: tab72
theorem t73 : ∀ e ∈ tab73, e.ok Tryz.prog := List.forall_mem_cons.2 ⟨k73, t72⟩
def e74 : Go.Ag.Known := ⟨82, [.sl [.lit (.int .i64 12), .lit (.int .i64 14)] 0 1], (.agg [.lit (.int .i64 12), .lit (.int .i64 14)])⟩
theorem k74 : e74.ok Tryz.prog := Go.Ag.tells_ok (C := cfg tab73) mix (Go.Ag.conTab_ok rfl t73) (n := 2000) (by kernel_rfl)
def tab74 : List Go.Ag.Known := e74 :: tab73
theorem t74 : ∀ e ∈ tab74, e.ok Tryz.prog := List.forall_mem_cons.2 ⟨k74, t73⟩
def e75 : Go.Ag.Known := ⟨46, [.agg [.lit (.int .i64 4), .lit (.int .i64 5), .lit (.int .i64 0), .lit (.int .i64 5), .lit (.int .i64 5), .lit (.int .i64 0), .lit (.int .i64 3), .lit (.int .i64 4), .lit (.int .i64 0), .lit (.int .i64 6), .lit (.int .i64 7), .lit (.int .i64 1), .lit (.int .i64 4), .lit (.int .i64 4), .lit (.int .i64 1), .lit (.int .i64 2), .lit (.int .i64 3), .lit (.int .i64 0), .lit (.int .i64 0), .lit (.int .i64 0), .lit (.int .i64 0), .lit (.int .i64 0), .lit (.int .i64 0), .lit (.int .i64 0), .lit (.int .i64 0), .lit (.int .i64 0), .lit (.int .i64 0), .lit (.int .i64 0), .lit (.int .i64 0), .lit (.int .i64 0), .lit (.int .i64 39), .lit (.int .i64 24), .lit (.int .i64 0), .lit (.slice none 0 0), .lit (.int .i64 9), .lit (.int .i64 12), .lit (.int .i64 63), .lit (.int .i64 3)], .lit (.int .i64 7)], (.agg [.lit (.int .i64 12), .lit (.int .i64 14)])⟩
theorem k75 : e75.ok Tryz.prog := Go.Ag.tells_ok (C := cfg tab74) mix (Go.Ag.conTab_ok rfl t74) (n := 2000) (by kernel_rfl)
def tab75 : List Go.Ag.Known := e75 :: tab74
theorem t75 : ∀ e ∈ tab75, e.ok Tryz.prog := List.forall_mem_cons.2 ⟨k75, t74⟩
def e76 : Go.Ag.Known := ⟨88, [.lit (.int .i64 7), .sl [.iface 74 (.agg [.lit (.int .i64 39), .lit (.int .i64 24), .lit (.int .i64 0)]), .iface 123 (.agg [.lit (.int .i64 4), .lit (.int .i64 5), .lit (.int .i64 0), .lit (.int .i64 5), .lit (.int .i64 5), .lit (.int .i64 0), .lit (.int .i64 3), .lit (.int .i64 4), .lit (.int .i64 0), .lit (.int .i64 6), .lit (.int .i64 7), .lit (.int .i64 1), .lit (.int .i64 4), .lit (.int .i64 4), .lit (.int .i64 1), .lit (.int .i64 2), .lit (.int .i64 3), .lit (.int .i64 0), .lit (.int .i64 0), .lit (.int .i64 0), .lit (.int .i64 0), .lit (.int .i64 0), .lit (.int .i64 0), .lit (.int .i64 0), .lit (.int .i64 0), .lit (.int .i64 0), .lit (.int .i64 0), .lit (.int .i64 0), .lit (.int .i64 0), .lit (.int .i64 0), .lit (.int .i64 39), .lit (.int .i64 24), .lit (.int .i64 0), .lit (.slice none 0 0), .lit (.int .i64 9), .lit (.int .i64 12), .lit (.int .i64 63), .lit (.int .i64 3), .func (.func 89) [.agg [.lit (.int .i64 9), .lit (.int .i64 12)]] []])] 0 2], (.lit (.bool false))⟩
theorem k76 : e76.ok Tryz.prog := Go.Ag.tells_ok (C := cfg tab75) mix (Go.Ag.conTab_ok rfl t75) (n := 2000) (by kernel_rfl)
def tab76 : List Go.Ag.Known := e76 :: tab75
theorem t76 : ∀ e ∈ tab76, e.ok Tryz.prog := List.forall_mem_cons.2 ⟨k76, t75⟩
def e77 : Go.Ag.Known := ⟨53, [.agg [.lit (.int .i64 4), .lit (.int .i64 5), .lit (.int .i64 0), .lit (.int .i64 5), .lit (.int .i64 5), .lit (.int .i64 0), .lit (.int .i64 3), .lit (.int .i64 4), .lit (.int .i64 0), .lit (.int .i64 6), .lit (.int .i64 7), .lit (.int .i64 1), .lit (.int .i64 4), .lit (.int .i64 4), .lit (.int .i64 1), .lit (.int .i64 2), .lit (.int .i64 3), .lit (.int .i64 0), .lit (.int .i64 0), .lit (.int .i64 0), .lit (.int .i64 0), .lit (.int .i64 0), .lit (.int .i64 0), .lit (.int .i64 0), .lit (.int .i64 0), .lit (.int .i64 0), .lit (.int .i64 0), .lit (.int .i64 0), .lit (.int .i64 0), .lit (.int .i64 0), .lit (.int .i64 39), .lit (.int .i64 24), .lit (.int .i64 0), .lit (.slice none 0 0), .lit (.int .i64 9), .lit (.int .i64 12), .lit (.int .i64 63), .lit (.int .i64 3)], .lit (.int .i64 7)], (.lit (.bool false))⟩
theorem k77 : e77.ok Tryz.prog := Go.Ag.tells_ok (C := cfg tab76) mix (Go.Ag.conTab_ok rfl t76) (n := 2000) (by kernel_rfl)
def tab77 : List Go.Ag.Known := e77 :: tab76
theorem t77 : ∀ e ∈ tab77, e.ok Tryz.prog := List.forall_mem_cons.2 ⟨k77, t76⟩
def e78 : Go.Ag.Known := ⟨135, [.lit (.int .u64 (56))], (.lit (.int .i64 3))⟩
theorem k78 : e78.ok Tryz.prog := Go.Ag.tells_ok (C := cfg tab77) mix (Go.Ag.conTab_ok rfl t77) (n := 2000) (by kernel_rfl)
def tab78 : List Go.Ag.Known := e78 :: tab77
theorem t78 : ∀ e ∈ tab78, e.ok Tryz.prog := List.forall_mem_cons.2 ⟨k78, t77⟩
def e79 : Go.Ag.Known := ⟨123, [.lit (.int .u64 (56))], (.lit (.int .i64 3))⟩
theorem k79 : e79.ok Tryz.prog := Go.Ag.tells_ok (C := cfg tab78) mix (Go.Ag.conTab_ok rfl t78) (n := 2000) (by kernel_rfl)
def tab79 : List Go.Ag.Known := e79 :: tab78
theorem t79 : ∀ e ∈ tab79, e.ok Tryz.prog := List.forall_mem_cons.2 ⟨k79, t78⟩
def e80 : Go.Ag.Known := ⟨88, [.lit (.int .i64 13), .sl [.iface 74 (.agg [.lit (.int .i64 39), .lit (.int .i64 24), .lit (.int .i64 0)]), .iface 123 (.agg [.lit (.int .i64 4), .lit (.int .i64 5), .lit (.int .i64 0), .lit (.int .i64 5), .lit (.int .i64 5), .lit (.int .i64 0), .lit (.int .i64 3), .lit (.int .i64 4), .lit (.int .i64 0), .lit (.int .i64 6), .lit (.int .i64 7), .lit (.int .i64 1), .lit (.int .i64 4), .lit (.int .i64 4), .lit (.int .i64 1), .lit (.int .i64 2), .lit (.int .i64 3), .lit (.int .i64 0), .lit (.int .i64 0), .lit (.int .i64 0), .lit (.int .i64 0), .lit (.int .i64 0), .lit (.int .i64 0), .lit (.int .i64 0), .lit (.int .i64 0), .lit (.int .i64 0), .lit (.int .i64 0), .lit (.int .i64 0), .lit (.int .i64 0), .lit (.int .i64 0), .lit (.int .i64 39), .lit (.int .i64 24), .lit (.int .i64 0), .lit (.slice none 0 0), .lit (.int .i64 9), .lit (.int .i64 12), .lit (.int .i64 63), .lit (.int .i64 3), .func (.func 89) [.agg [.lit (.int .i64 9), .lit (.int .i64 12)]] []])] 0 2], (.lit (.bool false))⟩
theorem k80 : e80.ok Tryz.prog := Go.Ag.tells_ok (C := cfg tab79) mix (Go.Ag.conTab_ok rfl t79) (n := 2000) (by kernel_rfl)
def tab80 : List Go.Ag.Known := e80 :: tab79
theorem t80 : ∀ e ∈ tab80, e.ok Tryz.prog := List.forall_mem_cons.2 ⟨k80, t79⟩
def e81 : Go.Ag.Known := ⟨53, [.agg [.lit (.int .i64 4), .lit (.int .i64 5), .lit (.int .i64 0), .lit (.int .i64 5), .lit (.int .i64 5), .lit (.int .i64 0), .lit (.int .i64 3), .lit (.int .i64 4), .lit (.int .i64 0), .lit (.int .i64 6), .lit (.int .i64 7), .lit (.int .i64 1), .lit (.int .i64 4), .lit (.int .i64 4), .lit (.int .i64 1), .lit (.int .i64 2), .lit (.int .i64 3), .lit (.int .i64 0), .lit (.int .i64 0), .lit (.int .i64 0), .lit (.int .i64 0), .lit (.int .i64 0), .lit (.int .i64 0), .lit (.int .i64 0), .lit (.int .i64 0), .lit (.int .i64 0), .lit (.int .i64 0), .lit (.int .i64 0), .lit (.int .i64 0), .lit (.int .i64 0), .lit (.int .i64 39), .lit (.int .i64 24), .lit (.int .i64 0), .lit (.slice none 0 0), .lit (.int .i64 9), .lit (.int .i64 12), .lit (.int .i64 63), .lit (.int .i64 3)], .lit (.int .i64 13)], (.lit (.bool false))⟩
theorem k81 : e81.ok Tryz.prog := Go.Ag.tells_ok (C := cfg tab80) mix (Go.Ag.conTab_ok rfl t80) (n := 2000) (by kernel_rfl)
def tab81 : List Go.Ag.Known := e81 :: tab80
theorem t81 : ∀ e ∈ tab81, e.ok Tryz.prog := List.forall_mem_cons.2 ⟨k81, t80⟩
def e82 : Go.Ag.Known := ⟨135, [.lit (.int .u64 (48))], (.lit (.int .i64 4))⟩
theorem k82 : e82.ok Tryz.prog := Go.Ag.tells_ok (C := cfg tab81) mix (Go.Ag.conTab_ok rfl t81) (n := 2000) (by kernel_rfl)
def tab82 : List Go.Ag.Known := e82 :: tab81
theorem t82 : ∀ e ∈ tab82, e.ok Tryz.prog := List.forall_mem_cons.2 ⟨k82, t81⟩
def e83 : Go.Ag.Known := ⟨123, [.lit (.int .u64 (48))], (.lit (.int .i64 4))⟩
theorem k83 : e83.ok Tryz.prog := Go.Ag.tells_ok (C := cfg tab82) mix (Go.Ag.conTab_ok rfl t82) (n := 2000) (by kernel_rfl)
def tab83 : List Go.Ag.Known := e83 :: tab82
theorem t83 : ∀ e ∈ tab83, e.ok Tryz.prog := List.forall_mem_cons.2 ⟨k83, t82⟩
def e84 : Go.Ag.Known := ⟨88, [.lit (.int .i64 21), .sl [.iface 74 (.agg [.lit (.int .i64 39), .lit (.int .i64 24), .lit (.int .i64 0)]), .iface 123 (.agg [.lit (.int .i64 4), .lit (.int .i64 5), .lit (.int .i64 0), .lit (.int .i64 5), .lit (.int .i64 5), .lit (.int .i64 0), .lit (.int .i64 3), .lit (.int .i64 4), .lit (.int .i64 0), .lit (.int .i64 6), .lit (.int .i64 7), .lit (.int .i64 1), .lit (.int .i64 4), .lit (.int .i64 4), .lit (.int .i64 1), .lit (.int .i64 2), .lit (.int .i64 3), .lit (.int .i64 0), .lit (.int .i64 0), .lit (.int .i64 0), .lit (.int .i64 0), .lit (.int .i64 0), .lit (.int .i64 0), .lit (.int .i64 0), .lit (.int .i64 0), .lit (.int .i64 0), .lit (.int .i64 0), .lit (.int .i64 0), .lit (.int .i64 0), .lit (.int .i64 0), .lit (.int .i64 39), .lit (.int .i64 24), .lit (.int .i64 0), .lit (.slice none 0 0), .lit (.int .i64 9), .lit (.int .i64 12), .lit (.int .i64 63), .lit (.int .i64 3), .func (.func 89) [.agg [.lit (.int .i64 9), .lit (.int .i64 12)]] []])] 0 2], (.lit (.bool false))⟩
theorem k84 : e84.ok Tryz.prog := Go.Ag.tells_ok (C := cfg tab83) mix (Go.Ag.conTab_ok rfl t83) (n := 2000) (by kernel_rfl)
def tab84 : List Go.Ag.Known := e84 :: tab83
theorem t84 : ∀ e ∈ tab84, e.ok Tryz.prog := List.forall_mem_cons.2 ⟨k84, t83⟩
def e85 : Go.Ag.Known := ⟨53, [.agg [.lit (.int .i64 4), .lit (.int .i64 5), .lit (.int .i64 0), .lit (.int .i64 5), .lit (.int .i64 5), .lit (.int .i64 0), .lit (.int .i64 3), .lit (.int .i64 4), .lit (.int .i64 0), .lit (.int .i64 6), .lit (.int .i64 7), .lit (.int .i64 1), .lit (.int .i64 4), .lit (.int .i64 4), .lit (.int .i64 1), .lit (.int .i64 2), .lit (.int .i64 3), .lit (.int .i64 0), .lit (.int .i64 0), .lit (.int .i64 0), .lit (.int .i64 0), .lit (.int .i64 0), .lit (.int .i64 0), .lit (.int .i64 0), .lit (.int .i64 0), .lit (.int .i64 0), .lit (.int .i64 0), .lit (.int .i64 0), .lit (.int .i64 0), .lit (.int .i64 0), .lit (.int .i64 39), .lit (.int .i64 24), .lit (.int .i64 0), .lit (.slice none 0 0), .lit (.int .i64 9), .lit (.int .i64 12), .lit (.int .i64 63), .lit (.int .i64 3)], .lit (.int .i64 21)], (.lit (.bool false))⟩
theorem k85 : e85.ok Tryz.prog := Go.Ag.tells_ok (C := cfg tab84) mix (Go.Ag.conTab_ok rfl t84) (n := 2000) (by kernel_rfl)
def tab85 : List Go.Ag.Known := e85 :: tab84
theorem t85 : ∀ e ∈ tab85, e.ok Tryz.prog := List.forall_mem_cons.2 ⟨k85, t84⟩
def e86 : Go.Ag.Known := ⟨135, [.lit (.int .u64 (32))], (.lit (.int .i64 5))⟩
theorem k86 : e86.ok Tryz.prog := Go.Ag.tells_ok (C := cfg tab85) mix (Go.Ag.conTab_ok rfl t85) (n := 2000) (by kernel_rfl)
def tab86 : List Go.Ag.Known := e86 :: tab85
theorem t86 : ∀ e ∈ tab86, e.ok Tryz.prog := List.forall_mem_cons.2 ⟨k86, t85⟩
def e87 : Go.Ag.Known := ⟨123, [.lit (.int .u64 (32))], (.lit (.int .i64 5))⟩
theorem k87 : e87.ok Tryz.prog := Go.Ag.tells_ok (C := cfg tab86) mix (Go.Ag.conTab_ok rfl t86) (n := 2000) (by kernel_rfl)
def tab87 : List Go.Ag.Known := e87 :: tab86
theorem t87 : ∀ e ∈ tab87, e.ok Tryz.prog := List.forall_mem_cons.2 ⟨k87, t86⟩
def e88 : Go.Ag.Known := ⟨83, [.agg [.lit (.int .i64 4), .lit (.int .i64 5), .lit (.int .i64 0), .lit (.int .i64 5), .lit (.int .i64 5), .lit (.int .i64 0), .lit (.int .i64 3), .lit (.int .i64 4), .lit (.int .i64 0), .lit (.int .i64 6), .lit (.int .i64 7), .lit (.int .i64 1), .lit (.int .i64 4), .lit (.int .i64 4), .lit (.int .i64 1), .lit (.int .i64 2), .lit (.int .i64 3), .lit (.int .i64 0), .lit (.int .i64 0), .lit (.int .i64 0), .lit (.int .i64 0), .lit (.int .i64 0), .lit (.int .i64 0), .lit (.int .i64 0), .lit (.int .i64 0), .lit (.int .i64 0), .lit (.int .i64 0), .lit (.int .i64 0), .lit (.int .i64 0), .lit (.int .i64 0), .lit (.int .i64 39), .lit (.int .i64 24), .lit (.int .i64 0), .lit (.slice none 0 0), .lit (.int .i64 9), .lit (.int .i64 12), .lit (.int .i64 63), .lit (.int .i64 3)], .lit (.int .i64 37)], (.agg [.lit (.int .i64 9), .lit (.int .i64 12)])⟩
theorem k88 : e88.ok Tryz.prog := Go.Ag.tells_ok (C := cfg tab87) mix (Go.Ag.conTab_ok rfl t87) (n := 2000) (by kernel_rfl)
def tab88 : List Go.Ag.Known := e88 :: tab87
theorem t88 : ∀ e ∈ tab88, e.ok Tryz.prog := List.forall_mem_cons.2 ⟨k88, t87⟩
def e89 : Go.Ag.Known := ⟨82, [.sl [.lit (.int .i64 9), .lit (.int .i64 12)] 0 1], (.agg [.lit (.int .i64 9), .lit (.int .i64 12)])⟩
theorem k89 : e89.ok Tryz.prog := Go.Ag.tells_ok (C := cfg tab88) mix (Go.Ag.conTab_ok rfl t88) (n := 2000) (by kernel_rfl)
def tab89 : List Go.Ag.Known := e89 :: tab88
theorem t89 : ∀ e ∈ tab89, e.ok Tryz.prog := List.forall_mem_cons.2 ⟨k89, t88⟩
def e90 : Go.Ag.Known := ⟨46, [.agg [.lit (.int .i64 4), .lit (.int .i64 5), .lit (.int .i64 0), .lit (.int .i64 5), .lit (.int .i64 5), .lit (.int .i64 0), .lit (.int .i64 3), .lit (.int .i64 4), .lit (.int .i64 0), .lit (.int .i64 6), .lit (.int .i64 7), .lit (.int .i64 1), .lit (.int .i64 4), .lit (.int .i64 4), .lit (.int .i64 1), .lit (.int .i64 2), .lit (.int .i64 3), .lit (.int .i64 0), .lit (.int .i64 0), .lit (.int .i64 0), .lit (.int .i64 0), .lit (.int .i64 0), .lit (.int .i64 0), .lit (.int .i64 0), .lit (.int .i64 0), .lit (.int .i64 0), .lit (.int .i64 0), .lit (.int .i64 0), .lit (.int .i64 0), .lit (.int .i64 0), .lit (.int .i64 39), .lit (.int .i64 24), .lit (.int .i64 0), .lit (.slice none 0 0), .lit (.int .i64 9), .lit (.int .i64 12), .lit (.int .i64 63), .lit (.int .i64 3)], .lit (.int .i64 37)], (.agg [.lit (.int .i64 9), .lit (.int .i64 12)])⟩
theorem k90 : e90.ok Tryz.prog := Go.Ag.tells_ok (C := cfg tab89) mix (Go.Ag.conTab_ok rfl t89) (n := 2000) (by kernel_rfl)
def tab90 : List Go.Ag.Known := e90 :: tab89
theorem t90 : ∀ e ∈ tab90, e.ok Tryz.prog := List.forall_mem_cons.2 ⟨k90, t89⟩
def e91 : Go.Ag.Known := ⟨88, [.lit (.int .i64 37), .sl [.iface 74 (.agg [.lit (.int .i64 39), .lit (.int .i64 24), .lit (.int .i64 0)]), .iface 123 (.agg [.lit (.int .i64 4), .lit (.int .i64 5), .lit (.int .i64 0), .lit (.int .i64 5), .lit (.int .i64 5), .lit (.int .i64 0), .lit (.int .i64 3), .lit (.int .i64 4), .lit (.int .i64 0), .lit (.int .i64 6), .lit (.int .i64 7), .lit (.int .i64 1), .lit (.int .i64 4), .lit (.int .i64 4), .lit (.int .i64 1), .lit (.int .i64 2), .lit (.int .i64 3), .lit (.int .i64 0), .lit (.int .i64 0), .lit (.int .i64 0), .lit (.int .i64 0), .lit (.int .i64 0), .lit (.int .i64 0), .lit (.int .i64 0), .lit (.int .i64 0), .lit (.int .i64 0), .lit (.int .i64 0), .lit (.int .i64 0), .lit (.int .i64 0), .lit (.int .i64 0), .lit (.int .i64 39), .lit (.int .i64 24), .lit (.int .i64 0), .lit (.slice none 0 0), .lit (.int .i64 9), .lit (.int .i64 12), .lit (.int .i64 63), .lit (.int .i64 3), .func (.func 89) [.agg [.lit (.int .i64 9), .lit (.int .i64 12)]] []])] 0 2], (.lit (.bool true))⟩
theorem k91 : e91.ok Tryz.prog := Go.Ag.tells_ok (C := cfg tab90) mix (Go.Ag.conTab_ok rfl t90) (n := 2000) (by kernel_rfl)
def tab91 : List Go.Ag.Known := e91 :: tab90
theorem t91 : ∀ e ∈ tab91, e.ok Tryz.prog := List.forall_mem_cons.2 ⟨k91, t90⟩
def e92 : Go.Ag.Known := ⟨53, [.agg [.lit (.int .i64 4), .lit (.int .i64 5), .lit (.int .i64 0), .lit (.int .i64 5), .lit (.int .i64 5), .lit (.int .i64 0), .lit (.int .i64 3), .lit (.int .i64 4), .lit (.int .i64 0), .lit (.int .i64 6), .lit (.int .i64 7), .lit (.int .i64 1), .lit (.int .i64 4), .lit (.int .i64 4), .lit (.int .i64 1), .lit (.int .i64 2), .lit (.int .i64 3), .lit (.int .i64 0), .lit (.int .i64 0), .lit (.int .i64 0), .lit (.int .i64 0), .lit (.int .i64 0), .lit (.int .i64 0), .lit (.int .i64 0), .lit (.int .i64 0), .lit (.int .i64 0), .lit (.int .i64 0), .lit (.int .i64 0), .lit (.int .i64 0), .lit (.int .i64 0), .lit (.int .i64 39), .lit (.int .i64 24), .lit (.int .i64 0), .lit (.slice none 0 0), .lit (.int .i64 9), .lit (.int .i64 12), .lit (.int .i64 63), .lit (.int .i64 3)], .lit (.int .i64 37)], (.lit (.bool true))⟩
theorem k92 : e92.ok Tryz.prog := Go.Ag.tells_ok (C := cfg tab91) mix (Go.Ag.conTab_ok rfl t91) (n := 2000) (by kernel_rfl)
def tab92 : List Go.Ag.Known := e92 :: tab91
theorem t92 : ∀ e ∈ tab92, e.ok Tryz.prog := List.forall_mem_cons.2 ⟨k92, t91⟩
def e93 : Go.Ag.Known := ⟨57, [.agg [.lit (.int .i64 4), .lit (.int .i64 5), .lit (.int .i64 0), .lit (.int .i64 5), .lit (.int .i64 5), .lit (.int .i64 0), .lit (.int .i64 3), .lit (.int .i64 4), .lit (.int .i64 0), .lit (.int .i64 6), .lit (.int .i64 7), .lit (.int .i64 1), .lit (.int .i64 4), .lit (.int .i64 4), .lit (.int .i64 1), .lit (.int .i64 2), .lit (.int .i64 3), .lit (.int .i64 0), .lit (.int .i64 0), .lit (.int .i64 0), .lit (.int .i64 0), .lit (.int .i64 0), .lit (.int .i64 0), .lit (.int .i64 0), .lit (.int .i64 0), .lit (.int .i64 0), .lit (.int .i64 0), .lit (.int .i64 0), .lit (.int .i64 0), .lit (.int .i64 0), .lit (.int .i64 39), .lit (.int .i64 24), .lit (.int .i64 0), .lit (.slice none 0 0), .lit (.int .i64 9), .lit (.int .i64 12), .lit (.int .i64 63), .lit (.int .i64 3)], .lit (.int .i64 5)], (.lit (.int .i64 5))⟩
theorem k93 : e93.ok Tryz.prog := Go.Ag.tells_ok (C := cfg tab92) mix (Go.Ag.conTab_ok rfl t92) (n := 2000) (by kernel_rfl)
def tab93 : List Go.Ag.Known := e93 :: tab92
theorem t93 : ∀ e ∈ tab93, e.ok Tryz.prog := List.forall_mem_cons.2 ⟨k93, t92⟩
def e94 : Go.Ag.Known := ⟨17, [.agg [.sl [.lit (.int .i64 4), .lit (.int .i64 5), .lit (.int .i64 0), .lit (.int .i64 5), .lit (.int .i64 5), .lit (.int .i64 0), .lit (.int .i64 3), .lit (.int .i64 4), .lit (.int .i64 0), .lit (.int .i64 6), .lit (.int .i64 7), .lit (.int .i64 1), .lit (.int .i64 4), .lit (.int .i64 4), .lit (.int .i64 1), .lit (.int .i64 2), .lit (.int .i64 3), .lit (.int .i64 0)] 0 6, .lit (.int .i64 9), .lit (.int .i64 12), .lit (.int .i64 3), .lit (.slice none 0 0)], .lit (.int .i64 5)], (.tuple [.lit (.int .i64 5), .lit (.int .i64 0)])⟩
theorem k94 : e94.ok Tryz.prog := Go.Ag.tells_ok (C := cfg tab93) mix (Go.Ag.conTab_ok rfl t93) (n := 2000) (by kernel_rfl)
def tab94 : List Go.Ag.Known := e94 :: tab93
theorem t94 : ∀ e ∈ tab94, e.ok Tryz.prog := List.forall_mem_cons.2 ⟨k94, t93⟩
def e95 : Go.Ag.Known := ⟨37, [.lit (.int .i64 8), .lit (.int .i64 9)], (.agg [.lit (.int .i64 8), .lit (.int .i64 9)])⟩
theorem k95 : e95.ok Tryz.prog := Go.Ag.tells_ok (C := cfg tab94) mix (Go.Ag.conTab_ok rfl t94) (n := 2000) (by kernel_rfl)
def tab95 : List Go.Ag.Known := e95 :: tab94
theorem t95 : ∀ e ∈ tab95, e.ok Tryz.prog := List.forall_mem_cons.2 ⟨k95, t94⟩
def e96 : Go.Ag.Known := ⟨38, [.lit (.int .i64 24), .lit (.int .i64 8), .lit (.int .i64 9)], (.agg [.lit (.int .i64 24), .lit (.int .i64 8), .lit (.int .i64 9)])⟩
theorem k96 : e96.ok Tryz.prog := Go.Ag.tells_ok (C := cfg tab95) mix (Go.Ag.conTab_ok rfl t95) (n := 2000) (by kernel_rfl)
def tab96 : List Go.Ag.Known := e96 :: tab95
theorem t96 : ∀ e ∈ tab96, e.ok Tryz.prog := List.forall_mem_cons.2 ⟨k96, t95⟩
def e97 : Go.Ag.Known := ⟨43, [.sl [.lit (.int .i64 24), .lit (.int .i64 8), .lit (.int .i64 9)] 0 1], (.agg [.sl [.lit (.int .i64 4), .lit (.int .i64 5), .lit (.int .i64 0), .lit (.int .i64 5), .lit (.int .i64 5), .lit (.int .i64 0), .lit (.int .i64 3), .lit (.int .i64 4), .lit (.int .i64 0), .lit (.int .i64 6), .lit (.int .i64 7), .lit (.int .i64 1), .lit (.int .i64 4), .lit (.int .i64 4), .lit (.int .i64 1), .lit (.int .i64 2), .lit (.int .i64 3), .lit (.int .i64 0)] 0 6, .lit (.int .i64 9), .lit (.int .i64 12), .lit (.int .i64 3), .sl [.lit (.int .i64 24), .lit (.int .i64 8), .lit (.int .i64 9)] 0 1])⟩
theorem k97 : e97.ok Tryz.prog := Go.Ag.tells_ok (C := cfg tab96) mix (Go.Ag.conTab_ok rfl t96) (n := 2000) (by kernel_rfl)
def tab97 : List Go.Ag.Known := e97 :: tab96
theorem t97 : ∀ e ∈ tab97, e.ok Tryz.prog := List.forall_mem_cons.2 ⟨k97, t96⟩
def e98 : Go.Ag.Known := ⟨97, [.lit (.int .i64 24), .lit (.int .i64 0), .lit (.int .i64 63)], (.lit (.bool true))⟩
theorem k98 : e98.ok Tryz.prog := Go.Ag.tells_ok (C := cfg tab97) mix (Go.Ag.conTab_ok rfl t97) (n := 2000) (by kernel_rfl)
def tab98 : List Go.Ag.Known := e98 :: tab97
theorem t98 : ∀ e ∈ tab98, e.ok Tryz.prog := List.forall_mem_cons.2 ⟨k98, t97⟩
def e99 : Go.Ag.Known := ⟨77, [.lit (.int .i64 24), .lit (.int .i64 6)], (.lit (.bool true))⟩
theorem k99 : e99.ok Tryz.prog := Go.Ag.tells_ok (C := cfg tab98) mix (Go.Ag.conTab_ok rfl t98) (n := 2000) (by kernel_rfl)
def tab99 : List Go.Ag.Known := e99 :: tab98
theorem t99 : ∀ e ∈ tab99, e.ok Tryz.prog := List.forall_mem_cons.2 ⟨k99, t98⟩
def e100 : Go.Ag.Known := ⟨96, [.agg [.lit (.int .i64 8), .lit (.int .i64 9)], .lit (.int .i64 200)], (.lit (.bool true))⟩
theorem k100 : e100.ok Tryz.prog := Go.Ag.tells_ok (C := cfg tab99) mix (Go.Ag.conTab_ok rfl t99) (n := 2000) (by kernel_rfl)
def tab100 : List Go.Ag.Known := e100 :: tab99
theorem t100 : ∀ e ∈ tab100, e.ok Tryz.prog := List.forall_mem_cons.2 ⟨k100, t99⟩
def e101 : Go.Ag.Known := ⟨60, [.agg [.sl [.lit (.int .i64 4), .lit (.int .i64 5), .lit (.int .i64 0), .lit (.int .i64 5), .lit (.int .i64 5), .lit (.int .i64 0), .lit (.int .i64 3), .lit (.int .i64 4), .lit (.int .i64 0), .lit (.int .i64 6), .lit (.int .i64 7), .lit (.int .i64 1), .lit (.int .i64 4), .lit (.int .i64 4), .lit (.int .i64 1), .lit (.int .i64 2), .lit (.int .i64 3), .lit (.int .i64 0)] 0 6, .lit (.int .i64 9), .lit (.int .i64 12), .lit (.int .i64 3), .sl [.lit (.int .i64 24), .lit (.int .i64 8), .lit (.int .i64 9)] 0 1]], (.lit (.bool true))⟩
theorem k101 : e101.ok Tryz.prog := Go.Ag.tells_ok (C := cfg tab100) mix (Go.Ag.conTab_ok rfl t100) (n := 2000) (by kernel_rfl)
def tab101 : List Go.Ag.Known := e101 :: tab100
theorem t101 : ∀ e ∈ tab101, e.ok Tryz.prog := List.forall_mem_cons.2 ⟨k101, t100⟩
def e102 : Go.Ag.Known := ⟨61, [.agg [.sl [.lit (.int .i64 4), .lit (.int .i64 5), .lit (.int .i64 0), .lit (.int .i64 5), .lit (.int .i64 5), .lit (.int .i64 0), .lit (.int .i64 3), .lit (.int .i64 4), .lit (.int .i64 0), .lit (.int .i64 6), .lit (.int .i64 7), .lit (.int .i64 1), .lit (.int .i64 4), .lit (.int .i64 4), .lit (.int .i64 1), .lit (.int .i64 2), .lit (.int .i64 3), .lit (.int .i64 0)] 0 6, .lit (.int .i64 9), .lit (.int .i64 12), .lit (.int .i64 3), .sl [.lit (.int .i64 24), .lit (.int .i64 8), .lit (.int .i64 9)] 0 1]], (.agg [.lit (.int .i64 4), .lit (.int .i64 5), .lit (.int .i64 0), .lit (.int .i64 5), .lit (.int .i64 5), .lit (.int .i64 0), .lit (.int .i64 3), .lit (.int .i64 4), .lit (.int .i64 0), .lit (.int .i64 6), .lit (.int .i64 7), .lit (.int .i64 1), .lit (.int .i64 4), .lit (.int .i64 4), .lit (.int .i64 1), .lit (.int .i64 2), .lit (.int .i64 3), .lit (.int .i64 0), .lit (.int .i64 0), .lit (.int .i64 0), .lit (.int .i64 0), .lit (.int .i64 0), .lit (.int .i64 0), .lit (.int .i64 0), .lit (.int .i64 0), .lit (.int .i64 0), .lit (.int .i64 0), .lit (.int .i64 0), .lit (.int .i64 0), .lit (.int .i64 0), .lit (.int .i64 39), .lit (.int .i64 24), .lit (.int .i64 0), .sl [.lit (.int .i64 24), .lit (.int .i64 8), .lit (.int .i64 9)] 0 1, .lit (.int .i64 9), .lit (.int .i64 12), .lit (.int .i64 63), .lit (.int .i64 3)])⟩
theorem k102 : e102.ok Tryz.prog := Go.Ag.tells_ok (C := cfg tab101) mix (Go.Ag.conTab_ok rfl t101) (n := 2000) (by kernel_rfl)
def tab102 : List Go.Ag.Known := e102 :: tab101
theorem t102 : ∀ e ∈ tab102, e.ok Tryz.prog := List.forall_mem_cons.2 ⟨k102, t101⟩
def e103 : Go.Ag.Known := ⟨83, [.agg [.lit (.int .i64 4), .lit (.int .i64 5), .lit (.int .i64 0), .lit (.int .i64 5), .lit (.int .i64 5), .lit (.int .i64 0), .lit (.int .i64 3), .lit (.int .i64 4), .lit (.int .i64 0), .lit (.int .i64 6), .lit (.int .i64 7), .lit (.int .i64 1), .lit (.int .i64 4), .lit (.int .i64 4), .lit (.int .i64 1), .lit (.int .i64 2), .lit (.int .i64 3), .lit (.int .i64 0), .lit (.int .i64 0), .lit (.int .i64 0), .lit (.int .i64 0), .lit (.int .i64 0), .lit (.int .i64 0), .lit (.int .i64 0), .lit (.int .i64 0), .lit (.int .i64 0), .lit (.int .i64 0), .lit (.int .i64 0), .lit (.int .i64 0), .lit (.int .i64 0), .lit (.int .i64 39), .lit (.int .i64 24), .lit (.int .i64 0), .sl [.lit (.int .i64 24), .lit (.int .i64 8), .lit (.int .i64 9)] 0 1, .lit (.int .i64 9), .lit (.int .i64 12), .lit (.int .i64 63), .lit (.int .i64 3)], .lit (.int .i64 0)], (.agg [.lit (.int .i64 0), .lit (.int .i64 0)])⟩
theorem k103 : e103.ok Tryz.prog := Go.Ag.tells_ok (C := cfg tab102) mix (Go.Ag.conTab_ok rfl t102) (n := 2000) (by kernel_rfl)
def tab103 : List Go.Ag.Known := e103 :: tab102
theorem t103 : ∀ e ∈ tab103, e.ok Tryz.prog := List.forall_mem_cons.2 ⟨k103, t102⟩
def e104 : Go.Ag.Known := ⟨82, [.sl [.lit (.int .i64 6), .lit (.int .i64 7), .lit (.int .i64 4), .lit (.int .i64 4)] 0 2], (.agg [.lit (.int .i64 10), .lit (.int .i64 11)])⟩
theorem k104 : e104.ok Tryz.prog := Go.Ag.tells_ok (C := cfg tab103) mix (Go.Ag.conTab_ok rfl t103) (n := 2000) (by kernel_rfl)
def tab104 : List Go.Ag.Known := e104 :: tab103
theorem t104 : ∀ e ∈ tab104, e.ok Tryz.prog := List.forall_mem_cons.2 ⟨k104, t103⟩
def e105 : Go.Ag.Known := ⟨83, [.agg [.lit (.int .i64 4), .lit (.int .i64 5), .lit (.int .i64 0), .lit (.int .i64 5), .lit (.int .i64 5), .lit (.int .i64 0), .lit (.int .i64 3), .lit (.int .i64 4), .lit (.int .i64 0), .lit (.int .i64 6), .lit (.int .i64 7), .lit (.int .i64 1), .lit (.int .i64 4), .lit (.int .i64 4), .lit (.int .i64 1), .lit (.int .i64 2), .lit (.int .i64 3), .lit (.int .i64 0), .lit (.int .i64 0), .lit (.int .i64 0), .lit (.int .i64 0), .lit (.int .i64 0), .lit (.int .i64 0), .lit (.int .i64 0), .lit (.int .i64 0), .lit (.int .i64 0), .lit (.int .i64 0), .lit (.int .i64 0), .lit (.int .i64 0), .lit (.int .i64 0), .lit (.int .i64 39), .lit (.int .i64 24), .lit (.int .i64 0), .sl [.lit (.int .i64 24), .lit (.int .i64 8), .lit (.int .i64 9)] 0 1, .lit (.int .i64 9), .lit (.int .i64 12), .lit (.int .i64 63), .lit (.int .i64 3)], .lit (.int .i64 24)], (.agg [.lit (.int .i64 10), .lit (.int .i64 11)])⟩
theorem k105 : e105.ok Tryz.prog := Go.Ag.tells_ok (C := cfg tab104) mix (Go.Ag.conTab_ok rfl t104) (n := 2000) (by kernel_rfl)
def tab105 : List Go.Ag.Known := e105 :: tab104
theorem t105 : ∀ e ∈ tab105, e.ok Tryz.prog := List.forall_mem_cons.2 ⟨k105, t104⟩
def e106 : Go.Ag.Known := ⟨117, [.agg [.lit (.int .i64 8), .lit (.int .i64 9)], .agg [.lit (.int .i64 0), .lit (.int .i64 0)]], (.agg [.lit (.int .i64 8), .lit (.int .i64 9)])⟩
theorem k106 : e106.ok Tryz.prog := Go.Ag.tells_ok (C := cfg tab105) mix (Go.Ag.conTab_ok rfl t105) (n := 2000) (by kernel_rfl)
def tab106 : List Go.Ag.Known := e106 :: tab105
theorem t106 : ∀ e ∈ tab106, e.ok Tryz.prog := List.forall_mem_cons.2 ⟨k106, t105⟩
def e107 : Go.Ag.Known := ⟨116, [.agg [.lit (.int .i64 10), .lit (.int .i64 11)], .agg [.lit (.int .i64 8), .lit (.int .i64 9)]], (.agg [.lit (.int .i64 10), .lit (.int .i64 9)])⟩
theorem k107 : e107.ok Tryz.prog := Go.Ag.tells_ok (C := cfg tab106) mix (Go.Ag.conTab_ok rfl t106) (n := 2000) (by kernel_rfl)
def tab107 : List Go.Ag.Known := e107 :: tab106
theorem t107 : ∀ e ∈ tab107, e.ok Tryz.prog := List.forall_mem_cons.2 ⟨k107, t106⟩
def e108 : Go.Ag.Known := ⟨81, [.agg [.lit (.int .i64 4), .lit (.int .i64 5), .lit (.int .i64 0), .lit (.int .i64 5), .lit (.int .i64 5), .lit (.int .i64 0), .lit (.int .i64 3), .lit (.int .i64 4), .lit (.int .i64 0), .lit (.int .i64 6), .lit (.int .i64 7), .lit (.int .i64 1), .lit (.int .i64 4), .lit (.int .i64 4), .lit (.int .i64 1), .lit (.int .i64 2), .lit (.int .i64 3), .lit (.int .i64 0), .lit (.int .i64 0), .lit (.int .i64 0), .lit (.int .i64 0), .lit (.int .i64 0), .lit (.int .i64 0), .lit (.int .i64 0), .lit (.int .i64 0), .lit (.int .i64 0), .lit (.int .i64 0), .lit (.int .i64 0), .lit (.int .i64 0), .lit (.int .i64 0), .lit (.int .i64 39), .lit (.int .i64 24), .lit (.int .i64 0), .sl [.lit (.int .i64 24), .lit (.int .i64 8), .lit (.int .i64 9)] 0 1, .lit (.int .i64 9), .lit (.int .i64 12), .lit (.int .i64 63), .lit (.int .i64 3)], .agg [.lit (.int .i64 24), .lit (.int .i64 8), .lit (.int .i64 9)], .lit (.int .i64 24)], (.agg [.lit (.int .i64 10), .lit (.int .i64 9)])⟩
theorem k108 : e108.ok Tryz.prog := Go.Ag.tells_ok (C := cfg tab107) mix (Go.Ag.conTab_ok rfl t107) (n := 2000) (by kernel_rfl)
def tab108 : List Go.Ag.Known := e108 :: tab107
theorem t108 : ∀ e ∈ tab108, e.ok Tryz.prog := List.forall_mem_cons.2 ⟨k108, t107⟩
def e109 : Go.Ag.Known := ⟨99, [.agg [.lit (.int .i64 4), .lit (.int .i64 5), .lit (.int .i64 0), .lit (.int .i64 5), .lit (.int .i64 5), .lit (.int .i64 0), .lit (.int .i64 3), .lit (.int .i64 4), .lit (.int .i64 0), .lit (.int .i64 6), .lit (.int .i64 7), .lit (.int .i64 1), .lit (.int .i64 4), .lit (.int .i64 4), .lit (.int .i64 1), .lit (.int .i64 2), .lit (.int .i64 3), .lit (.int .i64 0), .lit (.int .i64 0), .lit (.int .i64 0), .lit (.int .i64 0), .lit (.int .i64 0), .lit (.int .i64 0), .lit (.int .i64 0), .lit (.int .i64 0), .lit (.int .i64 0), .lit (.int .i64 0), .lit (.int .i64 0), .lit (.int .i64 0), .lit (.int .i64 0), .lit (.int .i64 39), .lit (.int .i64 24), .lit (.int .i64 0), .sl [.lit (.int .i64 24), .lit (.int .i64 8), .lit (.int .i64 9)] 0 1, .lit (.int .i64 9), .lit (.int .i64 12), .lit (.int .i64 63), .lit (.int .i64 3)]], (.sl [.lit (.int .i64 10), .lit (.int .i64 9)] 0 1)⟩
theorem k109 : e109.ok Tryz.prog := Go.Ag.tells_ok (C := cfg tab108) mix (Go.Ag.conTab_ok rfl t108) (n := 2000) (by kernel_rfl)
def tab109 : List Go.Ag.Known := e109 :: tab108
theorem t109 : ∀ e ∈ tab109, e.ok Tryz.prog := List.forall_mem_cons.2 ⟨k109, t108⟩
def e110 : Go.Ag.Known := ⟨62, [.agg [.lit (.int .i64 4), .lit (.int .i64 5), .lit (.int .i64 0), .lit (.int .i64 5), .lit (.int .i64 5), .lit (.int .i64 0), .lit (.int .i64 3), .lit (.int .i64 4), .lit (.int .i64 0), .lit (.int .i64 6), .lit (.int .i64 7), .lit (.int .i64 1), .lit (.int .i64 4), .lit (.int .i64 4), .lit (.int .i64 1), .lit (.int .i64 2), .lit (.int .i64 3), .lit (.int .i64 0), .lit (.int .i64 0), .lit (.int .i64 0), .lit (.int .i64 0), .lit (.int .i64 0), .lit (.int .i64 0), .lit (.int .i64 0), .lit (.int .i64 0), .lit (.int .i64 0), .lit (.int .i64 0), .lit (.int .i64 0), .lit (.int .i64 0), .lit (.int .i64 0), .lit (.int .i64 39), .lit (.int .i64 24), .lit (.int .i64 0), .sl [.lit (.int .i64 24), .lit (.int .i64 8), .lit (.int .i64 9)] 0 1, .lit (.int .i64 9), .lit (.int .i64 12), .lit (.int .i64 63), .lit (.int .i64 3)]], (.lit (.int .i64 1))⟩
theorem k110 : e110.ok Tryz.prog := Go.Ag.tells_ok (C := cfg tab109) mix (Go.Ag.conTab_ok rfl t109) (n := 2000) (by kernel_rfl)
def tab110 : List Go.Ag.Known := e110 :: tab109
theorem t110 : ∀ e ∈ tab110, e.ok Tryz.prog := List.forall_mem_cons.2 ⟨k110, t109⟩
def e111 : Go.Ag.Known := ⟨19, [.agg [.sl [.lit (.int .i64 4), .lit (.int .i64 5), .lit (.int .i64 0), .lit (.int .i64 5), .lit (.int .i64 5), .lit (.int .i64 0), .lit (.int .i64 3), .lit (.int .i64 4), .lit (.int .i64 0), .lit (.int .i64 6), .lit (.int .i64 7), .lit (.int .i64 1), .lit (.int .i64 4), .lit (.int .i64 4), .lit (.int .i64 1), .lit (.int .i64 2), .lit (.int .i64 3), .lit (.int .i64 0)] 0 6, .lit (.int .i64 9), .lit (.int .i64 12), .lit (.int .i64 3), .sl [.lit (.int .i64 24), .lit (.int .i64 8), .lit (.int .i64 9)] 0 1]], (.tuple [.lit (.int .i64 1), .lit (.int .i64 0)])⟩
theorem k111 : e111.ok Tryz.prog := Go.Ag.tells_ok (C := cfg tab110) mix (Go.Ag.conTab_ok rfl t110) (n := 2000) (by kernel_rfl)
def tab111 : List Go.Ag.Known := e111 :: tab110
theorem t111 : ∀ e ∈ tab111, e.ok Tryz.prog := List.forall_mem_cons.2 ⟨k111, t110⟩
def e112 : Go.Ag.Known := ⟨97, [.lit (.int .i64 38), .lit (.int .i64 0), .lit (.int .i64 63)], (.lit (.bool true))⟩
theorem k112 : e112.ok Tryz.prog := Go.Ag.tells_ok (C := cfg tab111) mix (Go.Ag.conTab_ok rfl t111) (n := 2000) (by kernel_rfl)
def tab112 : List Go.Ag.Known := e112 :: tab111
theorem t112 : ∀ e ∈ tab112, e.ok Tryz.prog := List.forall_mem_cons.2 ⟨k112, t111⟩
def e113 : Go.Ag.Known := ⟨77, [.lit (.int .i64 38), .lit (.int .i64 6)], (.lit (.bool true))⟩
theorem k113 : e113.ok Tryz.prog := Go.Ag.tells_ok (C := cfg tab112) mix (Go.Ag.conTab_ok rfl t112) (n := 2000) (by kernel_rfl)
def tab113 : List Go.Ag.Known := e113 :: tab112
theorem t113 : ∀ e ∈ tab113, e.ok Tryz.prog := List.forall_mem_cons.2 ⟨k113, t112⟩
def e114 : Go.Ag.Known := ⟨135, [.lit (.int .u64 (25))], (.lit (.int .i64 0))⟩
theorem k114 : e114.ok Tryz.prog := Go.Ag.tells_ok (C := cfg tab113) mix (Go.Ag.conTab_ok rfl t113) (n := 2000) (by kernel_rfl)
def tab114 : List Go.Ag.Known := e114 :: tab113
theorem t114 : ∀ e ∈ tab114, e.ok Tryz.prog := List.forall_mem_cons.2 ⟨k114, t113⟩
def e115 : Go.Ag.Known := ⟨123, [.lit (.int .u64 (25))], (.lit (.int .i64 0))⟩
theorem k115 : e115.ok Tryz.prog := Go.Ag.tells_ok (C := cfg tab114) mix (Go.Ag.conTab_ok rfl t114) (n := 2000) (by kernel_rfl)
def tab115 : List Go.Ag.Known := e115 :: tab114
theorem t115 : ∀ e ∈ tab115, e.ok Tryz.prog := List.forall_mem_cons.2 ⟨k115, t114⟩
def e116 : Go.Ag.Known := ⟨83, [.agg [.lit (.int .i64 4), .lit (.int .i64 5), .lit (.int .i64 0), .lit (.int .i64 5), .lit (.int .i64 5), .lit (.int .i64 0), .lit (.int .i64 3), .lit (.int .i64 4), .lit (.int .i64 0), .lit (.int .i64 6), .lit (.int .i64 7), .lit (.int .i64 1), .lit (.int .i64 4), .lit (.int .i64 4), .lit (.int .i64 1), .lit (.int .i64 2), .lit (.int .i64 3), .lit (.int .i64 0), .lit (.int .i64 0), .lit (.int .i64 0), .lit (.int .i64 0), .lit (.int .i64 0), .lit (.int .i64 0), .lit (.int .i64 0), .lit (.int .i64 0), .lit (.int .i64 0), .lit (.int .i64 0), .lit (.int .i64 0), .lit (.int .i64 0), .lit (.int .i64 0), .lit (.int .i64 39), .lit (.int .i64 24), .lit (.int .i64 0), .lit (.slice none 0 0), .lit (.int .i64 9), .lit (.int .i64 12), .lit (.int .i64 63), .lit (.int .i64 3)], .lit (.int .i64 39)], (.agg [.lit (.int .i64 14), .lit (.int .i64 17)])⟩
theorem k116 : e116.ok Tryz.prog := Go.Ag.tells_ok (C := cfg tab115) mix (Go.Ag.conTab_ok rfl t115) (n := 2000) (by kernel_rfl)
def tab116 : List Go.Ag.Known := e116 :: tab115
theorem t116 : ∀ e ∈ tab116, e.ok Tryz.prog := List.forall_mem_cons.2 ⟨k116, t115⟩
def e117 : Go.Ag.Known := ⟨82, [.sl [.lit (.int .i64 14), .lit (.int .i64 17)] 0 1], (.agg [.lit (.int .i64 14), .lit (.int .i64 17)])⟩
theorem k117 : e117.ok Tryz.prog := Go.Ag.tells_ok (C := cfg tab116) mix (Go.Ag.conTab_ok rfl t116) (n := 2000) (by kernel_rfl)
def tab117 : List Go.Ag.Known := e117 :: tab116
theorem t117 : ∀ e ∈ tab117, e.ok Tryz.prog := List.forall_mem_cons.2 ⟨k117, t116⟩
def e118 : Go.Ag.Known := ⟨46, [.agg [.lit (.int .i64 4), .lit (.int .i64 5), .lit (.int .i64 0), .lit (.int .i64 5), .lit (.int .i64 5), .lit (.int .i64 0), .lit (.int .i64 3), .lit (.int .i64 4), .lit (.int .i64 0), .lit (.int .i64 6), .lit (.int .i64 7), .lit (.int .i64 1), .lit (.int .i64 4), .lit (.int .i64 4), .lit (.int .i64 1), .lit (.int .i64 2), .lit (.int .i64 3), .lit (.int .i64 0), .lit (.int .i64 0), .lit (.int .i64 0), .lit (.int .i64 0), .lit (.int .i64 0), .lit (.int .i64 0), .lit (.int .i64 0), .lit (.int .i64 0), .lit (.int .i64 0), .lit (.int .i64 0), .lit (.int .i64 0), .lit (.int .i64 0), .lit (.int .i64 0), .lit (.int .i64 39), .lit (.int .i64 24), .lit (.int .i64 0), .lit (.slice none 0 0), .lit (.int .i64 9), .lit (.int .i64 12), .lit (.int .i64 63), .lit (.int .i64 3)], .lit (.int .i64 39)], (.agg [.lit (.int .i64 14), .lit (.int .i64 17)])⟩
theorem k118 : e118.ok Tryz.prog := Go.Ag.tells_ok (C := cfg tab117) mix (Go.Ag.conTab_ok rfl t117) (n := 2000) (by kernel_rfl)
def tab118 : List Go.Ag.Known := e118 :: tab117
theorem t118 : ∀ e ∈ tab118, e.ok Tryz.prog := List.forall_mem_cons.2 ⟨k118, t117⟩
def e119 : Go.Ag.Known := ⟨88, [.lit (.int .i64 39), .sl [.iface 74 (.agg [.lit (.int .i64 39), .lit (.int .i64 24), .lit (.int .i64 0)]), .iface 123 (.agg [.lit (.int .i64 4), .lit (.int .i64 5), .lit (.int .i64 0), .lit (.int .i64 5), .lit (.int .i64 5), .lit (.int .i64 0), .lit (.int .i64 3), .lit (.int .i64 4), .lit (.int .i64 0), .lit (.int .i64 6), .lit (.int .i64 7), .lit (.int .i64 1), .lit (.int .i64 4), .lit (.int .i64 4), .lit (.int .i64 1), .lit (.int .i64 2), .lit (.int .i64 3), .lit (.int .i64 0), .lit (.int .i64 0), .lit (.int .i64 0), .lit (.int .i64 0), .lit (.int .i64 0), .lit (.int .i64 0), .lit (.int .i64 0), .lit (.int .i64 0), .lit (.int .i64 0), .lit (.int .i64 0), .lit (.int .i64 0), .lit (.int .i64 0), .lit (.int .i64 0), .lit (.int .i64 39), .lit (.int .i64 24), .lit (.int .i64 0), .lit (.slice none 0 0), .lit (.int .i64 9), .lit (.int .i64 12), .lit (.int .i64 63), .lit (.int .i64 3), .func (.func 89) [.agg [.lit (.int .i64 9), .lit (.int .i64 12)]] []])] 0 2], (.lit (.bool false))⟩
theorem k119 : e119.ok Tryz.prog := Go.Ag.tells_ok (C := cfg tab118) mix (Go.Ag.conTab_ok rfl t118) (n := 2000) (by kernel_rfl)
def tab119 : List Go.Ag.Known := e119 :: tab118
theorem t119 : ∀ e ∈ tab119, e.ok Tryz.prog := List.forall_mem_cons.2 ⟨k119, t118⟩
def e120 : Go.Ag.Known := ⟨53, [.agg [.lit (.int .i64 4), .lit (.int .i64 5), .lit (.int .i64 0), .lit (.int .i64 5), .lit (.int .i64 5), .lit (.int .i64 0), .lit (.int .i64 3), .lit (.int .i64 4), .lit (.int .i64 0), .lit (.int .i64 6), .lit (.int .i64 7), .lit (.int .i64 1), .lit (.int .i64 4), .lit (.int .i64 4), .lit (.int .i64 1), .lit (.int .i64 2), .lit (.int .i64 3), .lit (.int .i64 0), .lit (.int .i64 0), .lit (.int .i64 0), .lit (.int .i64 0), .lit (.int .i64 0), .lit (.int .i64 0), .lit (.int .i64 0), .lit (.int .i64 0), .lit (.int .i64 0), .lit (.int .i64 0), .lit (.int .i64 0), .lit (.int .i64 0), .lit (.int .i64 0), .lit (.int .i64 39), .lit (.int .i64 24), .lit (.int .i64 0), .lit (.slice none 0 0), .lit (.int .i64 9), .lit (.int .i64 12), .lit (.int .i64 63), .lit (.int .i64 3)], .lit (.int .i64 39)], (.lit (.bool false))⟩
theorem k120 : e120.ok Tryz.prog := Go.Ag.tells_ok (C := cfg tab119) mix (Go.Ag.conTab_ok rfl t119) (n := 2000) (by kernel_rfl)
def tab120 : List Go.Ag.Known := e120 :: tab119
theorem t120 : ∀ e ∈ tab120, e.ok Tryz.prog := List.forall_mem_cons.2 ⟨k120, t119⟩
def e121 : Go.Ag.Known := ⟨135, [.lit (.int .u64 (24))], (.lit (.int .i64 3))⟩
theorem k121 : e121.ok Tryz.prog := Go.Ag.tells_ok (C := cfg tab120) mix (Go.Ag.conTab_ok rfl t120) (n := 2000) (by kernel_rfl)
def tab121 : List Go.Ag.Known := e121 :: tab120
theorem t121 : ∀ e ∈ tab121, e.ok Tryz.prog := List.forall_mem_cons.2 ⟨k121, t120⟩
def e122 : Go.Ag.Known := ⟨123, [.lit (.int .u64 (24))], (.lit (.int .i64 3))⟩
theorem k122 : e122.ok Tryz.prog := Go.Ag.tells_ok (C := cfg tab121) mix (Go.Ag.conTab_ok rfl t121) (n := 2000) (by kernel_rfl)
def tab122 : List Go.Ag.Known := e122 :: tab121
theorem t122 : ∀ e ∈ tab122, e.ok Tryz.prog := List.forall_mem_cons.2 ⟨k122, t121⟩
def e123 : Go.Ag.Known := ⟨88, [.lit (.int .i64 46), .sl [.iface 74 (.agg [.lit (.int .i64 39), .lit (.int .i64 24), .lit (.int .i64 0)]), .iface 123 (.agg [.lit (.int .i64 4), .lit (.int .i64 5), .lit (.int .i64 0), .lit (.int .i64 5), .lit (.int .i64 5), .lit (.int .i64 0), .lit (.int .i64 3), .lit (.int .i64 4), .lit (.int .i64 0), .lit (.int .i64 6), .lit (.int .i64 7), .lit (.int .i64 1), .lit (.int .i64 4), .lit (.int .i64 4), .lit (.int .i64 1), .lit (.int .i64 2), .lit (.int .i64 3), .lit (.int .i64 0), .lit (.int .i64 0), .lit (.int .i64 0), .lit (.int .i64 0), .lit (.int .i64 0), .lit (.int .i64 0), .lit (.int .i64 0), .lit (.int .i64 0), .lit (.int .i64 0), .lit (.int .i64 0), .lit (.int .i64 0), .lit (.int .i64 0), .lit (.int .i64 0), .lit (.int .i64 39), .lit (.int .i64 24), .lit (.int .i64 0), .lit (.slice none 0 0), .lit (.int .i64 9), .lit (.int .i64 12), .lit (.int .i64 63), .lit (.int .i64 3), .func (.func 89) [.agg [.lit (.int .i64 9), .lit (.int .i64 12)]] []])] 0 2], (.lit (.bool false))⟩
theorem k123 : e123.ok Tryz.prog := Go.Ag.tells_ok (C := cfg tab122) mix (Go.Ag.conTab_ok rfl t122) (n := 2000) (by kernel_rfl)
def tab123 : List Go.Ag.Known := e123 :: tab122
theorem t123 : ∀ e ∈ tab123, e.ok Tryz.prog := List.forall_mem_cons.2 ⟨k123, t122⟩
def e124 : Go.Ag.Known := ⟨53, [.agg [.lit (.int .i64 4), .lit (.int .i64 5), .lit (.int .i64 0), .lit (.int .i64 5), .lit (.int .i64 5), .lit (.int .i64 0), .lit (.int .i64 3), .lit (.int .i64 4), .lit (.int .i64 0), .lit (.int .i64 6), .lit (.int .i64 7), .lit (.int .i64 1), .lit (.int .i64 4), .lit (.int .i64 4), .lit (.int .i64 1), .lit (.int .i64 2), .lit (.int .i64 3), .lit (.int .i64 0), .lit (.int .i64 0), .lit (.int .i64 0), .lit (.int .i64 0), .lit (.int .i64 0), .lit (.int .i64 0), .lit (.int .i64 0), .lit (.int .i64 0), .lit (.int .i64 0), .lit (.int .i64 0), .lit (.int .i64 0), .lit (.int .i64 0), .lit (.int .i64 0), .lit (.int .i64 39), .lit (.int .i64 24), .lit (.int .i64 0), .lit (.slice none 0 0), .lit (.int .i64 9), .lit (.int .i64 12), .lit (.int .i64 63), .lit (.int .i64 3)], .lit (.int .i64 46)], (.lit (.bool false))⟩
theorem k124 : e124.ok Tryz.prog := Go.Ag.tells_ok (C := cfg tab123) mix (Go.Ag.conTab_ok rfl t123) (n := 2000) (by kernel_rfl)
def tab124 : List Go.Ag.Known := e124 :: tab123
theorem t124 : ∀ e ∈ tab124, e.ok Tryz.prog := List.forall_mem_cons.2 ⟨k124, t123⟩
def e125 : Go.Ag.Known := ⟨135, [.lit (.int .u64 (16))], (.lit (.int .i64 4))⟩
theorem k125 : e125.ok Tryz.prog := Go.Ag.tells_ok (C := cfg tab124) mix (Go.Ag.conTab_ok rfl t124) (n := 2000) (by kernel_rfl)
def tab125 : List Go.Ag.Known := e125 :: tab124
theorem t125 : ∀ e ∈ tab125, e.ok Tryz.prog := List.forall_mem_cons.2 ⟨k125, t124⟩
def e126 : Go.Ag.Known := ⟨123, [.lit (.int .u64 (16))], (.lit (.int .i64 4))⟩
theorem k126 : e126.ok Tryz.prog := Go.Ag.tells_ok (C := cfg tab125) mix (Go.Ag.conTab_ok rfl t125) (n := 2000) (by kernel_rfl)
def tab126 : List Go.Ag.Known := e126 :: tab125
theorem t126 : ∀ e ∈ tab126, e.ok Tryz.prog := List.forall_mem_cons.2 ⟨k126, t125⟩
def e127 : Go.Ag.Known := ⟨88, [.lit (.int .i64 54), .sl [.iface 74 (.agg [.lit (.int .i64 39), .lit (.int .i64 24), .lit (.int .i64 0)]), .iface 123 (.agg [.lit (.int .i64 4), .lit (.int .i64 5), .lit (.int .i64 0), .lit (.int .i64 5), .lit (.int .i64 5), .lit (.int .i64 0), .lit (.int .i64 3), .lit (.int .i64 4), .lit (.int .i64 0), .lit (.int .i64 6), .lit (.int .i64 7), .lit (.int .i64 1), .lit (.int .i64 4), .lit (.int .i64 4), .lit (.int .i64 1), .lit (.int .i64 2), .lit (.int .i64 3), .lit (.int .i64 0), .lit (.int .i64 0), .lit (.int .i64 0), .lit (.int .i64 0), .lit (.int .i64 0), .lit (.int .i64 0), .lit (.int .i64 0), .lit (.int .i64 0), .lit (.int .i64 0), .lit (.int .i64 0), .lit (.int .i64 0), .lit (.int .i64 0), .lit (.int .i64 0), .lit (.int .i64 39), .lit (.int .i64 24), .lit (.int .i64 0), .lit (.slice none 0 0), .lit (.int .i64 9), .lit (.int .i64 12), .lit (.int .i64 63), .lit (.int .i64 3), .func (.func 89) [.agg [.lit (.int .i64 9), .lit (.int .i64 12)]] []])] 0 2], (.lit (.bool false))⟩
theorem k127 : e127.ok Tryz.prog := Go.Ag.tells_ok (C := cfg tab126) mix (Go.Ag.conTab_ok rfl t126) (n := 2000) (by kernel_rfl)
def tab127 : List Go.Ag.Known := e127 :: tab126
theorem t127 : ∀ e ∈ tab127, e.ok Tryz.prog := List.forall_mem_cons.2 ⟨k127, t126⟩
def e128 : Go.Ag.Known := ⟨53, [.agg [.lit (.int .i64 4), .lit (.int .i64 5), .lit (.int .i64 0), .lit (.int .i64 5), .lit (.int .i64 5), .lit (.int .i64 0), .lit (.int .i64 3), .lit (.int .i64 4), .lit (.int .i64 0), .lit (.int .i64 6), .lit (.int .i64 7), .lit (.int .i64 1), .lit (.int .i64 4), .lit (.int .i64 4), .lit (.int .i64 1), .lit (.int .i64 2), .lit (.int .i64 3), .lit (.int .i64 0), .lit (.int .i64 0), .lit (.int .i64 0), .lit (.int .i64 0), .lit (.int .i64 0), .lit (.int .i64 0), .lit (.int .i64 0), .lit (.int .i64 0), .lit (.int .i64 0), .lit (.int .i64 0), .lit (.int .i64 0), .lit (.int .i64 0), .lit (.int .i64 0), .lit (.int .i64 39), .lit (.int .i64 24), .lit (.int .i64 0), .lit (.slice none 0 0), .lit (.int .i64 9), .lit (.int .i64 12), .lit (.int .i64 63), .lit (.int .i64 3)], .lit (.int .i64 54)], (.lit (.bool false))⟩
theorem k128 : e128.ok Tryz.prog := Go.Ag.tells_ok (C := cfg tab127) mix (Go.Ag.conTab_ok rfl t127) (n := 2000) (by kernel_rfl)
def tab128 : List Go.Ag.Known := e128 :: tab127
theorem t128 : ∀ e ∈ tab128, e.ok Tryz.prog := List.forall_mem_cons.2 ⟨k128, t127⟩
def e129 : Go.Ag.Known := ⟨82, [.sl [.lit (.int .i64 4), .lit (.int .i64 5), .lit (.int .i64 5), .lit (.int .i64 5), .lit (.int .i64 3), .lit (.int .i64 4), .lit (.int .i64 2), .lit (.int .i64 3)] 0 4], (.agg [.lit (.int .i64 14), .lit (.int .i64 17)])⟩
theorem k129 : e129.ok Tryz.prog := Go.Ag.tells_ok (C := cfg tab128) mix (Go.Ag.conTab_ok rfl t128) (n := 2000) (by kernel_rfl)
def tab129 : List Go.Ag.Known := e129 :: tab128
theorem t129 : ∀ e ∈ tab129, e.ok Tryz.prog := List.forall_mem_cons.2 ⟨k129, t128⟩
def e130 : Go.Ag.Known := ⟨17, [.agg [.sl [.lit (.int .i64 4), .lit (.int .i64 5), .lit (.int .i64 0), .lit (.int .i64 5), .lit (.int .i64 5), .lit (.int .i64 0), .lit (.int .i64 3), .lit (.int .i64 4), .lit (.int .i64 0), .lit (.int .i64 6), .lit (.int .i64 7), .lit (.int .i64 1), .lit (.int .i64 4), .lit (.int .i64 4), .lit (.int .i64 1), .lit (.int .i64 2), .lit (.int .i64 3), .lit (.int .i64 0)] 0 6, .lit (.int .i64 9), .lit (.int .i64 12), .lit (.int .i64 3), .lit (.slice none 0 0)], .lit (.int .i64 38)], (.tuple [.lit (.int .i64 0), .lit (.int .i64 4)])⟩
theorem k130 : e130.ok Tryz.prog := Go.Ag.tells_ok (C := cfg tab129) mix (Go.Ag.conTab_ok rfl t129) (n := 2000) (by kernel_rfl)
def tab130 : List Go.Ag.Known := e130 :: tab129
theorem t130 : ∀ e ∈ tab130, e.ok Tryz.prog := List.forall_mem_cons.2 ⟨k130, t129⟩
def e131 : Go.Ag.Known := ⟨83, [.agg [.lit (.int .i64 4), .lit (.int .i64 5), .lit (.int .i64 0), .lit (.int .i64 5), .lit (.int .i64 5), .lit (.int .i64 0), .lit (.int .i64 3), .lit (.int .i64 4), .lit (.int .i64 0), .lit (.int .i64 6), .lit (.int .i64 7), .lit (.int .i64 1), .lit (.int .i64 4), .lit (.int .i64 4), .lit (.int .i64 1), .lit (.int .i64 2), .lit (.int .i64 3), .lit (.int .i64 0), .lit (.int .i64 0), .lit (.int .i64 0), .lit (.int .i64 0), .lit (.int .i64 0), .lit (.int .i64 0), .lit (.int .i64 0), .lit (.int .i64 0), .lit (.int .i64 0), .lit (.int .i64 0), .lit (.int .i64 0), .lit (.int .i64 0), .lit (.int .i64 0), .lit (.int .i64 39), .lit (.int .i64 24), .lit (.int .i64 0), .sl [.lit (.int .i64 7), .lit (.int .i64 14), .lit (.int .i64 14)] 0 1, .lit (.int .i64 9), .lit (.int .i64 12), .lit (.int .i64 63), .lit (.int .i64 3)], .lit (.int .i64 2)], (.agg [.lit (.int .i64 5), .lit (.int .i64 5)])⟩
theorem k131 : e131.ok Tryz.prog := Go.Ag.tells_ok (C := cfg tab130) mix (Go.Ag.conTab_ok rfl t130) (n := 2000) (by kernel_rfl)
def tab131 : List Go.Ag.Known := e131 :: tab130
theorem t131 : ∀ e ∈ tab131, e.ok Tryz.prog := List.forall_mem_cons.2 ⟨k131, t130⟩
def e132 : Go.Ag.Known := ⟨83, [.agg [.lit (.int .i64 4), .lit (.int .i64 5), .lit (.int .i64 0), .lit (.int .i64 5), .lit (.int .i64 5), .lit (.int .i64 0), .lit (.int .i64 3), .lit (.int .i64 4), .lit (.int .i64 0), .lit (.int .i64 6), .lit (.int .i64 7), .lit (.int .i64 1), .lit (.int .i64 4), .lit (.int .i64 4), .lit (.int .i64 1), .lit (.int .i64 2), .lit (.int .i64 3), .lit (.int .i64 0), .lit (.int .i64 0), .lit (.int .i64 0), .lit (.int .i64 0), .lit (.int .i64 0), .lit (.int .i64 0), .lit (.int .i64 0), .lit (.int .i64 0), .lit (.int .i64 0), .lit (.int .i64 0), .lit (.int .i64 0), .lit (.int .i64 0), .lit (.int .i64 0), .lit (.int .i64 39), .lit (.int .i64 24), .lit (.int .i64 0), .sl [.lit (.int .i64 7), .lit (.int .i64 14), .lit (.int .i64 14)] 0 1, .lit (.int .i64 9), .lit (.int .i64 12), .lit (.int .i64 63), .lit (.int .i64 3)], .lit (.int .i64 5)], (.agg [.lit (.int .i64 7), .lit (.int .i64 9)])⟩
theorem k132 : e132.ok Tryz.prog := Go.Ag.tells_ok (C := cfg tab131) mix (Go.Ag.conTab_ok rfl t131) (n := 2000) (by kernel_rfl)
def tab132 : List Go.Ag.Known := e132 :: tab131
theorem t132 : ∀ e ∈ tab132, e.ok Tryz.prog := List.forall_mem_cons.2 ⟨k132, t131⟩
def e133 : Go.Ag.Known := ⟨117, [.agg [.lit (.int .i64 14), .lit (.int .i64 14)], .agg [.lit (.int .i64 5), .lit (.int .i64 5)]], (.agg [.lit (.int .i64 9), .lit (.int .i64 9)])⟩
theorem k133 : e133.ok Tryz.prog := Go.Ag.tells_ok (C := cfg tab132) mix (Go.Ag.conTab_ok rfl t132) (n := 2000) (by kernel_rfl)
def tab133 : List Go.Ag.Known := e133 :: tab132
theorem t133 : ∀ e ∈ tab133, e.ok Tryz.prog := List.forall_mem_cons.2 ⟨k133, t132⟩
def e134 : Go.Ag.Known := ⟨116, [.agg [.lit (.int .i64 7), .lit (.int .i64 9)], .agg [.lit (.int .i64 9), .lit (.int .i64 9)]], (.agg [.lit (.int .i64 9), .lit (.int .i64 9)])⟩
theorem k134 : e134.ok Tryz.prog := Go.Ag.tells_ok (C := cfg tab133) mix (Go.Ag.conTab_ok rfl t133) (n := 2000) (by kernel_rfl)
def tab134 : List Go.Ag.Known := e134 :: tab133
theorem t134 : ∀ e ∈ tab134, e.ok Tryz.prog := List.forall_mem_cons.2 ⟨k134, t133⟩
def e135 : Go.Ag.Known := ⟨81, [.agg [.lit (.int .i64 4), .lit (.int .i64 5), .lit (.int .i64 0), .lit (.int .i64 5), .lit (.int .i64 5), .lit (.int .i64 0), .lit (.int .i64 3), .lit (.int .i64 4), .lit (.int .i64 0), .lit (.int .i64 6), .lit (.int .i64 7), .lit (.int .i64 1), .lit (.int .i64 4), .lit (.int .i64 4), .lit (.int .i64 1), .lit (.int .i64 2), .lit (.int .i64 3), .lit (.int .i64 0), .lit (.int .i64 0), .lit (.int .i64 0), .lit (.int .i64 0), .lit (.int .i64 0), .lit (.int .i64 0), .lit (.int .i64 0), .lit (.int .i64 0), .lit (.int .i64 0), .lit (.int .i64 0), .lit (.int .i64 0), .lit (.int .i64 0), .lit (.int .i64 0), .lit (.int .i64 39), .lit (.int .i64 24), .lit (.int .i64 0), .sl [.lit (.int .i64 7), .lit (.int .i64 14), .lit (.int .i64 14)] 0 1, .lit (.int .i64 9), .lit (.int .i64 12), .lit (.int .i64 63), .lit (.int .i64 3)], .agg [.lit (.int .i64 7), .lit (.int .i64 14), .lit (.int .i64 14)], .lit (.int .i64 5)], (.agg [.lit (.int .i64 9), .lit (.int .i64 9)])⟩
theorem k135 : e135.ok Tryz.prog := Go.Ag.tells_ok (C := cfg tab134) mix (Go.Ag.conTab_ok rfl t134) (n := 2000) (by kernel_rfl)
def tab135 : List Go.Ag.Known := e135 :: tab134
theorem t135 : ∀ e ∈ tab135, e.ok Tryz.prog := List.forall_mem_cons.2 ⟨k135, t134⟩
def e136 : Go.Ag.Known := ⟨82, [.sl [.lit (.int .i64 9), .lit (.int .i64 9), .lit (.int .i64 0), .lit (.int .i64 0)] 0 2], (.agg [.lit (.int .i64 9), .lit (.int .i64 9)])⟩
theorem k136 : e136.ok Tryz.prog := Go.Ag.tells_ok (C := cfg tab135) mix (Go.Ag.conTab_ok rfl t135) (n := 2000) (by kernel_rfl)
def tab136 : List Go.Ag.Known := e136 :: tab135
theorem t136 : ∀ e ∈ tab136, e.ok Tryz.prog := List.forall_mem_cons.2 ⟨k136, t135⟩
def e137 : Go.Ag.Known := ⟨46, [.agg [.lit (.int .i64 4), .lit (.int .i64 5), .lit (.int .i64 0), .lit (.int .i64 5), .lit (.int .i64 5), .lit (.int .i64 0), .lit (.int .i64 3), .lit (.int .i64 4), .lit (.int .i64 0), .lit (.int .i64 6), .lit (.int .i64 7), .lit (.int .i64 1), .lit (.int .i64 4), .lit (.int .i64 4), .lit (.int .i64 1), .lit (.int .i64 2), .lit (.int .i64 3), .lit (.int .i64 0), .lit (.int .i64 0), .lit (.int .i64 0), .lit (.int .i64 0), .lit (.int .i64 0), .lit (.int .i64 0), .lit (.int .i64 0), .lit (.int .i64 0), .lit (.int .i64 0), .lit (.int .i64 0), .lit (.int .i64 0), .lit (.int .i64 0), .lit (.int .i64 0), .lit (.int .i64 39), .lit (.int .i64 24), .lit (.int .i64 0), .sl [.lit (.int .i64 7), .lit (.int .i64 14), .lit (.int .i64 14)] 0 1, .lit (.int .i64 9), .lit (.int .i64 12), .lit (.int .i64 63), .lit (.int .i64 3)], .lit (.int .i64 5)], (.agg [.lit (.int .i64 9), .lit (.int .i64 9)])⟩
theorem k137 : e137.ok Tryz.prog := Go.Ag.tells_ok (C := cfg tab136) mix (Go.Ag.conTab_ok rfl t136) (n := 2000) (by kernel_rfl)
def tab137 : List Go.Ag.Known := e137 :: tab136
theorem t137 : ∀ e ∈ tab137, e.ok Tryz.prog := List.forall_mem_cons.2 ⟨k137, t136⟩
def e138 : Go.Ag.Known := ⟨88, [.lit (.int .i64 5), .sl [.iface 74 (.agg [.lit (.int .i64 39), .lit (.int .i64 24), .lit (.int .i64 0)]), .iface 123 (.agg [.lit (.int .i64 4), .lit (.int .i64 5), .lit (.int .i64 0), .lit (.int .i64 5), .lit (.int .i64 5), .lit (.int .i64 0), .lit (.int .i64 3), .lit (.int .i64 4), .lit (.int .i64 0), .lit (.int .i64 6), .lit (.int .i64 7), .lit (.int .i64 1), .lit (.int .i64 4), .lit (.int .i64 4), .lit (.int .i64 1), .lit (.int .i64 2), .lit (.int .i64 3), .lit (.int .i64 0), .lit (.int .i64 0), .lit (.int .i64 0), .lit (.int .i64 0), .lit (.int .i64 0), .lit (.int .i64 0), .lit (.int .i64 0), .lit (.int .i64 0), .lit (.int .i64 0), .lit (.int .i64 0), .lit (.int .i64 0), .lit (.int .i64 0), .lit (.int .i64 0), .lit (.int .i64 39), .lit (.int .i64 24), .lit (.int .i64 0), .sl [.lit (.int .i64 7), .lit (.int .i64 14), .lit (.int .i64 14)] 0 1, .lit (.int .i64 9), .lit (.int .i64 12), .lit (.int .i64 63), .lit (.int .i64 3), .func (.func 89) [.agg [.lit (.int .i64 9), .lit (.int .i64 12)]] []])] 0 2], (.lit (.bool true))⟩
theorem k138 : e138.ok Tryz.prog := Go.Ag.tells_ok (C := cfg tab137) mix (Go.Ag.conTab_ok rfl t137) (n := 2000) (by kernel_rfl)
def tab138 : List Go.Ag.Known := e138 :: tab137
theorem t138 : ∀ e ∈ tab138, e.ok Tryz.prog := List.forall_mem_cons.2 ⟨k138, t137⟩
def e139 : Go.Ag.Known := ⟨53, [.agg [.lit (.int .i64 4), .lit (.int .i64 5), .lit (.int .i64 0), .lit (.int .i64 5), .lit (.int .i64 5), .lit (.int .i64 0), .lit (.int .i64 3), .lit (.int .i64 4), .lit (.int .i64 0), .lit (.int .i64 6), .lit (.int .i64 7), .lit (.int .i64 1), .lit (.int .i64 4), .lit (.int .i64 4), .lit (.int .i64 1), .lit (.int .i64 2), .lit (.int .i64 3), .lit (.int .i64 0), .lit (.int .i64 0), .lit (.int .i64 0), .lit (.int .i64 0), .lit (.int .i64 0), .lit (.int .i64 0), .lit (.int .i64 0), .lit (.int .i64 0), .lit (.int .i64 0), .lit (.int .i64 0), .lit (.int .i64 0), .lit (.int .i64 0), .lit (.int .i64 0), .lit (.int .i64 39), .lit (.int .i64 24), .lit (.int .i64 0), .sl [.lit (.int .i64 7), .lit (.int .i64 14), .lit (.int .i64 14)] 0 1, .lit (.int .i64 9), .lit (.int .i64 12), .lit (.int .i64 63), .lit (.int .i64 3)], .lit (.int .i64 5)], (.lit (.bool true))⟩
theorem k139 : e139.ok Tryz.prog := Go.Ag.tells_ok (C := cfg tab138) mix (Go.Ag.conTab_ok rfl t138) (n := 2000) (by kernel_rfl)
def tab139 : List Go.Ag.Known := e139 :: tab138
theorem t139 : ∀ e ∈ tab139, e.ok Tryz.prog := List.forall_mem_cons.2 ⟨k139, t138⟩
def e140 : Go.Ag.Known := ⟨116, [.agg [.lit (.int .i64 9), .lit (.int .i64 12)], .agg [.lit (.int .i64 9), .lit (.int .i64 9)]], (.agg [.lit (.int .i64 9), .lit (.int .i64 9)])⟩
theorem k140 : e140.ok Tryz.prog := Go.Ag.tells_ok (C := cfg tab139) mix (Go.Ag.conTab_ok rfl t139) (n := 2000) (by kernel_rfl)
def tab140 : List Go.Ag.Known := e140 :: tab139
theorem t140 : ∀ e ∈ tab140, e.ok Tryz.prog := List.forall_mem_cons.2 ⟨k140, t139⟩
def e141 : Go.Ag.Known := ⟨88, [.lit (.int .i64 5), .sl [.iface 74 (.agg [.lit (.int .i64 39), .lit (.int .i64 24), .lit (.int .i64 0)]), .iface 123 (.agg [.lit (.int .i64 4), .lit (.int .i64 5), .lit (.int .i64 0), .lit (.int .i64 5), .lit (.int .i64 5), .lit (.int .i64 0), .lit (.int .i64 3), .lit (.int .i64 4), .lit (.int .i64 0), .lit (.int .i64 6), .lit (.int .i64 7), .lit (.int .i64 1), .lit (.int .i64 4), .lit (.int .i64 4), .lit (.int .i64 1), .lit (.int .i64 2), .lit (.int .i64 3), .lit (.int .i64 0), .lit (.int .i64 0), .lit (.int .i64 0), .lit (.int .i64 0), .lit (.int .i64 0), .lit (.int .i64 0), .lit (.int .i64 0), .lit (.int .i64 0), .lit (.int .i64 0), .lit (.int .i64 0), .lit (.int .i64 0), .lit (.int .i64 0), .lit (.int .i64 0), .lit (.int .i64 39), .lit (.int .i64 24), .lit (.int .i64 0), .sl [.lit (.int .i64 7), .lit (.int .i64 14), .lit (.int .i64 14)] 0 1, .lit (.int .i64 9), .lit (.int .i64 12), .lit (.int .i64 63), .lit (.int .i64 3), .func (.func 90) [.agg [.lit (.int .i64 9), .lit (.int .i64 12)]] []])] 0 2], (.lit (.bool true))⟩
theorem k141 : e141.ok Tryz.prog := Go.Ag.tells_ok (C := cfg tab140) mix (Go.Ag.conTab_ok rfl t140) (n := 2000) (by kernel_rfl)
def tab141 : List Go.Ag.Known := e141 :: tab140
theorem t141 : ∀ e ∈ tab141, e.ok Tryz.prog := List.forall_mem_cons.2 ⟨k141, t140⟩
def e142 : Go.Ag.Known := ⟨54, [.agg [.lit (.int .i64 4), .lit (.int .i64 5), .lit (.int .i64 0), .lit (.int .i64 5), .lit (.int .i64 5), .lit (.int .i64 0), .lit (.int .i64 3), .lit (.int .i64 4), .lit (.int .i64 0), .lit (.int .i64 6), .lit (.int .i64 7), .lit (.int .i64 1), .lit (.int .i64 4), .lit (.int .i64 4), .lit (.int .i64 1), .lit (.int .i64 2), .lit (.int .i64 3), .lit (.int .i64 0), .lit (.int .i64 0), .lit (.int .i64 0), .lit (.int .i64 0), .lit (.int .i64 0), .lit (.int .i64 0), .lit (.int .i64 0), .lit (.int .i64 0), .lit (.int .i64 0), .lit (.int .i64 0), .lit (.int .i64 0), .lit (.int .i64 0), .lit (.int .i64 0), .lit (.int .i64 39), .lit (.int .i64 24), .lit (.int .i64 0), .sl [.lit (.int .i64 7), .lit (.int .i64 14), .lit (.int .i64 14)] 0 1, .lit (.int .i64 9), .lit (.int .i64 12), .lit (.int .i64 63), .lit (.int .i64 3)], .lit (.int .i64 5)], (.lit (.bool true))⟩
theorem k142 : e142.ok Tryz.prog := Go.Ag.tells_ok (C := cfg tab141) mix (Go.Ag.conTab_ok rfl t141) (n := 2000) (by kernel_rfl)
def tab142 : List Go.Ag.Known := e142 :: tab141
theorem t142 : ∀ e ∈ tab142, e.ok Tryz.prog := List.forall_mem_cons.2 ⟨k142, t141⟩
def e143 : Go.Ag.Known := ⟨15, [.agg [.sl [.lit (.int .i64 4), .lit (.int .i64 5), .lit (.int .i64 0), .lit (.int .i64 5), .lit (.int .i64 5), .lit (.int .i64 0), .lit (.int .i64 3), .lit (.int .i64 4), .lit (.int .i64 0), .lit (.int .i64 6), .lit (.int .i64 7), .lit (.int .i64 1), .lit (.int .i64 4), .lit (.int .i64 4), .lit (.int .i64 1), .lit (.int .i64 2), .lit (.int .i64 3), .lit (.int .i64 0)] 0 6, .lit (.int .i64 9), .lit (.int .i64 12), .lit (.int .i64 3), .sl [.lit (.int .i64 7), .lit (.int .i64 14), .lit (.int .i64 14)] 0 1], .lit (.int .i64 5)], (.tuple [.lit (.int .i64 2), .lit (.int .i64 0)])⟩
theorem k143 : e143.ok Tryz.prog := Go.Ag.tells_ok (C := cfg tab142) mix (Go.Ag.conTab_ok rfl t142) (n := 2000) (by kernel_rfl)
def tab143 : List Go.Ag.Known := e143 :: tab142
theorem t143 : ∀ e ∈ tab143, e.ok Tryz.prog := List.forall_mem_cons.2 ⟨k143, t142⟩
def e144 : Go.Ag.Known := ⟨37, [.lit (.int .i64 10), .lit (.int .i64 10)], (.agg [.lit (.int .i64 10), .lit (.int .i64 10)])⟩
theorem k144 : e144.ok Tryz.prog := Go.Ag.tells_ok (C := cfg tab143) mix (Go.Ag.conTab_ok rfl t143) (n := 2000) (by kernel_rfl)
def tab144 : List Go.Ag.Known := e144 :: tab143
theorem t144 : ∀ e ∈ tab144, e.ok Tryz.prog := List.forall_mem_cons.2 ⟨k144, t143⟩
def e145 : Go.Ag.Known := ⟨27, [.sl [.lit (.int .i64 24), .lit (.int .i64 37)] 0 2, .sl [.lit (.int .i64 24), .lit (.int .i64 37)] 0 2], (.lit (.bool true))⟩
theorem k145 : e145.ok Tryz.prog := Go.Ag.tells_ok (C := cfg tab144) mix (Go.Ag.conTab_ok rfl t144) (n := 2000) (by kernel_rfl)
def tab145 : List Go.Ag.Known := e145 :: tab144
theorem t145 : ∀ e ∈ tab145, e.ok Tryz.prog := List.forall_mem_cons.2 ⟨k145, t144⟩
def e146 : Go.Ag.Known := ⟨12, [], (.lit (.bool true))⟩
theorem k146 : e146.ok Tryz.prog := Go.Ag.tells_ok (C := cfg tab145) mix (Go.Ag.conTab_ok rfl t145) (n := 2000) (by kernel_rfl)
def tab146 : List Go.Ag.Known := e146 :: tab145
theorem t146 : ∀ e ∈ tab146, e.ok Tryz.prog := List.forall_mem_cons.2 ⟨k146, t145⟩

theorem alive_ret : Ret Tryz.prog 12 [] (B true) := k146
end Awake
end Go.Ag
