/- Contracts of functions of layer 2: the laws are awake; arguments read as data. No conditions. -/
import Derived.Test.YthoappjepbaocaaDrC
import Derived.Deep.Slices
import Derived.Deep.Strs
import Derived.Laws.IdiomArrays
import Derived.WideShapes
import Derived.ChangeSame
import Derived.OpenShut
/- Layer 2: the laws are awake. -/
namespace Go.Ag
open Go.Proofs
set_option maxRecDepth 100000
namespace Awake
def fr2 (a b : Int) : Nat → Int := fun i => match i with | 0 => a | 1 => b | _ => 0
def mk2 (a b c e f g h i : Int) (l1 l2 l3 l4 : Int) : Dr := ⟨[⟨a, b, 2⟩, ⟨c, e, 0⟩], [⟨fr2 f g, l1, l2⟩, ⟨fr2 h i, l3, l4⟩], 1⟩
def vk2 (a b c e f g h i : Int) (l1 l2 l3 l4 : Int) : DV := ⟨[I a, I b, I 2, I c, I e, I 0], 0, 2, [I f, I g, I 0, I 0, I l1, I l2, I h, I i, I 0, I 0, I l3, I l4], 0, 2, 1⟩
theorem is2 (a b c e f g h i l1 l2 l3 l4 : Int) : (vk2 a b c e f g h i l1 l2 l3 l4).Is (mk2 a b c e f g h i l1 l2 l3 l4) := by
  refine ⟨⟨rfl, ?_⟩, ⟨rfl, ?_⟩, rfl, ⟨by show 2 ≤ 40; omega, by show 2 ≤ 40; omega⟩⟩
  · intro n r hr
    rcases n with _ | _ | n
    · cases hr; rfl
    · cases hr; rfl
    · simp [mk2] at hr
  · intro n r hr
    rcases n with _ | _ | n
    · cases hr; rfl
    · cases hr; rfl
    · simp [mk2] at hr
def inl : List Nat := [44, 48, 58, 59, 60, 61, 63, 64, 65, 66, 67, 68, 78, 79, 82, 83, 84, 86, 90, 91, 97, 98, 99, 100, 106, 107, 108]
noncomputable def cfg (es : List Go.Ag.Known) : Go.Ag.Cfg := { P := Try.prog, pure := fun f => !inl.contains f, con := Go.Ag.conTab es }
theorem mix : Try.prog.follows .mixedOrders = true := by kernel_rfl

def e0 : Go.Ag.Known := ⟨43, [], (.agg [.sl [.lit (.int .i64 2), .lit (.int .i64 5), .lit (.int .i64 2), .lit (.int .i64 0), .lit (.int .i64 3), .lit (.int .i64 0)] 0 2, .sl [.lit (.int .i64 3), .lit (.int .i64 1), .lit (.int .i64 0), .lit (.int .i64 0), .lit (.int .i64 1), .lit (.int .i64 2), .lit (.int .i64 2), .lit (.int .i64 4), .lit (.int .i64 0), .lit (.int .i64 0), .lit (.int .i64 5), .lit (.int .i64 6)] 0 2, .lit (.int .i64 1)])⟩
theorem k0 : e0.ok Try.prog := Go.Ag.tells_ok (C := cfg []) mix (Go.Ag.conTab_ok rfl (fun _ h => nomatch h)) (n := 2000) (by kernel_rfl)
def tab0 : List Go.Ag.Known := e0 :: []
theorem t0 : ∀ e ∈ tab0, e.ok Try.prog := List.forall_mem_cons.2 ⟨k0, (fun _ h => nomatch h)⟩
def e1 : Go.Ag.Known := ⟨14, [.agg [.sl [.lit (.int .i64 2), .lit (.int .i64 5), .lit (.int .i64 2), .lit (.int .i64 0), .lit (.int .i64 3), .lit (.int .i64 0)] 0 2, .sl [.lit (.int .i64 3), .lit (.int .i64 1), .lit (.int .i64 0), .lit (.int .i64 0), .lit (.int .i64 1), .lit (.int .i64 2), .lit (.int .i64 2), .lit (.int .i64 4), .lit (.int .i64 0), .lit (.int .i64 0), .lit (.int .i64 5), .lit (.int .i64 6)] 0 2, .lit (.int .i64 1)], .lit (.int .i64 0)], (.tuple [.agg [.lit (.int .i64 3), .lit (.int .i64 5)], .lit (.int .i64 0)])⟩
theorem r1 : mobR (mk2 2 5 0 3 3 1 2 4 1 2 5 6) 0 = ((3, 5), 0) := by kernel_rfl
theorem k1 : e1.ok Try.prog := by
  have h := mob_ret (is2 2 5 0 3 3 1 2 4 1 2 5 6) 0
  rw [r1] at h
  exact h
def tab1 : List Go.Ag.Known := e1 :: tab0
theorem t1 : ∀ e ∈ tab1, e.ok Try.prog := List.forall_mem_cons.2 ⟨k1, t0⟩
def e2 : Go.Ag.Known := ⟨16, [.agg [.sl [.lit (.int .i64 2), .lit (.int .i64 5), .lit (.int .i64 2), .lit (.int .i64 0), .lit (.int .i64 3), .lit (.int .i64 0)] 0 2, .sl [.lit (.int .i64 3), .lit (.int .i64 1), .lit (.int .i64 0), .lit (.int .i64 0), .lit (.int .i64 1), .lit (.int .i64 2), .lit (.int .i64 2), .lit (.int .i64 4), .lit (.int .i64 0), .lit (.int .i64 0), .lit (.int .i64 0), .lit (.int .i64 6)] 0 2, .lit (.int .i64 1)], .lit (.int .i64 1)], (.tuple [.agg [.lit (.int .i64 0), .lit (.int .i64 5)], .lit (.int .i64 0)])⟩
theorem r2 : penR (mk2 2 5 0 3 3 1 2 4 1 2 0 6) 1 = ((0, 5), 0) := by kernel_rfl
theorem k2 : e2.ok Try.prog := by
  have h := pen_ret (is2 2 5 0 3 3 1 2 4 1 2 0 6) 1
  rw [r2] at h
  exact h
def tab2 : List Go.Ag.Known := e2 :: tab1
theorem t2 : ∀ e ∈ tab2, e.ok Try.prog := List.forall_mem_cons.2 ⟨k2, t1⟩
def e3 : Go.Ag.Known := ⟨18, [.agg [.sl [.lit (.int .i64 2), .lit (.int .i64 5), .lit (.int .i64 2), .lit (.int .i64 0), .lit (.int .i64 3), .lit (.int .i64 0)] 0 2, .sl [.lit (.int .i64 3), .lit (.int .i64 1), .lit (.int .i64 0), .lit (.int .i64 0), .lit (.int .i64 1), .lit (.int .i64 2), .lit (.int .i64 2), .lit (.int .i64 4), .lit (.int .i64 0), .lit (.int .i64 0), .lit (.int .i64 0), .lit (.int .i64 6)] 0 2, .lit (.int .i64 1)], .lit (.int .i64 1), .lit (.int .i64 1)], (.tuple [.agg [.lit (.int .i64 0), .lit (.int .i64 3)], .lit (.int .i64 0)])⟩
theorem r3 : partR (mk2 2 5 0 3 3 1 2 4 1 2 0 6) 1 1 = ((0, 3), 0) := by kernel_rfl
theorem k3 : e3.ok Try.prog := by
  have h := part_ret (is2 2 5 0 3 3 1 2 4 1 2 0 6) 1 1
  rw [r3] at h
  exact h
def tab3 : List Go.Ag.Known := e3 :: tab2
theorem t3 : ∀ e ∈ tab3, e.ok Try.prog := List.forall_mem_cons.2 ⟨k3, t2⟩
def e4 : Go.Ag.Known := ⟨20, [.agg [.sl [.lit (.int .i64 2), .lit (.int .i64 5), .lit (.int .i64 2), .lit (.int .i64 0), .lit (.int .i64 3), .lit (.int .i64 0)] 0 2, .sl [.lit (.int .i64 3), .lit (.int .i64 1), .lit (.int .i64 0), .lit (.int .i64 0), .lit (.int .i64 1), .lit (.int .i64 2), .lit (.int .i64 2), .lit (.int .i64 4), .lit (.int .i64 0), .lit (.int .i64 0), .lit (.int .i64 0), .lit (.int .i64 6)] 0 2, .lit (.int .i64 1)], .lit (.int .i64 0)], (.tuple [.lit (.int .i64 1), .lit (.int .i64 0)])⟩
theorem r4 : dryR (mk2 2 5 0 3 3 1 2 4 1 2 0 6) 0 = (1, 0) := by kernel_rfl
theorem k4 : e4.ok Try.prog := by
  have h := dryOf_ret (is2 2 5 0 3 3 1 2 4 1 2 0 6) 0
  rw [r4] at h
  exact h
def tab4 : List Go.Ag.Known := e4 :: tab3
theorem t4 : ∀ e ∈ tab4, e.ok Try.prog := List.forall_mem_cons.2 ⟨k4, t3⟩
def e5 : Go.Ag.Known := ⟨22, [.agg [.sl [.lit (.int .i64 2), .lit (.int .i64 5), .lit (.int .i64 2), .lit (.int .i64 0), .lit (.int .i64 3), .lit (.int .i64 0)] 0 2, .sl [.lit (.int .i64 3), .lit (.int .i64 1), .lit (.int .i64 0), .lit (.int .i64 0), .lit (.int .i64 1), .lit (.int .i64 2), .lit (.int .i64 2), .lit (.int .i64 4), .lit (.int .i64 0), .lit (.int .i64 0), .lit (.int .i64 5), .lit (.int .i64 6)] 0 2, .lit (.int .i64 1)]], (.tuple [.lit (.int .i64 0), .lit (.int .i64 1), .lit (.int .i64 0)])⟩
theorem r5 : shearR (mk2 2 5 0 3 3 1 2 4 1 2 5 6)  = (0, 1, 0) := by kernel_rfl
theorem k5 : e5.ok Try.prog := by
  have h := shear_ret (is2 2 5 0 3 3 1 2 4 1 2 5 6) 
  rw [r5] at h
  exact h
def tab5 : List Go.Ag.Known := e5 :: tab4
theorem t5 : ∀ e ∈ tab5, e.ok Try.prog := List.forall_mem_cons.2 ⟨k5, t4⟩
def e6 : Go.Ag.Known := ⟨24, [.agg [.sl [.lit (.int .i64 2), .lit (.int .i64 5), .lit (.int .i64 2), .lit (.int .i64 0), .lit (.int .i64 3), .lit (.int .i64 0)] 0 2, .sl [.lit (.int .i64 3), .lit (.int .i64 1), .lit (.int .i64 0), .lit (.int .i64 0), .lit (.int .i64 1), .lit (.int .i64 2), .lit (.int .i64 2), .lit (.int .i64 4), .lit (.int .i64 0), .lit (.int .i64 0), .lit (.int .i64 0), .lit (.int .i64 6)] 0 2, .lit (.int .i64 1)]], (.tuple [.lit (.int .i64 0), .lit (.int .i64 0)])⟩
theorem r6 : sheepR (mk2 2 5 0 3 3 1 2 4 1 2 0 6)  = (0, 0) := by kernel_rfl
theorem k6 : e6.ok Try.prog := by
  have h := sheep_ret (is2 2 5 0 3 3 1 2 4 1 2 0 6) 
  rw [r6] at h
  exact h
def tab6 : List Go.Ag.Known := e6 :: tab5
theorem t6 : ∀ e ∈ tab6, e.ok Try.prog := List.forall_mem_cons.2 ⟨k6, t5⟩
def e7 : Go.Ag.Known := ⟨101, [.agg [.lit (.int .i64 2), .lit (.int .i64 2), .lit (.int .i64 0), .lit (.int .i64 0), .lit (.int .i64 0), .lit (.int .i64 5), .lit (.int .i64 3), .lit (.int .i64 0), .lit (.int .i64 0), .lit (.int .i64 2), .lit (.int .i64 0), .lit (.int .i64 0), .lit (.int .i64 0), .sl [.lit (.int .i64 3), .lit (.int .i64 1), .lit (.int .i64 0), .lit (.int .i64 0), .lit (.int .i64 1), .lit (.int .i64 2), .lit (.int .i64 2), .lit (.int .i64 4), .lit (.int .i64 0), .lit (.int .i64 0), .lit (.int .i64 0), .lit (.int .i64 6)] 0 2]], (.lit (.bool true))⟩
theorem k7 : e7.ok Try.prog := Go.Ag.tells_ok (C := cfg tab6) mix (Go.Ag.conTab_ok rfl t6) (n := 2000) (by kernel_rfl)
def tab7 : List Go.Ag.Known := e7 :: tab6
theorem t7 : ∀ e ∈ tab7, e.ok Try.prog := List.forall_mem_cons.2 ⟨k7, t6⟩
def e8 : Go.Ag.Known := ⟨26, [.agg [.sl [.lit (.int .i64 2), .lit (.int .i64 5), .lit (.int .i64 2), .lit (.int .i64 0), .lit (.int .i64 3), .lit (.int .i64 0)] 0 2, .sl [.lit (.int .i64 3), .lit (.int .i64 1), .lit (.int .i64 0), .lit (.int .i64 0), .lit (.int .i64 1), .lit (.int .i64 2), .lit (.int .i64 2), .lit (.int .i64 4), .lit (.int .i64 0), .lit (.int .i64 0), .lit (.int .i64 0), .lit (.int .i64 6)] 0 2, .lit (.int .i64 1)]], (.tuple [.agg [.lit (.int .i64 2), .lit (.int .i64 8)], .lit (.int .i64 0)])⟩
theorem k8 : e8.ok Try.prog := Go.Ag.tells_ok (C := cfg tab7) mix (Go.Ag.conTab_ok rfl t7) (n := 2000) (by kernel_rfl)
def tab8 : List Go.Ag.Known := e8 :: tab7
theorem t8 : ∀ e ∈ tab8, e.ok Try.prog := List.forall_mem_cons.2 ⟨k8, t7⟩
def e9 : Go.Ag.Known := ⟨45, [], (.agg [.sl [.lit (.int .i64 2), .lit (.int .i64 2), .lit (.int .i64 2), .lit (.int .i64 0), .lit (.int .i64 0), .lit (.int .i64 0)] 0 2, .sl [.lit (.int .i64 3), .lit (.int .i64 1), .lit (.int .i64 0), .lit (.int .i64 0), .lit (.int .i64 2), .lit (.int .i64 2), .lit (.int .i64 2), .lit (.int .i64 4), .lit (.int .i64 0), .lit (.int .i64 0), .lit (.int .i64 1), .lit (.int .i64 1)] 0 2, .lit (.int .i64 1)])⟩
theorem k9 : e9.ok Try.prog := Go.Ag.tells_ok (C := cfg tab8) mix (Go.Ag.conTab_ok rfl t8) (n := 2000) (by kernel_rfl)
def tab9 : List Go.Ag.Known := e9 :: tab8
theorem t9 : ∀ e ∈ tab9, e.ok Try.prog := List.forall_mem_cons.2 ⟨k9, t8⟩
def e10 : Go.Ag.Known := ⟨101, [.agg [.lit (.int .i64 2), .lit (.int .i64 2), .lit (.int .i64 0), .lit (.int .i64 0), .lit (.int .i64 0), .lit (.int .i64 2), .lit (.int .i64 0), .lit (.int .i64 0), .lit (.int .i64 0), .lit (.int .i64 2), .lit (.int .i64 0), .lit (.int .i64 0), .lit (.int .i64 0), .sl [.lit (.int .i64 3), .lit (.int .i64 1), .lit (.int .i64 0), .lit (.int .i64 0), .lit (.int .i64 0), .lit (.int .i64 4), .lit (.int .i64 2), .lit (.int .i64 4), .lit (.int .i64 0), .lit (.int .i64 0), .lit (.int .i64 0), .lit (.int .i64 6)] 0 2]], (.lit (.bool true))⟩
theorem k10 : e10.ok Try.prog := Go.Ag.tells_ok (C := cfg tab9) mix (Go.Ag.conTab_ok rfl t9) (n := 2000) (by kernel_rfl)
def tab10 : List Go.Ag.Known := e10 :: tab9
theorem t10 : ∀ e ∈ tab10, e.ok Try.prog := List.forall_mem_cons.2 ⟨k10, t9⟩
def e11 : Go.Ag.Known := ⟨101, [.agg [.lit (.int .i64 2), .lit (.int .i64 2), .lit (.int .i64 0), .lit (.int .i64 0), .lit (.int .i64 0), .lit (.int .i64 2), .lit (.int .i64 0), .lit (.int .i64 0), .lit (.int .i64 0), .lit (.int .i64 2), .lit (.int .i64 0), .lit (.int .i64 0), .lit (.int .i64 0), .sl [.lit (.int .i64 3), .lit (.int .i64 1), .lit (.int .i64 0), .lit (.int .i64 0), .lit (.int .i64 2), .lit (.int .i64 2), .lit (.int .i64 2), .lit (.int .i64 4), .lit (.int .i64 0), .lit (.int .i64 0), .lit (.int .i64 0), .lit (.int .i64 6)] 0 2]], (.lit (.bool true))⟩
theorem k11 : e11.ok Try.prog := Go.Ag.tells_ok (C := cfg tab10) mix (Go.Ag.conTab_ok rfl t10) (n := 2000) (by kernel_rfl)
def tab11 : List Go.Ag.Known := e11 :: tab10
theorem t11 : ∀ e ∈ tab11, e.ok Try.prog := List.forall_mem_cons.2 ⟨k11, t10⟩
def e12 : Go.Ag.Known := ⟨101, [.agg [.lit (.int .i64 2), .lit (.int .i64 2), .lit (.int .i64 0), .lit (.int .i64 0), .lit (.int .i64 0), .lit (.int .i64 2), .lit (.int .i64 0), .lit (.int .i64 0), .lit (.int .i64 0), .lit (.int .i64 2), .lit (.int .i64 0), .lit (.int .i64 0), .lit (.int .i64 0), .sl [.lit (.int .i64 3), .lit (.int .i64 1), .lit (.int .i64 0), .lit (.int .i64 0), .lit (.int .i64 0), .lit (.int .i64 4), .lit (.int .i64 2), .lit (.int .i64 4), .lit (.int .i64 0), .lit (.int .i64 0), .lit (.int .i64 1), .lit (.int .i64 1)] 0 2]], (.lit (.bool true))⟩
theorem k12 : e12.ok Try.prog := Go.Ag.tells_ok (C := cfg tab11) mix (Go.Ag.conTab_ok rfl t11) (n := 2000) (by kernel_rfl)
def tab12 : List Go.Ag.Known := e12 :: tab11
theorem t12 : ∀ e ∈ tab12, e.ok Try.prog := List.forall_mem_cons.2 ⟨k12, t11⟩
def e13 : Go.Ag.Known := ⟨101, [.agg [.lit (.int .i64 2), .lit (.int .i64 2), .lit (.int .i64 0), .lit (.int .i64 0), .lit (.int .i64 0), .lit (.int .i64 2), .lit (.int .i64 0), .lit (.int .i64 0), .lit (.int .i64 0), .lit (.int .i64 2), .lit (.int .i64 0), .lit (.int .i64 0), .lit (.int .i64 0), .sl [.lit (.int .i64 3), .lit (.int .i64 1), .lit (.int .i64 0), .lit (.int .i64 0), .lit (.int .i64 2), .lit (.int .i64 2), .lit (.int .i64 2), .lit (.int .i64 4), .lit (.int .i64 0), .lit (.int .i64 0), .lit (.int .i64 1), .lit (.int .i64 1)] 0 2]], (.lit (.bool false))⟩
theorem k13 : e13.ok Try.prog := Go.Ag.tells_ok (C := cfg tab12) mix (Go.Ag.conTab_ok rfl t12) (n := 2000) (by kernel_rfl)
def tab13 : List Go.Ag.Known := e13 :: tab12
theorem t13 : ∀ e ∈ tab13, e.ok Try.prog := List.forall_mem_cons.2 ⟨k13, t12⟩
def e14 : Go.Ag.Known := ⟨28, [.agg [.sl [.lit (.int .i64 2), .lit (.int .i64 2), .lit (.int .i64 2), .lit (.int .i64 0), .lit (.int .i64 0), .lit (.int .i64 0)] 0 2, .sl [.lit (.int .i64 3), .lit (.int .i64 1), .lit (.int .i64 0), .lit (.int .i64 0), .lit (.int .i64 2), .lit (.int .i64 2), .lit (.int .i64 2), .lit (.int .i64 4), .lit (.int .i64 0), .lit (.int .i64 0), .lit (.int .i64 1), .lit (.int .i64 1)] 0 2, .lit (.int .i64 1)]], (.tuple [.lit (.int .i64 3), .lit (.int .i64 0)])⟩
theorem k14 : e14.ok Try.prog := Go.Ag.tells_ok (C := cfg tab13) mix (Go.Ag.conTab_ok rfl t13) (n := 2000) (by kernel_rfl)
def tab14 : List Go.Ag.Known := e14 :: tab13
theorem t14 : ∀ e ∈ tab14, e.ok Try.prog := List.forall_mem_cons.2 ⟨k14, t13⟩
def e15 : Go.Ag.Known := ⟨14, [.agg [.sl [.lit (.int .i64 2), .lit (.int .i64 2), .lit (.int .i64 2), .lit (.int .i64 0), .lit (.int .i64 0), .lit (.int .i64 0)] 0 2, .sl [.lit (.int .i64 3), .lit (.int .i64 1), .lit (.int .i64 0), .lit (.int .i64 0), .lit (.int .i64 2), .lit (.int .i64 2), .lit (.int .i64 2), .lit (.int .i64 4), .lit (.int .i64 0), .lit (.int .i64 0), .lit (.int .i64 1), .lit (.int .i64 1)] 0 2, .lit (.int .i64 1)], .lit (.int .i64 0)], (.tuple [.agg [.lit (.int .i64 0), .lit (.int .i64 0)], .lit (.int .i64 10)])⟩
theorem r15 : mobR (mk2 2 2 0 0 3 1 2 4 2 2 1 1) 0 = ((0, 0), 10) := by kernel_rfl
theorem k15 : e15.ok Try.prog := by
  have h := mob_ret (is2 2 2 0 0 3 1 2 4 2 2 1 1) 0
  rw [r15] at h
  exact h
def tab15 : List Go.Ag.Known := e15 :: tab14
theorem t15 : ∀ e ∈ tab15, e.ok Try.prog := List.forall_mem_cons.2 ⟨k15, t14⟩
def e16 : Go.Ag.Known := ⟨13, [], (.lit (.bool true))⟩
theorem k16 : e16.ok Try.prog := Go.Ag.tells_ok (C := cfg tab15) mix (Go.Ag.conTab_ok rfl t15) (n := 2000) (by kernel_rfl)
def tab16 : List Go.Ag.Known := e16 :: tab15
theorem t16 : ∀ e ∈ tab16, e.ok Try.prog := List.forall_mem_cons.2 ⟨k16, t15⟩

theorem awake_ret : Ret Try.prog 13 [] (B true) := k16
end Awake
end Go.Ag
/- Layer 2: arguments read as data. -/
namespace Go.Ag
open Go.Proofs Go.ChangeShapes Go.WideShapes Go.Deep Go.RowKit Go.ChangeShapes
set_option maxRecDepth 100000

theorem cells3 : Try.prog.cellsOf 3 = 1 := by kernel_rfl
theorem cells29 : Try.prog.cellsOf 29 = 2 := by kernel_rfl
theorem cells51 : Try.prog.cellsOf 51 = 4 := by kernel_rfl
theorem cells53 : Try.prog.cellsOf 53 = 6 := by kernel_rfl
theorem cells56 : Try.prog.cellsOf 56 = 3 := by kernel_rfl
theorem cells22 : Try.prog.cellsOf 22 = 1 := by kernel_rfl
theorem cells23 : Try.prog.cellsOf 23 = 1 := by kernel_rfl
theorem cells25 : Try.prog.cellsOf 25 = 3 := by kernel_rfl

theorem repP_ints {Φ : Nat → Option Obj} : ∀ (zs : List Int) (vs : List Value), (∀ (i : Nat) (z : Int), zs[i]? = some z → vs[i]? = some (Value.int .i64 z)) → RepP Φ (zs.map I) vs
  | [], _, _ => trivial
  | z :: zs, [], h => by have := h 0 z rfl; simp at this
  | z :: zs, v :: vs, h => by
    have h0 := h 0 z rfl
    simp only [List.getElem?_cons_zero, Option.some.injEq] at h0
    exact ⟨h0, repP_ints zs vs fun i y hy => by have := h (i + 1) y (by simpa using hy); simpa using this⟩
theorem flat_get {sz : Nat} : ∀ (rows : List (List Int)) (_ : ∀ r ∈ rows, r.length = sz) (i : Nat) (z : Int), rows.flatten[i]? = some z → ∃ q r j, rows[q]? = some r ∧ r[j]? = some z ∧ i = q * sz + j
  | [], _, i, z, h => by simp at h
  | r :: rows, hr, i, z, h => by
    have hl := hr r (by simp)
    by_cases hi : i < r.length
    · refine ⟨0, r, i, rfl, ?_, by omega⟩
      rw [List.flatten_cons, List.getElem?_append_left hi] at h
      exact h
    · rw [List.flatten_cons, List.getElem?_append_right (by omega)] at h
      obtain ⟨q, r', j, h1, h2, h3⟩ := flat_get rows (fun r hr' => hr r (by simp [hr'])) _ z h
      refine ⟨q + 1, r', j, by simpa using h1, h2, ?_⟩
      rw [Nat.add_mul]; omega
theorem flat_sl {α : Type} {sz : Nat} : ∀ (rows : List (List α)) (_ : ∀ r ∈ rows, r.length = sz) (i : Nat) (r : List α), rows[i]? = some r → sliceOf rows.flatten (i * sz) sz = some r
  | [], _, i, r, h => by simp at h
  | a :: rows, hr, 0, r, h => by
    simp only [List.getElem?_cons_zero, Option.some.injEq] at h
    subst h
    have hl := hr a (by simp)
    simp [sliceOf, ← hl]
  | a :: rows, hr, i + 1, r, h => by
    have hl := hr a (by simp)
    have ih := flat_sl rows (fun r hr' => hr r (by simp [hr'])) i r (by simpa using h)
    have e2 : (i + 1) * sz = a.length + i * sz := by rw [Nat.add_mul, hl]; omega
    simp only [sliceOf, List.flatten_cons, e2, ← List.drop_drop, List.drop_left] at ih ⊢
    exact ih

section
variable {H : Type} {enc : TypeId × Value → H} {w : World} {base : Nat} {spare : Nat → Bool} {held : Bool}

theorem one_int {n : Nat} {c : Value} {y : DataW H × List MemPlace} (h : DataW.trod enc Try.prog w base spare held n 3 [c] = some y) : ∃ z : Int, c = .int .i64 z := by
  obtain ⟨z, hz, _⟩ := DataW.trod_int Try.underlying3 h
  exact ⟨z, by simpa using hz⟩
theorem two_int {n : Nat} {cs : List Value} {y : DataW H × List MemPlace} (h : DataW.trod enc Try.prog w base spare held n 29 cs = some y) : ∃ a b : Int, cs = [.int .i64 a, .int .i64 b] := by
  obtain ⟨y0, y1, m, _, hl, h0, h1⟩ := trod_struct2 Try.underlying29 h
  dsimp only at h0 h1
  rw [cells3] at h0 h1
  match cs, hl.trans cells29 with
  | [c0, c1], _ =>
    obtain ⟨a, rfl⟩ := one_int h0
    obtain ⟨b, rfl⟩ := one_int h1
    exact ⟨a, b, rfl⟩
theorem mob_int {n : Nat} {cs : List Value} {y : DataW H × List MemPlace} (h : DataW.trod enc Try.prog w base spare held n 56 cs = some y) : ∃ zs : List Int, zs.length = 3 ∧ cs = zs.map (.int .i64) := by
  obtain ⟨y0, y1, m, _, hl, h0, h1⟩ := trod_struct2 Try.underlying56 h
  dsimp only at h0 h1
  rw [cells29] at h0
  rw [cells3] at h1
  match cs, hl.trans cells56 with
  | [c0, c1, c2], _ =>
    obtain ⟨a, b, e⟩ := two_int h0
    obtain ⟨c, rfl⟩ := one_int h1
    simp only [List.drop_zero, List.take_succ_cons, List.take_zero, List.cons.injEq, and_true] at e
    obtain ⟨rfl, rfl⟩ := e
    exact ⟨[a, b, c], rfl, rfl⟩
theorem pen_int {n : Nat} {cs : List Value} {y : DataW H × List MemPlace} (h : DataW.trod enc Try.prog w base spare held n 53 cs = some y) : ∃ zs : List Int, zs.length = 6 ∧ cs = zs.map (.int .i64) := by
  obtain ⟨y0, y1, m, _, hl, h0, h1⟩ := trod_struct2 Try.underlying53 h
  dsimp only at h0 h1
  rw [cells51] at h0
  rw [cells29] at h1
  match cs, hl.trans cells53 with
  | [c0, c1, c2, c3, c4, c5], _ =>
    obtain ⟨a, b, e⟩ := two_int h1
    simp only [List.drop_succ_cons, List.drop_zero, List.take_succ_cons, List.take_zero, List.cons.injEq, and_true] at e
    obtain ⟨rfl, rfl⟩ := e
    obtain ⟨_, _, _, _, _, _, g0, g1, g2, g3⟩ := trod_array4 Try.underlying51 cells3 h0
    obtain ⟨p, rfl⟩ := one_int g0
    obtain ⟨q, rfl⟩ := one_int g1
    obtain ⟨r, rfl⟩ := one_int g2
    obtain ⟨s, rfl⟩ := one_int g3
    exact ⟨[p, q, r, s, a, b], rfl, rfl⟩

theorem open_rows {t e : TypeId} {sz fuel : Nat} {c : Value} {x : DataW H × List MemPlace} (ht : Try.prog.underlying t = some (.slice e)) (hsz : Try.prog.cellsOf e = sz) (hpos : 0 < sz)
    (hrow : ∀ n cs (x : DataW H × List MemPlace), DataW.trod enc Try.prog w base spare held n e cs = some x → ∃ zs : List Int, zs.length = sz ∧ cs = zs.map (.int .i64))
    (h : DataW.trod enc Try.prog w base spare held fuel t [c] = some x) : ∃ rows : List (List Int), (∀ r ∈ rows, r.length = sz) ∧ RepC (allOf w) (.sl (rows.flatten.map I) 0 rows.length) c := by
  rcases open_slice ht h with ⟨h0, _⟩ | ⟨a, len, cap, m, n, D, Pl, hcs, hb, hl, hm, hmm, hx, hi⟩
  · simp only [List.cons.injEq, and_true] at h0
    subst h0
    exact ⟨[], by simp, .inl ⟨rfl, .inr rfl⟩⟩
  · simp only [List.cons.injEq, and_true] at hcs
    subst hcs
    rw [hsz] at hi
    have hlm : len ≤ m := by rw [hmm]; split <;> omega
    have hall : ∀ i, ∃ zs : List Int, i < m → zs.length = sz ∧ ∀ j z, zs[j]? = some z → w.cell? (a.add (i * sz + j)) = some (.int .i64 z) := by
      intro i
      by_cases him : i < m
      · obtain ⟨cs', hc, ht'⟩ := hi i him
        obtain ⟨_, hcl, hat⟩ := World.cells?_some hc
        obtain ⟨zs, hz, rfl⟩ := hrow _ _ _ ht'
        refine ⟨zs, fun _ => ⟨hz, fun j z hj => ?_⟩⟩
        have hjl : j < zs.length := (List.getElem?_eq_some_iff.1 hj).1
        have := hat j (by omega)
        rw [Go.Deep.add_add] at this
        rw [this, List.getElem?_map, hj]
        rfl
      · exact ⟨[], fun h => absurd h him⟩
    obtain ⟨f, hf⟩ := Classical.skolem.1 hall
    by_cases hlen : len = 0
    · subst hlen
      exact ⟨[], by simp, .inl ⟨rfl, .inl ⟨a, cap, rfl⟩⟩⟩
    · have hr : ∀ r ∈ (List.range len).map f, r.length = sz := by
        intro r hr
        obtain ⟨i, hi1, rfl⟩ := List.mem_map.1 hr
        exact (hf i (by have := List.mem_range.1 hi1; omega)).1
      refine ⟨(List.range len).map f, hr, .inr ?_⟩
      obtain ⟨b, off, spot⟩ := a
      obtain ⟨h00, h01⟩ := hf 0 (by omega)
      have hz : ∃ z, (f 0)[0]? = some z := ⟨(f 0)[0], by simp⟩
      obtain ⟨z, hz⟩ := hz
      have hc0 := h01 0 z hz
      have hspot : spot = none := by simpa [Addr.add] using World.cell?_spot hc0
      subst hspot
      have plain : ∀ n, (⟨b, off, none⟩ : Addr).add n = ⟨b, off + n, none⟩ := fun n => by unfold Addr.add; split <;> simp_all
      rw [plain] at hc0
      cases hh : w.heap[b]? with
      | none => simp [World.cell?, hh] at hc0
      | some o =>
        cases o with
        | cells cs e fr =>
          refine ⟨b, off, cap, cs, e, fr, by simp, by simpa using hl, hh, repP_ints _ _ fun i z hz => ?_⟩
          obtain ⟨q, r, j, h1, h2, rfl⟩ := flat_get _ hr i z hz
          have hq : q < len := by have := (List.getElem?_eq_some_iff.1 h1).1; simpa using this
          have hrq : r = f q := by
            simp only [List.getElem?_map, List.getElem?_range hq, Option.map_some, Option.some.injEq] at h1
            exact h1.symm
          subst hrq
          have hc := (hf q (by omega)).2 j z h2
          rw [plain] at hc
          simp only [World.cell?, hh] at hc
          simpa using hc
        | _ => simp [World.cell?, hh] at hc0

def toMo (r : List Int) : Mo := ⟨r.getD 0 0, r.getD 1 0, r.getD 2 0⟩
def toPn (r : List Int) : Pn := ⟨fun i => r.getD i 0, r.getD 4 0, r.getD 5 0⟩
theorem row_mo : ∀ {r : List Int}, r.length = 3 → rowMo (toMo r) = r.map I
  | [_, _, _], _ => rfl
theorem row_pn : ∀ {r : List Int}, r.length = 6 → rowPn (toPn r) = r.map I
  | [_, _, _, _, _, _], _ => rfl
theorem sl_rows {sz : Nat} {rows : List (List Int)} (hr : ∀ r ∈ rows, r.length = sz) {rs : List (List CV)} (he : rs = rows.map (·.map I)) : SlOf sz rs (rows.flatten.map I) 0 rows.length := by
  subst he
  refine ⟨by simp, fun i r h => ?_⟩
  have := flat_sl (rows.map (·.map I)) (sz := sz) (fun r hr' => by
    obtain ⟨r0, h0, rfl⟩ := List.mem_map.1 hr'
    simpa using hr r0 h0) i r h
  rw [← List.map_flatten, ← Nat.zero_add (i * sz)] at this
  exact this

/-- What is known of an argument, however long its rows. -/
structure DV.IsL (v : DV) (d : Dr) : Prop where
  m : SlOf 3 (d.mobs.map rowMo) v.mc v.mo v.mn
  p : SlOf 6 (d.pens.map rowPn) v.pc v.po v.pn
  lim : v.lim = d.limit

theorem open_drove {r : Reach} {b0 : Nat} {v : Value} {x : DataW H} {ps : List MemPlace} (hv : Value.okWide Try.prog w r b0 25 v) (h : DataW.Trod enc Try.prog w base spare held 25 v x ps) : ∃ (dv : DV) (d : Dr), dv.IsL d ∧ RepC (allOf w) dv.cv v := by
  obtain ⟨cs, rfl, hsz⟩ := okWide_struct Try.underlying25 hv
  obtain ⟨fuel, hf⟩ := h
  obtain ⟨y0, y1, y2, n, _, hl, h0, h1, h2⟩ := trod_struct3 Try.underlying25 hf
  dsimp only at h0 h1 h2
  rw [cells22] at h0
  rw [cells23] at h1
  rw [cells3] at h2
  obtain ⟨l⟩ := cs
  match l, hsz.trans cells25 with
  | [c0, c1, c2], _ =>
    obtain ⟨z, rfl⟩ := one_int h2
    obtain ⟨ms, hm1, hm2⟩ := open_rows (c := c0) Try.underlying22 cells56 (by decide) (fun _ _ _ h => mob_int h) h0
    obtain ⟨ps, hp1, hp2⟩ := open_rows (c := c1) Try.underlying23 cells53 (by decide) (fun _ _ _ h => pen_int h) h1
    have em : (ms.map toMo).map rowMo = ms.map (·.map I) := by
      rw [List.map_map]; exact List.map_congr_left fun r hr => row_mo (hm1 r hr)
    have ep : (ps.map toPn).map rowPn = ps.map (·.map I) := by
      rw [List.map_map]; exact List.map_congr_left fun r hr => row_pn (hp1 r hr)
    exact ⟨⟨ms.flatten.map I, 0, ms.length, ps.flatten.map I, 0, ps.length, z⟩, ⟨ms.map toMo, ps.map toPn, z⟩, ⟨sl_rows hm1 em, sl_rows hp1 ep, rfl⟩, ⟨_, rfl, rfl, hm2, hp2, rfl, trivial⟩⟩
end

/-! The rows may be long: then the laws say that they are awake. -/
theorem far_any (v : DV) : Ret Try.prog 34 [v.cv] (B (decide (max (v.mn : Int) (v.pn : Int) > 40))) := by
  refine ret_by (hm := true) Try.func34 rfl ?_
  conv => whnf
  exact .val
theorem fine_far {v : DV} (hfar : max (v.mn : Int) (v.pn : Int) > 40) : Ret Try.prog 30 [v.cv] (B false) := by
  have h := far_any v
  have e : decide (max (v.mn : Int) (v.pn : Int) > 40) = true := by simpa using hfar
  rw [e] at h
  refine ret_by (hm := true) Try.func30 rfl ?_
  conv => whnf
  refine .ret h rfl ?_
  conv => whnf
  exact .val
theorem shears_far {v : DV} (hfar : max (v.mn : Int) (v.pn : Int) > 40) (hA : Ret Try.prog 13 [] (B true)) : Ret Try.prog 8 [v.cv] (B true) := by
  refine ret_by (hm := false) Try.func8 rfl ?_
  conv => whnf
  refine ⟨_, rfl, ?_⟩
  conv => whnf
  refine .ret (fine_far hfar) rfl ?_
  conv => whnf
  refine .ret hA rfl ?_
  conv => whnf
  exact .val
theorem shears_any {v : DV} {d : Dr} (h : v.IsL d) : Ret Try.prog 8 [v.cv] (B true) := by
  by_cases hs : v.mn ≤ 40 ∧ v.pn ≤ 40
  · have e1 : v.mn = d.mobs.length := by rw [h.m.len]; simp
    have e2 : v.pn = d.pens.length := by rw [h.p.len]; simp
    exact shears_ret ⟨h.m, h.p, h.lim, by omega⟩ Awake.awake_ret
  · exact shears_far (by omega) Awake.awake_ret
end Go.Ag
