/- The law BurrTells returns true for every input, and the input reads as it did. No conditions. -/
import Derived.Test.YtbiamnobiechmaaGreatBuE
import Derived.Test.YtbiamnobiechmaaGreatRows
import Derived.WalkKit
import Derived.ProofKit
import Derived.OpenShut
import Derived.ShutString
import Derived.ChangeOld
import Derived.Below
/- The statement BurrTells. -/
namespace Go.Ag
open Go.Proofs
set_option maxRecDepth 100000
theorem burrTells_far {v : BV} {c : Bu} (hfar : Ret Tryz.prog 12 [v.cv c] (B true)) (hA : Ret Tryz.prog 13 [] (B true)) : Ret Tryz.prog 3 [v.cv c] (B true) := by
  refine ret_by (hm := true) Tryz.func3 rfl ?_
  conv => whnf
  refine .ret hfar rfl ?_
  conv => whnf
  refine .ret hA rfl ?_
  conv => whnf
  exact .val
theorem burrTells_any {v : BV} {c : Bu} (h : v.IsL c) : Ret Tryz.prog 3 [v.cv c] (B true) := by
  rcases h.cases with hs | hs
  · exact tellsLaw_ret hs Awake.alive_ret
  · exact burrTells_far hs Awake.alive_ret
end Go.Ag
namespace Go.Proofs.YtbiamnobiechmaaGreat.burrTells
open Go.ChangeShapes Go.WideShapes Go.ChangeAt Go.RowKit
set_option linter.unusedVariables false

theorem own : ownKnob Tryz.prog.godebug = none := by kernel_rfl
theorem laidOut : laidOutB Tryz.prog = true := by kernel_rfl

theorem walk (v : Go.Ag.BV) (c : Go.Ag.Bu) (h : v.IsL c) (u : Value) (w : World) (hu : Go.Ag.RepC (Go.Ag.allOf w) (v.cv c) u) : Calls Tryz.prog 3 #[u] w fun e w' => e = .returned (.bool true) ∧ RowKit.Below w.heap.size w w' :=
  Go.Ag.calls_of_ok (args := [v.cv c]) (Go.Ag.burrTells_any h) w #[u] rfl ⟨hu, trivial⟩

set_option maxRecDepth 100000 in
theorem lifted (os : Os) (started : os.Started) (H : Type) (enc : TypeId × Value → H) :
    ReturnsInHanded {} Tryz.checked os 3 .any (Rows.burrTellsSpec.pre6 enc Tryz.prog Tryz.f3 Rows.burrTellsRow.domain false) (Rows.burrTellsSpec.post enc Tryz.prog Tryz.f3 false true false false) := by
  refine returnsInHanded_of_change (C := Tryz.checked) own started (by kernel_rfl) Tryz.func3
    (ChangeSpec.witness6 (enc := enc) (C := Tryz.checked) false ⟨#[], #[.agg #[.int .i64 0, .int .i64 0, .int .i64 0, .slice none 0 0, .int .i64 0, .slice none 0 0]], []⟩ 8 (by kernel_rfl) (by kernel_rfl) (by kernel_rfl) (by kernel_rfl)) ?_
  intro W base args ds gs before hval0 hW hcnd _
  have hval : ∀ (j : Nat) t v, Tryz.f3.params[j]? = some t → args[j]? = some v → Value.okWide Tryz.prog W .any base t v := hval0
  have hW' := hW
  obtain ⟨p, q, hA0, hV, rfl, hfz, hnd⟩ := hW
  have hA : DataW.TrodAll enc Tryz.prog W 0 (fun _ => true) true Tryz.f3.params.toList args.toList ds p := hA0
  rw [Tryz.params3] at hA hval
  obtain ⟨v0, vs0, d0, ds0, p0, q0, hargs, rfl, rfl, h0, r0⟩ := trodAll_cons hA
  obtain ⟨rfl, rfl, rfl⟩ := trodAll_nil r0
  obtain ⟨rfl, rfl⟩ := trodVars_none hV
  obtain rfl : args = #[v0] := by cases args; simp_all
  have k0 := h0
  have lt0 : ∀ x ∈ p0, x.block < W.heap.size := by obtain ⟨m, hm⟩ := k0; exact DataW.trod_lt m _ _ _ hm
  obtain ⟨tv, t, hs, hu⟩ := Go.Ag.open_burr (hval 0 27 v0 rfl rfl) h0
  clear hA0 hval0
  refine (walk tv t hs v0 W hu).mono fun e W' ⟨he, bel⟩ => ?_
  subst he
  exact ⟨_, rfl, _, _, _, [], _, [], hW', trodAll_mk1 (shut_bool Tryz.underlying4 _), (trodAll_cons_mk (Below.trod laidOut (by kernel_rfl) (of_decide_eq_true (by kernel_rfl)) k0 bel lt0) trodAll_mk0), rfl, bel.frame _, fun h => by cases h⟩

theorem over : Rows.burrTellsRow.holds Tryz.pinned (OpenSpec.ofChange Rows.burrTellsSpec) :=
  OpenClaim.holds_of_wide 3 Tryz.f3 rfl rfl rfl rfl rfl rfl rfl ⟨rfl, rfl, rfl, rfl, rfl⟩ rfl rfl rfl rfl rfl (by kernel_rfl) Tryz.func3 (by kernel_rfl)
    (of_decide_eq_true (by kernel_rfl)) (by unfold Func.isWrapper; first | (rw [if_pos (by decide +kernel)]; kernel_rfl) | (rw [if_neg (by decide +kernel)]; exact ⟨rfl, rfl⟩))
    (fun os started H enc _ => lifted os started H enc)

/-- ████ THE STATEMENT ████ -/
theorem proved : Rows.BurrTellsSaid := over
#print axioms proved
end Go.Proofs.YtbiamnobiechmaaGreat.burrTells
