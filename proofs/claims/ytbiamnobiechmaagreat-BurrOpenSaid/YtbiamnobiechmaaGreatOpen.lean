/- The law BurrOpen returns true for every input, and the input reads as it did. No conditions. -/
import Derived.Test.YtbiamnobiechmaaGreatBuI
import Derived.Test.YtbiamnobiechmaaGreatRows
import Derived.WalkKit
import Derived.ProofKit
import Derived.OpenShut
import Derived.ShutString
import Derived.ChangeOld
import Derived.Below
/- The statement BurrOpen. -/
namespace Go.Ag
open Go.Proofs
set_option maxRecDepth 100000
theorem burrOpen_far {v : BV} {c : Bu} (hfar : Ret Tryz.prog 12 [v.cv c] (B true)) (hA : Ret Tryz.prog 13 [] (B true)) (w1 : Nat) : Ret Tryz.prog 8 [v.cv c, .lit (.int .u8 w1)] (B true) := by
  refine ret_by (hm := true) Tryz.func8 rfl ?_
  conv => whnf
  refine .ret hfar rfl ?_
  conv => whnf
  refine .ret hA rfl ?_
  conv => whnf
  exact .val
theorem burrOpen_any {v : BV} {c : Bu} (h : v.IsL c) {n1 : Int} (hn1 : (Lit.int .u8 n1).wf = true) : Ret Tryz.prog 8 [v.cv c, .lit (.int .u8 n1)] (B true) := by
  obtain ⟨w1, rfl, hw1⟩ := law_u8 hn1
  rcases h.cases with hs | hs
  · exact openLaw_ret hs Awake.alive_ret w1 hw1
  · exact burrOpen_far hs Awake.alive_ret w1
end Go.Ag
namespace Go.Proofs.YtbiamnobiechmaaGreat.burrOpen
open Go.ChangeShapes Go.WideShapes Go.ChangeAt Go.RowKit
set_option linter.unusedVariables false

theorem own : ownKnob Tryz.prog.godebug = none := by kernel_rfl
theorem laidOut : laidOutB Tryz.prog = true := by kernel_rfl

theorem walk (v : Go.Ag.BV) (c : Go.Ag.Bu) (h : v.IsL c) (n1 : Int) (hn1 : (Lit.int .u8 n1).wf = true) (u : Value) (w : World) (hu : Go.Ag.RepC (Go.Ag.allOf w) (v.cv c) u) : Calls Tryz.prog 8 #[u, .int .u8 n1] w fun e w' => e = .returned (.bool true) ∧ RowKit.Below w.heap.size w w' :=
  Go.Ag.calls_of_ok (args := [v.cv c, .lit (.int .u8 n1)]) (Go.Ag.burrOpen_any h hn1) w #[u, .int .u8 n1] rfl ⟨hu, rfl, trivial⟩

set_option maxRecDepth 100000 in
theorem lifted (os : Os) (started : os.Started) (H : Type) (enc : TypeId × Value → H) :
    ReturnsInHanded {} Tryz.checked os 8 .any (Rows.burrOpenSpec.pre6 enc Tryz.prog Tryz.f8 Rows.burrOpenRow.domain false) (Rows.burrOpenSpec.post enc Tryz.prog Tryz.f8 false true false false) := by
  refine returnsInHanded_of_change (C := Tryz.checked) own started (by kernel_rfl) Tryz.func8
    (ChangeSpec.witness6 (enc := enc) (C := Tryz.checked) false ⟨#[], #[.agg #[.int .i64 0, .int .i64 0, .int .i64 0, .slice none 0 0, .int .i64 0, .slice none 0 0], .int .u8 0], []⟩ 8 (by kernel_rfl) (by kernel_rfl) (by kernel_rfl) (by kernel_rfl)) ?_
  intro W base args ds gs before hval0 hW hcnd _
  have hval : ∀ (j : Nat) t v, Tryz.f8.params[j]? = some t → args[j]? = some v → Value.okWide Tryz.prog W .any base t v := hval0
  have hW' := hW
  obtain ⟨p, q, hA0, hV, rfl, hfz, hnd⟩ := hW
  have hA : DataW.TrodAll enc Tryz.prog W 0 (fun _ => true) true Tryz.f8.params.toList args.toList ds p := hA0
  rw [Tryz.params8] at hA hval
  obtain ⟨v0, vs0, d0, ds0, p0, q0, hargs, rfl, rfl, h0, r0⟩ := trodAll_cons hA
  obtain ⟨v1, vs1, d1, ds1, p1, q1, rfl, rfl, rfl, h1, r1⟩ := trodAll_cons r0
  obtain ⟨rfl, rfl, rfl⟩ := trodAll_nil r1
  obtain ⟨rfl, rfl⟩ := trodVars_none hV
  obtain rfl : args = #[v0, v1] := by cases args; simp_all
  have k0 := h0
  have lt0 : ∀ x ∈ p0, x.block < W.heap.size := by obtain ⟨m, hm⟩ := k0; exact DataW.trod_lt m _ _ _ hm
  obtain ⟨tv, t, hs, hu⟩ := Go.Ag.open_burr (hval 0 27 v0 rfl rfl) h0
  obtain ⟨n1, rfl, rfl, rfl, hn1⟩ := open_int Tryz.underlying5 (hval 1 5 v1 rfl rfl) h1
  clear hA0 hval0
  refine (walk tv t hs n1 hn1 v0 W hu).mono fun e W' ⟨he, bel⟩ => ?_
  subst he
  exact ⟨_, rfl, _, _, _, [], _, [], hW', trodAll_mk1 (shut_bool Tryz.underlying4 _), (trodAll_cons_mk (Below.trod laidOut (by kernel_rfl) (of_decide_eq_true (by kernel_rfl)) k0 bel lt0) (trodAll_cons_mk (shut_int Tryz.underlying5 hn1) trodAll_mk0)), rfl, bel.frame _, fun h => by cases h⟩

theorem over : Rows.burrOpenRow.holds Tryz.pinned (OpenSpec.ofChange Rows.burrOpenSpec) :=
  OpenClaim.holds_of_wide 8 Tryz.f8 rfl rfl rfl rfl rfl rfl rfl ⟨rfl, rfl, rfl, rfl, rfl⟩ rfl rfl rfl rfl rfl (by kernel_rfl) Tryz.func8 (by kernel_rfl)
    (of_decide_eq_true (by kernel_rfl)) (by unfold Func.isWrapper; first | (rw [if_pos (by decide +kernel)]; kernel_rfl) | (rw [if_neg (by decide +kernel)]; exact ⟨rfl, rfl⟩))
    (fun os started H enc _ => lifted os started H enc)

/-- ████ THE STATEMENT ████ -/
theorem proved : Rows.BurrOpenSaid := over
#print axioms proved
end Go.Proofs.YtbiamnobiechmaaGreat.burrOpen
