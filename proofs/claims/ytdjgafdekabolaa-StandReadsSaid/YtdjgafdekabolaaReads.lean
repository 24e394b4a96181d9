/- The law StandReads returns true for every input, and the input reads as it did. No conditions. -/
import Derived.Test.YtdjgafdekabolaaStJ
import Derived.Test.YtdjgafdekabolaaRows
import Derived.WalkKit
import Derived.ProofKit
import Derived.OpenShut
import Derived.ShutString
import Derived.ChangeOld
import Derived.Below
/- The statement StandReads. -/
namespace Go.Ag
open Go.Proofs
set_option maxRecDepth 100000
theorem standReads_far {v : SV} (hfar : Ret Try.prog 12 [v.cv] (B true)) (hA : Ret Try.prog 13 [] (B true)) (w1 : Int) (w2 : Int) (w3 : Int) : Ret Try.prog 3 [v.cv, .lit (.int .i64 w1), .lit (.int .i64 w2), .lit (.int .i64 w3)] (B true) := by
  refine ret_by (hm := true) Try.func3 rfl ?_
  conv => whnf
  refine .ret hfar rfl ?_
  conv => whnf
  refine .ret hA rfl ?_
  conv => whnf
  exact .val
theorem standReads_any {v : SV} {s : Sd} (h : v.IsL s) {n1 : Int} (hn1 : (Lit.int .i64 n1).wf = true) {n2 : Int} (hn2 : (Lit.int .i64 n2).wf = true) {n3 : Int} (hn3 : (Lit.int .i64 n3).wf = true) : Ret Try.prog 3 [v.cv, .lit (.int .i64 n1), .lit (.int .i64 n2), .lit (.int .i64 n3)] (B true) := by
  rcases h.cases with hs | hs
  · exact readsLaw_ret hs Awake.awake_ret n1 n2 n3
  · exact standReads_far hs Awake.awake_ret n1 n2 n3
end Go.Ag
namespace Go.Proofs.Ytdjgafdekabolaa.standReads
open Go.ChangeShapes Go.WideShapes Go.ChangeAt Go.RowKit
set_option linter.unusedVariables false

theorem own : ownKnob Try.prog.godebug = none := by kernel_rfl
theorem laidOut : laidOutB Try.prog = true := by kernel_rfl

theorem walk (v : Go.Ag.SV) (s : Go.Ag.Sd) (h : v.IsL s) (n1 : Int) (hn1 : (Lit.int .i64 n1).wf = true) (n2 : Int) (hn2 : (Lit.int .i64 n2).wf = true) (n3 : Int) (hn3 : (Lit.int .i64 n3).wf = true) (u : Value) (w : World) (hu : Go.Ag.RepC (Go.Ag.allOf w) v.cv u) : Calls Try.prog 3 #[u, .int .i64 n1, .int .i64 n2, .int .i64 n3] w fun e w' => e = .returned (.bool true) ∧ RowKit.Below w.heap.size w w' :=
  Go.Ag.calls_of_ok (args := [v.cv, .lit (.int .i64 n1), .lit (.int .i64 n2), .lit (.int .i64 n3)]) (Go.Ag.standReads_any h hn1 hn2 hn3) w #[u, .int .i64 n1, .int .i64 n2, .int .i64 n3] rfl ⟨hu, rfl, rfl, rfl, trivial⟩

set_option maxRecDepth 100000 in
theorem lifted (os : Os) (started : os.Started) (H : Type) (enc : TypeId × Value → H) :
    ReturnsInHanded {} Try.checked os 3 .any (Rows.standReadsSpec.pre6 enc Try.prog Try.f3 Rows.standReadsRow.domain false) (Rows.standReadsSpec.post enc Try.prog Try.f3 false true false false) := by
  refine returnsInHanded_of_change (C := Try.checked) own started (by kernel_rfl) Try.func3
    (ChangeSpec.witness6 (enc := enc) (C := Try.checked) false ⟨#[], #[.agg #[.int .i64 0, .int .i64 0, .int .i64 0, .int .i64 0, .int .i64 0, .int .i64 0, .slice none 0 0, .slice none 0 0, .slice none 0 0], .int .i64 0, .int .i64 0, .int .i64 0], []⟩ 8 (by kernel_rfl) (by kernel_rfl) (by kernel_rfl) (by kernel_rfl)) ?_
  intro W base args ds gs before hval0 hW hcnd _
  have hval : ∀ (j : Nat) t v, Try.f3.params[j]? = some t → args[j]? = some v → Value.okWide Try.prog W .any base t v := hval0
  have hW' := hW
  obtain ⟨p, q, hA0, hV, rfl, hfz, hnd⟩ := hW
  have hA : DataW.TrodAll enc Try.prog W 0 (fun _ => true) true Try.f3.params.toList args.toList ds p := hA0
  rw [Try.params3] at hA hval
  obtain ⟨v0, vs0, d0, ds0, p0, q0, hargs, rfl, rfl, h0, r0⟩ := trodAll_cons hA
  obtain ⟨v1, vs1, d1, ds1, p1, q1, rfl, rfl, rfl, h1, r1⟩ := trodAll_cons r0
  obtain ⟨v2, vs2, d2, ds2, p2, q2, rfl, rfl, rfl, h2, r2⟩ := trodAll_cons r1
  obtain ⟨v3, vs3, d3, ds3, p3, q3, rfl, rfl, rfl, h3, r3⟩ := trodAll_cons r2
  obtain ⟨rfl, rfl, rfl⟩ := trodAll_nil r3
  obtain ⟨rfl, rfl⟩ := trodVars_none hV
  obtain rfl : args = #[v0, v1, v2, v3] := by cases args; simp_all
  have k0 := h0
  have lt0 : ∀ x ∈ p0, x.block < W.heap.size := by obtain ⟨m, hm⟩ := k0; exact DataW.trod_lt m _ _ _ hm
  obtain ⟨sv, s, hs, hu⟩ := Go.Ag.open_stand (hval 0 29 v0 rfl rfl) h0
  obtain ⟨n1, rfl, rfl, rfl, hn1⟩ := open_int Try.underlying3 (hval 1 3 v1 rfl rfl) h1
  obtain ⟨n2, rfl, rfl, rfl, hn2⟩ := open_int Try.underlying3 (hval 2 3 v2 rfl rfl) h2
  obtain ⟨n3, rfl, rfl, rfl, hn3⟩ := open_int Try.underlying3 (hval 3 3 v3 rfl rfl) h3
  clear hA0 hval0
  refine (walk sv s hs n1 hn1 n2 hn2 n3 hn3 v0 W hu).mono fun e W' ⟨he, bel⟩ => ?_
  subst he
  exact ⟨_, rfl, _, _, _, [], _, [], hW', trodAll_mk1 (shut_bool Try.underlying4 _), (trodAll_cons_mk (Below.trod laidOut (by kernel_rfl) (of_decide_eq_true (by kernel_rfl)) k0 bel lt0) (trodAll_cons_mk (shut_int Try.underlying3 hn1) (trodAll_cons_mk (shut_int Try.underlying3 hn2) (trodAll_cons_mk (shut_int Try.underlying3 hn3) trodAll_mk0)))), rfl, bel.frame _, fun h => by cases h⟩

theorem over : Rows.standReadsRow.holds Try.pinned (OpenSpec.ofChange Rows.standReadsSpec) :=
  OpenClaim.holds_of_wide 3 Try.f3 rfl rfl rfl rfl rfl rfl rfl ⟨rfl, rfl, rfl, rfl, rfl⟩ rfl rfl rfl rfl rfl (by kernel_rfl) Try.func3 (by kernel_rfl)
    (of_decide_eq_true (by kernel_rfl)) (by unfold Func.isWrapper; first | (rw [if_pos (by decide +kernel)]; kernel_rfl) | (rw [if_neg (by decide +kernel)]; exact ⟨rfl, rfl⟩))
    (fun os started H enc _ => lifted os started H enc)

/-- ████ THE STATEMENT ████ -/
theorem proved : Rows.StandReadsSaid := over
#print axioms proved
end Go.Proofs.Ytdjgafdekabolaa.standReads
