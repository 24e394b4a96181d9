/- The law TallyTrue returns true for every input, and the input reads as it did. No conditions. -/
import Derived.Test.YtnmiompeofbagaaTyJ
import Derived.Test.YtnmiompeofbagaaRows
import Derived.WalkKit
import Derived.ProofKit
import Derived.OpenShut
import Derived.ShutString
import Derived.ChangeOld
import Derived.Below
/- The statement TallyTrue. -/
namespace Go.Ag
open Go.Proofs
set_option maxRecDepth 100000
theorem tallyTrue_far {v : TV} (hfar : Ret Try.prog 29 [v.cv] (B true)) (hA : Ret Try.prog 12 [] (B true)) (w1 : By) (w2 : Nat) (w3 : Nat) : Ret Try.prog 5 [v.cv, Go.Ag.byW w1, .lit (.int .u8 w2), .lit (.int .u8 w3)] (B true) := by
  refine ret_by (hm := true) Try.func5 rfl ?_
  conv => whnf
  refine .ret hfar rfl ?_
  conv => whnf
  refine .ret hA rfl ?_
  conv => whnf
  exact .val
theorem tallyTrue_any {v : TV} {t : Td} (h : v.IsL t) (n1 : By) (hn1 : n1.ok) {n2 : Int} (hn2 : (Lit.int .u8 n2).wf = true) {n3 : Int} (hn3 : (Lit.int .u8 n3).wf = true) : Ret Try.prog 5 [v.cv, Go.Ag.byW n1, .lit (.int .u8 n2), .lit (.int .u8 n3)] (B true) := by
  obtain ⟨w2, rfl, hw2⟩ := law_u8 hn2
  obtain ⟨w3, rfl, hw3⟩ := law_u8 hn3
  rcases h.cases with hs | hs
  · exact trueLaw2 hs Awake.alive_ret n1 w2 w3 hn1 hw2 hw3
  · exact tallyTrue_far hs Awake.alive_ret n1 w2 w3
end Go.Ag
namespace Go.Proofs.Ytnmiompeofbagaa.tallyTrue
open Go.ChangeShapes Go.WideShapes Go.ChangeAt Go.RowKit
set_option linter.unusedVariables false

theorem own : ownKnob Try.prog.godebug = none := by kernel_rfl
theorem laidOut : laidOutB Try.prog = true := by kernel_rfl

theorem walk (v : Go.Ag.TV) (t : Go.Ag.Td) (h : v.IsL t) (n1 : Go.Ag.By) (hn1 : n1.ok) (u1 : Value) (n2 : Int) (hn2 : (Lit.int .u8 n2).wf = true) (n3 : Int) (hn3 : (Lit.int .u8 n3).wf = true) (u : Value) (w : World) (hu : Go.Ag.RepC (Go.Ag.allOf w) v.cv u) (hu1 : Go.Ag.RepC (Go.Ag.allOf w) (Go.Ag.byW n1) u1) : Calls Try.prog 5 #[u, u1, .int .u8 n2, .int .u8 n3] w fun e w' => e = .returned (.bool true) ∧ RowKit.Below w.heap.size w w' :=
  Go.Ag.calls_of_ok (args := [v.cv, Go.Ag.byW n1, .lit (.int .u8 n2), .lit (.int .u8 n3)]) (Go.Ag.tallyTrue_any h n1 hn1 hn2 hn3) w #[u, u1, .int .u8 n2, .int .u8 n3] rfl ⟨hu, hu1, rfl, rfl, trivial⟩

set_option maxRecDepth 100000 in
theorem lifted (os : Os) (started : os.Started) (H : Type) (enc : TypeId × Value → H) :
    ReturnsInHanded {} Try.checked os 5 .any (Rows.tallyTrueSpec.pre6 enc Try.prog Try.f5 Rows.tallyTrueRow.domain false) (Rows.tallyTrueSpec.post enc Try.prog Try.f5 false true false false) := by
  refine returnsInHanded_of_change (C := Try.checked) own started (by kernel_rfl) Try.func5
    (ChangeSpec.witness6 (enc := enc) (C := Try.checked) false ⟨#[], #[.agg #[.int .i64 0, .int .i64 0, .slice none 0 0, .slice none 0 0], .slice none 0 0, .int .u8 0, .int .u8 0], []⟩ 8 (by kernel_rfl) (by kernel_rfl) (by kernel_rfl) (by kernel_rfl)) ?_
  intro W base args ds gs before hval0 hW hcnd _
  have hval : ∀ (j : Nat) t v, Try.f5.params[j]? = some t → args[j]? = some v → Value.okWide Try.prog W .any base t v := hval0
  have hW' := hW
  obtain ⟨p, q, hA0, hV, rfl, hfz, hnd⟩ := hW
  have hA : DataW.TrodAll enc Try.prog W 0 (fun _ => true) true Try.f5.params.toList args.toList ds p := hA0
  rw [Try.params5] at hA hval
  obtain ⟨v0, vs0, d0, ds0, p0, q0, hargs, rfl, rfl, h0, r0⟩ := trodAll_cons hA
  obtain ⟨v1, vs1, d1, ds1, p1, q1, rfl, rfl, rfl, h1, r1⟩ := trodAll_cons r0
  obtain ⟨v2, vs2, d2, ds2, p2, q2, rfl, rfl, rfl, h2, r2⟩ := trodAll_cons r1
  obtain ⟨v3, vs3, d3, ds3, p3, q3, rfl, rfl, rfl, h3, r3⟩ := trodAll_cons r2
  obtain ⟨rfl, rfl, rfl⟩ := trodAll_nil r3
  obtain ⟨rfl, rfl⟩ := trodVars_none hV
  obtain rfl : args = #[v0, v1, v2, v3] := by cases args; simp_all
  have k0 := h0
  have lt0 : ∀ x ∈ p0, x.block < W.heap.size := by obtain ⟨m, hm⟩ := k0; exact DataW.trod_lt m _ _ _ hm
  obtain ⟨tv, t, hs, hu⟩ := Go.Ag.open_tally (hval 0 25 v0 rfl rfl) h0
  have k1 := h1
  have lt1 : ∀ x ∈ p1, x.block < W.heap.size := by obtain ⟨m, hm⟩ := k1; exact DataW.trod_lt m _ _ _ hm
  obtain ⟨n1, hn1, hu1⟩ := Go.Ag.open_by2 (hval 1 48 v1 rfl rfl) h1
  obtain ⟨n2, rfl, rfl, rfl, hn2⟩ := open_int Try.underlying5 (hval 2 5 v2 rfl rfl) h2
  obtain ⟨n3, rfl, rfl, rfl, hn3⟩ := open_int Try.underlying5 (hval 3 5 v3 rfl rfl) h3
  clear hA0 hval0
  refine (walk tv t hs n1 hn1 v1 n2 hn2 n3 hn3 v0 W hu hu1).mono fun e W' ⟨he, bel⟩ => ?_
  subst he
  exact ⟨_, rfl, _, _, _, [], _, [], hW', trodAll_mk1 (shut_bool Try.underlying4 _), (trodAll_cons_mk (Below.trod laidOut (by kernel_rfl) (of_decide_eq_true (by kernel_rfl)) k0 bel lt0) (trodAll_cons_mk (Below.trod laidOut (by kernel_rfl) (of_decide_eq_true (by kernel_rfl)) k1 bel lt1) (trodAll_cons_mk (shut_int Try.underlying5 hn2) (trodAll_cons_mk (shut_int Try.underlying5 hn3) trodAll_mk0)))), rfl, bel.frame _, fun h => by cases h⟩

theorem over : Rows.tallyTrueRow.holds Try.pinned (OpenSpec.ofChange Rows.tallyTrueSpec) :=
  OpenClaim.holds_of_wide 5 Try.f5 rfl rfl rfl rfl rfl rfl rfl ⟨rfl, rfl, rfl, rfl, rfl⟩ rfl rfl rfl rfl rfl (by kernel_rfl) Try.func5 (by kernel_rfl)
    (of_decide_eq_true (by kernel_rfl)) (by unfold Func.isWrapper; first | (rw [if_pos (by decide +kernel)]; kernel_rfl) | (rw [if_neg (by decide +kernel)]; exact ⟨rfl, rfl⟩))
    (fun os started H enc _ => lifted os started H enc)

/-- ████ THE STATEMENT ████ -/
theorem proved : Rows.TallyTrueSaid := over
#print axioms proved
end Go.Proofs.Ytnmiompeofbagaa.tallyTrue
