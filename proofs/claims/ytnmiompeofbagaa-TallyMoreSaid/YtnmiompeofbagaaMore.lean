/- The law TallyMore returns true for every input, and the input reads as it did. No conditions. -/
import Derived.Test.YtnmiompeofbagaaTyL
import Derived.Test.YtnmiompeofbagaaRows
import Derived.WalkKit
import Derived.ProofKit
import Derived.OpenShut
import Derived.ShutString
import Derived.ChangeOld
import Derived.Below
/- The statement TallyMore. -/
namespace Go.Ag
open Go.Proofs
set_option maxRecDepth 100000
theorem tallyMore_far {v : TV} (hfar : Ret Try.prog 29 [v.cv] (B true)) (hA : Ret Try.prog 12 [] (B true)) (w1 : Cl) (w2 : Nat) : Ret Try.prog 10 [v.cv, Go.Ag.clV w1, .lit (.int .u8 w2)] (B true) := by
  refine ret_by (hm := true) Try.func10 rfl ?_
  conv => whnf
  refine .ret hfar rfl ?_
  conv => whnf
  refine .ret hA rfl ?_
  conv => whnf
  exact .val
theorem tallyMore_any {v : TV} {t : Td} (h : v.IsL t) (n1 : Cl) {n2 : Int} (hn2 : (Lit.int .u8 n2).wf = true) : Ret Try.prog 10 [v.cv, Go.Ag.clV n1, .lit (.int .u8 n2)] (B true) := by
  obtain ⟨w2, rfl, hw2⟩ := law_u8 hn2
  rcases h.cases with hs | hs
  · exact moreLaw_ret hs Awake.alive_ret n1 w2 hw2
  · exact tallyMore_far hs Awake.alive_ret n1 w2
end Go.Ag
namespace Go.Proofs.Ytnmiompeofbagaa.tallyMore
open Go.ChangeShapes Go.WideShapes Go.ChangeAt Go.RowKit
set_option linter.unusedVariables false

theorem own : ownKnob Try.prog.godebug = none := by kernel_rfl
theorem laidOut : laidOutB Try.prog = true := by kernel_rfl

theorem walk (v : Go.Ag.TV) (t : Go.Ag.Td) (h : v.IsL t) (n1 : Go.Ag.Cl) (n2 : Int) (hn2 : (Lit.int .u8 n2).wf = true) (u : Value) (w : World) (hu : Go.Ag.RepC (Go.Ag.allOf w) v.cv u) : Calls Try.prog 10 #[u, .agg #[.int .i64 n1.kind, .int .i64 n1.pos, .int .i64 n1.lo, .int .i64 n1.hi], .int .u8 n2] w fun e w' => e = .returned (.bool true) ∧ RowKit.Below w.heap.size w w' :=
  Go.Ag.calls_of_ok (args := [v.cv, Go.Ag.clV n1, .lit (.int .u8 n2)]) (Go.Ag.tallyMore_any h n1 hn2) w #[u, .agg #[.int .i64 n1.kind, .int .i64 n1.pos, .int .i64 n1.lo, .int .i64 n1.hi], .int .u8 n2] rfl ⟨hu, Go.Ag.rep_call w n1, rfl, trivial⟩

set_option maxRecDepth 100000 in
theorem lifted (os : Os) (started : os.Started) (H : Type) (enc : TypeId × Value → H) :
    ReturnsInHanded {} Try.checked os 10 .any (Rows.tallyMoreSpec.pre6 enc Try.prog Try.f10 Rows.tallyMoreRow.domain false) (Rows.tallyMoreSpec.post enc Try.prog Try.f10 false true false false) := by
  refine returnsInHanded_of_change (C := Try.checked) own started (by kernel_rfl) Try.func10
    (ChangeSpec.witness6 (enc := enc) (C := Try.checked) false ⟨#[], #[.agg #[.int .i64 0, .int .i64 0, .slice none 0 0, .slice none 0 0], .agg #[.int .i64 0, .int .i64 0, .int .i64 0, .int .i64 0], .int .u8 0], []⟩ 8 (by kernel_rfl) (by kernel_rfl) (by kernel_rfl) (by kernel_rfl)) ?_
  intro W base args ds gs before hval0 hW hcnd _
  have hval : ∀ (j : Nat) t v, Try.f10.params[j]? = some t → args[j]? = some v → Value.okWide Try.prog W .any base t v := hval0
  have hW' := hW
  obtain ⟨p, q, hA0, hV, rfl, hfz, hnd⟩ := hW
  have hA : DataW.TrodAll enc Try.prog W 0 (fun _ => true) true Try.f10.params.toList args.toList ds p := hA0
  rw [Try.params10] at hA hval
  obtain ⟨v0, vs0, d0, ds0, p0, q0, hargs, rfl, rfl, h0, r0⟩ := trodAll_cons hA
  obtain ⟨v1, vs1, d1, ds1, p1, q1, rfl, rfl, rfl, h1, r1⟩ := trodAll_cons r0
  obtain ⟨v2, vs2, d2, ds2, p2, q2, rfl, rfl, rfl, h2, r2⟩ := trodAll_cons r1
  obtain ⟨rfl, rfl, rfl⟩ := trodAll_nil r2
  obtain ⟨rfl, rfl⟩ := trodVars_none hV
  obtain rfl : args = #[v0, v1, v2] := by cases args; simp_all
  have k0 := h0
  have lt0 : ∀ x ∈ p0, x.block < W.heap.size := by obtain ⟨m, hm⟩ := k0; exact DataW.trod_lt m _ _ _ hm
  obtain ⟨tv, t, hs, hu⟩ := Go.Ag.open_tally (hval 0 25 v0 rfl rfl) h0
  have k1 := h1
  have lt1 : ∀ x ∈ p1, x.block < W.heap.size := by obtain ⟨m, hm⟩ := k1; exact DataW.trod_lt m _ _ _ hm
  obtain ⟨n1, rfl⟩ := Go.Ag.open_call (hval 1 46 v1 rfl rfl) h1
  obtain ⟨n2, rfl, rfl, rfl, hn2⟩ := open_int Try.underlying5 (hval 2 5 v2 rfl rfl) h2
  clear hA0 hval0
  refine (walk tv t hs n1 n2 hn2 v0 W hu).mono fun e W' ⟨he, bel⟩ => ?_
  subst he
  exact ⟨_, rfl, _, _, _, [], _, [], hW', trodAll_mk1 (shut_bool Try.underlying4 _), (trodAll_cons_mk (Below.trod laidOut (by kernel_rfl) (of_decide_eq_true (by kernel_rfl)) k0 bel lt0) (trodAll_cons_mk (Below.trod laidOut (by kernel_rfl) (of_decide_eq_true (by kernel_rfl)) k1 bel lt1) (trodAll_cons_mk (shut_int Try.underlying5 hn2) trodAll_mk0))), rfl, bel.frame _, fun h => by cases h⟩

theorem over : Rows.tallyMoreRow.holds Try.pinned (OpenSpec.ofChange Rows.tallyMoreSpec) :=
  OpenClaim.holds_of_wide 10 Try.f10 rfl rfl rfl rfl rfl rfl rfl ⟨rfl, rfl, rfl, rfl, rfl⟩ rfl rfl rfl rfl rfl (by kernel_rfl) Try.func10 (by kernel_rfl)
    (of_decide_eq_true (by kernel_rfl)) (by unfold Func.isWrapper; first | (rw [if_pos (by decide +kernel)]; kernel_rfl) | (rw [if_neg (by decide +kernel)]; exact ⟨rfl, rfl⟩))
    (fun os started H enc _ => lifted os started H enc)

/-- ████ THE STATEMENT ████ -/
theorem proved : Rows.TallyMoreSaid := over
#print axioms proved
end Go.Proofs.Ytnmiompeofbagaa.tallyMore
