/- The law ClassWide returns true for every input, and the input reads as it did. No conditions. -/
import Derived.Test.YtgidjimpobeahaaClL
import Derived.Test.YtgidjimpobeahaaRows
import Derived.WalkKit
import Derived.ProofKit
import Derived.OpenShut
import Derived.ShutString
import Derived.ChangeOld
import Derived.Below
/- The statement ClassWide. -/
namespace Go.Ag
open Go.Proofs
set_option maxRecDepth 100000
theorem classWide_far {v : LV} {c : Ln} (hfar : Ret Try.prog 21 [v.cv c] (B true)) (hA : Ret Try.prog 11 [] (B true)) (w1 : Nat) (w2 : Nat) : Ret Try.prog 9 [v.cv c, .lit (.int .u8 w1), .lit (.int .u8 w2)] (B true) := by
  refine ret_by (hm := true) Try.func9 rfl ?_
  conv => whnf
  refine .ret (fine_far hfar) rfl ?_
  conv => whnf
  refine .ret hA rfl ?_
  conv => whnf
  exact .val
theorem classWide_any {v : LV} {c : Ln} (h : v.IsL c) {n1 : Int} (hn1 : (Lit.int .u8 n1).wf = true) {n2 : Int} (hn2 : (Lit.int .u8 n2).wf = true) : Ret Try.prog 9 [v.cv c, .lit (.int .u8 n1), .lit (.int .u8 n2)] (B true) := by
  obtain ⟨w1, rfl, hw1⟩ := law_u8 hn1
  obtain ⟨w2, rfl, hw2⟩ := law_u8 hn2
  rcases h.cases with hs | hs
  · exact wideLaw_ret hs Awake.alive_ret w1 w2 hw1 hw2
  · exact classWide_far hs Awake.alive_ret w1 w2
end Go.Ag
namespace Go.Proofs.Ytgidjimpobeahaa.classWide
open Go.ChangeShapes Go.WideShapes Go.ChangeAt Go.RowKit
set_option linter.unusedVariables false

theorem own : ownKnob Try.prog.godebug = none := by kernel_rfl
theorem laidOut : laidOutB Try.prog = true := by kernel_rfl

theorem walk (v : Go.Ag.LV) (c : Go.Ag.Ln) (h : v.IsL c) (n1 : Int) (hn1 : (Lit.int .u8 n1).wf = true) (n2 : Int) (hn2 : (Lit.int .u8 n2).wf = true) (u : Value) (w : World) (hu : Go.Ag.RepC (Go.Ag.allOf w) (v.cv c) u) : Calls Try.prog 9 #[u, .int .u8 n1, .int .u8 n2] w fun e w' => e = .returned (.bool true) ∧ RowKit.Below w.heap.size w w' :=
  Go.Ag.calls_of_ok (args := [v.cv c, .lit (.int .u8 n1), .lit (.int .u8 n2)]) (Go.Ag.classWide_any h hn1 hn2) w #[u, .int .u8 n1, .int .u8 n2] rfl ⟨hu, rfl, rfl, trivial⟩

set_option maxRecDepth 100000 in
theorem lifted (os : Os) (started : os.Started) (H : Type) (enc : TypeId × Value → H) :
    ReturnsInHanded {} Try.checked os 9 .any (Rows.classWideSpec.pre6 enc Try.prog Try.f9 Rows.classWideRow.domain false) (Rows.classWideSpec.post enc Try.prog Try.f9 false true false false) := by
  refine returnsInHanded_of_change (C := Try.checked) own started (by kernel_rfl) Try.func9
    (ChangeSpec.witness6 (enc := enc) (C := Try.checked) false ⟨#[], #[.agg #[.slice none 0 0, .int .i64 0, .int .i64 0, .int .i64 0], .int .u8 0, .int .u8 0], []⟩ 8 (by kernel_rfl) (by kernel_rfl) (by kernel_rfl) (by kernel_rfl)) ?_
  intro W base args ds gs before hval0 hW hcnd _
  have hval : ∀ (j : Nat) t v, Try.f9.params[j]? = some t → args[j]? = some v → Value.okWide Try.prog W .any base t v := hval0
  have hW' := hW
  obtain ⟨p, q, hA0, hV, rfl, hfz, hnd⟩ := hW
  have hA : DataW.TrodAll enc Try.prog W 0 (fun _ => true) true Try.f9.params.toList args.toList ds p := hA0
  rw [Try.params9] at hA hval
  obtain ⟨v0, vs0, d0, ds0, p0, q0, hargs, rfl, rfl, h0, r0⟩ := trodAll_cons hA
  obtain ⟨v1, vs1, d1, ds1, p1, q1, rfl, rfl, rfl, h1, r1⟩ := trodAll_cons r0
  obtain ⟨v2, vs2, d2, ds2, p2, q2, rfl, rfl, rfl, h2, r2⟩ := trodAll_cons r1
  obtain ⟨rfl, rfl, rfl⟩ := trodAll_nil r2
  obtain ⟨rfl, rfl⟩ := trodVars_none hV
  obtain rfl : args = #[v0, v1, v2] := by cases args; simp_all
  have k0 := h0
  have lt0 : ∀ x ∈ p0, x.block < W.heap.size := by obtain ⟨m, hm⟩ := k0; exact DataW.trod_lt m _ _ _ hm
  obtain ⟨tv, t, hs, hu⟩ := Go.Ag.open_line (hval 0 24 v0 rfl rfl) h0
  obtain ⟨n1, rfl, rfl, rfl, hn1⟩ := open_int Try.underlying5 (hval 1 5 v1 rfl rfl) h1
  obtain ⟨n2, rfl, rfl, rfl, hn2⟩ := open_int Try.underlying5 (hval 2 5 v2 rfl rfl) h2
  clear hA0 hval0
  refine (walk tv t hs n1 hn1 n2 hn2 v0 W hu).mono fun e W' ⟨he, bel⟩ => ?_
  subst he
  exact ⟨_, rfl, _, _, _, [], _, [], hW', trodAll_mk1 (shut_bool Try.underlying4 _), (trodAll_cons_mk (Below.trod laidOut (by kernel_rfl) (of_decide_eq_true (by kernel_rfl)) k0 bel lt0) (trodAll_cons_mk (shut_int Try.underlying5 hn1) (trodAll_cons_mk (shut_int Try.underlying5 hn2) trodAll_mk0))), rfl, bel.frame _, fun h => by cases h⟩

theorem over : Rows.classWideRow.holds Try.pinned (OpenSpec.ofChange Rows.classWideSpec) :=
  OpenClaim.holds_of_wide 9 Try.f9 rfl rfl rfl rfl rfl rfl rfl ⟨rfl, rfl, rfl, rfl, rfl⟩ rfl rfl rfl rfl rfl (by kernel_rfl) Try.func9 (by kernel_rfl)
    (of_decide_eq_true (by kernel_rfl)) (by unfold Func.isWrapper; first | (rw [if_pos (by decide +kernel)]; kernel_rfl) | (rw [if_neg (by decide +kernel)]; exact ⟨rfl, rfl⟩))
    (fun os started H enc _ => lifted os started H enc)

/-- ████ THE STATEMENT ████ -/
theorem proved : Rows.ClassWideSaid := over
#print axioms proved
end Go.Proofs.Ytgidjimpobeahaa.classWide
