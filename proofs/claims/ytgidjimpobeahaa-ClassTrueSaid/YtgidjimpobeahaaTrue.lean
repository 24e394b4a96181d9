/- The law ClassTrue returns true for every input, and the input reads as it did. No conditions. -/
import Derived.Test.YtgidjimpobeahaaClK
import Derived.Test.YtgidjimpobeahaaRows
import Derived.WalkKit
import Derived.ProofKit
import Derived.OpenShut
import Derived.ShutString
import Derived.ChangeOld
import Derived.Below
/- The statement ClassTrue. -/
namespace Go.Ag
open Go.Proofs
set_option maxRecDepth 100000
theorem classTrue_far {v : LV} {c : Ln} (hfar : Ret Try.prog 21 [v.cv c] (B true)) (hA : Ret Try.prog 11 [] (B true)) (w1 : By) : Ret Try.prog 3 [v.cv c, Go.Ag.byW w1] (B true) := by
  refine ret_by (hm := true) Try.func3 rfl ?_
  conv => whnf
  refine .ret (fine_far hfar) rfl ?_
  conv => whnf
  refine .ret hA rfl ?_
  conv => whnf
  exact .val
theorem classTrue_any {v : LV} {c : Ln} (h : v.IsL c) (n1 : By) (hn1 : n1.ok) : Ret Try.prog 3 [v.cv c, Go.Ag.byW n1] (B true) := by
  rcases h.cases with hs | hs
  · exact trueLaw2 hs Awake.alive_ret n1 hn1
  · exact classTrue_far hs Awake.alive_ret n1
end Go.Ag
namespace Go.Proofs.Ytgidjimpobeahaa.classTrue
open Go.ChangeShapes Go.WideShapes Go.ChangeAt Go.RowKit
set_option linter.unusedVariables false

theorem own : ownKnob Try.prog.godebug = none := by kernel_rfl
theorem laidOut : laidOutB Try.prog = true := by kernel_rfl

theorem walk (v : Go.Ag.LV) (c : Go.Ag.Ln) (h : v.IsL c) (n1 : Go.Ag.By) (hn1 : n1.ok) (u1 : Value) (u : Value) (w : World) (hu : Go.Ag.RepC (Go.Ag.allOf w) (v.cv c) u) (hu1 : Go.Ag.RepC (Go.Ag.allOf w) (Go.Ag.byW n1) u1) : Calls Try.prog 3 #[u, u1] w fun e w' => e = .returned (.bool true) ∧ RowKit.Below w.heap.size w w' :=
  Go.Ag.calls_of_ok (args := [v.cv c, Go.Ag.byW n1]) (Go.Ag.classTrue_any h n1 hn1) w #[u, u1] rfl ⟨hu, hu1, trivial⟩

set_option maxRecDepth 100000 in
theorem lifted (os : Os) (started : os.Started) (H : Type) (enc : TypeId × Value → H) :
    ReturnsInHanded {} Try.checked os 3 .any (Rows.classTrueSpec.pre6 enc Try.prog Try.f3 Rows.classTrueRow.domain false) (Rows.classTrueSpec.post enc Try.prog Try.f3 false true false false) := by
  refine returnsInHanded_of_change (C := Try.checked) own started (by kernel_rfl) Try.func3
    (ChangeSpec.witness6 (enc := enc) (C := Try.checked) false ⟨#[], #[.agg #[.slice none 0 0, .int .i64 0, .int .i64 0, .int .i64 0], .slice none 0 0], []⟩ 8 (by kernel_rfl) (by kernel_rfl) (by kernel_rfl) (by kernel_rfl)) ?_
  intro W base args ds gs before hval0 hW hcnd _
  have hval : ∀ (j : Nat) t v, Try.f3.params[j]? = some t → args[j]? = some v → Value.okWide Try.prog W .any base t v := hval0
  have hW' := hW
  obtain ⟨p, q, hA0, hV, rfl, hfz, hnd⟩ := hW
  have hA : DataW.TrodAll enc Try.prog W 0 (fun _ => true) true Try.f3.params.toList args.toList ds p := hA0
  rw [Try.params3] at hA hval
  obtain ⟨v0, vs0, d0, ds0, p0, q0, hargs, rfl, rfl, h0, r0⟩ := trodAll_cons hA
  obtain ⟨v1, vs1, d1, ds1, p1, q1, rfl, rfl, rfl, h1, r1⟩ := trodAll_cons r0
  obtain ⟨rfl, rfl, rfl⟩ := trodAll_nil r1
  obtain ⟨rfl, rfl⟩ := trodVars_none hV
  obtain rfl : args = #[v0, v1] := by cases args; simp_all
  have k0 := h0
  have lt0 : ∀ x ∈ p0, x.block < W.heap.size := by obtain ⟨m, hm⟩ := k0; exact DataW.trod_lt m _ _ _ hm
  obtain ⟨tv, t, hs, hu⟩ := Go.Ag.open_line (hval 0 24 v0 rfl rfl) h0
  have k1 := h1
  have lt1 : ∀ x ∈ p1, x.block < W.heap.size := by obtain ⟨m, hm⟩ := k1; exact DataW.trod_lt m _ _ _ hm
  obtain ⟨n1, hn1, hu1⟩ := Go.Ag.open_by2 (hval 1 25 v1 rfl rfl) h1
  clear hA0 hval0
  refine (walk tv t hs n1 hn1 v1 v0 W hu hu1).mono fun e W' ⟨he, bel⟩ => ?_
  subst he
  exact ⟨_, rfl, _, _, _, [], _, [], hW', trodAll_mk1 (shut_bool Try.underlying4 _), (trodAll_cons_mk (Below.trod laidOut (by kernel_rfl) (of_decide_eq_true (by kernel_rfl)) k0 bel lt0) (trodAll_cons_mk (Below.trod laidOut (by kernel_rfl) (of_decide_eq_true (by kernel_rfl)) k1 bel lt1) trodAll_mk0)), rfl, bel.frame _, fun h => by cases h⟩

theorem over : Rows.classTrueRow.holds Try.pinned (OpenSpec.ofChange Rows.classTrueSpec) :=
  OpenClaim.holds_of_wide 3 Try.f3 rfl rfl rfl rfl rfl rfl rfl ⟨rfl, rfl, rfl, rfl, rfl⟩ rfl rfl rfl rfl rfl (by kernel_rfl) Try.func3 (by kernel_rfl)
    (of_decide_eq_true (by kernel_rfl)) (by unfold Func.isWrapper; first | (rw [if_pos (by decide +kernel)]; kernel_rfl) | (rw [if_neg (by decide +kernel)]; exact ⟨rfl, rfl⟩))
    (fun os started H enc _ => lifted os started H enc)

/-- ████ THE STATEMENT ████ -/
theorem proved : Rows.ClassTrueSaid := over
#print axioms proved
end Go.Proofs.Ytgidjimpobeahaa.classTrue
