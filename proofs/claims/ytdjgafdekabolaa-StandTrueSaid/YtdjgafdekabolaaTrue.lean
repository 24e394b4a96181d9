/- The law StandTrue returns true for every input, and the input reads as it did. No conditions. -/
import Derived.Test.YtdjgafdekabolaaStI
import Derived.Test.YtdjgafdekabolaaRows
import Derived.WalkKit
import Derived.ProofKit
import Derived.OpenShut
import Derived.ShutString
import Derived.ChangeOld
import Derived.Below
/- The statement StandTrue. -/
namespace Go.Ag
open Go.Proofs
set_option maxRecDepth 100000
theorem standTrue_far {v : SV} (hfar : Ret Try.prog 12 [v.cv] (B true)) (hA : Ret Try.prog 13 [] (B true)) (bc : List CV) (bo bn : Nat) (w1 : Nat) : Ret Try.prog 5 [v.cv, .sl bc bo bn, .lit (.int .u16 w1)] (B true) := by
  have hfar := fine_far hfar
  refine ret_by (hm := true) Try.func5 rfl ?_
  conv => whnf
  refine .ret hfar rfl ?_
  conv => whnf
  refine .ret hA rfl ?_
  conv => whnf
  exact .val
theorem standTrue_any {v : SV} {s : Sd} (h : v.IsL s) {bc : List CV} {bo bn : Nat} (hb : ByL bc bo bn) {n1 : Int} (hn1 : (Lit.int .u16 n1).wf = true) : Ret Try.prog 5 [v.cv, .sl bc bo bn, .lit (.int .u16 n1)] (B true) := by
  obtain ⟨w1, rfl, hw1⟩ := law_u16 hn1
  rcases h.cases with hs | hs
  · exact trueLaw_ret hs Awake.awake_ret hb w1 hw1
  · exact standTrue_far hs Awake.awake_ret bc bo bn w1
end Go.Ag
namespace Go.Proofs.Ytdjgafdekabolaa.standTrue
open Go.ChangeShapes Go.WideShapes Go.ChangeAt Go.RowKit
set_option linter.unusedVariables false

theorem own : ownKnob Try.prog.godebug = none := by kernel_rfl
theorem laidOut : laidOutB Try.prog = true := by kernel_rfl

theorem walk (v : Go.Ag.SV) (s : Go.Ag.Sd) (h : v.IsL s) {bc : List Go.Ag.CV} {bo bn : Nat} (hb : Go.Ag.ByL bc bo bn) (n1 : Int) (hn1 : (Lit.int .u16 n1).wf = true) (u u1 : Value) (w : World) (hu : Go.Ag.RepC (Go.Ag.allOf w) v.cv u) (hu1 : Go.Ag.RepC (Go.Ag.allOf w) (.sl bc bo bn) u1) : Calls Try.prog 5 #[u, u1, .int .u16 n1] w fun e w' => e = .returned (.bool true) ∧ RowKit.Below w.heap.size w w' :=
  Go.Ag.calls_of_ok (args := [v.cv, .sl bc bo bn, .lit (.int .u16 n1)]) (Go.Ag.standTrue_any h hb hn1) w #[u, u1, .int .u16 n1] rfl ⟨hu, hu1, rfl, trivial⟩

set_option maxRecDepth 100000 in
theorem lifted (os : Os) (started : os.Started) (H : Type) (enc : TypeId × Value → H) :
    ReturnsInHanded {} Try.checked os 5 .any (Rows.standTrueSpec.pre6 enc Try.prog Try.f5 Rows.standTrueRow.domain false) (Rows.standTrueSpec.post enc Try.prog Try.f5 false true false false) := by
  refine returnsInHanded_of_change (C := Try.checked) own started (by kernel_rfl) Try.func5
    (ChangeSpec.witness6 (enc := enc) (C := Try.checked) false ⟨#[], #[.agg #[.int .i64 0, .int .i64 0, .int .i64 0, .int .i64 0, .int .i64 0, .int .i64 0, .slice none 0 0, .slice none 0 0, .slice none 0 0], .slice none 0 0, .int .u16 0], []⟩ 8 (by kernel_rfl) (by kernel_rfl) (by kernel_rfl) (by kernel_rfl)) ?_
  intro W base args ds gs before hval0 hW hcnd _
  have hval : ∀ (j : Nat) t v, Try.f5.params[j]? = some t → args[j]? = some v → Value.okWide Try.prog W .any base t v := hval0
  have hW' := hW
  obtain ⟨p, q, hA0, hV, rfl, hfz, hnd⟩ := hW
  have hA : DataW.TrodAll enc Try.prog W 0 (fun _ => true) true Try.f5.params.toList args.toList ds p := hA0
  rw [Try.params5] at hA hval
  obtain ⟨v0, vs0, d0, ds0, p0, q0, hargs, rfl, rfl, h0, r0⟩ := trodAll_cons hA
  obtain ⟨v1, vs1, d1, ds1, p1, q1, rfl, rfl, rfl, h1, r1⟩ := trodAll_cons r0
  obtain ⟨v2, vs2, d2, ds2, p2, q2, rfl, rfl, rfl, h2, r2⟩ := trodAll_cons r1
  obtain ⟨rfl, rfl, rfl⟩ := trodAll_nil r2
  obtain ⟨rfl, rfl⟩ := trodVars_none hV
  obtain rfl : args = #[v0, v1, v2] := by cases args; simp_all
  have k0 := h0
  have lt0 : ∀ x ∈ p0, x.block < W.heap.size := by obtain ⟨m, hm⟩ := k0; exact DataW.trod_lt m _ _ _ hm
  obtain ⟨sv, s, hs, hu⟩ := Go.Ag.open_stand (hval 0 29 v0 rfl rfl) h0
  have k1 := h1
  have lt1 : ∀ x ∈ p1, x.block < W.heap.size := by obtain ⟨m, hm⟩ := k1; exact DataW.trod_lt m _ _ _ hm
  obtain ⟨bc, bo, bn, hb, hu1⟩ := Go.Ag.open_by (hval 1 40 v1 rfl rfl) h1
  obtain ⟨n1, rfl, rfl, rfl, hn1⟩ := open_int Try.underlying41 (hval 2 41 v2 rfl rfl) h2
  clear hA0 hval0
  refine (walk sv s hs hb n1 hn1 v0 v1 W hu hu1).mono fun e W' ⟨he, bel⟩ => ?_
  subst he
  exact ⟨_, rfl, _, _, _, [], _, [], hW', trodAll_mk1 (shut_bool Try.underlying4 _), (trodAll_cons_mk (Below.trod laidOut (by kernel_rfl) (of_decide_eq_true (by kernel_rfl)) k0 bel lt0) (trodAll_cons_mk (Below.trod laidOut (by kernel_rfl) (of_decide_eq_true (by kernel_rfl)) k1 bel lt1) (trodAll_cons_mk (shut_int Try.underlying41 hn1) trodAll_mk0))), rfl, bel.frame _, fun h => by cases h⟩

theorem over : Rows.standTrueRow.holds Try.pinned (OpenSpec.ofChange Rows.standTrueSpec) :=
  OpenClaim.holds_of_wide 5 Try.f5 rfl rfl rfl rfl rfl rfl rfl ⟨rfl, rfl, rfl, rfl, rfl⟩ rfl rfl rfl rfl rfl (by kernel_rfl) Try.func5 (by kernel_rfl)
    (of_decide_eq_true (by kernel_rfl)) (by unfold Func.isWrapper; first | (rw [if_pos (by decide +kernel)]; kernel_rfl) | (rw [if_neg (by decide +kernel)]; exact ⟨rfl, rfl⟩))
    (fun os started H enc _ => lifted os started H enc)

/-- ████ THE STATEMENT ████ -/
theorem proved : Rows.StandTrueSaid := over
#print axioms proved
end Go.Proofs.Ytdjgafdekabolaa.standTrue
