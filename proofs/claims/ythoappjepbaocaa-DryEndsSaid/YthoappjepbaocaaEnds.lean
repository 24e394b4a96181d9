/- The law DryEnds returns true for every input, and the input reads as it did. No conditions. -/
import Derived.Test.YthoappjepbaocaaDrH
import Derived.Test.YthoappjepbaocaaRows
import Derived.WalkKit
import Derived.ProofKit
import Derived.OpenShut
import Derived.ShutString
import Derived.ChangeOld
import Derived.Below
/- The statement of the ends of pens and mobs. -/
namespace Go.Ag
open Go.Proofs
set_option maxRecDepth 100000
theorem ends_far {v : DV} (hfar : max (v.mn : Int) (v.pn : Int) > 40) (hA : Ret Try.prog 13 [] (B true)) (w : Nat) : Ret Try.prog 6 [v.cv, .lit (.int .u8 w)] (B true) := by
  have hf := far_any v
  have e : decide (max (v.mn : Int) (v.pn : Int) > 40) = true := by simpa using hfar
  rw [e] at hf
  refine ret_by (hm := true) Try.func6 rfl ?_
  conv => whnf
  refine .ret hf rfl ?_
  conv => whnf
  refine .ret hA rfl ?_
  conv => whnf
  exact .val
theorem ends_any {v : DV} {d : Dr} (h : v.IsL d) {n : Int} (hn : (Lit.int .u8 n).wf = true) : Ret Try.prog 6 [v.cv, .lit (.int .u8 n)] (B true) := by
  obtain ⟨w, rfl, hw⟩ : ∃ w : Nat, n = w ∧ w < 256 := by
    have h2 : 0 ≤ n ∧ n < 256 := by
      have m0 : IntKind.u8.min = 0 := by decide
      have m1 : IntKind.u8.max = 255 := by decide
      simp [Lit.wf, IntKind.signed, IntKind.bits] at hn
      omega
    exact ⟨n.toNat, by omega, by omega⟩
  by_cases hs : v.mn ≤ 40 ∧ v.pn ≤ 40
  · have e1 : v.mn = d.mobs.length := by rw [h.m.len]; simp
    have e2 : v.pn = d.pens.length := by rw [h.p.len]; simp
    exact ends_ret ⟨h.m, h.p, h.lim, by omega⟩ Awake.awake_ret w hw
  · exact ends_far (by omega) Awake.awake_ret w
end Go.Ag
namespace Go.Proofs.Ythoappjepbaocaa.dryEnds
open Go.ChangeShapes Go.WideShapes Go.ChangeAt Go.RowKit
set_option linter.unusedVariables false

theorem own : ownKnob Try.prog.godebug = none := by kernel_rfl
theorem laidOut : laidOutB Try.prog = true := by kernel_rfl

theorem walk (v : Go.Ag.DV) (d : Go.Ag.Dr) (h : v.IsL d) (n : Int) (hn : (Lit.int .u8 n).wf = true) (u : Value) (w : World) (hu : Go.Ag.RepC (Go.Ag.allOf w) v.cv u) : Calls Try.prog 6 #[u, .int .u8 n] w fun e w' => e = .returned (.bool true) ∧ RowKit.Below w.heap.size w w' :=
  Go.Ag.calls_of_ok (args := [v.cv, .lit (.int .u8 n)]) (Go.Ag.ends_any h hn) w #[u, .int .u8 n] rfl ⟨hu, rfl, trivial⟩

set_option maxRecDepth 100000 in
theorem lifted (os : Os) (started : os.Started) (H : Type) (enc : TypeId × Value → H) :
    ReturnsInHanded {} Try.checked os 6 .any (Rows.dryEndsSpec.pre6 enc Try.prog Try.f6 Rows.dryEndsRow.domain false) (Rows.dryEndsSpec.post enc Try.prog Try.f6 false true false false) := by
  refine returnsInHanded_of_change (C := Try.checked) own started (by kernel_rfl) Try.func6
    (ChangeSpec.witness6 (enc := enc) (C := Try.checked) false ⟨#[], #[.agg #[.slice none 0 0, .slice none 0 0, .int .i64 0], .int .u8 0], []⟩ 8 (by kernel_rfl) (by kernel_rfl) (by kernel_rfl) (by kernel_rfl)) ?_
  intro W base args ds gs before hval0 hW hcnd _
  have hval : ∀ (j : Nat) t v, Try.f6.params[j]? = some t → args[j]? = some v → Value.okWide Try.prog W .any base t v := hval0
  have hW' := hW
  obtain ⟨p, q, hA0, hV, rfl, hfz, hnd⟩ := hW
  have hA : DataW.TrodAll enc Try.prog W 0 (fun _ => true) true Try.f6.params.toList args.toList ds p := hA0
  rw [Try.params6] at hA hval
  obtain ⟨v0, vs0, d0, ds0, p0, q0, hargs, rfl, rfl, h0, r0⟩ := trodAll_cons hA
  obtain ⟨v1, vs1, d1, ds1, p1, q1, rfl, rfl, rfl, h1, r1⟩ := trodAll_cons r0
  obtain ⟨rfl, rfl, rfl⟩ := trodAll_nil r1
  obtain ⟨rfl, rfl⟩ := trodVars_none hV
  obtain rfl : args = #[v0, v1] := by cases args; simp_all
  have k0 := h0
  have lt0 : ∀ x ∈ p0, x.block < W.heap.size := by obtain ⟨m, hm⟩ := k0; exact DataW.trod_lt m _ _ _ hm
  obtain ⟨dv, d, hd, hu⟩ := Go.Ag.open_drove (hval 0 25 v0 rfl rfl) h0
  obtain ⟨n, rfl, rfl, rfl, hn⟩ := open_int Try.underlying5 (hval 1 5 v1 rfl rfl) h1
  clear hA0 hval0
  refine (walk dv d hd n hn v0 W hu).mono fun e W' ⟨he, bel⟩ => ?_
  subst he
  exact ⟨_, rfl, _, _, _, [], _, [], hW', trodAll_mk1 (shut_bool Try.underlying4 _), (trodAll_cons_mk (Below.trod laidOut (by kernel_rfl) (of_decide_eq_true (by kernel_rfl)) k0 bel lt0) (trodAll_cons_mk (shut_int Try.underlying5 hn) trodAll_mk0)), rfl, bel.frame _, fun h => by cases h⟩

theorem over : Rows.dryEndsRow.holds Try.pinned (OpenSpec.ofChange Rows.dryEndsSpec) :=
  OpenClaim.holds_of_wide 6 Try.f6 rfl rfl rfl rfl rfl rfl rfl ⟨rfl, rfl, rfl, rfl, rfl⟩ rfl rfl rfl rfl rfl (by kernel_rfl) Try.func6 (by kernel_rfl)
    (of_decide_eq_true (by kernel_rfl)) (by unfold Func.isWrapper; first | (rw [if_pos (by decide +kernel)]; kernel_rfl) | (rw [if_neg (by decide +kernel)]; exact ⟨rfl, rfl⟩))
    (fun os started H enc _ => lifted os started H enc)

/-- ████ THE STATEMENT ████ -/
theorem proved : Rows.DryEndsSaid := over
#print axioms proved
end Go.Proofs.Ythoappjepbaocaa.dryEnds
