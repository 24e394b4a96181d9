/- The law StandMore returns true for every input, and the input reads as it did. No conditions. -/
import Derived.Test.YtdjgafdekabolaaStM
import Derived.Test.YtdjgafdekabolaaRows
import Derived.WalkKit
import Derived.ProofKit
import Derived.OpenShut
import Derived.ShutString
import Derived.ChangeOld
import Derived.Below
/- The statement StandMore. -/
namespace Go.Ag
open Go.Proofs Go.ChangeShapes Go.WideShapes Go.RowKit
set_option maxRecDepth 100000
section
variable {H : Type} {enc : TypeId × Value → H} {w : World} {base : Nat} {spare : Nat → Bool} {held : Bool}
theorem open_look {r : Reach} {b0 : Nat} {v : Value} {x : DataW H} {ps : List MemPlace} (hv : Value.okWide Try.prog w r b0 58 v) (h : DataW.Trod enc Try.prog w base spare held 58 v x ps) : ∃ ex : Lk, v = .agg #[.int .i64 ex.minute, .int .i64 ex.lo, .int .i64 ex.hi] := by
  obtain ⟨cs, rfl, hsz⟩ := okWide_struct Try.underlying58 hv
  obtain ⟨fuel, hf⟩ := h
  obtain ⟨l⟩ := cs
  obtain ⟨zs, hz, he⟩ := look_int hf
  match zs, hz with
  | [a, b, c], _ =>
    have he' : l = [.int .i64 a, .int .i64 b, .int .i64 c] := he
    subst he'
    exact ⟨⟨a, b, c⟩, rfl⟩
end
theorem rep_look (f : Nat → Option Obj) (ex : Lk) : RepC f (exC ex) (.agg #[.int .i64 ex.minute, .int .i64 ex.lo, .int .i64 ex.hi]) := ⟨_, rfl, rfl, rfl, rfl, rfl, trivial⟩
theorem standMore_far {v : SV} (hfar : Ret Try.prog 12 [v.cv] (B true)) (hA : Ret Try.prog 13 [] (B true)) (w1 : Lk) (w2 : Nat) (w3 : Nat) (w4 : Nat) : Ret Try.prog 10 [v.cv, exC w1, .lit (.int .u8 w2), .lit (.int .u8 w3), .lit (.int .u16 w4)] (B true) := by
  have hfar := fine_far hfar
  refine ret_by (hm := true) Try.func10 rfl ?_
  conv => whnf
  refine .ret hfar rfl ?_
  conv => whnf
  refine .ret hA rfl ?_
  conv => whnf
  exact .val
theorem standMore_any {v : SV} {s : Sd} (h : v.IsL s) (n1 : Lk) {n2 : Int} (hn2 : (Lit.int .u8 n2).wf = true) {n3 : Int} (hn3 : (Lit.int .u8 n3).wf = true) {n4 : Int} (hn4 : (Lit.int .u16 n4).wf = true) : Ret Try.prog 10 [v.cv, Go.Ag.exC n1, .lit (.int .u8 n2), .lit (.int .u8 n3), .lit (.int .u16 n4)] (B true) := by
  obtain ⟨w2, rfl, hw2⟩ := law_u8 hn2
  obtain ⟨w3, rfl, hw3⟩ := law_u8 hn3
  obtain ⟨w4, rfl, hw4⟩ := law_u16 hn4
  rcases h.cases with hs | hs
  · exact moreLaw_ret hs Awake.awake_ret n1 w2 w3 w4 hw2 hw3 hw4
  · exact standMore_far hs Awake.awake_ret n1 w2 w3 w4
end Go.Ag
namespace Go.Proofs.Ytdjgafdekabolaa.standMore
open Go.ChangeShapes Go.WideShapes Go.ChangeAt Go.RowKit
set_option linter.unusedVariables false

theorem own : ownKnob Try.prog.godebug = none := by kernel_rfl
theorem laidOut : laidOutB Try.prog = true := by kernel_rfl

theorem walk (v : Go.Ag.SV) (s : Go.Ag.Sd) (h : v.IsL s) (n1 : Go.Ag.Lk) (n2 : Int) (hn2 : (Lit.int .u8 n2).wf = true) (n3 : Int) (hn3 : (Lit.int .u8 n3).wf = true) (n4 : Int) (hn4 : (Lit.int .u16 n4).wf = true) (u : Value) (w : World) (hu : Go.Ag.RepC (Go.Ag.allOf w) v.cv u) : Calls Try.prog 10 #[u, .agg #[.int .i64 n1.minute, .int .i64 n1.lo, .int .i64 n1.hi], .int .u8 n2, .int .u8 n3, .int .u16 n4] w fun e w' => e = .returned (.bool true) ∧ RowKit.Below w.heap.size w w' :=
  Go.Ag.calls_of_ok (args := [v.cv, Go.Ag.exC n1, .lit (.int .u8 n2), .lit (.int .u8 n3), .lit (.int .u16 n4)]) (Go.Ag.standMore_any h n1 hn2 hn3 hn4) w #[u, .agg #[.int .i64 n1.minute, .int .i64 n1.lo, .int .i64 n1.hi], .int .u8 n2, .int .u8 n3, .int .u16 n4] rfl ⟨hu, Go.Ag.rep_look _ _, rfl, rfl, rfl, trivial⟩

set_option maxRecDepth 100000 in
theorem lifted (os : Os) (started : os.Started) (H : Type) (enc : TypeId × Value → H) :
    ReturnsInHanded {} Try.checked os 10 .any (Rows.standMoreSpec.pre6 enc Try.prog Try.f10 Rows.standMoreRow.domain false) (Rows.standMoreSpec.post enc Try.prog Try.f10 false true false false) := by
  refine returnsInHanded_of_change (C := Try.checked) own started (by kernel_rfl) Try.func10
    (ChangeSpec.witness6 (enc := enc) (C := Try.checked) false ⟨#[], #[.agg #[.int .i64 0, .int .i64 0, .int .i64 0, .int .i64 0, .int .i64 0, .int .i64 0, .slice none 0 0, .slice none 0 0, .slice none 0 0], .agg #[.int .i64 0, .int .i64 0, .int .i64 0], .int .u8 0, .int .u8 0, .int .u16 0], []⟩ 8 (by kernel_rfl) (by kernel_rfl) (by kernel_rfl) (by kernel_rfl)) ?_
  intro W base args ds gs before hval0 hW hcnd _
  have hval : ∀ (j : Nat) t v, Try.f10.params[j]? = some t → args[j]? = some v → Value.okWide Try.prog W .any base t v := hval0
  have hW' := hW
  obtain ⟨p, q, hA0, hV, rfl, hfz, hnd⟩ := hW
  have hA : DataW.TrodAll enc Try.prog W 0 (fun _ => true) true Try.f10.params.toList args.toList ds p := hA0
  rw [Try.params10] at hA hval
  obtain ⟨v0, vs0, d0, ds0, p0, q0, hargs, rfl, rfl, h0, r0⟩ := trodAll_cons hA
  obtain ⟨v1, vs1, d1, ds1, p1, q1, rfl, rfl, rfl, h1, r1⟩ := trodAll_cons r0
  obtain ⟨v2, vs2, d2, ds2, p2, q2, rfl, rfl, rfl, h2, r2⟩ := trodAll_cons r1
  obtain ⟨v3, vs3, d3, ds3, p3, q3, rfl, rfl, rfl, h3, r3⟩ := trodAll_cons r2
  obtain ⟨v4, vs4, d4, ds4, p4, q4, rfl, rfl, rfl, h4, r4⟩ := trodAll_cons r3
  obtain ⟨rfl, rfl, rfl⟩ := trodAll_nil r4
  obtain ⟨rfl, rfl⟩ := trodVars_none hV
  obtain rfl : args = #[v0, v1, v2, v3, v4] := by cases args; simp_all
  have k0 := h0
  have lt0 : ∀ x ∈ p0, x.block < W.heap.size := by obtain ⟨m, hm⟩ := k0; exact DataW.trod_lt m _ _ _ hm
  obtain ⟨sv, s, hs, hu⟩ := Go.Ag.open_stand (hval 0 29 v0 rfl rfl) h0
  have k1 := h1
  have lt1 : ∀ x ∈ p1, x.block < W.heap.size := by obtain ⟨m, hm⟩ := k1; exact DataW.trod_lt m _ _ _ hm
  obtain ⟨n1, rfl⟩ := Go.Ag.open_look (hval 1 58 v1 rfl rfl) h1
  obtain ⟨n2, rfl, rfl, rfl, hn2⟩ := open_int Try.underlying5 (hval 2 5 v2 rfl rfl) h2
  obtain ⟨n3, rfl, rfl, rfl, hn3⟩ := open_int Try.underlying5 (hval 3 5 v3 rfl rfl) h3
  obtain ⟨n4, rfl, rfl, rfl, hn4⟩ := open_int Try.underlying41 (hval 4 41 v4 rfl rfl) h4
  clear hA0 hval0
  refine (walk sv s hs n1 n2 hn2 n3 hn3 n4 hn4 v0 W hu).mono fun e W' ⟨he, bel⟩ => ?_
  subst he
  exact ⟨_, rfl, _, _, _, [], _, [], hW', trodAll_mk1 (shut_bool Try.underlying4 _), (trodAll_cons_mk (Below.trod laidOut (by kernel_rfl) (of_decide_eq_true (by kernel_rfl)) k0 bel lt0) (trodAll_cons_mk (Below.trod laidOut (by kernel_rfl) (of_decide_eq_true (by kernel_rfl)) k1 bel lt1) (trodAll_cons_mk (shut_int Try.underlying5 hn2) (trodAll_cons_mk (shut_int Try.underlying5 hn3) (trodAll_cons_mk (shut_int Try.underlying41 hn4) trodAll_mk0))))), rfl, bel.frame _, fun h => by cases h⟩

theorem over : Rows.standMoreRow.holds Try.pinned (OpenSpec.ofChange Rows.standMoreSpec) :=
  OpenClaim.holds_of_wide 10 Try.f10 rfl rfl rfl rfl rfl rfl rfl ⟨rfl, rfl, rfl, rfl, rfl⟩ rfl rfl rfl rfl rfl (by kernel_rfl) Try.func10 (by kernel_rfl)
    (of_decide_eq_true (by kernel_rfl)) (by unfold Func.isWrapper; first | (rw [if_pos (by decide +kernel)]; kernel_rfl) | (rw [if_neg (by decide +kernel)]; exact ⟨rfl, rfl⟩))
    (fun os started H enc _ => lifted os started H enc)

/-- ████ THE STATEMENT ████ -/
theorem proved : Rows.StandMoreSaid := over
#print axioms proved
end Go.Proofs.Ytdjgafdekabolaa.standMore
