/- The law StandTakes returns true for arguments that are not far too long; arguments read as data. No conditions. -/
import Derived.Test.YtdjgafdekabolaaStC
import Derived.Deep.Slices
import Derived.Deep.Strs
import Derived.Lib.SmallJoins
import Derived.WideShapes
import Derived.ChangeSame
import Derived.OpenShut
/- Layer 4: a kind can take just as long as leaves a truth: the law. -/
namespace Go.Ag
open Go.Proofs
set_option maxRecDepth 100000

theorem eg4 : Try.prog.eqGuardType Try.prog.depth 4 = false := by kernel_rfl
theorem eq_bool (a b : Bool) : pureRun Try.prog (Op.equal 4 (.bool a) (.bool b)) = some (a == b) := by
  cases a <;> cases b <;> kernel_rfl
theorem bool_neq {o : Oper} {x y : Operand} {t2 : TypeId} {σ : Operand → AV} {a b : Bool} (ho : o.op = .binOp .neq 4 x y t2) (hx : σ x = .c (B a)) (hy : σ y = .c (B b)) (rd : Nat → AB) (n : Nat) :
    aop Try.prog o σ rd n = some (.simple { val := .c (B (a != b)) }) := by
  have vx : (σ x).toVal = some (.bool a) := by rw [hx]; rfl
  have vy : (σ y).toVal = some (.bool b) := by rw [hy]; rfl
  unfold aop
  rw [ho]
  simp only [abinOp, vx, vy, litBin]
  unfold pureOp
  have hv : (allVals σ o.op.operands.toList && notSelect o.op) = true := by
    rw [ho]; simp [Op.operands, allVals, vx, vy, notSelect]
  rw [if_pos hv]
  have hr : pureRun Try.prog (execOp (fun x => ((σ x).toVal).getD Go.undef) o) = some (.value (.bool (a != b))) := by
    unfold execOp
    rw [ho]
    simp only [vx, vy, Option.getD_some, eqGuard, binOp, pureRun_bind, pp0, Option.bind_some, pureRun_ite, eg4]
    simp [pureRun_bind, pp0, eg4, eq_bool, pureRun_pure, pureRun_ite, bne]
  rw [hr]
  rfl

theorem mkspan_ret (a b : Int) : Ret Try.prog 34 [I a, I b] (.agg [I a, I b]) := by
  refine ret_by (hm := true) Try.func34 rfl ?_
  conv => whnf
  exact .val
def insB (n a b : Int) : Bool := decide (a ≤ n) && decide (n ≤ b)
theorem inside_ret (n a b : Int) : Ret Try.prog 31 [I n, .agg [I a, I b]] (B (insB n a b)) := by
  refine ret_by (hm := true) Try.func31 rfl ?_
  conv => whnf
  unfold insB
  cases h1 : decide (a ≤ n)
  · conv => whnf
    exact .val
  · conv => whnf
    exact .val

/-- The argument with a kind that takes just so long. -/
def pinV (v : SV) (k : Nat) (n : Int) : SV := { v with lo := v.lo.put k n, hi := v.hi.put k n }
theorem pinV_is {v : SV} {s : Sd} (hv : v.Is s) (k : Nat) (n : Int) : (pinV v k n).Is (pin s k n) :=
  ⟨by show v.lo.put k n = s.lo.put k n; rw [hv.lo], by show v.hi.put k n = s.hi.put k n; rw [hv.hi], hv.r, hv.k, hv.l, hv.short⟩

/-- What was told, of kinds that take less. -/
structure Acc (s : Sd) (f : T3 → Int) (k : Nat) (n c1 c2 : Int) : Prop where
  all : ∀ t ∈ truths s, t.get k < n → c1 ≤ f t ∧ f t ≤ c2
  ends : (c1 = 1048576 ∧ c2 = -1 ∧ ∀ t ∈ truths s, ¬ t.get k < n) ∨ ((∃ t ∈ truths s, f t = c1) ∧ ∃ t ∈ truths s, f t = c2)
theorem Acc.start {s : Sd} {f : T3 → Int} {k : Nat} (hk : k ≤ 2) : Acc s f k (s.lo.get k) 1048576 (-1) := by
  have h : ∀ t ∈ truths s, ¬ t.get k < s.lo.get k := fun t ht => by
    have := combo_get (mem_truths.1 ht).1 hk; omega
  exact ⟨fun t ht hlt => absurd hlt (h t ht), .inl ⟨rfl, rfl, h⟩⟩
theorem Acc.skip {s : Sd} {f : T3 → Int} {k : Nat} {n c1 c2 : Int} (h : Acc s f k n c1 c2) (hn : ∀ t ∈ truths s, t.get k ≠ n) : Acc s f k (n + 1) c1 c2 := by
  refine ⟨fun t ht hlt => h.all t ht (by have := hn t ht; omega), ?_⟩
  rcases h.ends with ⟨e1, e2, e3⟩ | e
  · exact .inl ⟨e1, e2, fun t ht hlt => e3 t ht (by have := hn t ht; omega)⟩
  · exact .inr e
theorem Acc.step {s : Sd} {f : T3 → Int} {k : Nat} (hk : k ≤ 2) {n c1 c2 d1 d2 : Int} (h : Acc s f k n c1 c2) (hn1 : s.lo.get k ≤ n) (hn2 : n ≤ s.hi.get k) (hb : ∀ t ∈ truths s, 0 ≤ f t ∧ f t ≤ 100000) (hd : IsSpan (pin s k n) f (d1, d2)) : Acc s f k (n + 1) (min c1 d1) (max c2 d2) := by
  obtain ⟨⟨t1, m1, e1⟩, ⟨t2, m2, e2⟩, ha⟩ := hd
  dsimp only at e1 e2 ha
  have g1 := (pin_truths hk hn1 hn2).1 m1
  have g2 := (pin_truths hk hn1 hn2).1 m2
  have hb1 := hb t1 g1.1
  have hb2 := hb t2 g2.1
  refine ⟨fun t ht hlt => ?_, .inr ⟨?_, ?_⟩⟩
  · by_cases he : t.get k = n
    · have := ha t ((pin_truths hk hn1 hn2).2 ⟨ht, he⟩); omega
    · have := h.all t ht (by omega); omega
  · rcases h.ends with ⟨x1, x2, x3⟩ | ⟨⟨t, m, e⟩, _⟩
    · exact ⟨t1, g1.1, by omega⟩
    · rcases Int.le_total c1 d1 with hle | hle
      · exact ⟨t, m, by omega⟩
      · exact ⟨t1, g1.1, by omega⟩
  · rcases h.ends with ⟨x1, x2, x3⟩ | ⟨_, ⟨t, m, e⟩⟩
    · exact ⟨t2, g2.1, by omega⟩
    · rcases Int.le_total c2 d2 with hle | hle
      · exact ⟨t2, g2.1, by omega⟩
      · exact ⟨t, m, by omega⟩
theorem Acc.last {s : Sd} {f : T3 → Int} {k : Nat} (hk : k ≤ 2) {n c1 c2 : Int} (h : Acc s f k n c1 c2) (hn : s.hi.get k < n) (hT : truths s ≠ []) {b1 b2 : Int} (hb : IsSpan s f (b1, b2)) : c1 = b1 ∧ c2 = b2 := by
  have hall : ∀ t ∈ truths s, t.get k < n := fun t ht => by have := combo_get (mem_truths.1 ht).1 hk; omega
  obtain ⟨⟨t1, m1, e1⟩, ⟨t2, m2, e2⟩, ha⟩ := hb
  dsimp only at e1 e2 ha
  have a1 := h.all t1 m1 (hall t1 m1)
  have a2 := h.all t2 m2 (hall t2 m2)
  rcases h.ends with ⟨x1, x2, x3⟩ | ⟨⟨t, m, e⟩, ⟨t', m', e'⟩⟩
  · exact absurd (hall t1 m1) (x3 t1 m1)
  · have := ha t m
    have := ha t' m'
    omega

set_option maxHeartbeats 4000000 in
theorem takesLaw_ret {v : SV} {s : Sd} (hv : v.Is s) (hA : Ret Try.prog 13 [] (B true)) (w1 w2 : Nat) (hw1 : w1 < 256) (hw2 : w2 < 256) : Ret Try.prog 7 [v.cv, .lit (.int .u8 w1), .lit (.int .u8 w2)] (B true) := by
  have e1 := hv.lo; have e2 := hv.hi; have e3 := hv.kn; have e4 := hv.short
  refine ret_by (hm := true) Try.func7 rfl ?_
  conv => whnf
  refine .ret (fine_ret hv) rfl ?_
  conv => whnf
  cases hd : validB s
  · conv => whnf
    refine .ret hA rfl ?_
    conv => whnf
    exact .val
  conv => whnf
  cases h0 : ((v.kn : Int) == 0)
  case true =>
    conv => whnf
    refine .ret hA rfl ?_
    conv => whnf
    exact .val
  have hkn : (v.kn : Int) ≠ 0 := by simpa using h0
  conv => whnf
  refine draw_by (hm := true) (by kernel_rfl) (by kernel_rfl) ?_
  conv => whnf
  have hrem : (IntKind.i64.wrap (w1 : Int)).tmod 3 = ((w1 % 3 : Nat) : Int) := rem_nat hw1 3
  rw [hrem]
  refine dplain_val (rem_to (a := IntKind.i64.wrap w2) (b := v.kn) ((w2 % v.kn : Nat) : Int) rfl rfl rfl (by omega) (rem_nat hw2 _) _ _) ?_
  conv => whnf
  refine ⟨by kernel_rfl, ?_⟩
  obtain ⟨k, hk, hk2⟩ : ∃ k, w1 % 3 = k ∧ k ≤ 2 := ⟨_, rfl, by have := Nat.mod_lt w1 (show 0 < 3 by omega); omega⟩
  obtain ⟨j, hj, hjl⟩ : ∃ j, w2 % v.kn = j ∧ j < s.sheep.length := ⟨_, rfl, by rw [← e3]; exact Nat.mod_lt _ (by omega)⟩
  rw [hk, hj]
  have ht := takes_ret hv k
  have hdn := done_ret hv j
  have hcl := clash_ret hv
  rw [show inB (k : Int) 0 2 = true by simp [inB]; omega, Int.toNat_natCast] at ht
  have hjin : inB (j : Int) 0 (s.sheep.length - 1) = true := by simp [inB]; omega
  rw [hjin, Int.toNat_natCast] at hdn
  by_cases hT : truths s = []
  · have x1 : spanT s k = none := span_none.2 hT
    have x2 : spanM s (.doneAt j) = none := span_none.2 hT
    rw [x1, spR_no hd] at ht
    rw [x2, spR_no hd] at hdn
    rw [clash_no hd hT] at hcl
    dsimp only [spV] at ht hdn hcl
    generalize (fewest s : Int) = F at hcl
    conv => whnf
    refine .ret ht rfl ?_
    conv => whnf
    refine .ret hdn rfl ?_
    conv => whnf
    refine .ret hcl rfl ?_
    conv => whnf
    refine ⟨_, bool_neq rfl rfl rfl _ _, ?_⟩
    conv => whnf
    refine ⟨_, span_neq rfl rfl rfl _ _, ?_⟩
    conv => whnf
    refine ⟨_, span_neq rfl rfl rfl _ _, ?_⟩
    conv => whnf
    refine .ret (mkspan_ret _ _) rfl ?_
    conv => whnf
    obtain rfl | rfl | rfl : k = 0 ∨ k = 1 ∨ k = 2 := by omega
    · conv => whnf
      refine ⟨by decide, ?_⟩
      conv => whnf
      refine loop_by (I := fun m st => ∃ (n : Int) (c1 c2 : Int) (h : Heap), s.lo.get 0 ≤ n ∧ m = (s.hi.get 0 + 1 - n).toNat ∧ Heap.at h 0 = v.blk ∧ Heap.at h 1 = .blk [.c (I 0), .c (I 0)] ∧ Heap.at h 2 = .blk [.c (I 0), .c (I 0)] ∧ Heap.at h 3 = .blk [.c (I c1), .c (I c2)] ∧ 3 < h.n ∧ Acc s (fun t => Me.of (dayOf s t) (.doneAt j)) 0 n c1 c2 ∧
        Has st 175 [(3, .ptr 0 0), (7, .c (I ((0 : Nat) : Int))), (8, .c (I j)), (9, .ptr 1 0), (10, .c (I 10)), (11, .ptr 2 0), (15, .ptr 3 0), (16, .c (I n))] [] none h) ?_ (k := (s.hi.get 0 + 1 - s.lo.get 0).toNat)
        ⟨s.lo.get 0, 1048576, -1, _, Int.le_refl _, rfl, rfl, rfl, rfl, rfl, Nat.lt_succ_self 3, .start (by omega), rfl, ⟨rfl, rfl, rfl, rfl, rfl, rfl, rfl, by rw [← e1]; rfl, trivial⟩, rfl, rfl, rfl, rfl⟩
      rintro m st ⟨n, c1, c2, h, hn0, rfl, h0, h1, h2, h3, hn, acc, hs1⟩
      have hnl := combos_narrow hd 0
      have vlo : v.lo.a = s.lo.get 0 := by rw [e1]; rfl
      have vhi : v.hi.a = s.hi.get 0 := by rw [e2]; rfl
      refine hs1.run (hm := false) ?_
      conv => whnf
      refine ⟨by decide, ?_⟩
      conv => whnf
      refine ⟨_, h0, ?_⟩
      conv => whnf
      cases hc : decide (n ≤ v.hi.a)
      case false =>
        have hc : s.hi.get 0 < n := by rw [← vhi]; simpa using hc
        conv => whnf
        refine .ret hA rfl ?_
        conv => whnf
        exact .val
      have hc : n ≤ s.hi.get 0 := by rw [← vhi]; simpa using hc
      have hdx := done_ret (pinV_is hv 0 n) j
      rw [show inB (j : Int) 0 ((pin s 0 n).sheep.length - 1) = true from hjin, Int.toNat_natCast] at hdx
      have hdp := pin_valid hd (k := 0) (by omega) hn0 hc
      conv => whnf
      refine ⟨_, h0, ?_⟩
      conv => whnf
      refine ⟨_, at_push_self _ _, ?_⟩
      conv => whnf
      refine .ret (mkspan_ret _ _) rfl ?_
      conv => whnf
      refine ⟨by decide, ?_⟩
      conv => whnf
      refine ⟨_, at_new _ _ _, ?_⟩
      conv => whnf
      refine ⟨_, at_set_self _ _ (by rw [new_n]; omega), ?_⟩
      conv => whnf
      have low : ∀ i, i < 4 → ∀ (x y z : AB), Heap.at (((h.push .dead x).set .dead h.n y).set .dead h.n z) i = Heap.at h i := fun i hi x y z => (at_set_ne _ _ (by omega)).trans (at_old _ _ _ (by omega))
      have hTx : truths (pin s 0 n) = [] := by
        cases ht : truths (pin s 0 n) with
        | nil => rfl
        | cons t l =>
          have := (pin_truths (t := t) (by omega) hn0 hc).1 (by rw [ht]; exact List.mem_cons_self ..)
          rw [hT] at this
          exact absurd this.1 (by simp)
      have xx : spanM (pin s 0 n) (.doneAt j) = none := span_none.2 hTx
      rw [xx, spR_no hdp] at hdx
      dsimp only [spV] at hdx
      refine .ret hdx rfl ?_
      conv => whnf
      refine ⟨_, at_push_self _ _, ?_⟩
      conv => whnf
      have low2 : ∀ i, i < 4 → ∀ (x y z a b : AB), Heap.at (((((h.push .dead x).set .dead h.n y).set .dead h.n z).push .dead a).set .dead (h.n + 1) b) i = Heap.at h i := fun i hi x y z a b => (at_set_ne _ _ (by omega)).trans ((at_push_lt _ _ (by rw [TMap.set_n, new_n]; omega)).trans (low i hi x y z))
      refine ⟨n + 1, by rw [wrap_eq (by omega) (by omega)], ?_⟩
      conv => whnf
      exact ⟨_, by omega, n + 1, c1, c2, _, by omega, rfl, (low2 0 (by omega) _ _ _ _ _).trans h0, (low2 1 (by omega) _ _ _ _ _).trans h1, (low2 2 (by omega) _ _ _ _ _).trans h2, (low2 3 (by omega) _ _ _ _ _).trans h3, by show 3 < h.n + 2; omega, acc.skip (fun t ht => by rw [hT] at ht; cases ht), rfl, ⟨rfl, rfl, rfl, rfl, rfl, rfl, rfl, rfl, trivial⟩, rfl, rfl, rfl, rfl⟩
    · conv => whnf
      refine ⟨by decide, ?_⟩
      conv => whnf
      refine loop_by (I := fun m st => ∃ (n : Int) (c1 c2 : Int) (h : Heap), s.lo.get 1 ≤ n ∧ m = (s.hi.get 1 + 1 - n).toNat ∧ Heap.at h 0 = v.blk ∧ Heap.at h 1 = .blk [.c (I 0), .c (I 0)] ∧ Heap.at h 2 = .blk [.c (I 0), .c (I 0)] ∧ Heap.at h 3 = .blk [.c (I c1), .c (I c2)] ∧ 3 < h.n ∧ Acc s (fun t => Me.of (dayOf s t) (.doneAt j)) 1 n c1 c2 ∧
        Has st 175 [(3, .ptr 0 0), (7, .c (I ((1 : Nat) : Int))), (8, .c (I j)), (9, .ptr 1 0), (10, .c (I 10)), (11, .ptr 2 0), (15, .ptr 3 0), (16, .c (I n))] [] none h) ?_ (k := (s.hi.get 1 + 1 - s.lo.get 1).toNat)
        ⟨s.lo.get 1, 1048576, -1, _, Int.le_refl _, rfl, rfl, rfl, rfl, rfl, Nat.lt_succ_self 3, .start (by omega), rfl, ⟨rfl, rfl, rfl, rfl, rfl, rfl, rfl, by rw [← e1]; rfl, trivial⟩, rfl, rfl, rfl, rfl⟩
      rintro m st ⟨n, c1, c2, h, hn0, rfl, h0, h1, h2, h3, hn, acc, hs1⟩
      have hnl := combos_narrow hd 1
      have vlo : v.lo.b = s.lo.get 1 := by rw [e1]; rfl
      have vhi : v.hi.b = s.hi.get 1 := by rw [e2]; rfl
      refine hs1.run (hm := false) ?_
      conv => whnf
      refine ⟨by decide, ?_⟩
      conv => whnf
      refine ⟨_, h0, ?_⟩
      conv => whnf
      cases hc : decide (n ≤ v.hi.b)
      case false =>
        have hc : s.hi.get 1 < n := by rw [← vhi]; simpa using hc
        conv => whnf
        refine .ret hA rfl ?_
        conv => whnf
        exact .val
      have hc : n ≤ s.hi.get 1 := by rw [← vhi]; simpa using hc
      have hdx := done_ret (pinV_is hv 1 n) j
      rw [show inB (j : Int) 0 ((pin s 1 n).sheep.length - 1) = true from hjin, Int.toNat_natCast] at hdx
      have hdp := pin_valid hd (k := 1) (by omega) hn0 hc
      conv => whnf
      refine ⟨_, h0, ?_⟩
      conv => whnf
      refine ⟨_, at_push_self _ _, ?_⟩
      conv => whnf
      refine .ret (mkspan_ret _ _) rfl ?_
      conv => whnf
      refine ⟨by decide, ?_⟩
      conv => whnf
      refine ⟨_, at_new _ _ _, ?_⟩
      conv => whnf
      refine ⟨_, at_set_self _ _ (by rw [new_n]; omega), ?_⟩
      conv => whnf
      have low : ∀ i, i < 4 → ∀ (x y z : AB), Heap.at (((h.push .dead x).set .dead h.n y).set .dead h.n z) i = Heap.at h i := fun i hi x y z => (at_set_ne _ _ (by omega)).trans (at_old _ _ _ (by omega))
      have hTx : truths (pin s 1 n) = [] := by
        cases ht : truths (pin s 1 n) with
        | nil => rfl
        | cons t l =>
          have := (pin_truths (t := t) (by omega) hn0 hc).1 (by rw [ht]; exact List.mem_cons_self ..)
          rw [hT] at this
          exact absurd this.1 (by simp)
      have xx : spanM (pin s 1 n) (.doneAt j) = none := span_none.2 hTx
      rw [xx, spR_no hdp] at hdx
      dsimp only [spV] at hdx
      refine .ret hdx rfl ?_
      conv => whnf
      refine ⟨_, at_push_self _ _, ?_⟩
      conv => whnf
      have low2 : ∀ i, i < 4 → ∀ (x y z a b : AB), Heap.at (((((h.push .dead x).set .dead h.n y).set .dead h.n z).push .dead a).set .dead (h.n + 1) b) i = Heap.at h i := fun i hi x y z a b => (at_set_ne _ _ (by omega)).trans ((at_push_lt _ _ (by rw [TMap.set_n, new_n]; omega)).trans (low i hi x y z))
      refine ⟨n + 1, by rw [wrap_eq (by omega) (by omega)], ?_⟩
      conv => whnf
      exact ⟨_, by omega, n + 1, c1, c2, _, by omega, rfl, (low2 0 (by omega) _ _ _ _ _).trans h0, (low2 1 (by omega) _ _ _ _ _).trans h1, (low2 2 (by omega) _ _ _ _ _).trans h2, (low2 3 (by omega) _ _ _ _ _).trans h3, by show 3 < h.n + 2; omega, acc.skip (fun t ht => by rw [hT] at ht; cases ht), rfl, ⟨rfl, rfl, rfl, rfl, rfl, rfl, rfl, rfl, trivial⟩, rfl, rfl, rfl, rfl⟩
    · conv => whnf
      refine ⟨by decide, ?_⟩
      conv => whnf
      refine loop_by (I := fun m st => ∃ (n : Int) (c1 c2 : Int) (h : Heap), s.lo.get 2 ≤ n ∧ m = (s.hi.get 2 + 1 - n).toNat ∧ Heap.at h 0 = v.blk ∧ Heap.at h 1 = .blk [.c (I 0), .c (I 0)] ∧ Heap.at h 2 = .blk [.c (I 0), .c (I 0)] ∧ Heap.at h 3 = .blk [.c (I c1), .c (I c2)] ∧ 3 < h.n ∧ Acc s (fun t => Me.of (dayOf s t) (.doneAt j)) 2 n c1 c2 ∧
        Has st 175 [(3, .ptr 0 0), (7, .c (I ((2 : Nat) : Int))), (8, .c (I j)), (9, .ptr 1 0), (10, .c (I 10)), (11, .ptr 2 0), (15, .ptr 3 0), (16, .c (I n))] [] none h) ?_ (k := (s.hi.get 2 + 1 - s.lo.get 2).toNat)
        ⟨s.lo.get 2, 1048576, -1, _, Int.le_refl _, rfl, rfl, rfl, rfl, rfl, Nat.lt_succ_self 3, .start (by omega), rfl, ⟨rfl, rfl, rfl, rfl, rfl, rfl, rfl, by rw [← e1]; rfl, trivial⟩, rfl, rfl, rfl, rfl⟩
      rintro m st ⟨n, c1, c2, h, hn0, rfl, h0, h1, h2, h3, hn, acc, hs1⟩
      have hnl := combos_narrow hd 2
      have vlo : v.lo.c = s.lo.get 2 := by rw [e1]; rfl
      have vhi : v.hi.c = s.hi.get 2 := by rw [e2]; rfl
      refine hs1.run (hm := false) ?_
      conv => whnf
      refine ⟨by decide, ?_⟩
      conv => whnf
      refine ⟨_, h0, ?_⟩
      conv => whnf
      cases hc : decide (n ≤ v.hi.c)
      case false =>
        have hc : s.hi.get 2 < n := by rw [← vhi]; simpa using hc
        conv => whnf
        refine .ret hA rfl ?_
        conv => whnf
        exact .val
      have hc : n ≤ s.hi.get 2 := by rw [← vhi]; simpa using hc
      have hdx := done_ret (pinV_is hv 2 n) j
      rw [show inB (j : Int) 0 ((pin s 2 n).sheep.length - 1) = true from hjin, Int.toNat_natCast] at hdx
      have hdp := pin_valid hd (k := 2) (by omega) hn0 hc
      conv => whnf
      refine ⟨_, h0, ?_⟩
      conv => whnf
      refine ⟨_, at_push_self _ _, ?_⟩
      conv => whnf
      refine .ret (mkspan_ret _ _) rfl ?_
      conv => whnf
      refine ⟨by decide, ?_⟩
      conv => whnf
      refine ⟨_, at_new _ _ _, ?_⟩
      conv => whnf
      refine ⟨_, at_set_self _ _ (by rw [new_n]; omega), ?_⟩
      conv => whnf
      have low : ∀ i, i < 4 → ∀ (x y z : AB), Heap.at (((h.push .dead x).set .dead h.n y).set .dead h.n z) i = Heap.at h i := fun i hi x y z => (at_set_ne _ _ (by omega)).trans (at_old _ _ _ (by omega))
      have hTx : truths (pin s 2 n) = [] := by
        cases ht : truths (pin s 2 n) with
        | nil => rfl
        | cons t l =>
          have := (pin_truths (t := t) (by omega) hn0 hc).1 (by rw [ht]; exact List.mem_cons_self ..)
          rw [hT] at this
          exact absurd this.1 (by simp)
      have xx : spanM (pin s 2 n) (.doneAt j) = none := span_none.2 hTx
      rw [xx, spR_no hdp] at hdx
      dsimp only [spV] at hdx
      refine .ret hdx rfl ?_
      conv => whnf
      refine ⟨_, at_push_self _ _, ?_⟩
      conv => whnf
      have low2 : ∀ i, i < 4 → ∀ (x y z a b : AB), Heap.at (((((h.push .dead x).set .dead h.n y).set .dead h.n z).push .dead a).set .dead (h.n + 1) b) i = Heap.at h i := fun i hi x y z a b => (at_set_ne _ _ (by omega)).trans ((at_push_lt _ _ (by rw [TMap.set_n, new_n]; omega)).trans (low i hi x y z))
      refine ⟨n + 1, by rw [wrap_eq (by omega) (by omega)], ?_⟩
      conv => whnf
      exact ⟨_, by omega, n + 1, c1, c2, _, by omega, rfl, (low2 0 (by omega) _ _ _ _ _).trans h0, (low2 1 (by omega) _ _ _ _ _).trans h1, (low2 2 (by omega) _ _ _ _ _).trans h2, (low2 3 (by omega) _ _ _ _ _).trans h3, by show 3 < h.n + 2; omega, acc.skip (fun t ht => by rw [hT] at ht; cases ht), rfl, ⟨rfl, rfl, rfl, rfl, rfl, rfl, rfl, rfl, trivial⟩, rfl, rfl, rfl, rfl⟩
  · obtain ⟨pa, x1, ia⟩ := span_ex hT fun t => t.get k
    obtain ⟨pb, x2, ib⟩ := span_ex hT fun t => Me.of (dayOf s t) (.doneAt j)
    have x1 : spanT s k = some pa := x1
    have x2 : spanM s (.doneAt j) = some pb := x2
    rw [x1, spR_ok hd] at ht
    rw [x2, spR_ok hd] at hdn
    rw [clash_ok hd hT] at hcl
    obtain ⟨a1, a2⟩ := pa
    obtain ⟨b1, b2⟩ := pb
    dsimp only [spV] at ht hdn hcl
    conv => whnf
    refine .ret ht rfl ?_
    conv => whnf
    refine .ret hdn rfl ?_
    conv => whnf
    refine .ret hcl rfl ?_
    conv => whnf
    refine ⟨_, bool_neq rfl rfl rfl _ _, ?_⟩
    conv => whnf
    refine .ret (mkspan_ret _ _) rfl ?_
    conv => whnf
    obtain rfl | rfl | rfl : k = 0 ∨ k = 1 ∨ k = 2 := by omega
    · conv => whnf
      refine ⟨by decide, ?_⟩
      conv => whnf
      refine loop_by (I := fun m st => ∃ (n : Int) (c1 c2 : Int) (h : Heap), s.lo.get 0 ≤ n ∧ m = (s.hi.get 0 + 1 - n).toNat ∧ Heap.at h 0 = v.blk ∧ Heap.at h 1 = .blk [.c (I a1), .c (I a2)] ∧ Heap.at h 2 = .blk [.c (I b1), .c (I b2)] ∧ Heap.at h 3 = .blk [.c (I c1), .c (I c2)] ∧ 3 < h.n ∧ Acc s (fun t => Me.of (dayOf s t) (.doneAt j)) 0 n c1 c2 ∧
        Has st 175 [(3, .ptr 0 0), (7, .c (I ((0 : Nat) : Int))), (8, .c (I j)), (9, .ptr 1 0), (10, .c (I 0)), (11, .ptr 2 0), (15, .ptr 3 0), (16, .c (I n))] [] none h) ?_ (k := (s.hi.get 0 + 1 - s.lo.get 0).toNat)
        ⟨s.lo.get 0, 1048576, -1, _, Int.le_refl _, rfl, rfl, rfl, rfl, rfl, Nat.lt_succ_self 3, .start (by omega), rfl, ⟨rfl, rfl, rfl, rfl, rfl, rfl, rfl, by rw [← e1]; rfl, trivial⟩, rfl, rfl, rfl, rfl⟩
      rintro m st ⟨n, c1, c2, h, hn0, rfl, h0, h1, h2, h3, hn, acc, hs1⟩
      have hnl := combos_narrow hd 0
      have vlo : v.lo.a = s.lo.get 0 := by rw [e1]; rfl
      have vhi : v.hi.a = s.hi.get 0 := by rw [e2]; rfl
      refine hs1.run (hm := false) ?_
      conv => whnf
      refine ⟨by decide, ?_⟩
      conv => whnf
      refine ⟨_, h0, ?_⟩
      conv => whnf
      cases hc : decide (n ≤ v.hi.a)
      case false =>
        have hc : s.hi.get 0 < n := by rw [← vhi]; simpa using hc
        obtain ⟨f1, f2⟩ := acc.last (by omega) hc hT ib
        subst f1 f2
        conv => whnf
        rw [h3]
        conv => whnf
        rw [h2]
        conv => whnf
        refine ⟨_, span_eql rfl rfl rfl _ _, ?_⟩
        conv => whnf
        simp only [decide_true, Bool.and_self]
        conv => whnf
        refine .ret hA rfl ?_
        conv => whnf
        exact .val
      have hc : n ≤ s.hi.get 0 := by rw [← vhi]; simpa using hc
      have hdx := done_ret (pinV_is hv 0 n) j
      rw [show inB (j : Int) 0 ((pin s 0 n).sheep.length - 1) = true from hjin, Int.toNat_natCast] at hdx
      have hdp := pin_valid hd (k := 0) (by omega) hn0 hc
      conv => whnf
      refine ⟨_, h0, ?_⟩
      conv => whnf
      refine ⟨_, at_push_self _ _, ?_⟩
      conv => whnf
      refine .ret (mkspan_ret _ _) rfl ?_
      conv => whnf
      refine ⟨by decide, ?_⟩
      conv => whnf
      refine ⟨_, at_new _ _ _, ?_⟩
      conv => whnf
      refine ⟨_, at_set_self _ _ (by rw [new_n]; omega), ?_⟩
      conv => whnf
      have low : ∀ i, i < 4 → ∀ (x y z : AB), Heap.at (((h.push .dead x).set .dead h.n y).set .dead h.n z) i = Heap.at h i := fun i hi x y z => (at_set_ne _ _ (by omega)).trans (at_old _ _ _ (by omega))
      by_cases hTx : truths (pin s 0 n) = []
      · have xx : spanM (pin s 0 n) (.doneAt j) = none := span_none.2 hTx
        rw [xx, spR_no hdp] at hdx
        dsimp only [spV] at hdx
        refine .ret hdx rfl ?_
        conv => whnf
        refine ⟨_, at_push_self _ _, ?_⟩
        conv => whnf
        have low2 : ∀ i, i < 4 → ∀ (x y z a b : AB), Heap.at (((((h.push .dead x).set .dead h.n y).set .dead h.n z).push .dead a).set .dead (h.n + 1) b) i = Heap.at h i := fun i hi x y z a b => (at_set_ne _ _ (by omega)).trans ((at_push_lt _ _ (by rw [TMap.set_n, new_n]; omega)).trans (low i hi x y z))
        have none : ∀ t ∈ truths s, t.get 0 ≠ n := fun t ht he => by
          have := (pin_truths (by omega) hn0 hc).2 ⟨ht, he⟩
          rw [hTx] at this
          cases this
        have x1' : (n == a1) = false := by
          obtain ⟨t, ht, he⟩ := ia.lo
          have := none t ht
          dsimp only at he
          simp; omega
        have x2' : (n == a2) = false := by
          obtain ⟨t, ht, he⟩ := ia.hi
          have := none t ht
          dsimp only at he
          simp; omega
        refine ⟨_, (low2 1 (by omega) _ _ _ _ _).trans h1, ?_⟩
        conv => whnf
        rw [x1']
        conv => whnf
        refine ⟨_, (low2 1 (by omega) _ _ _ _ _).trans h1, ?_⟩
        conv => whnf
        rw [x2']
        conv => whnf
        refine ⟨n + 1, by rw [wrap_eq (by omega) (by omega)], ?_⟩
        conv => whnf
        exact ⟨_, by omega, n + 1, c1, c2, _, by omega, rfl, (low2 0 (by omega) _ _ _ _ _).trans h0, (low2 1 (by omega) _ _ _ _ _).trans h1, (low2 2 (by omega) _ _ _ _ _).trans h2, (low2 3 (by omega) _ _ _ _ _).trans h3, by show 3 < h.n + 2; omega, acc.skip none, rfl, ⟨rfl, rfl, rfl, rfl, rfl, rfl, rfl, rfl, trivial⟩, rfl, rfl, rfl, rfl⟩
      · obtain ⟨pd, xx, id'⟩ := span_ex hTx fun t => Me.of (dayOf s t) (.doneAt j)
        have xx : spanM (pin s 0 n) (.doneAt j) = some pd := xx
        rw [xx, spR_ok hdp] at hdx
        obtain ⟨d1, d2⟩ := pd
        dsimp only [spV] at hdx
        refine .ret hdx rfl ?_
        conv => whnf
        refine ⟨_, at_push_self _ _, ?_⟩
        conv => whnf
        have low2 : ∀ i, i < 4 → ∀ (x y z a b : AB), Heap.at (((((h.push .dead x).set .dead h.n y).set .dead h.n z).push .dead a).set .dead (h.n + 1) b) i = Heap.at h i := fun i hi x y z a b => (at_set_ne _ _ (by omega)).trans ((at_push_lt _ _ (by rw [TMap.set_n, new_n]; omega)).trans (low i hi x y z))
        have hin : insB n a1 a2 = true := by
          obtain ⟨t, ht, _⟩ := id'.lo
          have ht := (pin_truths (by omega) hn0 hc).1 ht
          have := ia.all t ht.1
          dsimp only at this
          simp [insB]; omega
        refine ⟨_, (low2 1 (by omega) _ _ _ _ _).trans h1, ?_⟩
        conv => whnf
        refine .ret (inside_ret _ _ _) rfl ?_
        conv => whnf
        rw [hin]
        conv => whnf
        have dnew : ∀ (x y z a b : AB), Heap.at (((((h.push .dead x).set .dead h.n y).set .dead h.n z).push .dead a).set .dead (h.n + 1) b) (h.n + 1) = b := fun x y z a b => at_set_self _ _ (by rw [push_n, TMap.set_n, new_n]; omega)
        refine ⟨_, (low2 3 (by omega) _ _ _ _ _).trans h3, ?_⟩
        conv => whnf
        refine ⟨_, dnew _ _ _ _ _, ?_⟩
        conv => whnf
        refine ⟨_, (low2 3 (by omega) _ _ _ _ _).trans h3, ?_⟩
        conv => whnf
        refine ⟨_, dnew _ _ _ _ _, ?_⟩
        conv => whnf
        refine .ret (mkspan_ret _ _) rfl ?_
        conv => whnf
        refine ⟨_, (low2 3 (by omega) _ _ _ _ _).trans h3, ?_⟩
        conv => whnf
        refine ⟨n + 1, by rw [wrap_eq (by omega) (by omega)], ?_⟩
        conv => whnf
        exact ⟨_, by omega, n + 1, min c1 d1, max c2 d2, _, by omega, rfl, (at_set_ne _ _ (by decide)).trans ((low2 0 (by omega) _ _ _ _ _).trans h0), (at_set_ne _ _ (by decide)).trans ((low2 1 (by omega) _ _ _ _ _).trans h1), (at_set_ne _ _ (by decide)).trans ((low2 2 (by omega) _ _ _ _ _).trans h2), at_set_self _ _ (by show 3 < h.n + 2; omega), by show 3 < h.n + 2; omega, acc.step (by omega) hn0 hc (fun t ht => done_bound (truth_good hd ht) j) id', rfl, ⟨rfl, rfl, rfl, rfl, rfl, rfl, rfl, rfl, trivial⟩, rfl, rfl, rfl, rfl⟩
    · conv => whnf
      refine ⟨by decide, ?_⟩
      conv => whnf
      refine loop_by (I := fun m st => ∃ (n : Int) (c1 c2 : Int) (h : Heap), s.lo.get 1 ≤ n ∧ m = (s.hi.get 1 + 1 - n).toNat ∧ Heap.at h 0 = v.blk ∧ Heap.at h 1 = .blk [.c (I a1), .c (I a2)] ∧ Heap.at h 2 = .blk [.c (I b1), .c (I b2)] ∧ Heap.at h 3 = .blk [.c (I c1), .c (I c2)] ∧ 3 < h.n ∧ Acc s (fun t => Me.of (dayOf s t) (.doneAt j)) 1 n c1 c2 ∧
        Has st 175 [(3, .ptr 0 0), (7, .c (I ((1 : Nat) : Int))), (8, .c (I j)), (9, .ptr 1 0), (10, .c (I 0)), (11, .ptr 2 0), (15, .ptr 3 0), (16, .c (I n))] [] none h) ?_ (k := (s.hi.get 1 + 1 - s.lo.get 1).toNat)
        ⟨s.lo.get 1, 1048576, -1, _, Int.le_refl _, rfl, rfl, rfl, rfl, rfl, Nat.lt_succ_self 3, .start (by omega), rfl, ⟨rfl, rfl, rfl, rfl, rfl, rfl, rfl, by rw [← e1]; rfl, trivial⟩, rfl, rfl, rfl, rfl⟩
      rintro m st ⟨n, c1, c2, h, hn0, rfl, h0, h1, h2, h3, hn, acc, hs1⟩
      have hnl := combos_narrow hd 1
      have vlo : v.lo.b = s.lo.get 1 := by rw [e1]; rfl
      have vhi : v.hi.b = s.hi.get 1 := by rw [e2]; rfl
      refine hs1.run (hm := false) ?_
      conv => whnf
      refine ⟨by decide, ?_⟩
      conv => whnf
      refine ⟨_, h0, ?_⟩
      conv => whnf
      cases hc : decide (n ≤ v.hi.b)
      case false =>
        have hc : s.hi.get 1 < n := by rw [← vhi]; simpa using hc
        obtain ⟨f1, f2⟩ := acc.last (by omega) hc hT ib
        subst f1 f2
        conv => whnf
        rw [h3]
        conv => whnf
        rw [h2]
        conv => whnf
        refine ⟨_, span_eql rfl rfl rfl _ _, ?_⟩
        conv => whnf
        simp only [decide_true, Bool.and_self]
        conv => whnf
        refine .ret hA rfl ?_
        conv => whnf
        exact .val
      have hc : n ≤ s.hi.get 1 := by rw [← vhi]; simpa using hc
      have hdx := done_ret (pinV_is hv 1 n) j
      rw [show inB (j : Int) 0 ((pin s 1 n).sheep.length - 1) = true from hjin, Int.toNat_natCast] at hdx
      have hdp := pin_valid hd (k := 1) (by omega) hn0 hc
      conv => whnf
      refine ⟨_, h0, ?_⟩
      conv => whnf
      refine ⟨_, at_push_self _ _, ?_⟩
      conv => whnf
      refine .ret (mkspan_ret _ _) rfl ?_
      conv => whnf
      refine ⟨by decide, ?_⟩
      conv => whnf
      refine ⟨_, at_new _ _ _, ?_⟩
      conv => whnf
      refine ⟨_, at_set_self _ _ (by rw [new_n]; omega), ?_⟩
      conv => whnf
      have low : ∀ i, i < 4 → ∀ (x y z : AB), Heap.at (((h.push .dead x).set .dead h.n y).set .dead h.n z) i = Heap.at h i := fun i hi x y z => (at_set_ne _ _ (by omega)).trans (at_old _ _ _ (by omega))
      by_cases hTx : truths (pin s 1 n) = []
      · have xx : spanM (pin s 1 n) (.doneAt j) = none := span_none.2 hTx
        rw [xx, spR_no hdp] at hdx
        dsimp only [spV] at hdx
        refine .ret hdx rfl ?_
        conv => whnf
        refine ⟨_, at_push_self _ _, ?_⟩
        conv => whnf
        have low2 : ∀ i, i < 4 → ∀ (x y z a b : AB), Heap.at (((((h.push .dead x).set .dead h.n y).set .dead h.n z).push .dead a).set .dead (h.n + 1) b) i = Heap.at h i := fun i hi x y z a b => (at_set_ne _ _ (by omega)).trans ((at_push_lt _ _ (by rw [TMap.set_n, new_n]; omega)).trans (low i hi x y z))
        have none : ∀ t ∈ truths s, t.get 1 ≠ n := fun t ht he => by
          have := (pin_truths (by omega) hn0 hc).2 ⟨ht, he⟩
          rw [hTx] at this
          cases this
        have x1' : (n == a1) = false := by
          obtain ⟨t, ht, he⟩ := ia.lo
          have := none t ht
          dsimp only at he
          simp; omega
        have x2' : (n == a2) = false := by
          obtain ⟨t, ht, he⟩ := ia.hi
          have := none t ht
          dsimp only at he
          simp; omega
        refine ⟨_, (low2 1 (by omega) _ _ _ _ _).trans h1, ?_⟩
        conv => whnf
        rw [x1']
        conv => whnf
        refine ⟨_, (low2 1 (by omega) _ _ _ _ _).trans h1, ?_⟩
        conv => whnf
        rw [x2']
        conv => whnf
        refine ⟨n + 1, by rw [wrap_eq (by omega) (by omega)], ?_⟩
        conv => whnf
        exact ⟨_, by omega, n + 1, c1, c2, _, by omega, rfl, (low2 0 (by omega) _ _ _ _ _).trans h0, (low2 1 (by omega) _ _ _ _ _).trans h1, (low2 2 (by omega) _ _ _ _ _).trans h2, (low2 3 (by omega) _ _ _ _ _).trans h3, by show 3 < h.n + 2; omega, acc.skip none, rfl, ⟨rfl, rfl, rfl, rfl, rfl, rfl, rfl, rfl, trivial⟩, rfl, rfl, rfl, rfl⟩
      · obtain ⟨pd, xx, id'⟩ := span_ex hTx fun t => Me.of (dayOf s t) (.doneAt j)
        have xx : spanM (pin s 1 n) (.doneAt j) = some pd := xx
        rw [xx, spR_ok hdp] at hdx
        obtain ⟨d1, d2⟩ := pd
        dsimp only [spV] at hdx
        refine .ret hdx rfl ?_
        conv => whnf
        refine ⟨_, at_push_self _ _, ?_⟩
        conv => whnf
        have low2 : ∀ i, i < 4 → ∀ (x y z a b : AB), Heap.at (((((h.push .dead x).set .dead h.n y).set .dead h.n z).push .dead a).set .dead (h.n + 1) b) i = Heap.at h i := fun i hi x y z a b => (at_set_ne _ _ (by omega)).trans ((at_push_lt _ _ (by rw [TMap.set_n, new_n]; omega)).trans (low i hi x y z))
        have hin : insB n a1 a2 = true := by
          obtain ⟨t, ht, _⟩ := id'.lo
          have ht := (pin_truths (by omega) hn0 hc).1 ht
          have := ia.all t ht.1
          dsimp only at this
          simp [insB]; omega
        refine ⟨_, (low2 1 (by omega) _ _ _ _ _).trans h1, ?_⟩
        conv => whnf
        refine .ret (inside_ret _ _ _) rfl ?_
        conv => whnf
        rw [hin]
        conv => whnf
        have dnew : ∀ (x y z a b : AB), Heap.at (((((h.push .dead x).set .dead h.n y).set .dead h.n z).push .dead a).set .dead (h.n + 1) b) (h.n + 1) = b := fun x y z a b => at_set_self _ _ (by rw [push_n, TMap.set_n, new_n]; omega)
        refine ⟨_, (low2 3 (by omega) _ _ _ _ _).trans h3, ?_⟩
        conv => whnf
        refine ⟨_, dnew _ _ _ _ _, ?_⟩
        conv => whnf
        refine ⟨_, (low2 3 (by omega) _ _ _ _ _).trans h3, ?_⟩
        conv => whnf
        refine ⟨_, dnew _ _ _ _ _, ?_⟩
        conv => whnf
        refine .ret (mkspan_ret _ _) rfl ?_
        conv => whnf
        refine ⟨_, (low2 3 (by omega) _ _ _ _ _).trans h3, ?_⟩
        conv => whnf
        refine ⟨n + 1, by rw [wrap_eq (by omega) (by omega)], ?_⟩
        conv => whnf
        exact ⟨_, by omega, n + 1, min c1 d1, max c2 d2, _, by omega, rfl, (at_set_ne _ _ (by decide)).trans ((low2 0 (by omega) _ _ _ _ _).trans h0), (at_set_ne _ _ (by decide)).trans ((low2 1 (by omega) _ _ _ _ _).trans h1), (at_set_ne _ _ (by decide)).trans ((low2 2 (by omega) _ _ _ _ _).trans h2), at_set_self _ _ (by show 3 < h.n + 2; omega), by show 3 < h.n + 2; omega, acc.step (by omega) hn0 hc (fun t ht => done_bound (truth_good hd ht) j) id', rfl, ⟨rfl, rfl, rfl, rfl, rfl, rfl, rfl, rfl, trivial⟩, rfl, rfl, rfl, rfl⟩
    · conv => whnf
      refine ⟨by decide, ?_⟩
      conv => whnf
      refine loop_by (I := fun m st => ∃ (n : Int) (c1 c2 : Int) (h : Heap), s.lo.get 2 ≤ n ∧ m = (s.hi.get 2 + 1 - n).toNat ∧ Heap.at h 0 = v.blk ∧ Heap.at h 1 = .blk [.c (I a1), .c (I a2)] ∧ Heap.at h 2 = .blk [.c (I b1), .c (I b2)] ∧ Heap.at h 3 = .blk [.c (I c1), .c (I c2)] ∧ 3 < h.n ∧ Acc s (fun t => Me.of (dayOf s t) (.doneAt j)) 2 n c1 c2 ∧
        Has st 175 [(3, .ptr 0 0), (7, .c (I ((2 : Nat) : Int))), (8, .c (I j)), (9, .ptr 1 0), (10, .c (I 0)), (11, .ptr 2 0), (15, .ptr 3 0), (16, .c (I n))] [] none h) ?_ (k := (s.hi.get 2 + 1 - s.lo.get 2).toNat)
        ⟨s.lo.get 2, 1048576, -1, _, Int.le_refl _, rfl, rfl, rfl, rfl, rfl, Nat.lt_succ_self 3, .start (by omega), rfl, ⟨rfl, rfl, rfl, rfl, rfl, rfl, rfl, by rw [← e1]; rfl, trivial⟩, rfl, rfl, rfl, rfl⟩
      rintro m st ⟨n, c1, c2, h, hn0, rfl, h0, h1, h2, h3, hn, acc, hs1⟩
      have hnl := combos_narrow hd 2
      have vlo : v.lo.c = s.lo.get 2 := by rw [e1]; rfl
      have vhi : v.hi.c = s.hi.get 2 := by rw [e2]; rfl
      refine hs1.run (hm := false) ?_
      conv => whnf
      refine ⟨by decide, ?_⟩
      conv => whnf
      refine ⟨_, h0, ?_⟩
      conv => whnf
      cases hc : decide (n ≤ v.hi.c)
      case false =>
        have hc : s.hi.get 2 < n := by rw [← vhi]; simpa using hc
        obtain ⟨f1, f2⟩ := acc.last (by omega) hc hT ib
        subst f1 f2
        conv => whnf
        rw [h3]
        conv => whnf
        rw [h2]
        conv => whnf
        refine ⟨_, span_eql rfl rfl rfl _ _, ?_⟩
        conv => whnf
        simp only [decide_true, Bool.and_self]
        conv => whnf
        refine .ret hA rfl ?_
        conv => whnf
        exact .val
      have hc : n ≤ s.hi.get 2 := by rw [← vhi]; simpa using hc
      have hdx := done_ret (pinV_is hv 2 n) j
      rw [show inB (j : Int) 0 ((pin s 2 n).sheep.length - 1) = true from hjin, Int.toNat_natCast] at hdx
      have hdp := pin_valid hd (k := 2) (by omega) hn0 hc
      conv => whnf
      refine ⟨_, h0, ?_⟩
      conv => whnf
      refine ⟨_, at_push_self _ _, ?_⟩
      conv => whnf
      refine .ret (mkspan_ret _ _) rfl ?_
      conv => whnf
      refine ⟨by decide, ?_⟩
      conv => whnf
      refine ⟨_, at_new _ _ _, ?_⟩
      conv => whnf
      refine ⟨_, at_set_self _ _ (by rw [new_n]; omega), ?_⟩
      conv => whnf
      have low : ∀ i, i < 4 → ∀ (x y z : AB), Heap.at (((h.push .dead x).set .dead h.n y).set .dead h.n z) i = Heap.at h i := fun i hi x y z => (at_set_ne _ _ (by omega)).trans (at_old _ _ _ (by omega))
      by_cases hTx : truths (pin s 2 n) = []
      · have xx : spanM (pin s 2 n) (.doneAt j) = none := span_none.2 hTx
        rw [xx, spR_no hdp] at hdx
        dsimp only [spV] at hdx
        refine .ret hdx rfl ?_
        conv => whnf
        refine ⟨_, at_push_self _ _, ?_⟩
        conv => whnf
        have low2 : ∀ i, i < 4 → ∀ (x y z a b : AB), Heap.at (((((h.push .dead x).set .dead h.n y).set .dead h.n z).push .dead a).set .dead (h.n + 1) b) i = Heap.at h i := fun i hi x y z a b => (at_set_ne _ _ (by omega)).trans ((at_push_lt _ _ (by rw [TMap.set_n, new_n]; omega)).trans (low i hi x y z))
        have none : ∀ t ∈ truths s, t.get 2 ≠ n := fun t ht he => by
          have := (pin_truths (by omega) hn0 hc).2 ⟨ht, he⟩
          rw [hTx] at this
          cases this
        have x1' : (n == a1) = false := by
          obtain ⟨t, ht, he⟩ := ia.lo
          have := none t ht
          dsimp only at he
          simp; omega
        have x2' : (n == a2) = false := by
          obtain ⟨t, ht, he⟩ := ia.hi
          have := none t ht
          dsimp only at he
          simp; omega
        refine ⟨_, (low2 1 (by omega) _ _ _ _ _).trans h1, ?_⟩
        conv => whnf
        rw [x1']
        conv => whnf
        refine ⟨_, (low2 1 (by omega) _ _ _ _ _).trans h1, ?_⟩
        conv => whnf
        rw [x2']
        conv => whnf
        refine ⟨n + 1, by rw [wrap_eq (by omega) (by omega)], ?_⟩
        conv => whnf
        exact ⟨_, by omega, n + 1, c1, c2, _, by omega, rfl, (low2 0 (by omega) _ _ _ _ _).trans h0, (low2 1 (by omega) _ _ _ _ _).trans h1, (low2 2 (by omega) _ _ _ _ _).trans h2, (low2 3 (by omega) _ _ _ _ _).trans h3, by show 3 < h.n + 2; omega, acc.skip none, rfl, ⟨rfl, rfl, rfl, rfl, rfl, rfl, rfl, rfl, trivial⟩, rfl, rfl, rfl, rfl⟩
      · obtain ⟨pd, xx, id'⟩ := span_ex hTx fun t => Me.of (dayOf s t) (.doneAt j)
        have xx : spanM (pin s 2 n) (.doneAt j) = some pd := xx
        rw [xx, spR_ok hdp] at hdx
        obtain ⟨d1, d2⟩ := pd
        dsimp only [spV] at hdx
        refine .ret hdx rfl ?_
        conv => whnf
        refine ⟨_, at_push_self _ _, ?_⟩
        conv => whnf
        have low2 : ∀ i, i < 4 → ∀ (x y z a b : AB), Heap.at (((((h.push .dead x).set .dead h.n y).set .dead h.n z).push .dead a).set .dead (h.n + 1) b) i = Heap.at h i := fun i hi x y z a b => (at_set_ne _ _ (by omega)).trans ((at_push_lt _ _ (by rw [TMap.set_n, new_n]; omega)).trans (low i hi x y z))
        have hin : insB n a1 a2 = true := by
          obtain ⟨t, ht, _⟩ := id'.lo
          have ht := (pin_truths (by omega) hn0 hc).1 ht
          have := ia.all t ht.1
          dsimp only at this
          simp [insB]; omega
        refine ⟨_, (low2 1 (by omega) _ _ _ _ _).trans h1, ?_⟩
        conv => whnf
        refine .ret (inside_ret _ _ _) rfl ?_
        conv => whnf
        rw [hin]
        conv => whnf
        have dnew : ∀ (x y z a b : AB), Heap.at (((((h.push .dead x).set .dead h.n y).set .dead h.n z).push .dead a).set .dead (h.n + 1) b) (h.n + 1) = b := fun x y z a b => at_set_self _ _ (by rw [push_n, TMap.set_n, new_n]; omega)
        refine ⟨_, (low2 3 (by omega) _ _ _ _ _).trans h3, ?_⟩
        conv => whnf
        refine ⟨_, dnew _ _ _ _ _, ?_⟩
        conv => whnf
        refine ⟨_, (low2 3 (by omega) _ _ _ _ _).trans h3, ?_⟩
        conv => whnf
        refine ⟨_, dnew _ _ _ _ _, ?_⟩
        conv => whnf
        refine .ret (mkspan_ret _ _) rfl ?_
        conv => whnf
        refine ⟨_, (low2 3 (by omega) _ _ _ _ _).trans h3, ?_⟩
        conv => whnf
        refine ⟨n + 1, by rw [wrap_eq (by omega) (by omega)], ?_⟩
        conv => whnf
        exact ⟨_, by omega, n + 1, min c1 d1, max c2 d2, _, by omega, rfl, (at_set_ne _ _ (by decide)).trans ((low2 0 (by omega) _ _ _ _ _).trans h0), (at_set_ne _ _ (by decide)).trans ((low2 1 (by omega) _ _ _ _ _).trans h1), (at_set_ne _ _ (by decide)).trans ((low2 2 (by omega) _ _ _ _ _).trans h2), at_set_self _ _ (by show 3 < h.n + 2; omega), by show 3 < h.n + 2; omega, acc.step (by omega) hn0 hc (fun t ht => done_bound (truth_good hd ht) j) id', rfl, ⟨rfl, rfl, rfl, rfl, rfl, rfl, rfl, rfl, trivial⟩, rfl, rfl, rfl, rfl⟩
end Go.Ag
/- Layer 4: arguments read as data. -/
namespace Go.Ag
open Go.Proofs Go.ChangeShapes Go.WideShapes Go.Deep Go.RowKit Go.ChangeShapes
set_option maxRecDepth 100000

theorem cells3 : Try.prog.cellsOf 3 = 1 := by kernel_rfl
theorem cells23 : Try.prog.cellsOf 23 = 2 := by kernel_rfl
theorem cells24 : Try.prog.cellsOf 24 = 6 := by kernel_rfl
theorem cells25 : Try.prog.cellsOf 25 = 1 := by kernel_rfl
theorem cells26 : Try.prog.cellsOf 26 = 1 := by kernel_rfl
theorem cells27 : Try.prog.cellsOf 27 = 1 := by kernel_rfl
theorem cells29 : Try.prog.cellsOf 29 = 9 := by kernel_rfl
theorem cells50 : Try.prog.cellsOf 50 = 2 := by kernel_rfl
theorem cells58 : Try.prog.cellsOf 58 = 3 := by kernel_rfl

theorem repP_ints {Φ : Nat → Option Obj} : ∀ (zs : List Int) (vs : List Value), (∀ (i : Nat) (z : Int), zs[i]? = some z → vs[i]? = some (Value.int .i64 z)) → RepP Φ (zs.map I) vs
  | [], _, _ => trivial
  | z :: zs, [], h => by have := h 0 z rfl; simp at this
  | z :: zs, v :: vs, h => by
    have h0 := h 0 z rfl
    simp only [List.getElem?_cons_zero, Option.some.injEq] at h0
    exact ⟨h0, repP_ints zs vs fun i y hy => by have := h (i + 1) y (by simpa using hy); simpa using this⟩
theorem flat_get {sz : Nat} : ∀ (rows : List (List Int)) (_ : ∀ r ∈ rows, r.length = sz) (i : Nat) (z : Int), rows.flatten[i]? = some z → ∃ q r j, rows[q]? = some r ∧ r[j]? = some z ∧ i = q * sz + j
  | [], _, i, z, h => by simp at h
  | r :: rows, hr, i, z, h => by
    have hl := hr r (by simp)
    by_cases hi : i < r.length
    · refine ⟨0, r, i, rfl, ?_, by omega⟩
      rw [List.flatten_cons, List.getElem?_append_left hi] at h
      exact h
    · rw [List.flatten_cons, List.getElem?_append_right (by omega)] at h
      obtain ⟨q, r', j, h1, h2, h3⟩ := flat_get rows (fun r hr' => hr r (by simp [hr'])) _ z h
      refine ⟨q + 1, r', j, by simpa using h1, h2, ?_⟩
      rw [Nat.add_mul]; omega

section
variable {H : Type} {enc : TypeId × Value → H} {w : World} {base : Nat} {spare : Nat → Bool} {held : Bool}

theorem one_int {n : Nat} {c : Value} {y : DataW H × List MemPlace} (h : DataW.trod enc Try.prog w base spare held n 3 [c] = some y) : ∃ z : Int, c = .int .i64 z := by
  obtain ⟨z, hz, _⟩ := DataW.trod_int Try.underlying3 h
  exact ⟨z, by simpa using hz⟩
theorem two_int {n : Nat} {cs : List Value} {y : DataW H × List MemPlace} {t : TypeId} (ht : t = 23 ∨ t = 50) (h : DataW.trod enc Try.prog w base spare held n t cs = some y) : ∃ a b : Int, cs = [.int .i64 a, .int .i64 b] := by
  rcases ht with rfl | rfl
  · obtain ⟨y0, y1, m, _, hl, h0, h1⟩ := trod_struct2 Try.underlying23 h
    dsimp only at h0 h1
    rw [cells3] at h0 h1
    match cs, hl.trans cells23 with
    | [c0, c1], _ =>
      obtain ⟨a, rfl⟩ := one_int h0
      obtain ⟨b, rfl⟩ := one_int h1
      exact ⟨a, b, rfl⟩
  · obtain ⟨y0, y1, m, _, hl, h0, h1⟩ := trod_struct2 Try.underlying50 h
    dsimp only at h0 h1
    rw [cells3] at h0 h1
    match cs, hl.trans cells50 with
    | [c0, c1], _ =>
      obtain ⟨a, rfl⟩ := one_int h0
      obtain ⟨b, rfl⟩ := one_int h1
      exact ⟨a, b, rfl⟩
theorem run_int {n : Nat} {cs : List Value} {y : DataW H × List MemPlace} (h : DataW.trod enc Try.prog w base spare held n 50 cs = some y) : ∃ zs : List Int, zs.length = 2 ∧ cs = zs.map (.int .i64) := by
  obtain ⟨a, b, rfl⟩ := two_int (.inr rfl) h
  exact ⟨[a, b], rfl, rfl⟩
theorem kind_int {n : Nat} {cs : List Value} {y : DataW H × List MemPlace} (h : DataW.trod enc Try.prog w base spare held n 3 cs = some y) : ∃ zs : List Int, zs.length = 1 ∧ cs = zs.map (.int .i64) := by
  obtain ⟨z, hz, _⟩ := DataW.trod_int Try.underlying3 h
  exact ⟨[z], rfl, by simpa using hz⟩
theorem look_int {n : Nat} {cs : List Value} {y : DataW H × List MemPlace} (h : DataW.trod enc Try.prog w base spare held n 58 cs = some y) : ∃ zs : List Int, zs.length = 3 ∧ cs = zs.map (.int .i64) := by
  obtain ⟨y0, y1, m, _, hl, h0, h1⟩ := trod_struct2 Try.underlying58 h
  dsimp only at h0 h1
  rw [cells3] at h0
  rw [cells23] at h1
  match cs, hl.trans cells58 with
  | [c0, c1, c2], _ =>
    obtain ⟨a, rfl⟩ := one_int h0
    obtain ⟨b, c, e⟩ := two_int (.inl rfl) h1
    simp only [List.drop_succ_cons, List.drop_zero, List.take_succ_cons, List.take_zero, List.cons.injEq, and_true] at e
    obtain ⟨rfl, rfl⟩ := e
    exact ⟨[a, b, c], rfl, rfl⟩
theorem mins_int {n : Nat} {cs : List Value} {y : DataW H × List MemPlace} (h : DataW.trod enc Try.prog w base spare held n 24 cs = some y) : ∃ zs : List Int, zs.length = 6 ∧ cs = zs.map (.int .i64) := by
  obtain ⟨xs, m, _, _, hl, hlen, hf⟩ := DataW.trod_array Try.underlying24 h
  rw [cells23] at hf
  match cs, hl.trans cells24, xs, hlen with
  | [c0, c1, c2, c3, c4, c5], _, [x0, x1, x2], _ =>
    obtain ⟨a, b, e0⟩ := two_int (.inl rfl) (hf 0 (by omega))
    obtain ⟨c, d, e1⟩ := two_int (.inl rfl) (hf 1 (by omega))
    obtain ⟨e, f, e2⟩ := two_int (.inl rfl) (hf 2 (by omega))
    simp at e0 e1 e2
    obtain ⟨rfl, rfl⟩ := e0
    obtain ⟨rfl, rfl⟩ := e1
    obtain ⟨rfl, rfl⟩ := e2
    exact ⟨[a, b, c, d, e, f], rfl, rfl⟩

theorem open_rows {t e : TypeId} {sz fuel : Nat} {c : Value} {x : DataW H × List MemPlace} (ht : Try.prog.underlying t = some (.slice e)) (hsz : Try.prog.cellsOf e = sz) (hpos : 0 < sz)
    (hrow : ∀ n cs (x : DataW H × List MemPlace), DataW.trod enc Try.prog w base spare held n e cs = some x → ∃ zs : List Int, zs.length = sz ∧ cs = zs.map (.int .i64))
    (h : DataW.trod enc Try.prog w base spare held fuel t [c] = some x) : ∃ rows : List (List Int), (∀ r ∈ rows, r.length = sz) ∧ RepC (allOf w) (.sl (rows.flatten.map I) 0 rows.length) c := by
  rcases open_slice ht h with ⟨h0, _⟩ | ⟨a, len, cap, m, n, D, Pl, hcs, hb, hl, hm, hmm, hx, hi⟩
  · simp only [List.cons.injEq, and_true] at h0
    subst h0
    exact ⟨[], by simp, .inl ⟨rfl, .inr rfl⟩⟩
  · simp only [List.cons.injEq, and_true] at hcs
    subst hcs
    rw [hsz] at hi
    have hlm : len ≤ m := by rw [hmm]; split <;> omega
    have hall : ∀ i, ∃ zs : List Int, i < m → zs.length = sz ∧ ∀ j z, zs[j]? = some z → w.cell? (a.add (i * sz + j)) = some (.int .i64 z) := by
      intro i
      by_cases him : i < m
      · obtain ⟨cs', hc, ht'⟩ := hi i him
        obtain ⟨_, hcl, hat⟩ := World.cells?_some hc
        obtain ⟨zs, hz, rfl⟩ := hrow _ _ _ ht'
        refine ⟨zs, fun _ => ⟨hz, fun j z hj => ?_⟩⟩
        have hjl : j < zs.length := (List.getElem?_eq_some_iff.1 hj).1
        have := hat j (by omega)
        rw [Go.Deep.add_add] at this
        rw [this, List.getElem?_map, hj]
        rfl
      · exact ⟨[], fun h => absurd h him⟩
    obtain ⟨f, hf⟩ := Classical.skolem.1 hall
    by_cases hlen : len = 0
    · subst hlen
      exact ⟨[], by simp, .inl ⟨rfl, .inl ⟨a, cap, rfl⟩⟩⟩
    · have hr : ∀ r ∈ (List.range len).map f, r.length = sz := by
        intro r hr
        obtain ⟨i, hi1, rfl⟩ := List.mem_map.1 hr
        exact (hf i (by have := List.mem_range.1 hi1; omega)).1
      refine ⟨(List.range len).map f, hr, .inr ?_⟩
      obtain ⟨b, off, spot⟩ := a
      obtain ⟨h00, h01⟩ := hf 0 (by omega)
      have hz : ∃ z, (f 0)[0]? = some z := ⟨(f 0)[0], by simp⟩
      obtain ⟨z, hz⟩ := hz
      have hc0 := h01 0 z hz
      have hspot : spot = none := by simpa [Addr.add] using World.cell?_spot hc0
      subst hspot
      have plain : ∀ n, (⟨b, off, none⟩ : Addr).add n = ⟨b, off + n, none⟩ := fun n => by unfold Addr.add; split <;> simp_all
      rw [plain] at hc0
      cases hh : w.heap[b]? with
      | none => simp [World.cell?, hh] at hc0
      | some o =>
        cases o with
        | cells cs e fr =>
          refine ⟨b, off, cap, cs, e, fr, by simp, by simpa using hl, hh, repP_ints _ _ fun i z hz => ?_⟩
          obtain ⟨q, r, j, h1, h2, rfl⟩ := flat_get _ hr i z hz
          have hq : q < len := by have := (List.getElem?_eq_some_iff.1 h1).1; simpa using this
          have hrq : r = f q := by
            simp only [List.getElem?_map, List.getElem?_range hq, Option.map_some, Option.some.injEq] at h1
            exact h1.symm
          subst hrq
          have hc := (hf q (by omega)).2 j z h2
          rw [plain] at hc
          simp only [World.cell?, hh] at hc
          simpa using hc
        | _ => simp [World.cell?, hh] at hc0

def toRu (r : List Int) : Ru := ⟨r.getD 0 0, r.getD 1 0⟩
def toK (r : List Int) : Int := r.getD 0 0
def toLk (r : List Int) : Lk := ⟨r.getD 0 0, r.getD 1 0, r.getD 2 0⟩
theorem row_ru : ∀ {r : List Int}, r.length = 2 → rowRu (toRu r) = r.map I
  | [_, _], _ => rfl
theorem row_k : ∀ {r : List Int}, r.length = 1 → rowK (toK r) = r.map I
  | [_], _ => rfl
theorem row_lk : ∀ {r : List Int}, r.length = 3 → rowLk (toLk r) = r.map I
  | [_, _, _], _ => rfl
theorem sl_rows {sz : Nat} {rows : List (List Int)} (hr : ∀ r ∈ rows, r.length = sz) {rs : List (List CV)} (he : rs = rows.map (·.map I)) : SlOf sz rs (rows.flatten.map I) 0 rows.length := by
  subst he
  refine ⟨by simp, fun i r h => ?_⟩
  have := flat_sl (rows.map (·.map I)) (sz := sz) (fun r hr' => by
    obtain ⟨r0, h0, rfl⟩ := List.mem_map.1 hr'
    simpa using hr r0 h0) i r h
  rw [← List.map_flatten, ← Nat.zero_add (i * sz)] at this
  exact this


theorem open_stand {r : Reach} {b0 : Nat} {v : Value} {x : DataW H} {ps : List MemPlace} (hv : Value.okWide Try.prog w r b0 29 v) (h : DataW.Trod enc Try.prog w base spare held 29 v x ps) : ∃ (sv : SV) (s : Sd), sv.IsL s ∧ RepC (allOf w) sv.cv v := by
  obtain ⟨cs, rfl, hsz⟩ := okWide_struct Try.underlying29 hv
  obtain ⟨fuel, hf⟩ := h
  obtain ⟨y0, y1, y2, y3, n, _, hl, h0, h1, h2, h3⟩ := Go.Joins.trod_struct4 Try.underlying29 hf
  dsimp only at h0 h1 h2 h3
  rw [cells24] at h0
  rw [cells25] at h1
  rw [cells26] at h2
  rw [cells27] at h3
  obtain ⟨l⟩ := cs
  match l, hsz.trans cells29 with
  | [c0, c1, c2, c3, c4, c5, c6, c7, c8], _ =>
    obtain ⟨zs, hz, he⟩ := mins_int h0
    match zs, hz with
    | [z0, z1, z2, z3, z4, z5], _ =>
      simp at he
      obtain ⟨rfl, rfl, rfl, rfl, rfl, rfl⟩ := he
      obtain ⟨rs, hr1, hr2⟩ := open_rows (c := c6) Try.underlying25 cells50 (by decide) (fun _ _ _ h => run_int h) h1
      obtain ⟨ks, hk1, hk2⟩ := open_rows (c := c7) Try.underlying26 cells3 (by decide) (fun _ _ _ h => kind_int h) h2
      obtain ⟨ls, hl1, hl2⟩ := open_rows (c := c8) Try.underlying27 cells58 (by decide) (fun _ _ _ h => look_int h) h3
      have er : (rs.map toRu).map rowRu = rs.map (·.map I) := by
        rw [List.map_map]; exact List.map_congr_left fun r hr => row_ru (hr1 r hr)
      have ek : (ks.map toK).map rowK = ks.map (·.map I) := by
        rw [List.map_map]; exact List.map_congr_left fun r hr => row_k (hk1 r hr)
      have el : (ls.map toLk).map rowLk = ls.map (·.map I) := by
        rw [List.map_map]; exact List.map_congr_left fun r hr => row_lk (hl1 r hr)
      exact ⟨⟨⟨z0, z2, z4⟩, ⟨z1, z3, z5⟩, rs.flatten.map I, 0, rs.length, ks.flatten.map I, 0, ks.length, ls.flatten.map I, 0, ls.length⟩, ⟨⟨z0, z2, z4⟩, ⟨z1, z3, z5⟩, rs.map toRu, ks.map toK, ls.map toLk⟩, ⟨rfl, rfl, sl_rows hr1 er, sl_rows hk1 ek, sl_rows hl1 el⟩, ⟨_, rfl, rfl, rfl, rfl, rfl, rfl, rfl, rfl, hr2, hk2, hl2, trivial⟩⟩
end
theorem law_u8 {n : Int} (hn : (Lit.int .u8 n).wf = true) : ∃ w : Nat, n = w ∧ w < 256 := by
  have h2 : 0 ≤ n ∧ n < 256 := by
    have m0 : IntKind.u8.min = 0 := by decide
    have m1 : IntKind.u8.max = 255 := by decide
    simp [Lit.wf, IntKind.signed, IntKind.bits] at hn
    omega
  exact ⟨n.toNat, by omega, by omega⟩
theorem law_u16 {n : Int} (hn : (Lit.int .u16 n).wf = true) : ∃ w : Nat, n = w ∧ w < 65536 := by
  have h2 : 0 ≤ n ∧ n < 65536 := by
    have m0 : IntKind.u16.min = 0 := by decide
    have m1 : IntKind.u16.max = 65535 := by decide
    simp [Lit.wf, IntKind.signed, IntKind.bits] at hn
    omega
  exact ⟨n.toNat, by omega, by omega⟩
end Go.Ag
