/- The law DryAll returns true for every input, and the input reads as it did. No conditions. -/
import Derived.Test.YthoappjepbaocaaDrM
import Derived.Test.YthoappjepbaocaaRows
import Derived.WalkKit
import Derived.ProofKit
import Derived.OpenShut
import Derived.ShutString
import Derived.ChangeOld
import Derived.Below
/- Layer 2: the law DryAll. -/
namespace Go.Ag
open Go.Proofs
set_option maxRecDepth 100000
set_option maxHeartbeats 2000000

theorem err_same {d : Dr} (h : validB d = true) : ∀ j, j < d.mobs.length → (mobR d j).2 = (allR d).2 ∧ 0 ≤ (mobR d j).1.1 ∧ (mobR d j).1.1 ≤ 54 ∧ 0 ≤ (mobR d j).1.2 ∧ (mobR d j).1.2 ≤ 54 := by
  intro j hj
  cases hp : possibleF (flockF d)
  · obtain ⟨f1, f2, f3⟩ := all_fail h hp
    rw [f2 j hj, f3]; simp
  · obtain ⟨a, b, xm, mab, ma0, mb54, mbs, mall⟩ := mob_can h hp hj
    rw [all_is h hp, xm]
    refine ⟨rfl, ?_, ?_, ?_, ?_⟩ <;> dsimp only <;> omega
theorem sum_small {f : Nat → Int} {n : Nat} (h : ∀ j, j < n → 0 ≤ f j ∧ f j ≤ 54) : ∀ q, q ≤ n → 0 ≤ sumTo f q ∧ sumTo f q ≤ 54 * q := by
  intro q
  induction q with
  | zero => intro _; exact ⟨Int.le_refl _, Int.le_refl _⟩
  | succ q ih => intro hq; have := ih (by omega); have := h q (by omega); simp only [sumTo]; omega

theorem rd_row {v : DV} {d : Dr} (hv : v.Is d) {k : Nat} (hk : k < d.mobs.length) : readVarC Try.prog 56 v.mc (v.mo + (k : Int).toNat * 3) = some (.agg (rowMo (mobAt d k))) := by
  have := hv.mrow (mobAt_get hk)
  show (sliceOf v.mc (v.mo + (k : Int).toNat * 3) 3).map CV.agg = _
  rw [show v.mo + (k : Int).toNat * 3 = v.mo + k * 3 by omega, this]
  rfl
theorem span_neq {o : Oper} {x y : Operand} {t2 : TypeId} {σ : Operand → AV} {a b c e : Int} (ho : o.op = .binOp .neq 29 x y t2) (hx : σ x = .c (.agg [I a, I b])) (hy : σ y = .c (.agg [I c, I e])) (rd : Nat → AB) (n : Nat) :
    aop Try.prog o σ rd n = some (.simple { val := .c (B (!(decide (a = c) && decide (b = e)))) }) := by
  have vx : (σ x).toVal = some (.agg #[.int .i64 a, .int .i64 b]) := by rw [hx]; rfl
  have vy : (σ y).toVal = some (.agg #[.int .i64 c, .int .i64 e]) := by rw [hy]; rfl
  unfold aop
  rw [ho]
  simp only [abinOp, vx, vy, litBin]
  unfold pureOp
  have hv : (allVals σ o.op.operands.toList && notSelect o.op) = true := by
    rw [ho]; simp [Op.operands, allVals, vx, vy, notSelect]
  rw [if_pos hv]
  have hr : pureRun Try.prog (execOp (fun x => ((σ x).toVal).getD Go.undef) o) = some (.value (.bool (!(decide (a = c) && decide (b = e))))) := by
    unfold execOp
    rw [ho]
    simp only [vx, vy, Option.getD_some, eqGuard, binOp, pureRun_bind, pp0, Option.bind_some, pureRun_ite, eg29]
    simp [pureRun_bind, pp0, eg29, eq_span, pureRun_pure, pureRun_ite]
  rw [hr]
  rfl

theorem arr22 : isArr Try.prog 22 = false := by kernel_rfl
theorem slice_one {o : Oper} {x : Operand} {σ : Operand → AV} {id M : Nat} (ho : o.op = .slice 22 x none (some (.const (.int .i64 1))) none) (hx : σ x = .msl id 3 0 M M) (h1 : σ (.const (.int .i64 1)) = .c (.lit (.int .i64 1))) (hM : 1 ≤ M) (rd : Nat → AB) (n : Nat) :
    aop Try.prog o σ rd n = some (.simple { val := .msl id 3 0 1 M }) := by
  have hb : boundsOf M M none (some (.c (.lit (.int .i64 1)))) none = some (0, 1, M) := by
    have h1 : (1 : Int) ≤ (M : Int) := by omega
    simp [boundsOf, boundOf, asInt, h1]
  unfold aop
  rw [ho]
  simp only [arr22, aslice, U22, S56, hx, Option.map_none, Option.map_some, h1, hb, if_true, val]
  rfl
/-- Of a copy only the first mob. -/
def oneD (d : Dr) : Dr := { d with mobs := d.mobs.take 1 }
def oneOf' (d : Dr) : DV := ⟨mobCells d.mobs, 0, 1, penCells d.pens, 0, d.pens.length, d.limit⟩
theorem one_is {d : Dr} (h1 : 1 ≤ d.mobs.length) (h : d.mobs.length ≤ 40 ∧ d.pens.length ≤ 40) : (oneOf' d).Is (oneD d) := by
  refine ⟨⟨by simp [oneOf', oneD]; omega, fun i r hr => ?_⟩, ⟨by simp [oneOf', oneD], fun i r hr => ?_⟩, rfl, ⟨by simp [oneD]; omega, h.2⟩⟩
  · have : (d.mobs.map rowMo)[i]? = some r := by
      have e : (oneD d).mobs.map rowMo = (d.mobs.map rowMo).take 1 := by simp [oneD, List.map_take]
      rw [e, List.getElem?_take] at hr
      split at hr
      · exact hr
      · cases hr
    exact flat_rows (rowMo_len _) this
  · exact flat_rows (rowPn_len _) hr
theorem snap_one {H : Nat → AB} {a b P M : Nat} {lim : Int} {d : Dr} (hp : d.pens.length = P) (hl : d.limit = lim) (ha : H a = .blk ((mobCells d.mobs).map .c)) (hb : H b = .blk ((penCells d.pens).map .c)) :
    snaps H ((mobCells d.mobs).length + (penCells d.pens).length + 40) [.agg [.msl a 3 0 1 M, .msl b 6 0 P P, .c (I lim)]] = some ([(oneOf' d).cv], [a, b]) := by
  subst hp hl
  simp only [snap, snaps, Option.bind_some, Option.map_some, ha, hb]
  rw [snaps_map_c H (mobCells d.mobs) _ (by omega), snaps_map_c H (penCells d.pens) _ (by omega)]
  rfl

theorem snap_one2 {H : Nat → AB} {a b P M : Nat} {lim : Int} {d : Dr} {c : CV} (hp : d.pens.length = P) (hl : d.limit = lim) (ha : H a = .blk ((mobCells d.mobs).map .c)) (hb : H b = .blk ((penCells d.pens).map .c)) :
    snaps H ((mobCells d.mobs).length + (penCells d.pens).length + 40) [.agg [.msl a 3 0 1 M, .msl b 6 0 P P, .c (I lim)], .c c] = some ([(oneOf' d).cv, c], [a, b]) := by
  subst hp hl
  simp only [snap, snaps, Option.bind_some, Option.map_some, ha, hb]
  rw [snaps_map_c H (mobCells d.mobs) _ (by omega), snaps_map_c H (penCells d.pens) _ (by omega)]
  rfl

theorem allLaw_ret {v : DV} {d : Dr} (hv : v.Is d) (hA : Ret Try.prog 13 [] (B true)) : Ret Try.prog 9 [v.cv] (B true) := by
  have e1 := hv.pn; have e0 := hv.mn; have e2 := hv.lim; have e3 := hv.short
  refine ret_by (hm := false) Try.func9 rfl ?_
  conv => whnf
  refine ⟨v.blk, rfl, ?_⟩
  conv => whnf
  refine .ret (fine_ret hv) rfl ?_
  conv => whnf
  cases hd : validB d
  · conv => whnf
    refine .ret hA rfl ?_
    conv => whnf
    exact .val
  obtain ⟨s1, s2, s3, s4, s5, s6⟩ := valid_sizes hd
  have hall := allOf2_ret hv
  have hes := err_same hd
  have bl := sum_small (f := fun j => (mobR d j).1.1) (n := d.mobs.length) (fun j hj => by have := hes j hj; omega)
  have bh := sum_small (f := fun j => (mobR d j).1.2) (n := d.mobs.length) (fun j hj => by have := hes j hj; omega)
  generalize hE : (allR d).2 = E at hall hes
  generalize hL : (allR d).1.1 = L at hall
  generalize hH : (allR d).1.2 = H at hall
  conv => whnf
  refine ⟨v.blk, rfl, ?_⟩
  conv => whnf
  refine .ret hall rfl ?_
  conv => whnf
  refine ⟨_, at_push_self _ _, ?_⟩
  conv => whnf
  refine ⟨v.blk, (at_old _ _ _ (by rw [push_n]; exact Nat.lt_succ_self 0)).trans (at_push_self _ _), ?_⟩
  conv => whnf
  refine loop_by (I := fun n st => ∃ (q : Nat) (h : Heap), q ≤ d.mobs.length ∧ n = d.mobs.length - q ∧ 2 ≤ h.n ∧ Heap.at h 0 = v.blk ∧ Heap.at h 1 = .blk [.c (I L), .c (I H)] ∧
      Has st 166 [(1, .ptr 0 0), (3, .ptr 1 0), (4, .c (I E)), (5, .c (I (sumTo (fun j => (mobR d j).1.1) q))), (6, .c (I (sumTo (fun j => (mobR d j).1.2) q))), (32, .c (I v.mn)), (33, .c (I q))] [] none h) ?_ (k := d.mobs.length)
    ⟨0, _, Nat.zero_le _, rfl, ?_, ?_, ?_, rfl, ⟨rfl, rfl, rfl, rfl, rfl, rfl, rfl, trivial⟩, rfl, rfl, rfl, rfl⟩
  · rintro n st ⟨q, h, hq, rfl, hn, b0, b1, hs⟩
    refine hs.run (hm := false) ?_
    conv => whnf
    cases hc : decide ((q : Int) < (v.mn : Int))
    case true =>
      have hq : q < d.mobs.length := by simp at hc; omega
      have hmob := mob_ret hv q
      rw [(hes q hq).1] at hmob
      conv => whnf
      refine ⟨_, b0, ?_⟩
      conv => whnf
      refine .ret hmob rfl ?_
      conv => whnf
      refine ⟨_, at_push_self _ _, ?_⟩
      conv => whnf
      have kE : (E != E) = false := by simp
      rw [kE]
      conv => whnf
      refine draw_by (hm := false) (by kernel_rfl) (by kernel_rfl) ?_
      conv => whnf
      have sl := bl q (by omega); have sh := bh q (by omega); have sq := hes q hq
      have eL : sumTo (fun j => (mobR d j).1.1) (q + 1) = sumTo (fun j => (mobR d j).1.1) q + (mobR d q).1.1 := rfl
      have eH : sumTo (fun j => (mobR d j).1.2) (q + 1) = sumTo (fun j => (mobR d j).1.2) q + (mobR d q).1.2 := rfl
      refine ⟨_, at_new _ _ _, ?_⟩
      conv => whnf
      refine ⟨sumTo (fun j => (mobR d j).1.1) (q + 1), by rw [eL]; exact wrap_eq (by omega) (by omega), ?_⟩
      conv => whnf
      refine ⟨_, at_new _ _ _, ?_⟩
      conv => whnf
      refine ⟨sumTo (fun j => (mobR d j).1.2) (q + 1), by rw [eH]; exact wrap_eq (by omega) (by omega), ?_⟩
      conv => whnf
      refine ⟨by kernel_rfl, ?_⟩
      conv => whnf
      refine ⟨((q + 1 : Nat) : Int), by rw [wrap_eq (by omega) (by omega)]; omega, ?_⟩
      conv => whnf
      exact ⟨d.mobs.length - (q + 1), by omega, q + 1, _, by omega, rfl, by show 2 ≤ h.n + 1; omega, (at_old _ _ _ (by omega)).trans b0, (at_old _ _ _ (by omega)).trans b1, rfl, ⟨rfl, rfl, rfl, rfl, rfl, rfl, rfl, trivial⟩, rfl, rfl, rfl, rfl⟩
    have hqe : q = d.mobs.length := by simp at hc; omega
    subst hqe
    cases hpos : possibleF (flockF d)
    · obtain ⟨f1, f2, f3⟩ := all_fail hd hpos
      rw [f3] at hE hL hH
      subst hE hL hH
      conv => whnf
      refine ⟨_, b1, ?_⟩
      conv => whnf
      refine plain_val (span_eql rfl rfl rfl _ _) ?_
      conv => whnf
      refine .ret hA rfl ?_
      conv => whnf
      exact .val
    obtain ⟨L', H', xa, aL, aH, aLH⟩ := all_sum hd hpos
    rw [xa] at hE hL hH
    subst hE hL hH
    dsimp only at *
    conv => whnf
    have k1 : decide (L' < sumTo (fun j => (mobR d j).1.1) d.mobs.length) = false := by rw [decide_eq_false_iff_not]; omega
    have k2 : decide (H' > sumTo (fun j => (mobR d j).1.2) d.mobs.length) = false := by rw [decide_eq_false_iff_not]; omega
    have k3 : decide (L' > H') = false := by rw [decide_eq_false_iff_not]; omega
    refine ⟨_, b1, ?_⟩
    conv => whnf
    rw [k1]
    conv => whnf
    refine ⟨_, b1, ?_⟩
    conv => whnf
    rw [k2]
    conv => whnf
    refine ⟨_, b1, ?_⟩
    conv => whnf
    refine ⟨_, b1, ?_⟩
    conv => whnf
    rw [k3]
    conv => whnf
    refine ⟨_, b0, ?_⟩
    conv => whnf
    obtain ⟨ec, h1, hc1, rfl, f1, c3, c5, hn1⟩ := copied_ret hv s1 s3 h
    have c5' : Heap.at h1 (h.n + 5) = .blk ((penCells d.pens).map .c) := c5
    have c3' : Heap.at h1 (h.n + 3) = .blk ((mobCells d.mobs).map .c) := c3
    refine .inl _ h1 .no hc1 ?_
    conv => whnf
    refine ⟨_, at_push_self _ _, ?_⟩
    conv => whnf
    refine ⟨_, at_new _ _ _, ?_⟩
    conv => whnf
    have hzb : ∀ q, bareTo d 0 (q + 1) = setP (bareTo d 0 q) q ⟨(penAt (bareTo d 0 q) q).fr, 0, 36⟩ := fun q => by simp [bareTo]
    refine loop_by (I := fun n st => ∃ (q : Nat) (h2 : Heap), q ≤ d.pens.length ∧ n = d.pens.length - q ∧ h1.n < h2.n ∧ Heap.at h2 0 = v.blk ∧ Heap.at h2 h1.n = .blk [.msl (h.n + 3) 3 0 d.mobs.length d.mobs.length, .msl (h.n + 5) 6 0 d.pens.length d.pens.length, .c (I v.lim)] ∧
        Heap.at h2 (h.n + 3) = .blk ((mobCells d.mobs).map .c) ∧ Heap.at h2 (h.n + 5) = .blk ((penCells (bareTo d 0 q).pens).map .c) ∧
        Has st 166 [(1, .ptr 0 0), (5, .c (I 0)), (6, .c (I 0)), (10, .ptr h1.n 0), (87, .c (I d.pens.length)), (88, .c (I q))] [] none h2) ?_ (k := d.pens.length)
      ⟨0, _, Nat.zero_le _, rfl, (by show h1.n < h1.n + 1; omega), (at_old _ _ _ (by omega)).trans ((f1.keep 0 (by omega) (by simp)).trans b0), at_new _ _ _, (at_old _ _ _ (by omega)).trans c3', (at_old _ _ _ (by omega)).trans c5', rfl, ⟨rfl, rfl, rfl, rfl, rfl, rfl, trivial⟩, rfl, rfl, rfl, rfl⟩
    rintro n2 st2 ⟨q, h2, hq2, rfl, hn2, d0, d6, d3, d5, hs2⟩
    refine hs2.run (hm := false) ?_
    conv => whnf
    cases hc2 : decide ((q : Int) < (d.pens.length : Int))
    case true =>
      have hq2 : q < d.pens.length := by simp at hc2; omega
      have hql : q < (bareTo d 0 q).pens.length := by rw [bare_len]; exact hq2
      conv => whnf
      refine draw_by (hm := false) (by kernel_rfl) (by kernel_rfl) ?_
      conv => whnf
      refine ⟨_, d6, ?_⟩
      conv => whnf
      refine .ret (mkspan_ret _ _) rfl ?_
      conv => whnf
      refine ⟨⟨rfl, by omega, by omega⟩, ?_⟩
      conv => whnf
      refine ⟨_, d5, look_put (put_found' hql 0 36) ?_⟩
      conv => whnf
      refine ⟨by show h.n + 5 < h2.n; omega, ?_⟩
      conv => whnf
      refine forceL_intro ?_
      conv => whnf
      refine ⟨by kernel_rfl, ?_⟩
      conv => whnf
      refine ⟨((q + 1 : Nat) : Int), by rw [wrap_eq (by omega) (by omega)]; omega, ?_⟩
      conv => whnf
      refine ⟨d.pens.length - (q + 1), by omega, q + 1, _, by omega, rfl, (by show h1.n < h2.n; exact hn2), (at_set_ne _ _ (by omega)).trans d0, (at_set_ne _ _ (by omega)).trans d6, (at_set_ne _ _ (by omega)).trans d3, ?_, rfl, ⟨rfl, rfl, rfl, rfl, rfl, rfl, trivial⟩, rfl, rfl, rfl, rfl⟩
      rw [hzb]
      exact at_set_self _ _ (by omega)
    have hqe : q = d.pens.length := by simp at hc2; omega
    subst hqe
    conv => whnf
    refine ⟨_, d0, ?_⟩
    conv => whnf
    have vmob := fun j (hj : j < d.mobs.length) => valid_mob hd hj
    have bl2 := sum_small (f := fun j => (mobAt d j).lo) (n := d.mobs.length) (fun j hj => by have := vmob j hj; omega)
    have bh2 := sum_small (f := fun j => min (mobAt d j).hi (sheepF d j)) (n := d.mobs.length) (fun j hj => by have := vmob j hj; omega)
    refine loop_by (I := fun n st => ∃ (q : Nat) (h3 : Heap), q ≤ d.mobs.length ∧ n = d.mobs.length - q ∧ h1.n < h3.n ∧ Heap.at h3 0 = v.blk ∧ Heap.at h3 h1.n = .blk [.msl (h.n + 3) 3 0 d.mobs.length d.mobs.length, .msl (h.n + 5) 6 0 d.pens.length d.pens.length, .c (I v.lim)] ∧
        Heap.at h3 (h.n + 3) = .blk ((mobCells d.mobs).map .c) ∧ Heap.at h3 (h.n + 5) = .blk ((penCells (bareD d 0).pens).map .c) ∧
        Has st 166 [(1, .ptr 0 0), (5, .c (I (sumTo (fun j => (mobAt d j).lo) q))), (6, .c (I (sumTo (fun j => min (mobAt d j).hi (sheepF d j)) q))), (10, .ptr h1.n 0), (99, .c (.sl v.mc v.mo v.mn)), (100, .c (I v.mn)), (101, .c (I q))] [] none h3) ?_ (k := d.mobs.length)
      ⟨0, _, Nat.zero_le _, rfl, hn2, d0, d6, d3, d5, rfl, ⟨rfl, rfl, rfl, rfl, rfl, rfl, rfl, trivial⟩, rfl, rfl, rfl, rfl⟩
    rintro n3 st3 ⟨q, h3, hq3, rfl, hn3, g0, g6, g3, g5, hs3⟩
    refine hs3.run (hm := false) ?_
    conv => whnf
    cases hc3 : decide ((q : Int) < (v.mn : Int))
    case true =>
      have hq3 : q < d.mobs.length := by simp at hc3; omega
      have sl := bl2 q (by omega); have sh := bh2 q (by omega); have vq := vmob q hq3
      have eL : sumTo (fun j => (mobAt d j).lo) (q + 1) = sumTo (fun j => (mobAt d j).lo) q + (mobAt d q).lo := rfl
      have eH : sumTo (fun j => min (mobAt d j).hi (sheepF d j)) (q + 1) = sumTo (fun j => min (mobAt d j).hi (sheepF d j)) q + min (mobAt d q).hi (sheepF d q) := rfl
      have rr := rd_row hv hq3
      conv => whnf
      refine ⟨⟨by omega, by omega⟩, ?_⟩
      conv => whnf
      refine ⟨_, rr, ?_⟩
      conv => whnf
      refine ⟨_, at_push_self _ _, ?_⟩
      conv => whnf
      have hof := ofMob_ret hv hq3 (by omega) (by simp only [inB, Bool.and_eq_true, decide_eq_true_eq]; omega) (fun k hk => by
        have := (valid_pen hd hk).2.2.2 q hq3
        simp only [inB, Bool.and_eq_true, decide_eq_true_eq]; omega)
      refine draw_by (hm := false) (by kernel_rfl) (by kernel_rfl) ?_
      conv => whnf
      refine ⟨_, at_new _ _ _, ?_⟩
      conv => whnf
      refine ⟨sumTo (fun j => (mobAt d j).lo) (q + 1), by rw [eL]; exact wrap_eq (by omega) (by omega), ?_⟩
      conv => whnf
      refine ⟨_, at_new _ _ _, ?_⟩
      conv => whnf
      refine ⟨_, (at_old _ _ _ (by omega)).trans g0, ?_⟩
      conv => whnf
      refine .ret hof rfl ?_
      conv => whnf
      refine ⟨sumTo (fun j => min (mobAt d j).hi (sheepF d j)) (q + 1), by rw [eH]; exact wrap_eq (by omega) (by omega), ?_⟩
      conv => whnf
      refine ⟨by kernel_rfl, ?_⟩
      conv => whnf
      refine ⟨((q + 1 : Nat) : Int), by rw [wrap_eq (by omega) (by omega)]; omega, ?_⟩
      conv => whnf
      exact ⟨d.mobs.length - (q + 1), by omega, q + 1, _, by omega, rfl, (by show h1.n < h3.n + 1; omega), (at_old _ _ _ (by omega)).trans g0, (at_old _ _ _ (by omega)).trans g6, (at_old _ _ _ (by omega)).trans g3, (at_old _ _ _ (by omega)).trans g5, rfl, ⟨rfl, rfl, rfl, rfl, rfl, rfl, rfl, trivial⟩, rfl, rfl, rfl, rfl⟩
    have hqe : q = d.mobs.length := by simp at hc3; omega
    subst hqe
    have bm : (bareD d 0).mobs = d.mobs := bare_mobs d 0 _
    have bp : (bareD d 0).pens.length = d.pens.length := bare_len d 0 _
    have hball := allOf2_ret (vOf_is (d := bareD d 0) ⟨by rw [bm]; exact e3.1, by rw [bp]; exact e3.2⟩)
    rw [bare_all hd] at hball
    dsimp only at hball
    conv => whnf
    refine ⟨_, g6, ?_⟩
    conv => whnf
    refine .snapped _ _ _ _ _ (snap_own (d := bareD d 0) (by rw [bm]) bp (by rw [show (bareD d 0).limit = d.limit from bare_lim d 0 _]; exact e2.symm) (by rw [bm]; exact g3) g5) hball rfl ?_
    conv => whnf
    refine ⟨_, at_push_self _ _, ?_⟩
    conv => whnf
    refine draw_by (hm := false) (by kernel_rfl) (by kernel_rfl) ?_
    conv => whnf
    refine ⟨_, at_new _ _ _, ?_⟩
    conv => whnf
    refine .ret (mkspan_ret _ _) rfl ?_
    conv => whnf
    refine dplain_val (span_neq rfl rfl rfl _ _) ?_
    conv => whnf
    have kk : (!(decide (sumTo (fun j => (mobAt d j).lo) d.mobs.length = sumTo (fun j => (mobAt d j).lo) d.mobs.length) && decide (sumTo (fun j => min (mobAt d j).hi (sheepF d j)) d.mobs.length = sumTo (fun j => min (mobAt d j).hi (sheepF d j)) d.mobs.length))) = false := by simp
    rw [kk]
    refine ⟨by kernel_rfl, ?_⟩
    conv => whnf
    refine ⟨_, (at_old h3 _ _ (show 0 < h3.n by omega)).trans g0, ?_⟩
    conv => whnf
    obtain ⟨ec, h4, hc4, rfl, f4, u3, u5, hn4⟩ := copied_ret hv s1 s3 ((h3.push .dead (.blk [AV.lit (.int .i64 0), AV.lit (.int .i64 0)])).set .dead h3.n (.blk [.c (I (sumTo (fun j => (mobAt d j).lo) d.mobs.length)), .c (I (sumTo (fun j => min (mobAt d j).hi (sheepF d j)) d.mobs.length))]))
    rw [new_n] at u3 u5 hn4
    have u5' : Heap.at h4 (h3.n + 1 + 5) = .blk ((penCells d.pens).map .c) := u5
    have u3' : Heap.at h4 (h3.n + 1 + 3) = .blk ((mobCells d.mobs).map .c) := u3
    refine .inl _ h4 .no hc4 ?_
    conv => whnf
    refine ⟨_, at_push_self _ _, ?_⟩
    conv => whnf
    refine ⟨_, at_new _ _ _, ?_⟩
    conv => whnf
    refine plain_val (slice_one rfl rfl rfl s1 _ _) ?_
    conv => whnf
    refine ⟨_, at_new _ _ _, ?_⟩
    conv => whnf
    have his := one_is (d := d) s1 e3
    have hdx := dry_ret his
    have hax := allOf2_ret his
    have hmx := mob_ret his 0
    have w3 : ∀ {Z O O2 : AB}, Heap.at (TMap.set .dead (TMap.set .dead (TMap.push .dead h4 Z) h4.n O) h4.n O2) (h3.n + 1 + 3) = .blk ((mobCells d.mobs).map .c) := fun {Z O O2} => (at_set_ne _ _ (by omega)).trans ((at_old h4 _ _ (by omega)).trans u3')
    have w5 : ∀ {Z O O2 : AB}, Heap.at (TMap.set .dead (TMap.set .dead (TMap.push .dead h4 Z) h4.n O) h4.n O2) (h3.n + 1 + 5) = .blk ((penCells d.pens).map .c) := fun {Z O O2} => (at_set_ne _ _ (by omega)).trans ((at_old h4 _ _ (by omega)).trans u5')
    have w6 : ∀ {Z O O2 : AB}, Heap.at (TMap.set .dead (TMap.set .dead (TMap.push .dead h4 Z) h4.n O) h4.n O2) h4.n = O2 := fun {Z O O2} => at_set_self _ _ (by show h4.n < h4.n + 1; omega)
    refine ⟨_, w6, ?_⟩
    conv => whnf
    refine .snapped _ _ _ _ _ (snap_one rfl e2.symm w3 w5) hdx rfl ?_
    conv => whnf
    cases hv1 : validB (oneD d)
    · conv => whnf
      refine .ret hA rfl ?_
      conv => whnf
      exact .val
    have hone := one_all hv1 (by simp [oneD]; omega)
    rw [hone] at hax
    conv => whnf
    refine ⟨_, w6, ?_⟩
    conv => whnf
    refine .snapped _ _ _ _ _ (snap_one rfl e2.symm w3 w5) hax rfl ?_
    conv => whnf
    refine ⟨_, at_push_self _ _, ?_⟩
    conv => whnf
    have x3 : ∀ {Z O O2 Z2 S : AB}, Heap.at (TMap.set .dead (TMap.push .dead (TMap.set .dead (TMap.set .dead (TMap.push .dead h4 Z) h4.n O) h4.n O2) Z2) (h4.n + 1) S) (h3.n + 1 + 3) = .blk ((mobCells d.mobs).map .c) := fun {Z O O2 Z2 S} => (at_set_ne _ _ (by omega)).trans ((at_push_lt _ _ (by show h3.n + 1 + 3 < h4.n + 1; omega)).trans w3)
    have x5 : ∀ {Z O O2 Z2 S : AB}, Heap.at (TMap.set .dead (TMap.push .dead (TMap.set .dead (TMap.set .dead (TMap.push .dead h4 Z) h4.n O) h4.n O2) Z2) (h4.n + 1) S) (h3.n + 1 + 5) = .blk ((penCells d.pens).map .c) := fun {Z O O2 Z2 S} => (at_set_ne _ _ (by omega)).trans ((at_push_lt _ _ (by show h3.n + 1 + 5 < h4.n + 1; omega)).trans w5)
    have x6 : ∀ {Z O O2 Z2 S : AB}, Heap.at (TMap.set .dead (TMap.push .dead (TMap.set .dead (TMap.set .dead (TMap.push .dead h4 Z) h4.n O) h4.n O2) Z2) (h4.n + 1) S) h4.n = O2 := fun {Z O O2 Z2 S} => (at_set_ne _ _ (by omega)).trans ((at_push_lt _ _ (by show h4.n < h4.n + 1; omega)).trans w6)
    have x7 : ∀ {Z O O2 Z2 S : AB}, Heap.at (TMap.set .dead (TMap.push .dead (TMap.set .dead (TMap.set .dead (TMap.push .dead h4 Z) h4.n O) h4.n O2) Z2) (h4.n + 1) S) (h4.n + 1) = S := fun {Z O O2 Z2 S} => at_set_self _ _ (by show h4.n + 1 < h4.n + 1 + 1; omega)
    refine ⟨_, x6, ?_⟩
    conv => whnf
    refine .snapped _ _ _ _ _ (snap_one2 rfl e2.symm x3 x5) hmx rfl ?_
    conv => whnf
    refine ⟨_, at_push_self _ _, ?_⟩
    conv => whnf
    have y7 : ∀ {Z O O2 Z2 S Z3 S3 : AB}, Heap.at (TMap.set .dead (TMap.push .dead (TMap.set .dead (TMap.push .dead (TMap.set .dead (TMap.set .dead (TMap.push .dead h4 Z) h4.n O) h4.n O2) Z2) (h4.n + 1) S) Z3) (h4.n + 1 + 1) S3) (h4.n + 1) = S := fun {Z O O2 Z2 S Z3 S3} => (at_set_ne _ _ (by omega)).trans ((at_push_lt _ _ (by show h4.n + 1 < h4.n + 1 + 1; omega)).trans x7)
    have y8 : ∀ {Z O O2 Z2 S Z3 S3 : AB}, Heap.at (TMap.set .dead (TMap.push .dead (TMap.set .dead (TMap.push .dead (TMap.set .dead (TMap.set .dead (TMap.push .dead h4 Z) h4.n O) h4.n O2) Z2) (h4.n + 1) S) Z3) (h4.n + 1 + 1) S3) (h4.n + 1 + 1) = S3 := fun {Z O O2 Z2 S Z3 S3} => at_set_self _ _ (by show h4.n + 1 + 1 < h4.n + 1 + 1 + 1; omega)
    refine ⟨_, y7, ?_⟩
    conv => whnf
    refine ⟨_, y8, ?_⟩
    conv => whnf
    have kt : (decide ((mobR (oneD d) 0).1.1 = (mobR (oneD d) 0).1.1) && decide ((mobR (oneD d) 0).1.2 = (mobR (oneD d) 0).1.2)) = true := by simp
    have ke : ((mobR (oneD d) 0).2 == (mobR (oneD d) 0).2) = true := by simp
    refine plain_val (span_eql rfl rfl rfl _ _) ?_
    conv => whnf
    rw [kt]
    conv => whnf
    rw [ke]
    conv => whnf
    refine .ret hA rfl ?_
    conv => whnf
    exact .val
  · show 2 ≤ 1 + 1; omega
  · exact (at_old _ _ _ (by rw [push_n]; exact Nat.lt_succ_self 0)).trans (at_push_self _ _)
  · exact at_new _ _ _
end Go.Ag
/- The statement DryAll. -/
namespace Go.Ag
open Go.Proofs
set_option maxRecDepth 100000
theorem dryAll_far {v : DV} (hfar : max (v.mn : Int) (v.pn : Int) > 40) (hA : Ret Try.prog 13 [] (B true)) : Ret Try.prog 9 [v.cv] (B true) := by
  have hf := fine_far hfar
  refine ret_by (hm := true) Try.func9 rfl ?_
  conv => whnf
  refine .ret hf rfl ?_
  conv => whnf
  refine .ret hA rfl ?_
  conv => whnf
  exact .val
theorem dryAll_any {v : DV} {d : Dr} (h : v.IsL d) : Ret Try.prog 9 [v.cv] (B true) := by
  by_cases hs : v.mn ≤ 40 ∧ v.pn ≤ 40
  · have e1 : v.mn = d.mobs.length := by rw [h.m.len]; simp
    have e2 : v.pn = d.pens.length := by rw [h.p.len]; simp
    exact allLaw_ret ⟨h.m, h.p, h.lim, by omega⟩ Awake.awake_ret
  · exact dryAll_far (by omega) Awake.awake_ret
end Go.Ag
namespace Go.Proofs.Ythoappjepbaocaa.dryAll
open Go.ChangeShapes Go.WideShapes Go.ChangeAt Go.RowKit
set_option linter.unusedVariables false

theorem own : ownKnob Try.prog.godebug = none := by kernel_rfl
theorem laidOut : laidOutB Try.prog = true := by kernel_rfl

theorem walk (v : Go.Ag.DV) (d : Go.Ag.Dr) (h : v.IsL d) (u : Value) (w : World) (hu : Go.Ag.RepC (Go.Ag.allOf w) v.cv u) : Calls Try.prog 9 #[u] w fun e w' => e = .returned (.bool true) ∧ RowKit.Below w.heap.size w w' :=
  Go.Ag.calls_of_ok (args := [v.cv]) (Go.Ag.dryAll_any h) w #[u] rfl ⟨hu, trivial⟩

set_option maxRecDepth 100000 in
theorem lifted (os : Os) (started : os.Started) (H : Type) (enc : TypeId × Value → H) :
    ReturnsInHanded {} Try.checked os 9 .any (Rows.dryAllSpec.pre6 enc Try.prog Try.f9 Rows.dryAllRow.domain false) (Rows.dryAllSpec.post enc Try.prog Try.f9 false true false false) := by
  refine returnsInHanded_of_change (C := Try.checked) own started (by kernel_rfl) Try.func9
    (ChangeSpec.witness6 (enc := enc) (C := Try.checked) false ⟨#[], #[.agg #[.slice none 0 0, .slice none 0 0, .int .i64 0]], []⟩ 8 (by kernel_rfl) (by kernel_rfl) (by kernel_rfl) (by kernel_rfl)) ?_
  intro W base args ds gs before hval0 hW hcnd _
  have hval : ∀ (j : Nat) t v, Try.f9.params[j]? = some t → args[j]? = some v → Value.okWide Try.prog W .any base t v := hval0
  have hW' := hW
  obtain ⟨p, q, hA0, hV, rfl, hfz, hnd⟩ := hW
  have hA : DataW.TrodAll enc Try.prog W 0 (fun _ => true) true Try.f9.params.toList args.toList ds p := hA0
  rw [Try.params9] at hA hval
  obtain ⟨v0, vs0, d0, ds0, p0, q0, hargs, rfl, rfl, h0, r0⟩ := trodAll_cons hA
  obtain ⟨rfl, rfl, rfl⟩ := trodAll_nil r0
  obtain ⟨rfl, rfl⟩ := trodVars_none hV
  obtain rfl : args = #[v0] := by cases args; simp_all
  have k0 := h0
  have lt0 : ∀ x ∈ p0, x.block < W.heap.size := by obtain ⟨m, hm⟩ := k0; exact DataW.trod_lt m _ _ _ hm
  obtain ⟨dv, d, hd, hu⟩ := Go.Ag.open_drove (hval 0 25 v0 rfl rfl) h0
  clear hA0 hval0
  refine (walk dv d hd v0 W hu).mono fun e W' ⟨he, bel⟩ => ?_
  subst he
  exact ⟨_, rfl, _, _, _, [], _, [], hW', trodAll_mk1 (shut_bool Try.underlying4 _), (trodAll_cons_mk (Below.trod laidOut (by kernel_rfl) (of_decide_eq_true (by kernel_rfl)) k0 bel lt0) trodAll_mk0), rfl, bel.frame _, fun h => by cases h⟩

theorem over : Rows.dryAllRow.holds Try.pinned (OpenSpec.ofChange Rows.dryAllSpec) :=
  OpenClaim.holds_of_wide 9 Try.f9 rfl rfl rfl rfl rfl rfl rfl ⟨rfl, rfl, rfl, rfl, rfl⟩ rfl rfl rfl rfl rfl (by kernel_rfl) Try.func9 (by kernel_rfl)
    (of_decide_eq_true (by kernel_rfl)) (by unfold Func.isWrapper; first | (rw [if_pos (by decide +kernel)]; kernel_rfl) | (rw [if_neg (by decide +kernel)]; exact ⟨rfl, rfl⟩))
    (fun os started H enc _ => lifted os started H enc)

/-- ████ THE STATEMENT ████ -/
theorem proved : Rows.DryAllSaid := over
#print axioms proved
end Go.Proofs.Ythoappjepbaocaa.dryAll
