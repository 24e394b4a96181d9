/- Contracts of functions of layer 2: the law of the sheep, a mob, a part. No conditions. -/
import Derived.Test.YthoappjepbaocaaDrB
/- Layer 2: the law of the sheep that can be shorn. -/
namespace Go.Ag
open Go.Proofs
set_option maxRecDepth 100000

theorem down_max {lo hi : Int} {p : Int → Bool} {b : Int} (h : (intsDown lo hi).find? p = some b) {y : Int} (h1 : lo ≤ y) (h2 : y ≤ hi) (hp : p y = true) : y ≤ b := by
  obtain ⟨_, l1, l2, e, hn⟩ := List.find?_eq_some_iff_append.1 h
  have hs : (intsDown lo hi).Pairwise (· > ·) := by
    unfold intsDown
    rw [List.pairwise_map]
    refine List.Pairwise.imp ?_ (List.pairwise_lt_range' (n := upN lo hi) (s := 0))
    intro a b hab
    omega
  have hm : y ∈ intsDown lo hi := mem_down.2 ⟨h1, h2⟩
  rw [e] at hm hs
  rcases List.mem_append.1 hm with hm | hm
  · have := hn y hm; simp [hp] at this
  · rcases List.mem_cons.1 hm with hm | hm
    · omega
    · have h3 := (List.pairwise_append.1 hs).2.1
      have := (List.pairwise_cons.1 h3).1 y hm
      omega
theorem span_le {lo hi : Int} {p : Int → Bool} {a b : Int} (h : spanBy lo hi p = some (a, b)) : a ≤ b := by
  unfold spanBy at h
  split at h
  · rename_i x y hx hy
    simp only [Option.some.injEq, Prod.mk.injEq] at h
    obtain ⟨rfl, rfl⟩ := h
    have hm := mem_up.1 (List.mem_of_find?_eq_some hx)
    exact down_max hy hm.1 hm.2 (by simpa using List.find?_some hx)
  · simp at h

theorem pen_cases {d : Dr} (h : validB d = true) {q : Nat} (hq : q < d.pens.length) (hf : fineB d q = true) : ∃ lo hi t, penR d q = ((lo, hi), 0) ∧ lo ≤ hi ∧ dryR d q = (t, 0) ∧ ((t = 2 ∧ hi ≤ d.limit) ∨ (t = 1 ∧ lo ≤ d.limit ∧ ¬ hi ≤ d.limit) ∨ (t = 0 ∧ ¬ lo ≤ d.limit ∧ ¬ hi ≤ d.limit)) := by
  have hi : inB (q : Int) 0 (d.pens.length - 1) = true := by simp [inB]; omega
  unfold fineB at hf
  have hf : (dryR d q).2 = 0 := by simpa using hf
  cases hs : spanPen (flockF d) q with
  | none =>
    exfalso
    unfold dryR penR at hf
    rw [h, hi] at hf
    simp only [Bool.true_eq_false, if_false, Int.toNat_natCast, hs] at hf
    simp at hf
  | some s =>
    have hp : penR d q = (s, 0) := by
      unfold penR
      rw [h, hi]
      simp only [Bool.true_eq_false, if_false, Int.toNat_natCast, hs]
    obtain ⟨lo, hi⟩ := s
    refine ⟨lo, hi, (dryR d q).1, hp, span_le (by unfold spanPen at hs; exact hs), by rw [← hf], ?_⟩
    have hl : lo ≤ hi := span_le (by unfold spanPen at hs; exact hs)
    unfold dryR
    rw [hp]
    simp only [ne_eq, not_true, if_false]
    split
    · simp; assumption
    · split
      · simp; omega
      · simp; omega

def wider (d : Dr) : Dr := { d with limit := min 36 (d.limit + 1) }
def DV.wider (v : DV) : DV := { v with lim := min 36 (v.lim + 1) }
theorem DV.Is.wider {v : DV} {d : Dr} (h : v.Is d) : v.wider.Is (Go.Ag.wider d) := ⟨h.m, h.p, by show min 36 (v.lim + 1) = min 36 (d.limit + 1); rw [h.lim], h.short⟩
theorem wider_valid {d : Dr} (h : validB d = true) : validB (wider d) = true := by
  have hs := valid_sizes h
  simp only [validB, Bool.and_eq_true] at h ⊢
  refine ⟨⟨?_, h.1.2⟩, h.2⟩
  have h0 := h.1.1
  simp only [sizesOk, inB, Bool.and_eq_true, decide_eq_true_eq] at h0 ⊢
  refine ⟨h0.1, ?_, ?_⟩ <;> (show _ ≤ _; unfold wider; dsimp only; omega)
theorem pen_wider {d : Dr} (h : validB d = true) (n : Int) : penR (wider d) n = penR d n := by
  unfold penR
  rw [wider_valid h, h]
  rfl
theorem fine_wider {d : Dr} (h : validB d = true) (q : Nat) (hf : fineB d q = true) : fineB (wider d) q = true := by
  unfold fineB at hf ⊢
  unfold dryR at hf ⊢
  rw [pen_wider h]
  by_cases hp : (penR d q).2 ≠ 0
  · rw [if_pos hp] at hf; simp at hf; exact absurd hf hp
  · rw [if_neg hp]
    split
    · rfl
    · split <;> rfl
theorem sure_wider {d : Dr} (h : validB d = true) (q : Nat) (hf : sureB d q = true) : sureB (wider d) q = true := by
  have hs := valid_sizes h
  unfold sureB at hf ⊢
  unfold dryR at hf ⊢
  rw [pen_wider h]
  by_cases hp : (penR d q).2 ≠ 0
  · rw [if_pos hp] at hf; simp at hf
  · rw [if_neg hp] at hf ⊢
    by_cases h1 : (penR d q).1.2 ≤ d.limit
    · rw [if_pos (show (penR d q).1.2 ≤ (wider d).limit by unfold wider; dsimp only; omega)]; rfl
    · rw [if_neg h1] at hf
      split at hf <;> simp at hf
theorem pen4_pos {d : Dr} (h : validB d = true) (k : Nat) : 0 ≤ sum4 (penF (flockF d) k).fr ∧ (k < d.pens.length → sum4 (penF (flockF d) k).fr = penSheep d k) := by
  obtain ⟨h1, h2, h3, h4, h5, h6⟩ := valid_sizes h
  by_cases hk : k < d.pens.length
  · rw [penF_flock hk]
    have e : sum4 (cutPen d.mobs.length (penAt d k)).fr = penSheep d k := sum_cut _ h2
    refine ⟨?_, fun _ => e⟩
    rw [e]
    have hp := (valid_pen h hk).2.2.2
    unfold penSheep
    have : ∀ m, m ≤ d.mobs.length → 0 ≤ sumTo (penAt d k).fr m := by
      intro m
      induction m with
      | zero => intro _; exact Int.le_refl 0
      | succ m ih => intro hm; have := ih (by omega); have := (hp m (by omega)).1; show 0 ≤ sumTo _ m + _; omega
    exact this _ (Nat.le_refl _)
  · rw [penF_out hk]
    exact ⟨by decide, fun h => absurd h hk⟩
theorem inPens_mono {d : Dr} (h : validB d = true) {s s' : Nat} (hs : ∀ k, s.testBit k = true → s'.testBit k = true) : inPensF (flockF d) s ≤ inPensF (flockF (wider d)) s' := by
  have hl : (flockF d).pens.length = d.pens.length := by simp [flockF]
  have hfl : flockF (wider d) = flockF d := rfl
  rw [hfl]
  unfold inPensF
  rw [hl]
  have : ∀ m, sumTo (fun k => if s.testBit k then sum4 (penF (flockF d) k).fr else 0) m ≤ sumTo (fun k => if s'.testBit k then sum4 (penF (flockF d) k).fr else 0) m := by
    intro m
    induction m with
    | zero => exact Int.le_refl 0
    | succ m ih =>
      have hp := (pen4_pos h m).1
      have hi := hs m
      simp only [sumTo]
      by_cases hb : s.testBit m = true
      · rw [if_pos hb, if_pos (hi hb)]; omega
      · rw [if_neg hb]
        split <;> omega
  exact this _
theorem sheep_more {d : Dr} (h : validB d = true) (hf : allTo (fineB d) d.pens.length = true) : sheepR d = (inPensF (flockF d) (bitsOf (sureB d) d.pens.length), 0) ∧ (sheepR (wider d)).2 = 0 ∧ (sheepR d).1 ≤ (sheepR (wider d)).1 := by
  have hw := wider_valid h
  have hfw : allTo (fineB (wider d)) (wider d).pens.length = true := allTo_iff.2 fun k hk => fine_wider h k (allTo_iff.1 hf k hk)
  have e1 : shearR d = (bitsOf (sureB d) d.pens.length, bitsOf (mayB d) d.pens.length, 0) := by unfold shearR; rw [h, hf]; simp
  have e2 : shearR (wider d) = (bitsOf (sureB (wider d)) d.pens.length, bitsOf (mayB (wider d)) d.pens.length, 0) := by unfold shearR; rw [hw, hfw]; simp; exact ⟨rfl, rfl⟩
  have s1 : sheepR d = (inPensF (flockF d) (bitsOf (sureB d) d.pens.length), 0) := by unfold sheepR; rw [e1]; simp
  have s2 : sheepR (wider d) = (inPensF (flockF (wider d)) (bitsOf (sureB (wider d)) d.pens.length), 0) := by unfold sheepR; rw [e2]; simp
  refine ⟨s1, by rw [s2], ?_⟩
  rw [s1, s2]
  refine inPens_mono h fun k hk => ?_
  rw [bitsOf_test] at hk ⊢
  simp only [Bool.and_eq_true] at hk ⊢
  exact ⟨hk.1, sure_wider h k hk.2⟩

theorem err_none {d : Dr} (h : validB d = true) (hf : allTo (fineB d) d.pens.length = false) : shearR d = (0, 0, 10) ∧ sheepR d = (0, 10) := by
  have e : shearR d = (0, 0, 10) := by unfold shearR; rw [h, hf]; simp
  exact ⟨e, by unfold sheepR; rw [e]; simp⟩

set_option maxHeartbeats 2000000 in
theorem shears_ret {v : DV} {d : Dr} (hv : v.Is d) (hA : Ret Try.prog 13 [] (B true)) : Ret Try.prog 8 [v.cv] (B true) := by
  have e1 := hv.pn; have e2 := hv.lim; have e3 := hv.short
  refine ret_by (hm := false) Try.func8 rfl ?_
  conv => whnf
  refine ⟨_, rfl, ?_⟩
  conv => whnf
  refine .ret (fine_ret hv) rfl ?_
  conv => whnf
  cases hd : validB d
  · conv => whnf
    refine .ret hA rfl ?_
    conv => whnf
    exact .val
  obtain ⟨s1, s2, s3, s4, s5, s6⟩ := valid_sizes hd
  conv => whnf
  refine ⟨_, rfl, ?_⟩
  conv => whnf
  refine .ret (shear_ret hv) rfl ?_
  conv => whnf
  refine ⟨_, rfl, ?_⟩
  conv => whnf
  refine .ret (sheep_ret hv) rfl ?_
  conv => whnf
  cases hf : allTo (fineB d) d.pens.length
  · obtain ⟨x1, x2⟩ := err_none hd hf
    rw [x1, x2]
    conv => whnf
    refine .ret hA rfl ?_
    conv => whnf
    exact .val
  obtain ⟨y1, y2, y3⟩ := sheep_more hd hf
  have x1 : shearR d = (bitsOf (sureB d) d.pens.length, bitsOf (mayB d) d.pens.length, 0) := by unfold shearR; rw [hd, hf]; simp
  rw [x1, y1]
  conv => whnf
  refine ⟨_, rfl, ?_⟩
  conv => whnf
  have bS := bitsOf_lt (sureB d) d.pens.length
  have bM := bitsOf_lt (mayB d) d.pens.length
  have b5 : 2 ^ d.pens.length ≤ 2 ^ 5 := Nat.pow_le_pow_right (by omega) s4
  have tS := bitsOf_test (sureB d) d.pens.length
  have tM := bitsOf_test (mayB d) d.pens.length
  generalize hS : bitsOf (sureB d) d.pens.length = S at *
  generalize hM : bitsOf (mayB d) d.pens.length = M at *
  refine loop_by (I := fun n st => ∃ (q : Nat) (h : Heap), q ≤ d.pens.length ∧ n = d.pens.length - q ∧ 0 < h.n ∧ Heap.at h 0 = v.blk ∧
    Has st 182 [(1, .ptr 0 0), (3, .c (I S)), (4, .c (I M)), (5, .c (I 0)), (6, .c (I (inPensF (flockF d) S))), (7, .c (I 0)), (8, .c (I (sumTo (fun k => if S.testBit k then sum4 (penF (flockF d) k).fr else 0) q))), (62, .c (.sl v.pc v.po v.pn)), (63, .c (I v.pn)), (64, .c (I q))] [] none h) ?_ (k := d.pens.length)
    ⟨0, _, Nat.zero_le _, rfl, Nat.lt_succ_self 0, rfl, rfl, ⟨rfl, rfl, rfl, rfl, rfl, rfl, rfl, rfl, rfl, rfl, trivial⟩, rfl, rfl, rfl, rfl⟩
  rintro n st ⟨q, h, hq, rfl, hn, h0, hs1⟩
  refine hs1.run (hm := false) ?_
  conv => whnf
  cases hc : decide ((q : Int) < (v.pn : Int))
  case true =>
    have hq : q < d.pens.length := by simp at hc; omega
    obtain ⟨lo, hi, t, p1, p2, p3, p4⟩ := pen_cases hd hq (allTo_iff.1 hf q hq)
    have hpen := pen_ret hv (q : Int)
    have hdry := dryOf_ret hv (q : Int)
    rw [p1] at hpen
    rw [p3] at hdry
    dsimp only at hpen hdry
    have hS1 : (((S >>> q &&& 1 : Nat) : Int) == 1) = sureB d q := by rw [bit_nat, tS]; simp [hq]
    have hM1 : (((M >>> q &&& 1 : Nat) : Int) == 1) = mayB d q := by rw [bit_nat, tM]; simp [hq]
    have hS2 : S.testBit q = sureB d q := by rw [tS]; simp [hq]
    have bt : -200000 ≤ sumTo (fun k => if S.testBit k then sum4 (penF (flockF d) k).fr else 0) q ∧ sumTo (fun k => if S.testBit k then sum4 (penF (flockF d) k).fr else 0) q ≤ 200000 := by
      have h1 := sumTo_bound (f := fun k => if S.testBit k then sum4 (penF (flockF d) k).fr else 0) (b := 40000) q (fun k _ => by
        have := sumTo_bound (f := (penF (flockF d) k).fr) (b := 10000) 4 (fun i _ => by have := (flock_ok hd).fr k i; unfold smallI at this; omega)
        have h4 : -40000 ≤ sum4 (penF (flockF d) k).fr ∧ sum4 (penF (flockF d) k).fr ≤ 40000 := by unfold sum4; omega
        split <;> omega)
      omega
    have hps := (pen4_pos hd q).2 hq
    have bps : -40000 ≤ penSheep d q ∧ penSheep d q ≤ 40000 := by
      rw [← hps]
      have := sumTo_bound (f := (penF (flockF d) q).fr) (b := 10000) 4 (fun i _ => by have := (flock_ok hd).fr q i; unfold smallI at this; omega)
      unfold sum4; omega
    have hof := ofPen_ret hv hq s2 (fun j hj => by have := (valid_pen hd hq).2.2.2 j hj; simp [inB]; omega)
    obtain ⟨rfl, p5⟩ | ⟨rfl, p5, p6⟩ | ⟨rfl, p5, p6⟩ := p4
    · have hs2 : sureB d q = true := by unfold sureB; rw [p3]; rfl
      have hm2 : mayB d q = true := by unfold mayB; rw [p3]; rfl
      rw [hs2] at hS1 hS2
      rw [hm2] at hM1
      have c1 : decide (hi ≤ v.lim) = true := by simp; omega
      have c2 : decide (lo > v.lim) = false := by simp; omega
      conv => whnf
      refine ⟨_, h0, ?_⟩
      conv => whnf
      refine .ret hpen rfl ?_
      conv => whnf
      refine ⟨_, at_push_self _ _, ?_⟩
      conv => whnf
      refine ⟨_, (at_old _ _ _ hn).trans h0, ?_⟩
      conv => whnf
      refine .ret hdry rfl ?_
      conv => whnf
      refine ⟨_, at_new _ _ _, ?_⟩
      conv => whnf
      refine ⟨_, (at_old _ _ _ hn).trans h0, ?_⟩
      conv => whnf
      rw [c1]
      conv => whnf
      refine ⟨_, at_new _ _ _, ?_⟩
      conv => whnf
      refine ⟨_, (at_old _ _ _ hn).trans h0, ?_⟩
      conv => whnf
      rw [c2]
      conv => whnf
      refine ⟨by omega, _, shr_nat S q (by omega), ?_⟩
      conv => whnf
      refine ⟨_, and_nat (a := S >>> q) (b := 1) (Nat.lt_of_le_of_lt (Nat.shiftRight_le S q) (by omega)) (by omega), ?_⟩
      conv => whnf
      rw [hS1]
      conv => whnf
      refine ⟨by omega, _, shr_nat M q (by omega), ?_⟩
      conv => whnf
      refine ⟨_, and_nat (a := M >>> q) (b := 1) (Nat.lt_of_le_of_lt (Nat.shiftRight_le M q) (by omega)) (by omega), ?_⟩
      conv => whnf
      rw [hM1]
      conv => whnf
      refine ⟨by omega, _, shr_nat S q (by omega), ?_⟩
      conv => whnf
      refine ⟨_, and_nat (a := S >>> q) (b := 1) (Nat.lt_of_le_of_lt (Nat.shiftRight_le S q) (by omega)) (by omega), ?_⟩
      conv => whnf
      rw [hS1]
      conv => whnf
      refine ⟨_, (at_old _ _ _ hn).trans h0, ?_⟩
      conv => whnf
      refine .ret hof rfl ?_
      conv => whnf
      refine ⟨sumTo (fun k => if S.testBit k then sum4 (penF (flockF d) k).fr else 0) q + penSheep d q, by rw [wrap_eq (by omega) (by omega)], ?_⟩
      conv => whnf
      refine ⟨((q + 1 : Nat) : Int), by rw [wrap_eq (by omega) (by omega)]; omega, ?_⟩
      conv => whnf
      exact ⟨d.pens.length - (q + 1), by omega, q + 1, _, by omega, rfl, Nat.succ_pos _, (at_old _ _ _ hn).trans h0, rfl, ⟨rfl, rfl, rfl, rfl, rfl, rfl, by simp [sumTo, hS2, hps]; rfl, rfl, rfl, rfl, trivial⟩, rfl, rfl, rfl, rfl⟩
    · have hs2 : sureB d q = false := by unfold sureB; rw [p3]; rfl
      have hm2 : mayB d q = true := by unfold mayB; rw [p3]; rfl
      rw [hs2] at hS1 hS2
      rw [hm2] at hM1
      have c1 : decide (hi ≤ v.lim) = false := by simp; omega
      have c2 : decide (lo > v.lim) = false := by simp; omega
      conv => whnf
      refine ⟨_, h0, ?_⟩
      conv => whnf
      refine .ret hpen rfl ?_
      conv => whnf
      refine ⟨_, at_push_self _ _, ?_⟩
      conv => whnf
      refine ⟨_, (at_old _ _ _ hn).trans h0, ?_⟩
      conv => whnf
      refine .ret hdry rfl ?_
      conv => whnf
      refine ⟨_, at_new _ _ _, ?_⟩
      conv => whnf
      refine ⟨_, (at_old _ _ _ hn).trans h0, ?_⟩
      conv => whnf
      rw [c1]
      conv => whnf
      refine ⟨_, at_new _ _ _, ?_⟩
      conv => whnf
      refine ⟨_, (at_old _ _ _ hn).trans h0, ?_⟩
      conv => whnf
      rw [c2]
      conv => whnf
      refine ⟨by omega, _, shr_nat S q (by omega), ?_⟩
      conv => whnf
      refine ⟨_, and_nat (a := S >>> q) (b := 1) (Nat.lt_of_le_of_lt (Nat.shiftRight_le S q) (by omega)) (by omega), ?_⟩
      conv => whnf
      rw [hS1]
      conv => whnf
      refine ⟨by omega, _, shr_nat M q (by omega), ?_⟩
      conv => whnf
      refine ⟨_, and_nat (a := M >>> q) (b := 1) (Nat.lt_of_le_of_lt (Nat.shiftRight_le M q) (by omega)) (by omega), ?_⟩
      conv => whnf
      rw [hM1]
      conv => whnf
      refine ⟨by omega, _, shr_nat S q (by omega), ?_⟩
      conv => whnf
      refine ⟨_, and_nat (a := S >>> q) (b := 1) (Nat.lt_of_le_of_lt (Nat.shiftRight_le S q) (by omega)) (by omega), ?_⟩
      conv => whnf
      rw [hS1]
      conv => whnf
      refine ⟨((q + 1 : Nat) : Int), by rw [wrap_eq (by omega) (by omega)]; omega, ?_⟩
      conv => whnf
      exact ⟨d.pens.length - (q + 1), by omega, q + 1, _, by omega, rfl, Nat.succ_pos _, (at_old _ _ _ hn).trans h0, rfl, ⟨rfl, rfl, rfl, rfl, rfl, rfl, by simp [sumTo, hS2]; rfl, rfl, rfl, rfl, trivial⟩, rfl, rfl, rfl, rfl⟩
    · have hs2 : sureB d q = false := by unfold sureB; rw [p3]; rfl
      have hm2 : mayB d q = false := by unfold mayB; rw [p3]; rfl
      rw [hs2] at hS1 hS2
      rw [hm2] at hM1
      have c1 : decide (hi ≤ v.lim) = false := by simp; omega
      have c2 : decide (lo > v.lim) = true := by simp; omega
      conv => whnf
      refine ⟨_, h0, ?_⟩
      conv => whnf
      refine .ret hpen rfl ?_
      conv => whnf
      refine ⟨_, at_push_self _ _, ?_⟩
      conv => whnf
      refine ⟨_, (at_old _ _ _ hn).trans h0, ?_⟩
      conv => whnf
      refine .ret hdry rfl ?_
      conv => whnf
      refine ⟨_, at_new _ _ _, ?_⟩
      conv => whnf
      refine ⟨_, (at_old _ _ _ hn).trans h0, ?_⟩
      conv => whnf
      rw [c1]
      conv => whnf
      refine ⟨_, at_new _ _ _, ?_⟩
      conv => whnf
      refine ⟨_, (at_old _ _ _ hn).trans h0, ?_⟩
      conv => whnf
      rw [c2]
      conv => whnf
      refine ⟨by omega, _, shr_nat S q (by omega), ?_⟩
      conv => whnf
      refine ⟨_, and_nat (a := S >>> q) (b := 1) (Nat.lt_of_le_of_lt (Nat.shiftRight_le S q) (by omega)) (by omega), ?_⟩
      conv => whnf
      rw [hS1]
      conv => whnf
      refine ⟨by omega, _, shr_nat M q (by omega), ?_⟩
      conv => whnf
      refine ⟨_, and_nat (a := M >>> q) (b := 1) (Nat.lt_of_le_of_lt (Nat.shiftRight_le M q) (by omega)) (by omega), ?_⟩
      conv => whnf
      rw [hM1]
      conv => whnf
      refine ⟨by omega, _, shr_nat S q (by omega), ?_⟩
      conv => whnf
      refine ⟨_, and_nat (a := S >>> q) (b := 1) (Nat.lt_of_le_of_lt (Nat.shiftRight_le S q) (by omega)) (by omega), ?_⟩
      conv => whnf
      rw [hS1]
      conv => whnf
      refine ⟨((q + 1 : Nat) : Int), by rw [wrap_eq (by omega) (by omega)]; omega, ?_⟩
      conv => whnf
      exact ⟨d.pens.length - (q + 1), by omega, q + 1, _, by omega, rfl, Nat.succ_pos _, (at_old _ _ _ hn).trans h0, rfl, ⟨rfl, rfl, rfl, rfl, rfl, rfl, by simp [sumTo, hS2]; rfl, rfl, rfl, rfl, trivial⟩, rfl, rfl, rfl, rfl⟩
  have : q = d.pens.length := by simp at hc; omega
  subst this
  have hrow : sumTo (fun k => if S.testBit k then sum4 (penF (flockF d) k).fr else 0) d.pens.length = inPensF (flockF d) S := by
    unfold inPensF
    have hl : (flockF d).pens.length = d.pens.length := by simp [flockF]
    rw [hl]
  rw [hrow] at hs1
  conv => whnf
  refine ⟨_, h0, ?_⟩
  conv => whnf
  refine ⟨_, at_push_self _ _, ?_⟩
  conv => whnf
  refine ⟨_, (at_old _ _ _ hn).trans h0, ?_⟩
  conv => whnf
  refine ⟨v.lim + 1, by rw [wrap_eq (by omega) (by omega)], ?_⟩
  conv => whnf
  refine ⟨_, at_new _ _ _, ?_⟩
  conv => whnf
  refine ⟨_, at_set_self _ _ (show h.n < h.n + 1 by omega), ?_⟩
  conv => whnf
  refine .ret (sheep_ret hv.wider) rfl ?_
  conv => whnf
  refine ⟨_, (at_set_ne _ _ (i := 0) (k := h.n) (by omega)).trans ((at_old _ _ _ hn).trans h0), ?_⟩
  conv => whnf
  refine ⟨by omega, _, shr_nat M v.pn (by omega), ?_⟩
  conv => whnf
  have hM0 : M >>> v.pn = 0 := by rw [Nat.shiftRight_eq_div_pow, e1]; exact Nat.div_eq_of_lt bM
  rw [hM0]
  rw [y1] at y3
  dsimp only at y3
  have g1 : (inPensF (flockF d) S == sumTo (fun k => if S.testBit k then sum4 (penF (flockF d) k).fr else 0) d.pens.length) = true := by
    have : sumTo (fun k => if S.testBit k then sum4 (penF (flockF d) k).fr else 0) d.pens.length = inPensF (flockF d) S := hrow
    rw [this]; simp
  have g3 : decide ((sheepR (wider d)).1 ≥ inPensF (flockF d) S) = true := by simp; omega
  conv => whnf
  rw [g1]
  conv => whnf
  rw [y2]
  conv => whnf
  rw [g3]
  conv => whnf
  refine .ret hA rfl ?_
  conv => whnf
  exact .val
end Go.Ag
/- Layer 2: a mob's sheep that are wet. -/
namespace Go.Ag
open Go.Proofs
set_option maxRecDepth 100000

def putF (g : Nat → Int) (k : Nat) (n : Int) : Nat → Int := fun i => if i = k then n else g i
def mobFl (f : Fl) (k : Nat) (n : Int) : Fl := { f with least := putF f.least k n, most := putF f.most k n }
def specMob (f : Fl) (k : Nat) : K4 → Bool := fun key => possibleF (mobFl f k key.e)
def askMob (k : Nat) : CV := .iface 68 (.agg [I k])
theorem put_small {g : Nat → Int} (hg : ∀ i, smallI (g i)) (k : Nat) {n : Int} (hn : smallI n) (i : Nat) : smallI (putF g k n i) := by
  unfold putF
  split
  · exact hn
  · exact hg i
theorem mobFl_ok {f : Fl} (hf : FlOk f) (k : Nat) {n : Int} (hn : smallI n) : FlOk (mobFl f k n) :=
  ⟨hf.mobs, put_small hf.least k hn, put_small hf.most k hn, hf.left, hf.pens, hf.fr, hf.lo, hf.hi⟩
theorem four {k m : Nat} (hk : k < m) (h4 : m ≤ 4) : k = 0 ∨ k = 1 ∨ k = 2 ∨ k = 3 := by omega
theorem given_mob_ret {f : Fl} {k : Nat} (hk : k < f.mobs) (h4 : f.mobs ≤ 4) : Ret Try.prog 124 [.agg [I k], flCV f] (.agg [I (f.least k), I (f.most k)]) := by
  obtain rfl | rfl | rfl | rfl := four hk h4
  all_goals
    refine ret_by (hm := true) Try.func124 rfl ?_
    conv => whnf
    refine draw_by (hm := true) (by kernel_rfl) (by kernel_rfl) ?_
    conv => whnf
    refine ⟨⟨by decide, by decide, by decide⟩, ?_⟩
    conv => whnf
    refine ⟨⟨by decide, by decide, by decide⟩, ?_⟩
    conv => whnf
    refine ⟨Nat.lt_succ_self _, ?_⟩
    conv => whnf
    refine ⟨by kernel_rfl, ?_⟩
    conv => whnf
    exact .val
theorem named_mob_ret (k : Nat) (n : Int) : Ret Try.prog 126 [.agg [I k], I n] (.agg [I k, I (-1), I n]) := by
  refine ret_by (hm := true) Try.func126 rfl ?_
  conv => whnf
  exact .val
theorem hold_mob_ret {f : Fl} {k : Nat} (hk : k < f.mobs) (h4 : f.mobs ≤ 4) (n : Int) : Ret Try.prog 125 [.agg [I k], flCV f, I n] (flCV (mobFl f k n)) := by
  obtain rfl | rfl | rfl | rfl := four hk h4
  all_goals
    refine ret_by (hm := true) Try.func125 rfl ?_
    conv => whnf
    refine draw_by (hm := true) (by kernel_rfl) (by kernel_rfl) ?_
    conv => whnf
    refine ⟨⟨by decide, by decide, by decide⟩, ?_⟩
    conv => whnf
    refine ⟨(show 1 < 3 by decide), ?_⟩
    conv => whnf
    refine ⟨⟨by decide, by decide, by decide⟩, ?_⟩
    conv => whnf
    refine ⟨(show 1 < 3 by decide), ?_⟩
    conv => whnf
    refine ⟨by kernel_rfl, ?_⟩
    conv => whnf
    exact .val

/-- The flock that is asked for. -/
theorem held_mob {f : Fl} {k : Nat} (hk : k < f.mobs) (h5 : f.mobs ≤ 4) (n : Int) {m a b c : Nat} {h : Heap} (ha : Heap.at h a = .blk [.c (askMob k)]) (hb : Heap.at h b = knBlk f m) (hc : Heap.at h c = .blk [.c (I n)]) :
    ∃ h2, CallOk Try.prog 106 [.ptr a 0, .ptr b 0, .ptr c 0] h .no (.ret (.c (flCV (mobFl f k n)))) h2 .no ∧ Foot (fun _ => False) h h2 := by
  suffices H : ∃ e h2, CallOk Try.prog 106 [.ptr a 0, .ptr b 0, .ptr c 0] h .no e h2 .no ∧ (e = .ret (.c (flCV (mobFl f k n))) ∧ Foot (fun _ => False) h h2) by
    obtain ⟨e, h2, h3, rfl, h4⟩ := H
    exact ⟨h2, h3, h4⟩
  have lt : ∀ {i x}, Heap.at h i = .blk x → i < h.n := fun {i x} hx => Nat.lt_of_not_le fun hle => by
    unfold Heap.at at hx; rw [TMap.get_ge hle] at hx; cases hx
  have la := lt ha
  have lb := lt hb
  have lc := lt hc
  refine call_by (hm := false) Try.func106 rfl ?_
  conv => whnf
  refine ⟨_, (at_push_lt _ _ la).trans ha, ?_⟩
  conv => whnf
  refine ⟨_, (at_push_lt _ _ lb).trans hb, ?_⟩
  conv => whnf
  refine ⟨_, (at_push_lt _ _ lc).trans hc, ?_⟩
  conv => whnf
  refine .ret (hold_mob_ret hk h5 n) rfl ?_
  conv => whnf
  refine ⟨_, at_push_self _ _, ?_⟩
  conv => whnf
  refine ⟨_, at_new _ _ _, ?_⟩
  conv => whnf
  exact ⟨rfl, Foot.set ((Foot.refl _ _).push _) (.inr (Nat.le_refl _)) _⟩

set_option maxHeartbeats 1000000 in
theorem canBe_mob {f : Fl} (hf : FlOk f) {k : Nat} (hk : k < f.mobs) {n : Int} (hn : smallI n) {m : Nat} {h : Heap} (hm : m < h.n) (hI : MapInv (specMob f k) (Heap.at h m)) :
    ∃ e h', CallOk Try.prog 98 [knAV f m, .c (askMob k), .c (I n)] h .no e h' .no ∧ (e = .ret (.c (B (possibleF (mobFl f k n)))) ∧ Foot (fun i => i = m) h h' ∧ MapInv (specMob f k) (Heap.at h' m)) := by
  have h5 := hf.pens
  refine call_by (hm := false) Try.func98 rfl ?_
  have a0 : ∀ a b c, Heap.at (((h.push .dead a).push .dead b).push .dead c) h.n = a := fun a b c => (at_push_lt _ _ (by simp only [push_n]; omega)).trans ((at_push_lt _ _ (by simp only [push_n]; omega)).trans (at_push_self _ _))
  have a1 : ∀ a b c, Heap.at (((h.push .dead a).push .dead b).push .dead c) (h.n + 1) = b := fun a b c => (at_push_lt _ _ (by simp only [push_n]; omega)).trans (at_push_self _ _)
  have a2 : ∀ a b c, Heap.at (((h.push .dead a).push .dead b).push .dead c) (h.n + 2) = c := fun a b c => at_push_self _ _
  have am : ∀ a b c, Heap.at (((h.push .dead a).push .dead b).push .dead c) m = Heap.at h m := fun a b c => (at_push_lt _ _ (by simp only [push_n]; omega)).trans ((at_push_lt _ _ (by simp only [push_n]; omega)).trans (at_push_lt _ _ hm))
  have ft : ∀ a b c, Foot (fun _ => False) h (((h.push .dead a).push .dead b).push .dead c) := fun a b c => (((Foot.refl _ _).push _).push _).push _
  conv => whnf
  refine ⟨knBlk f m, a0 _ _ _, ?_⟩
  conv => whnf
  refine .ret (allOf_ret f.pens.length (by omega)) rfl ?_
  conv => whnf
  refine mixed_by (hm := false) (by kernel_rfl) (by kernel_rfl) ?_
  conv => whnf
  refine ⟨knBlk f m, a0 _ _ _, ?_⟩
  conv => whnf
  refine ⟨_, a1 _ _ _, ?_⟩
  conv => whnf
  refine ⟨_, a2 _ _ _, ?_⟩
  conv => whnf
  refine .ret _ _ (named_mob_ret k n) rfl ?_
  conv => whnf
  have hs3 : smallI n := hn
  obtain ⟨e, h', hc, rfl, hf', hI'⟩ := known_possible (f := f) (fl := mobFl f k n) (m := m) (h := ((h.push .dead (knBlk f m)).push .dead (.blk [.c (askMob k)])).push .dead (.blk [.c (I n)])) (spec := specMob f k) (k := ⟨((2 ^ f.pens.length - 1 : Nat) : Int), k, -1, n⟩) (g := 106) (cap := [.ptr (h.n + 1) 0, .ptr h.n 0, .ptr (h.n + 2) 0]) (.inl rfl)
    (by simp only [push_n]; omega) (mapInv_eq (am _ _ _) hI) (mobFl_ok hf k hn) rfl (fun h1 f1 => held_mob hk hf.mobs n ((f1.keep _ (by simp only [push_n]; omega) (by simp)).trans (a1 _ _ _)) ((f1.keep _ (by simp only [push_n]; omega) (by simp)).trans (a0 _ _ _)) ((f1.keep _ (by simp only [push_n]; omega) (by simp)).trans (a2 _ _ _)))
  refine .heavy _ h' (.inl hc) ?_
  conv => whnf
  refine ⟨by kernel_rfl, heaps_nil (by kernel_rfl), ?_⟩
  conv => whnf
  exact ⟨rfl, ((ft _ _ _).mono (fun _ _ h => h.elim)).trans hf', hI'⟩
theorem suits_mob {f : Fl} (hf : FlOk f) {k : Nat} (hk : k < f.mobs) {n : Int} (hn : smallI n) {m a b : Nat} {h : Heap} (hm : m < h.n) (ha : Heap.at h a = knBlk f m) (hb : Heap.at h b = .blk [.c (askMob k)]) (hI : MapInv (specMob f k) (Heap.at h m)) :
    ∃ h2, CallOk Try.prog 97 [.c (I n), .ptr a 0, .ptr b 0] h .no (.ret (.c (B (possibleF (mobFl f k n))))) h2 .no ∧ Foot (fun i => i = m) h h2 ∧ MapInv (specMob f k) (Heap.at h2 m) := by
  suffices H : ∃ e h2, CallOk Try.prog 97 [.c (I n), .ptr a 0, .ptr b 0] h .no e h2 .no ∧ (e = .ret (.c (B (possibleF (mobFl f k n)))) ∧ Foot (fun i => i = m) h h2 ∧ MapInv (specMob f k) (Heap.at h2 m)) by
    obtain ⟨e, h2, h3, rfl, h4⟩ := H
    exact ⟨h2, h3, h4⟩
  obtain ⟨e, h', hc, rfl, hf', hI'⟩ := canBe_mob hf hk hn hm hI
  refine call_by (hm := false) Try.func97 rfl ?_
  conv => whnf
  refine ⟨_, ha, ?_⟩
  conv => whnf
  refine ⟨_, hb, ?_⟩
  conv => whnf
  refine .inl _ h' .no hc ?_
  conv => whnf
  exact ⟨rfl, hf', hI'⟩

def spanMob (f : Fl) (k : Nat) : Option (Int × Int) := spanBy (f.least k) (f.most k) fun n => possibleF (mobFl f k n)

def H5m (f : Fl) (k m : Nat) (h : Heap) : Heap :=
  TMap.set .dead (TMap.push .dead (TMap.set .dead (TMap.push .dead (TMap.push .dead (TMap.push .dead (TMap.push .dead h (knBlk f m)) (.blk [.c (askMob k)])) (.blk [AV.lit (.int .i64 0), AV.lit (.int .i64 0)])) (.blk [AV.lit .nilFunc, AV.lit (.int .i64 0)])) (h.n + 3) (.blk [.func (.func 97) [] [.ptr h.n 0, .ptr (h.n + 1) 0], .c (I 10)])) (.blk [AV.lit (.int .i64 0), AV.lit (.int .i64 0)])) (h.n + 4) (.blk [.c (I (f.least k)), .c (I (f.most k))])
theorem H5m_n (f : Fl) (k m : Nat) (h : Heap) : (H5m f k m h).n = h.n + 5 := rfl
theorem H5m_0 (f : Fl) (k m : Nat) (h : Heap) : Heap.at (H5m f k m h) h.n = knBlk f m := by
  unfold H5m
  have h2 : h.n ≠ h.n + 1 + 1 := by omega
  have h5 : h.n ≠ h.n + 1 + 1 + 1 := by omega
  have h6 : h.n ≠ h.n + 1 + 1 + 1 + 1 := by omega
  simp [at_set, at_push, push_n, TMap.set_n, h2, h5, h6]
theorem H5m_1 (f : Fl) (k m : Nat) (h : Heap) : Heap.at (H5m f k m h) (h.n + 1) = .blk [.c (askMob k)] := by unfold H5m; simp [at_set, at_push, push_n, TMap.set_n]
theorem H5m_2 (f : Fl) (k m : Nat) (h : Heap) : Heap.at (H5m f k m h) (h.n + 2) = .blk [AV.lit (.int .i64 0), AV.lit (.int .i64 0)] := by unfold H5m; simp [at_set, at_push, push_n, TMap.set_n]
theorem H5m_3 (f : Fl) (k m : Nat) (h : Heap) : Heap.at (H5m f k m h) (h.n + 3) = .blk [.func (.func 97) [] [.ptr h.n 0, .ptr (h.n + 1) 0], .c (I 10)] := by unfold H5m; simp [at_set, at_push, push_n, TMap.set_n]
theorem H5m_4 (f : Fl) (k m : Nat) (h : Heap) : Heap.at (H5m f k m h) (h.n + 4) = .blk [.c (I (f.least k)), .c (I (f.most k))] := by unfold H5m; simp [at_set, at_push, push_n, TMap.set_n]
theorem H5m_lt (f : Fl) (k m : Nat) (h : Heap) {i : Nat} (hi : i < h.n) : Heap.at (H5m f k m h) i = Heap.at h i := by
  unfold H5m
  have h0 : i ≠ h.n := by omega
  have h1 : i ≠ h.n + 1 := by omega
  have h2 : i ≠ h.n + 1 + 1 := by omega
  have h3 : i ≠ h.n + 3 := by omega
  have h4 : i ≠ h.n + 4 := by omega
  have h5 : i ≠ h.n + 1 + 1 + 1 := by omega
  have h6 : i ≠ h.n + 1 + 1 + 1 + 1 := by omega
  simp [at_set, at_push, push_n, TMap.set_n, h0, h1, h2, h3, h4, h5, h6]

theorem H5m_foot (f : Fl) (k m : Nat) (h : Heap) {W : Nat → Prop} : Foot W h (H5m f k m h) := ⟨by rw [H5m_n]; omega, fun i hi _ => H5m_lt f k m h hi⟩

set_option maxHeartbeats 2000000 in
theorem span_mob_ret {f : Fl} (hf : FlOk f) {k : Nat} (hk : k < f.mobs) {m : Nat} {h : Heap} (hm : m < h.n) (hI : MapInv (specMob f k) (Heap.at h m)) :
    ∃ e h', CallOk Try.prog 79 [knAV f m, .c (askMob k)] h .no e h' .no ∧ (e = endOf (spanMob f k) ∧ Foot (fun i => i = m) h h') := by
  have blo := hf.least k
  have bhi := hf.most k
  have small : ∀ y, (f.least k) ≤ y ∧ y ≤ (f.most k) → smallI y := fun y hy => by unfold smallI at *; omega
  refine call_by (hm := false) Try.func79 rfl ?_
  conv => whnf
  refine ⟨_, at_push_self _ _, ?_⟩
  conv => whnf
  refine ⟨_, (at_old _ _ _ (by simp only [push_n]; omega)).trans ((at_push_lt _ _ (by simp only [push_n]; omega)).trans (at_push_self _ _)), ?_⟩
  conv => whnf
  refine ⟨knBlk f m, (at_old _ _ _ (by simp only [push_n]; omega)).trans ((at_push_lt _ _ (by simp only [push_n]; omega)).trans ((at_push_lt _ _ (by simp only [push_n]; omega)).trans (at_push_self _ _))), ?_⟩
  conv => whnf
  refine .ret (given_mob_ret hk hf.mobs) rfl ?_
  conv => whnf
  refine ⟨_, at_push_self _ _, ?_⟩
  conv => whnf
  refine mixed_by (hm := false) (by kernel_rfl) (by kernel_rfl) ?_
  conv => whnf
  refine ⟨_, at_new _ _ _, ?_⟩
  conv => whnf
  refine .ret _ _ (up_ret _ _) rfl ?_
  conv => whnf
  refine ⟨_, (at_old _ _ _ (by simp only [push_n, TMap.set_n]; omega)).trans (at_new _ _ _), ?_⟩
  conv => whnf
  have fin : ∀ h1, Foot (fun i => i = m) (H5m f k m h) h1 → MapInv (specMob f k) (Heap.at h1 m) → ∀ y, (f.least k) ≤ y ∧ y ≤ (f.most k) → ∃ h2, CallOk Try.prog 97 [.c (I y), .ptr h.n 0, .ptr (h.n + 1) 0] h1 .no (.ret (.c (B (possibleF (mobFl f k y))))) h2 .no ∧ Foot (fun i => i = m) h1 h2 ∧ MapInv (specMob f k) (Heap.at h2 m) := by
    intro h1 f1 i1 y hy
    have hn1 := f1.n
    rw [H5m_n] at hn1
    exact suits_mob hf hk (small y hy) (by omega) ((f1.keep _ (by rw [H5m_n]; omega) (by omega)).trans (H5m_0 f k m h)) ((f1.keep _ (by rw [H5m_n]; omega) (by omega)).trans (H5m_1 f k m h)) i1
  have i5 : MapInv (specMob f k) (Heap.at (H5m f k m h) m) := mapInv_eq (H5m_lt f k m h hm) hI
  obtain ⟨e1, h1, hc1, he1, f1, i1⟩ := first_ret (it := upC (f.least k) (f.most k)) (ys := intsUp (f.least k) (f.most k)) (by rw [← upL_ints]; exact up_iter blo.tame bhi.tame) (p := fun n => possibleF (mobFl f k n)) (spec := specMob f k) (a := h.n) (b := h.n + 1) (m := m) (h := H5m f k m h) (by rw [H5m_n]; omega) i5
    (fun y hy h1 f1 i1 => fin h1 f1 i1 y (mem_up.1 hy))
  have hn1 := f1.n
  rw [H5m_n] at hn1
  cases hfu : (intsUp (f.least k) (f.most k)).find? (fun n => possibleF (mobFl f k n)) with
  | none =>
    rw [hfu] at he1
    subst he1
    have hsp : spanMob f k = none := by unfold spanMob spanBy; rw [hfu]
    rw [hsp]
    refine .heavy _ h1 (.inl hc1) ?_
    conv => whnf
    refine mOps_list (l' := [4, 6]) (by kernel_rfl) ?_
    conv => whnf
    refine ⟨_, H5m_4 f k m h, ?_⟩
    conv => whnf
    refine ⟨_, H5m_3 f k m h, ?_⟩
    conv => whnf
    refine ⟨by kernel_rfl, heaps_eq (l' := [(h.n + 4, H5m f k m h, h1), (h.n + 3, H5m f k m h, h1)]) (by kernel_rfl) (heaps_cons (f1.keep _ (by rw [H5m_n]; omega) (by omega)) (heaps_cons (f1.keep _ (by rw [H5m_n]; omega) (by omega)) (by simp [HeapsOk]))), ?_⟩
    intro ds
    conv => whnf
    exact ⟨rfl, (H5m_foot f k m h).trans f1⟩
  | some lo =>
    rw [hfu] at he1
    subst he1
    obtain ⟨hi, hfd⟩ := down_some hfu
    obtain ⟨e2, h2, hc2, he2, f2, i2⟩ := first_ret (it := downC (f.least k) (f.most k)) (ys := intsDown (f.least k) (f.most k)) (by rw [← downL_ints]; exact down_iter blo.tame bhi.tame) (p := fun n => possibleF (mobFl f k n)) (spec := specMob f k) (a := h.n) (b := h.n + 1) (m := m) (h := h1) (by omega) i1
      (fun y hy h2 f2 i2 => fin h2 (f1.trans f2) i2 y (mem_down.1 hy))
    rw [hfd] at he2
    subst he2
    have g4 := (f1.keep (h.n + 4) (by rw [H5m_n]; omega) (by omega)).trans (H5m_4 f k m h)
    have g3 := (f1.keep (h.n + 3) (by rw [H5m_n]; omega) (by omega)).trans (H5m_3 f k m h)
    have g2 := (f2.keep (h.n + 2) (by omega) (by omega)).trans ((f1.keep (h.n + 2) (by rw [H5m_n]; omega) (by omega)).trans (H5m_2 f k m h))
    refine .heavy _ h1 (.inl hc1) ?_
    conv => whnf
    refine ⟨_, g4, ?_⟩
    conv => whnf
    refine .ret _ _ (down_ret _ _) rfl ?_
    conv => whnf
    refine ⟨_, g3, ?_⟩
    conv => whnf
    refine .heavy _ h2 (.inl hc2) ?_
    conv => whnf
    refine ⟨_, g2, ?_⟩
    conv => whnf
    have hn2 := f2.n
    have hsp : spanMob f k = some (lo, hi) := by unfold spanMob spanBy; rw [hfu, hfd]
    rw [hsp]
    refine ⟨by show h.n + 2 < h2.n; omega, ?_⟩
    conv => whnf
    refine ⟨by kernel_rfl, heaps_eq (l' := [(h.n + 4, H5m f k m h, h1), (h.n + 3, H5m f k m h, h1)]) (by kernel_rfl) (heaps_cons (f1.keep _ (by rw [H5m_n]; omega) (by omega)) (heaps_cons (f1.keep _ (by rw [H5m_n]; omega) (by omega)) (by simp [HeapsOk]))), ?_⟩
    conv => whnf
    refine ⟨_, at_set_self _ _ (i := h.n + 2) (by omega), ?_⟩
    conv => whnf
    exact ⟨rfl, Foot.set (W := fun i => i = m) (k := h.n + 2) (((H5m_foot f k m h).trans f1).trans f2) (.inr (by omega)) _⟩
def qM (k : Nat) : CV := .cptr [askMob k] 0

set_option maxHeartbeats 1000000 in
theorem find_mob {v : DV} {d : Dr} (hv : v.Is d) (hd : validB d = true) {k : Nat} (hk : k < d.mobs.length) : CallOk Try.prog 78 ([dP v, qM k].map .c) TMap.nil .no (endOf (spanMob (flockF d) k)) TMap.nil .no := by
  obtain ⟨s1, s2, s3, s4, _⟩ := valid_sizes hd
  have hp : d.pens ≠ [] := fun e => by rw [e] at s3; simp at s3
  have hf := flock_ok hd
  have hkf : k < (flockF d).mobs := by simp [flockF]; exact hk
  suffices H : ∃ e h', CallOk Try.prog 78 ([dP v, qM k].map .c) TMap.nil .no e h' .no ∧ e = endOf (spanMob (flockF d) k) by
    obtain ⟨e, h', hc, rfl⟩ := H
    have hval : ∃ c, (endOf (spanMob (flockF d) k)).val = .c c ∧ (endOf (spanMob (flockF d) k)).setVal (.c c) = endOf (spanMob (flockF d) k) := by
      cases spanMob (flockF d) k with
      | none => exact ⟨_, rfl, rfl⟩
      | some s => exact ⟨_, rfl, rfl⟩
    obtain ⟨c, h1, h2⟩ := hval
    have := callOk_close (args := [dP v, qM k]) hc (fuel := 1) (r := (c, [])) (by rw [h1]; rfl)
    rw [h2] at this
    exact this
  refine call_by (hm := false) Try.func78 rfl ?_
  conv => whnf
  refine mixed_by (hm := false) (by kernel_rfl) (by kernel_rfl) ?_
  conv => whnf
  refine ⟨_, rfl, ?_⟩
  conv => whnf
  obtain ⟨e1, h1, hc1, m, rfl, hm0, hm1, hI1, f1⟩ := know_ret hv s2 hp (specMob (flockF d) k) (TMap.push .dead TMap.nil (.blk [AV.lit (.int .i64 0), AV.lit (.int .i64 0)]))
  refine .heavy _ h1 (.inl hc1) ?_
  conv => whnf
  refine ⟨_, rfl, ?_⟩
  conv => whnf
  obtain ⟨e2, h2, hc2, he2, f2⟩ := span_mob_ret hf hkf hm1 hI1
  cases hsp : spanMob (flockF d) k with
  | none =>
    rw [hsp] at he2
    subst he2
    refine .heavy _ h2 (.inl hc2) ?_
    conv => whnf
    refine mOps_list (l' := []) (by kernel_rfl) ?_
    conv => whnf
    refine ⟨by kernel_rfl, heaps_nil (by kernel_rfl), ?_⟩
    intro ds
    conv => whnf
    rfl
  | some s =>
    rw [hsp] at he2
    subst he2
    have hm0 : 1 ≤ m := hm0
    have hn1 : 1 ≤ h1.n := f1.n
    have hn2 := f2.n
    have g0 : Heap.at h2 0 = .blk [AV.lit (.int .i64 0), AV.lit (.int .i64 0)] := (f2.keep 0 (by omega) (by omega)).trans ((f1.keep 0 (Nat.lt_succ_self 0) (by simp)).trans (at_push_self _ _))
    refine .heavy _ h2 (.inl hc2) ?_
    conv => whnf
    refine ⟨_, g0, ?_⟩
    conv => whnf
    refine ⟨by show 0 < h2.n; omega, ?_⟩
    conv => whnf
    refine ⟨by kernel_rfl, heaps_nil (by kernel_rfl), ?_⟩
    conv => whnf
    refine ⟨_, at_set_self _ _ (i := 0) (by omega), ?_⟩
    conv => whnf
    rfl

theorem told_mob_ret {v : DV} {d : Dr} (hv : v.Is d) (hd : validB d = true) {k : Nat} (hk : k < d.mobs.length) : Ret Try.prog 58 [.func (.func 78) [] [dP v, qM k]] (toldV (spanMob (flockF d) k)) := by
  have hc := find_mob hv hd hk
  refine ret_by (hm := true) Try.func58 rfl ?_
  conv => whnf
  cases hsp : spanMob (flockF d) k with
  | none =>
    rw [hsp] at hc
    refine .pure [dP v, qM k] _ rfl hc ⟨_, rfl⟩ ?_
    conv => whnf
    refine .mk _ _ _ (caught_live (c := 10) (c0 := 10) rfl) ?_
    conv => whnf
    exact .val
  | some s =>
    rw [hsp] at hc
    refine .pure [dP v, qM k] _ rfl hc ⟨_, rfl⟩ ?_
    conv => whnf
    refine .mk _ _ _ (caught_no _ _) ?_
    conv => whnf
    exact .val

theorem howMany_mob_ret {v : DV} {d : Dr} (hv : v.Is d) (hd : validB d = true) {k : Nat} (hk : k < d.mobs.length) : Ret Try.prog 48 [v.cv, askMob k] (toldV (spanMob (flockF d) k)) := by
  have hc := told_mob_ret hv hd hk
  refine ret_by (hm := true) Try.func48 rfl ?_
  conv => whnf
  cases hsp : spanMob (flockF d) k with
  | none =>
    rw [hsp] at hc
    refine .snapped 10 _ _ _ _ rfl hc rfl ?_
    conv => whnf
    exact .val
  | some s =>
    rw [hsp] at hc
    refine .snapped 10 _ _ _ _ rfl hc rfl ?_
    conv => whnf
    exact .val

/-- What Pen returns. -/
def mobR (d : Dr) (n : Int) : (Int × Int) × Int :=
  if validB d = false then ((0, 0), 1) else if inB n 0 (d.mobs.length - 1) = false then ((0, 0), 2) else match spanMob (flockF d) n.toNat with
    | some s => (s, 0)
    | none => ((0, 0), 10)
theorem mob_ret {v : DV} {d : Dr} (hv : v.Is d) (n : Int) : Ret Try.prog 14 [v.cv, I n] (.tuple [.agg [I (mobR d n).1.1, I (mobR d n).1.2], I (mobR d n).2]) := by
  refine ret_by (hm := true) Try.func14 rfl ?_
  conv => whnf
  refine .ret (valid_ret hv) rfl ?_
  conv => whnf
  unfold mobR
  cases h1 : validB d
  · conv => whnf
    exact .val
  conv => whnf
  refine .ret (isMob_ret hv _) rfl ?_
  conv => whnf
  cases h2 : inB n 0 (d.mobs.length - 1)
  · conv => whnf
    exact .val
  obtain ⟨k, rfl, hk⟩ : ∃ k : Nat, n = k ∧ k < d.mobs.length := by
    simp only [inB, Bool.and_eq_true, decide_eq_true_eq] at h2
    exact ⟨n.toNat, by omega, by omega⟩
  have hc := howMany_mob_ret hv h1 hk
  simp only [Bool.true_eq_false, if_false, Int.toNat_natCast]
  conv => whnf
  cases hsp : spanMob (flockF d) k with
  | none =>
    rw [hsp] at hc
    refine .ret hc rfl ?_
    conv => whnf
    exact .val
  | some s =>
    rw [hsp] at hc
    refine .ret hc rfl ?_
    conv => whnf
    exact .val
end Go.Ag
/- Layer 2: how many of a mob's sheep in a pen are wet. -/
namespace Go.Ag
open Go.Proofs
set_option maxRecDepth 100000

def nearI (x : Int) : Prop := -1000 ≤ x ∧ x ≤ 1000
theorem nearI.tame {x : Int} (h : nearI x) : tame x := by unfold nearI at h; unfold Go.Ag.tame; omega
structure FlNear (f : Fl) : Prop where
  ok : FlOk f
  least : ∀ i, nearI (f.least i)
  most : ∀ i, nearI (f.most i)
  fr : ∀ k i, nearI ((penF f k).fr i)
  lo : ∀ k, nearI (penF f k).lo
  hi : ∀ k, nearI (penF f k).hi
theorem flock_near {d : Dr} (h : validB d = true) : FlNear (flockF d) := by
  have cut : ∀ (g : Nat → Int), (∀ j, j < d.mobs.length → nearI (g j)) → ∀ i, nearI (cutF d.mobs.length g i) := by
    intro g hg i
    unfold cutF
    split
    · exact hg i (by assumption)
    · unfold nearI; omega
  have pen : ∀ k, nearI (penF (flockF d) k).lo ∧ nearI (penF (flockF d) k).hi ∧ ∀ i, nearI ((penF (flockF d) k).fr i) := by
    intro k
    by_cases hk : k < d.pens.length
    · rw [penF_flock hk]
      have := valid_pen h hk
      refine ⟨by unfold nearI cutPen; dsimp only; omega, by unfold nearI cutPen; dsimp only; omega, cut _ fun j hj => ?_⟩
      have := this.2.2.2 j hj
      unfold nearI; omega
    · rw [penF_out hk]
      refine ⟨?_, ?_, fun i => ?_⟩ <;> (show nearI 0; unfold nearI; omega)
  exact ⟨flock_ok h, cut _ fun j hj => by have := valid_mob h hj; unfold nearI; omega, cut _ fun j hj => by have := valid_mob h hj; unfold nearI; omega, fun k i => (pen k).2.2 i, fun k => (pen k).1, fun k => (pen k).2.1⟩

def lessFl (f : Fl) (j : Nat) (n : Int) : Fl := { f with least := putF f.least j (f.least j - n), most := putF f.most j (f.most j - n) }
def lessPn (p : Pn) (j : Nat) (n : Int) : Pn := ⟨putF p.fr j 0, p.lo - n, p.hi - n⟩
def partFl (f : Fl) (k j : Nat) (n : Int) : Fl := setPen (lessFl f j n) k (lessPn (penF f k) j n)
def specPart (f : Fl) (k j : Nat) : K4 → Bool := fun key => possibleF (partFl f k j key.e)
def askPart (k j : Nat) : CV := .iface 75 (.agg [I k, I j])
theorem partFl_ok {f : Fl} (hf : FlNear f) (k j : Nat) {n : Int} (hn : nearI n) : FlOk (partFl f k j n) := by
  have key : ∀ i, penF (partFl f k j n) i = penF f i ∨ penF (partFl f k j n) i = lessPn (penF f k) j n := by
    intro i
    unfold partFl setPen lessFl penF
    simp only [List.getD_eq_getElem?_getD, List.getElem?_set]
    by_cases hjk : k = i
    · subst hjk
      by_cases hlt : k < f.pens.length
      · right; simp [hlt]
      · left; simp [hlt]
    · left; simp [hjk]
  have n1 : ∀ {x y : Int}, nearI x → nearI y → smallI (x - y) := fun h1 h2 => by unfold nearI at *; unfold smallI; omega
  have z0 : smallI 0 := by unfold smallI; omega
  refine ⟨hf.ok.mobs, put_small hf.ok.least j (n1 (hf.least j) hn), put_small hf.ok.most j (n1 (hf.most j) hn), hf.ok.left, by unfold partFl setPen lessFl; simp; exact hf.ok.pens, fun i l => ?_, fun i => ?_, fun i => ?_⟩
  · rcases key i with h | h
    · rw [h]; exact hf.ok.fr i l
    · rw [h]; exact put_small (hf.ok.fr k) j z0 l
  · rcases key i with h | h
    · rw [h]; exact hf.ok.lo i
    · rw [h]; exact n1 (hf.lo k) hn
  · rcases key i with h | h
    · rw [h]; exact hf.ok.hi i
    · rw [h]; exact n1 (hf.hi k) hn
theorem given_part_ret {f : Fl} {k j : Nat} (hk : k < f.pens.length) (hj : j < f.mobs) (h4 : f.mobs ≤ 4) : Ret Try.prog 132 [.agg [I k, I j], flCV f] (.agg [I 0, I ((penF f k).fr j)]) := by
  obtain rfl | rfl | rfl | rfl := four hj h4
  all_goals
    refine ret_by (hm := true) Try.func132 rfl ?_
    conv => whnf
    refine draw_by (hm := true) (by kernel_rfl) (by kernel_rfl) ?_
    conv => whnf
    refine .ret (penOf_ret hk) rfl ?_
    conv => whnf
    refine ⟨Nat.lt_succ_self _, ?_⟩
    conv => whnf
    refine ⟨by kernel_rfl, ?_⟩
    conv => whnf
    exact .val
theorem named_part_ret (k j : Nat) (n : Int) : Ret Try.prog 134 [.agg [I k, I j], I n] (.agg [I j, I k, I n]) := by
  refine ret_by (hm := true) Try.func134 rfl ?_
  conv => whnf
  exact .val
theorem fewer_ret {lo hi n : Int} (h1 : nearI lo) (h2 : nearI hi) (h3 : nearI n) : Ret Try.prog 135 [.agg [I lo, I hi], I n] (.agg [I (lo - n), I (hi - n)]) := by
  unfold nearI at h1 h2 h3
  refine ret_by (hm := true) Try.func135 rfl ?_
  conv => whnf
  refine ⟨lo - n, by rw [wrap_eq (by omega) (by omega)], ?_⟩
  conv => whnf
  refine ⟨hi - n, by rw [wrap_eq (by omega) (by omega)], ?_⟩
  conv => whnf
  exact .val
theorem hold_part_ret {f : Fl} {k j : Nat} (hk : k < f.pens.length) (hj : j < f.mobs) (hf : FlNear f) {n : Int} (hn : nearI n) : Ret Try.prog 133 [.agg [I k, I j], flCV f, I n] (flCV (partFl f k j n)) := by
  have f1 := hf.lo k; have f2 := hf.hi k; have f3 := hf.least j; have f4 := hf.most j
  have fw := fewer_ret f1 f2 hn
  unfold nearI at f3 f4 hn
  obtain rfl | rfl | rfl | rfl := four hj hf.ok.mobs
  · refine ret_by (hm := true) Try.func133 rfl ?_
    conv => whnf
    refine .ret (penOf_ret hk) rfl ?_
    conv => whnf
    refine ⟨⟨by decide, by decide, by decide⟩, ?_⟩
    conv => whnf
    refine .ret fw rfl ?_
    conv => whnf
    refine ⟨⟨by decide, by decide, by decide⟩, ?_⟩
    conv => whnf
    refine ⟨_, wrap_eq (by omega) (by omega), ?_⟩
    conv => whnf
    refine ⟨⟨by decide, by decide, by decide⟩, ?_⟩
    conv => whnf
    refine ⟨⟨by decide, by decide, by decide⟩, ?_⟩
    conv => whnf
    refine ⟨_, wrap_eq (by omega) (by omega), ?_⟩
    conv => whnf
    refine ⟨⟨by decide, by decide, by decide⟩, ?_⟩
    conv => whnf
    refine .ret (instead_ret (f := lessFl f 0 n) hk hf.ok.pens (lessPn (penF f k) 0 n)) rfl ?_
    conv => whnf
    exact .val
  · refine ret_by (hm := true) Try.func133 rfl ?_
    conv => whnf
    refine .ret (penOf_ret hk) rfl ?_
    conv => whnf
    refine ⟨⟨by decide, by decide, by decide⟩, ?_⟩
    conv => whnf
    refine .ret fw rfl ?_
    conv => whnf
    refine ⟨⟨by decide, by decide, by decide⟩, ?_⟩
    conv => whnf
    refine ⟨_, wrap_eq (by omega) (by omega), ?_⟩
    conv => whnf
    refine ⟨⟨by decide, by decide, by decide⟩, ?_⟩
    conv => whnf
    refine ⟨⟨by decide, by decide, by decide⟩, ?_⟩
    conv => whnf
    refine ⟨_, wrap_eq (by omega) (by omega), ?_⟩
    conv => whnf
    refine ⟨⟨by decide, by decide, by decide⟩, ?_⟩
    conv => whnf
    refine .ret (instead_ret (f := lessFl f 1 n) hk hf.ok.pens (lessPn (penF f k) 1 n)) rfl ?_
    conv => whnf
    exact .val
  · refine ret_by (hm := true) Try.func133 rfl ?_
    conv => whnf
    refine .ret (penOf_ret hk) rfl ?_
    conv => whnf
    refine ⟨⟨by decide, by decide, by decide⟩, ?_⟩
    conv => whnf
    refine .ret fw rfl ?_
    conv => whnf
    refine ⟨⟨by decide, by decide, by decide⟩, ?_⟩
    conv => whnf
    refine ⟨_, wrap_eq (by omega) (by omega), ?_⟩
    conv => whnf
    refine ⟨⟨by decide, by decide, by decide⟩, ?_⟩
    conv => whnf
    refine ⟨⟨by decide, by decide, by decide⟩, ?_⟩
    conv => whnf
    refine ⟨_, wrap_eq (by omega) (by omega), ?_⟩
    conv => whnf
    refine ⟨⟨by decide, by decide, by decide⟩, ?_⟩
    conv => whnf
    refine .ret (instead_ret (f := lessFl f 2 n) hk hf.ok.pens (lessPn (penF f k) 2 n)) rfl ?_
    conv => whnf
    exact .val
  · refine ret_by (hm := true) Try.func133 rfl ?_
    conv => whnf
    refine .ret (penOf_ret hk) rfl ?_
    conv => whnf
    refine ⟨⟨by decide, by decide, by decide⟩, ?_⟩
    conv => whnf
    refine .ret fw rfl ?_
    conv => whnf
    refine ⟨⟨by decide, by decide, by decide⟩, ?_⟩
    conv => whnf
    refine ⟨_, wrap_eq (by omega) (by omega), ?_⟩
    conv => whnf
    refine ⟨⟨by decide, by decide, by decide⟩, ?_⟩
    conv => whnf
    refine ⟨⟨by decide, by decide, by decide⟩, ?_⟩
    conv => whnf
    refine ⟨_, wrap_eq (by omega) (by omega), ?_⟩
    conv => whnf
    refine ⟨⟨by decide, by decide, by decide⟩, ?_⟩
    conv => whnf
    refine .ret (instead_ret (f := lessFl f 3 n) hk hf.ok.pens (lessPn (penF f k) 3 n)) rfl ?_
    conv => whnf
    exact .val

/-- The flock that is asked for. -/
theorem held_part {f : Fl} {k j : Nat} (hk : k < f.pens.length ∧ j < f.mobs) (h5 : FlNear f) {n : Int} (hn : nearI n) {m a b c : Nat} {h : Heap} (ha : Heap.at h a = .blk [.c (askPart k j)]) (hb : Heap.at h b = knBlk f m) (hc : Heap.at h c = .blk [.c (I n)]) :
    ∃ h2, CallOk Try.prog 106 [.ptr a 0, .ptr b 0, .ptr c 0] h .no (.ret (.c (flCV (partFl f k j n)))) h2 .no ∧ Foot (fun _ => False) h h2 := by
  suffices H : ∃ e h2, CallOk Try.prog 106 [.ptr a 0, .ptr b 0, .ptr c 0] h .no e h2 .no ∧ (e = .ret (.c (flCV (partFl f k j n))) ∧ Foot (fun _ => False) h h2) by
    obtain ⟨e, h2, h3, rfl, h4⟩ := H
    exact ⟨h2, h3, h4⟩
  have lt : ∀ {i x}, Heap.at h i = .blk x → i < h.n := fun {i x} hx => Nat.lt_of_not_le fun hle => by
    unfold Heap.at at hx; rw [TMap.get_ge hle] at hx; cases hx
  have la := lt ha
  have lb := lt hb
  have lc := lt hc
  refine call_by (hm := false) Try.func106 rfl ?_
  conv => whnf
  refine ⟨_, (at_push_lt _ _ la).trans ha, ?_⟩
  conv => whnf
  refine ⟨_, (at_push_lt _ _ lb).trans hb, ?_⟩
  conv => whnf
  refine ⟨_, (at_push_lt _ _ lc).trans hc, ?_⟩
  conv => whnf
  refine .ret (hold_part_ret hk.1 hk.2 h5 hn) rfl ?_
  conv => whnf
  refine ⟨_, at_push_self _ _, ?_⟩
  conv => whnf
  refine ⟨_, at_new _ _ _, ?_⟩
  conv => whnf
  exact ⟨rfl, Foot.set ((Foot.refl _ _).push _) (.inr (Nat.le_refl _)) _⟩

set_option maxHeartbeats 1000000 in
theorem canBe_part {f : Fl} (hf : FlNear f) {k j : Nat} (hk : k < f.pens.length ∧ j < f.mobs) {n : Int} (hn : nearI n) {m : Nat} {h : Heap} (hm : m < h.n) (hI : MapInv (specPart f k j) (Heap.at h m)) :
    ∃ e h', CallOk Try.prog 98 [knAV f m, .c (askPart k j), .c (I n)] h .no e h' .no ∧ (e = .ret (.c (B (possibleF (partFl f k j n)))) ∧ Foot (fun i => i = m) h h' ∧ MapInv (specPart f k j) (Heap.at h' m)) := by
  have h5 := hf.ok.pens
  refine call_by (hm := false) Try.func98 rfl ?_
  have a0 : ∀ a b c, Heap.at (((h.push .dead a).push .dead b).push .dead c) h.n = a := fun a b c => (at_push_lt _ _ (by simp only [push_n]; omega)).trans ((at_push_lt _ _ (by simp only [push_n]; omega)).trans (at_push_self _ _))
  have a1 : ∀ a b c, Heap.at (((h.push .dead a).push .dead b).push .dead c) (h.n + 1) = b := fun a b c => (at_push_lt _ _ (by simp only [push_n]; omega)).trans (at_push_self _ _)
  have a2 : ∀ a b c, Heap.at (((h.push .dead a).push .dead b).push .dead c) (h.n + 2) = c := fun a b c => at_push_self _ _
  have am : ∀ a b c, Heap.at (((h.push .dead a).push .dead b).push .dead c) m = Heap.at h m := fun a b c => (at_push_lt _ _ (by simp only [push_n]; omega)).trans ((at_push_lt _ _ (by simp only [push_n]; omega)).trans (at_push_lt _ _ hm))
  have ft : ∀ a b c, Foot (fun _ => False) h (((h.push .dead a).push .dead b).push .dead c) := fun a b c => (((Foot.refl _ _).push _).push _).push _
  conv => whnf
  refine ⟨knBlk f m, a0 _ _ _, ?_⟩
  conv => whnf
  refine .ret (allOf_ret f.pens.length (by omega)) rfl ?_
  conv => whnf
  refine mixed_by (hm := false) (by kernel_rfl) (by kernel_rfl) ?_
  conv => whnf
  refine ⟨knBlk f m, a0 _ _ _, ?_⟩
  conv => whnf
  refine ⟨_, a1 _ _ _, ?_⟩
  conv => whnf
  refine ⟨_, a2 _ _ _, ?_⟩
  conv => whnf
  refine .ret _ _ (named_part_ret k j n) rfl ?_
  conv => whnf
  have hs3 : nearI n := hn
  obtain ⟨e, h', hc, rfl, hf', hI'⟩ := known_possible (f := f) (fl := partFl f k j n) (m := m) (h := ((h.push .dead (knBlk f m)).push .dead (.blk [.c (askPart k j)])).push .dead (.blk [.c (I n)])) (spec := specPart f k j) (k := ⟨((2 ^ f.pens.length - 1 : Nat) : Int), j, k, n⟩) (g := 106) (cap := [.ptr (h.n + 1) 0, .ptr h.n 0, .ptr (h.n + 2) 0]) (.inl rfl)
    (by simp only [push_n]; omega) (mapInv_eq (am _ _ _) hI) (partFl_ok hf k j hn) rfl (fun h1 f1 => held_part hk hf hn ((f1.keep _ (by simp only [push_n]; omega) (by simp)).trans (a1 _ _ _)) ((f1.keep _ (by simp only [push_n]; omega) (by simp)).trans (a0 _ _ _)) ((f1.keep _ (by simp only [push_n]; omega) (by simp)).trans (a2 _ _ _)))
  refine .heavy _ h' (.inl hc) ?_
  conv => whnf
  refine ⟨by kernel_rfl, heaps_nil (by kernel_rfl), ?_⟩
  conv => whnf
  exact ⟨rfl, ((ft _ _ _).mono (fun _ _ h => h.elim)).trans hf', hI'⟩
theorem suits_part {f : Fl} (hf : FlNear f) {k j : Nat} (hk : k < f.pens.length ∧ j < f.mobs) {n : Int} (hn : nearI n) {m a b : Nat} {h : Heap} (hm : m < h.n) (ha : Heap.at h a = knBlk f m) (hb : Heap.at h b = .blk [.c (askPart k j)]) (hI : MapInv (specPart f k j) (Heap.at h m)) :
    ∃ h2, CallOk Try.prog 97 [.c (I n), .ptr a 0, .ptr b 0] h .no (.ret (.c (B (possibleF (partFl f k j n))))) h2 .no ∧ Foot (fun i => i = m) h h2 ∧ MapInv (specPart f k j) (Heap.at h2 m) := by
  suffices H : ∃ e h2, CallOk Try.prog 97 [.c (I n), .ptr a 0, .ptr b 0] h .no e h2 .no ∧ (e = .ret (.c (B (possibleF (partFl f k j n)))) ∧ Foot (fun i => i = m) h h2 ∧ MapInv (specPart f k j) (Heap.at h2 m)) by
    obtain ⟨e, h2, h3, rfl, h4⟩ := H
    exact ⟨h2, h3, h4⟩
  obtain ⟨e, h', hc, rfl, hf', hI'⟩ := canBe_part hf hk hn hm hI
  refine call_by (hm := false) Try.func97 rfl ?_
  conv => whnf
  refine ⟨_, ha, ?_⟩
  conv => whnf
  refine ⟨_, hb, ?_⟩
  conv => whnf
  refine .inl _ h' .no hc ?_
  conv => whnf
  exact ⟨rfl, hf', hI'⟩

def spanPart (f : Fl) (k j : Nat) : Option (Int × Int) := spanBy (0 : Int) ((penF f k).fr j) fun n => possibleF (partFl f k j n)

def H5p (f : Fl) (k j m : Nat) (h : Heap) : Heap :=
  TMap.set .dead (TMap.push .dead (TMap.set .dead (TMap.push .dead (TMap.push .dead (TMap.push .dead (TMap.push .dead h (knBlk f m)) (.blk [.c (askPart k j)])) (.blk [AV.lit (.int .i64 0), AV.lit (.int .i64 0)])) (.blk [AV.lit .nilFunc, AV.lit (.int .i64 0)])) (h.n + 3) (.blk [.func (.func 97) [] [.ptr h.n 0, .ptr (h.n + 1) 0], .c (I 10)])) (.blk [AV.lit (.int .i64 0), AV.lit (.int .i64 0)])) (h.n + 4) (.blk [.c (I 0), .c (I ((penF f k).fr j))])
theorem H5p_n (f : Fl) (k j m : Nat) (h : Heap) : (H5p f k j m h).n = h.n + 5 := rfl
theorem H5p_0 (f : Fl) (k j m : Nat) (h : Heap) : Heap.at (H5p f k j m h) h.n = knBlk f m := by
  unfold H5p
  have h2 : h.n ≠ h.n + 1 + 1 := by omega
  have h5 : h.n ≠ h.n + 1 + 1 + 1 := by omega
  have h6 : h.n ≠ h.n + 1 + 1 + 1 + 1 := by omega
  simp [at_set, at_push, push_n, TMap.set_n, h2, h5, h6]
theorem H5p_1 (f : Fl) (k j m : Nat) (h : Heap) : Heap.at (H5p f k j m h) (h.n + 1) = .blk [.c (askPart k j)] := by unfold H5p; simp [at_set, at_push, push_n, TMap.set_n]
theorem H5p_2 (f : Fl) (k j m : Nat) (h : Heap) : Heap.at (H5p f k j m h) (h.n + 2) = .blk [AV.lit (.int .i64 0), AV.lit (.int .i64 0)] := by unfold H5p; simp [at_set, at_push, push_n, TMap.set_n]
theorem H5p_3 (f : Fl) (k j m : Nat) (h : Heap) : Heap.at (H5p f k j m h) (h.n + 3) = .blk [.func (.func 97) [] [.ptr h.n 0, .ptr (h.n + 1) 0], .c (I 10)] := by unfold H5p; simp [at_set, at_push, push_n, TMap.set_n]
theorem H5p_4 (f : Fl) (k j m : Nat) (h : Heap) : Heap.at (H5p f k j m h) (h.n + 4) = .blk [.c (I 0), .c (I ((penF f k).fr j))] := by unfold H5p; simp [at_set, at_push, push_n, TMap.set_n]
theorem H5p_lt (f : Fl) (k j m : Nat) (h : Heap) {i : Nat} (hi : i < h.n) : Heap.at (H5p f k j m h) i = Heap.at h i := by
  unfold H5p
  have h0 : i ≠ h.n := by omega
  have h1 : i ≠ h.n + 1 := by omega
  have h2 : i ≠ h.n + 1 + 1 := by omega
  have h3 : i ≠ h.n + 3 := by omega
  have h4 : i ≠ h.n + 4 := by omega
  have h5 : i ≠ h.n + 1 + 1 + 1 := by omega
  have h6 : i ≠ h.n + 1 + 1 + 1 + 1 := by omega
  simp [at_set, at_push, push_n, TMap.set_n, h0, h1, h2, h3, h4, h5, h6]

theorem H5p_foot (f : Fl) (k j m : Nat) (h : Heap) {W : Nat → Prop} : Foot W h (H5p f k j m h) := ⟨by rw [H5p_n]; omega, fun i hi _ => H5p_lt f k j m h hi⟩

set_option maxHeartbeats 2000000 in
theorem span_part_ret {f : Fl} (hf : FlNear f) {k j : Nat} (hk : k < f.pens.length ∧ j < f.mobs) {m : Nat} {h : Heap} (hm : m < h.n) (hI : MapInv (specPart f k j) (Heap.at h m)) :
    ∃ e h', CallOk Try.prog 79 [knAV f m, .c (askPart k j)] h .no e h' .no ∧ (e = endOf (spanPart f k j) ∧ Foot (fun i => i = m) h h') := by
  have blo : nearI 0 := by unfold nearI; omega
  have bhi := hf.fr k j
  have small : ∀ y, (0 : Int) ≤ y ∧ y ≤ ((penF f k).fr j) → nearI y := fun y hy => by unfold nearI at *; omega
  refine call_by (hm := false) Try.func79 rfl ?_
  conv => whnf
  refine ⟨_, at_push_self _ _, ?_⟩
  conv => whnf
  refine ⟨_, (at_old _ _ _ (by simp only [push_n]; omega)).trans ((at_push_lt _ _ (by simp only [push_n]; omega)).trans (at_push_self _ _)), ?_⟩
  conv => whnf
  refine ⟨knBlk f m, (at_old _ _ _ (by simp only [push_n]; omega)).trans ((at_push_lt _ _ (by simp only [push_n]; omega)).trans ((at_push_lt _ _ (by simp only [push_n]; omega)).trans (at_push_self _ _))), ?_⟩
  conv => whnf
  refine .ret (given_part_ret hk.1 hk.2 hf.ok.mobs) rfl ?_
  conv => whnf
  refine ⟨_, at_push_self _ _, ?_⟩
  conv => whnf
  refine mixed_by (hm := false) (by kernel_rfl) (by kernel_rfl) ?_
  conv => whnf
  refine ⟨_, at_new _ _ _, ?_⟩
  conv => whnf
  refine .ret _ _ (up_ret _ _) rfl ?_
  conv => whnf
  refine ⟨_, (at_old _ _ _ (by simp only [push_n, TMap.set_n]; omega)).trans (at_new _ _ _), ?_⟩
  conv => whnf
  have fin : ∀ h1, Foot (fun i => i = m) (H5p f k j m h) h1 → MapInv (specPart f k j) (Heap.at h1 m) → ∀ y, (0 : Int) ≤ y ∧ y ≤ ((penF f k).fr j) → ∃ h2, CallOk Try.prog 97 [.c (I y), .ptr h.n 0, .ptr (h.n + 1) 0] h1 .no (.ret (.c (B (possibleF (partFl f k j y))))) h2 .no ∧ Foot (fun i => i = m) h1 h2 ∧ MapInv (specPart f k j) (Heap.at h2 m) := by
    intro h1 f1 i1 y hy
    have hn1 := f1.n
    rw [H5p_n] at hn1
    exact suits_part hf hk (small y hy) (by omega) ((f1.keep _ (by rw [H5p_n]; omega) (by omega)).trans (H5p_0 f k j m h)) ((f1.keep _ (by rw [H5p_n]; omega) (by omega)).trans (H5p_1 f k j m h)) i1
  have i5 : MapInv (specPart f k j) (Heap.at (H5p f k j m h) m) := mapInv_eq (H5p_lt f k j m h hm) hI
  obtain ⟨e1, h1, hc1, he1, f1, i1⟩ := first_ret (it := upC (0 : Int) ((penF f k).fr j)) (ys := intsUp (0 : Int) ((penF f k).fr j)) (by rw [← upL_ints]; exact up_iter blo.tame bhi.tame) (p := fun n => possibleF (partFl f k j n)) (spec := specPart f k j) (a := h.n) (b := h.n + 1) (m := m) (h := H5p f k j m h) (by rw [H5p_n]; omega) i5
    (fun y hy h1 f1 i1 => fin h1 f1 i1 y (mem_up.1 hy))
  have hn1 := f1.n
  rw [H5p_n] at hn1
  cases hfu : (intsUp (0 : Int) ((penF f k).fr j)).find? (fun n => possibleF (partFl f k j n)) with
  | none =>
    rw [hfu] at he1
    subst he1
    have hsp : spanPart f k j = none := by unfold spanPart spanBy; rw [hfu]
    rw [hsp]
    refine .heavy _ h1 (.inl hc1) ?_
    conv => whnf
    refine mOps_list (l' := [4, 6]) (by kernel_rfl) ?_
    conv => whnf
    refine ⟨_, H5p_4 f k j m h, ?_⟩
    conv => whnf
    refine ⟨_, H5p_3 f k j m h, ?_⟩
    conv => whnf
    refine ⟨by kernel_rfl, heaps_eq (l' := [(h.n + 4, H5p f k j m h, h1), (h.n + 3, H5p f k j m h, h1)]) (by kernel_rfl) (heaps_cons (f1.keep _ (by rw [H5p_n]; omega) (by omega)) (heaps_cons (f1.keep _ (by rw [H5p_n]; omega) (by omega)) (by simp [HeapsOk]))), ?_⟩
    intro ds
    conv => whnf
    exact ⟨rfl, (H5p_foot f k j m h).trans f1⟩
  | some lo =>
    rw [hfu] at he1
    subst he1
    obtain ⟨hi, hfd⟩ := down_some hfu
    obtain ⟨e2, h2, hc2, he2, f2, i2⟩ := first_ret (it := downC (0 : Int) ((penF f k).fr j)) (ys := intsDown (0 : Int) ((penF f k).fr j)) (by rw [← downL_ints]; exact down_iter blo.tame bhi.tame) (p := fun n => possibleF (partFl f k j n)) (spec := specPart f k j) (a := h.n) (b := h.n + 1) (m := m) (h := h1) (by omega) i1
      (fun y hy h2 f2 i2 => fin h2 (f1.trans f2) i2 y (mem_down.1 hy))
    rw [hfd] at he2
    subst he2
    have g4 := (f1.keep (h.n + 4) (by rw [H5p_n]; omega) (by omega)).trans (H5p_4 f k j m h)
    have g3 := (f1.keep (h.n + 3) (by rw [H5p_n]; omega) (by omega)).trans (H5p_3 f k j m h)
    have g2 := (f2.keep (h.n + 2) (by omega) (by omega)).trans ((f1.keep (h.n + 2) (by rw [H5p_n]; omega) (by omega)).trans (H5p_2 f k j m h))
    refine .heavy _ h1 (.inl hc1) ?_
    conv => whnf
    refine ⟨_, g4, ?_⟩
    conv => whnf
    refine .ret _ _ (down_ret _ _) rfl ?_
    conv => whnf
    refine ⟨_, g3, ?_⟩
    conv => whnf
    refine .heavy _ h2 (.inl hc2) ?_
    conv => whnf
    refine ⟨_, g2, ?_⟩
    conv => whnf
    have hn2 := f2.n
    have hsp : spanPart f k j = some (lo, hi) := by unfold spanPart spanBy; rw [hfu, hfd]
    rw [hsp]
    refine ⟨by show h.n + 2 < h2.n; omega, ?_⟩
    conv => whnf
    refine ⟨by kernel_rfl, heaps_eq (l' := [(h.n + 4, H5p f k j m h, h1), (h.n + 3, H5p f k j m h, h1)]) (by kernel_rfl) (heaps_cons (f1.keep _ (by rw [H5p_n]; omega) (by omega)) (heaps_cons (f1.keep _ (by rw [H5p_n]; omega) (by omega)) (by simp [HeapsOk]))), ?_⟩
    conv => whnf
    refine ⟨_, at_set_self _ _ (i := h.n + 2) (by omega), ?_⟩
    conv => whnf
    exact ⟨rfl, Foot.set (W := fun i => i = m) (k := h.n + 2) (((H5p_foot f k j m h).trans f1).trans f2) (.inr (by omega)) _⟩
def qPa (k j : Nat) : CV := .cptr [askPart k j] 0

set_option maxHeartbeats 1000000 in
theorem find_part {v : DV} {d : Dr} (hv : v.Is d) (hd : validB d = true) {k j : Nat} (hk : k < d.pens.length ∧ j < d.mobs.length) : CallOk Try.prog 78 ([dP v, qPa k j].map .c) TMap.nil .no (endOf (spanPart (flockF d) k j)) TMap.nil .no := by
  obtain ⟨s1, s2, s3, s4, _⟩ := valid_sizes hd
  have hp : d.pens ≠ [] := fun e => by rw [e] at s3; simp at s3
  have hf := flock_near hd
  have hkf : k < (flockF d).pens.length ∧ j < (flockF d).mobs := by simp [flockF]; exact hk
  suffices H : ∃ e h', CallOk Try.prog 78 ([dP v, qPa k j].map .c) TMap.nil .no e h' .no ∧ e = endOf (spanPart (flockF d) k j) by
    obtain ⟨e, h', hc, rfl⟩ := H
    have hval : ∃ c, (endOf (spanPart (flockF d) k j)).val = .c c ∧ (endOf (spanPart (flockF d) k j)).setVal (.c c) = endOf (spanPart (flockF d) k j) := by
      cases spanPart (flockF d) k j with
      | none => exact ⟨_, rfl, rfl⟩
      | some s => exact ⟨_, rfl, rfl⟩
    obtain ⟨c, h1, h2⟩ := hval
    have := callOk_close (args := [dP v, qPa k j]) hc (fuel := 1) (r := (c, [])) (by rw [h1]; rfl)
    rw [h2] at this
    exact this
  refine call_by (hm := false) Try.func78 rfl ?_
  conv => whnf
  refine mixed_by (hm := false) (by kernel_rfl) (by kernel_rfl) ?_
  conv => whnf
  refine ⟨_, rfl, ?_⟩
  conv => whnf
  obtain ⟨e1, h1, hc1, m, rfl, hm0, hm1, hI1, f1⟩ := know_ret hv s2 hp (specPart (flockF d) k j) (TMap.push .dead TMap.nil (.blk [AV.lit (.int .i64 0), AV.lit (.int .i64 0)]))
  refine .heavy _ h1 (.inl hc1) ?_
  conv => whnf
  refine ⟨_, rfl, ?_⟩
  conv => whnf
  obtain ⟨e2, h2, hc2, he2, f2⟩ := span_part_ret hf hkf hm1 hI1
  cases hsp : spanPart (flockF d) k j with
  | none =>
    rw [hsp] at he2
    subst he2
    refine .heavy _ h2 (.inl hc2) ?_
    conv => whnf
    refine mOps_list (l' := []) (by kernel_rfl) ?_
    conv => whnf
    refine ⟨by kernel_rfl, heaps_nil (by kernel_rfl), ?_⟩
    intro ds
    conv => whnf
    rfl
  | some s =>
    rw [hsp] at he2
    subst he2
    have hm0 : 1 ≤ m := hm0
    have hn1 : 1 ≤ h1.n := f1.n
    have hn2 := f2.n
    have g0 : Heap.at h2 0 = .blk [AV.lit (.int .i64 0), AV.lit (.int .i64 0)] := (f2.keep 0 (by omega) (by omega)).trans ((f1.keep 0 (Nat.lt_succ_self 0) (by simp)).trans (at_push_self _ _))
    refine .heavy _ h2 (.inl hc2) ?_
    conv => whnf
    refine ⟨_, g0, ?_⟩
    conv => whnf
    refine ⟨by show 0 < h2.n; omega, ?_⟩
    conv => whnf
    refine ⟨by kernel_rfl, heaps_nil (by kernel_rfl), ?_⟩
    conv => whnf
    refine ⟨_, at_set_self _ _ (i := 0) (by omega), ?_⟩
    conv => whnf
    rfl

theorem told_part_ret {v : DV} {d : Dr} (hv : v.Is d) (hd : validB d = true) {k j : Nat} (hk : k < d.pens.length ∧ j < d.mobs.length) : Ret Try.prog 58 [.func (.func 78) [] [dP v, qPa k j]] (toldV (spanPart (flockF d) k j)) := by
  have hc := find_part hv hd hk
  refine ret_by (hm := true) Try.func58 rfl ?_
  conv => whnf
  cases hsp : spanPart (flockF d) k j with
  | none =>
    rw [hsp] at hc
    refine .pure [dP v, qPa k j] _ rfl hc ⟨_, rfl⟩ ?_
    conv => whnf
    refine .mk _ _ _ (caught_live (c := 10) (c0 := 10) rfl) ?_
    conv => whnf
    exact .val
  | some s =>
    rw [hsp] at hc
    refine .pure [dP v, qPa k j] _ rfl hc ⟨_, rfl⟩ ?_
    conv => whnf
    refine .mk _ _ _ (caught_no _ _) ?_
    conv => whnf
    exact .val

theorem howMany_part_ret {v : DV} {d : Dr} (hv : v.Is d) (hd : validB d = true) {k j : Nat} (hk : k < d.pens.length ∧ j < d.mobs.length) : Ret Try.prog 48 [v.cv, askPart k j] (toldV (spanPart (flockF d) k j)) := by
  have hc := told_part_ret hv hd hk
  refine ret_by (hm := true) Try.func48 rfl ?_
  conv => whnf
  cases hsp : spanPart (flockF d) k j with
  | none =>
    rw [hsp] at hc
    refine .snapped 10 _ _ _ _ rfl hc rfl ?_
    conv => whnf
    exact .val
  | some s =>
    rw [hsp] at hc
    refine .snapped 10 _ _ _ _ rfl hc rfl ?_
    conv => whnf
    exact .val

end Go.Ag
/- Layer 2: Part. -/
namespace Go.Ag
open Go.Proofs
set_option maxRecDepth 100000

/-- What Part returns. -/
def partR (d : Dr) (m p : Int) : (Int × Int) × Int :=
  if validB d = false then ((0, 0), 1) else if inB m 0 (d.mobs.length - 1) = false then ((0, 0), 2) else if inB p 0 (d.pens.length - 1) = false then ((0, 0), 2) else match spanPart (flockF d) p.toNat m.toNat with
    | some s => (s, 0)
    | none => ((0, 0), 10)
theorem part_ret {v : DV} {d : Dr} (hv : v.Is d) (m p : Int) : Ret Try.prog 18 [v.cv, I m, I p] (.tuple [.agg [I (partR d m p).1.1, I (partR d m p).1.2], I (partR d m p).2]) := by
  refine ret_by (hm := true) Try.func18 rfl ?_
  conv => whnf
  refine .ret (valid_ret hv) rfl ?_
  conv => whnf
  unfold partR
  cases h1 : validB d
  · conv => whnf
    exact .val
  conv => whnf
  refine .ret (isMob_ret hv _) rfl ?_
  conv => whnf
  cases h2 : inB m 0 (d.mobs.length - 1)
  · conv => whnf
    exact .val
  conv => whnf
  refine .ret (isPen_ret hv _) rfl ?_
  conv => whnf
  cases h3 : inB p 0 (d.pens.length - 1)
  · conv => whnf
    exact .val
  obtain ⟨j, rfl, hj⟩ : ∃ j : Nat, m = j ∧ j < d.mobs.length := by
    simp only [inB, Bool.and_eq_true, decide_eq_true_eq] at h2
    exact ⟨m.toNat, by omega, by omega⟩
  obtain ⟨k, rfl, hk⟩ : ∃ k : Nat, p = k ∧ k < d.pens.length := by
    simp only [inB, Bool.and_eq_true, decide_eq_true_eq] at h3
    exact ⟨p.toNat, by omega, by omega⟩
  have hc := howMany_part_ret hv h1 (k := k) (j := j) ⟨hk, hj⟩
  simp only [Bool.true_eq_false, if_false, Int.toNat_natCast]
  conv => whnf
  cases hsp : spanPart (flockF d) k j with
  | none =>
    rw [hsp] at hc
    refine .ret hc rfl ?_
    conv => whnf
    exact .val
  | some s =>
    rw [hsp] at hc
    refine .ret hc rfl ?_
    conv => whnf
    exact .val
end Go.Ag
