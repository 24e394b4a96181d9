/- The law StandRuns returns true for arguments that are not far too long. No conditions. -/
import Derived.Test.YtdjgafdekabolaaStJ
/- Layer 4: the reference's Late and Clash. -/
namespace Go.Ag
open Go.Proofs
set_option maxRecDepth 100000

/-- Is a run late, as the reference has it? -/
theorem lateF_iff (P : List (Int × Int)) (m : Int) : ∀ (n i : Nat), lateF P m n i = true ↔ ∃ q, i ≤ q ∧ q < i + n ∧ m < lastF (ofR q P)
  | 0, i => by simp [lateF]; intro q h1 h2; omega
  | n + 1, i => by
    rw [lateF_succ, Bool.or_eq_true, lateF_iff P m n (i + 1), decide_eq_true_eq]
    constructor
    · rintro (h | ⟨q, h1, h2, h3⟩)
      · exact ⟨i, Nat.le_refl _, by omega, h⟩
      · exact ⟨q, by omega, by omega, h3⟩
    · rintro ⟨q, h1, h2, h3⟩
      by_cases he : q = i
      · subst he; exact .inl h3
      · exact .inr ⟨q, by omega, by omega, h3⟩
theorem late_day {s : Sd} (hd : validB s = true) {t : T3} (hg : Good s t) {r : Nat} {y : Ru} (hy : s.runs[r]? = some y) : lateF (refL s t) y.start r 0 = decide (0 < Me.of (dayOf s t) (.past 0 ((r : Int) - 1) y.start)) := by
  have hyv := valid_run hd hy
  have hs := day_inc (s := s) fun k => (hg.takes k).1
  rw [run_late hd hg hy, Bool.eq_iff_iff, lateF_iff, decide_eq_true_eq]
  have htop := free_top hs (fun x hx => (day_done6 hg x hx).1) r
  generalize freeR (dayOf s t) r = fr at htop
  obtain ⟨h0, h1, h2⟩ := htop
  constructor
  · rintro ⟨q, _, hq, hl⟩
    rw [ofR_day] at hl
    have hrt := run_top hs q q
    rcases hrt.one with he | ⟨x, hx, hp, he⟩
    · omega
    · have : x.done ≤ fr := h1 x hx (by simp only [inB, Bool.and_eq_true, decide_eq_true_eq] at hp ⊢; omega)
      omega
  · intro hlt
    rcases h2 with he | ⟨x, hx, hp, he⟩
    · omega
    · simp only [inB, Bool.and_eq_true, decide_eq_true_eq] at hp
      refine ⟨x.run, Nat.zero_le _, by omega, ?_⟩
      rw [ofR_day]
      have := (run_top hs (x.run : Int) (x.run : Int)).all x hx (by simp only [inB, Bool.and_eq_true, decide_eq_true_eq]; omega)
      omega

def isLate (s : Sd) (y : Ru) (r : Nat) (t : T3) : Bool := lateF (refL s t) y.start r 0
theorem sure_count {s : Sd} (hd : validB s = true) {r : Nat} {y : Ru} (hy : s.runs[r]? = some y) {p : Int × Int} (hp : IsSpan s (fun t => Me.of (dayOf s t) (.past 0 ((r : Int) - 1) y.start)) p) :
    sureOf p = if (truths s).countP (isLate s y r) = (truths s).length then 2 else if (truths s).countP (isLate s y r) = 0 then 0 else 1 := by
  have key : ∀ t ∈ truths s, (isLate s y r t = true ↔ 0 < Me.of (dayOf s t) (.past 0 ((r : Int) - 1) y.start)) := fun t ht => by
    unfold isLate
    rw [late_day hd (truth_good hd ht) hy, decide_eq_true_eq]
  obtain ⟨t1, m1, e1⟩ := hp.lo
  obtain ⟨t2, m2, e2⟩ := hp.hi
  have ha := hp.all
  have k1 : (truths s).countP (isLate s y r) = (truths s).length ↔ p.1 > 0 := by
    rw [List.countP_eq_length]
    constructor
    · intro h
      have := (key t1 m1).1 (h t1 m1)
      omega
    · intro h t ht
      rw [key t ht]
      have : p.1 ≤ Me.of (dayOf s t) (.past 0 ((r : Int) - 1) y.start) := (ha t ht).1
      omega
  have k2 : (truths s).countP (isLate s y r) = 0 ↔ ¬ p.2 > 0 := by
    rw [List.countP_eq_zero]
    constructor
    · intro h hp
      exact h t2 m2 ((key t2 m2).2 (by omega))
    · intro h t ht hc
      have := (key t ht).1 hc
      have : Me.of (dayOf s t) (.past 0 ((r : Int) - 1) y.start) ≤ p.2 := (ha t ht).2
      omega
  unfold sureOf
  by_cases h1 : p.1 > 0 <;> by_cases h2 : p.2 > 0 <;> simp only [h1, h2, k1, k2, decide_true, decide_false, if_true, if_false, not_true, not_false_iff, Bool.false_eq_true]
theorem count_step {p : T3 → Bool} {L : List T3} {i : Nat} {t : T3} (h : L[i]? = some t) : (L.take (i + 1)).countP p = (L.take i).countP p + if p t then 1 else 0 := by
  rw [List.take_add_one, h, Option.toList_some, List.countP_append]
  simp [List.countP_cons]

set_option maxHeartbeats 4000000 in
theorem ref25_ret {v : SV} {s : Sd} (hv : v.Is s) (n : Int) : Ret Try.prog 25 [v.cv, I n] (.tuple [I (lateR s n).1, I (lateR s n).2]) := by
  have e3 := hv.rn; have e2 := hv.short
  refine ret_by (hm := false) Try.func25 rfl ?_
  conv => whnf
  refine draw_by (hm := false) (by kernel_rfl) (by kernel_rfl) ?_
  conv => whnf
  refine ⟨v.blk, rfl, ?_⟩
  conv => whnf
  refine ⟨v.blk, rfl, ?_⟩
  conv => whnf
  refine .pure _ _ rfl (runT_ret hv n) ?_
  conv => whnf
  cases hi : inB n 0 (s.runs.length - 1)
  case false =>
    conv => whnf
    have hT := told52_ret hv false
    unfold toldRV at hT
    cases hd : validB s
    · rw [hd, if_pos rfl] at hT
      rw [show lateR s n = (0, 1) by unfold lateR; rw [hd]; rfl]
      refine .pure _ _ rfl hT ?_
      conv => whnf
      refine ⟨by kernel_rfl, ?_⟩
      conv => whnf
      exact .val
    · rw [hd, if_neg (by simp), if_pos rfl] at hT
      rw [show lateR s n = (0, 2) by unfold lateR; rw [hd, if_neg (by simp), if_pos (by rw [hi]; simp)]]
      refine .pure _ _ rfl hT ?_
      conv => whnf
      refine ⟨by kernel_rfl, ?_⟩
      conv => whnf
      exact .val
  have hib := hi
  simp only [inB, Bool.and_eq_true, decide_eq_true_eq] at hib
  conv => whnf
  cases c2 : decide (n > 0)
  case false =>
    have hn0 : n = 0 := by simp at c2; omega
    conv => whnf
    have hT := told52_ret hv false
    unfold toldRV at hT
    cases hd : validB s
    · rw [hd, if_pos rfl] at hT
      rw [show lateR s n = (0, 1) by unfold lateR; rw [hd]; rfl]
      refine .pure _ _ rfl hT ?_
      conv => whnf
      refine ⟨by kernel_rfl, ?_⟩
      conv => whnf
      exact .val
    · rw [hd, if_neg (by simp), if_pos rfl] at hT
      rw [show lateR s n = (0, 2) by unfold lateR; rw [hd, if_neg (by simp), if_pos (by rw [hn0]; rfl)]]
      refine .pure _ _ rfl hT ?_
      conv => whnf
      refine ⟨by kernel_rfl, ?_⟩
      conv => whnf
      exact .val
  have hn0 : 0 < n := by simpa using c2
  obtain ⟨r, rfl⟩ : ∃ r : Nat, n = r := ⟨n.toNat, by omega⟩
  have hrl : r < s.runs.length := by omega
  obtain ⟨y, hy⟩ := get_some hrl
  have hT := told52_ret hv true
  unfold toldRV at hT
  conv => whnf
  cases hd : validB s
  case false =>
    rw [hd, if_pos rfl] at hT
    rw [show lateR s r = (0, 1) by unfold lateR; rw [hd]; rfl]
    refine .pure _ _ rfl hT ?_
    conv => whnf
    refine ⟨by kernel_rfl, ?_⟩
    conv => whnf
    exact .val
  rw [hd, if_neg (by simp), if_neg (by simp)] at hT
  have hst : startOf s ((r : Nat) : Int).toNat = y.start := by rw [Int.toNat_natCast]; unfold startOf; rw [hy]
  have hR : lateR s r = match spanM s (.past 0 ((r : Int) - 1) y.start) with | some p => (sureOf p, 0) | none => (0, 10) := by
    unfold lateR
    rw [hd, if_neg (by simp), if_neg (by rw [hi]; simp; omega), hst]
    cases spanM s (.past 0 ((r : Int) - 1) y.start) <;> rfl
  obtain ⟨L, hL⟩ : ∃ L, truths s = L := ⟨_, rfl⟩
  rw [hL] at hT
  by_cases hne : L = []
  · rw [if_pos hne] at hT
    rw [show spanM s (.past 0 ((r : Int) - 1) y.start) = none from span_none.2 (by rw [hL]; exact hne)] at hR
    rw [hR]
    refine .pure _ _ rfl hT ?_
    conv => whnf
    refine ⟨by kernel_rfl, ?_⟩
    conv => whnf
    exact .val
  rw [if_neg hne] at hT
  obtain ⟨p, hp1, hp2⟩ := span_ex (s := s) (by rw [hL]; exact hne) (fun t => Me.of (dayOf s t) (.past 0 ((r : Int) - 1) y.start))
  have hsure := sure_count hd hy hp2
  rw [hL] at hsure
  rw [show spanM s (.past 0 ((r : Int) - 1) y.start) = some p from hp1] at hR
  have hR2 : lateR s r = (sureOf p, 0) := hR
  rw [hsure] at hR2
  rw [hR2]
  clear hR2 hR hsure hp1 hp2 p
  have hLl : L.length ≤ 125 := by rw [← hL]; exact Nat.le_trans (List.length_filter_le ..) (combos_len hd)
  refine .pure _ _ rfl hT ?_
  conv => whnf
  refine ⟨by kernel_rfl, ?_⟩
  conv => whnf
  refine loop_op (I := fun m st => ∃ (i : Nat) (h : Heap), i ≤ L.length ∧ m = L.length - i ∧ Heap.at h 0 = v.blk ∧
      Has st 47 [(1, .c (I r)), (2, .ptr 0 0), (6, .c (trC s L)), (8, .c (I ((L.take i).countP (isLate s y r)))), (9, .c (I i))] [] none h) ?_ (k := L.length)
    ⟨0, _, Nat.zero_le _, rfl, rfl, rfl, ⟨rfl, rfl, rfl, rfl, rfl, trivial⟩, rfl, rfl, rfl, rfl⟩
  rintro m st ⟨i, h, hi3, rfl, h0, hs1⟩ K1 hK1
  refine hs1.run (hm := false) ?_
  conv => whnf
  cases hc : decide ((i : Int) < (L.length : Int))
  case true =>
    have hi2 : i < L.length := by simp at hc; omega
    obtain ⟨t, ht⟩ := get_some hi2
    have hst := count_step (p := isLate s y r) ht
    have hcl : (L.take i).countP (isLate s y r) ≤ 125 := by
      have := List.countP_le_length (p := isLate s y r) (l := L.take i)
      rw [List.length_take] at this
      omega
    have hq := (late69_ret hv (P := refL s t) (by rw [refL_le]; omega) hy).args (args' := [v.cv, .agg [slC (doneR s t), slC (runR s t)], I r]) ⟨.refl _, refP_le, .refl _, trivial⟩
    rw [show lateF (refL s t) y.start r 0 = isLate s y r t from rfl] at hq
    conv => whnf
    refine draw_by (hm := false) (by kernel_rfl) (by kernel_rfl) ?_
    conv => whnf
    refine ⟨_, h0, ?_⟩
    conv => whnf
    refine ⟨⟨by omega, by omega⟩, ?_⟩
    conv => whnf
    refine ⟨_, tr_day ht, ?_⟩
    conv => whnf
    refine .pure _ _ rfl hq ?_
    conv => whnf
    refine ⟨by kernel_rfl, ?_⟩
    conv => whnf
    cases hl : isLate s y r t
    · rw [hl, if_neg (by simp), Nat.add_zero] at hst
      conv => whnf
      refine ⟨((i + 1 : Nat) : Int), by rw [wrap_eq (by omega) (by omega)]; omega, ?_⟩
      conv => whnf
      exact ⟨L.length - (i + 1), by omega, i + 1, h, hi2, rfl, h0, rfl, by rw [hst]; exact ⟨rfl, rfl, rfl, rfl, rfl, trivial⟩, rfl, rfl, rfl, rfl⟩
    · rw [hl, if_pos rfl] at hst
      conv => whnf
      refine ⟨(((L.take i).countP (isLate s y r) + 1 : Nat) : Int), by rw [wrap_eq (by omega) (by omega)]; omega, ?_⟩
      conv => whnf
      refine ⟨((i + 1 : Nat) : Int), by rw [wrap_eq (by omega) (by omega)]; omega, ?_⟩
      conv => whnf
      exact ⟨L.length - (i + 1), by omega, i + 1, h, hi2, rfl, h0, rfl, by rw [hst]; exact ⟨rfl, rfl, rfl, rfl, rfl, trivial⟩, rfl, rfl, rfl, rfl⟩
  have hie : i = L.length := by simp at hc; omega
  subst hK1
  subst hie
  rw [List.take_length]
  generalize L.countP (isLate s y r) = C
  conv => whnf
  cases q1 : ((C : Int) == (L.length : Int))
  · have hq1 : ¬ C = L.length := fun e => by rw [e] at q1; simp at q1
    rw [if_neg hq1]
    conv => whnf
    cases q2 : ((C : Int) == 0)
    · have hq2 : ¬ C = 0 := fun e => by rw [e] at q2; simp at q2
      rw [if_neg hq2]
      conv => whnf
      exact .val
    · have hq2 : C = 0 := by simp at q2; omega
      rw [if_pos hq2]
      conv => whnf
      exact .val
  · have hq1 : C = L.length := by simp at q1; omega
    rw [if_pos hq1]
    conv => whnf
    exact .val

theorem pop_full : ∀ n, n ≤ 4 → ∀ b, b ≤ 2 ^ n - 1 → pop b ≤ pop (2 ^ n - 1)
  | 0, _, b, h => by have : b = 0 := by omega
                     subst this; decide
  | 1, _, b, h => by revert b; decide
  | 2, _, b, h => by revert b; decide
  | 3, _, b, h => by revert b; decide
  | 4, _, b, h => by revert b; decide
  | n + 5, h, _, _ => by omega
theorem few_more (s : Sd) (h4 : s.looks.length ≤ 4) : fewTo s (2 ^ s.looks.length) = fewest s := by
  have hp : 1 ≤ 2 ^ s.looks.length := Nat.one_le_two_pow
  obtain ⟨N, hN⟩ : ∃ N, N = 2 ^ s.looks.length - 1 := ⟨_, rfl⟩
  have h1 : 2 ^ s.looks.length = N + 1 := by omega
  have hle : fewTo s N ≤ N := by rw [hN]; exact fewTo_le s _ (Nat.le_refl _)
  have hpop : pop (fewTo s N) ≤ pop N := by
    have := pop_full s.looks.length h4 (fewTo s N) (by omega)
    rw [← hN] at this
    exact this
  rw [h1, fewTo_succ]
  unfold fewest
  rw [← hN]
  unfold fewStep
  rw [show decide ((pop N : Int) < (pop (fewTo s N) : Int)) = false by simp; omega]
  rfl
end Go.Ag
/- Layer 4: the reference's Clash. -/
namespace Go.Ag
open Go.Proofs
set_option maxRecDepth 100000

theorem poss_len {s : Sd} (L : List Lk) : ((((truthsS s L).length : Nat) : Int) == 0) = !possB s L := by
  unfold possB
  cases truthsS s L with
  | nil => rfl
  | cons a l => simp <;> omega
set_option maxHeartbeats 4000000 in
theorem ref27_ret {v : SV} {s : Sd} (hv : v.Is s) : Ret Try.prog 27 [v.cv] (.tuple [I (clashR s).1, I (clashR s).2]) := by
  refine ret_by (hm := false) Try.func27 rfl ?_
  conv => whnf
  refine ⟨v.blk, rfl, ?_⟩
  conv => whnf
  refine .ret (ref_ret hv) rfl ?_
  conv => whnf
  cases hd : validB s
  · rw [show clashR s = (0, 1) by unfold clashR; rw [hd]; rfl]
    conv => whnf
    exact .val
  have h4 := valid_looks hd
  have hp : 1 ≤ 2 ^ s.looks.length ∧ 2 ^ s.looks.length ≤ 2 ^ 4 := ⟨Nat.one_le_two_pow, Nat.pow_le_pow_right (by omega) h4⟩
  have hT := truths72_ret hv hd (set := 2 ^ s.looks.length - 1) (by omega)
  have hTn := truthsR_eq hd (2 ^ s.looks.length - 1)
  rw [onlyL_full] at hTn
  rw [hTn] at hT
  conv => whnf
  refine draw_by (hm := false) (by kernel_rfl) (by kernel_rfl) ?_
  conv => whnf
  refine ⟨v.blk, rfl, ?_⟩
  conv => whnf
  refine ⟨v.blk, rfl, ?_⟩
  conv => whnf
  refine .pure _ _ rfl (every_ret hv h4) ?_
  conv => whnf
  refine .pure _ _ rfl hT ?_
  conv => whnf
  refine ⟨by kernel_rfl, ?_⟩
  conv => whnf
  have hpl : decide ((((truthsS s s.looks).length : Nat) : Int) > 0) = possB s s.looks := by
    unfold possB
    cases truthsS s s.looks with
    | nil => rfl
    | cons a l => simp <;> omega
  rw [hpl]
  cases hps : possB s s.looks
  case true =>
    rw [show clashR s = (0, 4) by unfold clashR; rw [hd, hps]; rfl]
    conv => whnf
    exact .val
  rw [show clashR s = ((fewest s : Int), 0) by unfold clashR; rw [hd, hps]; rfl]
  conv => whnf
  refine ⟨v.blk, rfl, ?_⟩
  conv => whnf
  refine .ret (every_ret hv h4) rfl ?_
  conv => whnf
  refine loop_op (I := fun m st => ∃ (q : Nat) (h : Heap), q ≤ 2 ^ s.looks.length ∧ m = 2 ^ s.looks.length - q ∧ Heap.at h 0 = v.blk ∧ Has st 37 [(1, .ptr 0 0), (4, .c (I (fewTo s q))), (5, .c (I q))] [] none h) ?_ (k := 2 ^ s.looks.length)
    ⟨0, _, Nat.zero_le _, rfl, rfl, rfl, ⟨rfl, rfl, rfl, trivial⟩, rfl, rfl, rfl, rfl⟩
  rintro m st ⟨q, h, hq, rfl, h0, hs1⟩ K1 hK1
  refine hs1.run (hm := false) ?_
  conv => whnf
  refine ⟨_, h0, ?_⟩
  conv => whnf
  refine .ret (every_ret hv h4) rfl ?_
  conv => whnf
  cases hc : decide ((q : Int) ≤ ((2 ^ s.looks.length - 1 : Nat) : Int))
  case true =>
    have hq2 : q < 2 ^ s.looks.length := by simp at hc; omega
    have hfl := fewTo_le s q (by omega)
    have hTq := truths72_ret hv hd (set := q) (by omega)
    rw [truthsR_eq hd] at hTq
    have hst := fewTo_succ s q
    unfold fewStep at hst
    conv => whnf
    refine .ret (size_ret (by omega)) rfl ?_
    conv => whnf
    refine .ret (size_ret (by omega)) rfl ?_
    conv => whnf
    cases c1 : decide ((pop q : Int) < (pop (fewTo s q) : Int))
    · rw [c1, Bool.false_and, if_neg (by simp)] at hst
      conv => whnf
      refine ⟨((q + 1 : Nat) : Int), by rw [wrap_eq (by omega) (by omega)]; omega, ?_⟩
      conv => whnf
      exact ⟨2 ^ s.looks.length - (q + 1), by omega, q + 1, h, hq2, rfl, h0, rfl, by rw [hst]; exact ⟨rfl, rfl, rfl, trivial⟩, rfl, rfl, rfl, rfl⟩
    rw [c1, Bool.true_and] at hst
    conv => whnf
    refine ⟨_, h0, ?_⟩
    conv => whnf
    refine .ret hTq rfl ?_
    conv => whnf
    rw [poss_len]
    cases c2 : possB s (onlyL s.looks q)
    · rw [c2, if_pos (by simp)] at hst
      conv => whnf
      refine ⟨((q + 1 : Nat) : Int), by rw [wrap_eq (by omega) (by omega)]; omega, ?_⟩
      conv => whnf
      exact ⟨2 ^ s.looks.length - (q + 1), by omega, q + 1, h, hq2, rfl, h0, rfl, by rw [hst]; exact ⟨rfl, rfl, rfl, trivial⟩, rfl, rfl, rfl, rfl⟩
    · rw [c2, if_neg (by simp)] at hst
      conv => whnf
      refine ⟨((q + 1 : Nat) : Int), by rw [wrap_eq (by omega) (by omega)]; omega, ?_⟩
      conv => whnf
      exact ⟨2 ^ s.looks.length - (q + 1), by omega, q + 1, h, hq2, rfl, h0, rfl, by rw [hst]; exact ⟨rfl, rfl, rfl, trivial⟩, rfl, rfl, rfl, rfl⟩
  have hqe : q = 2 ^ s.looks.length := by simp at hc; omega
  subst hK1
  rw [hqe, few_more s h4]
  conv => whnf
  exact .val
end Go.Ag
/- Layer 4: what is returned is the reference's: runs, and which looks clash: the law. -/
namespace Go.Ag
open Go.Proofs
set_option maxRecDepth 100000

set_option maxHeartbeats 4000000 in
theorem runsLaw_ret {v : SV} {s : Sd} (hv : v.Is s) (hA : Ret Try.prog 13 [] (B true)) (n : Int) : Ret Try.prog 4 [v.cv, I n] (B true) := by
  have a1 := begun_all hv n
  have a2 := ref21_ret hv n
  have b1 := over_ret hv n
  have b2 := ref23_ret hv n
  have c1 := late_ret hv n
  have c2 := ref25_ret hv n
  have d1 := clash_ret hv
  have d2 := ref27_ret hv
  obtain ⟨x1, y1, z1, h1⟩ := sp_ex (spR s (inB n 0 (s.runs.length - 1)) (spanM s (.begun n n)))
  obtain ⟨x2, y2, z2, h2⟩ := sp_ex (spR s (inB n 0 (s.runs.length - 1)) (spanM s (.past n n (bellOf s n.toNat))))
  rw [h1] at a1 a2
  rw [h2] at b1 b2
  generalize lateR s n = l at c1 c2
  generalize clashR s = c at d1 d2
  obtain ⟨l1, l2⟩ := l
  obtain ⟨c3, c4⟩ := c
  dsimp only at c1 c2 d1 d2
  refine ret_by (hm := true) Try.func4 rfl ?_
  conv => whnf
  refine .ret (far_ret hv) rfl ?_
  conv => whnf
  refine .ret a1 rfl ?_
  conv => whnf
  refine .ret a2 rfl ?_
  conv => whnf
  refine .ret b1 rfl ?_
  conv => whnf
  refine .ret b2 rfl ?_
  conv => whnf
  refine .ret c1 rfl ?_
  conv => whnf
  refine .ret c2 rfl ?_
  conv => whnf
  refine .ret d1 rfl ?_
  conv => whnf
  refine .ret d2 rfl ?_
  conv => whnf
  refine ⟨_, span_eql rfl rfl rfl _ _, ?_⟩
  conv => whnf
  rw [and_self_dec]
  conv => whnf
  rw [show (z1 == z1) = true by simp]
  conv => whnf
  refine ⟨_, span_eql rfl rfl rfl _ _, ?_⟩
  conv => whnf
  rw [and_self_dec]
  conv => whnf
  rw [show (z2 == z2) = true by simp]
  conv => whnf
  rw [show (l1 == l1) = true by simp]
  conv => whnf
  rw [show (l2 == l2) = true by simp]
  conv => whnf
  rw [show (c3 == c3) = true by simp]
  conv => whnf
  rw [show (c4 == c4) = true by simp]
  conv => whnf
  refine .ret hA rfl ?_
  conv => whnf
  exact .val
end Go.Ag
