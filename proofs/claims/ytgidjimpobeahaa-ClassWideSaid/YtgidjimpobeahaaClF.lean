/- The law ClassKeeps returns true for arguments that are not far too long. No conditions. -/
import Derived.Test.YtgidjimpobeahaaClE
/- Layer 6: the law ClassKeeps. -/
namespace Go.Ag
open Go.Proofs
set_option maxRecDepth 100000

theorem LV.Is.fl {v : LV} {c : Ln} (h : v.Is c) {k : Nat} {b : Bl} (hk : c.bales[k]? = some b) : readVarC Try.prog 3 v.sc (v.so + (k : Int).toNat * 3 + 0) = some (I b.f) := by
  rw [Int.toNat_natCast, rv3, sliceOf_get (h.row hk) (by omega)]; rfl
theorem LV.Is.lk {v : LV} {c : Ln} (h : v.Is c) {k : Nat} {b : Bl} (hk : c.bales[k]? = some b) : readVarC Try.prog 3 v.sc (v.so + (k : Int).toNat * 3 + 1) = some (I b.l) := by
  rw [Int.toNat_natCast, rv3, sliceOf_get (h.row hk) (by omega)]; rfl
theorem LV.Is.wg {v : LV} {c : Ln} (h : v.Is c) {k : Nat} {b : Bl} (hk : c.bales[k]? = some b) : readVarC Try.prog 3 v.sc (v.so + (k : Int).toNat * 3 + 2) = some (I b.w) := by
  rw [Int.toNat_natCast, rv3, sliceOf_get (h.row hk) (by omega)]; rfl
theorem sum_b {f : Nat → Int} {n : Nat} (h : ∀ i, i < n → 0 ≤ f i ∧ f i ≤ 30) : ∀ q, q ≤ n → 0 ≤ sumF' f q ∧ sumF' f q ≤ 30 * (q : Int)
  | 0, _ => by simp [sumF']
  | q + 1, hq => by have := sum_b h q (by omega); have := h q (by omega); simp only [sumF']; omega
set_option maxHeartbeats 8000000 in
theorem keepsLaw_ret {v : LV} {c : Ln} (h : v.IsS c) (hA : Ret Try.prog 11 [] (B true)) : Ret Try.prog 6 [v.cv c] (B true) := by
  have hv := h.toIs
  have e1 := hv.sn
  refine ret_then (hm := true) Try.func6 rfl ?_
  conv => whnf
  repeat (refine then_seq (hm := true) ?_; conv => whnf)
  refine .ret (fine_ret h) rfl ?_
  conv => whnf
  cases hd : validL c
  · conv => whnf
    refine .ret (hA) rfl ?_
    conv => whnf
    exact .val
  have hg := valid_good.1 hd
  have n6 := hg.n6
  have n1 := hg.n1
  conv => whnf
  repeat (refine then_seq (hm := true) ?_; conv => whnf)
  cases hc : canT c
  · have c1 := lineX_ret hv
    rw [no_kept hd hc] at c1
    have c2 := proofX_ret hv
    rw [no_prov hd hc] at c2
    have c3 := allX_ret hv
    rw [no_all hd hc] at c3
    dsimp only [pairI, pairS, spV] at c1 c2 c3
    refine .ret (c1) rfl ?_
    conv => whnf
    repeat (refine then_seq (hm := true) ?_; conv => whnf)
    refine .ret (c2) rfl ?_
    conv => whnf
    repeat (refine then_seq (hm := true) ?_; conv => whnf)
    refine .ret (c3) rfl ?_
    conv => whnf
    repeat (refine then_seq (hm := true) ?_; conv => whnf)
    refine ⟨_, span_eql rfl rfl rfl _ _, ?_⟩
    conv => whnf
    refine .ret (hA) rfl ?_
    conv => whnf
    exact .val
  obtain ⟨t, p, e, x, y, K⟩ := keeps_is hd hc
  have c1 := lineX_ret hv
  rw [K.kept] at c1
  have c2 := proofX_ret hv
  rw [K.prov] at c2
  have c3 := allX_ret hv
  rw [K.all] at c3
  dsimp only [pairI, pairS, spV] at c1 c2 c3
  refine .ret (c1) rfl ?_
  conv => whnf
  repeat (refine then_seq (hm := true) ?_; conv => whnf)
  refine .ret (c2) rfl ?_
  conv => whnf
  repeat (refine then_seq (hm := true) ?_; conv => whnf)
  refine .ret (c3) rfl ?_
  conv => whnf
  refine then_seq (hm := true) ?_
  conv => whnf
  refine then_via (hm := true) (fun st => ∃ h : Heap, Heap.at h 0 = v.blk c ∧ Heap.at h 1 = spB2 (x, y) ∧ 2 ≤ h.n ∧ Has st 233 [(1, .ptr 0 0), (3, .c (I t)), (5, .c (I p)), (6, .c (I e)), (7, .ptr 1 0), (80, .c (B false))] [] none h) ?_ ?_
  · conv => whnf
    by_cases he : e = 0
    · subst he
      conv => whnf
      exact ⟨_, rfl, rfl, Nat.le_refl 2, rfl, ⟨rfl, rfl, rfl, rfl, rfl, rfl, trivial⟩, rfl, rfl, rfl, rfl⟩
    · obtain ⟨rfl, rfl⟩ := K.e2 he
      conv => whnf
      exact ⟨_, rfl, rfl, Nat.le_refl 2, rfl, ⟨rfl, rfl, rfl, rfl, rfl, rfl, trivial⟩, rfl, rfl, rfl, rfl⟩
  rintro st ⟨g, g0, g1, gn, hs⟩
  refine hs.then ?_
  conv => whnf
  repeat (refine then_seq (hm := false) ?_; conv => whnf)
  refine ⟨_, g0, ?_⟩
  conv => whnf
  have hall : ∀ i, ∃ s : Int × Int × Int, i < c.bales.length → BaIs c i s.1 s.2.1 s.2.2 := fun i => by
    by_cases hi : i < c.bales.length
    · obtain ⟨a, b, k, hB⟩ := ba_is hd hc hi
      exact ⟨(a, b, k), fun _ => hB⟩
    · exact ⟨(0, 0, 0), fun h => absurd h hi⟩
  obtain ⟨F, hF⟩ := Classical.skolem.1 hall
  obtain ⟨lo, hlo⟩ : ∃ lo : Nat → Int, ∀ i, lo i = (F i).1 := ⟨_, fun _ => rfl⟩
  obtain ⟨hi', hhi⟩ : ∃ hi : Nat → Int, ∀ i, hi i = (F i).2.1 := ⟨_, fun _ => rfl⟩
  have hB : ∀ i, i < c.bales.length → ∃ k, BaIs c i (lo i) (hi' i) k := fun i hi => ⟨_, by rw [hlo, hhi]; exact hF i hi⟩
  have b1 : ∀ i, i < c.bales.length → 0 ≤ lo i ∧ lo i ≤ 30 := fun i hi => by obtain ⟨k, h⟩ := hB i hi; have := h.a0; have := h.ab; have := h.b30; omega
  have b2 : ∀ i, i < c.bales.length → 0 ≤ hi' i ∧ hi' i ≤ 30 := fun i hi => by obtain ⟨k, h⟩ := hB i hi; have := h.a0; have := h.ab; have := h.b30; omega
  refine loop_by (I := fun n st => ∃ (q : Nat) (f : Heap), q ≤ c.bales.length ∧ n = c.bales.length - q ∧ Heap.at f 0 = v.blk c ∧ Heap.at f 1 = spB2 (x, y) ∧ 2 ≤ f.n ∧
    Has st 233 [(1, .ptr 0 0), (3, .c (I t)), (5, .c (I p)), (6, .c (I e)), (7, .ptr 1 0), (9, .c (I (prf c q))), (10, .c (B (keptA c q))), (11, .c (I (sumF' lo q))), (12, .c (I (sumF' hi' q))), (83, .c (I v.sn)), (84, .c (I q))] [] none f) ?_ (k := c.bales.length)
    ⟨0, _, Nat.zero_le _, rfl, g0, g1, gn, rfl, ⟨rfl, rfl, rfl, rfl, rfl, rfl, rfl, rfl, rfl, rfl, rfl, trivial⟩, rfl, rfl, rfl, rfl⟩
  rintro n st ⟨q, f, hq, rfl, f0, f1, fn, hs2⟩
  refine hs2.run (hm := false) ?_
  conv => whnf
  cases hcq : decide ((q : Int) < (v.sn : Int))
  case false =>
    have : q = c.bales.length := by simp at hcq; omega
    subst this
    have K1 := K.lo lo fun i hi => by obtain ⟨k, h⟩ := hB i hi; exact ⟨_, _, h⟩
    have K2 := K.hi hi' fun i hi => by obtain ⟨k, h⟩ := hB i hi; exact ⟨_, _, h⟩
    have K3 := K.e0; have K4 := K.tk; have K5 := K.tp; have K6 := K.e1
    have K7 := K.t0; have K8 := K.t2; have K9 := K.xy
    generalize sumF' lo c.bales.length = sl at *
    generalize sumF' hi' c.bales.length = sh at *
    generalize keptA c c.bales.length = ka at *
    generalize prf c c.bales.length = P at *
    conv => whnf
    refine then_via (hm := false) (fun st => ∃ g : Heap, Heap.at g 0 = v.blk c ∧ Heap.at g 1 = spB2 (x, y) ∧ 2 ≤ g.n ∧ Has st 233 [(1, .ptr 0 0), (3, .c (I t)), (7, .ptr 1 0), (11, .c (I sl)), (12, .c (I sh))] [] none g) ?_ ?_
    · conv => whnf
      refine ⟨_, bool_neq rfl rfl rfl _ _, ?_⟩
      conv => whnf
      rw [show ((e == 0) != decide (P ≥ 0)) = false by rw [K3]; simp]
      cases he : (e == 0)
      · rw [he] at K3
        have hP : ¬ P ≥ 0 := of_decide_eq_false K3.symm
        conv => whnf
        rw [he]
        conv => whnf
        refine ⟨_, bool_neq rfl rfl rfl _ _, ?_⟩
        conv => whnf
        rw [show ((t == 2) != ka) = false by rw [K4]; simp]
        conv => whnf
        rw [decide_eq_false hP]
        conv => whnf
        exact ⟨_, f0, f1, fn, rfl, ⟨rfl, rfl, rfl, rfl, rfl, trivial⟩, rfl, rfl, rfl, rfl⟩
      · rw [he] at K3
        have hP : P ≥ 0 := of_decide_eq_true K3.symm
        conv => whnf
        rw [he]
        conv => whnf
        rw [show (p != P) = false by rw [K6 (by simpa using he)]; simp]
        conv => whnf
        refine ⟨_, bool_neq rfl rfl rfl _ _, ?_⟩
        conv => whnf
        rw [show ((t == 2) != ka) = false by rw [K4]; simp]
        conv => whnf
        rw [decide_eq_true hP]
        conv => whnf
        rw [show (t != 0) = false by rw [K5 hP]; rfl]
        conv => whnf
        exact ⟨_, f0, f1, fn, rfl, ⟨rfl, rfl, rfl, rfl, rfl, trivial⟩, rfl, rfl, rfl, rfl⟩
    rintro st ⟨g, g0, g1, gn, hs⟩
    refine hs.then ?_
    conv => whnf
    repeat (refine then_seq (hm := false) ?_; conv => whnf)
    rw [decide_eq_true (show t ≥ 0 by omega)]
    conv => whnf
    rw [decide_eq_true (show t ≤ 2 by omega)]
    conv => whnf
    refine ⟨_, g1, ?_⟩
    conv => whnf
    rw [decide_eq_true (show (x : Int) ≥ sl by omega)]
    conv => whnf
    refine ⟨_, g1, ?_⟩
    conv => whnf
    rw [decide_eq_true (show (y : Int) ≤ sh by omega)]
    conv => whnf
    refine ⟨_, g1, ?_⟩
    conv => whnf
    refine ⟨_, g1, ?_⟩
    conv => whnf
    rw [decide_eq_true (show (x : Int) ≤ (y : Int) by omega)]
    conv => whnf
    refine .ret (hA) rfl ?_
    conv => whnf
    refine then_end (hm := false) ?_
    conv => whnf
    exact .val
  have hq : q < c.bales.length := by simp at hcq; omega
  obtain ⟨k, hBq⟩ := hB q hq
  have w1 := wrongX_ret hv (q : Int)
  rw [hBq.wr] at w1
  have w2 := keepsX_ret hv (q : Int)
  rw [hBq.kp] at w2
  dsimp only [pairI, pairS, spV] at w1 w2
  conv => whnf
  refine ⟨_, f0, ?_⟩
  conv => whnf
  refine .ret (w1) rfl ?_
  conv => whnf
  refine ⟨_, at_push_self _ _, ?_⟩
  conv => whnf
  generalize hG : TMap.set AB.dead (TMap.push AB.dead f _) _ _ = G
  have Gn : G.n = f.n + 1 := by rw [← hG]; exact new_n _ _ _
  have Ga : ∀ i, i < f.n → Heap.at G i = Heap.at f i := fun i hi => by rw [← hG]; exact at_old _ _ _ hi
  have Gr : Heap.at G f.n = .blk [.c (I (lo q)), .c (I (hi' q))] := by rw [← hG]; exact at_new _ _ _
  clear hG
  have G0 := (Ga 0 (by omega)).trans f0
  have G1 := (Ga 1 (by omega)).trans f1
  refine ⟨_, G0, ?_⟩
  conv => whnf
  refine .ret (w2) rfl ?_
  conv => whnf
  have A0 := hBq.a0; have A1 := hBq.ab; have A2 := hBq.bf; have A3 := hBq.b30; have A4 := hBq.k2; have A5 := hBq.k0; have A6 := hBq.kb
  refine draw_by (hm := false) (by kernel_rfl) (by kernel_rfl) ?_
  conv => whnf
  refine ⟨_, Gr, ?_⟩
  conv => whnf
  rw [decide_eq_false (show ¬ lo q < 0 by omega)]
  conv => whnf
  refine ⟨_, Gr, ?_⟩
  conv => whnf
  refine ⟨_, Gr, ?_⟩
  conv => whnf
  rw [decide_eq_false (show ¬ lo q > hi' q by omega)]
  conv => whnf
  refine ⟨_, Gr, ?_⟩
  conv => whnf
  refine ⟨_, G0, ?_⟩
  conv => whnf
  refine ⟨⟨by omega, by omega⟩, ?_⟩
  conv => whnf
  refine ⟨_, hv.fl (bale_get hq), ?_⟩
  conv => whnf
  rw [decide_eq_false (show ¬ hi' q > (baleAt c q).f by omega)]
  conv => whnf
  refine ⟨_, Gr, ?_⟩
  conv => whnf
  refine ⟨_, G0, ?_⟩
  conv => whnf
  rw [show ((k == 2) == decide (hi' q ≤ c.may)) = true by rw [A4]; simp]
  conv => whnf
  refine ⟨_, Gr, ?_⟩
  conv => whnf
  refine ⟨_, G0, ?_⟩
  conv => whnf
  rw [show ((k == 0) == decide (lo q > c.may)) = true by rw [A5]; simp]
  conv => whnf
  rw [decide_eq_false (show ¬ k < 0 by omega)]
  conv => whnf
  rw [decide_eq_false (show ¬ k > 2 by omega)]
  conv => whnf
  refine ⟨by kernel_rfl, ?_⟩
  conv => whnf
  have B1 := sum_b b1 q (by omega)
  have B2 := sum_b b2 q (by omega)
  have hP := hBq.pr
  have hsucc := prf_succ c q
  have hka := keptA_succ c q
  rw [hBq.kn] at hka
  have hpb := prf_b c q
  cases hk0 : (k == 0)
  · have hs2 : prf c (q + 1) = prf c q := by rw [hsucc, if_neg]; rw [hP, ← A5, hk0]; simp
    conv => whnf
    cases hkq : keptA c q
    · have hk1 : keptA c (q + 1) = false := by rw [hka, hkq]; rfl
      conv => whnf
      refine draw_by (hm := false) (by kernel_rfl) (by kernel_rfl) ?_
      conv => whnf
      refine ⟨_, Gr, ?_⟩
      conv => whnf
      refine ⟨sumF' lo q + lo q, by rw [wrap_eq (by omega) (by omega)], ?_⟩
      conv => whnf
      refine ⟨_, Gr, ?_⟩
      conv => whnf
      refine ⟨sumF' hi' q + hi' q, by rw [wrap_eq (by omega) (by omega)], ?_⟩
      conv => whnf
      refine ⟨by kernel_rfl, ?_⟩
      conv => whnf
      refine ⟨((q + 1 : Nat) : Int), by rw [wrap_eq (by omega) (by omega)]; omega, ?_⟩
      conv => whnf
      exact ⟨c.bales.length - (q + 1), by omega, q + 1, G, by omega, rfl, G0, G1, by omega, rfl, ⟨rfl, rfl, rfl, rfl, rfl, by rw [hs2]; rfl, by rw [hk1]; rfl, rfl, rfl, rfl, rfl, trivial⟩, rfl, rfl, rfl, rfl⟩
    · have hk1 : keptA c (q + 1) = (k == 2) := by rw [hka, hkq]; rfl
      conv => whnf
      refine draw_by (hm := false) (by kernel_rfl) (by kernel_rfl) ?_
      conv => whnf
      refine ⟨_, Gr, ?_⟩
      conv => whnf
      refine ⟨sumF' lo q + lo q, by rw [wrap_eq (by omega) (by omega)], ?_⟩
      conv => whnf
      refine ⟨_, Gr, ?_⟩
      conv => whnf
      refine ⟨sumF' hi' q + hi' q, by rw [wrap_eq (by omega) (by omega)], ?_⟩
      conv => whnf
      refine ⟨by kernel_rfl, ?_⟩
      conv => whnf
      refine ⟨((q + 1 : Nat) : Int), by rw [wrap_eq (by omega) (by omega)]; omega, ?_⟩
      conv => whnf
      exact ⟨c.bales.length - (q + 1), by omega, q + 1, G, by omega, rfl, G0, G1, by omega, rfl, ⟨rfl, rfl, rfl, rfl, rfl, by rw [hs2]; rfl, by rw [hk1]; rfl, rfl, rfl, rfl, rfl, trivial⟩, rfl, rfl, rfl, rfl⟩
  · have hpp : provP c q = true := by rw [hP, ← A5, hk0]
    conv => whnf
    cases hlt : decide (prf c q < 0)
    · have hs2 : prf c (q + 1) = prf c q := by rw [hsucc, if_neg]; have := of_decide_eq_false hlt; omega
      conv => whnf
      cases hkq : keptA c q
      · have hk1 : keptA c (q + 1) = false := by rw [hka, hkq]; rfl
        conv => whnf
        refine draw_by (hm := false) (by kernel_rfl) (by kernel_rfl) ?_
        conv => whnf
        refine ⟨_, Gr, ?_⟩
        conv => whnf
        refine ⟨sumF' lo q + lo q, by rw [wrap_eq (by omega) (by omega)], ?_⟩
        conv => whnf
        refine ⟨_, Gr, ?_⟩
        conv => whnf
        refine ⟨sumF' hi' q + hi' q, by rw [wrap_eq (by omega) (by omega)], ?_⟩
        conv => whnf
        refine ⟨by kernel_rfl, ?_⟩
        conv => whnf
        refine ⟨((q + 1 : Nat) : Int), by rw [wrap_eq (by omega) (by omega)]; omega, ?_⟩
        conv => whnf
        exact ⟨c.bales.length - (q + 1), by omega, q + 1, G, by omega, rfl, G0, G1, by omega, rfl, ⟨rfl, rfl, rfl, rfl, rfl, by rw [hs2]; rfl, by rw [hk1]; rfl, rfl, rfl, rfl, rfl, trivial⟩, rfl, rfl, rfl, rfl⟩
      · have hk1 : keptA c (q + 1) = (k == 2) := by rw [hka, hkq]; rfl
        conv => whnf
        refine draw_by (hm := false) (by kernel_rfl) (by kernel_rfl) ?_
        conv => whnf
        refine ⟨_, Gr, ?_⟩
        conv => whnf
        refine ⟨sumF' lo q + lo q, by rw [wrap_eq (by omega) (by omega)], ?_⟩
        conv => whnf
        refine ⟨_, Gr, ?_⟩
        conv => whnf
        refine ⟨sumF' hi' q + hi' q, by rw [wrap_eq (by omega) (by omega)], ?_⟩
        conv => whnf
        refine ⟨by kernel_rfl, ?_⟩
        conv => whnf
        refine ⟨((q + 1 : Nat) : Int), by rw [wrap_eq (by omega) (by omega)]; omega, ?_⟩
        conv => whnf
        exact ⟨c.bales.length - (q + 1), by omega, q + 1, G, by omega, rfl, G0, G1, by omega, rfl, ⟨rfl, rfl, rfl, rfl, rfl, by rw [hs2]; rfl, by rw [hk1]; rfl, rfl, rfl, rfl, rfl, trivial⟩, rfl, rfl, rfl, rfl⟩
    · have hs2 : prf c (q + 1) = (q : Nat) := by rw [hsucc, if_pos ⟨hpp, of_decide_eq_true hlt⟩]
      conv => whnf
      cases hkq : keptA c q
      · have hk1 : keptA c (q + 1) = false := by rw [hka, hkq]; rfl
        conv => whnf
        refine draw_by (hm := false) (by kernel_rfl) (by kernel_rfl) ?_
        conv => whnf
        refine ⟨_, Gr, ?_⟩
        conv => whnf
        refine ⟨sumF' lo q + lo q, by rw [wrap_eq (by omega) (by omega)], ?_⟩
        conv => whnf
        refine ⟨_, Gr, ?_⟩
        conv => whnf
        refine ⟨sumF' hi' q + hi' q, by rw [wrap_eq (by omega) (by omega)], ?_⟩
        conv => whnf
        refine ⟨by kernel_rfl, ?_⟩
        conv => whnf
        refine ⟨((q + 1 : Nat) : Int), by rw [wrap_eq (by omega) (by omega)]; omega, ?_⟩
        conv => whnf
        exact ⟨c.bales.length - (q + 1), by omega, q + 1, G, by omega, rfl, G0, G1, by omega, rfl, ⟨rfl, rfl, rfl, rfl, rfl, by rw [hs2]; rfl, by rw [hk1]; rfl, rfl, rfl, rfl, rfl, trivial⟩, rfl, rfl, rfl, rfl⟩
      · have hk1 : keptA c (q + 1) = (k == 2) := by rw [hka, hkq]; rfl
        conv => whnf
        refine draw_by (hm := false) (by kernel_rfl) (by kernel_rfl) ?_
        conv => whnf
        refine ⟨_, Gr, ?_⟩
        conv => whnf
        refine ⟨sumF' lo q + lo q, by rw [wrap_eq (by omega) (by omega)], ?_⟩
        conv => whnf
        refine ⟨_, Gr, ?_⟩
        conv => whnf
        refine ⟨sumF' hi' q + hi' q, by rw [wrap_eq (by omega) (by omega)], ?_⟩
        conv => whnf
        refine ⟨by kernel_rfl, ?_⟩
        conv => whnf
        refine ⟨((q + 1 : Nat) : Int), by rw [wrap_eq (by omega) (by omega)]; omega, ?_⟩
        conv => whnf
        exact ⟨c.bales.length - (q + 1), by omega, q + 1, G, by omega, rfl, G0, G1, by omega, rfl, ⟨rfl, rfl, rfl, rfl, rfl, by rw [hs2]; rfl, by rw [hk1]; rfl, rfl, rfl, rfl, rfl, trivial⟩, rfl, rfl, rfl, rfl⟩
end Go.Ag
