/- The law BurrWays returns true for arguments that are not far too long. No conditions. -/
import Derived.Test.YtbiamnobiechmaaGreatBuB
/- Layer 7: the law BurrWays. -/
namespace Go.Ag
open Go.Proofs
set_option maxRecDepth 100000

theorem tidy_all {t : Nat} {l : List (Nat × Nat)} : tidyN t l = l.length ↔ ∀ y ∈ l, y.2 &&& t = 0 := by
  unfold tidyN
  rw [List.length_filter_eq_length_iff]
  simp only [beq_iff_eq]
theorem tidy_none {t : Nat} {l : List (Nat × Nat)} : tidyN t l = 0 ↔ ¬ ∃ y ∈ l, y.2 &&& t = 0 := by
  unfold tidyN
  rw [List.length_eq_zero_iff, List.filter_eq_nil_iff]
  simp only [beq_iff_eq]
  exact ⟨fun h ⟨y, h1, h2⟩ => h y h1 h2, fun h y h1 h2 => h ⟨y, h1, h2⟩⟩
theorem must_tidy {d : Bn} (hd : d.Good) : mustB d = true ↔ tidyN d.top (truthsL d) = (truthsL d).length := by
  rw [must_tr hd, tidy_all]
  exact ⟨fun h y hy => h y.1 y.2 (mem_of.1 hy), fun h m x hx => h (m, x) (mem_of.2 hx)⟩
theorem ever_tidy {d : Bn} (hd : d.Good) : everB d = false ↔ tidyN d.top (truthsL d) = 0 := by
  rw [tidy_none, ← Bool.not_eq_true, ever_tr hd]
  refine not_congr ⟨fun ⟨m, x, h1, h2⟩ => ⟨(m, x), mem_of.2 h1, h2⟩, fun ⟨y, h1, h2⟩ => ⟨y.1, y.2, mem_of.1 h1, h2⟩⟩
theorem must_ever {d : Bn} (hd : d.Good) (hc : canB d = true) (h : mustB d = true) : everB d = true := by
  obtain ⟨m, x, hx⟩ := (can_tr hd).1 hc
  exact (ever_tr hd).2 ⟨m, x, hx, (must_tr hd).1 h m x hx⟩
theorem clean_2 {d : Bn} (hd : d.Good) : (cleanN d == 2) = (((tidyN d.top (truthsL d) : Nat) : Int) == (((truthsL d).length : Nat) : Int)) := by
  have h := must_tidy hd
  rw [Bool.eq_iff_iff, beq_iff_eq, beq_iff_eq]
  unfold cleanN sureN
  cases hm : mustB d
  · rw [hm] at h
    rw [if_neg (by simp)]
    constructor
    · split <;> intro e <;> omega
    · intro e; have := h.2 (by omega); cases this
  · rw [if_pos rfl]
    have := h.1 hm
    exact ⟨fun _ => by omega, fun _ => rfl⟩
theorem clean_0 {d : Bn} (hd : d.Good) (hc : canB d = true) : (cleanN d == 0) = (((tidyN d.top (truthsL d) : Nat) : Int) == 0) := by
  have h := ever_tidy hd
  have hme := must_ever hd hc
  rw [Bool.eq_iff_iff, beq_iff_eq, beq_iff_eq]
  unfold cleanN sureN
  cases hm : mustB d
  · rw [if_neg (by simp)]
    cases he : everB d
    · rw [if_neg (by simp)]
      have := h.1 he
      exact ⟨fun _ => by omega, fun _ => rfl⟩
    · rw [if_pos rfl]
      refine ⟨fun e => by omega, fun e => ?_⟩
      have := h.2 (by omega)
      rw [he] at this; cases this
  · rw [if_pos rfl]
    have he := hme hm
    rw [he] at h
    refine ⟨fun e => by omega, fun e => ?_⟩
    have := h.2 (by omega); cases this
theorem clean_b (d : Bn) : 0 ≤ cleanN d ∧ cleanN d ≤ 2 := by
  unfold cleanN sureN
  split
  · omega
  · split <;> omega
theorem mobs_ways {d : Bn} (hd : d.Good) (hc : canB d = true) : andI ((truthsL d).map (·.1)) = ((mobsB d).s : Nat) ∧ orI ((truthsL d).map (·.1)) = ((mobsB d).p : Nat) := by
  have hne := truths_ne hd hc
  rw [mobs_join hd hc]
  unfold andI orI
  rw [if_neg (by simpa using hne), List.map_map]
  exact ⟨rfl, rfl⟩
theorem bales_ways {d : Bn} (hd : d.Good) (hc : canB d = true) : andI ((truthsL d).map (·.2)) = ((balesB d).s : Nat) ∧ orI ((truthsL d).map (·.2)) = ((balesB d).p : Nat) := by
  have hne := truths_ne hd hc
  rw [bales_join hd hc]
  unfold andI orI
  rw [if_neg (by simpa using hne), List.map_map]
  exact ⟨rfl, rfl⟩
set_option maxHeartbeats 8000000 in
theorem waysLaw_ret {v : BV} {c : Bu} (h : v.IsS c) (hA : Ret Tryz.prog 13 [] (B true)) : Ret Tryz.prog 7 [v.cv c] (B true) := by
  have hv := h.toIs
  refine ret_then (hm := true) Tryz.func7 rfl ?_
  conv => whnf
  repeat (refine then_seq (hm := true) ?_; conv => whnf)
  refine .ret (h.far) rfl ?_
  conv => whnf
  repeat (refine then_seq (hm := true) ?_; conv => whnf)
  cases hval : validB c
  · have r1 := countX_bad hv hval
    have r2 := mobsX_bad hv hval
    have r3 := balesX_bad hv hval
    have r4 := cleanX_bad hv hval
    have r5 := pureX_bad hv hval
    have r6 := ref_ret hv
    rw [hval] at r6
    dsimp only [tup3] at r2 r3
    refine .ret (r1) rfl ?_
    conv => whnf
    repeat (refine then_seq (hm := true) ?_; conv => whnf)
    refine .ret (r2) rfl ?_
    conv => whnf
    repeat (refine then_seq (hm := true) ?_; conv => whnf)
    refine .ret (r3) rfl ?_
    conv => whnf
    repeat (refine then_seq (hm := true) ?_; conv => whnf)
    refine .ret (r4) rfl ?_
    conv => whnf
    repeat (refine then_seq (hm := true) ?_; conv => whnf)
    refine .ret (r5) rfl ?_
    conv => whnf
    repeat (refine then_seq (hm := true) ?_; conv => whnf)
    refine .ret (r6) rfl ?_
    conv => whnf
    repeat (refine then_seq (hm := true) ?_; conv => whnf)
    refine .ret (hA) rfl ?_
    conv => whnf
    exact .val
  obtain ⟨d, hd, h6, rfl⟩ := (valid_iff hv.rg).1 hval
  have r1 := countX_ret hv hd h6
  have r2 := mobsX_ret hv hd h6
  have r3 := balesX_ret hv hd h6
  have r4 := cleanX_ret hv hd h6
  have r5 := pureX_ret hv hd h6
  have r6 := ref_ret hv
  rw [hval] at r6
  have hcn := can_count hd
  have hce := count_eq hd
  unfold orO erO at r4 r5
  have hgo : ∀ {K : AEnd → Heap → Prop} {hh : Heap}, WS v d [] hh → (∀ H, WS v d (truthsL d) H → K (.ret (.c (.tuple []))) H) → CallW Tryz.prog 39 [.c (v.cv d.bu), waysF] hh K := fun e k => callW_ex (every_ways hv hd e) (fun ex H q => by
    obtain ⟨rfl, eH, _⟩ := q
    exact k H eH)
  cases hcan : canB d
  · have hn0 : countN d = 0 := by
      rw [hcan] at hcn
      have := of_decide_eq_false hcn.symm; omega
    rw [hcan] at r2 r3 r4 r5
    rw [hn0] at r1
    simp only [Bool.false_eq_true, if_false, ansI, tup3] at r2 r3 r4 r5
    refine .ret (r1) rfl ?_
    conv => whnf
    repeat (refine then_seq (hm := true) ?_; conv => whnf)
    refine .ret (r2) rfl ?_
    conv => whnf
    repeat (refine then_seq (hm := true) ?_; conv => whnf)
    refine .ret (r3) rfl ?_
    conv => whnf
    repeat (refine then_seq (hm := true) ?_; conv => whnf)
    refine .ret (r4) rfl ?_
    conv => whnf
    repeat (refine then_seq (hm := true) ?_; conv => whnf)
    refine .ret (r5) rfl ?_
    conv => whnf
    repeat (refine then_seq (hm := true) ?_; conv => whnf)
    refine .ret (r6) rfl ?_
    conv => whnf
    repeat (refine then_seq (hm := true) ?_; conv => whnf)
    refine hgo ⟨rfl, rfl, rfl, rfl, by kernel_rfl, Nat.le_refl 5⟩ ?_
    intro H eH
    have B1 : Heap.at H 1 = .blk [.c (I ((0 : Nat) : Int))] := by have := eH.b1; rwa [← hce, hn0] at this
    conv => whnf
    repeat (refine then_seq (hm := false) ?_; conv => whnf)
    refine ⟨_, B1, ?_⟩
    conv => whnf
    refine ⟨_, B1, ?_⟩
    conv => whnf
    refine ⟨_, bool_neq rfl rfl rfl _ _, ?_⟩
    conv => whnf
    repeat (refine then_seq (hm := false) ?_; conv => whnf)
    refine .ret (hA) rfl ?_
    conv => whnf
    exact .val
  · have hn1 : countN d > 0 := by
      rw [hcan] at hcn
      exact of_decide_eq_true hcn.symm
    rw [hcan] at r2 r3 r4 r5
    simp only [if_true, ansI, tup3] at r2 r3 r4 r5
    obtain ⟨w1, w2⟩ := mobs_ways hd hcan
    obtain ⟨w3, w4⟩ := bales_ways hd hcan
    have y2 := clean_2 hd
    have y0 := clean_0 hd hcan
    obtain ⟨yb0, yb2⟩ := clean_b d
    have hbL := balesB_Lt hd
    have htop := top_lt hd
    refine .ret (r1) rfl ?_
    conv => whnf
    repeat (refine then_seq (hm := true) ?_; conv => whnf)
    refine .ret (r2) rfl ?_
    conv => whnf
    repeat (refine then_seq (hm := true) ?_; conv => whnf)
    refine .ret (r3) rfl ?_
    conv => whnf
    repeat (refine then_seq (hm := true) ?_; conv => whnf)
    refine .ret (r4) rfl ?_
    conv => whnf
    repeat (refine then_seq (hm := true) ?_; conv => whnf)
    refine .ret (r5) rfl ?_
    conv => whnf
    repeat (refine then_seq (hm := true) ?_; conv => whnf)
    refine .ret (r6) rfl ?_
    conv => whnf
    repeat (refine then_seq (hm := true) ?_; conv => whnf)
    refine hgo ⟨rfl, rfl, rfl, rfl, by kernel_rfl, Nat.le_refl 5⟩ ?_
    intro H eH
    have B0 := eH.b0
    have B1 : Heap.at H 1 = .blk [.c (I (countN d : Nat))] := by have := eH.b1; rwa [← hce] at this
    have B2 := eH.b2
    have B3 : Heap.at H 3 = .blk [.c (I (mobsB d).s), .c (I (mobsB d).p)] := by have := eH.b3; rwa [w1, w2] at this
    have B4 : Heap.at H 4 = .blk [.c (I (balesB d).s), .c (I (balesB d).p)] := by have := eH.b4; rwa [w3, w4] at this
    rw [← hce] at y2
    generalize tidyN d.top (truthsL d) = T at *
    generalize cleanN d = C at *
    generalize balesB d = bb at *
    generalize mobsB d = mm at *
    generalize hN : countN d = N at *
    have hb1 := hbL.s; have hb2 := hbL.p
    conv => whnf
    repeat (refine then_seq (hm := false) ?_; conv => whnf)
    refine ⟨_, B1, ?_⟩
    conv => whnf
    rw [show ((N : Int) != (N : Int)) = false by simp]
    conv => whnf
    refine ⟨_, B1, ?_⟩
    conv => whnf
    rw [decide_eq_true (show (N : Int) > 0 by omega)]
    conv => whnf
    refine ⟨_, bool_neq rfl rfl rfl _ _, ?_⟩
    conv => whnf
    repeat (refine then_seq (hm := false) ?_; conv => whnf)
    refine ⟨_, B3, ?_⟩
    conv => whnf
    refine ⟨_, two_eql rfl rfl rfl _ _, ?_⟩
    conv => whnf
    rw [decide_eq_true rfl, decide_eq_true rfl]
    conv => whnf
    refine ⟨_, B4, ?_⟩
    conv => whnf
    refine ⟨_, two_eql rfl rfl rfl _ _, ?_⟩
    conv => whnf
    rw [decide_eq_true rfl, decide_eq_true rfl]
    conv => whnf
    refine ⟨_, B2, ?_⟩
    conv => whnf
    refine ⟨_, B1, ?_⟩
    conv => whnf
    refine ⟨_, bool_eql rfl rfl rfl _ _, ?_⟩
    conv => whnf
    rw [y2, show (((T : Int) == (N : Int)) == ((T : Int) == (N : Int))) = true by simp]
    conv => whnf
    refine ⟨_, B2, ?_⟩
    conv => whnf
    refine ⟨_, bool_eql rfl rfl rfl _ _, ?_⟩
    conv => whnf
    rw [y0, show (((T : Int) == 0) == ((T : Int) == 0)) = true by simp]
    conv => whnf
    rw [decide_eq_true (show C ≥ 0 by omega)]
    conv => whnf
    rw [decide_eq_true (show C ≤ 2 by omega)]
    conv => whnf
    refine ⟨_, B0, ?_⟩
    conv => whnf
    refine ⟨((diffN d.top bb.p : Nat) : Int), andNot_nat (a := d.top) (b := bb.p) (by omega) (by omega), ?_⟩
    conv => whnf
    rw [show (((diffN d.top bb.p : Nat) : Int) == ((diffN d.top bb.p : Nat) : Int)) = true by simp]
    conv => whnf
    refine .ret (hA) rfl ?_
    conv => whnf
    refine then_end (hm := false) ?_
    conv => whnf
    exact .val
end Go.Ag
