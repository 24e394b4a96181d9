/- The law DryEnds returns true for arguments that are not far too long. No conditions. -/
import Derived.Test.YthoappjepbaocaaDrG
/- Layer 2: the law DryEnds. -/
namespace Go.Ag
open Go.Proofs
set_option maxRecDepth 100000
set_option maxHeartbeats 2000000

theorem far_short {v : DV} {d : Dr} (hv : v.Is d) : Ret Try.prog 34 [v.cv] (B false) := far_ret hv
theorem inside_ret (n a b : Int) : Ret Try.prog 32 [I n, .agg [I a, I b]] (B (decide (a ≤ n) && decide (n ≤ b))) := by
  refine ret_by (hm := true) Try.func32 rfl ?_
  conv => whnf
  cases h1 : decide (a ≤ n)
  · conv => whnf
    exact .val
  · conv => whnf
    cases h2 : decide (n ≤ b)
    · conv => whnf
      exact .val
    · conv => whnf
      exact .val
theorem mkspan_ret (a b : Int) : Ret Try.prog 37 [I a, I b] (.agg [I a, I b]) := by
  refine ret_by (hm := true) Try.func37 rfl ?_
  conv => whnf
  exact .val

theorem ends_ret {v : DV} {d : Dr} (hv : v.Is d) (hA : Ret Try.prog 13 [] (B true)) (w : Nat) (hw : w < 256) : Ret Try.prog 6 [v.cv, .lit (.int .u8 w)] (B true) := by
  have e1 := hv.pn; have e0 := hv.mn; have e2 := hv.lim; have e3 := hv.short
  refine ret_by (hm := true) Try.func6 rfl ?_
  conv => whnf
  refine .ret (far_ret hv) rfl ?_
  conv => whnf
  refine .ret (dry_ret hv) rfl ?_
  conv => whnf
  cases hd : validB d
  · have ha := allOf2_ret hv
    have hc := clash_ret hv
    have xa : allR d = ((0, 0), 1) := by unfold allR; rw [hd]; rfl
    have xc : clashR d = (0, 1) := by unfold clashR; rw [hd]; rfl
    rw [xa] at ha
    rw [xc] at hc
    conv => whnf
    refine .ret ha rfl ?_
    conv => whnf
    refine .ret hc rfl ?_
    conv => whnf
    refine plain_val (span_eql rfl rfl rfl _ _) ?_
    conv => whnf
    refine .ret hA rfl ?_
    conv => whnf
    exact .val
  obtain ⟨s1, s2, s3, s4, s5, s6⟩ := valid_sizes hd
  conv => whnf
  refine draw_by (hm := true) (by kernel_rfl) (by kernel_rfl) ?_
  conv => whnf
  refine dplain_val (rem_to (a := IntKind.i64.wrap w) (b := v.pn) ((w % v.pn : Nat) : Int) rfl rfl rfl (by omega) (rem_nat hw _) _ _) ?_
  conv => whnf
  refine dplain_val (rem_to (a := IntKind.i64.wrap w) (b := v.mn) ((w % v.mn : Nat) : Int) rfl rfl rfl (by omega) (rem_nat hw _) _ _) ?_
  conv => whnf
  refine ⟨by kernel_rfl, ?_⟩
  obtain ⟨p, hp, hpl⟩ : ∃ p, w % v.pn = p ∧ p < d.pens.length := ⟨_, rfl, by rw [← e1]; exact Nat.mod_lt _ (by omega)⟩
  obtain ⟨m, hm, hml⟩ : ∃ m, w % v.mn = m ∧ m < d.mobs.length := ⟨_, rfl, by rw [← e0]; exact Nat.mod_lt _ (by omega)⟩
  rw [hp, hm]
  have hpen := pen_ret hv p
  have hmob := mob_ret hv m
  have hpx := pen_ret hv v.pn
  have hmx := mob_ret hv (-1)
  have hqx := part_ret hv v.mn 0
  have hdx := dryOf_ret hv (-1)
  have hcl := clash_ret hv
  have xpx : penR d v.pn = ((0, 0), 2) := by
    unfold penR; rw [hd, show inB (v.pn : Int) 0 (d.pens.length - 1) = false by simp only [inB, Bool.and_eq_false_iff, decide_eq_false_iff_not]; omega]; rfl
  have xm1 : mobR d (-1) = ((0, 0), 2) := by
    unfold mobR; rw [hd, show inB (-1 : Int) 0 (d.mobs.length - 1) = false by simp only [inB, Bool.and_eq_false_iff, decide_eq_false_iff_not]; omega]; rfl
  have xpt : partR d v.mn 0 = ((0, 0), 2) := by
    unfold partR; rw [hd, show inB (v.mn : Int) 0 (d.mobs.length - 1) = false by simp only [inB, Bool.and_eq_false_iff, decide_eq_false_iff_not]; omega]; rfl
  have xp1 : penR d (-1) = ((0, 0), 2) := by
    unfold penR; rw [hd, show inB (-1 : Int) 0 (d.pens.length - 1) = false by simp only [inB, Bool.and_eq_false_iff, decide_eq_false_iff_not]; omega]; rfl
  have xdx : dryR d (-1) = (0, 2) := by unfold dryR; rw [xp1]; rfl
  rw [xpx] at hpx; rw [xm1] at hmx; rw [xpt] at hqx; rw [xdx] at hdx; rw [clash_err hd] at hcl
  dsimp only at hpx hmx hqx hdx
  cases hpos : possibleF (flockF d)
  · obtain ⟨f1, f2, f3⟩ := all_fail hd hpos
    rw [f1 p hpl] at hpen; rw [f2 m hml] at hmob; rw [hpos] at hcl
    dsimp only at hpen hmob
    conv => whnf
    refine .ret hpen rfl ?_
    conv => whnf
    refine .ret hmob rfl ?_
    conv => whnf
    refine .ret hpx rfl ?_
    conv => whnf
    refine .ret hmx rfl ?_
    conv => whnf
    refine .ret hqx rfl ?_
    conv => whnf
    refine .ret hdx rfl ?_
    conv => whnf
    refine .ret hcl rfl ?_
    conv => whnf
    refine plain_val (span_eql rfl rfl rfl _ _) ?_
    conv => whnf
    refine plain_val (span_eql rfl rfl rfl _ _) ?_
    conv => whnf
    refine .ret hA rfl ?_
    conv => whnf
    exact .val
  · obtain ⟨a, b, xp, pab, pa0, pb36, pall⟩ := pen_can hd hpos hpl
    obtain ⟨a', b', xm, mab, ma0, mb54, mbs, mall⟩ := mob_can hd hpos hml
    rw [xp] at hpen; rw [xm] at hmob; rw [hpos] at hcl
    dsimp only at hpen hmob
    conv => whnf
    refine .ret hpen rfl ?_
    conv => whnf
    refine .ret hmob rfl ?_
    conv => whnf
    refine .ret hpx rfl ?_
    conv => whnf
    refine .ret hmx rfl ?_
    conv => whnf
    refine .ret hqx rfl ?_
    conv => whnf
    refine .ret hdx rfl ?_
    conv => whnf
    refine .ret hcl rfl ?_
    conv => whnf
    refine ⟨a - 2, by rw [wrap_eq (by omega) (by omega)], ?_⟩
    conv => whnf
    refine loop_by (I := fun q st => ∃ (x : Int) (h : Heap), 0 ≤ x ∧ x ≤ 40 ∧ q = (41 - x).toNat ∧ 3 ≤ h.n ∧ Heap.at h 0 = v.blk ∧ Heap.at h 1 = .blk [.c (I a), .c (I b)] ∧ Heap.at h 2 = .blk [.c (I a'), .c (I b')] ∧
      Has st 265 [(2, .ptr 0 0), (9, .c (I p)), (10, .c (I m)), (11, .ptr 1 0), (13, .ptr 2 0), (25, .c (I x))] [] none h) ?_ (k := (41 - max 0 (a - 2)).toNat)
      ⟨max 0 (a - 2), _, by omega, by omega, rfl, (by show 3 ≤ 6; omega), rfl, rfl, rfl, rfl, ⟨rfl, rfl, rfl, rfl, rfl, rfl, trivial⟩, rfl, rfl, rfl, rfl⟩
    rintro q s ⟨x, h, hx0, hx40, rfl, hn, b0, b1, b2, hs⟩
    refine hs.run (hm := false) ?_
    conv => whnf
    refine ⟨_, b1, ?_⟩
    conv => whnf
    refine ⟨b + 2, by rw [wrap_eq (by omega) (by omega)], ?_⟩
    conv => whnf
    cases hc : decide (x ≤ min 36 (b + 2))
    · conv => whnf
      rw [b2]
      conv => whnf
      refine ⟨a' - 2, by rw [wrap_eq (by omega) (by omega)], ?_⟩
      conv => whnf
      refine loop_by (I := fun q st => ∃ (x : Int) (h : Heap), 0 ≤ x ∧ x ≤ 60 ∧ q = (61 - x).toNat ∧ 3 ≤ h.n ∧ Heap.at h 0 = v.blk ∧ Heap.at h 2 = .blk [.c (I a'), .c (I b')] ∧
        Has st 265 [(2, .ptr 0 0), (10, .c (I m)), (13, .ptr 2 0), (30, .c (I x))] [] none h) ?_ (k := (61 - max 0 (a' - 2)).toNat)
        ⟨max 0 (a' - 2), _, by omega, by omega, rfl, hn, b0, b2, rfl, ⟨rfl, rfl, rfl, rfl, trivial⟩, rfl, rfl, rfl, rfl⟩
      clear hc hs b0 b1 b2 hn hx0 hx40
      clear s x h
      rintro q s ⟨x, h, hx0, hx60, rfl, hn, b0, b2, hs⟩
      refine hs.run (hm := false) ?_
      conv => whnf
      refine ⟨_, b2, ?_⟩
      conv => whnf
      refine ⟨b' + 2, by rw [wrap_eq (by omega) (by omega)], ?_⟩
      conv => whnf
      cases hc : decide (x ≤ b' + 2)
      · conv => whnf
        refine .ret hA rfl ?_
        conv => whnf
        exact .val
      conv => whnf
      refine ⟨_, b0, ?_⟩
      conv => whnf
      obtain ⟨ec, h1, hc1, rfl, f1, c3, c5, hn1⟩ := copied_ret hv s1 s3 h
      refine .inl _ h1 .no hc1 ?_
      conv => whnf
      refine ⟨_, at_push_self _ _, ?_⟩
      conv => whnf
      have hg := (vOf_is (d := d) e3)
      have rdM := hg.mspan hml
      have c5' : Heap.at h1 (h.n + 5) = .blk ((penCells d.pens).map .c) := c5
      have c3' : Heap.at h1 (h.n + 3) = .blk ((mobCells d.mobs).map .c) := c3
      refine ⟨_, at_new _ _ _, ?_⟩
      conv => whnf
      refine ⟨⟨rfl, by omega, by omega⟩, ?_⟩
      conv => whnf
      refine ⟨_, (at_old _ _ _ (by omega)).trans c3', look_read (readVar_map rdM) ?_⟩
      conv => whnf
      refine ⟨_, at_push_self _ _, ?_⟩
      conv => whnf
      refine draw_by (hm := false) (by kernel_rfl) (by kernel_rfl) ?_
      conv => whnf
      refine ⟨_, (at_old _ _ _ (by rw [new_n]; omega)).trans (at_new _ _ _), ?_⟩
      conv => whnf
      refine .ret (mkspan_ret _ _) rfl ?_
      conv => whnf
      refine ⟨⟨rfl, by omega, by omega⟩, ?_⟩
      conv => whnf
      refine ⟨_, (at_old _ _ _ (by rw [new_n]; omega)).trans ((at_old _ _ _ (by omega)).trans c3'), look_put (put_wet' hml x x) ?_⟩
      conv => whnf
      refine ⟨by show h.n + 3 < h1.n + 1 + 1; omega, ?_⟩
      conv => whnf
      refine forceL_intro ?_
      conv => whnf
      refine ⟨by kernel_rfl, ?_⟩
      conv => whnf
      have oh := fun (Z O Z2 S B : AB) => own_heap (Z := Z) (O := O) (Z2 := Z2) (S := S) (B := B) (show h.n + 3 < h1.n by omega)
      have keep : ∀ {Z O Z2 S B : AB} {i : Nat}, i < h.n → Heap.at (TMap.set .dead (TMap.set .dead (TMap.push .dead (TMap.set .dead (TMap.push .dead h1 Z) h1.n O) Z2) (h1.n + 1) S) (h.n + 3) B) i = Heap.at h i := fun {Z O Z2 S B i} hi => ((oh Z O Z2 S B).old i (by omega) (by omega)).trans (f1.keep i hi (by simp))
      have fin : (61 - (x + 1)).toNat < (61 - x).toNat := by simp at hc; omega
      have hx59 : x ≤ 59 := by simp at hc; omega
      have his := vOf_is (d := pinM d m x) ⟨by rw [show (pinM d m x).mobs.length = d.mobs.length from setM_len _ _ _]; exact e3.1, e3.2⟩
      have hdx2 := dry_ret his
      have hcx := clash_ret his
      have hin1 := inside_ret x a' b'
      have hin2 := inside_ret x (mobAt d m).lo (mobAt d m).hi
      have hiff := mall x
      have hval := valid_pinM hd hml x
      refine ⟨_, (oh _ _ _ _ _).o, ?_⟩
      conv => whnf
      refine .snapped _ _ _ _ _ (snap_own (d := pinM d m x) (setM_len _ _ _) rfl e2.symm (oh _ _ _ _ _).b (((oh _ _ _ _ _).old (h.n + 5) (by omega) (by omega)).trans c5')) hdx2 rfl ?_
      conv => whnf
      cases hvd : validB (pinM d m x)
      · have hno : (decide (a' ≤ x) && decide (x ≤ b')) = false := by
          rw [hvd] at hval
          rw [Bool.eq_false_iff]
          simp only [ne_eq, Bool.and_eq_true, decide_eq_true_eq]
          intro hh
          have := hval.symm
          simp only [Bool.and_eq_false_iff, decide_eq_false_iff_not] at this
          omega
        rw [hno] at hin1
        conv => whnf
        refine ⟨_, (keep (by omega)).trans b2, ?_⟩
        conv => whnf
        refine .ret hin1 rfl ?_
        conv => whnf
        refine ⟨x + 1, by rw [wrap_eq (by omega) (by omega)], ?_⟩
        conv => whnf
        exact ⟨(61 - (x + 1)).toNat, fin, x + 1, _, by omega, by omega, rfl, by show 3 ≤ h1.n + 1 + 1; omega, (keep (by omega)).trans b0, (keep (by omega)).trans b2, rfl, ⟨rfl, rfl, rfl, rfl, trivial⟩, rfl, rfl, rfl, rfl⟩
      rw [clash_err hvd, flock_pinM hml] at hcx
      have e1' : (decide (a' ≤ x) && decide (x ≤ b')) = (possibleF (mobFl (flockF d) m x) && (decide ((mobAt d m).lo ≤ x) && decide (x ≤ (mobAt d m).hi))) := by
        rw [Bool.eq_iff_iff]
        simp only [Bool.and_eq_true, decide_eq_true_eq]
        exact hiff
      rw [e1'] at hin1
      conv => whnf
      refine ⟨_, (oh _ _ _ _ _).o, ?_⟩
      conv => whnf
      refine .snapped _ _ _ _ _ (snap_own (d := pinM d m x) (setM_len _ _ _) rfl e2.symm (oh _ _ _ _ _).b (((oh _ _ _ _ _).old (h.n + 5) (by omega) (by omega)).trans c5')) hcx rfl ?_
      conv => whnf
      refine ⟨_, (keep (by omega)).trans b2, ?_⟩
      conv => whnf
      refine .ret hin1 rfl ?_
      conv => whnf
      cases hP : possibleF (mobFl (flockF d) m x)
      · rw [hP] at *
        conv => whnf
        refine ⟨x + 1, by rw [wrap_eq (by omega) (by omega)], ?_⟩
        conv => whnf
        exact ⟨(61 - (x + 1)).toNat, fin, x + 1, _, by omega, by omega, rfl, by show 3 ≤ h1.n + 1 + 1; omega, (keep (by omega)).trans b0, (keep (by omega)).trans b2, rfl, ⟨rfl, rfl, rfl, rfl, trivial⟩, rfl, rfl, rfl, rfl⟩
      · rw [hP] at *
        rw [Bool.true_and] at *
        conv => whnf
        refine ⟨_, (oh _ _ _ _ _).s, ?_⟩
        conv => whnf
        refine .ret hin2 rfl ?_
        conv => whnf
        cases (decide ((mobAt d m).lo ≤ x) && decide (x ≤ (mobAt d m).hi))
        · conv => whnf
          refine ⟨x + 1, by rw [wrap_eq (by omega) (by omega)], ?_⟩
          conv => whnf
          exact ⟨(61 - (x + 1)).toNat, fin, x + 1, _, by omega, by omega, rfl, by show 3 ≤ h1.n + 1 + 1; omega, (keep (by omega)).trans b0, (keep (by omega)).trans b2, rfl, ⟨rfl, rfl, rfl, rfl, trivial⟩, rfl, rfl, rfl, rfl⟩
        · conv => whnf
          refine ⟨x + 1, by rw [wrap_eq (by omega) (by omega)], ?_⟩
          conv => whnf
          exact ⟨(61 - (x + 1)).toNat, fin, x + 1, _, by omega, by omega, rfl, by show 3 ≤ h1.n + 1 + 1; omega, (keep (by omega)).trans b0, (keep (by omega)).trans b2, rfl, ⟨rfl, rfl, rfl, rfl, trivial⟩, rfl, rfl, rfl, rfl⟩
    · conv => whnf
      refine ⟨_, b0, ?_⟩
      conv => whnf
      obtain ⟨ec, h1, hc1, rfl, f1, c3, c5, hn1⟩ := copied_ret hv s1 s3 h
      refine .inl _ h1 .no hc1 ?_
      conv => whnf
      refine ⟨_, at_push_self _ _, ?_⟩
      conv => whnf
      have hg := (vOf_is (d := d) e3)
      have rdP := hg.pspan hpl
      have c5' : Heap.at h1 (h.n + 5) = .blk ((penCells d.pens).map .c) := c5
      have c3' : Heap.at h1 (h.n + 3) = .blk ((mobCells d.mobs).map .c) := c3
      refine ⟨_, at_new _ _ _, ?_⟩
      conv => whnf
      refine ⟨⟨rfl, by omega, by omega⟩, ?_⟩
      conv => whnf
      refine ⟨_, (at_old _ _ _ (by omega)).trans c5', look_read (readVar_map rdP) ?_⟩
      conv => whnf
      refine ⟨_, at_push_self _ _, ?_⟩
      conv => whnf
      refine draw_by (hm := false) (by kernel_rfl) (by kernel_rfl) ?_
      conv => whnf
      refine ⟨_, (at_old _ _ _ (by rw [new_n]; omega)).trans (at_new _ _ _), ?_⟩
      conv => whnf
      refine .ret (mkspan_ret _ _) rfl ?_
      conv => whnf
      refine ⟨⟨rfl, by omega, by omega⟩, ?_⟩
      conv => whnf
      refine ⟨_, (at_old _ _ _ (by rw [new_n]; omega)).trans ((at_old _ _ _ (by omega)).trans c5'), look_put (put_found' hpl x x) ?_⟩
      conv => whnf
      refine ⟨by show h.n + 5 < h1.n + 1 + 1; omega, ?_⟩
      conv => whnf
      refine forceL_intro ?_
      conv => whnf
      refine ⟨by kernel_rfl, ?_⟩
      conv => whnf
      have oh := fun (Z O Z2 S B : AB) => own_heap (Z := Z) (O := O) (Z2 := Z2) (S := S) (B := B) (show h.n + 5 < h1.n by omega)
      have hx36 : x ≤ 36 := by simp at hc; omega
      have hvx := valid_pinP hd hpl hx0 hx36
      have hcx := clash_ret (vOf_is (d := pinP d p x) ⟨e3.1, by rw [show (pinP d p x).pens.length = d.pens.length from setP_len _ _ _]; exact e3.2⟩)
      rw [clash_err hvx, flock_pinP hpl] at hcx
      have hin1 := inside_ret x a b
      have hin2 := inside_ret x (penAt d p).lo (penAt d p).hi
      have hiff := pall x hx0 hx36
      refine ⟨_, (oh _ _ _ _ _).o, ?_⟩
      conv => whnf
      refine .snapped _ _ _ _ _ (snap_own (d := pinP d p x) rfl (setP_len _ _ _) e2.symm (((oh _ _ _ _ _).old (h.n + 3) (by omega) (by omega)).trans c3') (oh _ _ _ _ _).b) hcx rfl ?_
      conv => whnf
      have keep : ∀ {Z O Z2 S B : AB} {i : Nat}, i < h.n → Heap.at (TMap.set .dead (TMap.set .dead (TMap.push .dead (TMap.set .dead (TMap.push .dead h1 Z) h1.n O) Z2) (h1.n + 1) S) (h.n + 5) B) i = Heap.at h i := fun {Z O Z2 S B i} hi => ((oh Z O Z2 S B).old i (by omega) (by omega)).trans (f1.keep i hi (by simp))
      have e1' : (decide (a ≤ x) && decide (x ≤ b)) = (possibleF (penFl (flockF d) p x) && (decide ((penAt d p).lo ≤ x) && decide (x ≤ (penAt d p).hi))) := by
        rw [Bool.eq_iff_iff]
        simp only [Bool.and_eq_true, decide_eq_true_eq]
        exact hiff
      rw [e1'] at hin1
      refine ⟨_, (keep (by omega)).trans b1, ?_⟩
      conv => whnf
      refine .ret hin1 rfl ?_
      conv => whnf
      cases hP : possibleF (penFl (flockF d) p x)
      · rw [hP] at *
        conv => whnf
        refine ⟨x + 1, by rw [wrap_eq (by omega) (by omega)], ?_⟩
        conv => whnf
        exact ⟨(41 - (x + 1)).toNat, by omega, x + 1, _, by omega, by omega, rfl, by show 3 ≤ h1.n + 1 + 1; omega, (keep (by omega)).trans b0, (keep (by omega)).trans b1, (keep (by omega)).trans b2, rfl, ⟨rfl, rfl, rfl, rfl, rfl, rfl, trivial⟩, rfl, rfl, rfl, rfl⟩
      · rw [hP] at *
        rw [Bool.true_and] at *
        conv => whnf
        refine ⟨_, (oh _ _ _ _ _).s, ?_⟩
        conv => whnf
        refine .ret hin2 rfl ?_
        conv => whnf
        have fin : (41 - (x + 1)).toNat < (41 - x).toNat := by omega
        cases (decide ((penAt d p).lo ≤ x) && decide (x ≤ (penAt d p).hi))
        · conv => whnf
          refine ⟨x + 1, by rw [wrap_eq (by omega) (by omega)], ?_⟩
          conv => whnf
          exact ⟨(41 - (x + 1)).toNat, fin, x + 1, _, by omega, by omega, rfl, by show 3 ≤ h1.n + 1 + 1; omega, (keep (by omega)).trans b0, (keep (by omega)).trans b1, (keep (by omega)).trans b2, rfl, ⟨rfl, rfl, rfl, rfl, rfl, rfl, trivial⟩, rfl, rfl, rfl, rfl⟩
        · conv => whnf
          refine ⟨x + 1, by rw [wrap_eq (by omega) (by omega)], ?_⟩
          conv => whnf
          exact ⟨(41 - (x + 1)).toNat, fin, x + 1, _, by omega, by omega, rfl, by show 3 ≤ h1.n + 1 + 1; omega, (keep (by omega)).trans b0, (keep (by omega)).trans b1, (keep (by omega)).trans b2, rfl, ⟨rfl, rfl, rfl, rfl, rfl, rfl, trivial⟩, rfl, rfl, rfl, rfl⟩
end Go.Ag
