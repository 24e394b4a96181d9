/- The law TallyFalse returns true for arguments that are not far too long. No conditions. -/
import Derived.Test.YtnmiompeofbagaaTyE
/- Layer 5: the law TallyFalse. -/
namespace Go.Ag
open Go.Proofs
set_option maxRecDepth 100000

theorem fold_bit (t : Td) (least i : Nat) : ∀ (l : List Nat) (acc : Nat), (l.foldl (suspStep t least) acc).testBit i = (acc.testBit i || l.any fun z => popB z == popB least && canL t z && z.testBit i)
  | [], acc => by simp
  | z :: l, acc => by
    rw [List.foldl_cons, fold_bit t least i l, List.any_cons]
    unfold suspStep
    cases hc : popB z == popB least && canL t z
    · simp
    · simp [Nat.testBit_or, Bool.or_assoc]
theorem susp_bit {t : Td} (hd : validT t = true) {least i : Nat} : (suspN t least).testBit i = true ↔ ∃ z, z ≤ allN t ∧ popB z = popB least ∧ canL t z = true ∧ z.testBit i = true := by
  have h5 := valid_nums hd
  unfold suspN
  rw [fold_bit]
  simp only [Nat.zero_testBit, Bool.false_or, List.any_eq_true, Bool.and_eq_true, beq_iff_eq]
  constructor
  · rintro ⟨z, h1, ⟨h2, h3⟩, h4⟩
    exact ⟨z, lt_all.1 (mem_bySize.1 h1).1, h2, h3, h4⟩
  · rintro ⟨z, h1, h2, h3, h4⟩
    exact ⟨z, mem_bySize.2 ⟨lt_all.2 h1, pop_small _ h5.2.2.2.2.2 z (lt_all.2 h1)⟩, ⟨h2, h3⟩, h4⟩
theorem diff_none {a b : Nat} (h : ∀ i, a.testBit i = true → b.testBit i = true) : diffN a b = 0 := by
  apply Nat.eq_of_testBit_eq
  intro i
  rw [diffN_bit, Nat.zero_testBit]
  cases ha : a.testBit i
  · rfl
  · rw [h i ha]; rfl
theorem false_drop {t : Td} (hd : validT t = true) {y i : Nat} (h : FalseIs t y) (hi : y.testBit i = true) : canL t (diffN y (2 ^ i)) = false := by
  have h5 := valid_nums hd
  have ha := allN_lt hd
  have hi8 : i < 8 := by
    have := sub_all h.le i hi
    rw [allN_bit] at this
    have := of_decide_eq_true this
    omega
  cases hc : canL t (diffN y (2 ^ i)) with
  | false => rfl
  | true =>
    have hp := pop_drop y (Nat.lt_of_le_of_lt h.le ha) i hi8 hi
    have hle : diffN y (2 ^ i) ≤ allN t := lt_all.1 (diffN_lt (lt_all.2 h.le))
    rcases h.least _ hle hc with h1 | h1
    · rw [h1] at hp; omega
    · unfold Less at h1; omega
theorem canL_mono {t : Td} (hd : validT t = true) {a b : Nat} (h : ∀ i, a.testBit i = true → b.testBit i = true) (ha : canL t a = true) : canL t b = true := by
  refine can_mono hd (fun i hi => ?_) ha
  rw [diffN_bit] at hi ⊢
  simp only [Bool.and_eq_true, Bool.not_eq_true'] at hi ⊢
  refine ⟨hi.1, ?_⟩
  cases ha : a.testBit i
  · rfl
  · rw [h i ha] at hi; cases hi.2
theorem int_beq_zero (n : Nat) : ((n : Int) == 0) = decide (n = 0) := by by_cases h : n = 0 <;> simp [h]

set_option maxHeartbeats 4000000 in
theorem falseLaw_ret {v : TV} {t : Td} (h : v.IsS t) (hA : Ret Try.prog 12 [] (B true)) (w : Nat) (hw : w < 256) : Ret Try.prog 8 [v.cv, .lit (.int .u8 w)] (B true) := by
  have hv := h.toIs
  have e1 := hv.cn; have e2 := hv.short
  refine ret_by (hm := true) Try.func8 rfl ?_
  conv => whnf
  refine .ret h.far rfl ?_
  conv => whnf
  refine .ret (tallyR_ret hv) rfl ?_
  conv => whnf
  cases hd : validT t
  · conv => whnf
    refine .ret hA rfl ?_
    conv => whnf
    exact .val
  have h5 := valid_nums hd
  have ha := allN_lt hd
  have hfa := false_ret hv
  have hsu := susp_ret hv
  have hp : 1 ≤ 2 ^ t.calls.length ∧ 2 ^ t.calls.length ≤ 256 := ⟨Nat.one_le_two_pow, Nat.pow_le_pow_right (n := 2) (by omega) h5.2.2.2.2.2⟩
  have hcal : ∀ x : Nat, x < 256 → Ret Try.prog 37 [I x, tP v] (B (canL t x)) := fun x hx => omitted_ret hv hd (by omega)
  obtain ⟨N, hN⟩ : ∃ N, N = allN t := ⟨_, rfl⟩
  have hNd : N = 2 ^ t.calls.length - 1 := by rw [hN]; rfl
  have hN1 := hcal N (by omega)
  cases hf : falseS t with
  | none =>
    have c1 : falseR t = (0, 0, 10) := by unfold falseR; rw [hd, hf]; rfl
    have c2 : suspR t = (0, 10) := by unfold suspR; rw [hd, hf]; rfl
    rw [c1] at hfa
    rw [c2] at hsu
    rw [false_no hd hf (by omega)] at hN1
    dsimp only [pairV] at hsu
    conv => whnf
    refine .ret hfa rfl ?_
    conv => whnf
    refine .ret hsu rfl ?_
    conv => whnf
    refine ⟨by omega, _, shl_nat 1 v.cn (by omega) (by rw [e1]; omega), ?_⟩
    conv => whnf
    refine ⟨(N : Int), by rw [wrap_eq (by rw [e1]; omega) (by rw [e1]; omega), e1]; omega, ?_⟩
    conv => whnf
    refine .snapped _ _ _ _ _ (snap_clos rfl _) hN1 rfl ?_
    rw [killed_b]
    conv => whnf
    refine ⟨_, bool_neq rfl rfl rfl _ _, ?_⟩
    conv => whnf
    refine .ret hA rfl ?_
    conv => whnf
    exact .val
  | some y =>
  have hi := false_is hd hf
  have hyN := hi.le
  rw [← hN] at hyN
  obtain ⟨S, hS⟩ : ∃ S, S = suspN t y := ⟨_, rfl⟩
  have c1 : falseR t = (popB y, y, 0) := by unfold falseR; rw [hd, hf]; rfl
  have c2 : suspR t = (S, 0) := by unfold suspR; rw [hd, hf, hS]; rfl
  have hSlt : S < 256 := by rw [hS]; exact susp_lt hd y _ 0 (by omega) fun z hz => mem_lt hd hz
  have hsb : ∀ i, S.testBit i = true ↔ ∃ z, z ≤ allN t ∧ popB z = popB y ∧ canL t z = true ∧ z.testBit i = true := fun i => by rw [hS]; exact susp_bit hd
  have hsub : ∀ i, y.testBit i = true → S.testBit i = true := fun i hb => (hsb i).2 ⟨y, hi.le, rfl, hi.can, hb⟩
  have hSN : diffN S N = 0 := diff_none fun i hb => by
    obtain ⟨z, z1, z2, z3, z4⟩ := (hsb i).1 hb
    rw [hN]; exact sub_all z1 i z4
  have hyS : diffN y S = 0 := diff_none hsub
  have hcN : canL t N = true := canL_mono hd (fun i hb => by rw [hN]; exact sub_all hi.le i hb) hi.can
  have hzero : decide (popB y = 0) = decide (S = 0) := by
    by_cases h0 : popB y = 0
    · have : S = 0 := by
        apply Nat.eq_of_testBit_eq
        intro i
        rw [Nat.zero_testBit]
        cases hb : S.testBit i
        · rfl
        · obtain ⟨z, z1, z2, z3, z4⟩ := (hsb i).1 hb
          have : z = 0 := pop_zero z (by omega) (by omega)
          rw [this] at z4; simp at z4
      simp [h0, this]
    · have : S ≠ 0 := by
        rintro rfl
        have : y = 0 := by
          apply Nat.eq_of_testBit_eq
          intro i
          rw [Nat.zero_testBit]
          cases hb : y.testBit i
          · rfl
          · have := hsub i hb; simp at this
        rw [this] at h0
        exact h0 (by decide)
      simp [h0, this]
  have hz2 : decide (popB y = 0) = canL t 0 := by
    by_cases h0 : popB y = 0
    · have : y = 0 := pop_zero y (by omega) h0
      have hc := hi.can
      rw [this] at hc
      rw [hc]; simp [h0]
    · cases hc : canL t 0
      · simp [h0]
      · rcases hi.least 0 (Nat.zero_le _) hc with h1 | h1
        · rw [← h1] at h0; exact absurd (by decide) h0
        · unfold Less at h1
          have : popB 0 = 0 := by decide
          omega
  have hone1 : popB y = 1 → ∀ q, q < 8 → S.testBit q = true → canL t (2 ^ q) = true := fun h1 q hq hb => by
    obtain ⟨z, z1, z2, z3, z4⟩ := (hsb q).1 hb
    have : z = 2 ^ q := pop_one z (by omega) (by omega) q hq z4
    rw [← this]; exact z3
  rw [c1] at hfa
  rw [c2] at hsu
  rw [hcN] at hN1
  have hY1 := hcal y (by omega)
  rw [hi.can] at hY1
  have hZ1 := hcal 0 (by omega)
  dsimp only [pairV] at hsu
  dsimp only at hfa
  conv => whnf
  refine .ret hfa rfl ?_
  conv => whnf
  refine .ret hsu rfl ?_
  conv => whnf
  refine ⟨by omega, _, shl_nat 1 v.cn (by omega) (by rw [e1]; omega), ?_⟩
  conv => whnf
  refine ⟨(N : Int), by rw [wrap_eq (by rw [e1]; omega) (by rw [e1]; omega), e1]; omega, ?_⟩
  conv => whnf
  refine .snapped _ _ _ _ _ (snap_clos rfl _) hN1 rfl ?_
  rw [killed_b]
  conv => whnf
  refine ⟨_, bool_neq rfl rfl rfl _ _, ?_⟩
  conv => whnf
  rw [wrap_u8 hw]
  refine ⟨_, and_nat (b := N) (by omega) (by omega), ?_⟩
  conv => whnf
  have hand : w &&& N ≤ N := Nat.and_le_right
  generalize w &&& N = X at hand
  rw [show decide ((y : Int) < 0) = false by simp]
  conv => whnf
  rw [show decide ((y : Int) > (N : Int)) = false by simp; omega]
  conv => whnf
  refine .ret (size_ret (by omega)) rfl ?_
  conv => whnf
  rw [show ((popB y : Int) != (popB y : Int)) = false by simp]
  conv => whnf
  refine .snapped _ _ _ _ _ (snap_clos rfl _) hY1 rfl ?_
  rw [killed_b]
  conv => whnf
  refine ⟨_, andNot_nat (by omega) (by omega), ?_⟩
  conv => whnf
  rw [hSN]
  conv => whnf
  refine ⟨_, andNot_nat (by omega) (by omega), ?_⟩
  conv => whnf
  rw [hyS]
  conv => whnf
  refine ⟨_, bool_neq rfl rfl rfl _ _, ?_⟩
  conv => whnf
  rw [int_beq_zero, int_beq_zero, hzero]
  rw [show (decide (S = 0) != decide (S = 0)) = false by simp]
  conv => whnf
  refine .snapped _ _ _ _ _ (snap_clos rfl (I 0)) hZ1 rfl ?_
  rw [killed_b]
  conv => whnf
  refine ⟨_, bool_neq rfl rfl rfl _ _, ?_⟩
  conv => whnf
  rw [int_beq_zero, hz2]
  rw [show (canL t 0 != canL t 0) = false by simp]
  conv => whnf
  have hX := hcal X (by omega)
  refine .snapped _ _ _ _ _ (snap_clos rfl _) hX rfl ?_
  rw [killed_b]
  cases hcx : canL t X
  case false =>
    conv => whnf
    refine loop_by (I := fun n st => ∃ (q : Nat) (h : Heap), q ≤ t.calls.length ∧ n = t.calls.length - q ∧ Heap.at h 0 = v.blk ∧
      Has st 187 [(5, .c (I (popB y : Nat))), (6, .c (I y)), (8, .c (I S)), (12, .func (.func 37) [] [.ptr 0 0]), (154, .c (I v.cn)), (155, .c (I q))] [] none h) ?_ (k := t.calls.length)
      ⟨0, _, Nat.zero_le _, rfl, rfl, rfl, ⟨rfl, rfl, rfl, rfl, rfl, rfl, trivial⟩, rfl, rfl, rfl, rfl⟩
    rintro n st ⟨q, h, hq, rfl, h0, hs1⟩
    refine hs1.run (hm := false) ?_
    conv => whnf
    cases hc : decide ((q : Int) < (v.cn : Int))
    case false =>
      conv => whnf
      refine .ret hA rfl ?_
      conv => whnf
      exact .val
    have hq : q < t.calls.length := by simp at hc; omega
    have h2q : 2 ^ q ≤ 2 ^ 7 := Nat.pow_le_pow_right (by omega) (by omega)
    have next : q + 1 ≤ t.calls.length := by omega
    conv => whnf
    refine ⟨by omega, _, shr_nat y q (by omega), ?_⟩
    conv => whnf
    refine ⟨_, and_nat (b := 1) (Nat.lt_of_le_of_lt (Nat.shiftRight_le y q) (by omega)) (by omega), ?_⟩
    conv => whnf
    rw [bit_nat]
    cases hb : y.testBit q
    case true =>
      have hd1 := hcal (diffN y (2 ^ q)) (diffN_lt (n := 8) (by omega))
      rw [false_drop hd hi hb] at hd1
      conv => whnf
      refine ⟨by omega, ((2 ^ q : Nat) : Int), (shl_nat 1 q (by omega) (by omega)).trans (by rw [Nat.one_mul]), ?_⟩
      conv => whnf
      refine ⟨_, andNot_nat (by omega) (by omega), ?_⟩
      conv => whnf
      refine .snapped _ _ _ _ _ (snap_clos h0 _) hd1 rfl ?_
      rw [killed_b]
      conv => whnf
      refine ⟨by omega, _, shr_nat S q (by omega), ?_⟩
      conv => whnf
      refine ⟨_, and_nat (b := 1) (Nat.lt_of_le_of_lt (Nat.shiftRight_le S q) (by omega)) (by omega), ?_⟩
      conv => whnf
      rw [show (((S >>> q &&& 1 : Nat) : Int) != 1) = !(((S >>> q &&& 1 : Nat) : Int) == 1) from rfl, bit_nat, hsub q hb]
      conv => whnf
      rw [show ((popB y : Int) != 1) = !decide (popB y = 1) by by_cases h : popB y = 1 <;> simp [h] <;> omega]
      cases hone : decide (popB y = 1)
      · conv => whnf
        refine ⟨((q + 1 : Nat) : Int), by rw [wrap_eq (by omega) (by omega)]; omega, ?_⟩
        conv => whnf
        exact ⟨t.calls.length - (q + 1), by omega, q + 1, _, by omega, rfl, h0, rfl, ⟨rfl, rfl, rfl, rfl, rfl, rfl, trivial⟩, rfl, rfl, rfl, rfl⟩
      · have hd2 := hcal (2 ^ q) (by omega)
        rw [hone1 (of_decide_eq_true hone) q (by omega) (hsub q hb)] at hd2
        conv => whnf
        refine ⟨by omega, ((2 ^ q : Nat) : Int), (shl_nat 1 q (by omega) (by omega)).trans (by rw [Nat.one_mul]), ?_⟩
        conv => whnf
        refine .snapped _ _ _ _ _ (snap_clos h0 _) hd2 rfl ?_
        rw [killed_b]
        conv => whnf
        refine ⟨((q + 1 : Nat) : Int), by rw [wrap_eq (by omega) (by omega)]; omega, ?_⟩
        conv => whnf
        exact ⟨t.calls.length - (q + 1), by omega, q + 1, _, by omega, rfl, h0, rfl, ⟨rfl, rfl, rfl, rfl, rfl, rfl, trivial⟩, rfl, rfl, rfl, rfl⟩
    conv => whnf
    refine ⟨by omega, _, shr_nat S q (by omega), ?_⟩
    conv => whnf
    refine ⟨_, and_nat (b := 1) (Nat.lt_of_le_of_lt (Nat.shiftRight_le S q) (by omega)) (by omega), ?_⟩
    conv => whnf
    rw [show (((S >>> q &&& 1 : Nat) : Int) != 1) = !(((S >>> q &&& 1 : Nat) : Int) == 1) from rfl, bit_nat]
    cases hsb : S.testBit q
    · conv => whnf
      refine ⟨((q + 1 : Nat) : Int), by rw [wrap_eq (by omega) (by omega)]; omega, ?_⟩
      conv => whnf
      exact ⟨t.calls.length - (q + 1), by omega, q + 1, _, by omega, rfl, h0, rfl, ⟨rfl, rfl, rfl, rfl, rfl, rfl, trivial⟩, rfl, rfl, rfl, rfl⟩
    conv => whnf
    rw [show ((popB y : Int) != 1) = !decide (popB y = 1) by by_cases h : popB y = 1 <;> simp [h] <;> omega]
    cases hone : decide (popB y = 1)
    · conv => whnf
      refine ⟨((q + 1 : Nat) : Int), by rw [wrap_eq (by omega) (by omega)]; omega, ?_⟩
      conv => whnf
      exact ⟨t.calls.length - (q + 1), by omega, q + 1, _, by omega, rfl, h0, rfl, ⟨rfl, rfl, rfl, rfl, rfl, rfl, trivial⟩, rfl, rfl, rfl, rfl⟩
    have hd2 := hcal (2 ^ q) (by omega)
    rw [hone1 (of_decide_eq_true hone) q (by omega) hsb] at hd2
    conv => whnf
    refine ⟨by omega, ((2 ^ q : Nat) : Int), (shl_nat 1 q (by omega) (by omega)).trans (by rw [Nat.one_mul]), ?_⟩
    conv => whnf
    refine .snapped _ _ _ _ _ (snap_clos h0 _) hd2 rfl ?_
    rw [killed_b]
    conv => whnf
    refine ⟨((q + 1 : Nat) : Int), by rw [wrap_eq (by omega) (by omega)]; omega, ?_⟩
    conv => whnf
    exact ⟨t.calls.length - (q + 1), by omega, q + 1, _, by omega, rfl, h0, rfl, ⟨rfl, rfl, rfl, rfl, rfl, rfl, trivial⟩, rfl, rfl, rfl, rfl⟩
  have hleast := hi.least X (by omega) hcx
  have hle : popB y ≤ popB X := by
    rcases hleast with rfl | h1
    · exact Nat.le_refl _
    · unfold Less at h1; omega
  conv => whnf
  refine .ret (size_ret (by omega)) rfl ?_
  conv => whnf
  rw [show decide ((popB X : Int) < (popB y : Int)) = false by simp; omega]
  conv => whnf
  refine .ret (size_ret (by omega)) rfl ?_
  conv => whnf
  rw [show ((popB X : Int) == (popB y : Int)) = decide (popB X = popB y) by by_cases h : popB X = popB y <;> simp [h] <;> omega]
  cases heq : decide (popB X = popB y)
  case false =>
    conv => whnf
    refine loop_by (I := fun n st => ∃ (q : Nat) (h : Heap), q ≤ t.calls.length ∧ n = t.calls.length - q ∧ Heap.at h 0 = v.blk ∧
      Has st 187 [(5, .c (I (popB y : Nat))), (6, .c (I y)), (8, .c (I S)), (12, .func (.func 37) [] [.ptr 0 0]), (154, .c (I v.cn)), (155, .c (I q))] [] none h) ?_ (k := t.calls.length)
      ⟨0, _, Nat.zero_le _, rfl, rfl, rfl, ⟨rfl, rfl, rfl, rfl, rfl, rfl, trivial⟩, rfl, rfl, rfl, rfl⟩
    rintro n st ⟨q, h, hq, rfl, h0, hs1⟩
    refine hs1.run (hm := false) ?_
    conv => whnf
    cases hc : decide ((q : Int) < (v.cn : Int))
    case false =>
      conv => whnf
      refine .ret hA rfl ?_
      conv => whnf
      exact .val
    have hq : q < t.calls.length := by simp at hc; omega
    have h2q : 2 ^ q ≤ 2 ^ 7 := Nat.pow_le_pow_right (by omega) (by omega)
    have next : q + 1 ≤ t.calls.length := by omega
    conv => whnf
    refine ⟨by omega, _, shr_nat y q (by omega), ?_⟩
    conv => whnf
    refine ⟨_, and_nat (b := 1) (Nat.lt_of_le_of_lt (Nat.shiftRight_le y q) (by omega)) (by omega), ?_⟩
    conv => whnf
    rw [bit_nat]
    cases hb : y.testBit q
    case true =>
      have hd1 := hcal (diffN y (2 ^ q)) (diffN_lt (n := 8) (by omega))
      rw [false_drop hd hi hb] at hd1
      conv => whnf
      refine ⟨by omega, ((2 ^ q : Nat) : Int), (shl_nat 1 q (by omega) (by omega)).trans (by rw [Nat.one_mul]), ?_⟩
      conv => whnf
      refine ⟨_, andNot_nat (by omega) (by omega), ?_⟩
      conv => whnf
      refine .snapped _ _ _ _ _ (snap_clos h0 _) hd1 rfl ?_
      rw [killed_b]
      conv => whnf
      refine ⟨by omega, _, shr_nat S q (by omega), ?_⟩
      conv => whnf
      refine ⟨_, and_nat (b := 1) (Nat.lt_of_le_of_lt (Nat.shiftRight_le S q) (by omega)) (by omega), ?_⟩
      conv => whnf
      rw [show (((S >>> q &&& 1 : Nat) : Int) != 1) = !(((S >>> q &&& 1 : Nat) : Int) == 1) from rfl, bit_nat, hsub q hb]
      conv => whnf
      rw [show ((popB y : Int) != 1) = !decide (popB y = 1) by by_cases h : popB y = 1 <;> simp [h] <;> omega]
      cases hone : decide (popB y = 1)
      · conv => whnf
        refine ⟨((q + 1 : Nat) : Int), by rw [wrap_eq (by omega) (by omega)]; omega, ?_⟩
        conv => whnf
        exact ⟨t.calls.length - (q + 1), by omega, q + 1, _, by omega, rfl, h0, rfl, ⟨rfl, rfl, rfl, rfl, rfl, rfl, trivial⟩, rfl, rfl, rfl, rfl⟩
      · have hd2 := hcal (2 ^ q) (by omega)
        rw [hone1 (of_decide_eq_true hone) q (by omega) (hsub q hb)] at hd2
        conv => whnf
        refine ⟨by omega, ((2 ^ q : Nat) : Int), (shl_nat 1 q (by omega) (by omega)).trans (by rw [Nat.one_mul]), ?_⟩
        conv => whnf
        refine .snapped _ _ _ _ _ (snap_clos h0 _) hd2 rfl ?_
        rw [killed_b]
        conv => whnf
        refine ⟨((q + 1 : Nat) : Int), by rw [wrap_eq (by omega) (by omega)]; omega, ?_⟩
        conv => whnf
        exact ⟨t.calls.length - (q + 1), by omega, q + 1, _, by omega, rfl, h0, rfl, ⟨rfl, rfl, rfl, rfl, rfl, rfl, trivial⟩, rfl, rfl, rfl, rfl⟩
    conv => whnf
    refine ⟨by omega, _, shr_nat S q (by omega), ?_⟩
    conv => whnf
    refine ⟨_, and_nat (b := 1) (Nat.lt_of_le_of_lt (Nat.shiftRight_le S q) (by omega)) (by omega), ?_⟩
    conv => whnf
    rw [show (((S >>> q &&& 1 : Nat) : Int) != 1) = !(((S >>> q &&& 1 : Nat) : Int) == 1) from rfl, bit_nat]
    cases hsb : S.testBit q
    · conv => whnf
      refine ⟨((q + 1 : Nat) : Int), by rw [wrap_eq (by omega) (by omega)]; omega, ?_⟩
      conv => whnf
      exact ⟨t.calls.length - (q + 1), by omega, q + 1, _, by omega, rfl, h0, rfl, ⟨rfl, rfl, rfl, rfl, rfl, rfl, trivial⟩, rfl, rfl, rfl, rfl⟩
    conv => whnf
    rw [show ((popB y : Int) != 1) = !decide (popB y = 1) by by_cases h : popB y = 1 <;> simp [h] <;> omega]
    cases hone : decide (popB y = 1)
    · conv => whnf
      refine ⟨((q + 1 : Nat) : Int), by rw [wrap_eq (by omega) (by omega)]; omega, ?_⟩
      conv => whnf
      exact ⟨t.calls.length - (q + 1), by omega, q + 1, _, by omega, rfl, h0, rfl, ⟨rfl, rfl, rfl, rfl, rfl, rfl, trivial⟩, rfl, rfl, rfl, rfl⟩
    have hd2 := hcal (2 ^ q) (by omega)
    rw [hone1 (of_decide_eq_true hone) q (by omega) hsb] at hd2
    conv => whnf
    refine ⟨by omega, ((2 ^ q : Nat) : Int), (shl_nat 1 q (by omega) (by omega)).trans (by rw [Nat.one_mul]), ?_⟩
    conv => whnf
    refine .snapped _ _ _ _ _ (snap_clos h0 _) hd2 rfl ?_
    rw [killed_b]
    conv => whnf
    refine ⟨((q + 1 : Nat) : Int), by rw [wrap_eq (by omega) (by omega)]; omega, ?_⟩
    conv => whnf
    exact ⟨t.calls.length - (q + 1), by omega, q + 1, _, by omega, rfl, h0, rfl, ⟨rfl, rfl, rfl, rfl, rfl, rfl, trivial⟩, rfl, rfl, rfl, rfl⟩
  have heq := of_decide_eq_true heq
  have hyX : y ≤ X := by
    rcases hleast with rfl | h1
    · exact Nat.le_refl _
    · unfold Less at h1; omega
  have hXS : diffN X S = 0 := diff_none fun i hb => (hsb i).2 ⟨X, by omega, heq, hcx, hb⟩
  conv => whnf
  rw [show decide ((X : Int) < (y : Int)) = false by simp; omega]
  conv => whnf
  refine ⟨_, andNot_nat (by omega) (by omega), ?_⟩
  conv => whnf
  rw [hXS]
  conv => whnf
  refine loop_by (I := fun n st => ∃ (q : Nat) (h : Heap), q ≤ t.calls.length ∧ n = t.calls.length - q ∧ Heap.at h 0 = v.blk ∧
    Has st 187 [(5, .c (I (popB y : Nat))), (6, .c (I y)), (8, .c (I S)), (12, .func (.func 37) [] [.ptr 0 0]), (154, .c (I v.cn)), (155, .c (I q))] [] none h) ?_ (k := t.calls.length)
    ⟨0, _, Nat.zero_le _, rfl, rfl, rfl, ⟨rfl, rfl, rfl, rfl, rfl, rfl, trivial⟩, rfl, rfl, rfl, rfl⟩
  rintro n st ⟨q, h, hq, rfl, h0, hs1⟩
  refine hs1.run (hm := false) ?_
  conv => whnf
  cases hc : decide ((q : Int) < (v.cn : Int))
  case false =>
    conv => whnf
    refine .ret hA rfl ?_
    conv => whnf
    exact .val
  have hq : q < t.calls.length := by simp at hc; omega
  have h2q : 2 ^ q ≤ 2 ^ 7 := Nat.pow_le_pow_right (by omega) (by omega)
  have next : q + 1 ≤ t.calls.length := by omega
  conv => whnf
  refine ⟨by omega, _, shr_nat y q (by omega), ?_⟩
  conv => whnf
  refine ⟨_, and_nat (b := 1) (Nat.lt_of_le_of_lt (Nat.shiftRight_le y q) (by omega)) (by omega), ?_⟩
  conv => whnf
  rw [bit_nat]
  cases hb : y.testBit q
  case true =>
    have hd1 := hcal (diffN y (2 ^ q)) (diffN_lt (n := 8) (by omega))
    rw [false_drop hd hi hb] at hd1
    conv => whnf
    refine ⟨by omega, ((2 ^ q : Nat) : Int), (shl_nat 1 q (by omega) (by omega)).trans (by rw [Nat.one_mul]), ?_⟩
    conv => whnf
    refine ⟨_, andNot_nat (by omega) (by omega), ?_⟩
    conv => whnf
    refine .snapped _ _ _ _ _ (snap_clos h0 _) hd1 rfl ?_
    rw [killed_b]
    conv => whnf
    refine ⟨by omega, _, shr_nat S q (by omega), ?_⟩
    conv => whnf
    refine ⟨_, and_nat (b := 1) (Nat.lt_of_le_of_lt (Nat.shiftRight_le S q) (by omega)) (by omega), ?_⟩
    conv => whnf
    rw [show (((S >>> q &&& 1 : Nat) : Int) != 1) = !(((S >>> q &&& 1 : Nat) : Int) == 1) from rfl, bit_nat, hsub q hb]
    conv => whnf
    rw [show ((popB y : Int) != 1) = !decide (popB y = 1) by by_cases h : popB y = 1 <;> simp [h] <;> omega]
    cases hone : decide (popB y = 1)
    · conv => whnf
      refine ⟨((q + 1 : Nat) : Int), by rw [wrap_eq (by omega) (by omega)]; omega, ?_⟩
      conv => whnf
      exact ⟨t.calls.length - (q + 1), by omega, q + 1, _, by omega, rfl, h0, rfl, ⟨rfl, rfl, rfl, rfl, rfl, rfl, trivial⟩, rfl, rfl, rfl, rfl⟩
    · have hd2 := hcal (2 ^ q) (by omega)
      rw [hone1 (of_decide_eq_true hone) q (by omega) (hsub q hb)] at hd2
      conv => whnf
      refine ⟨by omega, ((2 ^ q : Nat) : Int), (shl_nat 1 q (by omega) (by omega)).trans (by rw [Nat.one_mul]), ?_⟩
      conv => whnf
      refine .snapped _ _ _ _ _ (snap_clos h0 _) hd2 rfl ?_
      rw [killed_b]
      conv => whnf
      refine ⟨((q + 1 : Nat) : Int), by rw [wrap_eq (by omega) (by omega)]; omega, ?_⟩
      conv => whnf
      exact ⟨t.calls.length - (q + 1), by omega, q + 1, _, by omega, rfl, h0, rfl, ⟨rfl, rfl, rfl, rfl, rfl, rfl, trivial⟩, rfl, rfl, rfl, rfl⟩
  conv => whnf
  refine ⟨by omega, _, shr_nat S q (by omega), ?_⟩
  conv => whnf
  refine ⟨_, and_nat (b := 1) (Nat.lt_of_le_of_lt (Nat.shiftRight_le S q) (by omega)) (by omega), ?_⟩
  conv => whnf
  rw [show (((S >>> q &&& 1 : Nat) : Int) != 1) = !(((S >>> q &&& 1 : Nat) : Int) == 1) from rfl, bit_nat]
  cases hsb : S.testBit q
  · conv => whnf
    refine ⟨((q + 1 : Nat) : Int), by rw [wrap_eq (by omega) (by omega)]; omega, ?_⟩
    conv => whnf
    exact ⟨t.calls.length - (q + 1), by omega, q + 1, _, by omega, rfl, h0, rfl, ⟨rfl, rfl, rfl, rfl, rfl, rfl, trivial⟩, rfl, rfl, rfl, rfl⟩
  conv => whnf
  rw [show ((popB y : Int) != 1) = !decide (popB y = 1) by by_cases h : popB y = 1 <;> simp [h] <;> omega]
  cases hone : decide (popB y = 1)
  · conv => whnf
    refine ⟨((q + 1 : Nat) : Int), by rw [wrap_eq (by omega) (by omega)]; omega, ?_⟩
    conv => whnf
    exact ⟨t.calls.length - (q + 1), by omega, q + 1, _, by omega, rfl, h0, rfl, ⟨rfl, rfl, rfl, rfl, rfl, rfl, trivial⟩, rfl, rfl, rfl, rfl⟩
  have hd2 := hcal (2 ^ q) (by omega)
  rw [hone1 (of_decide_eq_true hone) q (by omega) hsb] at hd2
  conv => whnf
  refine ⟨by omega, ((2 ^ q : Nat) : Int), (shl_nat 1 q (by omega) (by omega)).trans (by rw [Nat.one_mul]), ?_⟩
  conv => whnf
  refine .snapped _ _ _ _ _ (snap_clos h0 _) hd2 rfl ?_
  rw [killed_b]
  conv => whnf
  refine ⟨((q + 1 : Nat) : Int), by rw [wrap_eq (by omega) (by omega)]; omega, ?_⟩
  conv => whnf
  exact ⟨t.calls.length - (q + 1), by omega, q + 1, _, by omega, rfl, h0, rfl, ⟨rfl, rfl, rfl, rfl, rfl, rfl, trivial⟩, rfl, rfl, rfl, rfl⟩
end Go.Ag
