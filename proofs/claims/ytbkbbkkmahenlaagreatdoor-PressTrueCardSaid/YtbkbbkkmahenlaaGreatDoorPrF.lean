/- The reference of layer 8: what is valid; parts of weighed bales; a press with bales of one's own. No conditions. -/
import Derived.Test.YtbkbbkkmahenlaaGreatDoorPrE
/- Layer 8: the sample that the laws ask. -/
namespace Go.Ag
open Go.Proofs
set_option maxRecDepth 100000

def smpD : Pn := ⟨[(4, 5, 0), (5, 5, 0), (3, 4, 0), (6, 7, 1), (4, 4, 1), (2, 3, 0)], 9, 12, 3, []⟩
def smpV : PV := ⟨[I 4, I 5, I 0, I 5, I 5, I 0, I 3, I 4, I 0, I 6, I 7, I 1, I 4, I 4, I 1, I 2, I 3, I 0], 0, 6, [], 0, 0⟩
def smpC : CV := .agg [.sl [I 4, I 5, I 0, I 5, I 5, I 0, I 3, I 4, I 0, I 6, I 7, I 1, I 4, I 4, I 1, I 2, I 3, I 0] 0 6, I 9, I 12, I 3, nilC]
theorem smp_good : smpD.Good := by
  refine ⟨by decide, by decide, by decide, by decide, by decide, by decide, by decide⟩
theorem smp_plan : planL smpD = [24, 37] := by decide +kernel
theorem smp_most : mostP smpD = ⟨5, 2⟩ := by decide +kernel
theorem smp_can : canP smpD = true := by decide +kernel
theorem smp_wait : (waitN smpD (orF 0 [24, 37]) 0, waitN smpD (orF 0 [24, 37]) 1, waitN smpD (orF 0 [24, 37]) 2) = (1, 0, 0) := by decide +kernel
theorem CV.Le.agg {c c' : List CV} (h : Les c c') : (CV.agg c).Le (.agg c') := fun Φ v hv => by
  obtain ⟨cs, h1, h2, h3⟩ := hv
  exact ⟨cs, h1, by rw [← les_len h]; exact h2, les_rep h h3⟩
theorem smp_le : smpC.Le (smpV.cv smpD.pr) := CV.Le.agg ⟨.refl _, .refl _, .refl _, .refl _, CV.Le.nil _ _, trivial⟩
theorem smp_is : smpV.Is smpD.pr := by
  refine ⟨⟨⟨rfl, fun i r h => ?_⟩, ⟨rfl, fun i r h => ?_⟩⟩, by decide, by decide⟩
  · rcases i with _ | _ | _ | _ | _ | _ | i
    all_goals first | (obtain rfl := Option.some.inj h; rfl) | (exfalso; have := List.getElem?_eq_some_iff.1 h; obtain ⟨h1, _⟩ := this; simp [smpD, Pn.pr] at h1; omega)
  · cases h
theorem smp_ok : okPr smpD.pr = true := by decide +kernel
theorem smp_21 : Ret Tryz.prog 21 [smpC] (.tuple [I 5, I 2, I 0]) := by
  have h := mostX_ret smp_is smp_good smp_ok
  unfold pOf eOf at h
  rw [if_pos smp_can, if_pos smp_can, smp_most] at h
  exact h.args ⟨smp_le, trivial⟩
theorem smp_23 : Ret Tryz.prog 23 [smpC] (.tuple [.sl [I 24, I 37] 0 2, I 0]) := by
  have h := planX_ret smp_is smp_good smp_ok
  unfold lOf eOf at h
  rw [if_pos smp_can, if_pos smp_can, smp_plan] at h
  exact h.args ⟨smp_le, trivial⟩
theorem smp_25 : Ret Tryz.prog 25 [smpC] (.tuple [.agg [I 1, I 0, I 0], I 0]) := by
  have h := waitX_ret smp_is smp_good smp_ok
  unfold wtOf eOf at h
  rw [if_pos smp_can, if_pos smp_can, if_pos smp_can, if_pos smp_can, smp_plan] at h
  have h2 := smp_wait
  rw [Prod.mk.injEq, Prod.mk.injEq] at h2
  rw [h2.1, h2.2.1, h2.2.2] at h
  exact h.args ⟨smp_le, trivial⟩
end Go.Ag
/- Layer 8: what is valid, as the reference asks. -/
namespace Go.Ag
open Go.Proofs
set_option maxRecDepth 100000

def powE (n : Nat) : Known := ⟨59, [I n], I (2 ^ n : Nat)⟩
theorem pow_tab : ((List.range 11).all fun n => tells cfg0 2000 (powE n)) = true := by kernel_rfl
theorem power_ret {n : Nat} (h : n ≤ 10) : Ret Tryz.prog 59 [I n] (I (2 ^ n : Nat)) := by
  have := List.all_eq_true.1 pow_tab n (List.mem_range.2 (by omega))
  exact tells_ok (C := cfg0) (e := powE n) mix con0 this
theorem in72_ret (n lo hi : Int) : Ret Tryz.prog 72 [I n, I lo, I hi] (B (inB' n lo hi)) := by
  refine ret_by (hm := true) Tryz.func72 rfl ?_
  conv => whnf
  unfold inB'
  cases h : decide (lo ≤ n)
  · conv => whnf
    exact .val
  · conv => whnf
    exact .val
theorem span73_ret (lo hi top : Int) : Ret Tryz.prog 73 [.agg [I lo, I hi], I 1, I top] (B (spB lo hi top)) := by
  unfold spB
  refine ret_by (hm := true) Tryz.func73 rfl ?_
  conv => whnf
  cases h : decide (1 ≤ lo)
  · conv => whnf
    exact .val
  conv => whnf
  cases h1 : decide (lo ≤ hi)
  · conv => whnf
    exact .val
  conv => whnf
  exact .val
theorem every74_ret {v : PV} {c : Pr} (hv : v.Is c) (hn : c.fl.length ≤ 10) : Ret Tryz.prog 74 [v.cv c] (I ((2 ^ c.fl.length - 1 : Nat) : Int)) := by
  have e1 := hv.fn
  have p10 := pow10 hn
  refine ret_by (hm := true) Tryz.func74 rfl ?_
  conv => whnf
  rw [e1]
  refine .ret (power_ret hn) rfl ?_
  conv => whnf
  refine ⟨((2 ^ c.fl.length - 1 : Nat) : Int), by rw [wrap_eq (by omega) (by omega)]; omega, ?_⟩
  conv => whnf
  exact .val
theorem has_ret {x i : Nat} (hx : x < 1024) (hi : i ≤ 10) : Ret Tryz.prog 58 [I x, I i] (B (x.testBit i)) := by
  have p10 := pow10 hi
  have hd : x / 2 ^ i ≤ x := Nat.div_le_self _ _
  refine ret_by (hm := true) Tryz.func58 rfl ?_
  conv => whnf
  refine .ret (power_ret hi) rfl ?_
  conv => whnf
  refine ⟨by omega, ((x / 2 ^ i : Nat) : Int), by rw [show ((x : Nat) : Int).tdiv ((2 ^ i : Nat) : Int) = ((x / 2 ^ i : Nat) : Int) from rfl]; exact wrap_eq (Int.le_trans (by decide) (Int.natCast_nonneg _)) (by omega), ?_⟩
  conv => whnf
  refine ⟨by decide, ((x / 2 ^ i % 2 : Nat) : Int), rfl, ?_⟩
  conv => whnf
  rw [show ((((x / 2 ^ i % 2 : Nat)) : Int) == 1) = x.testBit i by rw [Nat.testBit_eq_decide_div_mod_eq, Bool.eq_iff_iff, beq_iff_eq, decide_eq_true_eq]; omega]
  exact .val
def apL (x y : Nat) (i : Nat) : Bool := !(x.testBit i && y.testBit i)
theorem ap_iff {x y : Nat} (hx : x < 1024) : (List.range 10).all (apL x y) = (x &&& y == 0) := by
  rw [Bool.eq_iff_iff, List.all_eq_true, beq_iff_eq]
  constructor
  · intro h
    refine bits_zero fun i => ?_
    rw [Nat.testBit_and]
    by_cases hi : i < 10
    · have := h i (List.mem_range.2 hi)
      unfold apL at this
      rw [Bool.not_eq_true'] at this
      exact this
    · rw [Nat.testBit_lt_two_pow (Nat.lt_of_lt_of_le hx (Nat.pow_le_pow_right (n := 2) (i := 10) (by omega) (by omega))), Bool.false_and]
  · intro h i _
    have := Nat.testBit_and x y i
    rw [h, Nat.zero_testBit] at this
    unfold apL
    rw [← this]; rfl
theorem apart_ret {x y : Nat} (hx : x < 1024) (hy : y < 1024) : Ret Tryz.prog 75 [I x, I y] (B (x &&& y == 0)) := by
  rw [← ap_iff hx]
  refine ret_by (hm := false) Tryz.func75 rfl ?_
  conv => whnf
  refine loop_by (I := fun m st => ∃ (q : Nat) (h : Heap), q ≤ 10 ∧ m = 10 - q ∧ (List.range 10).all (apL x y) = ((List.range 10).drop q).all (apL x y) ∧ Has st 18 [(0, .c (I x)), (1, .c (I y)), (5, .c (I q))] [] none h) ?_ (k := 10)
    ⟨0, _, Nat.zero_le _, rfl, rfl, rfl, ⟨rfl, rfl, rfl, trivial⟩, rfl, rfl, rfl, rfl⟩
  rintro m st ⟨q, h, hq, rfl, hall, hs1⟩
  refine hs1.run (hm := false) ?_
  conv => whnf
  cases hcq : decide ((q : Int) < 10)
  case false =>
    have : q = 10 := by simp at hcq; omega
    subst this
    rw [hall]
    conv => whnf
    exact .val
  have hq : q < 10 := by simp at hcq; omega
  rw [drop_get (x := q) (by rw [List.getElem?_range hq]), List.all_cons] at hall
  conv => whnf
  refine .ret (has_ret hx (by omega)) rfl ?_
  conv => whnf
  cases h1 : x.testBit q
  · rw [show apL x y q = true by unfold apL; rw [h1]; rfl, Bool.true_and] at hall
    conv => whnf
    refine ⟨((q + 1 : Nat) : Int), by rw [wrap_eq (by omega) (by omega)]; omega, ?_⟩
    conv => whnf
    exact ⟨10 - (q + 1), by omega, q + 1, _, by omega, rfl, hall, rfl, ⟨rfl, rfl, rfl, trivial⟩, rfl, rfl, rfl, rfl⟩
  conv => whnf
  refine .ret (has_ret hy (by omega)) rfl ?_
  conv => whnf
  cases h2 : y.testBit q
  · rw [show apL x y q = true by unfold apL; rw [h1, h2]; rfl, Bool.true_and] at hall
    conv => whnf
    refine ⟨((q + 1 : Nat) : Int), by rw [wrap_eq (by omega) (by omega)]; omega, ?_⟩
    conv => whnf
    exact ⟨10 - (q + 1), by omega, q + 1, _, by omega, rfl, hall, rfl, ⟨rfl, rfl, rfl, trivial⟩, rfl, rfl, rfl, rfl⟩
  rw [show apL x y q = false by unfold apL; rw [h1, h2]; rfl, Bool.false_and] at hall
  rw [hall]
  conv => whnf
  exact .val
/-- Each bale that was weighed, after some others. -/
def chkW (n : Nat) : List Nat → List (Int × Int × Int) → Bool
  | _, [] => true
  | done, b :: l => (inB' b.1 1 ((2 ^ n - 1 : Nat) : Int) && (spB b.2.1 b.2.2 200 && done.all fun r => b.1.toNat &&& r == 0)) && chkW n (done ++ [b.1.toNat]) l
theorem chkW_cons (n : Nat) (done : List Nat) (b : Int × Int × Int) (l : List (Int × Int × Int)) : chkW n done (b :: l) = ((inB' b.1 1 ((2 ^ n - 1 : Nat) : Int) && (spB b.2.1 b.2.2 200 && done.all fun r => b.1.toNat &&& r == 0)) && chkW n (done ++ [b.1.toNat]) l) := rfl
theorem and_or0 {x t b : Nat} : (x &&& (t ||| b) = 0) ↔ (x &&& t = 0 ∧ x &&& b = 0) := by
  rw [Nat.and_or_distrib_left, Nat.or_eq_zero_iff]
theorem chk_eq (n : Nat) : ∀ (l : List (Int × Int × Int)) (t : Nat) (done : List Nat), (∀ x, x &&& t = 0 ↔ ∀ r ∈ done, x &&& r = 0) → chkW n done l = okWs n t l
  | [], _, _, _ => rfl
  | b :: l, t, done, h => by
    rw [okWs_cons]
    unfold chkW
    rw [chk_eq n l (t ||| b.1.toNat) (done ++ [b.1.toNat]) (fun x => by
      rw [and_or0, h x]
      constructor
      · rintro ⟨h1, h2⟩ r hr
        rcases List.mem_append.1 hr with hr | hr
        · exact h1 r hr
        · rw [List.mem_singleton.1 hr]; exact h2
      · exact fun h1 => ⟨fun r hr => h1 r (List.mem_append.2 (.inl hr)), h1 _ (List.mem_append.2 (.inr (by simp)))⟩)]
    congr 1
    have hp := Nat.one_le_two_pow (n := n)
    have h1 : (done.all fun r => b.1.toNat &&& r == 0) = !(((((b.1.toNat &&& t : Nat)) : Int)) != 0) := by
      rw [Bool.eq_iff_iff, List.all_eq_true]
      simp only [beq_iff_eq, Bool.not_eq_true', bne_eq_false_iff_eq]
      rw [← h]; omega
    rw [← h1]
    unfold setB inB'
    rw [Bool.eq_iff_iff]
    simp only [Bool.and_eq_true, decide_eq_true_eq, Bool.not_eq_true', beq_eq_false_iff_ne]
    constructor
    · rintro ⟨⟨a, b⟩, c, d⟩; exact ⟨by omega, ⟨by omega, b⟩, d, c⟩
    · rintro ⟨a, ⟨b, c⟩, d, e⟩; exact ⟨⟨by omega, c⟩, e, d⟩
def preP (c : Pr) : Bool := !decide ((c.fl.length : Int) > 10) && (inB' c.low 1 200 && (inB' c.top c.low 200 && (inB' c.bales 0 5 && !decide ((c.wd.length : Int) > 4))))
theorem okPr_eq (c : Pr) : okPr c = (preP c && (c.fl.all okF && chkW c.fl.length [] c.wd)) := by
  rw [chk_eq _ _ 0 [] (fun x => by simp)]
  unfold okPr preP okFs spB inB'
  rw [Bool.eq_iff_iff]
  simp only [Bool.and_eq_true, decide_eq_true_eq, Bool.not_eq_true', decide_eq_false_iff_not]
  constructor
  · rintro ⟨⟨a, b⟩, ⟨c1, c2, c3⟩, d, e, f⟩; exact ⟨⟨a, ⟨c1, by omega⟩, ⟨c2, c3⟩, d, e⟩, b, f⟩
  · rintro ⟨⟨a, ⟨b1, b2⟩, ⟨c1, c2⟩, d, e⟩, f, g⟩; exact ⟨⟨a, f⟩, ⟨b1, c1, c2⟩, d, e, g⟩
set_option maxHeartbeats 4000000 in
theorem refPress_ret {v : PV} {c : Pr} (hv : v.Is c) : Ret Tryz.prog 36 [v.cv c] (B (okPr c)) := by
  have e1 := hv.fn; have e2 := hv.wn; have s1 := hv.sf; have s2 := hv.sw
  rw [okPr_eq]
  unfold preP
  rw [← e1, ← e2]
  refine ret_then (hm := false) Tryz.func36 rfl ?_
  conv => whnf
  refine then_seq (hm := false) ?_
  conv => whnf
  refine then_seq (hm := false) ?_
  conv => whnf
  refine ⟨_, rfl, ?_⟩
  conv => whnf
  cases h1 : decide ((v.fn : Int) > 10)
  case true =>
    conv => whnf
    exact .val
  conv => whnf
  refine ⟨_, rfl, ?_⟩
  conv => whnf
  refine .ret (in72_ret _ _ _) rfl ?_
  conv => whnf
  cases h2 : inB' c.low 1 200
  · conv => whnf
    exact .val
  conv => whnf
  refine ⟨_, rfl, ?_⟩
  conv => whnf
  refine ⟨_, rfl, ?_⟩
  conv => whnf
  refine .ret (in72_ret _ _ _) rfl ?_
  conv => whnf
  cases h3 : inB' c.top c.low 200
  · conv => whnf
    exact .val
  conv => whnf
  refine ⟨_, rfl, ?_⟩
  conv => whnf
  refine .ret (in72_ret _ _ _) rfl ?_
  conv => whnf
  cases h4 : inB' c.bales 0 5
  · conv => whnf
    exact .val
  conv => whnf
  refine ⟨_, rfl, ?_⟩
  conv => whnf
  cases h5 : decide ((v.wn : Int) > 4)
  case true =>
    conv => whnf
    exact .val
  rw [show (!false && (true && (true && (true && !false))) && (c.fl.all okF && chkW v.fn [] c.wd)) = (c.fl.all okF && chkW v.fn [] c.wd) from rfl]
  have hn10 : c.fl.length ≤ 10 := by have := of_decide_eq_false h1; omega
  have hw4 : c.wd.length ≤ 4 := by have := of_decide_eq_false h5; omega
  have p10 := pow10 hn10
  clear h1 h2 h3 h4 h5
  conv => whnf
  refine then_via (hm := false) (fun st => c.fl.all okF = true ∧ ∃ h : Heap, Heap.at h 0 = v.blk c ∧ 0 < h.n ∧ Has st 109 [(1, .ptr 0 0)] [] none h) ?_ ?_
  · skip
    conv => whnf
    refine loop_by (I := fun m st => ∃ (q : Nat) (h : Heap), q ≤ c.fl.length ∧ m = c.fl.length - q ∧ c.fl.all okF = (c.fl.drop q).all okF ∧ Heap.at h 0 = v.blk c ∧ 0 < h.n ∧ Has st 109 [(1, .ptr 0 0), (3, .c (I q))] [] none h) ?_ (k := c.fl.length)
      ⟨0, _, Nat.zero_le _, rfl, rfl, rfl, Nat.lt_succ_self 0, rfl, ⟨rfl, rfl, trivial⟩, rfl, rfl, rfl, rfl⟩
    rintro m st ⟨q, h, hq, rfl, hall, h0, hlt, hs1⟩
    refine hs1.run (hm := false) ?_
    conv => whnf
    refine ⟨_, h0, ?_⟩
    conv => whnf
    cases hcq : decide ((q : Int) < (v.fn : Int))
    case false =>
      have : q = c.fl.length := by simp at hcq; omega
      subst this
      rw [List.drop_length] at hall
      conv => whnf
      exact ⟨hall, h, h0, hlt, rfl, ⟨rfl, trivial⟩, rfl, rfl, rfl, rfl⟩
    have hq : q < c.fl.length := by simp at hcq; omega
    obtain ⟨r, hr⟩ := get_some hq
    rw [drop_get hr, List.all_cons] at hall
    have hbr : okF r = (spB r.1 r.2.1 20 && (!decide (r.2.1 - r.1 > 3) && inB' r.2.2 0 2)) := rfl
    conv => whnf
    refine ⟨_, h0, ?_⟩
    conv => whnf
    refine ⟨⟨by omega, by omega⟩, ?_⟩
    conv => whnf
    refine ⟨_, hv.fleece hr, ?_⟩
    conv => whnf
    refine ⟨_, at_push_self _ _, ?_⟩
    conv => whnf
    generalize hH2 : TMap.set AB.dead (TMap.push AB.dead h _) _ _ = H2
    have d0 : Heap.at H2 0 = v.blk c := by rw [← hH2]; exact (at_old _ _ _ hlt).trans h0
    have d2 : Heap.at H2 h.n = .blk [.c (I r.1), .c (I r.2.1), .c (I r.2.2)] := by rw [← hH2]; exact at_new _ _ _
    have d3 : 0 < H2.n := by rw [← hH2, TMap.set_n, push_n]; omega
    clear hH2
    refine ⟨_, d2, ?_⟩
    conv => whnf
    refine .ret (span73_ret r.1 r.2.1 20) rfl ?_
    conv => whnf
    cases h1 : spB r.1 r.2.1 20
    · rw [hbr, h1, Bool.false_and, Bool.false_and] at hall
      rw [hall]
      conv => whnf
      exact .val
    have hs := spB_iff.1 h1
    rw [hbr, h1, Bool.true_and] at hall
    conv => whnf
    refine ⟨_, d2, ?_⟩
    conv => whnf
    refine ⟨_, d2, ?_⟩
    conv => whnf
    refine ⟨r.2.1 - r.1, by rw [wrap_eq (by omega) (by omega)], ?_⟩
    conv => whnf
    cases h2 : decide (r.2.1 - r.1 > 3)
    case true =>
      rw [h2] at hall
      rw [hall]
      conv => whnf
      exact .val
    rw [h2] at hall
    conv => whnf
    refine ⟨_, d2, ?_⟩
    conv => whnf
    refine .ret (in72_ret r.2.2 0 2) rfl ?_
    conv => whnf
    cases h3 : inB' r.2.2 0 2
    · rw [h3] at hall
      rw [hall]
      conv => whnf
      exact .val
    rw [h3] at hall
    conv => whnf
    refine ⟨((q + 1 : Nat) : Int), by rw [wrap_eq (by omega) (by omega)]; omega, ?_⟩
    conv => whnf
    exact ⟨c.fl.length - (q + 1), by omega, q + 1, H2, by omega, rfl, by rw [hall]; rfl, d0, d3, rfl, ⟨rfl, rfl, trivial⟩, rfl, rfl, rfl, rfl⟩
  rintro st ⟨hall, h, h0, hlt, hs1⟩
  rw [hall, Bool.true_and, e1]
  clear hall
  refine hs1.then ?_
  have hev := every74_ret hv hn10
  refine then_via (hm := false) (fun st => chkW c.fl.length [] c.wd = true ∧ ∃ h : Heap, Has st 109 [] [] none h) ?_ ?_
  rotate_left
  · rintro st ⟨hall, h, hs1⟩
    refine hs1.then ?_
    rw [hall]
    refine then_end (hm := false) ?_
    conv => whnf
    exact .val
  conv => whnf
  refine loop_by (I := fun m st => ∃ (q : Nat) (h : Heap), q ≤ c.wd.length ∧ m = c.wd.length - q ∧ chkW c.fl.length [] c.wd = chkW c.fl.length ((c.wd.take q).map fun (x : Int × Int × Int) => x.1.toNat) (c.wd.drop q) ∧ (∀ x : Int × Int × Int, x ∈ c.wd.take q → ∃ a : Nat, x.1 = (a : Int) ∧ a < 1024) ∧ Heap.at h 0 = v.blk c ∧ 0 < h.n ∧ Has st 109 [(1, .ptr 0 0), (5, .c (I q))] [] none h) ?_ (k := c.wd.length)
    ⟨0, h, Nat.zero_le _, rfl, rfl, (fun x hx => by cases hx), h0, hlt, rfl, ⟨rfl, rfl, trivial⟩, rfl, rfl, rfl, rfl⟩
  clear h0 hlt hs1 h
  rintro m st ⟨q, h, hq, rfl, hall, hin, h0, hlt, hs1⟩
  refine hs1.run (hm := false) ?_
  conv => whnf
  refine ⟨_, h0, ?_⟩
  conv => whnf
  cases hcq : decide ((q : Int) < (v.wn : Int))
  case false =>
    have : q = c.wd.length := by simp at hcq; omega
    subst this
    rw [List.drop_length] at hall
    conv => whnf
    exact ⟨hall, h, rfl, trivial, rfl, rfl, rfl, rfl⟩
  have hq : q < c.wd.length := by simp at hcq; omega
  obtain ⟨r, hr⟩ := get_some hq
  rw [drop_get hr, chkW_cons] at hall
  conv => whnf
  refine ⟨_, h0, ?_⟩
  conv => whnf
  refine ⟨⟨by omega, by omega⟩, ?_⟩
  conv => whnf
  refine ⟨_, hv.bale hr, ?_⟩
  conv => whnf
  refine ⟨_, at_push_self _ _, ?_⟩
  conv => whnf
  generalize hH2 : TMap.set AB.dead (TMap.push AB.dead h _) _ _ = H2
  have d0 : Heap.at H2 0 = v.blk c := by rw [← hH2]; exact (at_old _ _ _ hlt).trans h0
  have d2 : Heap.at H2 h.n = .blk [.c (I r.1), .c (I r.2.1), .c (I r.2.2)] := by rw [← hH2]; exact at_new _ _ _
  have d3 : 0 < H2.n := by rw [← hH2, TMap.set_n, push_n]; omega
  have d4 : h.n < H2.n := by rw [← hH2, TMap.set_n, push_n]; omega
  clear hH2
  refine draw_by (hm := false) (by kernel_rfl) (by kernel_rfl) ?_
  conv => whnf
  refine ⟨_, d2, ?_⟩
  conv => whnf
  refine ⟨_, d0, ?_⟩
  conv => whnf
  refine .pure _ _ rfl (hev) ?_
  conv => whnf
  refine .pure _ _ rfl (in72_ret r.1 1 _) ?_
  conv => whnf
  cases h1 : inB' r.1 1 ((2 ^ c.fl.length - 1 : Nat) : Int)
  · rw [h1, Bool.false_and, Bool.false_and] at hall
    rw [hall]
    conv => whnf
    refine ⟨by kernel_rfl, ?_⟩
    conv => whnf
    exact .val
  rw [h1, Bool.true_and] at hall
  obtain ⟨a, ha, ha2⟩ : ∃ a : Nat, r.1 = a ∧ a < 1024 := by
    unfold inB' at h1
    simp only [Bool.and_eq_true, decide_eq_true_eq] at h1
    exact ⟨r.1.toNat, by omega, by omega⟩
  rw [ha, Int.toNat_natCast] at hall
  rw [ha] at d2
  conv => whnf
  refine ⟨_, d2, ?_⟩
  conv => whnf
  refine .pure _ _ rfl (span73_ret r.2.1 r.2.2 200) ?_
  conv => whnf
  cases h2 : spB r.2.1 r.2.2 200
  · rw [h2, Bool.false_and, Bool.false_and] at hall
    rw [hall]
    refine ⟨by kernel_rfl, ?_⟩
    conv => whnf
    exact .val
  rw [h2, Bool.true_and] at hall
  refine ⟨by kernel_rfl, ?_⟩
  conv => whnf
  obtain ⟨done, hdone⟩ : ∃ done : List Nat, done = (c.wd.take q).map fun (x : Int × Int × Int) => x.1.toNat := ⟨_, rfl⟩
  have hdl : done.length = q := by rw [hdone, List.length_map, List.length_take]; omega
  have hdi : ∀ (k b : Nat), done[k]? = some b → ∃ x : Int × Int × Int, c.wd[k]? = some x ∧ x.1 = ((b : Nat) : Int) ∧ b < 1024 := by
    intro k b hk
    rw [hdone, List.getElem?_map] at hk
    obtain ⟨x, hx, rfl⟩ := Option.map_eq_some_iff.1 hk
    obtain ⟨a, ha, ha2⟩ := hin x (List.mem_of_getElem? hx)
    rw [List.getElem?_take] at hx
    split at hx
    · exact ⟨x, hx, by rw [ha]; simp, by rw [ha]; simpa using ha2⟩
    · cases hx
  rw [← hdone] at hall
  refine loop_by (I := fun m st => ∃ (k : Nat) (h' : Heap), k ≤ q ∧ m = q - k ∧ (done.all fun r => a &&& r == 0) = ((done.drop k).all fun r => a &&& r == 0) ∧ Heap.at h' 0 = v.blk c ∧ 0 < h'.n ∧ Heap.at h' h.n = .blk [.c (I a), .c (I r.2.1), .c (I r.2.2)] ∧ h.n < h'.n ∧ Has st 109 [(1, .ptr 0 0), (5, .c (I q)), (6, .ptr h.n 0), (7, .c (I k))] [] none h') ?_ (k := q)
    ⟨0, H2, Nat.zero_le _, rfl, rfl, d0, d3, d2, d4, rfl, ⟨rfl, rfl, rfl, rfl, trivial⟩, rfl, rfl, rfl, rfl⟩
  clear d0 d2 d3 d4 hs1
  rintro m st ⟨k, h', hk, rfl, hal, g0, glt, g2, gn2, hs1⟩
  refine hs1.run (hm := false) ?_
  conv => whnf
  cases hck : decide ((k : Int) < (q : Int))
  case false =>
    have : k = q := by simp at hck; omega
    subst this
    rw [← hdl, List.drop_length] at hal
    rw [hal, List.all_nil, Bool.true_and] at hall
    conv => whnf
    refine ⟨((k + 1 : Nat) : Int), by rw [wrap_eq (by omega) (by omega)]; omega, ?_⟩
    conv => whnf
    have htk : c.wd.take (k + 1) = c.wd.take k ++ [r] := by rw [List.take_add_one, hr]; rfl
    exact ⟨c.wd.length - (k + 1), by omega, k + 1, h', by omega, rfl, by rw [hall, htk, List.map_append, ← hdone, List.map_cons, List.map_nil, ha, Int.toNat_natCast], by
      rw [htk]
      intro x hx
      rcases List.mem_append.1 hx with hx | hx
      · exact hin x hx
      · rw [List.mem_singleton.1 hx]; exact ⟨a, ha, ha2⟩, g0, glt, rfl, ⟨rfl, rfl, trivial⟩, rfl, rfl, rfl, rfl⟩
  have hkq : k < q := by simp at hck; omega
  obtain ⟨b, hb⟩ := get_some (l := done) (k := k) (by omega)
  obtain ⟨x, hx1, hx2, hx3⟩ := hdi k b hb
  rw [drop_get hb, List.all_cons] at hal
  have hrow := hv.w.row k (rowF x) (by rw [List.getElem?_map, hx1]; rfl)
  have hcell : readVarC Tryz.prog 3 v.wc (v.ow + (k : Int).toNat * 3 + 0) = some (I (b : Nat)) := by
    have := sliceOf_get hrow (j := 0) (by omega)
    rw [Int.toNat_natCast, rv3, this]
    show some (I x.1) = _
    rw [hx2]
  conv => whnf
  refine draw_by (hm := false) (by kernel_rfl) (by kernel_rfl) ?_
  conv => whnf
  refine ⟨_, g2, ?_⟩
  conv => whnf
  refine ⟨_, g0, ?_⟩
  conv => whnf
  refine ⟨⟨by omega, by omega⟩, ?_⟩
  conv => whnf
  refine ⟨_, hcell, ?_⟩
  conv => whnf
  refine .pure _ _ rfl (apart_ret ha2 hx3) ?_
  conv => whnf
  cases h3 : (a &&& b == 0)
  · rw [h3, Bool.false_and] at hal
    rw [hal, Bool.false_and] at hall
    rw [hall]
    refine ⟨by kernel_rfl, ?_⟩
    conv => whnf
    exact .val
  rw [h3, Bool.true_and] at hal
  refine ⟨by kernel_rfl, ?_⟩
  conv => whnf
  refine ⟨((k + 1 : Nat) : Int), by rw [wrap_eq (by omega) (by omega)]; omega, ?_⟩
  conv => whnf
  exact ⟨q - (k + 1), by omega, k + 1, h', by omega, rfl, hal, g0, glt, g2, gn2, rfl, ⟨rfl, rfl, rfl, rfl, trivial⟩, rfl, rfl, rfl, rfl⟩
end Go.Ag
/- Layer 8: valid presses as data; far, fine, every. -/
namespace Go.Ag
open Go.Proofs
set_option maxRecDepth 100000

theorem okWs_all {n : Nat} : ∀ {l : List (Int × Int × Int)} {t : Nat}, okWs n t l = true → (∀ b ∈ l, ∃ a : Nat, b.1 = (a : Int) ∧ 1 ≤ a ∧ a < 2 ^ n ∧ a &&& t = 0 ∧ 1 ≤ b.2.1 ∧ b.2.1 ≤ b.2.2 ∧ b.2.2 ≤ 200) ∧ l.Pairwise (fun a b => a.1.toNat &&& b.1.toNat = 0)
  | [], _, _ => ⟨(fun _ h => by cases h), List.Pairwise.nil⟩
  | b :: l, t, h => by
    rw [okWs_cons] at h
    simp only [Bool.and_eq_true, Bool.not_eq_true', beq_eq_false_iff_ne, bne_eq_false_iff_eq] at h
    obtain ⟨⟨h1, h2, h3, h4⟩, h5⟩ := h
    obtain ⟨a, ha, ha2⟩ := setB_iff.1 h2
    have h4 := spB_iff.1 h4
    obtain ⟨k1, k2⟩ := okWs_all h5
    have ht : b.1.toNat = a := by rw [ha]; rfl
    refine ⟨fun x hx => ?_, List.Pairwise.cons (fun x hx => ?_) k2⟩
    · rcases List.mem_cons.1 hx with rfl | hx
      · exact ⟨a, ha, by omega, ha2, by rw [ht] at h3; omega, h4⟩
      · obtain ⟨a', p1, p2, p3, p4, p5⟩ := k1 x hx
        exact ⟨a', p1, p2, p3, (and_or0.1 p4).1, p5⟩
    · obtain ⟨a', p1, p2, p3, p4, p5⟩ := k1 x hx
      rw [Nat.and_comm, p1, Int.toNat_natCast]
      exact (and_or0.1 p4).2
theorem good_of {c : Pr} (h : okPr c = true) : ∃ d : Pn, d.pr = c ∧ d.Good := by
  unfold okPr okFs at h
  simp only [Bool.and_eq_true, Bool.not_eq_true', decide_eq_false_iff_not] at h
  obtain ⟨⟨h1, h2⟩, h3, h4, h5, h6⟩ := h
  have h3 := spB_iff.1 h3
  unfold inB' at h4
  simp only [Bool.and_eq_true, decide_eq_true_eq] at h4
  have hf : ∀ x ∈ c.fl, 1 ≤ x.1 ∧ x.1 ≤ x.2.1 ∧ x.2.1 ≤ 20 ∧ x.2.1 - x.1 ≤ 3 ∧ 0 ≤ x.2.2 ∧ x.2.2 ≤ 2 := by
    intro x hx
    have := List.all_eq_true.1 h2 x hx
    unfold okF inB' at this
    simp only [Bool.and_eq_true, Bool.not_eq_true', decide_eq_false_iff_not, decide_eq_true_eq] at this
    obtain ⟨p1, p2, p3⟩ := this
    have p1 := spB_iff.1 p1
    omega
  obtain ⟨hw, hp⟩ := okWs_all h6
  refine ⟨⟨c.fl.map fun x => (x.1, x.2.1, x.2.2.toNat), c.low, c.top, c.bales.toNat, c.wd.map fun b => (b.1.toNat, b.2.1, b.2.2)⟩, ?_, ?_⟩
  · obtain ⟨fl, low, top, bales, wd⟩ := c
    unfold Pn.pr
    simp only [List.map_map, Pr.mk.injEq]
    refine ⟨?_, trivial, trivial, by dsimp only at h4; omega, ?_⟩
    · refine (List.map_congr_left fun x hx => ?_).trans (List.map_id _)
      have := hf x hx
      show (x.1, x.2.1, ((x.2.2.toNat : Nat) : Int)) = x
      rw [Int.toNat_of_nonneg (by omega)]
    · refine (List.map_congr_left fun x hx => ?_).trans (List.map_id _)
      obtain ⟨a, ha, _⟩ := hw x hx
      show (((x.1.toNat : Nat) : Int), x.2.1, x.2.2) = x
      rw [Int.toNat_of_nonneg (by omega)]
  · refine ⟨by show (c.fl.map _).length ≤ 10; rw [List.length_map]; omega, ?_, by show (c.wd.map _).length ≤ 4; rw [List.length_map]; omega, ?_, ?_, ⟨h3.1, h3.2.1, h3.2.2⟩, by show c.bales.toNat ≤ 5; omega⟩
    · intro x hx
      obtain ⟨y, hy, rfl⟩ := List.mem_map.1 hx
      have := hf y hy
      refine ⟨this.1, this.2.1, this.2.2.1, this.2.2.2.1, ?_⟩
      show y.2.2.toNat ≤ 2
      omega
    · intro x hx
      obtain ⟨y, hy, rfl⟩ := List.mem_map.1 hx
      obtain ⟨a, ha, p1, p2, p3, p4⟩ := hw y hy
      show 1 ≤ y.1.toNat ∧ y.1.toNat < 2 ^ (c.fl.map _).length ∧ _
      rw [ha, Int.toNat_natCast, List.length_map]
      exact ⟨p1, p2, p4⟩
    · exact List.pairwise_map.2 hp
def farB (c : Pr) : Bool := decide (max ((c.fl.length : Nat) : Int) (c.wd.length : Nat) > 40)
theorem far_ret {v : PV} {c : Pr} (hv : v.IsL c) : Ret Tryz.prog 35 [v.cv c] (B (farB c)) := by
  have e1 := hv.fn; have e2 := hv.wn
  unfold farB
  rw [← e1, ← e2]
  refine ret_by (hm := true) Tryz.func35 rfl ?_
  conv => whnf
  exact .val
theorem fine_ret {v : PV} {c : Pr} (hv : v.Is c) : Ret Tryz.prog 28 [v.cv c] (B (!farB c && okPr c)) := by
  have h1 := far_ret hv.toIsL
  have h2 := refPress_ret hv
  refine ret_by (hm := true) Tryz.func28 rfl ?_
  conv => whnf
  refine .ret (h1) rfl ?_
  conv => whnf
  cases h : farB c
  · conv => whnf
    refine .ret (h2) rfl ?_
    conv => whnf
    exact .val
  · conv => whnf
    exact .val
theorem fine_far {v : PV} {c : Pr} (hv : v.IsL c) (h : farB c = true) : Ret Tryz.prog 28 [v.cv c] (B false) := by
  have h1 := far_ret hv
  rw [h] at h1
  refine ret_by (hm := true) Tryz.func28 rfl ?_
  conv => whnf
  refine .ret (h1) rfl ?_
  conv => whnf
  exact .val
theorem every_ret {v : PV} {c : Pr} (hv : v.Is c) (hn : c.fl.length ≤ 10) : Ret Tryz.prog 30 [v.cv c] (I ((2 ^ c.fl.length - 1 : Nat) : Int)) := by
  have e1 := hv.fn
  have p10 := pow10 hn
  refine ret_by (hm := true) Tryz.func30 rfl ?_
  conv => whnf
  rw [e1]
  refine ⟨by omega, _, shl_nat 1 c.fl.length (by omega) (by omega), ?_⟩
  conv => whnf
  rw [Nat.one_mul]
  refine ⟨((2 ^ c.fl.length - 1 : Nat) : Int), by rw [wrap_eq (by omega) (by omega)]; omega, ?_⟩
  conv => whnf
  exact .val
theorem span37_ret (a b : Int) : Ret Tryz.prog 37 [I a, I b] (.agg [I a, I b]) := by
  refine ret_by (hm := true) Tryz.func37 rfl ?_
  conv => whnf
  exact .val
theorem IsL.cases {v : PV} {c : Pr} (h : v.IsL c) : v.Is c ∨ farB c = true := by
  by_cases h1 : c.fl.length ≤ 1000
  · by_cases h2 : c.wd.length ≤ 1000
    · exact .inl ⟨h, h1, h2⟩
    · exact .inr (by unfold farB; rw [decide_eq_true_eq]; omega)
  · exact .inr (by unfold farB; rw [decide_eq_true_eq]; omega)
end Go.Ag
/- Layer 8: parts (mathematics). -/
namespace Go.Ag
open Go.Proofs
set_option maxRecDepth 100000

/-- Two together, and all of it. -/
def relW (a b w : Wt) : Prop := a.lo + b.lo ≤ w.lo ∧ w.hi ≤ a.hi + b.hi ∧ w.lo ≤ a.lo + b.hi ∧ a.hi + b.lo ≤ w.hi
theorem relW_add {a b w a' b' w' : Wt} (h : relW a b w) (h' : relW a' b' w') : relW (addW a a') (addW b b') (addW w w') := by
  unfold relW addW at *; dsimp only; omega
theorem relW_sum {f g k : Nat × Int × Int → Wt} : ∀ {l : List (Nat × Int × Int)}, (∀ b ∈ l, relW (f b) (g b) (k b)) → relW (sumW (l.map f)) (sumW (l.map g)) (sumW (l.map k))
  | [], _ => by unfold relW; simp [sumW_nil]
  | b :: l, h => by
    rw [List.map_cons, List.map_cons, List.map_cons, sumW_cons, sumW_cons, sumW_cons]
    exact relW_add (h b (by simp)) (relW_sum fun x hx => h x (List.mem_cons_of_mem _ hx))
theorem and_bit (a b i : Nat) : (a &&& b).testBit i = (a.testBit i && b.testBit i) := Nat.testBit_and a b i
theorem split_T (d : Pn) (b s : Nat) : T' d b = addW (T' d (b &&& s)) (T' d (diffN b s)) := by
  rw [← T_or]
  · congr 1
    refine Nat.eq_of_testBit_eq fun i => ?_
    rw [Nat.testBit_or, and_bit, diffN_bit]
    cases b.testBit i <;> cases s.testBit i <;> rfl
  · refine bits_zero fun i => ?_
    rw [and_bit, and_bit, diffN_bit]
    cases b.testBit i <;> cases s.testBit i <;> rfl
theorem and_of_sub {a u : Nat} (h : Sub a u) : a &&& u = a := Nat.eq_of_testBit_eq fun i => by
  rw [and_bit]
  cases ha : a.testBit i
  · rfl
  · rw [h i ha]; rfl
theorem and_diff {a u s : Nat} (h : Sub a u) : a &&& diffN u s = diffN a s := Nat.eq_of_testBit_eq fun i => by
  rw [and_bit, diffN_bit, diffN_bit]
  cases ha : a.testBit i
  · rfl
  · rw [h i ha]; rfl
theorem diff_diff' {a u s : Nat} (h : Sub a u) : diffN a (diffN u s) = a &&& s := Nat.eq_of_testBit_eq fun i => by
  rw [and_bit, diffN_bit, diffN_bit]
  cases ha : a.testBit i
  · rfl
  · rw [h i ha]; cases s.testBit i <;> rfl
theorem sub_all' {a n : Nat} (h : a < 2 ^ n) : Sub a (2 ^ n - 1) := fun i hi => by
  rw [Nat.testBit_two_pow_sub_one, decide_eq_true_eq]; exact bit_lt h hi
theorem part_rel {d : Pn} (hd : d.Good) (hc : canP d = true) {b : Nat × Int × Int} (hb : b ∈ d.wd) (s : Nat) : relW (part' d b s) (part' d b (diffN (2 ^ d.n - 1) s)) (part' d b (2 ^ d.n - 1)) := by
  have h1 := can_bale hd hc hb
  have h2 := hd.w b hb
  have hu := sub_all' h2.2.1
  have h3 := T_bound hd (b.1 &&& s)
  have h4 := T_bound hd (diffN b.1 s)
  have h5 := split_T d b.1 s
  have l5 := congrArg Wt.lo h5
  have u5 := congrArg Wt.hi h5
  unfold part'
  rw [and_diff hu, diff_diff' hu, and_of_sub hu, diff_zero.2 hu, T_zero]
  unfold relW bothW lessW
  unfold addW at l5 u5
  dsimp only at *
  omega
theorem loose_T (d : Pn) (s : Nat) : T' d (looseN (2 ^ d.n - 1) d.wd) = addW (T' d (looseN (s &&& (2 ^ d.n - 1)) d.wd)) (T' d (looseN (diffN (2 ^ d.n - 1) s) d.wd)) := by
  rw [← T_or]
  · congr 1
    refine Nat.eq_of_testBit_eq fun i => ?_
    rw [Nat.testBit_or, loose_bit, loose_bit, loose_bit, and_bit, diffN_bit]
    cases (2 ^ d.n - 1).testBit i <;> cases s.testBit i <;> simp
  · refine bits_zero fun i => ?_
    rw [and_bit, loose_bit, loose_bit, and_bit, diffN_bit]
    cases (2 ^ d.n - 1).testBit i <;> cases s.testBit i <;> simp
theorem weigh_eq (d : Pn) (s : Nat) : weigh' d s = addW (sumW (d.wd.map fun b => part' d b s)) (T' d (looseN s d.wd)) := by
  unfold weigh'
  rw [sumW_snoc]
theorem parts_rel {d : Pn} (hd : d.Good) (hc : canP d = true) {s : Nat} (hs : s < 2 ^ d.n) : relW (weigh' d s) (weigh' d (diffN (2 ^ d.n - 1) s)) (weigh' d (2 ^ d.n - 1)) := by
  rw [weigh_eq, weigh_eq, weigh_eq]
  refine relW_add (relW_sum fun b hb => part_rel hd hc hb s) ?_
  have h := loose_T d s
  rw [and_of_sub (sub_all' hs)] at h
  have h1 := T_bound hd (looseN s d.wd)
  have h2 := T_bound hd (looseN (diffN (2 ^ d.n - 1) s) d.wd)
  rw [h]
  unfold relW addW
  dsimp only
  omega
theorem parts_none {d : Pn} (hw : d.wd = []) {s : Nat} (hs : s < 2 ^ d.n) : weigh' d (2 ^ d.n - 1) = addW (weigh' d s) (weigh' d (diffN (2 ^ d.n - 1) s)) := by
  have h := loose_T d s
  rw [and_of_sub (sub_all' hs)] at h
  rw [weigh_eq, weigh_eq, weigh_eq, h, hw]
  unfold addW
  simp [sumW_nil]
/-- One that was weighed is known exactly. -/
def exact' (d : Pn) (k : Nat) (b : Nat × Int × Int) : Pn := ⟨d.fl, d.low, d.top, d.bales, d.wd.set k (b.1, b.2.1, b.2.1)⟩
theorem exact_good {d : Pn} (hd : d.Good) {k : Nat} {b : Nat × Int × Int} (hb : d.wd[k]? = some b) : (exact' d k b).Good := by
  have hk := (List.getElem?_eq_some_iff.1 hb).1
  have h1 := hd.w b (List.mem_of_getElem? hb)
  refine ⟨hd.n10, hd.f, by show (d.wd.set _ _).length ≤ 4; rw [List.length_set]; exact hd.w4, ?_, ?_, hd.lt, hd.b5⟩
  · intro x hx
    rcases List.mem_or_eq_of_mem_set hx with hx | rfl
    · exact hd.w x hx
    · exact ⟨h1.1, h1.2.1, h1.2.2.1, Int.le_refl _, by dsimp only; omega⟩
  · have hm : (d.wd.set k (b.1, b.2.1, b.2.1)).map Prod.fst = d.wd.map Prod.fst := by
      rw [List.map_set]
      refine List.ext_getElem? fun i => ?_
      rw [List.getElem?_set]
      split
      · rename_i h
        subst h
        rw [List.length_map, if_pos hk, List.getElem?_map, hb]; rfl
      · rfl
    have h2 : (d.wd.map Prod.fst).Pairwise (fun a b => a &&& b = 0) := List.pairwise_map.2 hd.ap
    rw [← hm] at h2
    exact List.pairwise_map.1 h2
theorem pair_at {α : Type} {R : α → α → Prop} (hs : ∀ a b, R a b → R b a) : ∀ {l : List α} {i j : Nat} {a b : α}, l.Pairwise R → l[i]? = some a → l[j]? = some b → i ≠ j → R a b
  | [], _, _, _, _, _, h, _, _ => by cases h
  | x :: l, 0, 0, _, _, _, _, _, hne => absurd rfl hne
  | x :: l, 0, j + 1, a, b, h, ha, hb, _ => by
    obtain rfl := Option.some.inj ha
    exact (List.pairwise_cons.1 h).1 b (List.mem_of_getElem? hb)
  | x :: l, i + 1, 0, a, b, h, ha, hb, _ => by
    obtain rfl := Option.some.inj hb
    exact hs _ _ ((List.pairwise_cons.1 h).1 a (List.mem_of_getElem? ha))
  | x :: l, i + 1, j + 1, a, b, h, ha, hb, hne => pair_at hs (List.pairwise_cons.1 h).2 ha hb (fun e => hne (by rw [e]))
theorem sum_one : ∀ {l : List Wt} {k : Nat} {w : Wt}, l[k]? = some w → (∀ i x, i ≠ k → l[i]? = some x → x = ⟨0, 0⟩) → sumW l = w
  | [], _, _, h, _ => by cases h
  | x :: l, 0, w, h, hz => by
    obtain rfl := Option.some.inj h
    rw [sumW_cons, sum_zero (fun y hy => by
      obtain ⟨i, hi⟩ := List.getElem?_of_mem hy
      exact hz (i + 1) y (by omega) hi)]
    unfold addW; simp
  | x :: l, k + 1, w, h, hz => by
    rw [sumW_cons, sum_one (l := l) (k := k) h (fun i y hi hy => hz (i + 1) y (by omega) hy), hz 0 x (by omega) rfl]
    unfold addW; simp
/-- A part of one that was weighed. -/
theorem in_bale {d : Pn} (hd : d.Good) (hc : canP d = true) {k : Nat} {b : Nat × Int × Int} (hb : d.wd[k]? = some b) {s : Nat} (hs : Sub s b.1) : weigh' d s = part' d b s := by
  rw [weigh_eq]
  have hl : looseN s d.wd = 0 := bits_zero fun i => by
    rw [loose_bit]
    cases h : s.testBit i
    · rfl
    · have : (d.wd.any fun b => b.1.testBit i) = true := List.any_eq_true.2 ⟨b, List.mem_of_getElem? hb, hs i h⟩
      rw [this]; rfl
  rw [hl, T_zero, sum_one (k := k) (w := part' d b s) (by rw [List.getElem?_map, hb]; rfl) (fun i x hi hx => by
    rw [List.getElem?_map] at hx
    obtain ⟨y, hy, rfl⟩ := Option.map_eq_some_iff.1 hx
    refine part_out hd hc (List.mem_of_getElem? hy) ?_
    have := pair_at (fun a b h => by rw [Nat.and_comm]; exact h) hd.ap hy hb hi
    exact and_zero.2 fun j hj => by
      cases h : s.testBit j
      · rfl
      · have h2 := and_zero.1 this j hj
        rw [hs j h] at h2; cases h2)]
  unfold addW; simp
theorem exact_parts {d : Pn} (hd : d.Good) {k : Nat} {b : Nat × Int × Int} (hb : d.wd[k]? = some b) (hc : canP (exact' d k b) = true) (s : Nat) :
    (weigh' (exact' d k b) (s &&& b.1)).lo + (weigh' (exact' d k b) (diffN b.1 s)).hi = b.2.1 ∧ (weigh' (exact' d k b) (s &&& b.1)).hi + (weigh' (exact' d k b) (diffN b.1 s)).lo = b.2.1 := by
  have hk := (List.getElem?_eq_some_iff.1 hb).1
  have hd' := exact_good hd hb
  have hb' : (exact' d k b).wd[k]? = some (b.1, b.2.1, b.2.1) := by show (d.wd.set _ _)[k]? = _; rw [List.getElem?_set_self hk]
  have hs1 : Sub (s &&& b.1) b.1 := fun i hi => by rw [and_bit, Bool.and_eq_true] at hi; exact hi.2
  have hs2 : Sub (diffN b.1 s) b.1 := fun i hi => by rw [diffN_bit, Bool.and_eq_true] at hi; exact hi.1
  rw [in_bale hd' hc hb' hs1, in_bale hd' hc hb' hs2]
  have e1 : b.1 &&& (s &&& b.1) = b.1 &&& s := Nat.eq_of_testBit_eq fun i => by simp only [and_bit]; cases b.1.testBit i <;> cases s.testBit i <;> rfl
  have e2 : diffN b.1 (s &&& b.1) = diffN b.1 s := Nat.eq_of_testBit_eq fun i => by simp only [and_bit, diffN_bit]; cases b.1.testBit i <;> cases s.testBit i <;> rfl
  have e3 : b.1 &&& diffN b.1 s = diffN b.1 s := Nat.eq_of_testBit_eq fun i => by simp only [and_bit, diffN_bit]; cases b.1.testBit i <;> cases s.testBit i <;> rfl
  have e4 : diffN b.1 (diffN b.1 s) = b.1 &&& s := Nat.eq_of_testBit_eq fun i => by simp only [and_bit, diffN_bit]; cases b.1.testBit i <;> cases s.testBit i <;> rfl
  unfold part'
  dsimp only
  rw [e1, e2, e3, e4]
  have h3 := T_bound hd' (b.1 &&& s)
  have h4 := T_bound hd' (diffN b.1 s)
  unfold bothW lessW
  dsimp only
  omega
end Go.Ag
/- Layer 8: a press with bales of one's own. -/
namespace Go.Ag
open Go.Proofs
set_option maxRecDepth 100000

theorem U23 : Tryz.prog.underlying 23 = some (.slice 56) := by kernel_rfl
theorem S56 : slicePart Tryz.prog 56 = some 3 := by kernel_rfl
theorem rowF_all (l : List (Int × Int × Int)) : ∀ r ∈ l.map rowF, r.length = 3 := by
  intro r hr; obtain ⟨x, _, rfl⟩ := List.mem_map.1 hr; rfl
theorem cells_ce {l : List (Int × Int × Int)} : ((l.map rowF).flatten.map AV.c).all AV.cellish = true := by
  rw [List.all_eq_true]
  intro x hx
  obtain ⟨c, hc, rfl⟩ := List.mem_map.1 hx
  obtain ⟨r, hr, hc⟩ := List.mem_flatten.1 hc
  obtain ⟨y, _, rfl⟩ := List.mem_map.1 hr
  simp only [rowF, List.mem_cons, List.not_mem_nil, or_false] at hc
  rcases hc with rfl | rfl | rfl <;> rfl
/-- A press with bales of one's own. -/
def PV.own (v : PV) (l : List (Int × Int × Int)) : PV := ⟨v.fc, v.fo, v.fn, (l.map rowF).flatten, 0, l.length⟩
theorem own_is {v : PV} {c c' : Pr} (hv : v.Is c) (hf : c'.fl = c.fl) (hs : c'.wd.length ≤ 1000) : (v.own c'.wd).Is c' := by
  refine ⟨⟨by rw [hf]; exact hv.f, ?_⟩, by rw [hf]; exact hv.sf, hs⟩
  have := sl_flat (rowF_all c'.wd)
  rw [List.length_map] at this
  exact this
theorem pr_snap {v : PV} {c : Pr} {o : Nat} {h : Heap} (hb : Heap.at h o = .blk ((c.wd.map rowF).flatten.map .c)) (z : Int) :
    snaps (Heap.at h) ((c.wd.map rowF).flatten.length + 33) [.agg [.c (.sl v.fc v.fo v.fn), .c (I c.low), .c (I c.top), .c (I c.bales), .msl o 3 0 c.wd.length c.wd.length], .c (I z)] = some ([(v.own c.wd).cv c, I z], [o]) := by
  have e : ∀ (a : Nat) (c : CV), snap (Heap.at h) (a + 1) (.c c) = some (c, []) := fun a c => rfl
  have e0 : ∀ a : Nat, snaps (Heap.at h) (a + 1) [] = some ([], []) := fun a => rfl
  have hs : snap (Heap.at h) ((c.wd.map rowF).flatten.length + 25) (.msl o 3 0 c.wd.length c.wd.length) = some (.sl (c.wd.map rowF).flatten 0 c.wd.length, [o]) := snap_msl hb _ (by omega)
  have h1 : snaps (Heap.at h) ((c.wd.map rowF).flatten.length + 26) [.msl o 3 0 c.wd.length c.wd.length] = some ([.sl (c.wd.map rowF).flatten 0 c.wd.length], [o] ++ []) := snapsCons hs (e0 _)
  have h2 := snapsCons (e _ (.sl v.fc v.fo v.fn)) (snapsCons (e _ (I c.low)) (snapsCons (e _ (I c.top)) (snapsCons (e _ (I c.bales)) h1)))
  have h3 : snap (Heap.at h) ((c.wd.map rowF).flatten.length + 32) (.agg [.c (.sl v.fc v.fo v.fn), .c (I c.low), .c (I c.top), .c (I c.bales), .msl o 3 0 c.wd.length c.wd.length]) = some ((v.own c.wd).cv c, [o]) := by
    show (snaps (Heap.at h) ((c.wd.map rowF).flatten.length + 31) _).map (fun l => (CV.agg l.1, l.2)) = _
    have h4 : ∀ m, snaps (Heap.at h) (m + 1 + (c.wd.map rowF).flatten.length + 29) [.c (.sl v.fc v.fo v.fn), .c (I c.low), .c (I c.top), .c (I c.bales), .msl o 3 0 c.wd.length c.wd.length] = some ([.sl v.fc v.fo v.fn, I c.low, I c.top, I c.bales, .sl (c.wd.map rowF).flatten 0 c.wd.length], [o]) := fun m => by
      have hs' : snap (Heap.at h) (m + 1 + (c.wd.map rowF).flatten.length + 24) (.msl o 3 0 c.wd.length c.wd.length) = some (.sl (c.wd.map rowF).flatten 0 c.wd.length, [o]) := snap_msl hb _ (by omega)
      have h1' : snaps (Heap.at h) (m + 1 + (c.wd.map rowF).flatten.length + 25) [.msl o 3 0 c.wd.length c.wd.length] = some ([.sl (c.wd.map rowF).flatten 0 c.wd.length], [o] ++ []) := snapsCons hs' (e0 _)
      have := snapsCons (e _ (.sl v.fc v.fo v.fn)) (snapsCons (e _ (I c.low)) (snapsCons (e _ (I c.top)) (snapsCons (e _ (I c.bales)) h1')))
      exact this
    have h5 := h4 1
    rw [show 1 + 1 + (c.wd.map rowF).flatten.length + 29 = (c.wd.map rowF).flatten.length + 31 by omega] at h5
    rw [h5]; rfl
  exact snapsCons h3 (snapsCons (e _ (I z)) (e0 _))
theorem flat_put {α : Type} {sz : Nat} : ∀ (rows : List (List α)) (_ : ∀ r ∈ rows, r.length = sz) (k : Nat) (r : List α) (j : Nat) (vs : List α), rows[k]? = some r → j + vs.length ≤ sz →
    putAt rows.flatten (k * sz + j) vs = some ((rows.set k (r.take j ++ vs ++ r.drop (j + vs.length))).flatten)
  | [], _, k, r, j, vs, h, _ => by simp at h
  | r0 :: rows, hr, 0, r, j, vs, h, hj => by
    simp only [List.getElem?_cons_zero, Option.some.injEq] at h
    subst h
    have h0 := hr r0 (List.mem_cons_self ..)
    unfold putAt
    rw [Nat.zero_mul, Nat.zero_add, List.flatten_cons, if_pos (by rw [List.length_append]; omega)]
    rw [List.take_append_of_le_length (by omega), List.drop_append_of_le_length (by omega)]
    simp
  | r0 :: rows, hr, k + 1, r, j, vs, h, hj => by
    have h0 := hr r0 (List.mem_cons_self ..)
    have ih := flat_put rows (fun x hx => hr x (List.mem_cons_of_mem _ hx)) k r j vs (by simpa using h) hj
    unfold putAt at ih ⊢
    split at ih
    case isFalse => cases ih
    rename_i hle
    simp only [Option.some.injEq] at ih
    have e : (k + 1) * sz + j = r0.length + (k * sz + j) := by rw [Nat.add_mul]; omega
    rw [List.flatten_cons, if_pos (by rw [List.length_append, e]; omega), e]
    rw [Nat.add_assoc r0.length, List.take_length_add_append, List.drop_length_add_append]
    rw [List.set_cons_succ, List.flatten_cons, ← ih]
    simp
theorem rows_map (l : List (Int × Int × Int)) : (l.map rowF).flatten.map AV.c = (l.map fun x => (rowF x).map AV.c).flatten := by
  rw [List.map_flatten, List.map_map]; rfl
/-- The greater weight is written. -/
theorem put_hi {l : List (Int × Int × Int)} {k : Nat} {b : Int × Int × Int} (hb : l[k]? = some b) (z : Int) : putAt ((l.map rowF).flatten.map AV.c) (k * 3 + 2) [AV.c (I z)] = some (((l.set k (b.1, b.2.1, z)).map rowF).flatten.map AV.c) := by
  rw [rows_map, rows_map, flat_put (sz := 3) _ (by intro r hr; obtain ⟨x, _, rfl⟩ := List.mem_map.1 hr; rfl) k ((rowF b).map AV.c) 2 [.c (I z)] (by simp only [List.getElem?_map, hb, Option.map_some]) (by simp), List.map_set]
  rfl
theorem rem_aop {P : Program} {o : Oper} {x y : Operand} {t t2 : TypeId} {σ : Operand → AV} {a b : Int} (ho : o.op = .binOp .rem t x y t2) (hx : σ x = .c (.lit (.int .i64 a))) (hy : σ y = .c (.lit (.int .i64 b))) (hb : b ≠ 0) (rd : Nat → AB) (n : Nat) :
    aop P o σ rd n = some (.simple { val := .c (I (a.tmod b)) }) := by
  unfold aop
  rw [ho]
  simp only [abinOp, hx, hy, AV.toVal, CV.toVal, litBin, if_neg hb]
  rfl
theorem rem_to {P : Program} {o : Oper} {x y : Operand} {t t2 : TypeId} {σ : Operand → AV} {a b : Int} (z : Int) (ho : o.op = .binOp .rem t x y t2) (hx : σ x = .c (.lit (.int .i64 a))) (hy : σ y = .c (.lit (.int .i64 b))) (hb : b ≠ 0) (hz : a.tmod b = z) (rd : Nat → AB) (n : Nat) :
    aop P o σ rd n = some (.simple { val := .c (I z) }) := by rw [← hz]; exact rem_aop ho hx hy hb rd n
theorem okWs_of {n : Nat} : ∀ {l : List (Nat × Int × Int)} {t : Nat}, (∀ b ∈ l, 1 ≤ b.1 ∧ b.1 < 2 ^ n ∧ b.1 &&& t = 0 ∧ 1 ≤ b.2.1 ∧ b.2.1 ≤ b.2.2 ∧ b.2.2 ≤ 200) → l.Pairwise (fun a b => a.1 &&& b.1 = 0) → okWs n t (l.map fun b => ((b.1 : Int), b.2.1, b.2.2)) = true
  | [], _, _, _ => rfl
  | b :: l, t, h, hp => by
    obtain ⟨p1, p2, p3, p4⟩ := h b (by simp)
    obtain ⟨q1, q2⟩ := List.pairwise_cons.1 hp
    rw [List.map_cons, okWs_cons]
    simp only [Int.toNat_natCast]
    rw [okWs_of (fun x hx => by
      obtain ⟨r1, r2, r3, r4⟩ := h x (List.mem_cons_of_mem _ hx)
      exact ⟨r1, r2, and_or0.2 ⟨r3, by rw [Nat.and_comm]; exact q1 x hx⟩, r4⟩) q2]
    rw [show setB ((b.1 : Nat) : Int) n = true from setB_iff.2 ⟨b.1, rfl, p2⟩, spB_iff.2 p4, p3]
    simp only [Bool.and_true, Bool.and_eq_true, Bool.not_eq_true', beq_eq_false_iff_ne, bne_eq_false_iff_eq]
    exact ⟨by omega, trivial, rfl⟩
theorem ok_of_good {d : Pn} (hd : d.Good) : okPr d.pr = true := by
  have h10 := hd.n10
  have hl : d.pr.fl.length = d.n := pr_len d
  unfold okPr okFs
  rw [hl]
  simp only [Bool.and_eq_true, Bool.not_eq_true', decide_eq_false_iff_not]
  refine ⟨⟨by omega, ?_⟩, spB_iff.2 hd.lt, ?_, ?_, ?_⟩
  · rw [List.all_eq_true]
    intro x hx
    obtain ⟨y, hy, rfl⟩ := List.mem_map.1 hx
    have := hd.f y hy
    unfold okF inB'
    simp only [Bool.and_eq_true, Bool.not_eq_true', decide_eq_false_iff_not, decide_eq_true_eq]
    exact ⟨spB_iff.2 (by omega), by omega, by omega, by omega⟩
  · have := hd.b5
    unfold inB'
    simp only [Bool.and_eq_true, decide_eq_true_eq]
    show 0 ≤ ((d.bales : Nat) : Int) ∧ ((d.bales : Nat) : Int) ≤ 5
    omega
  · have := hd.w4
    show ¬ (((d.wd.map _).length : Nat) : Int) > 4
    rw [List.length_map]; omega
  · exact okWs_of (fun b hb => by
      have := hd.w b hb
      exact ⟨this.1, this.2.1, Nat.and_zero _, this.2.2⟩) hd.ap
end Go.Ag
