/- The law PressFits returns true for arguments that read as data. No conditions. -/
import Derived.Test.YtbkbbkkmahenlaaGreatDoorPrN
import Derived.Test.YtbkbbkkmahenlaaGreatDoorPrJ
/- Layer 8: the law of what fits, its walk. -/
namespace Go.Ag
open Go.Proofs
set_option maxRecDepth 100000

set_option maxHeartbeats 4000000 in
theorem fitsLaw_no {v : PV} {c : Pr} (hf : Ret Tryz.prog 28 [v.cv c] (B false)) (w : Int) : Ret Tryz.prog 8 [v.cv c, .lit (.int .u16 w)] (B true) := by
  refine ret_by (hm := true) Tryz.func8 rfl ?_
  conv => whnf
  refine .ret (hf) rfl ?_
  conv => whnf
  refine .ret (Awake.alive_ret) rfl ?_
  conv => whnf
  exact .val
set_option maxHeartbeats 4000000 in
theorem fitsLaw_clash {v : PV} {d : Pn} (hv : v.Is d.pr) (hd : d.Good) (hok : okPr d.pr = true) (hfar : farB d.pr = false) (hc : canP d = false) {w : Nat} (hw : w < 65536) : Ret Tryz.prog 8 [v.cv d.pr, .lit (.int .u16 w)] (B true) := by
  have hfi := fine_ret hv
  rw [hfar, hok] at hfi
  have p10 := pow10 hd.n10
  have hev := every_ret hv (by rw [pr_len]; exact hd.n10)
  rw [pr_len] at hev
  have hs1 : w &&& (2 ^ d.n - 1) < 2 ^ d.n := by have := Nat.and_le_right (n := w) (m := 2 ^ d.n - 1); omega
  have h1 := weightX_ret hv hd hok hs1
  have h2 := fitsX_ret hv hd hok hs1
  have h3 := addX_ret hv hd hok hs1
  unfold wOf eOf at h1
  unfold fOf eOf at h2
  unfold adN adE at h3
  simp only [hc, Bool.false_eq_true, if_false] at h1 h2 h3
  refine ret_then (hm := true) Tryz.func8 rfl ?_
  conv => whnf
  repeat (refine then_seq (hm := true) ?_; conv => whnf)
  refine .ret (hfi) rfl ?_
  conv => whnf
  refine then_seq (hm := true) ?_
  conv => whnf
  rw [show IntKind.i64.wrap ((w : Nat) : Int) = (w : Nat) from wrap_eq (by omega) (by omega)]
  refine .ret (hev) rfl ?_
  conv => whnf
  refine ⟨_, and_nat (a := w) (b := 2 ^ d.n - 1) (by omega) (by omega), ?_⟩
  conv => whnf
  generalize w &&& (2 ^ d.n - 1) = s at *
  refine then_seq (hm := true) ?_
  conv => whnf
  refine .ret (h1) rfl ?_
  conv => whnf
  refine then_seq (hm := true) ?_
  conv => whnf
  refine .ret (h2) rfl ?_
  conv => whnf
  refine then_seq (hm := true) ?_
  conv => whnf
  refine .ret (h3) rfl ?_
  conv => whnf
  repeat (refine then_seq (hm := true) ?_; conv => whnf)
  refine .ret (Awake.alive_ret) rfl ?_
  conv => whnf
  exact .val
set_option maxHeartbeats 16000000 in
theorem fitsLaw_ok {v : PV} {d : Pn} (hv : v.Is d.pr) (hd : d.Good) (hok : okPr d.pr = true) (hfar : farB d.pr = false) (hc : canP d = true) {w : Nat} (hw : w < 65536) : Ret Tryz.prog 8 [v.cv d.pr, .lit (.int .u16 w)] (B true) := by
  have hfi := fine_ret hv
  rw [hfar, hok] at hfi
  have p10 := pow10 hd.n10
  have hev := every_ret hv (by rw [pr_len]; exact hd.n10)
  rw [pr_len] at hev
  have hfn := hv.fn
  rw [pr_len] at hfn
  have hn10 := hd.n10
  have hal := Awake.alive_ret
  have hF : ∀ s : Nat, s < 2 ^ d.n → Ret Tryz.prog 15 [v.cv d.pr, I s] (.tuple [I (sureN (fitsP d s) (meetsP d s)), I 0]) := fun s hs => by
    have := fitsX_ret hv hd hok hs
    unfold fOf eOf at this
    rw [if_pos hc, if_pos hc] at this
    exact this
  have hs1 : w &&& (2 ^ d.n - 1) < 2 ^ d.n := by have := Nat.and_le_right (n := w) (m := 2 ^ d.n - 1); omega
  obtain ⟨s, hse⟩ : ∃ s, s = w &&& (2 ^ d.n - 1) := ⟨_, rfl⟩
  rw [← hse] at hs1
  have h1 := weightX_ret hv hd hok hs1
  have h2 := hF s hs1
  have h3 := addX_ret hv hd hok hs1
  have h4 := alike_ret hv hd hs1
  unfold wOf eOf at h1
  unfold adN adE at h3
  simp only [hc, if_true] at h1 h3
  rw [add_first hd] at h3
  have says := fits_says hd hc s
  have nev := never_says hd hc s
  obtain ⟨wd, hwd⟩ : ∃ wd, wd = weigh' d s := ⟨_, rfl⟩
  rw [← hwd] at h1 says nev
  refine ret_then (hm := true) Tryz.func8 rfl ?_
  conv => whnf
  repeat (refine then_seq (hm := true) ?_; conv => whnf)
  refine .ret (hfi) rfl ?_
  conv => whnf
  refine then_seq (hm := true) ?_
  conv => whnf
  rw [show IntKind.i64.wrap ((w : Nat) : Int) = (w : Nat) from wrap_eq (by omega) (by omega)]
  refine .ret (hev) rfl ?_
  conv => whnf
  refine ⟨_, and_nat (a := w) (b := 2 ^ d.n - 1) (by omega) (by omega), ?_⟩
  conv => whnf
  rw [← hse]
  refine then_seq (hm := true) ?_
  conv => whnf
  refine .ret (h1) rfl ?_
  conv => whnf
  refine then_seq (hm := true) ?_
  conv => whnf
  refine .ret (h2) rfl ?_
  conv => whnf
  refine then_seq (hm := true) ?_
  conv => whnf
  refine .ret (h3) rfl ?_
  conv => whnf
  repeat (refine then_seq (hm := true) ?_; conv => whnf)
  refine .ret (h4) rfl ?_
  conv => whnf
  obtain ⟨H1, hH1⟩ : ∃ H1 : Heap, H1 = (TMap.nil.push .dead (v.blk d.pr)).push .dead (.blk [.c (I wd.lo), .c (I wd.hi)]) := ⟨_, rfl⟩
  have G0 : Heap.at H1 0 = v.blk d.pr := by rw [hH1]; rfl
  have G1 : Heap.at H1 1 = .blk [.c (I wd.lo), .c (I wd.hi)] := by rw [hH1]; rfl
  have G2 : H1.n = 2 := by rw [hH1]; rfl
  have k2 : (sureN (fitsP d s) (meetsP d s) == 2) = fitsP d s := by rw [Bool.eq_iff_iff, beq_iff_eq]; exact sure_two
  have k3 : 0 ≤ sureN (fitsP d s) (meetsP d s) ∧ sureN (fitsP d s) (meetsP d s) ≤ 2 := by unfold sureN; split; omega; split <;> omega
  have hk3 := h2
  generalize hk : sureN (fitsP d s) (meetsP d s) = k at *
  generalize hal' : alikeB d s = al at *
  refine then_via (hm := true) (fun st => Has st 213 [(2, .ptr 0 0), (5, .c (I s)), (6, .ptr 1 0), (8, .c (I k)), (9, .c (I 0)), (10, .c (I ((firstQ d s d.n).getD 0 : Nat))), (11, .c (I (if (firstQ d s d.n).isSome then 0 else 4))), (12, .c (B al)), (13, .c (B (fitsP d s)))] [] none H1) ?_ ?_
  · skip
    rw [says]
    conv => whnf
    cases al
    · conv => whnf
      rw [hH1]
      exact ⟨rfl, ⟨rfl, rfl, rfl, rfl, rfl, rfl, rfl, rfl, rfl, trivial⟩, rfl, rfl, rfl, rfl⟩
    · conv => whnf
      cases hlo : decide (wd.lo ≥ d.pr.low)
      · rw [show decide (wd.lo ≥ d.low) = false from hlo]
        conv => whnf
        rw [hH1]
        exact ⟨rfl, ⟨rfl, rfl, rfl, rfl, rfl, rfl, rfl, rfl, rfl, trivial⟩, rfl, rfl, rfl, rfl⟩
      · rw [show decide (wd.lo ≥ d.low) = true from hlo]
        conv => whnf
        rw [hH1]
        exact ⟨rfl, ⟨rfl, rfl, rfl, rfl, rfl, rfl, rfl, rfl, rfl, trivial⟩, rfl, rfl, rfl, rfl⟩
  clear h1 h2 h3 h4 hfi hev
  rintro st hs
  refine hs.then ?_
  refine then_via (hm := false) (fun st => Has st 213 [(2, .ptr 0 0), (5, .c (I s)), (6, .ptr 1 0), (8, .c (I k)), (9, .c (I 0)), (10, .c (I ((firstQ d s d.n).getD 0 : Nat))), (11, .c (I (if (firstQ d s d.n).isSome then 0 else 4))), (13, .c (B (fitsP d s))), (14, .c (B (k == 0)))] [] none H1) ?_ ?_
  · skip
    rw [nev]
    conv => whnf
    cases al
    · conv => whnf
      exact ⟨rfl, ⟨rfl, rfl, rfl, rfl, rfl, rfl, rfl, rfl, rfl, trivial⟩, rfl, rfl, rfl, rfl⟩
    · conv => whnf
      refine ⟨_, G1, ?_⟩
      conv => whnf
      refine ⟨_, G0, ?_⟩
      conv => whnf
      cases hlo : decide (wd.hi < d.pr.low)
      · rw [show decide (wd.hi < d.low) = false from hlo]
        conv => whnf
        refine ⟨_, G1, ?_⟩
        conv => whnf
        refine ⟨_, G0, ?_⟩
        conv => whnf
        exact ⟨rfl, ⟨rfl, rfl, rfl, rfl, rfl, rfl, rfl, rfl, rfl, trivial⟩, rfl, rfl, rfl, rfl⟩
      · rw [show decide (wd.hi < d.low) = true from hlo]
        conv => whnf
        exact ⟨rfl, ⟨rfl, rfl, rfl, rfl, rfl, rfl, rfl, rfl, rfl, trivial⟩, rfl, rfl, rfl, rfl⟩
  rintro st hs
  refine hs.then ?_
  refine then_via (hm := false) (fun st => Has st 213 [(2, .ptr 0 0), (5, .c (I s)), (8, .c (I k)), (10, .c (I ((firstQ d s d.n).getD 0 : Nat))), (11, .c (I (if (firstQ d s d.n).isSome then 0 else 4)))] [] none H1) ?_ ?_
  · skip
    conv => whnf
    refine ⟨_, bool_neq rfl rfl rfl _ _, ?_⟩
    conv => whnf
    rw [k2, bne_self_eq_false]
    conv => whnf
    refine ⟨_, bool_neq rfl rfl rfl _ _, ?_⟩
    conv => whnf
    rw [bne_self_eq_false]
    conv => whnf
    rw [show decide (k < 0) = false from decide_eq_false (by omega)]
    conv => whnf
    rw [show decide (k > 2) = false from decide_eq_false (by omega)]
    conv => whnf
    cases hf : firstQ d s d.n with
    | none =>
      conv => whnf
      exact ⟨rfl, ⟨rfl, rfl, rfl, rfl, rfl, trivial⟩, rfl, rfl, rfl, rfl⟩
    | some x =>
      conv => whnf
      exact ⟨rfl, ⟨rfl, rfl, rfl, rfl, rfl, trivial⟩, rfl, rfl, rfl, rfl⟩
  rintro st hs
  refine hs.then ?_
  refine then_seq (hm := false) ?_
  conv => whnf
  refine then_via (hm := false) (fun st => Has st 213 [(2, .ptr 0 0), (5, .c (I s)), (8, .c (I k)), (10, .c (I ((firstQ d s d.n).getD 0 : Nat))), (11, .c (I (if (firstQ d s d.n).isSome then 0 else 4))), (15, .c (I (match firstQ d s d.n with | some x => (x : Int) | none => -1)))] [] none H1) ?_ ?_
  · skip
    conv => whnf
    refine ⟨_, G0, ?_⟩
    conv => whnf
    refine loop_by (I := fun z st => ∃ (q : Nat), q ≤ d.n ∧ z = d.n - q ∧ Has st 213 [(2, .ptr 0 0), (5, .c (I s)), (8, .c (I k)), (10, .c (I ((firstQ d s d.n).getD 0 : Nat))), (11, .c (I (if (firstQ d s d.n).isSome then 0 else 4))), (15, .c (I (match firstQ d s q with | some x => (x : Int) | none => -1))), (143, .c (.sl v.fc v.fo v.fn)), (144, .c (I v.fn)), (145, .c (I q))] [] none H1) ?_ (k := d.n)
      ⟨0, Nat.zero_le _, rfl, rfl, ⟨rfl, rfl, rfl, rfl, rfl, rfl, rfl, rfl, rfl, trivial⟩, rfl, rfl, rfl, rfl⟩
    clear hs
    rintro z st ⟨q, hq, rfl, hs⟩
    refine (hs.then ?_).1
    refine then_seq (hm := false) ?_
    conv => whnf
    cases hcq : decide ((q : Int) < (v.fn : Int))
    case false =>
      have : q = d.n := by simp at hcq; omega
      subst this
      refine then_seq (hm := false) ?_
      conv => whnf
      exact ⟨rfl, ⟨rfl, rfl, rfl, rfl, rfl, rfl, trivial⟩, rfl, rfl, rfl, rfl⟩
    have hq : q < d.n := by simp at hcq; omega
    have hsucc := firstQ_succ d s q
    refine then_seq (hm := false) ?_
    conv => whnf
    refine then_left (then_block ?_)
    refine then_seq (hm := false) ?_
    conv => whnf
    refine then_seq (hm := false) ?_
    conv => whnf
    refine ⟨by omega, _, shr_nat s q (by omega), ?_⟩
    conv => whnf
    refine ⟨_, and_nat (a := s >>> q) (b := 1) (by have := Nat.shiftRight_le s q; omega) (by omega), ?_⟩
    conv => whnf
    rw [bit_nat]
    cases hbit : s.testBit q
    case true =>
      have hg : goF d s q = false := by unfold goF; rw [hbit]; rfl
      rw [hg, if_neg (by simp), Option.or_none] at hsucc
      conv => whnf
      refine then_end (hm := false) ?_
      conv => whnf
      refine ⟨((q + 1 : Nat) : Int), by rw [wrap_eq (by omega) (by omega)]; omega, ?_⟩
      conv => whnf
      exact ⟨d.n - (q + 1), by omega, q + 1, by omega, rfl, rfl, ⟨rfl, rfl, rfl, rfl, rfl, by rw [hsucc]; rfl, rfl, rfl, rfl, trivial⟩, rfl, rfl, rfl, rfl⟩
    have hg : goF d s q = fitsP d (s ||| 2 ^ q) := by unfold goF; rw [hbit]; rfl
    rw [hg] at hsucc
    have pq : 2 ^ q ≤ 2 ^ 9 := Nat.pow_le_pow_right (by omega) (by omega)
    have hor : s ||| 2 ^ q < 2 ^ d.n := Nat.or_lt_two_pow hs1 (Nat.pow_lt_pow_right (by omega) hq)
    have hFq := hF _ hor
    conv => whnf
    refine then_seq (hm := false) ?_
    refine draw_by (hm := false) (by kernel_rfl) (by kernel_rfl) ?_
    conv => whnf
    refine ⟨_, G0, ?_⟩
    conv => whnf
    refine ⟨by omega, _, shl_one q (by omega), ?_⟩
    conv => whnf
    refine ⟨_, or_nat (a := s) (b := 2 ^ q) (by omega) (by omega), ?_⟩
    conv => whnf
    refine .pure _ _ rfl (hFq) ?_
    conv => whnf
    refine ⟨by kernel_rfl, ?_⟩
    conv => whnf
    refine then_seq (hm := false) ?_
    conv => whnf
    refine then_at (hm := false) (fun st => Has st 213 [(2, .ptr 0 0), (5, .c (I s)), (8, .c (I k)), (10, .c (I ((firstQ d s d.n).getD 0 : Nat))), (11, .c (I (if (firstQ d s d.n).isSome then 0 else 4))), (15, .c (I (match firstQ d s (q + 1) with | some x => (x : Int) | none => -1))), (143, .c (.sl v.fc v.fo v.fn)), (144, .c (I v.fn)), (145, .c (I q))] [] none H1) ?_ ?_
    · skip
      conv => whnf
      cases h2' : (sureN (fitsP d (s ||| 2 ^ q)) (meetsP d (s ||| 2 ^ q)) == 2)
      · have hnf : fitsP d (s ||| 2 ^ q) = false := by
          cases hh : fitsP d (s ||| 2 ^ q)
          · rfl
          · rw [beq_iff_eq.2 (sure_two.2 hh)] at h2'; cases h2'
        rw [hnf, if_neg (by simp), Option.or_none] at hsucc
        conv => whnf
        exact ⟨rfl, ⟨rfl, rfl, rfl, rfl, rfl, by rw [hsucc]; rfl, rfl, rfl, rfl, trivial⟩, rfl, rfl, rfl, rfl⟩
      have hfs := sure_two.1 (beq_iff_eq.1 h2')
      rw [hfs, if_pos rfl] at hsucc
      cases hfq : firstQ d s q with
      | none =>
        rw [hfq, Option.none_or] at hsucc
        conv => whnf
        exact ⟨rfl, ⟨rfl, rfl, rfl, rfl, rfl, by rw [hsucc]; rfl, rfl, rfl, rfl, trivial⟩, rfl, rfl, rfl, rfl⟩
      | some x =>
        rw [hfq, Option.some_or] at hsucc
        conv => whnf
        rw [show decide ((x : Int) < 0) = false from decide_eq_false (by omega)]
        conv => whnf
        exact ⟨rfl, ⟨rfl, rfl, rfl, rfl, rfl, by rw [hsucc]; rfl, rfl, rfl, rfl, trivial⟩, rfl, rfl, rfl, rfl⟩
    rintro s1 hs'
    show Then Tryz.prog _ s1 _
    refine hs'.then ?_
    refine then_end (hm := false) ?_
    conv => whnf
    refine ⟨((q + 1 : Nat) : Int), by rw [wrap_eq (by omega) (by omega)]; omega, ?_⟩
    conv => whnf
    exact ⟨d.n - (q + 1), by omega, q + 1, by omega, rfl, rfl, ⟨rfl, rfl, rfl, rfl, rfl, rfl, rfl, rfl, rfl, trivial⟩, rfl, rfl, rfl, rfl⟩
  clear hs
  rintro st hs
  refine hs.then ?_
  refine then_via (hm := false) (fun st => Has st 213 [(2, .ptr 0 0), (5, .c (I s)), (8, .c (I k))] [] none H1) ?_ ?_
  · skip
    cases hf : firstQ d s d.n with
    | none =>
      conv => whnf
      refine ⟨_, bool_neq (a := false) (b := false) rfl rfl rfl _ _, ?_⟩
      conv => whnf
      exact ⟨rfl, ⟨rfl, rfl, rfl, trivial⟩, rfl, rfl, rfl, rfl⟩
    | some x =>
      conv => whnf
      refine ⟨_, bool_neq (a := true) (b := decide ((x : Int) ≥ 0)) rfl rfl rfl _ _, ?_⟩
      conv => whnf
      rw [show decide ((x : Int) ≥ 0) = true from decide_eq_true (by omega)]
      conv => whnf
      rw [show ((((some x).getD 0 : Nat) : Int) != (match some x with | some x => (x : Int) | none => -1)) = false by simp]
      conv => whnf
      exact ⟨rfl, ⟨rfl, rfl, rfl, trivial⟩, rfl, rfl, rfl, rfl⟩
  clear hs
  rintro st hs
  refine hs.then ?_
  refine then_seq (hm := false) ?_
  conv => whnf
  refine ⟨_, G0, ?_⟩
  conv => whnf
  refine ⟨_, at_push_self _ _, ?_⟩
  conv => whnf
  rw [G2]
  generalize hG : TMap.set AB.dead (TMap.push AB.dead H1 _) _ _ = G
  have g0 : Heap.at G 0 = v.blk d.pr := by rw [← hG, ← G2]; exact (at_old _ _ _ (by omega)).trans G0
  have g2 : Heap.at G 2 = v.blk d.pr := by rw [← hG, ← G2]; exact at_new _ _ _
  have gn : G.n = 3 := by rw [← hG, TMap.set_n, push_n, G2]
  clear hG G0 G1 G2
  have hlt := hd.lt
  have e1 : d.pr.low = d.low := rfl
  have e2 : d.pr.top = d.top := rfl
  refine then_seq (hm := false) ?_
  refine draw_by (hm := false) (by kernel_rfl) (by kernel_rfl) ?_
  conv => whnf
  refine ⟨_, g0, ?_⟩
  conv => whnf
  refine ⟨d.pr.low - 1, by rw [wrap_eq (by omega) (by omega)], ?_⟩
  conv => whnf
  refine ⟨_, g0, ?_⟩
  conv => whnf
  refine ⟨d.pr.top + 1, by rw [wrap_eq (by omega) (by omega)], ?_⟩
  conv => whnf
  refine ⟨_, g2, ?_⟩
  conv => whnf
  refine ⟨(show 2 < G.n by omega), ?_⟩
  conv => whnf
  refine ⟨_, at_set_self _ _ (i := 2) (by omega), ?_⟩
  conv => whnf
  refine ⟨by show 2 < TMap.n _; rw [TMap.set_n]; omega, ?_⟩
  conv => whnf
  refine ⟨by kernel_rfl, ?_⟩
  conv => whnf
  generalize hM : TMap.set AB.dead (TMap.set AB.dead G 2 _) 2 _ = M
  have m2 := (congrArg (Heap.at · 2) hM.symm).trans (at_set_self _ _ (i := 2) (by rw [TMap.set_n]; omega))
  clear hM
  let d' : Pn := { d with low := max 1 (d.low - 1), top := min 200 (d.top + 1) }
  have hd' : d'.Good := ⟨hd.n10, hd.f, hd.w4, hd.w, hd.ap, by show 1 ≤ max 1 (d.low - 1) ∧ max 1 (d.low - 1) ≤ min 200 (d.top + 1) ∧ min 200 (d.top + 1) ≤ 200; omega, hd.b5⟩
  have hv' : v.Is d'.pr := ⟨⟨hv.f, hv.w⟩, hv.sf, hv.sw⟩
  have hok' := ok_of_good hd'
  have hc' : canP d' = true := hc
  have hFx := fitsX_ret hv' hd' hok' (s := s) hs1
  unfold fOf eOf at hFx
  rw [if_pos hc', if_pos hc'] at hFx
  have hw' : weigh' d' s = weigh' d s := rfl
  have hge : k ≤ fitN d' s := by
    rw [← hk]
    unfold fitN
    have hf1 : fitsP d s = true → fitsP d' s = true := fun h => by
      unfold fitsP holdsW at h ⊢
      rw [hw']
      rw [show lineOk d' s = lineOk d s from rfl]
      simp only [Bool.and_eq_true, decide_eq_true_eq] at h ⊢
      have hbnd := weigh_Sm hd s
      refine ⟨h.1, ?_, ?_⟩
      · show max 1 (d.low - 1) ≤ _; omega
      · show _ ≤ min 200 (d.top + 1); omega
    have hm1 : meetsP d s = true → meetsP d' s = true := fun h => by
      unfold meetsP meetsW tornW bothW at h ⊢
      rw [hw']
      rw [show lineOk d' s = lineOk d s from rfl]
      simp only [Bool.and_eq_true, Bool.not_eq_true', decide_eq_false_iff_not] at h ⊢
      refine ⟨h.1, ?_⟩
      have h2 := h.2
      show ¬ max (max 1 (d.low - 1)) (weigh' d s).lo > min (min 200 (d.top + 1)) (weigh' d s).hi
      omega
    unfold sureN
    cases ha : fitsP d s
    · cases hb : meetsP d s
      · simp only [Bool.false_eq_true, if_false]; split; omega; split <;> omega
      · simp only [Bool.false_eq_true, if_false, if_true]; split; omega; rw [hm1 hb, if_pos rfl]; omega
    · rw [hf1 ha, if_pos rfl, if_pos rfl]; omega
  refine then_seq (hm := false) ?_
  conv => whnf
  refine ⟨_, m2, ?_⟩
  conv => whnf
  refine .ret (hFx) rfl ?_
  conv => whnf
  refine then_seq (hm := false) ?_
  conv => whnf
  rw [show decide (fitN d' s ≥ k) = true from decide_eq_true hge]
  conv => whnf
  refine .ret (hal) rfl ?_
  conv => whnf
  refine then_end (hm := false) ?_
  conv => whnf
  exact .val
theorem fitsLaw_any {v : PV} {c : Pr} (h : v.IsL c) {n1 : Int} (h1 : (Lit.int .u16 n1).wf = true) : Ret Tryz.prog 8 [v.cv c, .lit (.int .u16 n1)] (B true) := by
  rcases IsL.cases h with hs | hs
  · cases hf : farB c
    · cases hok : okPr c
      · exact fitsLaw_no (by have := fine_ret hs; rw [hf, hok] at this; exact this) _
      · obtain ⟨d, rfl, hd⟩ := good_of hok
        obtain ⟨w1, rfl, hw1⟩ := law_u16 h1
        cases hc : canP d
        · exact fitsLaw_clash hs hd hok hf hc hw1
        · exact fitsLaw_ok hs hd hok hf hc hw1
    · exact fitsLaw_no (fine_far h hf) _
  · exact fitsLaw_no (fine_far h hs) _
end Go.Ag
