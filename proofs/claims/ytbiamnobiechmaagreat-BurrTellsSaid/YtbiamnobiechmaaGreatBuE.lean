/- The reference: all truths, what is told by them; the law BurrTells returns true for arguments that are not far too long. No conditions. -/
import Derived.Test.YtbiamnobiechmaaGreatBuC
/- Layer 7: the reference: whether a truth is right. -/
namespace Go.Ag
open Go.Proofs
set_option maxRecDepth 100000

def ok1 (d : Bn) (m x j : Nat) : Bool := !(decide (0 < (d.b j).1 &&& m) && !x.testBit j) && !(decide ((d.b j).2 &&& m = 0) && x.testBit j)
def okQ (d : Bn) (m x q : Nat) : Bool := (List.range q).all (ok1 d m x)
theorem okQ_succ (d : Bn) (m x q : Nat) : okQ d m x (q + 1) = (okQ d m x q && ok1 d m x q) := by
  unfold okQ; rw [List.range_succ, List.all_append]; simp
theorem ok_all {d : Bn} {m x : Nat} (hx : x < 2 ^ d.k) : okQ d m x d.k = (diffN (hold d m).s x == 0 && diffN x (hold d m).p == 0) := by
  rw [Bool.eq_iff_iff, Bool.and_eq_true, beq_iff_eq, beq_iff_eq, diff_zero, diff_zero]
  unfold okQ hold holdS holdP Sub
  simp only [List.all_eq_true, List.mem_range, bitsN_bit, Bool.and_eq_true, decide_eq_true_eq]
  constructor
  · intro h
    refine ⟨fun i hi => ?_, fun i hi => ?_⟩
    · have h1 := h i hi.1
      unfold ok1 at h1
      have h2 : 0 < (d.b i).1 &&& m := by have := hi.2; simp at this; omega
      rw [decide_eq_true h2] at h1
      cases hb : x.testBit i
      · rw [hb] at h1; simp at h1
      · rfl
    · have hik := bit_lt hx hi
      have h1 := h i hik
      unfold ok1 at h1
      refine ⟨hik, ?_⟩
      rw [hi] at h1
      have h2 : ¬ (d.b i).2 &&& m = 0 := by intro h0; rw [h0] at h1; simp at h1
      simpa using h2
  · rintro ⟨h1, h2⟩ i hi
    unfold ok1
    rw [Bool.and_eq_true]
    refine ⟨?_, ?_⟩
    · cases hb : x.testBit i
      · have : ¬ 0 < (d.b i).1 &&& m := fun h0 => by have := h1 i ⟨hi, by simpa using (show ¬ (d.b i).1 &&& m = 0 by omega)⟩; rw [hb] at this; cases this
        rw [decide_eq_false this]; rfl
      · simp
    · cases hb : x.testBit i
      · simp
      · have := (h2 i hb).2
        have h3 : ¬ (d.b i).2 &&& m = 0 := by simpa using this
        rw [decide_eq_false h3]; rfl
def teQ (d : Bn) (x q : Nat) : Bool := (d.tests.take q).all fun t => x.testBit t.1 == t.2
theorem teQ_succ {d : Bn} {x q : Nat} (h : q < d.tests.length) : teQ d x (q + 1) = (teQ d x q && (x.testBit (d.te q).1 == (d.te q).2)) := by
  unfold teQ
  rw [List.take_add_one, Bn.te_get h, List.all_append]; simp
def allN (d : Bn) : Nat := 2 ^ d.tests.length - 1
theorem all_bit (n i : Nat) (h : i < n) : (2 ^ n - 1).testBit i = true := by rw [Nat.testBit_two_pow_sub_one]; simpa using h
theorem ok_no {d : Bn} {m x q : Nat} (hx : x < 2 ^ d.k) (hq : q < d.k) (h : ok1 d m x q = false) : rightB d m x = false := by
  unfold rightB
  rw [← ok_all hx]
  have : okQ d m x d.k = false := by
    unfold okQ
    rw [List.all_eq_false]
    exact ⟨q, List.mem_range.2 hq, by rw [h]; simp⟩
  rw [this]; rfl
theorem te_bale {v : BV} {d : Bn} (hv : v.Is d.bu) {q : Nat} (h : q < d.tests.length) : readVarC Tryz.prog 3 v.tc (v.ot + (q : Int).toNat * 2 + 0) = some (I (d.te q).1) := by
  rw [Int.toNat_natCast, rv3, sliceOf_get (hv.t.row q _ (by rw [List.getElem?_map, bu_test h]; rfl)) (by omega)]; rfl
theorem te_found {v : BV} {d : Bn} (hv : v.Is d.bu) {q : Nat} (h : q < d.tests.length) : readVarC Tryz.prog 4 v.tc (v.ot + (q : Int).toNat * 2 + 1) = some (B (d.te q).2) := by
  rw [Int.toNat_natCast, show readVarC Tryz.prog 4 v.tc (v.ot + q * 2 + 1) = v.tc[v.ot + q * 2 + 1]? from rfl, sliceOf_get (hv.t.row q _ (by rw [List.getElem?_map, bu_test h]; rfl)) (by omega)]; rfl
set_option maxHeartbeats 4000000 in
theorem right_ret {v : BV} {d : Bn} (hv : v.Is d.bu) (hd : d.Good) (h6 : d.tests.length ≤ 6) {m x : Nat} (hm : m < 2 ^ d.n) (hx : x < 2 ^ d.k) : Ret Tryz.prog 124 [v.cv d.bu, .agg [I m, I x], I (allN d : Nat)] (B (sizeOk d m && rightB d m x)) := by
  have e3 := hv.tn
  rw [bu_t] at e3
  have e2 : v.bn = d.k := hv.bn.trans (bu_k d)
  have k6 : d.k ≤ 6 := hd.k6
  have p5 := pow_c hd.n5
  have p6 := pow_b k6
  have pt := pow_b h6
  refine ret_by (hm := false) Tryz.func124 rfl ?_
  conv => whnf
  refine draw_by (hm := false) (by kernel_rfl) (by kernel_rfl) ?_
  conv => whnf
  refine ⟨_, rfl, ?_⟩
  conv => whnf
  refine .pure _ _ rfl (rsize_ret (n := m) (by omega)) ?_
  conv => whnf
  refine ⟨_, rfl, ?_⟩
  conv => whnf
  refine ⟨_, rfl, ?_⟩
  conv => whnf
  refine .pure _ _ rfl (in_ret _ _ _) ?_
  conv => whnf
  refine ⟨by kernel_rfl, ?_⟩
  conv => whnf
  rw [show inB' ((popB m : Nat) : Int) d.bu.lo d.bu.hi = sizeOk d m from rfl]
  cases hs : sizeOk d m
  · conv => whnf
    exact .val
  conv => whnf
  rw [Bool.true_and]
  refine loop_by (I := fun z st => ∃ (q : Nat) (h : Heap), q ≤ d.k ∧ z = d.k - q ∧ okQ d m x q = true ∧ Heap.at h 0 = v.blk d.bu ∧ Heap.at h 1 = .blk [.c (I m), .c (I x)] ∧ 2 ≤ h.n ∧
      Has st 88 [(2, .c (I (allN d : Nat))), (3, .ptr 0 0), (4, .ptr 1 0), (7, .c (I q))] [] none h) ?_ (k := d.k)
    ⟨0, _, Nat.zero_le _, rfl, rfl, rfl, by kernel_rfl, Nat.le_refl 2, rfl, ⟨rfl, rfl, rfl, rfl, trivial⟩, rfl, rfl, rfl, rfl⟩
  rintro z st ⟨q, h, hq, rfl, hok, h0, h1, hn, hs1⟩
  refine hs1.run (hm := false) ?_
  conv => whnf
  refine ⟨_, h0, ?_⟩
  conv => whnf
  cases hcq : decide ((q : Int) < (v.bn : Int))
  case true =>
    have hq : q < d.k := by simp at hcq; omega
    have hsucc := okQ_succ d m x q
    rw [hok, Bool.true_and] at hsucc
    have hbp : (d.b q).2 < 64 := by have := (hd.b hq).1; omega
    have hbs : (d.b q).1 < 64 := by have := (hd.b hq).2.lt (hd.b hq).1; omega
    conv => whnf
    refine ⟨_, h0, ?_⟩
    conv => whnf
    refine ⟨⟨by omega, by omega⟩, ?_⟩
    conv => whnf
    refine ⟨_, hv.bale (bu_bale hq), ?_⟩
    conv => whnf
    refine ⟨_, at_push_self _ _, ?_⟩
    conv => whnf
    generalize hG : TMap.set AB.dead (TMap.push AB.dead h _) _ _ = G
    have Gn : G.n = h.n + 1 := by rw [← hG]; exact new_n _ _ _
    have G0 : Heap.at G 0 = v.blk d.bu := by rw [← hG]; exact (at_old _ _ _ (by omega)).trans h0
    have G1 : Heap.at G 1 = .blk [.c (I m), .c (I x)] := by rw [← hG]; exact (at_old _ _ _ (by omega)).trans h1
    have G2 : Heap.at G h.n = .blk [.c (I (d.b q).1), .c (I (d.b q).2)] := by rw [← hG]; exact at_new _ _ _
    clear hG
    refine ⟨_, G2, ?_⟩
    conv => whnf
    refine ⟨_, G1, ?_⟩
    conv => whnf
    refine .ret (both_ret (a := (d.b q).1) (b := m) hbs (by omega)) rfl ?_
    conv => whnf
    have p1 : decide (((((d.b q).1 &&& m : Nat)) : Int) > 0) = decide (0 < (d.b q).1 &&& m) := by rw [decide_eq_decide]; omega
    have p2 : (((((d.b q).2 &&& m : Nat)) : Int) == 0) = decide ((d.b q).2 &&& m = 0) := by rw [Bool.eq_iff_iff, beq_iff_eq, decide_eq_true_eq]; omega
    rw [p1]
    have hno := ok_no (m := m) hx hq
    unfold ok1 at hsucc hno
    cases hp1 : decide (0 < (d.b q).1 &&& m)
    · rw [hp1] at hsucc hno
      conv => whnf
      refine ⟨_, G2, ?_⟩
      conv => whnf
      refine ⟨_, G1, ?_⟩
      conv => whnf
      refine .ret (both_ret (a := (d.b q).2) (b := m) hbp (by omega)) rfl ?_
      conv => whnf
      rw [p2]
      cases hp2 : decide ((d.b q).2 &&& m = 0)
      · rw [hp2] at hsucc hno
        conv => whnf
        refine ⟨((q + 1 : Nat) : Int), by rw [wrap_eq (by omega) (by omega)]; omega, ?_⟩
        conv => whnf
        exact ⟨d.k - (q + 1), by omega, q + 1, G, by omega, rfl, hsucc, G0, G1, by omega, rfl, ⟨rfl, rfl, rfl, rfl, trivial⟩, rfl, rfl, rfl, rfl⟩
      · rw [hp2] at hsucc hno
        conv => whnf
        refine ⟨_, G1, ?_⟩
        conv => whnf
        refine .ret (has_ret (a := x) (i := q) (by omega) (by omega)) rfl ?_
        conv => whnf
        cases hX : x.testBit q
        · rw [hX] at hsucc hno
          conv => whnf
          refine ⟨((q + 1 : Nat) : Int), by rw [wrap_eq (by omega) (by omega)]; omega, ?_⟩
          conv => whnf
          exact ⟨d.k - (q + 1), by omega, q + 1, G, by omega, rfl, hsucc, G0, G1, by omega, rfl, ⟨rfl, rfl, rfl, rfl, trivial⟩, rfl, rfl, rfl, rfl⟩
        · rw [hX] at hno
          conv => whnf
          rw [hno rfl]
          exact .val
    · rw [hp1] at hsucc hno
      conv => whnf
      refine ⟨_, G1, ?_⟩
      conv => whnf
      refine .ret (has_ret (a := x) (i := q) (by omega) (by omega)) rfl ?_
      conv => whnf
      cases hX : x.testBit q
      · rw [hX] at hno
        conv => whnf
        rw [hno rfl]
        exact .val
      · rw [hX] at hsucc hno
        conv => whnf
        refine ⟨_, G2, ?_⟩
        conv => whnf
        refine ⟨_, G1, ?_⟩
        conv => whnf
        refine .ret (both_ret (a := (d.b q).2) (b := m) hbp (by omega)) rfl ?_
        conv => whnf
        rw [p2]
        cases hp2 : decide ((d.b q).2 &&& m = 0)
        · rw [hp2] at hsucc hno
          conv => whnf
          refine ⟨((q + 1 : Nat) : Int), by rw [wrap_eq (by omega) (by omega)]; omega, ?_⟩
          conv => whnf
          exact ⟨d.k - (q + 1), by omega, q + 1, G, by omega, rfl, hsucc, G0, G1, by omega, rfl, ⟨rfl, rfl, rfl, rfl, trivial⟩, rfl, rfl, rfl, rfl⟩
        · rw [hp2] at hno
          conv => whnf
          refine ⟨_, G1, ?_⟩
          conv => whnf
          refine .ret (has_ret (a := x) (i := q) (by omega) (by omega)) rfl ?_
          conv => whnf
          rw [hX]
          conv => whnf
          rw [hno rfl]
          exact .val
  have hqe : q = d.k := by simp at hcq; omega
  rw [hqe] at hok
  conv => whnf
  have hr : rightB d m x = d.tests.all fun t => x.testBit t.1 == t.2 := by unfold rightB; rw [← ok_all hx, hok, Bool.true_and]
  have hte : rightB d m x = teQ d x d.tests.length := by rw [hr]; unfold teQ; rw [List.take_length]
  refine loop_by (I := fun z st => ∃ (q : Nat) (h : Heap), q ≤ d.tests.length ∧ z = d.tests.length - q ∧ teQ d x q = true ∧ Heap.at h 0 = v.blk d.bu ∧ Heap.at h 1 = .blk [.c (I m), .c (I x)] ∧ 2 ≤ h.n ∧
      Has st 88 [(2, .c (I (allN d : Nat))), (3, .ptr 0 0), (4, .ptr 1 0), (9, .c (I q))] [] none h) ?_ (k := d.tests.length)
    ⟨0, _, Nat.zero_le _, rfl, rfl, h0, h1, hn, rfl, ⟨rfl, rfl, rfl, rfl, trivial⟩, rfl, rfl, rfl, rfl⟩
  rintro z st ⟨q, h, hq, rfl, hok, h0, h1, hn, hs1⟩
  refine hs1.run (hm := false) ?_
  conv => whnf
  refine ⟨_, h0, ?_⟩
  conv => whnf
  cases hcq : decide ((q : Int) < (v.tn : Int))
  case false =>
    have hqe : q = d.tests.length := by simp at hcq; omega
    rw [hqe] at hok
    rw [hte, hok]
    conv => whnf
    exact .val
  have hq : q < d.tests.length := by simp at hcq; omega
  have hsucc := teQ_succ (x := x) hq
  rw [hok, Bool.true_and] at hsucc
  have ht6 : (d.te q).1 < 6 := by have := hd.ts _ (te_mem hq); have : d.bales.length ≤ 6 := k6; omega
  have hno : (x.testBit (d.te q).1 == (d.te q).2) = false → rightB d m x = false := by
    intro h
    rw [hr, List.all_eq_false]
    exact ⟨_, te_mem hq, by rw [h]; simp⟩
  have ha : (allN d).testBit q = true := all_bit _ _ hq
  conv => whnf
  refine draw_by (hm := false) (by kernel_rfl) (by kernel_rfl) ?_
  conv => whnf
  refine .pure _ _ rfl (has_ret (a := allN d) (i := q) (by unfold allN; omega) (by omega)) ?_
  conv => whnf
  rw [ha]
  conv => whnf
  refine ⟨_, h1, ?_⟩
  conv => whnf
  refine ⟨_, h0, ?_⟩
  conv => whnf
  refine ⟨⟨by omega, by omega⟩, ?_⟩
  conv => whnf
  refine ⟨_, te_bale hv hq, ?_⟩
  conv => whnf
  refine .pure _ _ rfl (has_ret (a := x) (i := (d.te q).1) (by omega) (by omega)) ?_
  conv => whnf
  refine ⟨_, h0, ?_⟩
  conv => whnf
  refine ⟨⟨by omega, by omega⟩, ?_⟩
  conv => whnf
  refine ⟨_, te_found hv hq, ?_⟩
  conv => whnf
  refine ⟨by kernel_rfl, ?_⟩
  conv => whnf
  cases hc : (x.testBit (d.te q).1 == (d.te q).2)
  · conv => whnf
    rw [hno hc]
    exact .val
  · rw [hc] at hsucc
    conv => whnf
    refine ⟨((q + 1 : Nat) : Int), by rw [wrap_eq (by omega) (by omega)]; omega, ?_⟩
    conv => whnf
    exact ⟨d.tests.length - (q + 1), by omega, q + 1, _, by omega, rfl, hsucc, h0, h1, hn, rfl, ⟨rfl, rfl, rfl, rfl, trivial⟩, rfl, rfl, rfl, rfl⟩
end Go.Ag
/- Layer 7: the reference: all truths. -/
namespace Go.Ag
open Go.Proofs
set_option maxRecDepth 100000

theorem U67 : Tryz.prog.underlying 67 = some (.slice 72) := by kernel_rfl
theorem S72 : slicePart Tryz.prog 72 = some 2 := by kernel_rfl
def rowTr (t : Nat × Nat) : List CV := [I t.1, I t.2]
def trV (t : Nat × Nat) : CV := .agg (rowTr t)
def trC (L : List (Nat × Nat)) : CV := .sl (L.map rowTr).flatten 0 L.length
theorem tr_all (L : List (Nat × Nat)) : ∀ r ∈ L.map rowTr, r.length = 2 := by
  intro r hr; obtain ⟨x, _, rfl⟩ := List.mem_map.1 hr; rfl
/-- The truths of the first so many mobs, and of so many bales of the next one. -/
def trQ (d : Bn) (m q : Nat) : List (Nat × Nat) := (List.range m).flatMap (ofM d) ++ (if sizeOk d m then ((List.range q).filter (rightB d m)).map fun x => (m, x) else [])
theorem trQ_succ (d : Bn) (m q : Nat) : trQ d m (q + 1) = if sizeOk d m && rightB d m q then trQ d m q ++ [(m, q)] else trQ d m q := by
  unfold trQ
  cases hs : sizeOk d m
  · simp
  · rw [List.range_succ, List.filter_append]
    cases hr : rightB d m q
    · simp [hr]
    · simp [hr]
theorem trQ_next (d : Bn) (m : Nat) : trQ d m (2 ^ d.k) = trQ d (m + 1) 0 := by
  have h0 : trQ d (m + 1) 0 = (List.range (m + 1)).flatMap (ofM d) := by unfold trQ; cases sizeOk d (m + 1) <;> simp
  rw [h0, List.range_succ, List.flatMap_append]
  unfold trQ
  simp only [List.flatMap_cons, List.flatMap_nil, List.append_nil]
  rfl
theorem trQ_zero (d : Bn) : trQ d 0 0 = [] := by unfold trQ; cases sizeOk d 0 <;> simp
theorem trQ_end (d : Bn) : trQ d (2 ^ d.n) 0 = truthsL d := by unfold trQ truthsL; cases sizeOk d (2 ^ d.n) <;> simp
theorem ofM_le (d : Bn) (m : Nat) : (ofM d m).length ≤ 2 ^ d.k := by
  unfold ofM
  split
  · rw [List.length_map]; exact Nat.le_trans (List.length_filter_le _ _) (by simp)
  · simp
theorem trQ_len (d : Bn) (m q : Nat) : (trQ d m q).length ≤ m * 2 ^ d.k + q := by
  unfold trQ
  have h1 : ∀ m, ((List.range m).flatMap (ofM d)).length ≤ m * 2 ^ d.k := by
    intro m
    induction m with
    | zero => simp
    | succ m ih =>
      rw [List.range_succ, List.flatMap_append, List.length_append, Nat.add_mul, Nat.one_mul]
      have := ofM_le d m
      simp only [List.flatMap_cons, List.flatMap_nil, List.append_nil]
      omega
  have h2 : (if sizeOk d m then ((List.range q).filter (rightB d m)).map fun x => (m, x) else []).length ≤ q := by
    split
    · rw [List.length_map]; exact Nat.le_trans (List.length_filter_le _ _) (by simp)
    · simp
  rw [List.length_append]
  have := h1 m
  omega
set_option maxHeartbeats 4000000 in
theorem truths_ret {v : BV} {d : Bn} (hv : v.Is d.bu) (hd : d.Good) (h6 : d.tests.length ≤ 6) : Ret Tryz.prog 78 [v.cv d.bu, I (allN d : Nat)] (trC (truthsL d)) := by
  have e2 : v.bn = d.k := hv.bn.trans (bu_k d)
  have k6 : d.k ≤ 6 := hd.k6
  have n5 := hd.n5
  have p5 := pow_c hd.n5
  have p6 := pow_b k6
  refine ret_le (hm := false) Tryz.func78 rfl ?_
  conv => whnf
  refine loop_by (I := fun z st => ∃ (m : Nat) (h : Heap) (out : AV), m ≤ 2 ^ d.n ∧ z = 2 ^ d.n - m ∧ RowsL 2 h out ((trQ d m 0).map rowTr) ∧ Heap.at h 0 = v.blk d.bu ∧ 1 ≤ h.n ∧ (∀ k, outId out = some k → 1 ≤ k) ∧
      Has st 36 [(1, .c (I (allN d : Nat))), (2, .ptr 0 0), (5, out), (6, .c (I m))] [] none h) ?_ (k := 2 ^ d.n)
    ⟨0, _, nilA, Nat.zero_le _, rfl, .inl ⟨rfl, by rw [trQ_zero]; rfl⟩, rfl, Nat.le_refl 1, (fun k hk => by cases hk), rfl, ⟨rfl, rfl, rfl, rfl, trivial⟩, rfl, rfl, rfl, rfl⟩
  rintro z st ⟨m, h, out, hm, rfl, R, h0, hn, ho, hs1⟩
  refine hs1.run (hm := false) ?_
  conv => whnf
  refine ⟨_, h0, ?_⟩
  conv => whnf
  refine .ret (power_ret (n := d.n) (by omega)) rfl ?_
  conv => whnf
  cases hcm : decide ((m : Int) < ((2 ^ d.n : Nat) : Int))
  case false =>
    have hme : m = 2 ^ d.n := by have := of_decide_eq_false hcm; omega
    rw [hme, trQ_end] at R
    have hrl : ((truthsL d).map rowTr).length = (truthsL d).length := List.length_map _
    rcases R.shape with rfl | ⟨o, n, rfl⟩
    · conv => whnf
      have hk : truthsL d = [] := by
        rcases R with ⟨_, hh⟩ | ⟨o, hx, _⟩
        · exact List.map_eq_nil_iff.1 hh
        · cases hx
      refine ⟨_, .val, ?_⟩
      unfold trC
      rw [hk]
      exact .nil _ _
    · conv => whnf
      obtain ⟨x, ids, hs, hle⟩ := snap_row R (((truthsL d).map rowTr).flatten.length + 25) (by omega)
      rw [hrl] at hle
      exact ⟨x, ⟨_, ids, hs⟩, hle⟩
  have hm : m < 2 ^ d.n := by have := of_decide_eq_true hcm; omega
  conv => whnf
  refine loop_by (I := fun z st => ∃ (q : Nat) (h : Heap) (out : AV), q ≤ 2 ^ d.k ∧ z = 2 ^ d.k - q ∧ RowsL 2 h out ((trQ d m q).map rowTr) ∧ Heap.at h 0 = v.blk d.bu ∧ 1 ≤ h.n ∧ (∀ k, outId out = some k → 1 ≤ k) ∧
      Has st 36 [(1, .c (I (allN d : Nat))), (2, .ptr 0 0), (5, out), (6, .c (I m)), (7, .c (I q))] [] none h) ?_ (k := 2 ^ d.k)
    ⟨0, _, out, Nat.zero_le _, rfl, R, h0, hn, ho, rfl, ⟨rfl, rfl, rfl, rfl, rfl, trivial⟩, rfl, rfl, rfl, rfl⟩
  rintro z st ⟨q, h, out, hq, rfl, R, h0, hn, ho, hs1⟩
  refine hs1.run (hm := false) ?_
  conv => whnf
  refine ⟨_, h0, ?_⟩
  conv => whnf
  rw [e2]
  refine .ret (power_ret (n := d.k) (by omega)) rfl ?_
  conv => whnf
  cases hcq : decide ((q : Int) < ((2 ^ d.k : Nat) : Int))
  case false =>
    have hqe : q = 2 ^ d.k := by have := of_decide_eq_false hcq; omega
    rw [hqe, trQ_next] at R
    conv => whnf
    refine ⟨((m + 1 : Nat) : Int), by rw [wrap_eq (by omega) (by omega)]; omega, ?_⟩
    conv => whnf
    exact ⟨2 ^ d.n - (m + 1), by omega, m + 1, h, out, by omega, rfl, R, h0, hn, ho, rfl, ⟨rfl, rfl, rfl, rfl, trivial⟩, rfl, rfl, rfl, rfl⟩
  have hq : q < 2 ^ d.k := by have := of_decide_eq_true hcq; omega
  have hsucc := trQ_succ d m q
  have hlo := R.lt
  rcases R.shape with rfl | ⟨o, n, rfl⟩
  all_goals
    conv => whnf
    refine ⟨_, at_push_self _ _, ?_⟩
    conv => whnf
    generalize hG : TMap.set AB.dead (TMap.push AB.dead h _) _ _ = G
    have Gn : G.n = h.n + 1 := by rw [← hG]; exact new_n _ _ _
    have Ga : ∀ i, i < h.n → Heap.at G i = Heap.at h i := fun i hi => by rw [← hG]; exact at_old _ _ _ hi
    have Gt : Heap.at G h.n = .blk [.c (I m), .c (I q)] := by rw [← hG]; exact at_new _ _ _
    clear hG
    have R1 := R.ext (h' := G) (by omega) (fun i hi _ => Ga i hi)
    refine ⟨_, (Ga 0 (by omega)).trans h0, ?_⟩
    conv => whnf
    refine ⟨_, Gt, ?_⟩
    conv => whnf
    refine .ret (right_ret hv hd h6 hm hq) rfl ?_
    conv => whnf
    cases hr : (sizeOk d m && rightB d m q)
    · rw [hr, if_neg (by simp)] at hsucc
      conv => whnf
      refine ⟨((q + 1 : Nat) : Int), by rw [wrap_eq (by omega) (by omega)]; omega, ?_⟩
      conv => whnf
      exact ⟨2 ^ d.k - (q + 1), by omega, q + 1, G, _, by omega, rfl, by rw [hsucc]; exact R1, (Ga 0 (by omega)).trans h0, by omega, ho, rfl, ⟨rfl, rfl, rfl, rfl, rfl, trivial⟩, rfl, rfl, rfl, rfl⟩
    · rw [hr, if_pos rfl] at hsucc
      have hrow : (trQ d m q ++ [(m, q)]).map rowTr = (trQ d m q).map rowTr ++ [rowTr (m, q)] := by simp
      have hlen := trQ_len d m q
      have hmul : m * 2 ^ d.k ≤ 32 * 64 := Nat.mul_le_mul (by omega) p6.2
      have hlim : ((trQ d m q).map rowTr).length + 1 ≤ limit := by rw [List.length_map]; unfold limit; omega
      conv => whnf
      refine ⟨_, Gt, ?_⟩
      conv => whnf
      obtain ⟨rr, hrr, hR', hold, hn', hfresh⟩ := rows_append (P := Tryz.prog) (row := rowTr (m, q)) (t := 67) (u := 67) R1 U67 U67 rfl S72 rfl (tr_all _) rfl hlim
      obtain ⟨rv, rreads, rupds, rfresh⟩ := rr
      rcases hR' with ⟨_, hh⟩ | ⟨o', ho', hb', hlt', hne'⟩
      · exact absurd hh (by simp)
      simp only at ho' hfresh
      subst ho'
      refine ⟨_, hrr, ?_⟩
      conv => whnf
      refine ⟨((q + 1 : Nat) : Int), by rw [wrap_eq (by omega) (by omega)]; omega, ?_⟩
      conv => whnf
      have low : Heap.at (after (G.push .dead (.blk ((rowTr (m, q)).map .c))) ⟨_, rreads, rupds, rfresh⟩) 0 = Heap.at h 0 := (hold 0 (by omega) (fun e => by have := ho 0 e; omega)).trans (Ga 0 (by omega))
      exact ⟨2 ^ d.k - (q + 1), by omega, q + 1, _, _, by omega, rfl, by rw [hsucc, hrow]; exact .inr ⟨o', rfl, hb', hlt', hne'⟩, low.trans h0, Nat.le_trans (by omega) hn', (fun k hk => by have := hfresh k hk; omega), rfl, ⟨rfl, rfl, rfl, rfl, rfl, trivial⟩, rfl, rfl, rfl, rfl⟩
end Go.Ag
/- Layer 7: the reference: what is told by all truths. -/
namespace Go.Ag
open Go.Proofs
set_option maxRecDepth 100000

theorem every_ret {v : BV} {d : Bn} (hv : v.Is d.bu) (h6 : d.tests.length ≤ 6) : Ret Tryz.prog 77 [v.cv d.bu] (I (allN d : Nat)) := by
  have e3 := hv.tn
  rw [bu_t] at e3
  have pt := pow_b h6
  refine ret_by (hm := false) Tryz.func77 rfl ?_
  conv => whnf
  refine ⟨_, rfl, ?_⟩
  conv => whnf
  rw [e3]
  refine .ret (power_ret h6) rfl ?_
  conv => whnf
  have hall : allN d = 2 ^ d.tests.length - 1 := rfl
  refine ⟨((allN d : Nat) : Int), by rw [wrap_eq (by omega) (by omega)]; omega, ?_⟩
  conv => whnf
  exact .val
theorem truthsX_ret {v : BV} {d : Bn} (hv : v.Is d.bu) (hd : d.Good) (h6 : d.tests.length ≤ 6) : Ret Tryz.prog 60 [v.cv d.bu] (trC (truthsL d)) := by
  refine ret_by (hm := false) Tryz.func60 rfl ?_
  conv => whnf
  refine draw_by (hm := false) (by kernel_rfl) (by kernel_rfl) ?_
  conv => whnf
  refine ⟨_, rfl, ?_⟩
  conv => whnf
  refine ⟨_, rfl, ?_⟩
  conv => whnf
  refine .pure _ _ rfl (every_ret hv h6) ?_
  conv => whnf
  refine .pure _ _ rfl (truths_ret hv hd h6) ?_
  conv => whnf
  refine ⟨by kernel_rfl, ?_⟩
  conv => whnf
  exact .val
theorem told_bad {v : BV} {c : Bu} (hv : v.Is c) (hc : validB c = false) : Ret Tryz.prog 49 [v.cv c] (.tuple [nilC, I 1]) := by
  have r6 := ref_ret hv
  rw [hc] at r6
  refine ret_by (hm := false) Tryz.func49 rfl ?_
  conv => whnf
  refine ⟨_, rfl, ?_⟩
  conv => whnf
  refine .ret (r6) rfl ?_
  conv => whnf
  exact .val
theorem told_none {v : BV} {d : Bn} (hv : v.Is d.bu) (hd : d.Good) (h6 : d.tests.length ≤ 6) (ht : truthsL d = []) : Ret Tryz.prog 49 [v.cv d.bu] (.tuple [nilC, I 10]) := by
  have r6 := ref_ret hv
  rw [valid_yes hd h6 hv] at r6
  have rt := truthsX_ret hv hd h6
  rw [ht] at rt
  refine ret_by (hm := false) Tryz.func49 rfl ?_
  conv => whnf
  refine ⟨_, rfl, ?_⟩
  conv => whnf
  refine .ret (r6) rfl ?_
  conv => whnf
  refine ⟨_, rfl, ?_⟩
  conv => whnf
  refine .ret (rt) rfl ?_
  conv => whnf
  exact .val
theorem told_some {v : BV} {d : Bn} (hv : v.Is d.bu) (hd : d.Good) (h6 : d.tests.length ≤ 6) (ht : truthsL d ≠ []) : Ret Tryz.prog 49 [v.cv d.bu] (.tuple [trC (truthsL d), I 0]) := by
  have r6 := ref_ret hv
  rw [valid_yes hd h6 hv] at r6
  have rt := truthsX_ret hv hd h6
  have hl : 0 < (truthsL d).length := List.length_pos_iff.2 ht
  refine ret_by (hm := false) Tryz.func49 rfl ?_
  conv => whnf
  refine ⟨_, rfl, ?_⟩
  conv => whnf
  refine .ret (r6) rfl ?_
  conv => whnf
  refine ⟨_, rfl, ?_⟩
  conv => whnf
  refine .ret (rt) rfl ?_
  conv => whnf
  rw [show (((truthsL d).length : Int) == 0) = false by rw [beq_eq_false_iff_ne]; omega]
  conv => whnf
  exact .val
theorem countR_bad {v : BV} {c : Bu} (hv : v.Is c) (hc : validB c = false) : Ret Tryz.prog 23 [v.cv c] (.tuple [I 0, I 1]) := by
  have r6 := ref_ret hv
  rw [hc] at r6
  refine ret_by (hm := false) Tryz.func23 rfl ?_
  conv => whnf
  refine ⟨_, rfl, ?_⟩
  conv => whnf
  refine .ret (r6) rfl ?_
  conv => whnf
  exact .val
theorem countR_ret {v : BV} {d : Bn} (hv : v.Is d.bu) (hd : d.Good) (h6 : d.tests.length ≤ 6) : Ret Tryz.prog 23 [v.cv d.bu] (.tuple [I (countN d : Nat), I 0]) := by
  have r6 := ref_ret hv
  rw [valid_yes hd h6 hv] at r6
  rw [count_eq hd]
  refine ret_by (hm := false) Tryz.func23 rfl ?_
  conv => whnf
  refine ⟨_, rfl, ?_⟩
  conv => whnf
  refine .ret (r6) rfl ?_
  conv => whnf
  refine ⟨_, rfl, ?_⟩
  conv => whnf
  refine .ret (truthsX_ret hv hd h6) rfl ?_
  conv => whnf
  exact .val

def row1 (x : Nat) : List CV := [I x]
def nsC (L : List Nat) : CV := .sl (L.map row1).flatten 0 L.length
theorem row1_all (L : List Nat) : ∀ r ∈ L.map row1, r.length = 1 := by
  intro r hr; obtain ⟨x, _, rfl⟩ := List.mem_map.1 hr; rfl
theorem ns_get {L : List Nat} {k x : Nat} (hk : L[k]? = some x) : readVarC Tryz.prog 3 (L.map row1).flatten (0 + (k : Int).toNat * 1) = some (I x) := by
  rw [Int.toNat_natCast, rv3]
  have := sliceOf_get ((sl_flat (row1_all L)).row k (row1 x) (by simp [hk])) (j := 0) (by omega)
  exact this
theorem bitsN_add (p : Nat → Bool) (q : Nat) : bitsN p (q + 1) = if p q then bitsN p q + 2 ^ q else bitsN p q := by
  have h := bitsN_lt p q
  rw [show bitsN p (q + 1) = if p q then bitsN p q ||| 2 ^ q else bitsN p q from rfl]
  split
  · have := Nat.two_pow_add_eq_or_of_lt h 1
    rw [Nat.mul_one] at this
    rw [Nat.or_comm, ← this, Nat.add_comm]
  · rfl
def allP (L : List Nat) (i : Nat) : Bool := L.all fun x => x.testBit i
def anyP (L : List Nat) (i : Nat) : Bool := L.any fun x => x.testBit i
def cnt (L : List Nat) (i q : Nat) : Nat := (L.take q).countP fun x => x.testBit i
theorem cnt_succ {L : List Nat} {i q x : Nat} (h : L[q]? = some x) : cnt L i (q + 1) = cnt L i q + (if x.testBit i then 1 else 0) := by
  unfold cnt
  rw [List.take_add_one, h, List.countP_append]
  simp [List.countP_cons]
theorem cnt_le (L : List Nat) (i q : Nat) : cnt L i q ≤ L.length := by
  unfold cnt
  exact Nat.le_trans List.countP_le_length (by rw [List.length_take]; omega)
theorem cnt_all (L : List Nat) (i : Nat) : (((cnt L i L.length : Nat) : Int) == ((L.length : Nat) : Int)) = allP L i := by
  unfold cnt allP
  rw [List.take_length, Bool.eq_iff_iff, beq_iff_eq, List.all_eq_true]
  constructor
  · intro h x hx
    exact (List.countP_eq_length (p := fun x : Nat => x.testBit i)).1 (by omega) x hx
  · intro h
    rw [(List.countP_eq_length (p := fun x : Nat => x.testBit i)).2 h]
theorem cnt_any (L : List Nat) (i : Nat) : decide (((cnt L i L.length : Nat) : Int) > 0) = anyP L i := by
  unfold cnt anyP
  rw [List.take_length, Bool.eq_iff_iff, decide_eq_true_eq, List.any_eq_true]
  have := List.countP_pos_iff (p := fun x : Nat => x.testBit i) (l := L)
  constructor
  · intro h
    exact this.1 (by omega)
  · intro h
    have := this.2 h
    omega
set_option maxHeartbeats 4000000 in
theorem sets_ret {L : List Nat} {n : Nat} (hn : n ≤ 6) (hl : ∀ x ∈ L, x < 2 ^ 62) (hlen : L.length ≤ 4096) : Ret Tryz.prog 50 [nsC L, I n] (.tuple [I (bitsN (allP L) n : Nat), I (bitsN (anyP L) n : Nat)]) := by
  refine ret_by (hm := false) Tryz.func50 rfl ?_
  conv => whnf
  refine loop_by (I := fun z st => ∃ (i : Nat) (h : Heap), i ≤ n ∧ z = n - i ∧
      Has st 46 [(0, .c (nsC L)), (1, .c (I n)), (6, .c (I (bitsN (allP L) i : Nat))), (7, .c (I (bitsN (anyP L) i : Nat))), (8, .c (I i))] [] none h) ?_ (k := n)
    ⟨0, _, Nat.zero_le _, rfl, rfl, ⟨rfl, rfl, rfl, rfl, rfl, trivial⟩, rfl, rfl, rfl, rfl⟩
  rintro z st ⟨i, h, hi, rfl, hs1⟩
  refine hs1.run (hm := false) ?_
  conv => whnf
  cases hci : decide ((i : Int) < (n : Int))
  case false =>
    have hie : i = n := by simp at hci; omega
    rw [hie]
    conv => whnf
    exact .val
  have hi : i < n := by simp at hci; omega
  have p1 := pow_b (n := i) (by omega)
  have b1 := bitsN_lt (allP L) i
  have b2 := bitsN_lt (anyP L) i
  have s1 := bitsN_add (allP L) i
  have s2 := bitsN_add (anyP L) i
  conv => whnf
  refine loop_by (I := fun z st => ∃ (q : Nat) (h : Heap), q ≤ L.length ∧ z = L.length - q ∧
      Has st 46 [(0, .c (nsC L)), (1, .c (I n)), (6, .c (I (bitsN (allP L) i : Nat))), (7, .c (I (bitsN (anyP L) i : Nat))), (8, .c (I i)), (9, .c (I (cnt L i q : Nat))), (10, .c (I q))] [] none h) ?_ (k := L.length)
    ⟨0, _, Nat.zero_le _, rfl, rfl, ⟨rfl, rfl, rfl, rfl, rfl, rfl, rfl, trivial⟩, rfl, rfl, rfl, rfl⟩
  rintro z st ⟨q, h, hq, rfl, hs1⟩
  refine hs1.run (hm := false) ?_
  conv => whnf
  cases hcq : decide ((q : Int) < (L.length : Int))
  case true =>
    have hq : q < L.length := by simp at hcq; omega
    obtain ⟨x, hx⟩ := get_some hq
    have hsc := cnt_succ (i := i) hx
    have hcl := cnt_le L i q
    conv => whnf
    refine ⟨⟨by omega, by omega⟩, ?_⟩
    conv => whnf
    refine ⟨_, ns_get hx, ?_⟩
    conv => whnf
    refine .ret (has_ret (a := x) (i := i) (hl x (List.mem_of_getElem? hx)) (by omega)) rfl ?_
    conv => whnf
    cases hb : x.testBit i
    · rw [hb] at hsc
      conv => whnf
      refine ⟨((q + 1 : Nat) : Int), by rw [wrap_eq (by omega) (by omega)]; omega, ?_⟩
      conv => whnf
      exact ⟨L.length - (q + 1), by omega, q + 1, _, by omega, rfl, rfl, ⟨rfl, rfl, rfl, rfl, rfl, by rw [hsc]; rfl, rfl, trivial⟩, rfl, rfl, rfl, rfl⟩
    · rw [hb] at hsc
      conv => whnf
      refine ⟨((cnt L i q + 1 : Nat) : Int), by rw [wrap_eq (by omega) (by omega)]; omega, ?_⟩
      conv => whnf
      refine ⟨((q + 1 : Nat) : Int), by rw [wrap_eq (by omega) (by omega)]; omega, ?_⟩
      conv => whnf
      exact ⟨L.length - (q + 1), by omega, q + 1, _, by omega, rfl, rfl, ⟨rfl, rfl, rfl, rfl, rfl, by rw [hsc]; rfl, rfl, trivial⟩, rfl, rfl, rfl, rfl⟩
  have hqe : q = L.length := by simp at hcq; omega
  subst hqe
  conv => whnf
  rw [cnt_all]
  cases ha : allP L i
  · rw [ha, if_neg (by simp)] at s1
    conv => whnf
    rw [cnt_any]
    cases hb : anyP L i
    · rw [hb, if_neg (by simp)] at s2
      conv => whnf
      refine ⟨((i + 1 : Nat) : Int), by rw [wrap_eq (by omega) (by omega)]; omega, ?_⟩
      conv => whnf
      exact ⟨n - (i + 1), by omega, i + 1, _, by omega, rfl, rfl, ⟨rfl, rfl, by rw [s1]; rfl, by rw [s2]; rfl, rfl, trivial⟩, rfl, rfl, rfl, rfl⟩
    · rw [hb, if_pos rfl] at s2
      conv => whnf
      refine .ret (power_ret (n := i) (by omega)) rfl ?_
      conv => whnf
      refine ⟨((bitsN (anyP L) i + 2 ^ i : Nat) : Int), by rw [wrap_eq (by omega) (by omega)]; omega, ?_⟩
      conv => whnf
      refine ⟨((i + 1 : Nat) : Int), by rw [wrap_eq (by omega) (by omega)]; omega, ?_⟩
      conv => whnf
      exact ⟨n - (i + 1), by omega, i + 1, _, by omega, rfl, rfl, ⟨rfl, rfl, by rw [s1]; rfl, by rw [s2]; rfl, rfl, trivial⟩, rfl, rfl, rfl, rfl⟩
  · rw [ha, if_pos rfl] at s1
    conv => whnf
    refine .ret (power_ret (n := i) (by omega)) rfl ?_
    conv => whnf
    refine ⟨((bitsN (allP L) i + 2 ^ i : Nat) : Int), by rw [wrap_eq (by omega) (by omega)]; omega, ?_⟩
    conv => whnf
    rw [cnt_any]
    cases hb : anyP L i
    · rw [hb, if_neg (by simp)] at s2
      conv => whnf
      refine ⟨((i + 1 : Nat) : Int), by rw [wrap_eq (by omega) (by omega)]; omega, ?_⟩
      conv => whnf
      exact ⟨n - (i + 1), by omega, i + 1, _, by omega, rfl, rfl, ⟨rfl, rfl, by rw [s1]; rfl, by rw [s2]; rfl, rfl, trivial⟩, rfl, rfl, rfl, rfl⟩
    · rw [hb, if_pos rfl] at s2
      conv => whnf
      refine .ret (power_ret (n := i) (by omega)) rfl ?_
      conv => whnf
      refine ⟨((bitsN (anyP L) i + 2 ^ i : Nat) : Int), by rw [wrap_eq (by omega) (by omega)]; omega, ?_⟩
      conv => whnf
      refine ⟨((i + 1 : Nat) : Int), by rw [wrap_eq (by omega) (by omega)]; omega, ?_⟩
      conv => whnf
      exact ⟨n - (i + 1), by omega, i + 1, _, by omega, rfl, rfl, ⟨rfl, rfl, by rw [s1]; rfl, by rw [s2]; rfl, rfl, trivial⟩, rfl, rfl, rfl, rfl⟩
theorem sets_join {L : List Nat} {n : Nat} (hne : L ≠ []) (hl : ∀ x ∈ L, x < 2 ^ n) : (⟨bitsN (allP L) n, bitsN (anyP L) n⟩ : Bd) = joinL (L.map onB) := by
  refine bd_ext (fun i => ?_) (fun i => ?_)
  · rw [join_s (by simpa using hne), bitsN_bit, List.all_map, Bool.eq_iff_iff]
    show (decide (i < n) && allP L i) = true ↔ allP L i = true
    rw [Bool.and_eq_true, decide_eq_true_eq]
    refine ⟨fun h => h.2, fun h => ⟨?_, h⟩⟩
    cases hL : L with
    | nil => exact absurd hL hne
    | cons x l =>
      have hx : x ∈ L := by rw [hL]; simp
      exact bit_lt (hl x hx) (List.all_eq_true.1 h x hx)
  · rw [join_p, bitsN_bit, List.any_map, Bool.eq_iff_iff]
    show (decide (i < n) && anyP L i) = true ↔ anyP L i = true
    rw [Bool.and_eq_true, decide_eq_true_eq]
    refine ⟨fun h => h.2, fun h => ⟨?_, h⟩⟩
    obtain ⟨x, hx, hb⟩ := List.any_eq_true.1 h
    exact bit_lt (hl x hx) hb
end Go.Ag
/- Layer 7: the reference: what is told; the law BurrTells. -/
namespace Go.Ag
open Go.Proofs
set_option maxRecDepth 100000

theorem truths_len {d : Bn} (hd : d.Good) : (truthsL d).length ≤ 2048 := by
  have h1 := trQ_len d (2 ^ d.n) 0
  rw [trQ_end] at h1
  have h2 : 2 ^ d.n * 2 ^ d.k ≤ 32 * 64 := Nat.mul_le_mul (pow_c hd.n5).2 (pow_b hd.k6).2
  omega
theorem tr_fst {L : List (Nat × Nat)} {k : Nat} {x : Nat × Nat} (hk : L[k]? = some x) : readVarC Tryz.prog 3 (L.map rowTr).flatten (0 + (k : Int).toNat * 2 + 0) = some (I x.1) := by
  rw [Int.toNat_natCast, rv3, sliceOf_get ((sl_flat (tr_all L)).row k (rowTr x) (by simp [hk])) (by omega)]; rfl
theorem tr_snd {L : List (Nat × Nat)} {k : Nat} {x : Nat × Nat} (hk : L[k]? = some x) : readVarC Tryz.prog 3 (L.map rowTr).flatten (0 + (k : Int).toNat * 2 + 1) = some (I x.2) := by
  rw [Int.toNat_natCast, rv3, sliceOf_get ((sl_flat (tr_all L)).row k (rowTr x) (by simp [hk])) (by omega)]; rfl
theorem can_truths {d : Bn} (hd : d.Good) : truthsL d = [] ↔ canB d = false := by
  rw [can_count hd, decide_eq_false_iff_not, count_eq hd]
  constructor
  · intro h; rw [h]; simp
  · intro h; exact List.length_eq_zero_iff.1 (by omega)
theorem mobsR_bad {v : BV} {c : Bu} (hv : v.Is c) (hc : validB c = false) : Ret Tryz.prog 15 [v.cv c] (tup3 ⟨0, 0⟩ 1) := by
  refine ret_by (hm := false) Tryz.func15 rfl ?_
  conv => whnf
  refine ⟨_, rfl, ?_⟩
  conv => whnf
  refine .ret (told_bad hv hc) rfl ?_
  conv => whnf
  exact .val
theorem mobsR_none {v : BV} {d : Bn} (hv : v.Is d.bu) (hd : d.Good) (h6 : d.tests.length ≤ 6) (hc : canB d = false) : Ret Tryz.prog 15 [v.cv d.bu] (tup3 ⟨0, 0⟩ 10) := by
  refine ret_by (hm := false) Tryz.func15 rfl ?_
  conv => whnf
  refine ⟨_, rfl, ?_⟩
  conv => whnf
  refine .ret (told_none hv hd h6 ((can_truths hd).2 hc)) rfl ?_
  conv => whnf
  exact .val
set_option maxHeartbeats 4000000 in
theorem mobsR_ret {v : BV} {d : Bn} (hv : v.Is d.bu) (hd : d.Good) (h6 : d.tests.length ≤ 6) (hc : canB d = true) : Ret Tryz.prog 15 [v.cv d.bu] (tup3 (mobsB d) 0) := by
  have e2 : v.bn = d.k := hv.bn.trans (bu_k d)
  have k6 : d.k ≤ 6 := hd.k6
  have n5 := hd.n5
  have hne : truthsL d ≠ [] := fun h => by have := (can_truths hd).1 h; rw [hc] at this; cases this
  have htl := truths_len hd
  have p5 := pow_c hd.n5
  have p6 := pow_b k6
  obtain ⟨M, hM⟩ : ∃ M, M = (truthsL d).map fun t => t.1 := ⟨_, rfl⟩
  have hMl : M.length = (truthsL d).length := by rw [hM, List.length_map]
  have hMb : ∀ x ∈ M, x < 2 ^ d.n := by
    intro x hx
    rw [hM, List.mem_map] at hx
    obtain ⟨t, ht, rfl⟩ := hx
    exact (mem_of.1 ht).lm
  have hMne : M ≠ [] := fun h => hne (by rw [hM] at h; exact List.map_eq_nil_iff.1 h)
  have hj : mobsB d = ⟨bitsN (allP M) d.n, bitsN (anyP M) d.n⟩ := by
    rw [sets_join hMne hMb, mobs_join hd hc, hM, List.map_map]; rfl
  have hsets := sets_ret (L := M) (n := d.n) (by omega) (fun x hx => by have := hMb x hx; omega) (by omega)
  rw [hj]
  refine ret_by (hm := false) Tryz.func15 rfl ?_
  conv => whnf
  refine ⟨_, rfl, ?_⟩
  conv => whnf
  refine .ret (told_some hv hd h6 hne) rfl ?_
  conv => whnf
  refine loop_by (I := fun z st => ∃ (q : Nat) (h : Heap) (out : AV), q ≤ M.length ∧ z = M.length - q ∧ RowsL 1 h out ((M.take q).map row1) ∧ Heap.at h 0 = v.blk d.bu ∧ 1 ≤ h.n ∧ (∀ k, outId out = some k → 1 ≤ k) ∧
      Has st 42 [(1, .ptr 0 0), (5, .c (trC (truthsL d))), (7, out), (8, .c (I q))] [] none h) ?_ (k := M.length)
    ⟨0, _, nilA, Nat.zero_le _, rfl, .inl ⟨rfl, rfl⟩, rfl, Nat.le_refl 1, (fun k hk => by cases hk), rfl, ⟨rfl, rfl, rfl, rfl, trivial⟩, rfl, rfl, rfl, rfl⟩
  rintro z st ⟨q, h, out, hq, rfl, R, h0, hn, ho, hs1⟩
  refine hs1.run (hm := false) ?_
  conv => whnf
  cases hcq : decide ((q : Int) < ((truthsL d).length : Int))
  case false =>
    have hqe : q = M.length := by simp at hcq; omega
    subst hqe
    rw [List.take_length] at R
    rcases R with ⟨_, hh⟩ | ⟨o, rfl, hb, hlt, _⟩
    · exact absurd (List.map_eq_nil_iff.1 hh) hMne
    unfold nsC at hsets
    rw [List.length_map] at hs1 ⊢
    conv => whnf
    refine ⟨_, h0, ?_⟩
    conv => whnf
    refine CallW.own hb (rest := [I d.n]) hsets rfl ?_
    conv => whnf
    exact .val
  have hq : q < M.length := by simp at hcq; omega
  obtain ⟨x, hx⟩ := get_some (l := truthsL d) (k := q) (by omega)
  have hx2 : M[q]? = some x.1 := by rw [hM, List.getElem?_map, hx]; rfl
  have hsucc : (M.take (q + 1)).map row1 = (M.take q).map row1 ++ [row1 x.1] := by rw [List.take_add_one, hx2]; simp
  have hlim : ((M.take q).map row1).length + 1 ≤ limit := by rw [List.length_map, List.length_take]; unfold limit; omega
  rcases R.shape with rfl | ⟨o, n, rfl⟩
  all_goals
    conv => whnf
    refine ⟨⟨by omega, by omega⟩, ?_⟩
    conv => whnf
    refine ⟨_, tr_fst hx, ?_⟩
    conv => whnf
    obtain ⟨rr, hrr, hR', hold, hn', hfresh⟩ := rows_append (P := Tryz.prog) (row := row1 x.1) (t := 70) (u := 70) R U70 U70 rfl S3 rfl (row1_all _) rfl hlim
    obtain ⟨rv, rreads, rupds, rfresh⟩ := rr
    rcases hR' with ⟨_, hh⟩ | ⟨o', ho', hb', hlt', hne'⟩
    · exact absurd hh (by simp)
    simp only at ho' hfresh
    subst ho'
    refine ⟨_, hrr, ?_⟩
    conv => whnf
    refine ⟨((q + 1 : Nat) : Int), by rw [wrap_eq (by omega) (by omega)]; omega, ?_⟩
    conv => whnf
    have low : Heap.at (after (h.push .dead (.blk ((row1 x.1).map .c))) ⟨_, rreads, rupds, rfresh⟩) 0 = Heap.at h 0 := hold 0 (by omega) (fun e => by have := ho 0 e; omega)
    exact ⟨M.length - (q + 1), by omega, q + 1, _, _, by omega, rfl, by rw [hsucc]; exact .inr ⟨o', rfl, hb', hlt', hne'⟩, low.trans h0, Nat.le_trans (by omega) hn', (fun k hk => by have := hfresh k hk; omega), rfl, ⟨rfl, rfl, rfl, rfl, trivial⟩, rfl, rfl, rfl, rfl⟩
theorem balesR_bad {v : BV} {c : Bu} (hv : v.Is c) (hc : validB c = false) : Ret Tryz.prog 17 [v.cv c] (tup3 ⟨0, 0⟩ 1) := by
  refine ret_by (hm := false) Tryz.func17 rfl ?_
  conv => whnf
  refine ⟨_, rfl, ?_⟩
  conv => whnf
  refine .ret (told_bad hv hc) rfl ?_
  conv => whnf
  exact .val
theorem balesR_none {v : BV} {d : Bn} (hv : v.Is d.bu) (hd : d.Good) (h6 : d.tests.length ≤ 6) (hc : canB d = false) : Ret Tryz.prog 17 [v.cv d.bu] (tup3 ⟨0, 0⟩ 10) := by
  refine ret_by (hm := false) Tryz.func17 rfl ?_
  conv => whnf
  refine ⟨_, rfl, ?_⟩
  conv => whnf
  refine .ret (told_none hv hd h6 ((can_truths hd).2 hc)) rfl ?_
  conv => whnf
  exact .val
set_option maxHeartbeats 4000000 in
theorem balesR_ret {v : BV} {d : Bn} (hv : v.Is d.bu) (hd : d.Good) (h6 : d.tests.length ≤ 6) (hc : canB d = true) : Ret Tryz.prog 17 [v.cv d.bu] (tup3 (balesB d) 0) := by
  have e2 : v.bn = d.k := hv.bn.trans (bu_k d)
  have k6 : d.k ≤ 6 := hd.k6
  have n5 := hd.n5
  have hne : truthsL d ≠ [] := fun h => by have := (can_truths hd).1 h; rw [hc] at this; cases this
  have htl := truths_len hd
  have p5 := pow_c hd.n5
  have p6 := pow_b k6
  obtain ⟨M, hM⟩ : ∃ M, M = (truthsL d).map fun t => t.2 := ⟨_, rfl⟩
  have hMl : M.length = (truthsL d).length := by rw [hM, List.length_map]
  have hMb : ∀ x ∈ M, x < 2 ^ d.k := by
    intro x hx
    rw [hM, List.mem_map] at hx
    obtain ⟨t, ht, rfl⟩ := hx
    exact (mem_of.1 ht).lt
  have hMne : M ≠ [] := fun h => hne (by rw [hM] at h; exact List.map_eq_nil_iff.1 h)
  have hj : balesB d = ⟨bitsN (allP M) d.k, bitsN (anyP M) d.k⟩ := by
    rw [sets_join hMne hMb, bales_join hd hc, hM, List.map_map]; rfl
  have hsets := sets_ret (L := M) (n := d.k) (by omega) (fun x hx => by have := hMb x hx; omega) (by omega)
  rw [hj]
  refine ret_by (hm := false) Tryz.func17 rfl ?_
  conv => whnf
  refine ⟨_, rfl, ?_⟩
  conv => whnf
  refine .ret (told_some hv hd h6 hne) rfl ?_
  conv => whnf
  refine loop_by (I := fun z st => ∃ (q : Nat) (h : Heap) (out : AV), q ≤ M.length ∧ z = M.length - q ∧ RowsL 1 h out ((M.take q).map row1) ∧ Heap.at h 0 = v.blk d.bu ∧ 1 ≤ h.n ∧ (∀ k, outId out = some k → 1 ≤ k) ∧
      Has st 43 [(1, .ptr 0 0), (5, .c (trC (truthsL d))), (7, out), (8, .c (I q))] [] none h) ?_ (k := M.length)
    ⟨0, _, nilA, Nat.zero_le _, rfl, .inl ⟨rfl, rfl⟩, rfl, Nat.le_refl 1, (fun k hk => by cases hk), rfl, ⟨rfl, rfl, rfl, rfl, trivial⟩, rfl, rfl, rfl, rfl⟩
  rintro z st ⟨q, h, out, hq, rfl, R, h0, hn, ho, hs1⟩
  refine hs1.run (hm := false) ?_
  conv => whnf
  cases hcq : decide ((q : Int) < ((truthsL d).length : Int))
  case false =>
    have hqe : q = M.length := by simp at hcq; omega
    subst hqe
    rw [List.take_length] at R
    rcases R with ⟨_, hh⟩ | ⟨o, rfl, hb, hlt, _⟩
    · exact absurd (List.map_eq_nil_iff.1 hh) hMne
    unfold nsC at hsets
    rw [List.length_map] at hs1 ⊢
    conv => whnf
    refine ⟨_, h0, ?_⟩
    conv => whnf
    rw [e2]
    refine CallW.own hb (rest := [I d.k]) hsets rfl ?_
    conv => whnf
    exact .val
  have hq : q < M.length := by simp at hcq; omega
  obtain ⟨x, hx⟩ := get_some (l := truthsL d) (k := q) (by omega)
  have hx2 : M[q]? = some x.2 := by rw [hM, List.getElem?_map, hx]; rfl
  have hsucc : (M.take (q + 1)).map row1 = (M.take q).map row1 ++ [row1 x.2] := by rw [List.take_add_one, hx2]; simp
  have hlim : ((M.take q).map row1).length + 1 ≤ limit := by rw [List.length_map, List.length_take]; unfold limit; omega
  rcases R.shape with rfl | ⟨o, n, rfl⟩
  all_goals
    conv => whnf
    refine ⟨⟨by omega, by omega⟩, ?_⟩
    conv => whnf
    refine ⟨_, tr_snd hx, ?_⟩
    conv => whnf
    obtain ⟨rr, hrr, hR', hold, hn', hfresh⟩ := rows_append (P := Tryz.prog) (row := row1 x.2) (t := 70) (u := 70) R U70 U70 rfl S3 rfl (row1_all _) rfl hlim
    obtain ⟨rv, rreads, rupds, rfresh⟩ := rr
    rcases hR' with ⟨_, hh⟩ | ⟨o', ho', hb', hlt', hne'⟩
    · exact absurd hh (by simp)
    simp only at ho' hfresh
    subst ho'
    refine ⟨_, hrr, ?_⟩
    conv => whnf
    refine ⟨((q + 1 : Nat) : Int), by rw [wrap_eq (by omega) (by omega)]; omega, ?_⟩
    conv => whnf
    have low : Heap.at (after (h.push .dead (.blk ((row1 x.2).map .c))) ⟨_, rreads, rupds, rfresh⟩) 0 = Heap.at h 0 := hold 0 (by omega) (fun e => by have := ho 0 e; omega)
    exact ⟨M.length - (q + 1), by omega, q + 1, _, _, by omega, rfl, by rw [hsucc]; exact .inr ⟨o', rfl, hb', hlt', hne'⟩, low.trans h0, Nat.le_trans (by omega) hn', (fun k hk => by have := hfresh k hk; omega), rfl, ⟨rfl, rfl, rfl, rfl, trivial⟩, rfl, rfl, rfl, rfl⟩
end Go.Ag
/- Layer 7: the reference: how sure it is; the law BurrTells. -/
namespace Go.Ag
open Go.Proofs
set_option maxRecDepth 100000

def zeroB (d : Bn) (t : Nat × Nat) : Bool := decide (t.2 &&& d.top = 0)
def czero (d : Bn) (q : Nat) : Nat := ((truthsL d).take q).countP (zeroB d)
theorem czero_succ {d : Bn} {q : Nat} {x : Nat × Nat} (h : (truthsL d)[q]? = some x) : czero d (q + 1) = czero d q + (if zeroB d x then 1 else 0) := by
  unfold czero
  rw [List.take_add_one, h, List.countP_append]
  simp [List.countP_cons]
theorem czero_le (d : Bn) (q : Nat) : czero d q ≤ (truthsL d).length := by
  unfold czero
  exact Nat.le_trans List.countP_le_length (by rw [List.length_take]; omega)
theorem must_all {d : Bn} (hd : d.Good) : mustB d = (((czero d (truthsL d).length : Nat) : Int) == (((truthsL d).length : Nat) : Int)) := by
  unfold czero
  rw [List.take_length, Bool.eq_iff_iff, beq_iff_eq, must_tr hd]
  have hc := List.countP_eq_length (p := zeroB d) (l := truthsL d)
  constructor
  · intro h
    have := hc.2 (fun t ht => decide_eq_true (h t.1 t.2 (mem_of.1 ht)))
    omega
  · intro h m x ht
    exact of_decide_eq_true (hc.1 (by omega) (m, x) (mem_of.2 ht))
theorem ever_any {d : Bn} (hd : d.Good) : everB d = !(((czero d (truthsL d).length : Nat) : Int) == 0) := by
  unfold czero
  rw [List.take_length, Bool.eq_iff_iff, ever_tr hd, Bool.not_eq_true', beq_eq_false_iff_ne]
  have hc := List.countP_pos_iff (p := zeroB d) (l := truthsL d)
  constructor
  · rintro ⟨m, x, h1, h2⟩
    have := hc.2 ⟨(m, x), mem_of.2 h1, decide_eq_true h2⟩
    omega
  · intro h
    obtain ⟨t, h1, h2⟩ := hc.1 (by omega)
    exact ⟨t.1, t.2, mem_of.1 h1, of_decide_eq_true h2⟩
theorem cleanR_bad {v : BV} {c : Bu} (hv : v.Is c) (hc : validB c = false) : Ret Tryz.prog 19 [v.cv c] (.tuple [I 0, I 1]) := by
  refine ret_by (hm := false) Tryz.func19 rfl ?_
  conv => whnf
  refine ⟨_, rfl, ?_⟩
  conv => whnf
  refine .ret (told_bad hv hc) rfl ?_
  conv => whnf
  exact .val
theorem cleanR_none {v : BV} {d : Bn} (hv : v.Is d.bu) (hd : d.Good) (h6 : d.tests.length ≤ 6) (hc : canB d = false) : Ret Tryz.prog 19 [v.cv d.bu] (.tuple [I 0, I 10]) := by
  refine ret_by (hm := false) Tryz.func19 rfl ?_
  conv => whnf
  refine ⟨_, rfl, ?_⟩
  conv => whnf
  refine .ret (told_none hv hd h6 ((can_truths hd).2 hc)) rfl ?_
  conv => whnf
  exact .val
set_option maxHeartbeats 4000000 in
theorem cleanR_ret {v : BV} {d : Bn} (hv : v.Is d.bu) (hd : d.Good) (h6 : d.tests.length ≤ 6) (hc : canB d = true) : Ret Tryz.prog 19 [v.cv d.bu] (.tuple [I (cleanN d), I 0]) := by
  have k6 : d.k ≤ 6 := hd.k6
  have hne : truthsL d ≠ [] := fun h => by have := (can_truths hd).1 h; rw [hc] at this; cases this
  have hpos : 0 < (truthsL d).length := List.length_pos_iff.2 hne
  have htl := truths_len hd
  have p6 := pow_b k6
  have htop := top_lt hd
  have hm := must_all hd
  have he := ever_any hd
  unfold cleanN
  refine ret_by (hm := false) Tryz.func19 rfl ?_
  conv => whnf
  refine ⟨_, rfl, ?_⟩
  conv => whnf
  refine .ret (told_some hv hd h6 hne) rfl ?_
  conv => whnf
  refine loop_by (I := fun z st => ∃ (q : Nat) (h : Heap), q ≤ (truthsL d).length ∧ z = (truthsL d).length - q ∧ Heap.at h 0 = v.blk d.bu ∧ 1 ≤ h.n ∧
      Has st 39 [(1, .ptr 0 0), (4, .c (trC (truthsL d))), (6, .c (I (czero d q : Nat))), (7, .c (I q))] [] none h) ?_ (k := (truthsL d).length)
    ⟨0, _, Nat.zero_le _, rfl, rfl, Nat.le_refl 1, rfl, ⟨rfl, rfl, rfl, rfl, trivial⟩, rfl, rfl, rfl, rfl⟩
  rintro z st ⟨q, h, hq, rfl, h0, hn, hs1⟩
  refine hs1.run (hm := false) ?_
  conv => whnf
  cases hcq : decide ((q : Int) < ((truthsL d).length : Int))
  case false =>
    have hqe : q = (truthsL d).length := by simp at hcq; omega
    subst hqe
    conv => whnf
    rw [← hm]
    cases hmb : mustB d
    · conv => whnf
      cases heb : everB d
      · rw [heb] at he
        rw [show (((czero d (truthsL d).length : Nat) : Int) == 0) = true by cases hx : (((czero d (truthsL d).length : Nat) : Int) == 0); rw [hx] at he; cases he; rfl]
        conv => whnf
        exact .val
      · rw [heb] at he
        rw [show (((czero d (truthsL d).length : Nat) : Int) == 0) = false by cases hx : (((czero d (truthsL d).length : Nat) : Int) == 0); rfl; rw [hx] at he; cases he]
        conv => whnf
        exact .val
    · conv => whnf
      exact .val
  have hq : q < (truthsL d).length := by simp at hcq; omega
  obtain ⟨x, hx⟩ := get_some (l := truthsL d) (k := q) hq
  have hxl : x.2 < 2 ^ d.k := (mem_of.1 (List.mem_of_getElem? hx)).lt
  have hsucc := czero_succ hx
  have hcl := czero_le d q
  conv => whnf
  refine draw_by (hm := false) (by kernel_rfl) (by kernel_rfl) ?_
  conv => whnf
  refine ⟨⟨by omega, by omega⟩, ?_⟩
  conv => whnf
  refine ⟨_, tr_snd hx, ?_⟩
  conv => whnf
  refine ⟨_, h0, ?_⟩
  conv => whnf
  refine .pure _ _ rfl (both_ret (a := x.2) (b := d.top) (by omega) htop) ?_
  conv => whnf
  refine ⟨by kernel_rfl, ?_⟩
  conv => whnf
  rw [show (((x.2 &&& d.top : Nat) : Int) == 0) = zeroB d x by unfold zeroB; rw [Bool.eq_iff_iff, beq_iff_eq, decide_eq_true_eq]; omega]
  cases hz : zeroB d x
  · rw [hz] at hsucc
    conv => whnf
    refine ⟨((q + 1 : Nat) : Int), by rw [wrap_eq (by omega) (by omega)]; omega, ?_⟩
    conv => whnf
    exact ⟨(truthsL d).length - (q + 1), by omega, q + 1, _, by omega, rfl, h0, hn, rfl, ⟨rfl, rfl, by rw [hsucc]; rfl, rfl, trivial⟩, rfl, rfl, rfl, rfl⟩
  · rw [hz] at hsucc
    conv => whnf
    refine ⟨((czero d q + 1 : Nat) : Int), by rw [wrap_eq (by omega) (by omega)]; omega, ?_⟩
    conv => whnf
    refine ⟨((q + 1 : Nat) : Int), by rw [wrap_eq (by omega) (by omega)]; omega, ?_⟩
    conv => whnf
    exact ⟨(truthsL d).length - (q + 1), by omega, q + 1, _, by omega, rfl, h0, hn, rfl, ⟨rfl, rfl, by rw [hsucc]; rfl, rfl, trivial⟩, rfl, rfl, rfl, rfl⟩
set_option maxRecDepth 100000 in
theorem sub64 : ∀ a, a < 64 → ∀ b, b < 64 → (a &&& b) ≤ a ∧ a - (a &&& b) = diffN a b := by decide +kernel
theorem pureR_bad {v : BV} {c : Bu} (hv : v.Is c) (hc : validB c = false) : Ret Tryz.prog 21 [v.cv c] (.tuple [I 0, I 1]) := by
  refine ret_by (hm := false) Tryz.func21 rfl ?_
  conv => whnf
  refine ⟨_, rfl, ?_⟩
  conv => whnf
  refine .ret (balesR_bad hv hc) rfl ?_
  conv => whnf
  exact .val
theorem pureR_none {v : BV} {d : Bn} (hv : v.Is d.bu) (hd : d.Good) (h6 : d.tests.length ≤ 6) (hc : canB d = false) : Ret Tryz.prog 21 [v.cv d.bu] (.tuple [I 0, I 10]) := by
  refine ret_by (hm := false) Tryz.func21 rfl ?_
  conv => whnf
  refine ⟨_, rfl, ?_⟩
  conv => whnf
  refine .ret (balesR_none hv hd h6 hc) rfl ?_
  conv => whnf
  exact .val
set_option maxHeartbeats 1000000 in
theorem pureR_ret {v : BV} {d : Bn} (hv : v.Is d.bu) (hd : d.Good) (h6 : d.tests.length ≤ 6) (hc : canB d = true) : Ret Tryz.prog 21 [v.cv d.bu] (.tuple [I ((diffN d.top (balesB d).p : Nat) : Int), I 0]) := by
  have hb := (balesB_Lt hd).p
  have hb2 := (balesB_lt hd).2
  have p6 := pow_b (n := d.k) hd.k6
  have htop := top_lt hd
  have hs := sub64 d.top htop (balesB d).p (by omega)
  refine ret_by (hm := false) Tryz.func21 rfl ?_
  conv => whnf
  refine ⟨_, rfl, ?_⟩
  conv => whnf
  refine .ret (balesR_ret hv hd h6 hc) rfl ?_
  conv => whnf
  refine draw_by (hm := false) (by kernel_rfl) (by kernel_rfl) ?_
  conv => whnf
  refine ⟨_, rfl, ?_⟩
  conv => whnf
  refine ⟨_, rfl, ?_⟩
  conv => whnf
  refine .pure _ _ rfl (both_ret (a := d.top) (b := (balesB d).p) htop (by omega)) ?_
  conv => whnf
  have htb : d.bu.top = (d.top : Int) := rfl
  refine ⟨((diffN d.top (balesB d).p : Nat) : Int), by rw [wrap_eq (by omega) (by omega)]; omega, ?_⟩
  conv => whnf
  refine ⟨by kernel_rfl, ?_⟩
  conv => whnf
  exact .val
set_option maxHeartbeats 8000000 in
theorem tellsLaw_ret {v : BV} {c : Bu} (h : v.IsS c) (hA : Ret Tryz.prog 13 [] (B true)) : Ret Tryz.prog 3 [v.cv c] (B true) := by
  have hv := h.toIs
  refine ret_then (hm := true) Tryz.func3 rfl ?_
  conv => whnf
  repeat (refine then_seq (hm := true) ?_; conv => whnf)
  refine .ret (h.far) rfl ?_
  conv => whnf
  cases hval : validB c
  · repeat (refine then_seq (hm := true) ?_; conv => whnf)
    refine .ret (mobsX_bad hv hval) rfl ?_
    conv => whnf
    repeat (refine then_seq (hm := true) ?_; conv => whnf)
    refine .ret (mobsR_bad hv hval) rfl ?_
    conv => whnf
    repeat (refine then_seq (hm := true) ?_; conv => whnf)
    refine .ret (balesX_bad hv hval) rfl ?_
    conv => whnf
    repeat (refine then_seq (hm := true) ?_; conv => whnf)
    refine .ret (balesR_bad hv hval) rfl ?_
    conv => whnf
    repeat (refine then_seq (hm := true) ?_; conv => whnf)
    refine .ret (cleanX_bad hv hval) rfl ?_
    conv => whnf
    repeat (refine then_seq (hm := true) ?_; conv => whnf)
    refine .ret (cleanR_bad hv hval) rfl ?_
    conv => whnf
    repeat (refine then_seq (hm := true) ?_; conv => whnf)
    refine .ret (pureX_bad hv hval) rfl ?_
    conv => whnf
    repeat (refine then_seq (hm := true) ?_; conv => whnf)
    refine .ret (pureR_bad hv hval) rfl ?_
    conv => whnf
    repeat (refine then_seq (hm := true) ?_; conv => whnf)
    refine .ret (countX_bad hv hval) rfl ?_
    conv => whnf
    repeat (refine then_seq (hm := true) ?_; conv => whnf)
    refine .ret (countR_bad hv hval) rfl ?_
    conv => whnf
    repeat (refine then_seq (hm := true) ?_; conv => whnf)
    refine .ret (hA) rfl ?_
    conv => whnf
    refine then_end (hm := true) ?_
    conv => whnf
    exact .val
  obtain ⟨d, hd, h6, rfl⟩ := (valid_iff hv.rg).1 hval
  have x1 := mobsX_ret hv hd h6
  have x2 := balesX_ret hv hd h6
  have x3 := cleanX_ret hv hd h6
  have x4 := pureX_ret hv hd h6
  have x5 := countX_ret hv hd h6
  have r5 := countR_ret hv hd h6
  cases hc : canB d
  · rw [hc, if_neg (by simp)] at x1 x2
    have x3 : Ret Tryz.prog 18 [v.cv d.bu] (.tuple [I 0, I 10]) := by unfold orO erO at x3; rw [hc] at x3; exact x3
    have x4 : Ret Tryz.prog 20 [v.cv d.bu] (.tuple [I 0, I 10]) := by unfold orO erO at x4; rw [hc] at x4; exact x4
    repeat (refine then_seq (hm := true) ?_; conv => whnf)
    refine .ret (x1) rfl ?_
    conv => whnf
    repeat (refine then_seq (hm := true) ?_; conv => whnf)
    refine .ret (mobsR_none hv hd h6 hc) rfl ?_
    conv => whnf
    repeat (refine then_seq (hm := true) ?_; conv => whnf)
    refine .ret (x2) rfl ?_
    conv => whnf
    repeat (refine then_seq (hm := true) ?_; conv => whnf)
    refine .ret (balesR_none hv hd h6 hc) rfl ?_
    conv => whnf
    repeat (refine then_seq (hm := true) ?_; conv => whnf)
    refine .ret (x3) rfl ?_
    conv => whnf
    repeat (refine then_seq (hm := true) ?_; conv => whnf)
    refine .ret (cleanR_none hv hd h6 hc) rfl ?_
    conv => whnf
    repeat (refine then_seq (hm := true) ?_; conv => whnf)
    refine .ret (x4) rfl ?_
    conv => whnf
    repeat (refine then_seq (hm := true) ?_; conv => whnf)
    refine .ret (pureR_none hv hd h6 hc) rfl ?_
    conv => whnf
    repeat (refine then_seq (hm := true) ?_; conv => whnf)
    refine .ret (x5) rfl ?_
    conv => whnf
    repeat (refine then_seq (hm := true) ?_; conv => whnf)
    refine .ret (r5) rfl ?_
    conv => whnf
    repeat (refine then_seq (hm := true) ?_; conv => whnf)
    rw [show ((((countN d : Nat) : Int) : Int) == ((countN d : Nat) : Int)) = true from beq_self_eq_true _]
    conv => whnf
    refine .ret (hA) rfl ?_
    conv => whnf
    refine then_end (hm := true) ?_
    conv => whnf
    exact .val
  · rw [hc, if_pos rfl] at x1 x2
    have x3 : Ret Tryz.prog 18 [v.cv d.bu] (.tuple [I (cleanN d), I 0]) := by unfold orO erO at x3; rw [hc] at x3; exact x3
    have x4 : Ret Tryz.prog 20 [v.cv d.bu] (.tuple [I ((diffN d.top (balesB d).p : Nat) : Int), I 0]) := by unfold orO erO at x4; rw [hc] at x4; exact x4
    repeat (refine then_seq (hm := true) ?_; conv => whnf)
    refine .ret (x1) rfl ?_
    conv => whnf
    repeat (refine then_seq (hm := true) ?_; conv => whnf)
    refine .ret (mobsR_ret hv hd h6 hc) rfl ?_
    conv => whnf
    repeat (refine then_seq (hm := true) ?_; conv => whnf)
    refine .ret (x2) rfl ?_
    conv => whnf
    repeat (refine then_seq (hm := true) ?_; conv => whnf)
    refine .ret (balesR_ret hv hd h6 hc) rfl ?_
    conv => whnf
    repeat (refine then_seq (hm := true) ?_; conv => whnf)
    refine .ret (x3) rfl ?_
    conv => whnf
    repeat (refine then_seq (hm := true) ?_; conv => whnf)
    refine .ret (cleanR_ret hv hd h6 hc) rfl ?_
    conv => whnf
    repeat (refine then_seq (hm := true) ?_; conv => whnf)
    refine .ret (x4) rfl ?_
    conv => whnf
    repeat (refine then_seq (hm := true) ?_; conv => whnf)
    refine .ret (pureR_ret hv hd h6 hc) rfl ?_
    conv => whnf
    repeat (refine then_seq (hm := true) ?_; conv => whnf)
    refine .ret (x5) rfl ?_
    conv => whnf
    repeat (refine then_seq (hm := true) ?_; conv => whnf)
    refine .ret (r5) rfl ?_
    conv => whnf
    repeat (refine then_seq (hm := true) ?_; conv => whnf)
    rw [show ((((mobsB d).s : Int) : Int) == ((mobsB d).s : Int)) = true from beq_self_eq_true _]
    conv => whnf
    rw [show ((((mobsB d).p : Int) : Int) == ((mobsB d).p : Int)) = true from beq_self_eq_true _]
    conv => whnf
    rw [show ((((balesB d).s : Int) : Int) == ((balesB d).s : Int)) = true from beq_self_eq_true _]
    conv => whnf
    rw [show ((((balesB d).p : Int) : Int) == ((balesB d).p : Int)) = true from beq_self_eq_true _]
    conv => whnf
    rw [show ((cleanN d : Int) == cleanN d) = true from beq_self_eq_true _]
    conv => whnf
    rw [show ((((diffN d.top (balesB d).p : Nat) : Int) : Int) == ((diffN d.top (balesB d).p : Nat) : Int)) = true from beq_self_eq_true _]
    conv => whnf
    rw [show ((((countN d : Nat) : Int) : Int) == ((countN d : Nat) : Int)) = true from beq_self_eq_true _]
    conv => whnf
    refine .ret (hA) rfl ?_
    conv => whnf
    refine then_end (hm := true) ?_
    conv => whnf
    exact .val
end Go.Ag
