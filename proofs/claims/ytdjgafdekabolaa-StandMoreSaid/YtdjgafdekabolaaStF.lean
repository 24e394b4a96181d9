/- The law StandClash returns true for arguments that are not far too long. No conditions. -/
import Derived.Test.YtdjgafdekabolaaStD
/- Layer 4: which looks clash: the law. -/
namespace Go.Ag
open Go.Proofs
set_option maxRecDepth 100000

theorem sel_snoc (s : Nat) (x : Lk) : ∀ (l : List Lk) (i : Nat), sel s (l ++ [x]) i = sel s l i ++ (if s.testBit (i + l.length) then [x] else [])
  | [], i => by simp only [List.nil_append, sel, List.length_nil, Nat.add_zero]
  | a :: l, i => by
    simp only [List.cons_append, sel]
    rw [sel_snoc s x l (i + 1), show i + 1 + l.length = i + (a :: l).length by simp; omega]
    split <;> rfl
theorem take_snoc' {L : List Lk} {q : Nat} {x : Lk} (h : L[q]? = some x) : L.take (q + 1) = L.take q ++ [x] := by rw [List.take_add_one, h]; rfl
/-- Only these looks. -/
def withL (s : Sd) (L : List Lk) : Sd := { s with looks := L }
def withV (v : SV) (c : List CV) (n : Nat) : SV := { v with lc := c, lo' := 0, ln := n }
theorem withL_truths (s : Sd) (L : List Lk) : truths (withL s L) = truthsS s L := rfl
theorem withL_valid {s : Sd} (hd : validB s = true) {L : List Lk} (h4 : L.length ≤ 4) (hL : L.all lookOk = true) : validB (withL s L) = true := by
  simp only [validB, Bool.and_eq_true] at hd ⊢
  exact ⟨hd.1, hd.2.1, hd.2.2.1, decide_eq_true h4, hL⟩
theorem sel_mem (s : Nat) : ∀ (l : List Lk) (i : Nat) (x : Lk), x ∈ sel s l i → x ∈ l
  | [], _, x, h => h
  | a :: l, i, x, h => by
    unfold sel at h
    split at h
    · rcases List.mem_cons.1 h with rfl | h
      · exact List.mem_cons_self ..
      · exact List.mem_cons_of_mem _ (sel_mem s l (i + 1) x h)
    · exact List.mem_cons_of_mem _ (sel_mem s l (i + 1) x h)
theorem only_valid {s : Sd} (hd : validB s = true) (set : Nat) : validB (withL s (onlyL s.looks set)) = true := by
  have h4 := valid_looks hd
  refine withL_valid hd (Nat.le_trans (sel_len set s.looks 0) h4) ?_
  simp only [validB, Bool.and_eq_true] at hd
  rw [List.all_eq_true]
  intro x hx
  exact List.all_eq_true.1 hd.2.2.2.2 x (sel_mem set _ _ x hx)
theorem withV_is {v : SV} {s : Sd} (hv : v.Is s) {L : List Lk} (h : L.length ≤ 40) : (withV v (L.map rowLk).flatten L.length).Is (withL s L) := by
  have hsl := sl_flat (sz := 3) (rows := L.map rowLk) rowLk_len
  rw [List.length_map] at hsl
  exact ⟨hv.lo, hv.hi, hv.r, hv.k, hsl, hv.short.1, hv.short.2.1, h⟩
def lkBlk (v : SV) (out : AV) : AB := .blk [.c (I v.lo.a), .c (I v.hi.a), .c (I v.lo.b), .c (I v.hi.b), .c (I v.lo.c), .c (I v.hi.c), .c (.sl v.rc v.ro v.rn), .c (.sl v.kc v.ko v.kn), out]
theorem snap_st {H : Nat → AB} {o sz n : Nat} {cs : List CV} (hb : H o = .blk (cs.map .c)) (a0 a1 a2 a3 a4 a5 a6 a7 x : CV) :
    snaps H (cs.length + 40) [.agg [.c a0, .c a1, .c a2, .c a3, .c a4, .c a5, .c a6, .c a7, .msl o sz 0 n n], .c x] = some ([.agg [a0, a1, a2, a3, a4, a5, a6, a7, .sl cs 0 n], x], [o]) := by
  simp only [snap, snaps, Option.bind_some, Option.map_some, hb]
  rw [snaps_map_c H cs _ (by omega)]
  rfl
theorem U27 : Try.prog.underlying 27 = some (.slice 58) := by kernel_rfl
theorem S58 : slicePart Try.prog 58 = some 3 := by kernel_rfl
theorem takes_code {s : Sd} (hd : validB s = true) : (spR s (inB 0 0 2) (spanT s 0)).2 = if truths s = [] then 10 else 0 := by
  have e : inB (0 : Int) 0 2 = true := rfl
  rw [e]
  by_cases hT : truths s = []
  · rw [show spanT s 0 = none from span_none.2 hT, spR_no hd, if_pos hT]
  · obtain ⟨p, x, _⟩ := span_ex hT fun t => t.get 0
    rw [show spanT s 0 = some p from x, spR_ok hd, if_neg hT]
theorem poss_code {s : Sd} {L : List Lk} : (if truthsS s L = [] then (10 : Int) else 0) = if possB s L then 0 else 10 := by
  unfold possB
  cases truthsS s L <;> rfl

set_option maxHeartbeats 2000000 in
theorem clash36_ret {v : SV} {s : Sd} (hv : v.Is s) (hd : validB s = true) {set : Nat} (hs : set < 2 ^ 62) : Ret Try.prog 36 [I set, dP v] (B (!(possB s (onlyL s.looks set)))) := by
  have e1 := hv.ln; have e2 := hv.short
  have e1' : v.looks.n = s.looks.length := e1
  have h4 := valid_looks hd
  refine ret_by (hm := false) Try.func36 rfl ?_
  conv => whnf
  refine ⟨_, rfl, ?_⟩
  conv => whnf
  refine ⟨_, at_push_self _ _, ?_⟩
  conv => whnf
  refine ⟨_, at_new _ _ _, ?_⟩
  conv => whnf
  refine ⟨_, rfl, ?_⟩
  conv => whnf
  refine loop_by (I := fun n st => ∃ (q : Nat) (h : Heap) (out : AV), q ≤ s.looks.length ∧ n = s.looks.length - q ∧ Heap.at h 0 = lkBlk v out ∧ 0 < h.n ∧ RowsL 3 h out ((sel set (s.looks.take q) 0).map rowLk) ∧ (∀ o, outId out = some o → 0 < o) ∧
    Has st 38 [(0, .c (I set)), (1, .c (dP v)), (4, .ptr 0 0), (12, .c v.looks.cv), (13, .c (I v.ln)), (14, .c (I q))] [] none h) ?_ (k := s.looks.length)
    ⟨0, _, nilA, Nat.zero_le _, rfl, rfl, Nat.lt_succ_self 0, .inl ⟨rfl, rfl⟩, by simp [outId], rfl, ⟨rfl, rfl, rfl, rfl, rfl, rfl, trivial⟩, rfl, rfl, rfl, rfl⟩
  rintro n st ⟨q, h, out, hq, rfl, h0, hn, hR, hout, hs1⟩
  refine hs1.run (hm := false) ?_
  conv => whnf
  cases hc : decide ((q : Int) < (v.ln : Int))
  case true =>
    have hq : q < s.looks.length := by simp at hc; omega
    obtain ⟨r, hr⟩ := get_some hq
    have hsn : sel set (s.looks.take (q + 1)) 0 = sel set (s.looks.take q) 0 ++ (if set.testBit q then [r] else []) := by
      rw [take_snoc' hr, sel_snoc, List.length_take, Nat.zero_add, Nat.min_eq_left (by omega)]
    have hlen : (sel set (s.looks.take q) 0).length ≤ 4 := Nat.le_trans (sel_len set _ 0) (by rw [List.length_take]; omega)
    have hrl : ∀ r ∈ (sel set (s.looks.take q) 0).map rowLk, r.length = 3 := rowLk_len
    have hlim : ((sel set (s.looks.take q) 0).map rowLk).length + 1 ≤ limit := by rw [List.length_map]; unfold limit; omega
    have R1 := fun (y z : AB) => hR.ext (h' := (h.push .dead y).set .dead h.n z) (by rw [new_n]; omega) (fun i hi _ => at_old _ _ _ hi)
    conv => whnf
    refine ⟨⟨by omega, by omega⟩, ?_⟩
    conv => whnf
    refine ⟨_, hv.looks.look hr, ?_⟩
    conv => whnf
    refine ⟨_, at_push_self _ _, ?_⟩
    conv => whnf
    refine ⟨by omega, _, shr_nat set q (by omega), ?_⟩
    conv => whnf
    refine ⟨_, and_nat (b := 1) (Nat.lt_of_le_of_lt (Nat.shiftRight_le set q) (by omega)) (by omega), ?_⟩
    conv => whnf
    rw [bit_nat]
    cases hb : set.testBit q
    · rw [hb] at hsn
      simp only [Bool.false_eq_true, if_false, List.append_nil] at hsn
      conv => whnf
      refine ⟨((q + 1 : Nat) : Int), by rw [wrap_eq (by omega) (by omega)]; omega, ?_⟩
      conv => whnf
      exact ⟨s.looks.length - (q + 1), by omega, q + 1, _, out, by omega, rfl, (at_old _ _ _ hn).trans h0, by rw [new_n]; omega, by rw [hsn]; exact R1 _ _, hout, rfl, ⟨rfl, rfl, rfl, rfl, rfl, rfl, trivial⟩, rfl, rfl, rfl, rfl⟩
    · rw [hb] at hsn
      simp only [if_true] at hsn
      rcases hR.shape with rfl | ⟨o, m, rfl⟩
      all_goals
        conv => whnf
        refine ⟨_, (at_old _ _ _ hn).trans h0, ?_⟩
        conv => whnf
        refine ⟨_, at_new _ _ _, ?_⟩
        conv => whnf
        obtain ⟨rr, hrr, hR', hold, hn', hfresh⟩ := rows_append (row := rowLk r) (t := 27) (u := 27) (R1 (.blk [AV.lit (.int .i64 0), AV.lit (.int .i64 0), AV.lit (.int .i64 0)]) (.blk [.c (I r.minute), .c (I r.lo), .c (I r.hi)])) U27 U27 rfl S58 rfl hrl rfl hlim
        obtain ⟨rv, rreads, rupds, rfresh⟩ := rr
        have h0' := (hold 0 (by rw [new_n]; omega) (fun e => absurd (hout _ e) (by omega))).trans ((at_old _ _ _ hn).trans h0)
        have hne0 : outId rv ≠ some 0 := fun e => absurd (hfresh _ e) (by rw [new_n]; omega)
        have hR2 := hR'.set (k := 0) hne0 (lkBlk v rv)
        rcases hR' with ⟨_, hh⟩ | ⟨o', ho', hb', hlt', hne'⟩
        · exact absurd hh (by simp)
        simp only at ho'
        subst ho'
        refine ⟨_, hrr, ?_⟩
        conv => whnf
        refine ⟨_, h0', ?_⟩
        conv => whnf
        refine ⟨((q + 1 : Nat) : Int), by rw [wrap_eq (by omega) (by omega)]; omega, ?_⟩
        conv => whnf
        rw [new_n] at hn'
        refine ⟨s.looks.length - (q + 1), by omega, q + 1, _, _, by omega, rfl, at_set_self _ _ (i := 0) (Nat.lt_of_lt_of_le (by omega) hn'), by rw [TMap.set_n]; exact Nat.lt_of_lt_of_le (by omega) hn', ?_, fun o2 ho2 => ?_, rfl, ⟨rfl, rfl, rfl, rfl, rfl, rfl, trivial⟩, rfl, rfl, rfl, rfl⟩
        · rw [hsn, List.map_append]
          exact hR2
        · have := hfresh o2 ho2
          rw [new_n] at this
          omega
  have hql : q = s.looks.length := by simp at hc; omega
  subst hql
  rw [List.take_length] at hR
  have honly : sel set s.looks 0 = onlyL s.looks set := rfl
  rw [honly] at hR
  have hlen : (onlyL s.looks set).length ≤ 4 := Nat.le_trans (sel_len set s.looks 0) h4
  have hVd := only_valid hd set
  have ht := takes_ret (withV_is hv (L := onlyL s.looks set) (by omega)) 0
  have hcode := takes_code hVd
  rw [withL_truths, poss_code] at hcode
  rw [show (0 : Int).toNat = 0 from rfl] at ht
  obtain ⟨X, hX⟩ : ∃ X, X = spR (withL s (onlyL s.looks set)) (inB 0 0 2) (spanT (withL s (onlyL s.looks set)) 0) := ⟨_, rfl⟩
  rw [← hX] at hcode ht
  obtain ⟨⟨xa, xb⟩, xc⟩ := X
  dsimp only at hcode
  dsimp only [spV] at ht
  clear hX
  have hx10 : (xc == 10) = !(possB s (onlyL s.looks set)) := by rw [hcode]; cases possB s (onlyL s.looks set) <;> rfl
  rcases hR with ⟨rfl, hd0⟩ | ⟨o, rfl, hb, hlt, hne'⟩
  · have hon : onlyL s.looks set = [] := by simpa using hd0
    rw [hon] at ht
    conv => whnf
    refine ⟨_, h0, ?_⟩
    conv => whnf
    have ht' : Ret Try.prog 18 [.agg [I v.lo.a, I v.hi.a, I v.lo.b, I v.hi.b, I v.lo.c, I v.hi.c, .sl v.rc v.ro v.rn, .sl v.kc v.ko v.kn, nilC], I 0] (.tuple [.agg [I xa, I xb], I xc]) := ht.args ⟨.agg ⟨.refl _, .refl _, .refl _, .refl _, .refl _, .refl _, .refl _, .refl _, .nil _ _, trivial⟩, .refl _, trivial⟩
    refine .ret ht' rfl ?_
    conv => whnf
    refine ⟨_, at_push_self _ _, ?_⟩
    conv => whnf
    rw [hx10]
    exact .val
  · conv => whnf
    refine ⟨_, h0, ?_⟩
    conv => whnf
    rw [List.length_map] at *
    refine .snapped _ _ [o] _ _ (snap_st hb _ _ _ _ _ _ _ _ _) ht rfl ?_
    have hk : killed (CV.tuple [.agg [I xa, I xb], I xc]) [o] = [] := by unfold killed; exact if_pos rfl
    rw [hk]
    conv => whnf
    refine ⟨_, at_push_self _ _, ?_⟩
    conv => whnf
    rw [hx10]
    exact .val
end Go.Ag
/- Layer 4: the fewest looks that clash, and the least of them. -/
namespace Go.Ag
open Go.Proofs
set_option maxRecDepth 100000

/-- Looks of a set that clash. -/
def bad (s : Sd) (x : Nat) : Bool := !(possB s (onlyL s.looks x))
structure Few (s : Sd) (q best : Nat) : Prop where
  bad : bad s best = true
  least : ∀ x, x < q → Go.Ag.bad s x = true → pop best < pop x ∨ (pop best = pop x ∧ best ≤ x)
  from' : best = 2 ^ s.looks.length - 1 ∨ best < q
theorem sel_all (s : Nat) : ∀ (l : List Lk) (i : Nat), (∀ j, i ≤ j → j < i + l.length → s.testBit j = true) → sel s l i = l
  | [], _, _ => rfl
  | a :: l, i, h => by
    unfold sel
    rw [h i (Nat.le_refl _) (by simp), if_pos rfl, sel_all s l (i + 1) (fun j h1 h2 => h j (by omega) (by simp; omega))]
theorem only_all (L : List Lk) : onlyL L (2 ^ L.length - 1) = L := by
  refine sel_all _ L 0 fun j _ hj => ?_
  rw [Nat.testBit_two_pow_sub_one]
  simpa using hj
theorem pop_all {n : Nat} (h4 : n ≤ 4) {q : Nat} (hq : q < 2 ^ n - 1) : pop q < pop (2 ^ n - 1) := by
  obtain rfl | rfl | rfl | rfl | rfl : n = 0 ∨ n = 1 ∨ n = 2 ∨ n = 3 ∨ n = 4 := by omega
  all_goals
    revert q
    decide
theorem few_to {s : Sd} (h4 : s.looks.length ≤ 4) (hT : truths s = []) : ∀ q, q ≤ 2 ^ s.looks.length - 1 → Few s q (fewTo s q)
  | 0, _ => by
    refine ⟨?_, fun x hx => by omega, .inl rfl⟩
    show bad s (2 ^ s.looks.length - 1) = true
    unfold bad
    rw [only_all]
    unfold possB
    rw [show truthsS s s.looks = [] from hT]
    rfl
  | q + 1, hq => by
    obtain ⟨b1, b2, b3⟩ := few_to h4 hT q (by omega)
    rw [fewTo_succ]
    unfold fewStep
    by_cases hc : pop q < pop (fewTo s q)
    · have hc' : decide ((pop q : Int) < (pop (fewTo s q) : Int)) = true := by simpa using hc
      rw [hc', Bool.true_and]
      cases hp : possB s (onlyL s.looks q)
      · simp only [Bool.not_false, if_true]
        refine ⟨by unfold bad; rw [hp]; rfl, fun x hx hbx => ?_, .inr (by omega)⟩
        by_cases hxq : x = q
        · subst hxq; exact .inr ⟨rfl, Nat.le_refl _⟩
        · have := b2 x (by omega) hbx; omega
      · simp only [Bool.not_true, Bool.false_eq_true, if_false]
        refine ⟨b1, fun x hx hbx => ?_, by omega⟩
        by_cases hxq : x = q
        · subst hxq; unfold bad at hbx; rw [hp] at hbx; cases hbx
        · exact b2 x (by omega) hbx
    · have hc' : decide ((pop q : Int) < (pop (fewTo s q) : Int)) = false := by simpa using hc
      rw [hc', Bool.false_and]
      simp only [Bool.false_eq_true, if_false]
      refine ⟨b1, fun x hx hbx => ?_, by omega⟩
      by_cases hxq : x = q
      · subst hxq
        rcases b3 with e | e
        · have := pop_all h4 (q := x) (by omega)
          rw [← e] at this
          exact absurd this hc
        · rcases Nat.lt_or_ge (pop (fewTo s x)) (pop x) with h | h
          · exact .inl h
          · exact .inr ⟨by omega, by omega⟩
      · exact b2 x (by omega) hbx
/-- What is returned of looks that clash. -/
structure Fewest (s : Sd) (b : Nat) : Prop where
  bad : Go.Ag.bad s b = true
  pos : 1 ≤ b
  le : b ≤ 2 ^ s.looks.length - 1
  least : ∀ x, x ≤ 2 ^ s.looks.length - 1 → Go.Ag.bad s x = true → pop b < pop x ∨ (pop b = pop x ∧ b ≤ x)
theorem combos_ne {s : Sd} (hd : validB s = true) : combos s ≠ [] := by
  have : s.lo ∈ combos s := by
    rw [mem_combos]
    simp only [validB, minsOk, minOk, spanB, Bool.and_eq_true, decide_eq_true_eq] at hd
    omega
  intro e
  rw [e] at this
  cases this
theorem sel_zero : ∀ (l : List Lk) (i : Nat), sel 0 l i = []
  | [], _ => rfl
  | a :: l, i => by unfold sel; rw [Nat.zero_testBit]; exact sel_zero l (i + 1)
theorem fewest_is {s : Sd} (hd : validB s = true) (hT : truths s = []) : Fewest s (fewest s) := by
  have h4 := valid_looks hd
  obtain ⟨b1, b2, b3⟩ := few_to h4 hT (2 ^ s.looks.length - 1) (Nat.le_refl _)
  have hle := fewTo_le s (2 ^ s.looks.length - 1) (Nat.le_refl _)
  refine ⟨b1, ?_, hle, fun x hx hbx => ?_⟩
  · rcases Nat.eq_zero_or_pos (fewest s) with e | e
    · have b1 : bad s (fewest s) = true := b1
      rw [e] at b1
      unfold bad onlyL possB truthsS at b1
      rw [sel_zero] at b1
      have hf : ∀ (l : List T3), l.filter (fits s []) = l := fun l => List.filter_eq_self.2 fun t _ => rfl
      rw [hf] at b1
      cases hc : combos s with
      | nil => exact absurd hc (combos_ne hd)
      | cons t l => rw [hc] at b1; cases b1
    · exact e
  · by_cases hxa : x = 2 ^ s.looks.length - 1
    · subst hxa
      by_cases hb : fewest s = 2 ^ s.looks.length - 1
      · exact .inr ⟨by rw [hb], by rw [hb]; exact Nat.le_refl _⟩
      · have := pop_all h4 (q := fewest s) (by have : fewest s ≤ _ := hle; omega)
        exact .inl this
    · exact b2 x (by omega) hbx
/-- Without one of a set. -/
def drop1 (b i : Nat) : Nat := b - 2 ^ i
theorem drop_facts {b i : Nat} (hb : b < 16) (hi : i < 4) (ht : b.testBit i = true) : (((b : Nat) : Int) % 18446744073709551616 = b) ∧ drop1 b i ≤ b ∧ pop (drop1 b i) < pop b := by
  obtain rfl | rfl | rfl | rfl : i = 0 ∨ i = 1 ∨ i = 2 ∨ i = 3 := by omega
  all_goals
    refine ⟨by omega, ?_, ?_⟩
    · unfold drop1; omega
    · revert b
      decide
theorem andNot_bit {b i : Nat} (hb : b < 16) (hi : i < 4) (ht : b.testBit i = true) : IntKind.i64.wrap ((BitVec.ofInt 64 (b : Int) &&& ~~~BitVec.ofInt 64 ((2 ^ i : Nat) : Int)).toNat : Int) = ((drop1 b i : Nat) : Int) := by
  obtain rfl | rfl | rfl | rfl : i = 0 ∨ i = 1 ∨ i = 2 ∨ i = 3 := by omega
  all_goals
    revert b
    decide
end Go.Ag
/- Layer 4: which looks clash: the law. -/
namespace Go.Ag
open Go.Proofs
set_option maxRecDepth 100000

theorem snap_clos {H : Nat → AB} {v : SV} {id : Nat} (hb : H id = v.blk) (x : CV) : snaps H 40 [.c x, .ptr id 0] = some ([x, dP v], [id]) := by
  simp only [snaps, snap, hb, SV.blk]
  rfl
theorem killed_b (b : Bool) (l : List Nat) : killed (B b) l = [] := by unfold killed; exact if_pos rfl
def sizeE (n c : Nat) : Known := ⟨37, [I n], I c⟩
theorem size0 : (sizeE 0 (pop 0)).ok Try.prog := tells_ok (C := cfg0) mix con0 (n := 2000) (by kernel_rfl)
theorem size1 : (sizeE 1 (pop 1)).ok Try.prog := tells_ok (C := cfg0) mix con0 (n := 2000) (by kernel_rfl)
theorem size2 : (sizeE 2 (pop 2)).ok Try.prog := tells_ok (C := cfg0) mix con0 (n := 2000) (by kernel_rfl)
theorem size3 : (sizeE 3 (pop 3)).ok Try.prog := tells_ok (C := cfg0) mix con0 (n := 2000) (by kernel_rfl)
theorem size4 : (sizeE 4 (pop 4)).ok Try.prog := tells_ok (C := cfg0) mix con0 (n := 2000) (by kernel_rfl)
theorem size5 : (sizeE 5 (pop 5)).ok Try.prog := tells_ok (C := cfg0) mix con0 (n := 2000) (by kernel_rfl)
theorem size6 : (sizeE 6 (pop 6)).ok Try.prog := tells_ok (C := cfg0) mix con0 (n := 2000) (by kernel_rfl)
theorem size7 : (sizeE 7 (pop 7)).ok Try.prog := tells_ok (C := cfg0) mix con0 (n := 2000) (by kernel_rfl)
theorem size8 : (sizeE 8 (pop 8)).ok Try.prog := tells_ok (C := cfg0) mix con0 (n := 2000) (by kernel_rfl)
theorem size9 : (sizeE 9 (pop 9)).ok Try.prog := tells_ok (C := cfg0) mix con0 (n := 2000) (by kernel_rfl)
theorem size10 : (sizeE 10 (pop 10)).ok Try.prog := tells_ok (C := cfg0) mix con0 (n := 2000) (by kernel_rfl)
theorem size11 : (sizeE 11 (pop 11)).ok Try.prog := tells_ok (C := cfg0) mix con0 (n := 2000) (by kernel_rfl)
theorem size12 : (sizeE 12 (pop 12)).ok Try.prog := tells_ok (C := cfg0) mix con0 (n := 2000) (by kernel_rfl)
theorem size13 : (sizeE 13 (pop 13)).ok Try.prog := tells_ok (C := cfg0) mix con0 (n := 2000) (by kernel_rfl)
theorem size14 : (sizeE 14 (pop 14)).ok Try.prog := tells_ok (C := cfg0) mix con0 (n := 2000) (by kernel_rfl)
theorem size15 : (sizeE 15 (pop 15)).ok Try.prog := tells_ok (C := cfg0) mix con0 (n := 2000) (by kernel_rfl)
theorem size_ret {n : Nat} (h : n < 16) : Ret Try.prog 37 [I n] (I (pop n)) := by
  match n, h with
  | 0, _ => exact size0
  | 1, _ => exact size1
  | 2, _ => exact size2
  | 3, _ => exact size3
  | 4, _ => exact size4
  | 5, _ => exact size5
  | 6, _ => exact size6
  | 7, _ => exact size7
  | 8, _ => exact size8
  | 9, _ => exact size9
  | 10, _ => exact size10
  | 11, _ => exact size11
  | 12, _ => exact size12
  | 13, _ => exact size13
  | 14, _ => exact size14
  | 15, _ => exact size15
  | n + 16, h => omega

set_option maxHeartbeats 2000000 in
theorem clashLaw_ret {v : SV} {s : Sd} (hv : v.Is s) (hA : Ret Try.prog 13 [] (B true)) (w : Nat) (hw : w < 256) : Ret Try.prog 9 [v.cv, .lit (.int .u8 w)] (B true) := by
  have e1 := hv.ln; have e2 := hv.short
  refine ret_by (hm := true) Try.func9 rfl ?_
  conv => whnf
  refine .ret (fine_ret hv) rfl ?_
  conv => whnf
  cases hd : validB s
  · conv => whnf
    refine .ret hA rfl ?_
    conv => whnf
    exact .val
  have hcl := clash_ret hv
  have ht := takes_ret hv 0
  have h4 := valid_looks hd
  rw [show inB (0 : Int) 0 2 = true from rfl, show (0 : Int).toNat = 0 from rfl] at ht
  by_cases hT : truths s = []
  case neg =>
    obtain ⟨pa, x1, ia⟩ := span_ex hT fun t => t.get 0
    have x1 : spanT s 0 = some pa := x1
    rw [x1, spR_ok hd] at ht
    rw [clash_ok hd hT] at hcl
    dsimp only [spV] at ht hcl
    conv => whnf
    refine .ret hcl rfl ?_
    conv => whnf
    refine .ret ht rfl ?_
    conv => whnf
    refine ⟨_, bool_neq rfl rfl rfl _ _, ?_⟩
    conv => whnf
    refine .ret hA rfl ?_
    conv => whnf
    exact .val
  have x1 : spanT s 0 = none := span_none.2 hT
  have hF := fewest_is hd hT
  rw [x1, spR_no hd] at ht
  rw [clash_no hd hT] at hcl
  dsimp only [spV] at ht hcl
  generalize fewest s = F at hF hcl
  obtain ⟨N, hN⟩ : ∃ N, N = 2 ^ s.looks.length - 1 := ⟨_, rfl⟩
  have hp : 1 ≤ 2 ^ s.looks.length ∧ 2 ^ s.looks.length ≤ 16 := ⟨Nat.one_le_two_pow, Nat.pow_le_pow_right (by omega) h4⟩
  obtain ⟨f1, f2, f3, f4⟩ := hF
  rw [← hN] at f3 f4
  have hbad : ∀ x : Nat, x < 16 → Ret Try.prog 36 [I x, dP v] (B (bad s x)) := fun x hx => clash36_ret hv hd (by omega)
  conv => whnf
  refine .ret hcl rfl ?_
  conv => whnf
  refine .ret ht rfl ?_
  conv => whnf
  refine ⟨_, bool_neq rfl rfl rfl _ _, ?_⟩
  conv => whnf
  refine ⟨by omega, _, shl_nat 1 v.ln (by omega) (by rw [e1]; omega), ?_⟩
  conv => whnf
  refine ⟨(N : Int), by rw [wrap_eq (by rw [e1]; omega) (by rw [e1]; omega), e1]; omega, ?_⟩
  conv => whnf
  rw [show decide ((F : Int) < 1) = false by simp; omega]
  conv => whnf
  rw [show decide ((F : Int) > (N : Int)) = false by simp; omega]
  conv => whnf
  have hF1 := hbad F (by omega)
  rw [f1] at hF1
  refine .snapped _ _ _ _ _ (snap_clos rfl _) hF1 rfl ?_
  rw [killed_b]
  conv => whnf
  refine loop_by (I := fun n st => ∃ (q : Nat) (h : Heap), q ≤ s.looks.length ∧ n = s.looks.length - q ∧ Heap.at h 0 = v.blk ∧
    Has st 121 [(1, .c (.lit (.int .u8 w))), (5, .c (I F)), (9, .c (I N)), (10, .func (.func 36) [] [.ptr 0 0]), (69, .c (I v.ln)), (70, .c (I q))] [] none h) ?_ (k := s.looks.length)
    ⟨0, _, Nat.zero_le _, rfl, rfl, rfl, ⟨rfl, rfl, rfl, rfl, rfl, rfl, trivial⟩, rfl, rfl, rfl, rfl⟩
  rintro n st ⟨q, h, hq, rfl, h0, hs1⟩
  refine hs1.run (hm := false) ?_
  conv => whnf
  cases hc : decide ((q : Int) < (v.ln : Int))
  case true =>
    have hq : q < s.looks.length := by simp at hc; omega
    conv => whnf
    refine ⟨by omega, _, shr_nat F q (by omega), ?_⟩
    conv => whnf
    refine ⟨_, and_nat (b := 1) (Nat.lt_of_le_of_lt (Nat.shiftRight_le F q) (by omega)) (by omega), ?_⟩
    conv => whnf
    rw [bit_nat]
    cases hb : F.testBit q
    · conv => whnf
      refine ⟨((q + 1 : Nat) : Int), by rw [wrap_eq (by omega) (by omega)]; omega, ?_⟩
      conv => whnf
      exact ⟨s.looks.length - (q + 1), by omega, q + 1, h, by omega, rfl, h0, rfl, ⟨rfl, rfl, rfl, rfl, rfl, rfl, trivial⟩, rfl, rfl, rfl, rfl⟩
    · obtain ⟨_, g1, g2⟩ := drop_facts (b := F) (i := q) (by omega) (by omega) hb
      have hd1 := hbad (drop1 F q) (by omega)
      have hno : bad s (drop1 F q) = false := by
        cases hx : bad s (drop1 F q)
        · rfl
        · have := f4 _ (by omega) hx; omega
      rw [hno] at hd1
      conv => whnf
      refine ⟨by omega, ((2 ^ q : Nat) : Int), (shl_nat 1 q (by omega) (by have : 2 ^ q ≤ 2 ^ 4 := Nat.pow_le_pow_right (by omega) (by omega); omega)).trans (by rw [Nat.one_mul]), ?_⟩
      conv => whnf
      refine ⟨_, andNot_bit (by omega) (by omega) hb, ?_⟩
      conv => whnf
      refine .snapped _ _ _ _ _ (snap_clos h0 _) hd1 rfl ?_
      rw [killed_b]
      conv => whnf
      refine ⟨((q + 1 : Nat) : Int), by rw [wrap_eq (by omega) (by omega)]; omega, ?_⟩
      conv => whnf
      exact ⟨s.looks.length - (q + 1), by omega, q + 1, _, by omega, rfl, h0, rfl, ⟨rfl, rfl, rfl, rfl, rfl, rfl, trivial⟩, rfl, rfl, rfl, rfl⟩
  conv => whnf
  rw [wrap_u8 hw]
  refine ⟨_, and_nat (b := N) (by omega) (by omega), ?_⟩
  conv => whnf
  have hand : w &&& N ≤ N := Nat.and_le_right
  generalize w &&& N = X at hand
  have hX := hbad X (by omega)
  refine .snapped _ _ _ _ _ (snap_clos h0 _) hX rfl ?_
  rw [killed_b]
  cases hbx : bad s X
  · conv => whnf
    refine .ret hA rfl ?_
    conv => whnf
    exact .val
  · have hleast := f4 X hand hbx
    conv => whnf
    refine .ret (size_ret (by omega)) rfl ?_
    conv => whnf
    refine .ret (size_ret (by omega)) rfl ?_
    conv => whnf
    cases hgt : decide ((pop X : Int) > (pop F : Int))
    case true =>
      conv => whnf
      refine .ret hA rfl ?_
      conv => whnf
      exact .val
    have hgt : ¬ pop X > pop F := by simpa using hgt
    have heq : pop F = pop X ∧ F ≤ X := by omega
    conv => whnf
    refine .ret (size_ret (by omega)) rfl ?_
    conv => whnf
    refine .ret (size_ret (by omega)) rfl ?_
    conv => whnf
    rw [heq.1]
    rw [show ((pop X : Int) == (pop X : Int)) = true by simp]
    conv => whnf
    rw [show decide ((X : Int) ≥ (F : Int)) = true by simp; omega]
    conv => whnf
    refine .ret hA rfl ?_
    conv => whnf
    exact .val
end Go.Ag
