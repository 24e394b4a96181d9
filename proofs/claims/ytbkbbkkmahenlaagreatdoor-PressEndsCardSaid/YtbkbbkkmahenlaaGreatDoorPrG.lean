/- Layer 8: errors of Add; what cannot be weighed; rows of one's own; what a press with one more bale is. No conditions. -/
import Derived.Test.YtbkbbkkmahenlaaGreatDoorPrF
import Derived.Test.YtbkbbkkmahenlaaGreatDoorPrN
/- Layer 8: Add, where it is refused. -/
namespace Go.Ag
open Go.Proofs
set_option maxRecDepth 100000

def c56 (s : Int) : CV := .func (.func 56) [] [.cptr [I s] 0]
set_option maxHeartbeats 1000000 in
theorem of56_bad {v : PV} {c : Pr} (hv : v.Is c) (hc : okPr c = false) (s : Int) : Ret Tryz.prog 50 [v.cv c, I s, c56 s] (.tuple [I 0, I 1]) := by
  have hval := valid_ret hv
  rw [hc] at hval
  refine ret_by (hm := true) Tryz.func50 rfl ?_
  conv => whnf
  refine .ret (hval) rfl ?_
  conv => whnf
  exact .val
set_option maxHeartbeats 1000000 in
theorem of56_out {v : PV} {c : Pr} (hv : v.Is c) (hc : okPr c = true) {s : Int} (hs : setB s c.fl.length = false) : Ret Tryz.prog 50 [v.cv c, I s, c56 s] (.tuple [I 0, I 2]) := by
  have hval := valid_ret hv
  rw [hc] at hval
  have h10 : c.fl.length ≤ 10 := by unfold okPr at hc; rw [Bool.and_eq_true] at hc; exact okFs_len hc.1
  have hset := isSet_ret s c.fl.length h10
  rw [hs, ← hv.fn] at hset
  refine ret_by (hm := true) Tryz.func50 rfl ?_
  conv => whnf
  refine .ret (hval) rfl ?_
  conv => whnf
  refine .ret (hset) rfl ?_
  conv => whnf
  exact .val
theorem addX_of {v : PV} {c : Pr} {s : Int} {x : Int} {e : Int} (h : Ret Tryz.prog 50 [v.cv c, I s, c56 s] (.tuple [I x, I e])) : Ret Tryz.prog 17 [v.cv c, I s] (.tuple [I x, I e]) := by
  refine ret_by (hm := true) Tryz.func17 rfl ?_
  conv => whnf
  refine .snapped 100 [v.cv c, I s, c56 s] [1] _ _ rfl h rfl ?_
  conv => whnf
  exact .val
theorem addX_bad {v : PV} {c : Pr} (hv : v.Is c) (hc : okPr c = false) (s : Int) : Ret Tryz.prog 17 [v.cv c, I s] (.tuple [I 0, I 1]) := addX_of (of56_bad hv hc s)
theorem addX_out {v : PV} {c : Pr} (hv : v.Is c) (hc : okPr c = true) {s : Int} (hs : setB s c.fl.length = false) : Ret Tryz.prog 17 [v.cv c, I s] (.tuple [I 0, I 2]) := addX_of (of56_out hv hc hs)
theorem weighed38_ret (a lo hi : Int) : Ret Tryz.prog 38 [I a, I lo, I hi] (.agg [I a, I lo, I hi]) := by
  have h := span37_ret lo hi
  refine ret_by (hm := true) Tryz.func38 rfl ?_
  conv => whnf
  refine .ret (h) rfl ?_
  conv => whnf
  exact .val
theorem inside_ret (n lo hi : Int) : Ret Tryz.prog 34 [I n, .agg [I lo, I hi]] (B (decide (lo ≤ n) && decide (n ≤ hi))) := by
  refine ret_by (hm := true) Tryz.func34 rfl ?_
  conv => whnf
  cases h : decide (lo ≤ n)
  · conv => whnf
    exact .val
  · conv => whnf
    exact .val
/-- A press with bales of one's own, handed over alone. -/
theorem pr_snap1 {v : PV} {c : Pr} {o : Nat} {h : Heap} (hb : Heap.at h o = .blk ((c.wd.map rowF).flatten.map .c)) :
    snaps (Heap.at h) ((c.wd.map rowF).flatten.length + 33) [.agg [.c (.sl v.fc v.fo v.fn), .c (I c.low), .c (I c.top), .c (I c.bales), .msl o 3 0 c.wd.length c.wd.length]] = some ([(v.own c.wd).cv c], [o]) := by
  have e0 : ∀ a : Nat, snaps (Heap.at h) (a + 1) [] = some ([], []) := fun a => rfl
  have h2 := pr_snap (v := v) hb 0
  simp only [snaps, Option.bind_some, Option.map_eq_some_iff, Option.bind_eq_some_iff] at h2 ⊢
  obtain ⟨x, hx, y, hy, he⟩ := h2
  obtain ⟨a, ha, b, hb2, rfl⟩ := hy
  have ha : some (I 0, []) = some a := ha
  obtain rfl := Option.some.inj ha
  obtain rfl := Option.some.inj hb2
  simp only [Prod.mk.injEq, List.cons.injEq, List.append_nil] at he
  exact ⟨x, hx, ([], []), rfl, by rw [he.1.1, List.append_nil, he.2]⟩
end Go.Ag
/- Layer 8: the law of ends, where nothing is known. -/
namespace Go.Ag
open Go.Proofs
set_option maxRecDepth 100000

theorem endsLaw_far {v : PV} {c : Pr} (hv : v.IsL c) (hf : farB c = true) (w : Int) : Ret Tryz.prog 6 [v.cv c, .lit (.int .u16 w)] (B true) := by
  have h1 := far_ret hv
  rw [hf] at h1
  refine ret_by (hm := true) Tryz.func6 rfl ?_
  conv => whnf
  refine .ret (h1) rfl ?_
  conv => whnf
  refine .ret (Awake.alive_ret) rfl ?_
  conv => whnf
  exact .val
set_option maxHeartbeats 2000000 in
theorem endsLaw_bad {v : PV} {c : Pr} (hv : v.Is c) (hf : farB c = false) (hok : okPr c = false) (w : Int) : Ret Tryz.prog 6 [v.cv c, .lit (.int .u16 w)] (B true) := by
  have h1 := far_ret hv.toIsL
  rw [hf] at h1
  have h2 := refPress_ret hv
  rw [hok] at h2
  have h3 := weightX_bad hv hok 0
  have h4 := falseX_bad hv hok
  refine ret_then (hm := true) Tryz.func6 rfl ?_
  conv => whnf
  refine then_seq (hm := true) ?_
  conv => whnf
  refine then_seq (hm := true) ?_
  conv => whnf
  refine .ret (h1) rfl ?_
  conv => whnf
  refine then_seq (hm := true) ?_
  conv => whnf
  refine .ret (h2) rfl ?_
  conv => whnf
  refine .ret (h3) rfl ?_
  conv => whnf
  refine .ret (h4) rfl ?_
  conv => whnf
  refine ⟨_, span_eql rfl rfl rfl _ _, ?_⟩
  conv => whnf
  refine .ret (Awake.alive_ret) rfl ?_
  conv => whnf
  exact .val
end Go.Ag
/- Layer 8: the law of ends, where weighings clash. -/
namespace Go.Ag
open Go.Proofs
set_option maxRecDepth 100000

theorem wrong_can {d : Pn} : wrongN d = 0 ↔ canP d = true := by
  have hl := scaled_len d
  unfold wrongN canP
  rw [Bool.not_eq_true', ← hl]
  constructor
  · intro h
    rw [List.any_eq_false]
    intro x hx ht
    obtain ⟨i, hi⟩ := List.getElem?_of_mem hx
    have hil := (List.getElem?_eq_some_iff.1 hi).1
    have := bitsN_bit (tornAt (scaledL d)) i (scaledL d).length
    rw [h, Nat.zero_testBit] at this
    unfold tornAt at this
    rw [hi] at this
    dsimp only at this
    rw [ht, decide_eq_true hil] at this
    cases this
  · intro h
    refine bits_zero fun i => ?_
    rw [bitsN_bit]
    unfold tornAt
    cases hi : (scaledL d)[i]? with
    | none => simp
    | some x =>
      have := List.any_eq_false.1 h x (List.mem_of_getElem? hi)
      simp [this]
theorem wrong_lt (d : Pn) : wrongN d < 2 ^ d.wd.length := bitsN_lt _ _
theorem set_over (n : Nat) : setB ((2 ^ n : Nat) : Int) n = false := by
  unfold setB inB'
  have := Nat.one_le_two_pow (n := n)
  rw [Bool.and_eq_false_iff]
  right
  rw [decide_eq_false_iff_not]; omega
theorem set_under (n : Nat) : setB (-1) n = false := by
  unfold setB inB'
  rfl
set_option maxHeartbeats 4000000 in
theorem endsLaw_clash {v : PV} {d : Pn} (hv : v.Is d.pr) (hd : d.Good) (hok : okPr d.pr = true) (hfar : farB d.pr = false) (hc : canP d = false) (w : Int) : Ret Tryz.prog 6 [v.cv d.pr, .lit (.int .u16 w)] (B true) := by
  have h1 := far_ret hv.toIsL
  rw [hfar] at h1
  have h2 := refPress_ret hv
  rw [hok] at h2
  have p10 := pow10 hd.n10
  have hev := every_ret hv (by rw [pr_len]; exact hd.n10)
  rw [pr_len] at hev
  have hwo := weightX_out hv hok (s := ((2 ^ d.n : Nat) : Int)) (by rw [pr_len]; exact set_over _)
  have hfo := fitsX_out hv hok (s := -1) (set_under _)
  have hao := addX_out hv hok (s := ((2 ^ d.n : Nat) : Int)) (by rw [pr_len]; exact set_over _)
  have hw0 : Ret Tryz.prog 13 [v.cv d.pr, I 0] (.tuple [.agg [I 0, I 0], I 10]) := by
    have := weightX_ret hv hd hok (s := 0) (by omega)
    unfold wOf eOf at this
    rw [if_neg (by rw [hc]; simp), if_neg (by rw [hc]; simp)] at this
    exact this
  have hwr : wrongN d ≠ 0 := fun e => by rw [wrong_can, hc] at e; cases e
  have hf : Ret Tryz.prog 19 [v.cv d.pr] (.tuple [I (wrongN d : Nat), I 0]) := by
    have := falseX_ret hv hd hok
    unfold wrE at this
    rw [if_neg hwr] at this
    exact this
  have hlt := wrong_lt d
  have hw4 := hd.w4
  have hwl : d.pr.wd.length = d.wd.length := by show (d.wd.map _).length = _; rw [List.length_map]
  have hwn := hv.wn
  rw [hwl] at hwn
  have hpw : 2 ^ d.wd.length ≤ 16 := Nat.pow_le_pow_right (n := 2) (by omega) hw4
  generalize wrongN d = z at *
  refine ret_then (hm := true) Tryz.func6 rfl ?_
  conv => whnf
  refine then_seq (hm := true) ?_
  conv => whnf
  refine then_seq (hm := true) ?_
  conv => whnf
  refine .ret (h1) rfl ?_
  conv => whnf
  refine then_seq (hm := true) ?_
  conv => whnf
  refine .ret (h2) rfl ?_
  conv => whnf
  refine then_seq (hm := true) ?_
  refine draw_by (hm := true) (by kernel_rfl) (by kernel_rfl) ?_
  conv => whnf
  refine .pure _ _ rfl (hev) ?_
  conv => whnf
  refine ⟨((2 ^ d.n : Nat) : Int), by rw [wrap_eq (by omega) (by omega)]; omega, ?_⟩
  conv => whnf
  refine .pure _ _ rfl (hwo) ?_
  conv => whnf
  refine ⟨Nat.lt_succ_self _, ?_⟩
  conv => whnf
  refine ⟨by kernel_rfl, ?_⟩
  conv => whnf
  refine then_seq (hm := true) ?_
  conv => whnf
  refine .ret (hfo) rfl ?_
  conv => whnf
  refine then_seq (hm := true) ?_
  refine draw_by (hm := true) (by kernel_rfl) (by kernel_rfl) ?_
  conv => whnf
  refine .pure _ _ rfl (hev) ?_
  conv => whnf
  refine ⟨((2 ^ d.n : Nat) : Int), by rw [wrap_eq (by omega) (by omega)]; omega, ?_⟩
  conv => whnf
  refine .pure _ _ rfl (hao) ?_
  conv => whnf
  refine ⟨by kernel_rfl, ?_⟩
  conv => whnf
  refine then_seq (hm := true) ?_
  conv => whnf
  refine .ret (hw0) rfl ?_
  conv => whnf
  refine then_seq (hm := true) ?_
  conv => whnf
  refine .ret (hf) rfl ?_
  conv => whnf
  refine then_seq (hm := true) ?_
  conv => whnf
  refine ⟨_, bool_neq rfl rfl rfl _ _, ?_⟩
  conv => whnf
  refine ⟨_, span_neq rfl rfl rfl _ _, ?_⟩
  conv => whnf
  refine then_seq (hm := true) ?_
  conv => whnf
  rw [show decide (((z : Nat) : Int) > 0) = true from decide_eq_true (by omega)]
  conv => whnf
  rw [hwn]
  refine ⟨by omega, _, shr_nat z d.wd.length (by omega), ?_⟩
  conv => whnf
  rw [show z >>> d.wd.length = 0 by rw [Nat.shiftRight_eq_div_pow]; exact Nat.div_eq_of_lt hlt]
  conv => whnf
  refine .ret (Awake.alive_ret) rfl ?_
  conv => whnf
  exact .val
end Go.Ag
/- Layer 8: rows of one's own: copied, and one more. -/
namespace Go.Ag
open Go.Proofs
set_option maxRecDepth 100000

abbrev rowsC (l : List (Int × Int × Int)) : List AV := (l.map rowF).flatten.map .c
theorem rowsC_len (l : List (Int × Int × Int)) : (rowsC l).length = l.length * 3 := by
  unfold rowsC
  rw [List.length_map, flat_len _ (rowF_all _), List.length_map]
/-- All rows of a closed slice, behind none of one's own. -/
theorem own_copy {t e : TypeId} (ht : Tryz.prog.underlying t = some (.slice e)) (hs : slicePart Tryz.prog e = some 3) {l : List (Int × Int × Int)} {C : List CV} {o n : Nat} (hw : SlOf 3 (l.map rowF) C o n) (hn : n = l.length) (hl : l.length ≤ 1000) {H : Heap} {id : Nat} (hid : Heap.at H id = .blk []) (hlt : id < H.n) :
    ∃ r p, aappend Tryz.prog (atF H) H.n #[t, t] (.msl id 3 0 0 0) (.c (.sl C o n)) = some r ∧ r.val = .msl p 3 0 l.length l.length ∧ id ≤ p ∧ p < (after H r).n ∧ H.n ≤ (after H r).n ∧ Heap.at (after H r) p = .blk (rowsC l) ∧ (∀ i, i < id → Heap.at (after H r) i = Heap.at H i) := by
  have hfirst : firstCells (atF H) 3 (.c (.sl C o n)) = some (rowsC l, n, []) := by
    have := SlOf.first hw (rowF_all _) (atF H)
    rw [List.length_map, ← hn] at this
    exact this
  by_cases h0 : n = 0
  · have hnil : l = [] := List.length_eq_zero_iff.1 (by omega)
    subst hnil
    subst h0
    exact ⟨_, id, append_none rfl rfl ht ht rfl hs hfirst, rfl, Nat.le_refl _, hlt, Nat.le_refl _, hid, fun i _ => rfl⟩
  · refine ⟨_, H.n, append_grow (id := id) (len := 0) (cells := []) rfl rfl ht ht rfl hs hfirst cells_ce h0 (by unfold limit; omega) (by rw [atF_eq]; exact hid) rfl, ?_, by omega, ?_, ?_, ?_, ?_⟩
    · rw [Nat.zero_add, hn]
    · show H.n < TMap.n (TMap.push .dead (TMap.set .dead H id .dead) _)
      rw [push_n, TMap.set_n]; omega
    · show H.n ≤ TMap.n (TMap.push .dead (TMap.set .dead H id .dead) _)
      rw [push_n, TMap.set_n]; omega
    · show Heap.at (TMap.push .dead (TMap.set .dead H id .dead) _) H.n = _
      exact (congrArg _ (TMap.set_n _ _ _ _).symm).trans (at_push_self _ _)
    · intro i hi
      show Heap.at (TMap.push .dead (TMap.set .dead H id .dead) _) i = _
      exact (at_push_lt _ _ (by rw [TMap.set_n]; omega)).trans (at_set_ne _ _ (by omega))
/-- One more row. -/
theorem own_add {t e : TypeId} (ht : Tryz.prog.underlying t = some (.slice e)) (hs : slicePart Tryz.prog e = some 3) {l : List (Int × Int × Int)} (hl : l.length ≤ 1000) {K : Heap} {p : Nat} (hp : p < K.n) (hpb : Heap.at K p = .blk (rowsC l)) (b : Int × Int × Int) :
    ∃ r, aappend Tryz.prog (atF (K.push .dead (.blk [.c (I b.1), .c (I b.2.1), .c (I b.2.2)]))) (K.n + 1) #[t, t] (.msl p 3 0 l.length l.length) (.msl K.n 3 0 1 1) = some r ∧ r.val = .msl (K.n + 1) 3 0 (l.length + 1) (l.length + 1) ∧
      (after (K.push .dead (.blk [.c (I b.1), .c (I b.2.1), .c (I b.2.2)])) r).n = K.n + 2 ∧ Heap.at (after (K.push .dead (.blk [.c (I b.1), .c (I b.2.1), .c (I b.2.2)])) r) (K.n + 1) = .blk (rowsC (l ++ [b])) ∧
      (∀ i, i < p → Heap.at (after (K.push .dead (.blk [.c (I b.1), .c (I b.2.1), .c (I b.2.2)])) r) i = Heap.at K i) := by
  have q3 : Heap.at (K.push .dead (.blk [.c (I b.1), .c (I b.2.1), .c (I b.2.2)])) K.n = .blk [.c (I b.1), .c (I b.2.1), .c (I b.2.2)] := at_push_self _ _
  have hfc : firstCells (atF (K.push .dead (.blk [.c (I b.1), .c (I b.2.1), .c (I b.2.2)]))) 3 (.msl K.n 3 0 1 1) = some ([.c (I b.1), .c (I b.2.1), .c (I b.2.2)], 1, [K.n]) := first_own (by rw [atF_eq]; exact q3) rfl
  refine ⟨_, append_grow (id := p) (len := l.length) (cells := rowsC l) rfl rfl ht ht rfl hs hfc rfl (by omega) (by unfold limit; omega) (by rw [atF_eq]; exact (at_push_lt _ _ hp).trans hpb) (rowsC_len l), rfl, ?_, ?_, ?_⟩
  · show TMap.n (TMap.push .dead (TMap.set .dead (TMap.push .dead K _) p .dead) _) = _
    rw [push_n, TMap.set_n, push_n]
  · show Heap.at (TMap.push .dead (TMap.set .dead (TMap.push .dead K _) p .dead) _) (K.n + 1) = _
    have e5 := at_push_self ((K.push .dead (.blk [.c (I b.1), .c (I b.2.1), .c (I b.2.2)])).set .dead p .dead) (.blk (rowsC l ++ [.c (I b.1), .c (I b.2.1), .c (I b.2.2)]))
    rw [show ((K.push .dead (.blk [.c (I b.1), .c (I b.2.1), .c (I b.2.2)])).set .dead p .dead).n = K.n + 1 by rw [TMap.set_n, push_n]] at e5
    rw [e5]
    unfold rowsC
    simp [rowF]
  · intro i hi
    show Heap.at (TMap.push .dead (TMap.set .dead (TMap.push .dead K _) p .dead) _) i = _
    exact (at_push_lt _ _ (by rw [TMap.set_n, push_n]; omega)).trans ((at_set_ne _ _ (by omega)).trans (at_push_lt _ _ (by omega)))
/-- Calls with a press whose bales are one's own. -/
theorem pr_call {v : PV} {c : Pr} {o m : Nat} {h : Heap} (hb : Heap.at h o = .blk (rowsC c.wd)) (hm : m = c.wd.length) {f : FuncId} {z : Int} {r : CV} (hr : Ret Tryz.prog f [(v.own c.wd).cv c, I z] r) (hp : r.plain = true) {K : AEnd → Heap → Prop} (k : K (.ret (.c r)) h) :
    CallW Tryz.prog f [.agg [.c (.sl v.fc v.fo v.fn), .c (I c.low), .c (I c.top), .c (I c.bales), .msl o 3 0 m m], .c (I z)] h K := by
  have hkl : killed r [o] = [] := by unfold killed; rw [if_pos hp]
  subst hm
  exact .snapped _ _ _ _ r (pr_snap hb z) hr rfl (by rw [hkl]; exact k)
theorem pr_call1 {v : PV} {c : Pr} {o m : Nat} {h : Heap} (hb : Heap.at h o = .blk (rowsC c.wd)) (hm : m = c.wd.length) {f : FuncId} {r : CV} (hr : Ret Tryz.prog f [(v.own c.wd).cv c] r) (hp : r.plain = true) {K : AEnd → Heap → Prop} (k : K (.ret (.c r)) h) :
    CallW Tryz.prog f [.agg [.c (.sl v.fc v.fo v.fn), .c (I c.low), .c (I c.top), .c (I c.bales), .msl o 3 0 m m]] h K := by
  have hkl : killed r [o] = [] := by unfold killed; rw [if_pos hp]
  subst hm
  exact .snapped _ _ _ _ r (pr_snap1 hb) hr rfl (by rw [hkl]; exact k)
end Go.Ag
/- Layer 8: ends (mathematics). -/
namespace Go.Ag
open Go.Proofs
set_option maxRecDepth 100000

/-- One that was weighed weighs as both say. -/
theorem bale_weigh {d : Pn} (hd : d.Good) (hc : canP d = true) {k : Nat} {b : Nat × Int × Int} (hb : d.wd[k]? = some b) : weigh' d b.1 = ⟨max (T' d b.1).lo b.2.1, min (T' d b.1).hi b.2.2⟩ := by
  rw [in_bale hd hc hb (Sub.refl _)]
  unfold part'
  rw [and_of_sub (Sub.refl _), diff_zero.2 (Sub.refl _), T_zero]
  unfold bothW lessW
  dsimp only
  rw [Int.sub_zero, Int.sub_zero]
theorem bale_ends {d : Pn} (hd : d.Good) (hc : canP d = true) {k : Nat} {b : Nat × Int × Int} (hb : d.wd[k]? = some b) : ¬ (weigh' d b.1).lo > (weigh' d b.1).hi ∧ ¬ (weigh' d b.1).lo < b.2.1 ∧ ¬ (weigh' d b.1).hi > b.2.2 := by
  have h1 := can_bale hd hc (List.mem_of_getElem? hb)
  have h2 := hd.w b (List.mem_of_getElem? hb)
  have h3 := T_bound hd b.1
  rw [bale_weigh hd hc hb]
  dsimp only
  omega
theorem loose_out {d : Pn} (s : Nat) {b : Nat × Int × Int} (hb : b ∈ d.wd) : b.1 &&& looseN s d.wd = 0 := and_zero.2 fun i hi => by
  rw [loose_bit]
  have : (d.wd.any fun b => b.1.testBit i) = true := List.any_eq_true.2 ⟨b, hb, hi⟩
  rw [this]; simp
/-- What is in no bale weighs what its fleeces weigh. -/
theorem loose_weigh {d : Pn} (hd : d.Good) (hc : canP d = true) (s : Nat) : weigh' d (looseN s d.wd) = T' d (looseN s d.wd) := by
  rw [weigh_eq, sum_zero (fun x hx => by
    obtain ⟨b, hb, rfl⟩ := List.mem_map.1 hx
    exact part_out hd hc hb (loose_out s hb))]
  have : looseN (looseN s d.wd) d.wd = looseN s d.wd := Nat.eq_of_testBit_eq fun i => by
    simp only [loose_bit]
    cases s.testBit i <;> cases (d.wd.any fun b => b.1.testBit i) <;> rfl
  rw [this]
  unfold addW; simp
theorem tot_n {f : Nat → Int} {s n : Nat} (hs : s < 2 ^ n) : ∀ q, n ≤ q → totF f s q = totF f s n := by
  intro q hq
  induction q with
  | zero =>
    obtain rfl : n = 0 := by omega
    rfl
  | succ q ih =>
    by_cases h : n = q + 1
    · rw [h]
    · have hb : s.testBit q = false := Nat.testBit_lt_two_pow (Nat.lt_of_lt_of_le hs (Nat.pow_le_pow_right (by omega) (by omega)))
      rw [totF, hb, if_neg (by simp), ih (by omega)]
theorem T_n {d : Pn} (hd : d.Good) {s : Nat} (hs : s < 2 ^ d.n) : T' d s = ⟨totF (fun i => (d.w' i).lo) s d.n, totF (fun i => (d.w' i).hi) s d.n⟩ := by
  have h1 := T_lo d s; have h2 := T_hi d s
  rw [tot_n hs 10 hd.n10] at h1 h2
  rw [← h1, ← h2]
/-- One more was weighed. -/
def oneMore (d : Pn) (s : Nat) (n : Int) : Pn := ⟨d.fl, d.low, d.top, d.bales, d.wd ++ [(s, n, n)]⟩
theorem more_good {d : Pn} (hd : d.Good) (hw : d.wd.length < 4) {s : Nat} (hs : s < 2 ^ d.n) (h0 : s ≠ 0) (ha : ∀ b ∈ d.wd, b.1 &&& s = 0) {n : Int} (h1 : 1 ≤ n) (h2 : n ≤ 200) : (oneMore d s n).Good := by
  refine ⟨hd.n10, hd.f, by show (d.wd ++ [_]).length ≤ 4; rw [List.length_append]; simp; omega, ?_, ?_, hd.lt, hd.b5⟩
  · intro b hb
    rcases List.mem_append.1 hb with hb | hb
    · exact hd.w b hb
    · rw [List.mem_singleton.1 hb]; exact ⟨by show 1 ≤ s; omega, hs, h1, Int.le_refl _, h2⟩
  · refine List.pairwise_append.2 ⟨hd.ap, List.pairwise_singleton _ _, fun a ha' b hb => ?_⟩
    rw [List.mem_singleton.1 hb]; exact ha a ha'
theorem more_T (d : Pn) (s t : Nat) (n : Int) : T' (oneMore d s n) t = T' d t := rfl
/-- There is a truth just if the number is one that they can weigh. -/
theorem more_can {d : Pn} (hd : d.Good) (hc : canP d = true) (hw : d.wd.length < 4) {s : Nat} (hs : s < 2 ^ d.n) (h0 : s ≠ 0) (ha : ∀ b ∈ d.wd, b.1 &&& s = 0) {n : Int} (h1 : 1 ≤ n) (h2 : n ≤ 200) :
    canP (oneMore d s n) = (decide ((T' d s).lo ≤ n) && decide (n ≤ (T' d s).hi)) := by
  have hg := more_good hd hw hs h0 ha h1 h2
  rw [Bool.eq_iff_iff, Bool.and_eq_true, decide_eq_true_eq, decide_eq_true_eq]
  constructor
  · intro h
    have := can_bale hg h (b := (s, n, n)) (List.mem_append.2 (.inr (by simp)))
    rw [more_T] at this
    exact ⟨this.2, this.1⟩
  · rintro ⟨p1, p2⟩
    refine can_of hg fun b hb => ?_
    rw [more_T]
    rcases List.mem_append.1 hb with hb | hb
    · exact can_bale hd hc hb
    · rw [List.mem_singleton.1 hb]; exact ⟨p2, p1⟩
theorem more_weigh {d : Pn} (hd : d.Good) (hw : d.wd.length < 4) {s : Nat} (hs : s < 2 ^ d.n) (h0 : s ≠ 0) (ha : ∀ b ∈ d.wd, b.1 &&& s = 0) {n : Int} (h1 : 1 ≤ n) (h2 : n ≤ 200) (hc : canP (oneMore d s n) = true) : weigh' (oneMore d s n) s = ⟨n, n⟩ := by
  have hg := more_good hd hw hs h0 ha h1 h2
  have hb : (oneMore d s n).wd[d.wd.length]? = some (s, n, n) := by show (d.wd ++ [_])[_]? = _; rw [List.getElem?_append_right (Nat.le_refl _)]; simp
  have h3 := bale_weigh hg hc hb
  have h4 := can_bale hg hc (List.mem_of_getElem? hb)
  have h5 := T_bound hg s
  dsimp only at h3 h4
  rw [h3]
  have e1 : max (T' (oneMore d s n) s).lo n = n := by omega
  have e2 : min (T' (oneMore d s n) s).hi n = n := by omega
  rw [e1, e2]
end Go.Ag
