/- The law PressEnds returns true for arguments that read as data. No conditions. -/
import Derived.Test.YtbkbbkkmahenlaaGreatDoorPrP
import Derived.Test.YtbkbbkkmahenlaaGreatDoorPrG
/- Layer 8: the law of ends. -/
namespace Go.Ag
open Go.Proofs
set_option maxRecDepth 100000

theorem loose_lt {n : Nat} : ∀ {l : List (Nat × Int × Int)} {s : Nat}, s < 2 ^ n → looseN s l < 2 ^ n
  | [], _, h => h
  | b :: l, s, h => loose_lt (l := l) (diffN_lt h)
set_option maxHeartbeats 8000000 in
theorem endsLaw_ok {v : PV} {d : Pn} (hv : v.Is d.pr) (hd : d.Good) (hok : okPr d.pr = true) (hfar : farB d.pr = false) (hc : canP d = true) {w : Nat} (hwlt : w < 65536) : Ret Tryz.prog 6 [v.cv d.pr, .lit (.int .u16 w)] (B true) := by
  have h1 := far_ret hv.toIsL
  rw [hfar] at h1
  have h2 := refPress_ret hv
  rw [hok] at h2
  have p10 := pow10 hd.n10
  have hev := every_ret hv (by rw [pr_len]; exact hd.n10)
  rw [pr_len] at hev
  have hwo := weightX_out hv hok (s := ((2 ^ d.n : Nat) : Int)) (by rw [pr_len]; exact set_over _)
  have hfo := fitsX_out hv hok (s := -1) (set_under _)
  have hao := addX_out hv hok (s := ((2 ^ d.n : Nat) : Int)) (by rw [pr_len]; exact set_over _)
  have hW : ∀ s : Nat, s < 2 ^ d.n → Ret Tryz.prog 13 [v.cv d.pr, I s] (.tuple [.agg [I (weigh' d s).lo, I (weigh' d s).hi], I 0]) := fun s hs => by
    have := weightX_ret hv hd hok hs
    unfold wOf eOf at this
    rw [if_pos hc, if_pos hc] at this
    exact this
  have hw0 : Ret Tryz.prog 13 [v.cv d.pr, I 0] (.tuple [.agg [I 0, I 0], I 0]) := by
    have := hW 0 (by omega)
    rw [weigh_zero hd hc] at this
    exact this
  have hf : Ret Tryz.prog 19 [v.cv d.pr] (.tuple [I 0, I 4]) := by
    have := falseX_ret hv hd hok
    unfold wrE at this
    rw [if_pos (wrong_can.2 hc), wrong_can.2 hc] at this
    exact this
  have hw4 := hd.w4
  have hwl : d.pr.wd.length = d.wd.length := by show (d.wd.map _).length = _; rw [List.length_map]
  have hwn := hv.wn
  rw [hwl] at hwn
  have hs1 : w &&& (2 ^ d.n - 1) < 2 ^ d.n := by have := Nat.and_le_right (n := w) (m := 2 ^ d.n - 1); omega
  obtain ⟨s, hse⟩ : ∃ s, s = w &&& (2 ^ d.n - 1) := ⟨_, rfl⟩
  rw [← hse] at hs1
  have hal := Awake.alive_ret
  refine ret_then (hm := true) Tryz.func6 rfl ?_
  conv => whnf
  refine then_seq (hm := true) ?_
  conv => whnf
  refine then_seq (hm := true) ?_
  conv => whnf
  refine .ret (h1) rfl ?_
  conv => whnf
  refine then_seq (hm := true) ?_
  conv => whnf
  refine .ret (h2) rfl ?_
  conv => whnf
  refine then_seq (hm := true) ?_
  refine draw_by (hm := true) (by kernel_rfl) (by kernel_rfl) ?_
  conv => whnf
  refine .pure _ _ rfl (hev) ?_
  conv => whnf
  refine ⟨((2 ^ d.n : Nat) : Int), by rw [wrap_eq (by omega) (by omega)]; omega, ?_⟩
  conv => whnf
  refine .pure _ _ rfl (hwo) ?_
  conv => whnf
  refine ⟨Nat.lt_succ_self _, ?_⟩
  conv => whnf
  refine ⟨by kernel_rfl, ?_⟩
  conv => whnf
  refine then_seq (hm := true) ?_
  conv => whnf
  refine .ret (hfo) rfl ?_
  conv => whnf
  refine then_seq (hm := true) ?_
  refine draw_by (hm := true) (by kernel_rfl) (by kernel_rfl) ?_
  conv => whnf
  refine .pure _ _ rfl (hev) ?_
  conv => whnf
  refine ⟨((2 ^ d.n : Nat) : Int), by rw [wrap_eq (by omega) (by omega)]; omega, ?_⟩
  conv => whnf
  refine .pure _ _ rfl (hao) ?_
  conv => whnf
  refine ⟨by kernel_rfl, ?_⟩
  conv => whnf
  refine then_seq (hm := true) ?_
  conv => whnf
  refine .ret (hw0) rfl ?_
  conv => whnf
  refine then_seq (hm := true) ?_
  conv => whnf
  refine .ret (hf) rfl ?_
  conv => whnf
  refine then_seq (hm := true) ?_
  conv => whnf
  refine ⟨_, bool_neq rfl rfl rfl _ _, ?_⟩
  conv => whnf
  refine ⟨_, span_neq rfl rfl rfl _ _, ?_⟩
  conv => whnf
  refine then_seq (hm := true) ?_
  conv => whnf
  refine then_seq (hm := true) ?_
  conv => whnf
  rw [show IntKind.i64.wrap ((w : Nat) : Int) = (w : Nat) from wrap_eq (by omega) (by omega)]
  refine .ret (hev) rfl ?_
  conv => whnf
  refine ⟨_, and_nat (a := w) (b := 2 ^ d.n - 1) (by omega) (by omega), ?_⟩
  conv => whnf
  rw [← hse]
  refine then_via (hm := false) (fun st => ∃ h : Heap, Heap.at h 0 = v.blk d.pr ∧ 0 < h.n ∧ Has st 307 [(2, .ptr 0 0), (19, .c (I (looseN s d.wd : Nat)))] [] none h) ?_ ?_
  · skip
    conv => whnf
    refine ⟨_, rfl, ?_⟩
    conv => whnf
    refine loop_by (I := fun m st => ∃ (q : Nat) (h : Heap) (a : Nat), q ≤ d.wd.length ∧ m = d.wd.length - q ∧ a < 2 ^ d.n ∧ looseN s d.wd = looseN a (d.wd.drop q) ∧ Heap.at h 0 = v.blk d.pr ∧ 0 < h.n ∧ Has st 307 [(2, .ptr 0 0), (19, .c (I a)), (155, .c (.sl v.wc v.ow v.wn)), (156, .c (I v.wn)), (157, .c (I q))] [] none h) ?_ (k := d.wd.length)
      ⟨0, _, s, Nat.zero_le _, rfl, hs1, rfl, rfl, Nat.lt_succ_of_lt (by decide), rfl, ⟨rfl, rfl, rfl, rfl, rfl, trivial⟩, rfl, rfl, rfl, rfl⟩
    rintro m st ⟨q, h, a, hq, rfl, ha, hall, h0, hlt, hs⟩
    refine hs.run (hm := false) ?_
    conv => whnf
    cases hcq : decide ((q : Int) < (v.wn : Int))
    case false =>
      have : q = d.wd.length := by simp at hcq; omega
      subst this
      rw [List.drop_length] at hall
      conv => whnf
      exact ⟨h, h0, hlt, rfl, ⟨rfl, by rw [hall]; rfl, trivial⟩, rfl, rfl, rfl, rfl⟩
    have hq : q < d.wd.length := by simp at hcq; omega
    obtain ⟨b, hb⟩ := get_some hq
    have hbp : d.pr.wd[q]? = some (((b.1 : Nat) : Int), b.2.1, b.2.2) := by show (d.wd.map _)[q]? = _; rw [List.getElem?_map, hb]; rfl
    have hbw := hd.w b (List.mem_of_getElem? hb)
    have hbe := bale_ends hd hc hb
    have hWb := hW b.1 hbw.2.1
    rw [drop_get hb] at hall
    generalize weigh' d b.1 = W at hbe hWb
    conv => whnf
    refine ⟨⟨by omega, by omega⟩, ?_⟩
    conv => whnf
    refine ⟨_, hv.bale hbp, ?_⟩
    conv => whnf
    refine ⟨_, at_push_self _ _, ?_⟩
    conv => whnf
    generalize hH2 : TMap.set AB.dead (TMap.push AB.dead h _) _ _ = H2
    have d0 : Heap.at H2 0 = v.blk d.pr := by rw [← hH2]; exact (at_old _ _ _ hlt).trans h0
    have d2 : Heap.at H2 h.n = .blk [.c (I (b.1 : Nat)), .c (I b.2.1), .c (I b.2.2)] := by rw [← hH2]; exact at_new _ _ _
    have d3 : H2.n = h.n + 1 := by rw [← hH2, TMap.set_n, push_n]
    clear hH2
    refine ⟨_, d2, ?_⟩
    conv => whnf
    refine ⟨_, andNot_nat (a := a) (b := b.1) (by omega) (by omega), ?_⟩
    conv => whnf
    refine ⟨_, d0, ?_⟩
    conv => whnf
    refine ⟨_, d2, ?_⟩
    conv => whnf
    refine .ret (hWb) rfl ?_
    conv => whnf
    refine ⟨_, at_push_self _ _, ?_⟩
    conv => whnf
    generalize hH3 : TMap.set AB.dead (TMap.push AB.dead H2 _) _ _ = H3
    have e0 : Heap.at H3 0 = v.blk d.pr := by rw [← hH3]; exact (at_old _ _ _ (by omega)).trans d0
    have e1 : Heap.at H3 h.n = .blk [.c (I (b.1 : Nat)), .c (I b.2.1), .c (I b.2.2)] := by rw [← hH3]; exact (at_old _ _ _ (by omega)).trans d2
    have e2 : Heap.at H3 H2.n = .blk [.c (I W.lo), .c (I W.hi)] := by rw [← hH3]; exact at_new _ _ _
    have e3 : 0 < H3.n := by rw [← hH3, TMap.set_n, push_n]; omega
    clear hH3
    refine ⟨_, e2, ?_⟩
    conv => whnf
    refine ⟨_, e2, ?_⟩
    conv => whnf
    rw [show decide (W.lo > W.hi) = false from decide_eq_false hbe.1]
    conv => whnf
    refine ⟨_, e2, ?_⟩
    conv => whnf
    refine ⟨_, e1, ?_⟩
    conv => whnf
    rw [show decide (W.lo < b.2.1) = false from decide_eq_false hbe.2.1]
    conv => whnf
    refine ⟨_, e2, ?_⟩
    conv => whnf
    refine ⟨_, e1, ?_⟩
    conv => whnf
    rw [show decide (W.hi > b.2.2) = false from decide_eq_false hbe.2.2]
    conv => whnf
    refine ⟨((q + 1 : Nat) : Int), by rw [wrap_eq (by omega) (by omega)]; omega, ?_⟩
    conv => whnf
    exact ⟨d.wd.length - (q + 1), by omega, q + 1, H3, diffN a b.1, by omega, rfl, diffN_lt ha, hall, e0, e3, rfl, ⟨rfl, rfl, rfl, rfl, rfl, trivial⟩, rfl, rfl, rfl, rfl⟩
  rintro st ⟨h, h0, hlt, hs⟩
  obtain ⟨a, hae⟩ : ∃ a, a = looseN s d.wd := ⟨_, rfl⟩
  have ha : a < 2 ^ d.n := hae ▸ loose_lt hs1
  have hWa := hW a ha
  rw [hae, loose_weigh hd hc, ← hae, T_n hd ha] at hWa
  rw [← hae] at hs
  refine hs.then ?_
  refine then_seq (hm := false) ?_
  conv => whnf
  refine ⟨_, h0, ?_⟩
  conv => whnf
  refine .ret (hWa) rfl ?_
  conv => whnf
  refine ⟨_, at_push_self _ _, ?_⟩
  conv => whnf
  generalize hG : TMap.set AB.dead (TMap.push AB.dead h _) _ _ = G
  have g0 : Heap.at G 0 = v.blk d.pr := by rw [← hG]; exact (at_old _ _ _ hlt).trans h0
  have g1 : Heap.at G h.n = .blk [.c (I (totF (fun i => (d.w' i).lo) a d.n)), .c (I (totF (fun i => (d.w' i).hi) a d.n))] := by rw [← hG]; exact at_new _ _ _
  have gn : h.n < G.n := by rw [← hG, TMap.set_n, push_n]; omega
  clear hG h0
  obtain ⟨N, hN⟩ : ∃ N, N = h.n := ⟨_, rfl⟩
  rw [← hN] at g1 gn hlt ⊢
  clear hN hs h
  refine then_seq (hm := false) ?_
  conv => whnf
  have hfn := hv.fn
  rw [pr_len] at hfn
  have tb1 : ∀ q, q ≤ d.n → 0 ≤ totF (fun i => (d.w' i).lo) a q ∧ totF (fun i => (d.w' i).lo) a q ≤ 1000 := fun q hq => by
    have := tot_bound (f := fun i => (d.w' i).lo) (z := 20) (fun i => by have := hd.w' i; omega) a q
    have := hd.n10
    omega
  have tb2 : ∀ q, q ≤ d.n → 0 ≤ totF (fun i => (d.w' i).hi) a q ∧ totF (fun i => (d.w' i).hi) a q ≤ 1000 := fun q hq => by
    have := tot_bound (f := fun i => (d.w' i).hi) (z := 20) (fun i => by have := hd.w' i; omega) a q
    have := hd.n10
    omega
  refine then_via (hm := false) (fun st => ∃ h : Heap, Heap.at h 0 = v.blk d.pr ∧ 0 < h.n ∧ Heap.at h N = .blk [.c (I (totF (fun i => (d.w' i).lo) a d.n)), .c (I (totF (fun i => (d.w' i).hi) a d.n))] ∧ N < h.n ∧ Has st 307 [(2, .ptr 0 0), (19, .c (I a)), (24, .ptr N 0), (25, .c (I 0)), (26, .c (I (totF (fun i => (d.w' i).lo) a d.n))), (27, .c (I (totF (fun i => (d.w' i).hi) a d.n)))] [] none h) ?_ ?_
  · skip
    conv => whnf
    refine ⟨_, g0, ?_⟩
    conv => whnf
    refine loop_by (I := fun m st => ∃ (q : Nat) (h : Heap), q ≤ d.n ∧ m = d.n - q ∧ Heap.at h 0 = v.blk d.pr ∧ 0 < h.n ∧ Heap.at h N = .blk [.c (I (totF (fun i => (d.w' i).lo) a d.n)), .c (I (totF (fun i => (d.w' i).hi) a d.n))] ∧ N < h.n ∧ Has st 307 [(2, .ptr 0 0), (19, .c (I a)), (24, .ptr N 0), (25, .c (I 0)), (26, .c (I (totF (fun i => (d.w' i).lo) a q))), (27, .c (I (totF (fun i => (d.w' i).hi) a q))), (205, .c (.sl v.fc v.fo v.fn)), (206, .c (I v.fn)), (207, .c (I q))] [] none h) ?_ (k := d.n)
      ⟨0, G, Nat.zero_le _, rfl, g0, by omega, g1, gn, rfl, ⟨rfl, rfl, rfl, rfl, rfl, rfl, rfl, rfl, rfl, trivial⟩, rfl, rfl, rfl, rfl⟩
    clear g0 g1 gn G
    rintro m st ⟨q, h, hq, rfl, h0, hlt, hN, hNn, hs⟩
    refine hs.run (hm := false) ?_
    conv => whnf
    cases hcq : decide ((q : Int) < (v.fn : Int))
    case false =>
      have : q = d.n := by simp at hcq; omega
      subst this
      conv => whnf
      exact ⟨h, h0, hlt, hN, hNn, rfl, ⟨rfl, rfl, rfl, rfl, rfl, rfl, trivial⟩, rfl, rfl, rfl, rfl⟩
    have hq : q < d.n := by simp at hcq; omega
    obtain ⟨x, hx⟩ := get_some (l := d.fl) (k := q) hq
    have hxp : d.pr.fl[q]? = some (x.1, x.2.1, (x.2.2 : Int)) := by show (d.fl.map _)[q]? = _; rw [List.getElem?_map, hx]; rfl
    have hxw : d.w' q = ⟨x.1, x.2.1⟩ := by unfold Pn.w'; rw [hx]
    have hxf := hd.f x (List.mem_of_getElem? hx)
    have t1 := tb1 q (by omega)
    have t2 := tb2 q (by omega)
    have hn10 := hd.n10
    conv => whnf
    refine ⟨⟨by omega, by omega⟩, ?_⟩
    conv => whnf
    refine ⟨_, hv.fleece hxp, ?_⟩
    conv => whnf
    refine ⟨_, at_push_self _ _, ?_⟩
    conv => whnf
    generalize hH2 : TMap.set AB.dead (TMap.push AB.dead h _) _ _ = H2
    have d0 : Heap.at H2 0 = v.blk d.pr := by rw [← hH2]; exact (at_old _ _ _ hlt).trans h0
    have dN : Heap.at H2 N = .blk [.c (I (totF (fun i => (d.w' i).lo) a d.n)), .c (I (totF (fun i => (d.w' i).hi) a d.n))] := by rw [← hH2]; exact (at_old _ _ _ hNn).trans hN
    have d2 : Heap.at H2 h.n = .blk [.c (I x.1), .c (I x.2.1), .c (I (x.2.2 : Nat))] := by rw [← hH2]; exact at_new _ _ _
    have d3 : H2.n = h.n + 1 := by rw [← hH2, TMap.set_n, push_n]
    clear hH2
    refine ⟨by omega, _, shr_nat a q (by omega), ?_⟩
    conv => whnf
    refine ⟨_, and_nat (a := a >>> q) (b := 1) (by have := Nat.shiftRight_le a q; omega) (by omega), ?_⟩
    conv => whnf
    rw [bit_nat]
    have e1 : totF (fun i => (d.w' i).lo) a (q + 1) = if a.testBit q then totF (fun i => (d.w' i).lo) a q + x.1 else totF (fun i => (d.w' i).lo) a q := by rw [totF, hxw]
    have e2 : totF (fun i => (d.w' i).hi) a (q + 1) = if a.testBit q then totF (fun i => (d.w' i).hi) a q + x.2.1 else totF (fun i => (d.w' i).hi) a q := by rw [totF, hxw]
    cases hbit : a.testBit q
    · rw [hbit, if_neg (by simp)] at e1 e2
      conv => whnf
      refine ⟨((q + 1 : Nat) : Int), by rw [wrap_eq (by omega) (by omega)]; omega, ?_⟩
      conv => whnf
      exact ⟨d.n - (q + 1), by omega, q + 1, H2, by omega, rfl, d0, by omega, dN, by omega, rfl, ⟨rfl, rfl, rfl, rfl, by rw [e1]; rfl, by rw [e2]; rfl, rfl, rfl, rfl, trivial⟩, rfl, rfl, rfl, rfl⟩
    · rw [hbit, if_pos rfl] at e1 e2
      conv => whnf
      refine draw_by (hm := false) (by kernel_rfl) (by kernel_rfl) ?_
      conv => whnf
      refine ⟨_, d2, ?_⟩
      conv => whnf
      refine ⟨totF (fun i => (d.w' i).lo) a q + x.1, by rw [wrap_eq (by omega) (by omega)], ?_⟩
      conv => whnf
      refine ⟨_, d2, ?_⟩
      conv => whnf
      refine ⟨totF (fun i => (d.w' i).hi) a q + x.2.1, by rw [wrap_eq (by omega) (by omega)], ?_⟩
      conv => whnf
      refine ⟨by kernel_rfl, ?_⟩
      conv => whnf
      refine ⟨((q + 1 : Nat) : Int), by rw [wrap_eq (by omega) (by omega)]; omega, ?_⟩
      conv => whnf
      exact ⟨d.n - (q + 1), by omega, q + 1, H2, by omega, rfl, d0, by omega, dN, by omega, rfl, ⟨rfl, rfl, rfl, rfl, by rw [e1]; rfl, by rw [e2]; rfl, rfl, rfl, rfl, trivial⟩, rfl, rfl, rfl, rfl⟩
  clear g0 g1 gn G
  rintro st ⟨h, h0, hlt, hN, hNn, hs⟩
  have t1 := tb1 d.n (Nat.le_refl _)
  have t2 := tb2 d.n (Nat.le_refl _)
  refine hs.then ?_
  refine then_seq (hm := false) ?_
  refine draw_by (hm := false) (by kernel_rfl) (by kernel_rfl) ?_
  conv => whnf
  refine ⟨_, hN, ?_⟩
  conv => whnf
  refine .pure _ _ rfl (span37_ret _ _) ?_
  conv => whnf
  rw [span_neq (a := totF (fun i => (d.w' i).lo) a d.n) (b := totF (fun i => (d.w' i).hi) a d.n) (c := totF (fun i => (d.w' i).lo) a d.n) (e := totF (fun i => (d.w' i).hi) a d.n)]
  rotate_left
  rfl
  rfl
  rfl
  rw [show (!(decide (totF (fun i => (d.w' i).lo) a d.n = totF (fun i => (d.w' i).lo) a d.n) && decide (totF (fun i => (d.w' i).hi) a d.n = totF (fun i => (d.w' i).hi) a d.n))) = false by simp]
  conv => whnf
  refine ⟨by kernel_rfl, ?_⟩
  conv => whnf
  refine then_seq (hm := false) ?_
  conv => whnf
  cases ha0 : (((a : Nat) : Int) == 0)
  case true =>
    conv => whnf
    refine .ret (hal) rfl ?_
    conv => whnf
    exact .val
  have ha0 : a ≠ 0 := by rw [beq_eq_false_iff_ne] at ha0; omega
  conv => whnf
  refine ⟨_, h0, ?_⟩
  conv => whnf
  cases h4 : decide ((v.wn : Int) ≥ 4)
  case true =>
    conv => whnf
    refine .ret (hal) rfl ?_
    conv => whnf
    exact .val
  have h4 : d.wd.length < 4 := by have := of_decide_eq_false h4; omega
  conv => whnf
  have hTn := T_n hd ha
  have hfirst : ∀ rd, firstCells rd 3 (.c (.sl v.wc v.ow v.wn)) = some ((d.pr.wd.map rowF).flatten.map .c, d.wd.length, []) := fun rd => by
    have := SlOf.first hv.w (rowF_all _) rd
    rw [List.length_map, hwl] at this
    exact this
  have hapart : ∀ b ∈ d.wd, b.1 &&& a = 0 := fun b hb => by rw [hae]; exact loose_out s hb
  generalize totF (fun i => (d.w' i).lo) a d.n = TL at *
  generalize totF (fun i => (d.w' i).hi) a d.n = TH at *
  refine then_via (hm := false) (fun st => ∃ h : Heap, Has st 307 [] [] none h) ?_ ?_
  rotate_left
  · rintro st ⟨h, hs⟩
    refine hs.then ?_
    refine then_end (hm := false) ?_
    conv => whnf
    refine .ret (hal) rfl ?_
    conv => whnf
    exact .val
  conv => whnf
  refine ⟨_, hN, ?_⟩
  conv => whnf
  refine ⟨TL - 2, by rw [wrap_eq (by omega) (by omega)], ?_⟩
  conv => whnf
  refine loop_by (I := fun m st => ∃ (n : Int) (h : Heap), 1 ≤ n ∧ n ≤ 1001 ∧ m = (1001 - n).toNat ∧ Heap.at h 0 = v.blk d.pr ∧ 0 < h.n ∧ Heap.at h N = .blk [.c (I TL), .c (I TH)] ∧ N < h.n ∧ Has st 307 [(2, .ptr 0 0), (19, .c (I a)), (24, .ptr N 0), (30, .c (I n))] [] none h) ?_ (k := (1001 - max 1 (TL - 2)).toNat)
    ⟨max 1 (TL - 2), h, by omega, by omega, rfl, h0, hlt, hN, hNn, rfl, ⟨rfl, rfl, rfl, rfl, trivial⟩, rfl, rfl, rfl, rfl⟩
  clear h0 hlt hN hNn hs h
  rintro m st ⟨n, h, n1, n2, rfl, h0, hlt, hN, hNn, hs⟩
  refine (hs.then ?_).1
  refine then_seq (hm := false) ?_
  conv => whnf
  refine ⟨_, hN, ?_⟩
  conv => whnf
  refine ⟨TH + 2, by rw [wrap_eq (by omega) (by omega)], ?_⟩
  conv => whnf
  cases hcn : decide (n ≤ min 200 (TH + 2))
  · conv => whnf
    exact ⟨h, rfl, trivial, rfl, rfl, rfl, rfl⟩
  have hcn := of_decide_eq_true hcn
  conv => whnf
  refine then_left (then_block ?_)
  refine then_seq (hm := false) ?_
  conv => whnf
  refine ⟨_, h0, ?_⟩
  conv => whnf
  refine ⟨_, at_push_self _ _, ?_⟩
  conv => whnf
  generalize hG : TMap.set AB.dead (TMap.push AB.dead h _) _ _ = G
  have Gn : G.n = h.n + 1 := by rw [← hG]; exact new_n _ _ _
  have Gt : Heap.at G h.n = v.blk d.pr := by rw [← hG]; exact at_new _ _ _
  have G0 : Heap.at G 0 = v.blk d.pr := by rw [← hG]; exact (at_old _ _ _ hlt).trans h0
  have GN : Heap.at G N = .blk [.c (I TL), .c (I TH)] := by rw [← hG]; exact (at_old _ _ _ hNn).trans hN
  clear hG h0 hN
  obtain ⟨M, hM⟩ : ∃ M, M = h.n := ⟨_, rfl⟩
  rw [← hM] at Gn Gt hlt hNn ⊢
  clear hM hs h
  have hM0 : 0 < M := hlt
  have hMN : N < M := hNn
  refine then_seq (hm := false) ?_
  conv => whnf
  refine ⟨_, (at_push_lt _ _ (by omega)).trans G0, ?_⟩
  conv => whnf
  generalize hH : TMap.push AB.dead G _ = H
  have Hn : H.n = M + 2 := by rw [← hH, push_n, Gn]
  have H1 : Heap.at H (M + 1) = .blk [] := by rw [← hH, ← Gn]; exact at_push_self _ _
  have Ha : ∀ i, i ≤ M → Heap.at H i = Heap.at G i := fun i hi => by rw [← hH]; exact at_push_lt _ _ (by omega)
  clear hH
  rw [Gn]
  obtain ⟨r, p, hr, hval, hp1, hp2, hp3, hpb, hlow⟩ := own_copy U23 S56 hv.w (show v.wn = d.pr.wd.length by omega) (by omega) H1 (by omega)
  obtain ⟨K, hK⟩ : ∃ K, K = after H r := ⟨_, rfl⟩
  rw [← hK] at hp2 hp3 hpb hlow
  obtain ⟨rv, rreads, rupds, rfresh⟩ := r
  simp only at hval
  subst hval
  refine ⟨_, hr, ?_⟩
  conv => whnf
  rw [show TMap.app AB.dead (Heap.upd H rupds) rfresh.toList = K from hK.symm]
  have K0 : Heap.at K 0 = v.blk d.pr := (hlow 0 (by omega)).trans ((Ha 0 (by omega)).trans G0)
  have KN : Heap.at K N = .blk [.c (I TL), .c (I TH)] := (hlow N (by omega)).trans ((Ha N (by omega)).trans GN)
  have KM : Heap.at K M = v.blk d.pr := (hlow M (by omega)).trans ((Ha M (by omega)).trans Gt)
  clear hK hr hlow Ha H1 G0 GN Gt
  refine .ret (weighed38_ret _ _ _) rfl ?_
  conv => whnf
  obtain ⟨r, hr, hval, An, Ab, hlow⟩ := own_add U23 S56 (l := d.pr.wd) (by omega) hp2 hpb (((a : Nat) : Int), n, n)
  obtain ⟨A, hA⟩ : ∃ A, A = after (K.push .dead (.blk [.c (I ((a : Nat) : Int)), .c (I n), .c (I n)])) r := ⟨_, rfl⟩
  rw [← hA] at An Ab hlow
  obtain ⟨rv, rreads, rupds, rfresh⟩ := r
  simp only at hval
  subst hval
  rw [push_n]
  refine ⟨_, hr, ?_⟩
  conv => whnf
  rw [show TMap.app AB.dead (Heap.upd _ rupds) rfresh.toList = A from hA.symm]
  have A0 : Heap.at A 0 = v.blk d.pr := (hlow 0 (by omega)).trans K0
  have AN : Heap.at A N = .blk [.c (I TL), .c (I TH)] := (hlow N (by omega)).trans KN
  have AM : Heap.at A M = v.blk d.pr := (hlow M (by omega)).trans KM
  have hKn : K.n ≥ M + 2 := by omega
  clear hA hr hlow K0 KN KM hpb
  refine ⟨_, AM, ?_⟩
  conv => whnf
  generalize hB : TMap.set AB.dead A M _ = B
  have Bn : B.n = K.n + 2 := by rw [← hB, TMap.set_n, An]
  have B0 : Heap.at B 0 = v.blk d.pr := by rw [← hB]; exact (at_set_ne _ _ (by omega)).trans A0
  have BN : Heap.at B N = .blk [.c (I TL), .c (I TH)] := by rw [← hB]; exact (at_set_ne _ _ (by omega)).trans AN
  have Bb : Heap.at B (K.n + 1) = .blk (rowsC (oneMore d a n).pr.wd) := by
    rw [← hB, show (oneMore d a n).pr.wd = d.pr.wd ++ [(((a : Nat) : Int), n, n)] by unfold oneMore Pn.pr; rw [List.map_append]; rfl]
    exact (at_set_ne _ _ (by omega)).trans Ab
  have BM : Heap.at B M = .blk [.c (.sl v.fc v.fo v.fn), .c (I d.pr.low), .c (I d.pr.top), .c (I d.pr.bales), .msl (K.n + 1) 3 0 (d.pr.wd.length + 1) (d.pr.wd.length + 1)] := by rw [← hB]; exact at_set_self _ _ (by omega)
  clear hB A0 AN AM Ab An
  have hoB : K.n + 1 < B.n := by omega
  generalize K.n + 1 = o at BM Bb hoB
  have hmg := more_good hd h4 ha ha0 hapart n1 (show n ≤ 200 by omega)
  have hmok := ok_of_good hmg
  have hml : (oneMore d a n).pr.wd.length = d.pr.wd.length + 1 := by unfold oneMore Pn.pr; rw [List.map_append, List.length_append]; rfl
  have hmis : (v.own (oneMore d a n).pr.wd).Is (oneMore d a n).pr := own_is (c := d.pr) hv rfl (by rw [hml]; omega)
  have hWn := weightX_ret hmis hmg hmok (s := a) ha
  have hFn := falseX_ret hmis hmg hmok
  have hcm := more_can hd hc h4 ha ha0 hapart n1 (show n ≤ 200 by omega)
  have hwm := more_weigh hd h4 ha ha0 hapart n1 (show n ≤ 200 by omega)
  rw [hTn] at hcm
  dsimp only at hcm
  have hwE : wrE (oneMore d a n) = if canP (oneMore d a n) then 4 else 0 := by
    unfold wrE
    by_cases hz : wrongN (oneMore d a n) = 0
    · rw [if_pos hz, if_pos (wrong_can.1 hz)]
    · rw [if_neg hz, if_neg fun e => hz (wrong_can.2 e)]
  generalize wrongN (oneMore d a n) = wr at hFn
  have hins := inside_ret n TL TH
  rw [← hcm] at hins
  have hcase : (canP (oneMore d a n) = true ∧ eOf (oneMore d a n) = 0 ∧ wrE (oneMore d a n) = 4 ∧ wOf (oneMore d a n) a = ⟨n, n⟩) ∨ (canP (oneMore d a n) = false ∧ eOf (oneMore d a n) = 10 ∧ wrE (oneMore d a n) = 0) := by
    unfold eOf wOf
    rw [hwE]
    cases hq : canP (oneMore d a n)
    · exact .inr ⟨rfl, rfl, rfl⟩
    · exact .inl ⟨rfl, rfl, rfl, hwm hq⟩
  clear hwm hwE hcm
  generalize eOf (oneMore d a n) = e' at hWn hcase
  generalize wrE (oneMore d a n) = f' at hFn hcase
  generalize wOf (oneMore d a n) a = W at hWn hcase
  generalize canP (oneMore d a n) = q at hins hcase
  refine then_seq (hm := false) ?_
  conv => whnf
  refine ⟨_, BM, ?_⟩
  conv => whnf
  refine pr_call Bb hml.symm hWn rfl ?_
  conv => whnf
  refine ⟨_, at_push_self _ _, ?_⟩
  conv => whnf
  generalize hC : TMap.set AB.dead (TMap.push AB.dead B _) _ _ = C
  have C0 : Heap.at C 0 = v.blk d.pr := by rw [← hC]; exact (at_old _ _ _ (by omega)).trans B0
  have CN : Heap.at C N = .blk [.c (I TL), .c (I TH)] := by rw [← hC]; exact (at_old _ _ _ (by omega)).trans BN
  have CM := (congrArg (Heap.at · M) hC.symm).trans ((at_old _ _ _ (by omega)).trans BM)
  have Cb : Heap.at C o = .blk (rowsC (oneMore d a n).pr.wd) := by rw [← hC]; exact (at_old _ _ _ (by omega)).trans Bb
  have CW : Heap.at C B.n = .blk [.c (I W.lo), .c (I W.hi)] := by rw [← hC]; exact at_new _ _ _
  have Cn : 0 < C.n ∧ N < C.n := by rw [← hC, TMap.set_n, push_n]; omega
  clear hC B0 BN BM Bb hWn
  generalize B.n = bn at CW
  refine then_seq (hm := false) ?_
  conv => whnf
  refine ⟨_, CM, ?_⟩
  conv => whnf
  refine pr_call1 Cb hml.symm hFn rfl ?_
  conv => whnf
  clear CM Cb hFn hoB
  refine then_via (hm := false) (fun st => ∃ h : Heap, Heap.at h 0 = v.blk d.pr ∧ 0 < h.n ∧ Heap.at h N = .blk [.c (I TL), .c (I TH)] ∧ N < h.n ∧ Has st 307 [(2, .ptr 0 0), (19, .c (I a)), (24, .ptr N 0), (30, .c (I n)), (305, .c (Go.Ag.B false))] [] none h) ?_ ?_
  · skip
    rcases hcase with ⟨rfl, rfl, rfl, rfl⟩ | ⟨rfl, rfl, rfl⟩
    · refine draw_by (hm := false) (by kernel_rfl) (by kernel_rfl) ?_
      conv => whnf
      refine ⟨_, CN, ?_⟩
      conv => whnf
      refine .pure _ _ rfl (hins) ?_
      conv => whnf
      refine ⟨_, CN, ?_⟩
      conv => whnf
      refine .pure _ _ rfl (hins) ?_
      conv => whnf
      refine ⟨_, CW, ?_⟩
      conv => whnf
      refine .pure _ _ rfl (span37_ret _ _) ?_
      conv => whnf
      rw [span_neq (a := n) (b := n) (c := n) (e := n)]
      rotate_left
      rfl
      rfl
      rfl
      rw [show (!(decide (n = n) && decide (n = n))) = false by simp]
      conv => whnf
      refine ⟨by kernel_rfl, ?_⟩
      conv => whnf
      exact ⟨C, C0, Cn.1, CN, Cn.2, rfl, ⟨rfl, rfl, rfl, rfl, rfl, trivial⟩, rfl, rfl, rfl, rfl⟩
    · refine draw_by (hm := false) (by kernel_rfl) (by kernel_rfl) ?_
      conv => whnf
      refine ⟨_, CN, ?_⟩
      conv => whnf
      refine .pure _ _ rfl (hins) ?_
      conv => whnf
      refine ⟨_, CN, ?_⟩
      conv => whnf
      refine .pure _ _ rfl (hins) ?_
      conv => whnf
      refine ⟨by kernel_rfl, ?_⟩
      conv => whnf
      exact ⟨C, C0, Cn.1, CN, Cn.2, rfl, ⟨rfl, rfl, rfl, rfl, rfl, trivial⟩, rfl, rfl, rfl, rfl⟩
  rintro st ⟨h, h0, hlt, hN, hNn, hs⟩
  refine hs.then ?_
  refine then_end (hm := false) ?_
  conv => whnf
  refine then_end (hm := false) ?_
  conv => whnf
  refine ⟨n + 1, by rw [wrap_eq (by omega) (by omega)], ?_⟩
  conv => whnf
  exact ⟨(1001 - (n + 1)).toNat, by omega, n + 1, h, by omega, by omega, rfl, h0, hlt, hN, hNn, rfl, ⟨rfl, rfl, rfl, rfl, trivial⟩, rfl, rfl, rfl, rfl⟩
theorem endsLaw_any {v : PV} {c : Pr} (h : v.IsL c) {n1 : Int} (h1 : (Lit.int .u16 n1).wf = true) : Ret Tryz.prog 6 [v.cv c, .lit (.int .u16 n1)] (B true) := by
  rcases IsL.cases h with hs | hs
  · cases hf : farB c
    · cases hok : okPr c
      · exact endsLaw_bad hs hf hok _
      · obtain ⟨d, rfl, hd⟩ := good_of hok
        obtain ⟨w1, rfl, hw1⟩ := law_u16 h1
        cases hc : canP d
        · exact endsLaw_clash hs hd hok hf hc _
        · exact endsLaw_ok hs hd hok hf hc hw1
    · exact endsLaw_far h hf _
  · exact endsLaw_far h hs _
end Go.Ag
