/- Contracts of functions of layer 6: mistakes, clashes, proofs, more; what the exported functions but one return. No conditions. -/
import Derived.Test.YtgidjimpobeahaaClB
/- Layer 6: how many looks were mistaken. -/
namespace Go.Ag
open Go.Proofs
set_option maxRecDepth 100000

set_option maxHeartbeats 1000000 in
theorem mistaken_ret {v : LV} {c : Ln} (hv : v.Is c) (hd : c.Good) {m : Nat} {h : Heap} (hm : m < h.n) (hI : KMap c false (Heap.at h m)) :
    ∃ e h', CallOk Try.prog 44 [knAV v c false m] h .no e h' .no ∧ (e = .ret (.c (I (mistN c : Nat))) ∧ Foot (fun i => i = m) h h' ∧ KMap c false (Heap.at h' m)) := by
  have hn1 := hd.n1
  obtain ⟨D, hD⟩ := arr_ex (thrF c false 0)
  refine call_by (hm := false) Try.func44 rfl ?_
  conv => whnf
  generalize hH : TMap.push AB.dead h _ = H
  have Hn : H.n = h.n + 1 := by rw [← hH]; rfl
  have b0 : Heap.at H h.n = knBlk v c false m := by rw [← hH]; exact at_push_self _ _
  have f0 : Foot (fun i => i = m) h H := by rw [← hH]; exact (Foot.refl _ _).push _
  have i0 : KMap c false (Heap.at H m) := kMap_eq (by rw [← hH]; exact at_push_lt _ _ hm) hI
  clear hH
  obtain ⟨e1, H1, hc1, rfl, f1, i1⟩ := through_ret hv hd false (i := 0) (by omega) (h := H) (show m < H.n by omega) i0 hD
  have n1 := f1.n
  obtain ⟨e2, H2, hc2, he2, f2, i2⟩ := first_can (D := D) (err := 4) (ft_iter (lo := 0) (hi := 180) (by omega) (by omega)) (p := fun y => decide (minTo (thrF c false 0) 30 ≤ (y : Nat))) (h := H1) (show m < H1.n by omega) i1
    (fun y hy h1 ff j1 => ⟨_, h1, ret_at (args := [.agg D, I (y : Nat)]) (can_ret hD (y : Nat)) h1, rfl, Foot.refl _ _, j1⟩)
  rw [mist_find hd] at he2
  refine mixed_by (hm := false) (by kernel_rfl) (by kernel_rfl) ?_
  conv => whnf
  refine .ret _ _ (fromTo_ret 0 180) rfl ?_
  conv => whnf
  refine ⟨_, b0, ?_⟩
  conv => whnf
  refine .heavy _ H1 (.inl hc1) ?_
  conv => whnf
  refine .heavy _ H2 (.inl hc2) ?_
  subst he2
  conv => whnf
  refine ⟨by kernel_rfl, heaps_nil (by kernel_rfl), ?_⟩
  conv => whnf
  exact ⟨rfl, f0.trans (f1.trans f2), i2⟩
end Go.Ag
/- Layer 6: what clashes; which bale proves it; whether the line is kept. -/
namespace Go.Ag
open Go.Proofs
set_option maxRecDepth 100000

theorem suits_clash {v : LV} {c : Ln} (hv : v.Is c) (hd : c.Good) {s : Nat} (hs : s < 64) {m a : Nat} {h : Heap} (hm : m < h.n) (ha : Heap.at h a = knBlk v c false m) (hI : KMap c false (Heap.at h m)) :
    ∃ e h', CallOk Try.prog 61 [.c (I s), .ptr a 0] h .no e h' .no ∧ (e = .ret (.c (B (!possB c false s))) ∧ Foot (fun i => i = m) h h' ∧ KMap c false (Heap.at h' m)) := by
  refine call_by (hm := false) Try.func61 rfl ?_
  conv => whnf
  refine ⟨_, ha, ?_⟩
  conv => whnf
  obtain ⟨e2, h2, hc2, rfl, f2, i2⟩ := possible_ret hv hd false (s := s) (by omega) hm hI
  refine .inl _ h2 .no hc2 ?_
  conv => whnf
  cases hb : possB c false s
  · conv => whnf
    exact ⟨rfl, f2, i2⟩
  · conv => whnf
    exact ⟨rfl, f2, i2⟩
/-- The first of the smallest sets that clash. -/
def clashS (c : Ln) : Option Nat := (bySize c.bales.length).find? fun s => !possB c false s
theorem clashing_ret {v : LV} {c : Ln} (hv : v.Is c) (hd : c.Good) {m : Nat} {h : Heap} (hm : m < h.n) (hI : KMap c false (Heap.at h m)) :
    ∃ e h', CallOk Try.prog 38 [knAV v c false m] h .no e h' .no ∧ (e = firstC 4 (clashS c) ∧ Foot (fun i => i = m) h h' ∧ KMap c false (Heap.at h' m)) := by
  have e1 := hv.sn
  have n6 := hd.n6
  refine call_by (hm := false) Try.func38 rfl ?_
  conv => whnf
  generalize hH : TMap.push AB.dead h _ = H
  have h0n : H.n = h.n + 1 := by rw [← hH]; rfl
  have b0 : Heap.at H h.n = knBlk v c false m := by rw [← hH]; exact at_push_self _ _
  have f0 : Foot (fun i => i = m) h H := by rw [← hH]; exact (Foot.refl _ _).push _
  have i0 : KMap c false (Heap.at H m) := kMap_eq (by rw [← hH]; exact at_push_lt _ _ hm) hI
  clear hH
  obtain ⟨e2, h2, hc2, he2, f2, i2⟩ := first_clash (a := h.n) (err := 4) (bySize_iter (m := c.bales.length) n6) (p := fun s => !possB c false s) (h := H) (show m < H.n by omega) i0 (fun y hy h1 f1 j1 => suits_clash hv hd (by
    have := (mem_bySize.1 hy).1
    have := pow_b n6
    omega) (by have := f1.n; omega) ((f1.keep _ (by omega) (by omega)).trans b0) j1)
  rw [show ((bySize c.bales.length).find? fun s => !possB c false s) = clashS c from rfl] at he2
  refine ⟨_, b0, ?_⟩
  conv => whnf
  refine .ret (bySize_ret v.sn) rfl ?_
  conv => whnf
  rw [e1]
  refine .inl _ h2 .no hc2 ?_
  conv => whnf
  subst he2
  cases hf : clashS c with
  | none =>
    conv => whnf
    exact ⟨rfl, f0.trans f2, i2⟩
  | some y =>
    conv => whnf
    exact ⟨rfl, f0.trans f2, i2⟩
/-! Which bale proves it. -/
def provP (c : Ln) (i : Nat) : Bool := (nums (thrF c false i) c.mist 0).all fun w => !decide ((w : Int) ≤ c.may)
def provN (c : Ln) : Option Nat := (List.range c.bales.length).find? (provP c)
theorem provN_some {c : Ln} {q : Nat} (hq : q < c.bales.length) (h0 : ∀ j, j < q → provP c j = false) (h1 : provP c q = true) : provN c = some q := by
  unfold provN
  rw [List.range_eq_range']
  exact find_least h1 h0 _ _ (by omega) (by omega)
theorem provN_none {c : Ln} (h0 : ∀ j, j < c.bales.length → provP c j = false) : provN c = none := by
  unfold provN
  rw [List.find?_eq_none]
  intro x hx
  rw [h0 x (List.mem_range.1 hx)]; simp
set_option maxHeartbeats 2000000 in
theorem proof_ret {v : LV} {c : Ln} (hv : v.Is c) (hd : c.Good) {m : Nat} {h : Heap} (hm : m < h.n) (hI : KMap c false (Heap.at h m)) :
    ∃ e h', CallOk Try.prog 43 [knAV v c false m] h .no e h' .no ∧ (e = firstC 4 (provN c) ∧ Foot (fun i => i = m) h h' ∧ KMap c false (Heap.at h' m)) := by
  have e1 := hv.sn
  have n6 := hd.n6
  refine call_by (hm := false) Try.func43 rfl ?_
  conv => whnf
  generalize hH : TMap.push AB.dead h _ = H
  obtain ⟨N, hN⟩ : ∃ N, N = h.n := ⟨_, rfl⟩
  have h0n : H.n = N + 1 := by rw [← hH, hN]; rfl
  have b0 : Heap.at H N = knBlk v c false m := by rw [← hH, hN]; exact at_push_self _ _
  have f0 : Foot (fun i => i = m) h H := by rw [← hH]; exact (Foot.refl _ _).push _
  have i0 : KMap c false (Heap.at H m) := kMap_eq (by rw [← hH]; exact at_push_lt _ _ hm) hI
  clear hH
  rw [← hN] at hm
  rw [← hN]
  refine ⟨_, b0, ?_⟩
  conv => whnf
  refine loop_by (I := fun n st => ∃ (q : Nat) (g : Heap) (l : List Nat), q ≤ c.bales.length ∧ n = c.bales.length - q ∧ (∀ j, j < q → provP c j = false) ∧ Heap.at g N = knBlk v c false m ∧ N + 1 ≤ g.n ∧ Foot (fun i => i = m) h g ∧ KMap c false (Heap.at g m) ∧ Colls (N + 1) l g ∧
    Has st 28 [(1, .ptr N 0), (8, .c (I (v.sn : Nat))), (9, .c (I q))] (l.map .coll) none g) ?_ (k := c.bales.length)
    ⟨0, _, [], Nat.zero_le _, rfl, by omega, b0, by omega, f0, i0, Colls.nil _ _, rfl, ⟨rfl, rfl, rfl, trivial⟩, rfl, rfl, rfl, rfl⟩
  rintro n st ⟨q, g, l, hq, rfl, hno, g0, gn, gf, gi, gc, hs1⟩
  refine hs1.run (hm := false) ?_
  conv => whnf
  cases hc : decide ((q : Int) < (v.sn : Int))
  case false =>
    have hqn : q = c.bales.length := by simp at hc; omega
    rw [provN_none (fun j hj => hno j (by omega))]
    conv => whnf
    refine Colls.run (b := N + 1) gc (fun h' f => ?_)
    conv => whnf
    exact ⟨rfl, gf.trans_up f (by omega), kMap_eq (f.keep m (show m < g.n by omega) (by omega)) gi⟩
  have hq : q < c.bales.length := by simp at hc; omega
  obtain ⟨D, hD⟩ := arr_ex (thrF c false q)
  obtain ⟨e2, H2, hc2, rfl, f2, i2⟩ := through_ret hv hd false hq (h := g) (show m < g.n by omega) gi hD
  have n2 := f2.n
  have k0 := (f2.keep N (by omega) (by omega)).trans g0
  have kc : Colls (N + 1) l H2 := gc.foot f2 (fun i _ _ _ => by omega)
  conv => whnf
  refine mixed_by (hm := false) (by kernel_rfl) (by kernel_rfl) ?_
  conv => whnf
  refine ⟨_, g0, ?_⟩
  conv => whnf
  refine .heavy _ H2 (.inl hc2) ?_
  conv => whnf
  refine ⟨_, k0, ?_⟩
  conv => whnf
  refine .ret _ _ (numbers_ret hD c.mist) rfl ?_
  conv => whnf
  refine ⟨by kernel_rfl, ?_, ?_⟩
  · exact heaps_eq (l' := [(N, g, H2)]) (by kernel_rfl) (heaps_cons (f2.keep _ (by omega) (by omega)) (by simp [HeapsOk]))
  conv => whnf
  refine range_n (hm := false) H2.n rfl rfl (nums_iter hD c.mist)
    (I := fun ys h1 => ∃ done rest, ys = oneL rest ∧ nums (thrF c false q) c.mist 0 = done ++ rest ∧ (∀ w ∈ done, decide ((w : Int) ≤ c.may) = false) ∧ Heap.at h1 N = knBlk v c false m ∧ Foot none' H2 h1)
    (E := fun e h1 => e = .exit 1 ∧ provP c q = false ∧ Heap.at h1 N = knBlk v c false m ∧ Foot none' H2 h1) (X := fun _ _ => False) ?_ ?_ ?_ ?_ ?_ ?_ ?_
  · rintro ys h1 h2 ⟨done, rest, x1, x2, x3, x4, x5⟩ hn ff
    exact ⟨done, rest, x1, x2, x3, (ff.keep _ (by omega) (by omega)).trans x4, x5.trans_up ff (Nat.le_refl _)⟩
  · rintro e h1 h2 ⟨x1, x2, x4, x5⟩ hn ff
    exact ⟨x1, x2, (ff.keep _ (by omega) (by omega)).trans x4, x5.trans_up ff (Nat.le_refl _)⟩
  · exact ⟨[], _, rfl, rfl, by simp, k0, Foot.refl _ _⟩
  · rintro y ys h1 hn ⟨done, rest, x1, x2, x3, x4, x5⟩
    cases rest with
    | nil => cases x1
    | cons w rest =>
    obtain ⟨rfl, rfl⟩ := List.cons.inj x1
    conv => whnf
    refine ⟨rfl, fun hb fb hbn => ?_⟩
    have c0 := (fb.keep N (by omega) (by omega)).trans x4
    have c5 : Foot none' H2 hb := x5.trans_up (N := H2.n) (fb.mono fun i _ hi => by omega) (Nat.le_refl _)
    conv => whnf
    refine ⟨_, c0, ?_⟩
    conv => whnf
    cases hw : decide ((w : Int) ≤ c.may)
    · conv => whnf
      exact ⟨Foot.refl _ _, done ++ [w], rest, rfl, by rw [x2]; simp, fun z hz => by
        rcases List.mem_append.1 hz with hz | hz
        · exact x3 z hz
        · rw [List.mem_singleton] at hz; rw [hz]; exact hw, c0, c5⟩
    · conv => whnf
      refine ⟨Foot.refl _ _, rfl, ?_, c0, c5⟩
      unfold provP
      rw [List.all_eq_false]
      exact ⟨w, by rw [x2]; simp, by rw [hw]; simp⟩
  · rintro h1 hn hc1 ⟨done, rest, x1, x2, x3, x4, x5⟩
    have : rest = [] := by cases rest with | nil => rfl | cons a l => cases x1
    subst this
    rw [List.append_nil] at x2
    have hyes : provP c q = true := by
      unfold provP
      rw [List.all_eq_true]
      intro w hw
      rw [x2] at hw
      rw [x3 w hw]; rfl
    rw [provN_some hq hno hyes]
    have kc1 : Colls (N + 1) (H2.n :: l) h1 := kc.cons (x5.mono fun i _ hi => hi.elim) (Nat.le_refl _) (by omega) (by omega) hc1
    conv => whnf
    refine Colls.run (b := N + 1) kc1 (fun h' f => ?_)
    conv => whnf
    have n5 := x5.n
    exact ⟨rfl, (gf.trans (f2.trans (x5.mono fun i _ hi => hi.elim))).trans_up f (by omega), kMap_eq ((f.keep m (show m < h1.n by omega) (by omega)).trans (x5.keep m (by omega) (fun x => x))) i2⟩
  · rintro e h1 hn hc1 ⟨rfl, x2, x4, x5⟩ _
    have kc1 : Colls (N + 1) (H2.n :: l) h1 := kc.cons (x5.mono fun i _ hi => hi.elim) (Nat.le_refl _) (by omega) (by omega) hc1
    have n5 := x5.n
    conv => whnf
    refine ⟨((q + 1 : Nat) : Int), by rw [wrap_eq (by omega) (by omega)]; omega, ?_⟩
    conv => whnf
    exact ⟨c.bales.length - (q + 1), by omega, q + 1, h1, H2.n :: l, by omega, rfl, fun j hj => by
      by_cases h : j < q
      · exact hno j h
      · rw [show j = q by omega]; exact x2, x4, by omega, gf.trans (f2.trans (x5.mono fun i _ hi => hi.elim)), kMap_eq (x5.keep m (by omega) (fun x => x)) i2, kc1, rfl, ⟨rfl, rfl, rfl, trivial⟩, rfl, rfl, rfl, rfl⟩
  · rintro x h1 _ _ hx
    exact hx.elim
/-! Whether the line is kept. -/
def keepsN (f : Co) (c : Ln) : Int := sureN (decide ((spanF f c.mist).2 ≤ c.may)) (decide ((spanF f c.mist).1 ≤ c.may))
def keptA (c : Ln) (q : Nat) : Bool := (List.range q).all fun i => keepsN (thrF c false i) c == 2
def keptE (c : Ln) : Bool := decide ((spanF (thrF c true 0) c.mist).1 ≤ c.may)
def keptN (c : Ln) : Int := sureN (keptA c c.bales.length) (keptE c)
theorem keptA_succ (c : Ln) (q : Nat) : keptA c (q + 1) = (keptA c q && keepsN (thrF c false q) c == 2) := by
  unfold keptA; rw [List.range_succ, List.all_append]; simp
set_option maxHeartbeats 2000000 in
theorem kept_ret {v : LV} {c : Ln} (hv : v.Is c) (hd : c.Good) {m : Nat} {h : Heap} (hm : m < h.n) (hI : KMap c false (Heap.at h m)) :
    ∃ e h', CallOk Try.prog 42 [knAV v c false m] h .no e h' .no ∧ (e = .ret (.c (I (keptN c))) ∧ Foot (fun i => i = m) h h' ∧ KMap c false (Heap.at h' m)) := by
  have e1 := hv.sn
  have n6 := hd.n6
  have hn1 := hd.n1
  refine call_by (hm := false) Try.func42 rfl ?_
  conv => whnf
  generalize hH : TMap.push AB.dead h _ = H
  obtain ⟨N, hN⟩ : ∃ N, N = h.n := ⟨_, rfl⟩
  have h0n : H.n = N + 1 := by rw [← hH, hN]; rfl
  have b0 : Heap.at H N = knBlk v c false m := by rw [← hH, hN]; exact at_push_self _ _
  have f0 : Foot (fun i => i = m) h H := by rw [← hH]; exact (Foot.refl _ _).push _
  have i0 : KMap c false (Heap.at H m) := kMap_eq (by rw [← hH]; exact at_push_lt _ _ hm) hI
  clear hH
  rw [← hN] at hm
  rw [← hN]
  refine ⟨_, b0, ?_⟩
  conv => whnf
  refine loop_by (I := fun n st => ∃ (q : Nat) (g : Heap), q ≤ c.bales.length ∧ n = c.bales.length - q ∧ Heap.at g N = knBlk v c false m ∧ N + 1 ≤ g.n ∧ Foot (fun i => i = m) h g ∧ KMap c false (Heap.at g m) ∧
    Has st 38 [(1, .ptr N 0), (3, .c (B (keptA c q))), (9, .c (I (v.sn : Nat))), (10, .c (I q))] [] none g) ?_ (k := c.bales.length)
    ⟨0, _, Nat.zero_le _, rfl, b0, by omega, f0, i0, rfl, ⟨rfl, rfl, rfl, rfl, trivial⟩, rfl, rfl, rfl, rfl⟩
  rintro n st ⟨q, g, hq, rfl, g0, gn, gf, gi, hs1⟩
  refine hs1.run (hm := false) ?_
  conv => whnf
  cases hc : decide ((q : Int) < (v.sn : Int))
  case false =>
    have hqn : q = c.bales.length := by simp at hc; omega
    subst hqn
    obtain ⟨e3, H3, hc3, m3, rfl, m3a, m3b, i3, f3⟩ := keeping_ret v c false m g
    obtain ⟨D, hD⟩ := arr_ex (thrF c true 0)
    obtain ⟨e4, H4, hc4, rfl, f4, i4⟩ := through_ret hv hd true (i := 0) (by omega) (h := H3) m3b i3 hD
    have n3 := f3.n
    have n4 := f4.n
    have k3 := (f3.keep N (by omega) (fun x => x)).trans g0
    have k4 := (f4.keep N (by omega) (by omega)).trans k3
    conv => whnf
    refine mixed_by (hm := false) (by kernel_rfl) (by kernel_rfl) ?_
    conv => whnf
    refine ⟨_, g0, ?_⟩
    conv => whnf
    refine .heavy _ H3 (.inl hc3) ?_
    conv => whnf
    refine .heavy _ H4 (.inl hc4) ?_
    conv => whnf
    refine ⟨_, k4, ?_⟩
    conv => whnf
    refine .ret _ _ (span_ret hD v c) rfl ?_
    conv => whnf
    refine ⟨_, k4, ?_⟩
    conv => whnf
    refine ⟨by kernel_rfl, ?_, ?_⟩
    · exact heaps_eq (l' := [(N, g, H3), (N, g, H3), (N, H3, H4), (N, H3, H4)]) (by kernel_rfl) (heaps_cons (f3.keep _ (by omega) (fun x => x)) (heaps_cons (f3.keep _ (by omega) (fun x => x)) (heaps_cons (f4.keep _ (by omega) (by omega)) (heaps_cons (f4.keep _ (by omega) (by omega)) (by simp [HeapsOk])))))
    conv => whnf
    refine .ret (howSure_ret (keptA c c.bales.length) (keptE c)) rfl ?_
    conv => whnf
    exact ⟨rfl, (gf.trans (f3.mono fun i _ hi => hi.elim)).trans_up (N := h.n) (f4.mono fun i _ hi => by omega) (Nat.le_refl _), kMap_eq ((f4.keep m (by omega) (by omega)).trans (f3.keep m (by omega) (fun x => x))) gi⟩
  have hq : q < c.bales.length := by simp at hc; omega
  obtain ⟨D, hD⟩ := arr_ex (thrF c false q)
  obtain ⟨e2, H2, hc2, rfl, f2, i2⟩ := through_ret hv hd false hq (h := g) (show m < g.n by omega) gi hD
  have n2 := f2.n
  have k0 := (f2.keep N (by omega) (by omega)).trans g0
  have hks := keeps_ret hD v c
  have hsucc := keptA_succ c q
  cases hb : keptA c q
  · rw [hb, Bool.false_and] at hsucc
    conv => whnf
    refine mixed_by (hm := false) (by kernel_rfl) (by kernel_rfl) ?_
    conv => whnf
    refine ⟨by kernel_rfl, heaps_nil (by kernel_rfl), ?_⟩
    conv => whnf
    refine ⟨((q + 1 : Nat) : Int), by rw [wrap_eq (by omega) (by omega)]; omega, ?_⟩
    conv => whnf
    exact ⟨c.bales.length - (q + 1), by omega, q + 1, g, by omega, rfl, g0, gn, gf, gi, rfl, ⟨rfl, by rw [hsucc]; rfl, rfl, rfl, trivial⟩, rfl, rfl, rfl, rfl⟩
  · rw [hb, Bool.true_and] at hsucc
    conv => whnf
    refine mixed_by (hm := false) (by kernel_rfl) (by kernel_rfl) ?_
    conv => whnf
    refine ⟨_, g0, ?_⟩
    conv => whnf
    refine .heavy _ H2 (.inl hc2) ?_
    conv => whnf
    refine ⟨_, k0, ?_⟩
    conv => whnf
    refine .ret _ _ (hks) rfl ?_
    conv => whnf
    refine ⟨by kernel_rfl, ?_, ?_⟩
    · exact heaps_eq (l' := [(N, g, H2)]) (by kernel_rfl) (heaps_cons (f2.keep _ (by omega) (by omega)) (by simp [HeapsOk]))
    conv => whnf
    refine ⟨((q + 1 : Nat) : Int), by rw [wrap_eq (by omega) (by omega)]; omega, ?_⟩
    conv => whnf
    exact ⟨c.bales.length - (q + 1), by omega, q + 1, H2, by omega, rfl, k0, by omega, gf.trans f2, i2, rfl, ⟨rfl, by rw [hsucc]; rfl, rfl, rfl, trivial⟩, rfl, rfl, rfl, rfl⟩
end Go.Ag
/- Layer 6: if more fleeces were looked at. -/
namespace Go.Ag
open Go.Proofs
set_option maxRecDepth 100000

theorem SlOf.first {sz : Nat} {rows : List (List CV)} {cells : List CV} {off len : Nat} (h : SlOf sz rows cells off len) (hsz : ∀ r ∈ rows, r.length = sz) (rd : Nat → AB) : firstCells rd sz (.c (.sl cells off len)) = some (rows.flatten.map .c, rows.length, []) := by
  have key : ∀ (rows : List (List CV)) (off : Nat), (∀ r ∈ rows, r.length = sz) → (∀ i (r : List CV), rows[i]? = some r → sliceOf cells (off + i * sz) sz = some r) → sliceOf cells off (rows.length * sz) = some rows.flatten := by
    intro rows
    induction rows with
    | nil => intro off _ _; simp [sliceOf]
    | cons r rows ih =>
      intro off hs hr
      have h0 := hr 0 r rfl
      rw [Nat.zero_mul, Nat.add_zero] at h0
      have h1 := ih (off + sz) (fun r hr => hs r (by simp [hr])) (fun i r hir => by
        have := hr (i + 1) r (by simpa using hir)
        rw [Nat.add_mul, Nat.one_mul] at this
        rw [show off + sz + i * sz = off + (i * sz + sz) by omega]
        exact this)
      unfold sliceOf at h0 h1 ⊢
      dsimp only at h0 h1 ⊢
      split at h0
      · split at h1
        · simp only [Option.some.injEq] at h0 h1
          have e : List.take ((r :: rows).length * sz) (List.drop off cells) = (r :: rows).flatten := by
            rw [List.length_cons, Nat.add_mul, Nat.one_mul, Nat.add_comm, List.take_add, List.drop_drop, h0, h1, List.flatten_cons]
          rw [e, if_pos]
          rw [List.flatten_cons, List.length_append, ← h1]
          rename_i q1 q2
          rw [q2, hs r (by simp), List.length_cons, Nat.add_mul]
          omega
        · cases h1
      · cases h0
  have := key rows off hsz h.row
  simp only [firstCells]
  rw [h.len, this]
  rfl
theorem U22 : Try.prog.underlying 22 = some (.slice 43) := by kernel_rfl
theorem S43 : slicePart Try.prog 43 = some 3 := by kernel_rfl
theorem zc43 : zeroCells Try.prog 43 = some [AV.lit (.int .i64 0), AV.lit (.int .i64 0), AV.lit (.int .i64 0)] := by kernel_rfl
theorem i43 : ∃ i, Try.prog.info? 43 = some i ∧ i.bytes = 24 := ⟨_, rfl, rfl⟩
def mkZ (n : Nat) : List AV := repeatCells [AV.lit (.int .i64 0), AV.lit (.int .i64 0), AV.lit (.int .i64 0)] (n * 3)
theorem mkZ_len (n : Nat) : (mkZ n).length = n * 3 := by unfold mkZ repeatCells; simp
theorem aop_make {o : Oper} {x : Operand} {σ : Operand → AV} {rd : Nat → AB} {fr n : Nat} (ho : o.op = .makeSlice 22 x x) (hx : σ x = .c (I n)) (hn : n ≤ 1000) :
    aop Try.prog o σ rd fr = some (.simple { val := .msl fr 3 0 n n, fresh := some (.blk (mkZ n)) }) := by
  obtain ⟨i, hi, hb⟩ := i43
  unfold aop
  rw [ho]
  have e : asInt (AV.c (I n)) = some (n : Int) := rfl
  simp only [hx, amakeSlice, U22, hi, S43, zc43, e, hb, Int.toNat_natCast]
  rw [if_pos ⟨by omega, by omega, by have : n * 24 ≤ 1000 * 24 := Nat.mul_le_mul_right _ hn; omega, by unfold limit; omega⟩]
  rfl
/-- The cells of a list of bales. -/
def rowsC (l : List Bl) : List CV := (l.map rowBl).flatten
theorem rowBl_len (l : List Bl) : ∀ r ∈ l.map rowBl, r.length = 3 := by intro r hr; obtain ⟨x, _, rfl⟩ := List.mem_map.1 hr; rfl
theorem rowsC_len (l : List Bl) : (rowsC l).length = l.length * 3 := by unfold rowsC; rw [flat_len _ (rowBl_len l)]; simp
theorem rowsC_sl (l : List Bl) : SlOf 3 (l.map rowBl) (rowsC l) 0 l.length := ⟨by simp, fun i r h => flat_sl _ (rowBl_len l) i r h⟩
theorem rowsC_cellish (l : List Bl) : ((rowsC l).map AV.c).all AV.cellish = true := by
  induction l with
  | nil => rfl
  | cons b l ih =>
    have : rowsC (b :: l) = rowBl b ++ rowsC l := rfl
    rw [this, List.map_append, List.all_append, ih]; rfl
theorem rowsC_get : ∀ {l : List Bl} {i : Nat} {b : Bl}, l[i]? = some b → (rowsC l)[i * 3 + 1]? = some (I b.l)
  | [], i, b, h => by simp at h
  | x :: l, 0, b, h => by simp at h; subst h; rfl
  | x :: l, i + 1, b, h => by
    have h1 := rowsC_get (l := l) (i := i) (b := b) (by simpa using h)
    have : rowsC (x :: l) = rowBl x ++ rowsC l := rfl
    rw [this, List.getElem?_append_right (by show 3 ≤ _; omega), show (i + 1) * 3 + 1 - (rowBl x).length = i * 3 + 1 by show (i + 1) * 3 + 1 - 3 = _; omega]
    exact h1
theorem rowsC_set : ∀ {l : List Bl} {i : Nat} {b : Bl} (y : Int), l[i]? = some b → (rowsC l).set (i * 3 + 1) (I y) = rowsC (l.set i { b with l := y })
  | [], i, b, y, h => by simp at h
  | x :: l, 0, b, y, h => by simp at h; subst h; rfl
  | x :: l, i + 1, b, y, h => by
    have h1 := rowsC_set (l := l) (i := i) (b := b) y (by simpa using h)
    have : rowsC (x :: l) = rowBl x ++ rowsC l := rfl
    rw [this, List.set_append_right _ _ (by show 3 ≤ _; omega), show (i + 1) * 3 + 1 - (rowBl x).length = i * 3 + 1 by show (i + 1) * 3 + 1 - 3 = _; omega, h1]
    rfl
theorem copy_lin {v : LV} {c : Ln} (hv : v.Is c) {rd : Nat → AB} {id : Nat} {cells : List AV} (hb : rd id = .blk cells) (hl : cells.length = c.bales.length * 3) :
    acopy Try.prog rd 22 (.msl id 3 0 v.sn v.sn) (.c (.sl v.sc v.so v.sn)) = some { val := .int v.sn, reads := [id], upds := [(id, .blk ((rowsC c.bales).map .c))] } := by
  have hf := hv.s.first (rowBl_len c.bales) rd
  have e1 := hv.sn
  have hc := rowsC_cellish c.bales
  have hln : ((rowsC c.bales).map AV.c).length = c.bales.length * 3 := by rw [List.length_map, rowsC_len]
  have hm : Nat.min c.bales.length v.sn = v.sn := by rw [e1]; exact Nat.min_self _
  have ht : ((rowsC c.bales).map AV.c).take (v.sn * 3) = (rowsC c.bales).map AV.c := List.take_of_length_le (by omega)
  have hp : putAt cells 0 ((rowsC c.bales).map AV.c) = some ((rowsC c.bales).map AV.c) := put_all (by omega)
  have hf' : firstCells rd 3 (.c (.sl v.sc v.so v.sn)) = some ((rowsC c.bales).map .c, c.bales.length, []) := by
    rw [hf]; simp [rowsC]
  unfold acopy
  simp only [U22, S43, hf', hc, and_self, if_true, hb, hm, ht, hp, Option.map_some]
/-- If so many fleeces more of a bale were looked at. -/
def moreL (c : Ln) (i : Nat) (f : Int) : Ln := { c with bales := c.bales.set i { baleAt c i with l := (baleAt c i).l + f } }
end Go.Ag
/- Layer 6: if more fleeces were looked at, the walk. -/
namespace Go.Ag
open Go.Proofs
set_option maxRecDepth 100000

set_option maxHeartbeats 2000000 in
theorem looking_ret {v : LV} {c : Ln} (hv : v.Is c) (hd : c.Good) (k : Bool) {i : Nat} (hi : i < c.bales.length) {f : Nat} (hf : f ≤ 30) (m : Nat) (h : Heap) :
    ∃ e h', CallOk Try.prog 84 [knAV v c k m, .c (I i), .c (I f)] h .no e h' .no ∧ ∃ v' m', e = .ret (knAV v' (moreL c i f) false m') ∧ v'.Is (moreL c i f) ∧ h.n ≤ m' ∧ m' < h'.n ∧ KMap (moreL c i f) false (Heap.at h' m') ∧ Foot none' h h' := by
  have e1 := hv.sn
  have n6 := hd.n6
  have hg := bale_good hd hi
  have g1 := hg.l0; have g2 := hg.l1; have g3 := hg.f2
  refine call_then (hm := false) Try.func84 rfl ?_
  conv => whnf
  refine then_seq (hm := false) ?_
  conv => whnf
  generalize hH : TMap.push AB.dead (TMap.push AB.dead h _) _ = H
  have Hn : H.n = h.n + 2 := by rw [← hH]; rfl
  have b0 : Heap.at H h.n = knBlk v c k m := by rw [← hH]; exact (at_push_lt _ _ (by simp only [push_n]; omega)).trans (at_push_self _ _)
  have b1 : Heap.at H (h.n + 1) = .blk [AV.lit (.slice none 0 0), AV.lit (.int .i64 0), AV.lit (.int .i64 0), AV.lit (.int .i64 0), AV.lit .nilIface, AV.lit (.map none)] := by rw [← hH]; exact at_push_self _ _
  have f0 : Foot none' h H := by rw [← hH]; exact ((Foot.refl _ _).push _).push _
  clear hH
  refine then_seq (hm := false) ?_
  conv => whnf
  refine ⟨_, b0, ?_⟩
  conv => whnf
  refine ⟨_, at_push_self _ _, ?_⟩
  conv => whnf
  generalize hH2 : TMap.set AB.dead (TMap.push AB.dead H _) _ _ = H2
  have n2 : H2.n = h.n + 3 := by rw [← hH2]; exact (new_n _ _ _).trans (by omega)
  have c0 : Heap.at H2 h.n = knBlk v c k m := by rw [← hH2]; exact (at_old _ _ _ (by omega)).trans b0
  have c1 : Heap.at H2 (h.n + 1) = .blk [AV.lit (.slice none 0 0), AV.lit (.int .i64 0), AV.lit (.int .i64 0), AV.lit (.int .i64 0), AV.lit .nilIface, AV.lit (.map none)] := by rw [← hH2]; exact (at_old _ _ _ (by omega)).trans b1
  have c2 : Heap.at H2 H.n = .blk [.c (.sl v.sc v.so v.sn), .c (I c.may), .c (I c.drift), .c (I c.mist)] := by rw [← hH2]; exact at_new _ _ _
  have f2 : Foot none' h H2 := by rw [← hH2]; exact Foot.set (f0.push _) (.inr (by omega)) _
  clear hH2
  refine then_seq (hm := false) ?_
  conv => whnf
  refine ⟨_, c0, ?_⟩
  conv => whnf
  rw [aop_make (n := v.sn)]; rotate_left; rfl; rfl; exact (by omega)
  conv => whnf
  refine forceL_intro ?_
  conv => whnf
  generalize hH3 : TMap.push AB.dead H2 _ = H3
  have n3 : H3.n = h.n + 4 := by rw [← hH3, push_n]; omega
  have d0 : Heap.at H3 h.n = knBlk v c k m := by rw [← hH3]; exact (at_push_lt _ _ (by omega)).trans c0
  have d1 : Heap.at H3 (h.n + 1) = .blk [AV.lit (.slice none 0 0), AV.lit (.int .i64 0), AV.lit (.int .i64 0), AV.lit (.int .i64 0), AV.lit .nilIface, AV.lit (.map none)] := by rw [← hH3]; exact (at_push_lt _ _ (by omega)).trans c1
  have d2 : Heap.at H3 H.n = .blk [.c (.sl v.sc v.so v.sn), .c (I c.may), .c (I c.drift), .c (I c.mist)] := by rw [← hH3]; exact (at_push_lt _ _ (by omega)).trans c2
  have d3 : Heap.at H3 H2.n = .blk (mkZ v.sn) := by rw [← hH3]; exact at_push_self _ _
  have f3 : Foot none' h H3 := by rw [← hH3]; exact f2.push _
  clear hH3
  refine ⟨_, d2, ?_⟩
  conv => whnf
  generalize hH4 : TMap.set AB.dead H3 _ _ = H4
  have n4 : H4.n = h.n + 4 := by rw [← hH4, TMap.set_n]; exact n3
  have g0 : Heap.at H4 h.n = knBlk v c k m := by rw [← hH4]; exact (at_set_ne _ _ (by omega)).trans d0
  have g1 : Heap.at H4 (h.n + 1) = .blk [AV.lit (.slice none 0 0), AV.lit (.int .i64 0), AV.lit (.int .i64 0), AV.lit (.int .i64 0), AV.lit .nilIface, AV.lit (.map none)] := by rw [← hH4]; exact (at_set_ne _ _ (by omega)).trans d1
  have g2 : Heap.at H4 H.n = .blk [.msl H2.n 3 0 v.sn v.sn, .c (I c.may), .c (I c.drift), .c (I c.mist)] := by rw [← hH4]; exact at_set_self _ _ (by omega)
  have g3 : Heap.at H4 H2.n = .blk (mkZ v.sn) := by rw [← hH4]; exact (at_set_ne _ _ (by omega)).trans d3
  have f4 : Foot none' h H4 := by rw [← hH4]; exact Foot.set f3 (.inr (by omega)) _
  clear hH4
  refine then_seq (hm := false) ?_
  conv => whnf
  refine ⟨_, g2, ?_⟩
  conv => whnf
  refine ⟨_, g0, ?_⟩
  conv => whnf
  refine ⟨_, copy_lin hv g3 (by rw [mkZ_len, e1]), ?_⟩
  conv => whnf
  generalize hH5 : TMap.app AB.dead _ _ = H5
  have e5 : H5 = H4.set .dead H2.n (.blk ((rowsC c.bales).map .c)) := by rw [← hH5]; rfl
  have n5 : H5.n = h.n + 4 := by rw [e5, TMap.set_n]; exact n4
  have k1 : Heap.at H5 (h.n + 1) = .blk [AV.lit (.slice none 0 0), AV.lit (.int .i64 0), AV.lit (.int .i64 0), AV.lit (.int .i64 0), AV.lit .nilIface, AV.lit (.map none)] := by rw [e5]; exact (at_set_ne _ _ (by omega)).trans g1
  have k2 : Heap.at H5 H.n = .blk [.msl H2.n 3 0 v.sn v.sn, .c (I c.may), .c (I c.drift), .c (I c.mist)] := by rw [e5]; exact (at_set_ne _ _ (by omega)).trans g2
  have k3 : Heap.at H5 H2.n = .blk ((rowsC c.bales).map .c) := by rw [e5]; exact at_set_self _ _ (by omega)
  have f5 : Foot none' h H5 := by rw [e5]; exact Foot.set f4 (.inr (by omega)) _
  clear hH5 e5
  have hbi := bale_get hi
  have hget : readVar Try.prog 3 ((rowsC c.bales).map AV.c) (0 + (i : Int).toNat * 3 + 1) = some (.c (I (baleAt c i).l)) := by
    refine readVar_map ?_
    rw [rv3, Int.toNat_natCast, Nat.zero_add]
    exact rowsC_get hbi
  have hput : putAt ((rowsC c.bales).map AV.c) (0 + (i : Int).toNat * 3 + 1) [.c (I ((baleAt c i).l + f))] = some ((rowsC (moreL c i f).bales).map AV.c) := by
    rw [Int.toNat_natCast, Nat.zero_add, put_one (by rw [List.length_map, rowsC_len]; omega)]
    have := rowsC_set ((baleAt c i).l + f) hbi
    show some _ = some ((rowsC (c.bales.set i { baleAt c i with l := (baleAt c i).l + f })).map AV.c)
    rw [← this, List.map_set]
  refine then_seq (hm := false) ?_
  conv => whnf
  refine ⟨_, k2, ?_⟩
  conv => whnf
  refine ⟨⟨rfl, by omega, by omega⟩, ?_⟩
  conv => whnf
  refine ⟨_, k3, ?_⟩
  conv => whnf
  refine look_read (hget) ?_
  conv => whnf
  refine ⟨(baleAt c i).l + f, by rw [wrap_eq (by omega) (by omega)], ?_⟩
  conv => whnf
  refine ⟨⟨rfl, by omega, by omega⟩, ?_⟩
  conv => whnf
  refine ⟨_, k3, ?_⟩
  conv => whnf
  refine look_put (hput) ?_
  conv => whnf
  refine forceL_intro ?_
  conv => whnf
  generalize hH6 : TMap.set AB.dead H5 _ _ = H6
  have n6' : H6.n = h.n + 4 := by rw [← hH6, TMap.set_n]; exact n5
  have q1 : Heap.at H6 (h.n + 1) = .blk [AV.lit (.slice none 0 0), AV.lit (.int .i64 0), AV.lit (.int .i64 0), AV.lit (.int .i64 0), AV.lit .nilIface, AV.lit (.map none)] := by rw [← hH6]; exact (at_set_ne _ _ (by omega)).trans k1
  have q2 : Heap.at H6 H.n = .blk [.msl H2.n 3 0 v.sn v.sn, .c (I c.may), .c (I c.drift), .c (I c.mist)] := by rw [← hH6]; exact (at_set_ne _ _ (by omega)).trans k2
  have q3 : Heap.at H6 H2.n = .blk ((rowsC (moreL c i f).bales).map .c) := by rw [← hH6]; exact at_set_self _ _ (by omega)
  have f6 : Foot none' h H6 := by rw [← hH6]; exact Foot.set f5 (.inr (by omega)) _
  clear hH6
  have hlen : (moreL c i f).bales.length = v.sn := by rw [e1]; simp [moreL]
  obtain ⟨v', hv'⟩ : ∃ v' : LV, v' = ⟨rowsC (moreL c i f).bales, 0, v.sn⟩ := ⟨_, rfl⟩
  have hvis : v'.Is (moreL c i f) := by
    rw [hv']
    refine ⟨?_, by omega⟩
    have := rowsC_sl (moreL c i f).bales
    rw [hlen] at this
    exact this
  have hsn : snaps (Heap.at H6) ((rowsC (moreL c i f).bales).length + 41) [.agg [.msl H2.n 3 0 v.sn v.sn, .c (I c.may), .c (I c.drift), .c (I c.mist)]] = some ([v'.cv (moreL c i f)], [H2.n]) := by
    have hm := snaps_map_c (Heap.at H6) (rowsC (moreL c i f).bales) ((rowsC (moreL c i f).bales).length + 37) (by omega)
    simp only [snaps, snap, q3, Option.bind_some, Option.map_some, hm]
    rw [hv']
    rfl
  obtain ⟨e7, H7, hc7, m', rfl, ma, mb, i7, f7⟩ := know_ret v' (moreL c i f) (Heap.upd H6 [(H2.n, .dead)])
  have hc7' := callOk_frozen hsn hc7
  have n7 := f7.n
  have un : (Heap.upd H6 [(H2.n, .dead)]).n = H6.n := by show (H6.set .dead H2.n .dead).n = _; rw [TMap.set_n]
  have ua : ∀ j, j ≠ H2.n → Heap.at (Heap.upd H6 [(H2.n, .dead)]) j = Heap.at H6 j := fun j hj => at_set_ne _ _ hj
  refine then_end (hm := false) ?_
  conv => whnf
  refine ⟨_, q2, ?_⟩
  conv => whnf
  refine .inl _ H7 .no hc7' ?_
  conv => whnf
  refine ⟨_, (f7.keep (h.n + 1) (by omega) (fun x => x)).trans ((ua (h.n + 1) (by omega)).trans q1), ?_⟩
  conv => whnf
  refine ⟨_, at_set_self _ _ (i := h.n + 1) (by omega), ?_⟩
  conv => whnf
  have f8 : Foot none' H6 (Heap.upd H6 [(H2.n, .dead)]) ∨ True := .inr trivial
  refine ⟨v', m', rfl, hvis, by omega, by show m' < _; rw [TMap.set_n]; omega, kMap_eq (at_set_ne _ _ (i := m') (k := h.n + 1) (by omega)) i7, ?_⟩
  have fk : Foot none' h (Heap.upd H6 [(H2.n, .dead)]) := Foot.set f6 (.inr (by omega)) _
  exact Foot.set (W := none') (k := h.n + 1) (fk.trans f7) (.inr (by omega)) _
end Go.Ag
/- Layer 6: how many more fleeces have to be looked at. -/
namespace Go.Ag
open Go.Proofs
set_option maxRecDepth 100000

theorem moreL_good {c : Ln} (hd : c.Good) {i : Nat} (hi : i < c.bales.length) {f : Nat} (hf : (baleAt c i).l + f ≤ (baleAt c i).f) : (moreL c i f).Good := by
  have hg := bale_good hd hi
  refine ⟨by show 1 ≤ (c.bales.set _ _).length; rw [List.length_set]; exact hd.n1, by show (c.bales.set _ _).length ≤ 6; rw [List.length_set]; exact hd.n6, ?_, hd.m0, hd.m1, hd.d0, hd.d1, hd.k0, hd.k1⟩
  intro b hb
  rcases List.mem_or_eq_of_mem_set hb with h | h
  · exact hd.bl b h
  · subst h
    have := hg.l0; have := hg.w1
    exact ⟨hg.f1, hg.f2, by show 0 ≤ (baleAt c i).l + (f : Int); omega, hf, hg.w0, by show (baleAt c i).w ≤ (baleAt c i).l + (f : Int); omega⟩
theorem moreL_len (c : Ln) (i : Nat) (f : Int) : (moreL c i f).bales.length = c.bales.length := List.length_set
def moreP (c : Ln) (i f : Nat) : Bool := keepsN (thrF (moreL c i f) false i) c == 2
set_option maxHeartbeats 1000000 in
theorem suits_more {v : LV} {c : Ln} (hv : v.Is c) (hd : c.Good) {i : Nat} (hi : i < c.bales.length) {f : Nat} (hf : (baleAt c i).l + f ≤ (baleAt c i).f) {m a b : Nat} {h : Heap} (ha : Heap.at h a = knBlk v c false m) (han : a < h.n) (hb : Heap.at h b = .blk [.c (I i)]) (hbn : b < h.n) :
    ∃ e h', CallOk Try.prog 83 [.c (I f), .ptr a 0, .ptr b 0] h .no e h' .no ∧ (e = .ret (.c (B (moreP c i f))) ∧ Foot none' h h') := by
  have hg := bale_good hd hi
  have g1 := hg.l0; have g2 := hg.f2
  have hd2 := moreL_good hd hi hf
  have hi2 : i < (moreL c i f).bales.length := by rw [moreL_len]; exact hi
  obtain ⟨e1, H1, hc1, v', m', rfl, hv', ma, mb, i1, f1⟩ := looking_ret hv hd false hi (f := f) (by omega) m h
  obtain ⟨D, hD⟩ := arr_ex (thrF (moreL c i f) false i)
  obtain ⟨e2, H2, hc2, rfl, f2, i2⟩ := through_ret hv' hd2 false hi2 mb i1 hD
  have n1 := f1.n
  have n2 := f2.n
  have a1 := (f1.keep a han (fun x => x)).trans ha
  have b1 := (f1.keep b hbn (fun x => x)).trans hb
  have a2 := (f2.keep a (by omega) (by omega)).trans a1
  have hks := keeps_ret hD v c
  refine call_by (hm := false) Try.func83 rfl ?_
  conv => whnf
  refine mixed_by (hm := false) (by kernel_rfl) (by kernel_rfl) ?_
  conv => whnf
  refine ⟨_, ha, ?_⟩
  conv => whnf
  refine ⟨_, hb, ?_⟩
  conv => whnf
  refine .heavy _ H1 (.inl hc1) ?_
  conv => whnf
  refine ⟨_, b1, ?_⟩
  conv => whnf
  refine .heavy _ H2 (.inl hc2) ?_
  conv => whnf
  refine ⟨_, a2, ?_⟩
  conv => whnf
  refine .ret _ _ (hks) rfl ?_
  conv => whnf
  refine ⟨by kernel_rfl, ?_, ?_⟩
  · exact heaps_eq (l' := [(b, h, H1), (a, h, H1), (a, H1, H2)]) (by kernel_rfl) (heaps_cons (f1.keep _ hbn (fun x => x)) (heaps_cons (f1.keep _ han (fun x => x)) (heaps_cons (f2.keep _ (by omega) (by omega)) (by simp [HeapsOk]))))
  conv => whnf
  exact ⟨rfl, (Foot.refl _ _).trans_up (N := h.n) ((f1.mono fun i _ hi => hi.elim).trans (f2.mono fun i _ hi => by omega)) (Nat.le_refl _)⟩
/-- How many more. -/
def leftN (c : Ln) (i : Nat) : Nat := ((baleAt c i).f - (baleAt c i).l).toNat
def moreN (c : Ln) (i : Nat) : Option Nat := (ftN 0 (leftN c i)).find? (moreP c i)
set_option maxHeartbeats 1000000 in
theorem more_ret {v : LV} {c : Ln} (hv : v.Is c) (hd : c.Good) {i : Nat} (hi : i < c.bales.length) {m : Nat} {h : Heap} (hm : m < h.n) (hI : KMap c false (Heap.at h m)) :
    ∃ e h', CallOk Try.prog 51 [knAV v c false m, .c (I i)] h .no e h' .no ∧ (e = firstC 4 (moreN c i) ∧ Foot (fun i => i = m) h h' ∧ KMap c false (Heap.at h' m)) := by
  have e1 := hv.sn
  have n6 := hd.n6
  have hg := bale_good hd hi
  have g1 := hg.l0; have g2 := hg.f2; have g3 := hg.l1
  have hbi := bale_get hi
  have hleft : ((leftN c i : Nat) : Int) = (baleAt c i).f - (baleAt c i).l := Int.toNat_of_nonneg (by omega)
  refine call_then (hm := false) Try.func51 rfl ?_
  conv => whnf
  refine then_seq (hm := false) ?_
  conv => whnf
  generalize hH : TMap.push AB.dead (TMap.push AB.dead h _) _ = H
  have Hn : H.n = h.n + 2 := by rw [← hH]; rfl
  have b0 : Heap.at H h.n = knBlk v c false m := by rw [← hH]; exact (at_push_lt _ _ (by simp only [push_n]; omega)).trans (at_push_self _ _)
  have b1 : Heap.at H (h.n + 1) = .blk [.c (I i)] := by rw [← hH]; exact at_push_self _ _
  have f0 : Foot (fun i => i = m) h H := by rw [← hH]; exact ((Foot.refl _ _).push _).push _
  have i0 : KMap c false (Heap.at H m) := kMap_eq (by rw [← hH]; exact (at_push_lt _ _ (by simp only [push_n]; omega)).trans (at_push_lt _ _ hm)) hI
  clear hH
  refine then_seq (hm := false) ?_
  conv => whnf
  refine ⟨_, b0, ?_⟩
  conv => whnf
  refine ⟨_, b1, ?_⟩
  conv => whnf
  refine ⟨⟨by omega, by omega⟩, ?_⟩
  conv => whnf
  refine ⟨_, hv.bale hbi, ?_⟩
  conv => whnf
  refine ⟨_, at_push_self _ _, ?_⟩
  conv => whnf
  generalize hH2 : TMap.set AB.dead (TMap.push AB.dead H _) _ _ = H2
  have n2 : H2.n = h.n + 3 := by rw [← hH2]; exact (new_n _ _ _).trans (by omega)
  have c0 : Heap.at H2 h.n = knBlk v c false m := by rw [← hH2]; exact (at_old _ _ _ (by omega)).trans b0
  have c1 : Heap.at H2 (h.n + 1) = .blk [.c (I i)] := by rw [← hH2]; exact (at_old _ _ _ (by omega)).trans b1
  have c2 : Heap.at H2 H.n = .blk [.c (I (baleAt c i).f), .c (I (baleAt c i).l), .c (I (baleAt c i).w)] := by rw [← hH2]; exact at_new _ _ _
  have f2 : Foot (fun i => i = m) h H2 := by rw [← hH2]; exact Foot.set (f0.push _) (.inr (by omega)) _
  have i2 : KMap c false (Heap.at H2 m) := kMap_eq (by rw [← hH2]; exact at_old _ _ _ (by omega)) i0
  clear hH2
  obtain ⟨e3, H3, hc3, he3, f3, i3⟩ := first_more (a := h.n) (b := h.n + 1) (err := 4) (ft_iter (lo := 0) (hi := leftN c i) (by omega) (by omega)) (p := moreP c i) (h := H2) (show m < H2.n by omega) i2
    (fun y hy h1 ff j1 => by
      have hy2 := (mem_ft.1 hy).2
      have fn := ff.n
      obtain ⟨e, h2, q1, q2, q3⟩ := suits_more hv hd hi (f := y) (by omega) (m := m) ((ff.keep h.n (by omega) (by omega)).trans c0) (by omega) ((ff.keep (h.n + 1) (by omega) (by omega)).trans c1) (by omega)
      exact ⟨e, h2, q1, q2, q3.mono (fun i _ hi => hi.elim), kMap_eq (q3.keep m (by omega) (fun x => x)) j1⟩)
  rw [show (ftN 0 (leftN c i)).find? (moreP c i) = moreN c i from rfl] at he3
  refine then_end (hm := false) ?_
  conv => whnf
  refine ⟨_, c2, ?_⟩
  conv => whnf
  refine ⟨_, c2, ?_⟩
  conv => whnf
  refine ⟨((leftN c i : Nat) : Int), by rw [wrap_eq (by omega) (by omega)]; omega, ?_⟩
  conv => whnf
  refine .ret (fromTo_ret 0 (leftN c i)) rfl ?_
  conv => whnf
  refine .inl _ H3 .no hc3 ?_
  conv => whnf
  subst he3
  cases hf : moreN c i with
  | none =>
    conv => whnf
    exact ⟨rfl, f2.trans f3, i3⟩
  | some y =>
    conv => whnf
    exact ⟨rfl, f2.trans f3, i3⟩
end Go.Ag
/- Layer 6: a panic is recovered. -/
namespace Go.Ag
open Go.Proofs
set_option maxRecDepth 100000

theorem caughtI_no (id : Nat) (h : Heap) : CallOk Try.prog 58 [.ptr id 0] h .no (.ret (.c (.tuple []))) h .no := by
  suffices H : ∃ e h' p', CallOk Try.prog 58 [.ptr id 0] h .no e h' p' ∧ (e = .ret (.c (.tuple [])) ∧ h' = h ∧ p' = .no) by
    obtain ⟨e, h', p', h1, rfl, rfl, rfl⟩ := H
    exact h1
  refine call_byP (hm := false) Try.func58 rfl ?_
  conv => whnf
  exact ⟨rfl, rfl, rfl⟩
theorem caughtI_live {id : Nat} {h : Heap} {c c0 : Int} (hb : Heap.at h id = .blk [.c (I c0)]) : CallOk Try.prog 58 [.ptr id 0] h (.live (errV c)) (.ret (.c (.tuple []))) (h.set .dead id (.blk [.c (I c)])) .taken := by
  suffices H : ∃ e h' p', CallOk Try.prog 58 [.ptr id 0] h (.live (errV c)) e h' p' ∧ (e = .ret (.c (.tuple [])) ∧ h' = h.set .dead id (.blk [.c (I c)]) ∧ p' = .taken) by
    obtain ⟨e, h', p', h1, rfl, rfl, rfl⟩ := H
    exact h1
  refine call_byP (hm := false) Try.func58 rfl ?_
  conv => whnf
  refine ⟨_, hb, ?_⟩
  conv => whnf
  exact ⟨rfl, rfl, rfl⟩

theorem caughtS_no (id : Nat) (h : Heap) : CallOk Try.prog 92 [.ptr id 0] h .no (.ret (.c (.tuple []))) h .no := by
  suffices H : ∃ e h' p', CallOk Try.prog 92 [.ptr id 0] h .no e h' p' ∧ (e = .ret (.c (.tuple [])) ∧ h' = h ∧ p' = .no) by
    obtain ⟨e, h', p', h1, rfl, rfl, rfl⟩ := H
    exact h1
  refine call_byP (hm := false) Try.func92 rfl ?_
  conv => whnf
  exact ⟨rfl, rfl, rfl⟩
theorem caughtS_live {id : Nat} {h : Heap} {c c0 : Int} (hb : Heap.at h id = .blk [.c (I c0)]) : CallOk Try.prog 92 [.ptr id 0] h (.live (errV c)) (.ret (.c (.tuple []))) (h.set .dead id (.blk [.c (I c)])) .taken := by
  suffices H : ∃ e h' p', CallOk Try.prog 92 [.ptr id 0] h (.live (errV c)) e h' p' ∧ (e = .ret (.c (.tuple [])) ∧ h' = h.set .dead id (.blk [.c (I c)]) ∧ p' = .taken) by
    obtain ⟨e, h', p', h1, rfl, rfl, rfl⟩ := H
    exact h1
  refine call_byP (hm := false) Try.func92 rfl ?_
  conv => whnf
  refine ⟨_, hb, ?_⟩
  conv => whnf
  exact ⟨rfl, rfl, rfl⟩

/-- What is found, or the error. -/
def endI (o : Option Int) (err : Int) : AEnd := match o with
  | some y => .ret (.c (I y))
  | none => .panic (errV err)
def ansI (o : Option Int) (err : Int) : CV := match o with
  | some y => .tuple [I y, I 0]
  | none => .tuple [I 0, I err]
def endS (o : Option (Int × Int)) (err : Int) : AEnd := match o with
  | some y => .ret (.c (spV y))
  | none => .panic (errV err)
def ansS (o : Option (Int × Int)) (err : Int) : CV := match o with
  | some y => .tuple [spV y, I 0]
  | none => .tuple [spV (0, 0), I err]
theorem first_endI (err : Int) (o : Option Nat) : firstC err o = endI (o.map fun n => ((n : Nat) : Int)) err := by cases o <;> rfl

set_option maxHeartbeats 1000000 in
theorem ans_mist {v : LV} {c : Ln} {m : Nat} {o : Option Int} {err : Int} {h : Heap} {W : Nat → Prop} (hW : ∀ i, W i → i < h.n) (hs : ∀ h1, h1.n = h.n + 1 → (∀ i, i < h.n → Heap.at h1 i = Heap.at h i) → ∃ e h2, CallOk Try.prog 44 [knAV v c false m] h1 .no e h2 .no ∧ (e = endI o err ∧ Foot W h1 h2)) :
    ∃ e h', CallOk Try.prog 37 [.func (.func 44) [knAV v c false m] []] h .no e h' .no ∧ (e = .ret (.c (ansI o err)) ∧ Foot W h h') := by
  refine call_by (hm := false) Try.func37 rfl ?_
  conv => whnf
  refine ⟨_, at_push_self _ _, ?_⟩
  conv => whnf
  generalize hH1 : TMap.set AB.dead (TMap.push AB.dead h _) _ _ = H1
  have h1n : H1.n = h.n + 1 := by rw [← hH1]; exact new_n _ _ _
  have c1 : Heap.at H1 h.n = .blk [.c (I 10)] := by rw [← hH1]; exact at_new _ _ _
  have a1 : ∀ i, i < h.n → Heap.at H1 i = Heap.at h i := fun i hi => by rw [← hH1]; exact at_old _ _ _ hi
  clear hH1
  obtain ⟨e2, h2, hc2, he2, f2⟩ := hs H1 h1n a1
  have hn2 := f2.n
  have d1 := (f2.keep h.n (by omega) (fun x => by have := hW _ x; omega)).trans c1
  have f0 : Foot W h h2 := ⟨by omega, fun i hi hw => (f2.keep i (by omega) hw).trans (a1 i hi)⟩
  refine .inl _ h2 .no hc2 ?_
  conv => whnf
  subst he2
  cases o with
  | none =>
    conv => whnf
    refine .mk _ _ _ (caughtI_live (c := err) (c0 := 10) d1) ?_
    conv => whnf
    refine ⟨_, at_set_self _ _ (i := h.n) (show h.n < h2.n by omega), ?_⟩
    conv => whnf
    exact ⟨rfl, Foot.set (k := h.n) f0 (.inr (Nat.le_refl _)) _⟩
  | some y =>
    conv => whnf
    refine ⟨_, d1, ?_⟩
    conv => whnf
    refine .mk _ _ _ (caughtI_no _ _) ?_
    conv => whnf
    refine ⟨_, at_set_self _ _ (i := h.n) (by omega), ?_⟩
    conv => whnf
    exact ⟨rfl, Foot.set (k := h.n) f0 (.inr (Nat.le_refl _)) _⟩

set_option maxHeartbeats 1000000 in
theorem ans_clash {v : LV} {c : Ln} {m : Nat} {o : Option Int} {err : Int} {h : Heap} {W : Nat → Prop} (hW : ∀ i, W i → i < h.n) (hs : ∀ h1, h1.n = h.n + 1 → (∀ i, i < h.n → Heap.at h1 i = Heap.at h i) → ∃ e h2, CallOk Try.prog 38 [knAV v c false m] h1 .no e h2 .no ∧ (e = endI o err ∧ Foot W h1 h2)) :
    ∃ e h', CallOk Try.prog 37 [.func (.func 38) [knAV v c false m] []] h .no e h' .no ∧ (e = .ret (.c (ansI o err)) ∧ Foot W h h') := by
  refine call_by (hm := false) Try.func37 rfl ?_
  conv => whnf
  refine ⟨_, at_push_self _ _, ?_⟩
  conv => whnf
  generalize hH1 : TMap.set AB.dead (TMap.push AB.dead h _) _ _ = H1
  have h1n : H1.n = h.n + 1 := by rw [← hH1]; exact new_n _ _ _
  have c1 : Heap.at H1 h.n = .blk [.c (I 10)] := by rw [← hH1]; exact at_new _ _ _
  have a1 : ∀ i, i < h.n → Heap.at H1 i = Heap.at h i := fun i hi => by rw [← hH1]; exact at_old _ _ _ hi
  clear hH1
  obtain ⟨e2, h2, hc2, he2, f2⟩ := hs H1 h1n a1
  have hn2 := f2.n
  have d1 := (f2.keep h.n (by omega) (fun x => by have := hW _ x; omega)).trans c1
  have f0 : Foot W h h2 := ⟨by omega, fun i hi hw => (f2.keep i (by omega) hw).trans (a1 i hi)⟩
  refine .inl _ h2 .no hc2 ?_
  conv => whnf
  subst he2
  cases o with
  | none =>
    conv => whnf
    refine .mk _ _ _ (caughtI_live (c := err) (c0 := 10) d1) ?_
    conv => whnf
    refine ⟨_, at_set_self _ _ (i := h.n) (show h.n < h2.n by omega), ?_⟩
    conv => whnf
    exact ⟨rfl, Foot.set (k := h.n) f0 (.inr (Nat.le_refl _)) _⟩
  | some y =>
    conv => whnf
    refine ⟨_, d1, ?_⟩
    conv => whnf
    refine .mk _ _ _ (caughtI_no _ _) ?_
    conv => whnf
    refine ⟨_, at_set_self _ _ (i := h.n) (by omega), ?_⟩
    conv => whnf
    exact ⟨rfl, Foot.set (k := h.n) f0 (.inr (Nat.le_refl _)) _⟩

set_option maxHeartbeats 1000000 in
theorem ans_more {a b : Nat} {o : Option Int} {err : Int} {h : Heap} {W : Nat → Prop} (hW : ∀ i, W i → i < h.n) (hs : ∀ h1, h1.n = h.n + 1 → (∀ i, i < h.n → Heap.at h1 i = Heap.at h i) → ∃ e h2, CallOk Try.prog 50 [.ptr a 0, .ptr b 0] h1 .no e h2 .no ∧ (e = endI o err ∧ Foot W h1 h2)) :
    ∃ e h', CallOk Try.prog 37 [.func (.func 50) [] [.ptr a 0, .ptr b 0]] h .no e h' .no ∧ (e = .ret (.c (ansI o err)) ∧ Foot W h h') := by
  refine call_by (hm := false) Try.func37 rfl ?_
  conv => whnf
  refine ⟨_, at_push_self _ _, ?_⟩
  conv => whnf
  generalize hH1 : TMap.set AB.dead (TMap.push AB.dead h _) _ _ = H1
  have h1n : H1.n = h.n + 1 := by rw [← hH1]; exact new_n _ _ _
  have c1 : Heap.at H1 h.n = .blk [.c (I 10)] := by rw [← hH1]; exact at_new _ _ _
  have a1 : ∀ i, i < h.n → Heap.at H1 i = Heap.at h i := fun i hi => by rw [← hH1]; exact at_old _ _ _ hi
  clear hH1
  obtain ⟨e2, h2, hc2, he2, f2⟩ := hs H1 h1n a1
  have hn2 := f2.n
  have d1 := (f2.keep h.n (by omega) (fun x => by have := hW _ x; omega)).trans c1
  have f0 : Foot W h h2 := ⟨by omega, fun i hi hw => (f2.keep i (by omega) hw).trans (a1 i hi)⟩
  refine .inl _ h2 .no hc2 ?_
  conv => whnf
  subst he2
  cases o with
  | none =>
    conv => whnf
    refine .mk _ _ _ (caughtI_live (c := err) (c0 := 10) d1) ?_
    conv => whnf
    refine ⟨_, at_set_self _ _ (i := h.n) (show h.n < h2.n by omega), ?_⟩
    conv => whnf
    exact ⟨rfl, Foot.set (k := h.n) f0 (.inr (Nat.le_refl _)) _⟩
  | some y =>
    conv => whnf
    refine ⟨_, d1, ?_⟩
    conv => whnf
    refine .mk _ _ _ (caughtI_no _ _) ?_
    conv => whnf
    refine ⟨_, at_set_self _ _ (i := h.n) (by omega), ?_⟩
    conv => whnf
    exact ⟨rfl, Foot.set (k := h.n) f0 (.inr (Nat.le_refl _)) _⟩

set_option maxHeartbeats 1000000 in
theorem ans_line {a b : Nat} {o : Option Int} {err : Int} {h : Heap} {W : Nat → Prop} (hW : ∀ i, W i → i < h.n) (hs : ∀ h1, h1.n = h.n + 1 → (∀ i, i < h.n → Heap.at h1 i = Heap.at h i) → ∃ e h2, CallOk Try.prog 70 [.ptr a 0, .ptr b 0] h1 .no e h2 .no ∧ (e = endI o err ∧ Foot W h1 h2)) :
    ∃ e h', CallOk Try.prog 37 [.func (.func 70) [] [.ptr a 0, .ptr b 0]] h .no e h' .no ∧ (e = .ret (.c (ansI o err)) ∧ Foot W h h') := by
  refine call_by (hm := false) Try.func37 rfl ?_
  conv => whnf
  refine ⟨_, at_push_self _ _, ?_⟩
  conv => whnf
  generalize hH1 : TMap.set AB.dead (TMap.push AB.dead h _) _ _ = H1
  have h1n : H1.n = h.n + 1 := by rw [← hH1]; exact new_n _ _ _
  have c1 : Heap.at H1 h.n = .blk [.c (I 10)] := by rw [← hH1]; exact at_new _ _ _
  have a1 : ∀ i, i < h.n → Heap.at H1 i = Heap.at h i := fun i hi => by rw [← hH1]; exact at_old _ _ _ hi
  clear hH1
  obtain ⟨e2, h2, hc2, he2, f2⟩ := hs H1 h1n a1
  have hn2 := f2.n
  have d1 := (f2.keep h.n (by omega) (fun x => by have := hW _ x; omega)).trans c1
  have f0 : Foot W h h2 := ⟨by omega, fun i hi hw => (f2.keep i (by omega) hw).trans (a1 i hi)⟩
  refine .inl _ h2 .no hc2 ?_
  conv => whnf
  subst he2
  cases o with
  | none =>
    conv => whnf
    refine .mk _ _ _ (caughtI_live (c := err) (c0 := 10) d1) ?_
    conv => whnf
    refine ⟨_, at_set_self _ _ (i := h.n) (show h.n < h2.n by omega), ?_⟩
    conv => whnf
    exact ⟨rfl, Foot.set (k := h.n) f0 (.inr (Nat.le_refl _)) _⟩
  | some y =>
    conv => whnf
    refine ⟨_, d1, ?_⟩
    conv => whnf
    refine .mk _ _ _ (caughtI_no _ _) ?_
    conv => whnf
    refine ⟨_, at_set_self _ _ (i := h.n) (by omega), ?_⟩
    conv => whnf
    exact ⟨rfl, Foot.set (k := h.n) f0 (.inr (Nat.le_refl _)) _⟩

set_option maxHeartbeats 1000000 in
theorem ans_span {a b : Nat} {o : Option (Int × Int)} {err : Int} {h : Heap} {W : Nat → Prop} (hW : ∀ i, W i → i < h.n) (hs : ∀ h1, h1.n = h.n + 2 → (∀ i, i < h.n → Heap.at h1 i = Heap.at h i) → ∃ e h2, CallOk Try.prog 63 [.ptr a 0, .ptr b 0] h1 .no e h2 .no ∧ (e = endS o err ∧ Foot W h1 h2)) :
    ∃ e h', CallOk Try.prog 62 [.func (.func 63) [] [.ptr a 0, .ptr b 0]] h .no e h' .no ∧ (e = .ret (.c (ansS o err)) ∧ Foot W h h') := by
  refine call_by (hm := false) Try.func62 rfl ?_
  conv => whnf
  refine ⟨_, at_push_self _ _, ?_⟩
  conv => whnf
  generalize hH1 : TMap.set AB.dead (TMap.push AB.dead (TMap.push AB.dead h _) _) _ _ = H1
  have h1n : H1.n = h.n + 2 := by rw [← hH1]; exact (new_n _ _ _).trans (by rw [push_n])
  have c0 : Heap.at H1 h.n = .blk [.c (I 0), .c (I 0)] := by rw [← hH1]; exact (at_old _ _ _ (by rw [push_n]; omega)).trans (at_push_self _ _)
  have c1 : Heap.at H1 (h.n + 1) = .blk [.c (I 10)] := by rw [← hH1]; exact at_new (h.push .dead _) _ _
  have a1 : ∀ i, i < h.n → Heap.at H1 i = Heap.at h i := fun i hi => by rw [← hH1]; exact (at_old _ _ _ (by rw [push_n]; omega)).trans (at_push_lt _ _ hi)
  clear hH1
  obtain ⟨e2, h2, hc2, he2, f2⟩ := hs H1 h1n a1
  have hn2 := f2.n
  have d0 := (f2.keep h.n (by omega) (fun x => by have := hW _ x; omega)).trans c0
  have d1 := (f2.keep (h.n + 1) (by omega) (fun x => by have := hW _ x; omega)).trans c1
  have f0 : Foot W h h2 := ⟨by omega, fun i hi hw => (f2.keep i (by omega) hw).trans (a1 i hi)⟩
  refine .inl _ h2 .no hc2 ?_
  conv => whnf
  subst he2
  cases o with
  | none =>
    conv => whnf
    refine .mk _ _ _ (caughtS_live (c := err) (c0 := 10) d1) ?_
    conv => whnf
    refine ⟨_, (at_set_ne _ _ (i := h.n) (k := h.n + 1) (by omega)).trans d0, ?_⟩
    conv => whnf
    refine ⟨_, at_set_self _ _ (i := h.n + 1) (show h.n + 1 < h2.n by omega), ?_⟩
    conv => whnf
    exact ⟨rfl, Foot.set (k := h.n + 1) f0 (.inr (by omega)) _⟩
  | some y =>
    conv => whnf
    refine ⟨_, d0, ?_⟩
    conv => whnf
    refine ⟨_, (at_set_ne _ _ (i := h.n + 1) (k := h.n) (by omega)).trans d1, ?_⟩
    conv => whnf
    refine .mk _ _ _ (caughtS_no _ _) ?_
    conv => whnf
    refine ⟨_, (at_set_ne _ _ (i := h.n) (k := h.n + 1) (by omega)).trans (at_set_self _ _ (i := h.n) (by omega)), ?_⟩
    conv => whnf
    refine ⟨_, at_set_self _ _ (i := h.n + 1) (by rw [TMap.set_n]; omega), ?_⟩
    conv => whnf
    exact ⟨rfl, Foot.set (k := h.n + 1) (Foot.set (k := h.n) f0 (.inr (by omega)) _) (.inr (by omega)) _⟩
end Go.Ag
/- Layer 6: what is found of a line. -/
namespace Go.Ag
open Go.Proofs
set_option maxRecDepth 100000

def orT {α : Type} (c : Ln) (o : Option α) : Option α := if canT c then o else none
def errT (c : Ln) (err : Int) : Int := if canT c then err else 10

set_option maxHeartbeats 2000000 in
theorem find_kept  {v : LV} {c : Ln} (hv : v.Is c) (hd : c.Good) {fa la : Nat} {h : Heap} (hf : Heap.at h fa = .blk [.c (.func (.func 42) [] [])]) (hfn : fa < h.n) (hl : Heap.at h la = v.blk c) {o : Option Int} {err : Int}
    (hs : ∀ m h1, h.n ≤ m → m < h1.n → KMap c false (Heap.at h1 m) → (∀ i, i < h.n → Heap.at h1 i = Heap.at h i) → ∃ e h2, CallOk Try.prog 42 [knAV v c false m] h1 .no e h2 .no ∧ (e = endI o err ∧ Foot (fun i => i = m) h1 h2)) :
    ∃ e h', CallOk Try.prog 70 [.ptr fa 0, .ptr la 0] h .no e h' .no ∧ (e = endI (orT c o) (errT c err) ∧ Foot none' h h') := by
  unfold orT errT
  refine call_by (hm := false) Try.func70 rfl ?_
  conv => whnf
  have a0 : ∀ i, i < h.n → Heap.at h i = Heap.at h i := fun i hi => rfl
  have f0 : Foot none' h h := Foot.refl _ _
  obtain ⟨e1, H1, hc1, m, rfl, m0, m1, i1, f1⟩ := know_ret v c h
  have n1 := f1.n
  obtain ⟨e2, H2, hc2, he2, f2, i2⟩ := sure_ret hv hd m1 i1
  have n2 := f2.n
  have k1 := (f1.keep fa (by omega) (fun x => x)).trans hf
  refine mixed_by (hm := false) (by kernel_rfl) (by kernel_rfl) ?_
  conv => whnf
  refine ⟨_, hf, ?_⟩
  conv => whnf
  refine ⟨_, hl, ?_⟩
  conv => whnf
  refine .heavy _ H1 (.inl hc1) ?_
  conv => whnf
  cases hcan : canT c
  · rw [hcan] at he2
    rw [if_neg (by simp)] at he2
    subst he2
    refine .heavy _ H2 (.inl hc2) ?_
    conv => whnf
    refine mOps_list (l' := []) (by kernel_rfl) ?_
    conv => whnf
    refine ⟨by kernel_rfl, ?_, ?_⟩
    · exact heaps_eq (l' := [(fa, h, H1), (fa, H1, H2)]) (by kernel_rfl) (heaps_cons (f1.keep _ (by omega) (fun x => x)) (heaps_cons (f2.keep _ (by omega) (by omega)) (by simp [HeapsOk])))
    intro ds
    conv => whnf
    exact ⟨rfl, (f0.trans f1).trans_up (N := h.n) (f2.mono fun i _ hi => by omega) (Nat.le_refl _)⟩
  · rw [hcan] at he2
    rw [if_pos rfl] at he2
    subst he2
    refine .heavy _ H2 (.inl hc2) ?_
    conv => whnf
    obtain ⟨e3, H3, hc3, he3, f3⟩ := hs m H2 (by omega) (by omega) i2 (fun i hi => (f2.keep i (by omega) (by omega)).trans ((f1.keep i (by omega) (fun x => x)).trans (a0 i hi)))
    have n3 := f3.n
    refine .heavy _ H3 (.inl hc3) ?_
    subst he3
    have F3 : Foot none' h H3 := (f0.trans f1).trans_up (N := h.n) ((f2.mono fun i _ hi => by omega).trans (f3.mono fun i _ hi => by omega)) (Nat.le_refl _)
    cases o with
    | none =>
      conv => whnf
      refine mOps_list (l' := []) (by kernel_rfl) ?_
      conv => whnf
      refine ⟨by kernel_rfl, ?_, ?_⟩
      · exact heaps_eq (l' := [(fa, h, H1), (fa, H1, H2)]) (by kernel_rfl) (heaps_cons (f1.keep _ (by omega) (fun x => x)) (heaps_cons (f2.keep _ (by omega) (by omega)) (by simp [HeapsOk])))
      intro ds
      conv => whnf
      exact ⟨rfl, F3⟩
    | some y =>
      conv => whnf
      refine ⟨by kernel_rfl, ?_, ?_⟩
      · exact heaps_eq (l' := [(fa, h, H1), (fa, H1, H2)]) (by kernel_rfl) (heaps_cons (f1.keep _ (by omega) (fun x => x)) (heaps_cons (f2.keep _ (by omega) (by omega)) (by simp [HeapsOk])))
      conv => whnf
      exact ⟨rfl, F3⟩

set_option maxHeartbeats 2000000 in
theorem find_proof  {v : LV} {c : Ln} (hv : v.Is c) (hd : c.Good) {fa la : Nat} {h : Heap} (hf : Heap.at h fa = .blk [.c (.func (.func 43) [] [])]) (hfn : fa < h.n) (hl : Heap.at h la = v.blk c) {o : Option Int} {err : Int}
    (hs : ∀ m h1, h.n ≤ m → m < h1.n → KMap c false (Heap.at h1 m) → (∀ i, i < h.n → Heap.at h1 i = Heap.at h i) → ∃ e h2, CallOk Try.prog 43 [knAV v c false m] h1 .no e h2 .no ∧ (e = endI o err ∧ Foot (fun i => i = m) h1 h2)) :
    ∃ e h', CallOk Try.prog 70 [.ptr fa 0, .ptr la 0] h .no e h' .no ∧ (e = endI (orT c o) (errT c err) ∧ Foot none' h h') := by
  unfold orT errT
  refine call_by (hm := false) Try.func70 rfl ?_
  conv => whnf
  have a0 : ∀ i, i < h.n → Heap.at h i = Heap.at h i := fun i hi => rfl
  have f0 : Foot none' h h := Foot.refl _ _
  obtain ⟨e1, H1, hc1, m, rfl, m0, m1, i1, f1⟩ := know_ret v c h
  have n1 := f1.n
  obtain ⟨e2, H2, hc2, he2, f2, i2⟩ := sure_ret hv hd m1 i1
  have n2 := f2.n
  have k1 := (f1.keep fa (by omega) (fun x => x)).trans hf
  refine mixed_by (hm := false) (by kernel_rfl) (by kernel_rfl) ?_
  conv => whnf
  refine ⟨_, hf, ?_⟩
  conv => whnf
  refine ⟨_, hl, ?_⟩
  conv => whnf
  refine .heavy _ H1 (.inl hc1) ?_
  conv => whnf
  cases hcan : canT c
  · rw [hcan] at he2
    rw [if_neg (by simp)] at he2
    subst he2
    refine .heavy _ H2 (.inl hc2) ?_
    conv => whnf
    refine mOps_list (l' := []) (by kernel_rfl) ?_
    conv => whnf
    refine ⟨by kernel_rfl, ?_, ?_⟩
    · exact heaps_eq (l' := [(fa, h, H1), (fa, H1, H2)]) (by kernel_rfl) (heaps_cons (f1.keep _ (by omega) (fun x => x)) (heaps_cons (f2.keep _ (by omega) (by omega)) (by simp [HeapsOk])))
    intro ds
    conv => whnf
    exact ⟨rfl, (f0.trans f1).trans_up (N := h.n) (f2.mono fun i _ hi => by omega) (Nat.le_refl _)⟩
  · rw [hcan] at he2
    rw [if_pos rfl] at he2
    subst he2
    refine .heavy _ H2 (.inl hc2) ?_
    conv => whnf
    obtain ⟨e3, H3, hc3, he3, f3⟩ := hs m H2 (by omega) (by omega) i2 (fun i hi => (f2.keep i (by omega) (by omega)).trans ((f1.keep i (by omega) (fun x => x)).trans (a0 i hi)))
    have n3 := f3.n
    refine .heavy _ H3 (.inl hc3) ?_
    subst he3
    have F3 : Foot none' h H3 := (f0.trans f1).trans_up (N := h.n) ((f2.mono fun i _ hi => by omega).trans (f3.mono fun i _ hi => by omega)) (Nat.le_refl _)
    cases o with
    | none =>
      conv => whnf
      refine mOps_list (l' := []) (by kernel_rfl) ?_
      conv => whnf
      refine ⟨by kernel_rfl, ?_, ?_⟩
      · exact heaps_eq (l' := [(fa, h, H1), (fa, H1, H2)]) (by kernel_rfl) (heaps_cons (f1.keep _ (by omega) (fun x => x)) (heaps_cons (f2.keep _ (by omega) (by omega)) (by simp [HeapsOk])))
      intro ds
      conv => whnf
      exact ⟨rfl, F3⟩
    | some y =>
      conv => whnf
      refine ⟨by kernel_rfl, ?_, ?_⟩
      · exact heaps_eq (l' := [(fa, h, H1), (fa, H1, H2)]) (by kernel_rfl) (heaps_cons (f1.keep _ (by omega) (fun x => x)) (heaps_cons (f2.keep _ (by omega) (by omega)) (by simp [HeapsOk])))
      conv => whnf
      exact ⟨rfl, F3⟩

set_option maxHeartbeats 2000000 in
theorem find_bale {p q r : Nat} {v : LV} {c : Ln} (hv : v.Is c) (hd : c.Good) {fa la : Nat} {h : Heap} (hf : Heap.at h fa = .blk [.func (.func 82) [] [.ptr p 0, .ptr q 0, .ptr r 0]]) (hfn : fa < h.n) (hl : Heap.at h la = v.blk c) {o : Option Int} {err : Int}
    (hs : ∀ m h1, h.n ≤ m → m < h1.n → KMap c false (Heap.at h1 m) → (∀ i, i < h.n → Heap.at h1 i = Heap.at h i) → ∃ e h2, CallOk Try.prog 82 [knAV v c false m, .ptr p 0, .ptr q 0, .ptr r 0] h1 .no e h2 .no ∧ (e = endI o err ∧ Foot (fun i => i = m) h1 h2)) :
    ∃ e h', CallOk Try.prog 70 [.ptr fa 0, .ptr la 0] h .no e h' .no ∧ (e = endI (orT c o) (errT c err) ∧ Foot none' h h') := by
  unfold orT errT
  refine call_by (hm := false) Try.func70 rfl ?_
  conv => whnf
  have a0 : ∀ i, i < h.n → Heap.at h i = Heap.at h i := fun i hi => rfl
  have f0 : Foot none' h h := Foot.refl _ _
  obtain ⟨e1, H1, hc1, m, rfl, m0, m1, i1, f1⟩ := know_ret v c h
  have n1 := f1.n
  obtain ⟨e2, H2, hc2, he2, f2, i2⟩ := sure_ret hv hd m1 i1
  have n2 := f2.n
  have k1 := (f1.keep fa (by omega) (fun x => x)).trans hf
  refine mixed_by (hm := false) (by kernel_rfl) (by kernel_rfl) ?_
  conv => whnf
  refine ⟨_, hf, ?_⟩
  conv => whnf
  refine ⟨_, hl, ?_⟩
  conv => whnf
  refine .heavy _ H1 (.inl hc1) ?_
  conv => whnf
  cases hcan : canT c
  · rw [hcan] at he2
    rw [if_neg (by simp)] at he2
    subst he2
    refine .heavy _ H2 (.inl hc2) ?_
    conv => whnf
    refine mOps_list (l' := []) (by kernel_rfl) ?_
    conv => whnf
    refine ⟨by kernel_rfl, ?_, ?_⟩
    · exact heaps_eq (l' := [(fa, h, H1), (fa, H1, H2)]) (by kernel_rfl) (heaps_cons (f1.keep _ (by omega) (fun x => x)) (heaps_cons (f2.keep _ (by omega) (by omega)) (by simp [HeapsOk])))
    intro ds
    conv => whnf
    exact ⟨rfl, (f0.trans f1).trans_up (N := h.n) (f2.mono fun i _ hi => by omega) (Nat.le_refl _)⟩
  · rw [hcan] at he2
    rw [if_pos rfl] at he2
    subst he2
    refine .heavy _ H2 (.inl hc2) ?_
    conv => whnf
    obtain ⟨e3, H3, hc3, he3, f3⟩ := hs m H2 (by omega) (by omega) i2 (fun i hi => (f2.keep i (by omega) (by omega)).trans ((f1.keep i (by omega) (fun x => x)).trans (a0 i hi)))
    have n3 := f3.n
    refine .heavy _ H3 (.inl hc3) ?_
    subst he3
    have F3 : Foot none' h H3 := (f0.trans f1).trans_up (N := h.n) ((f2.mono fun i _ hi => by omega).trans (f3.mono fun i _ hi => by omega)) (Nat.le_refl _)
    cases o with
    | none =>
      conv => whnf
      refine mOps_list (l' := []) (by kernel_rfl) ?_
      conv => whnf
      refine ⟨by kernel_rfl, ?_, ?_⟩
      · exact heaps_eq (l' := [(fa, h, H1), (fa, H1, H2)]) (by kernel_rfl) (heaps_cons (f1.keep _ (by omega) (fun x => x)) (heaps_cons (f2.keep _ (by omega) (by omega)) (by simp [HeapsOk])))
      intro ds
      conv => whnf
      exact ⟨rfl, F3⟩
    | some y =>
      conv => whnf
      refine ⟨by kernel_rfl, ?_, ?_⟩
      · exact heaps_eq (l' := [(fa, h, H1), (fa, H1, H2)]) (by kernel_rfl) (heaps_cons (f1.keep _ (by omega) (fun x => x)) (heaps_cons (f2.keep _ (by omega) (by omega)) (by simp [HeapsOk])))
      conv => whnf
      exact ⟨rfl, F3⟩

set_option maxHeartbeats 2000000 in
theorem find_span {p q r : Nat} {v : LV} {c : Ln} (hv : v.Is c) (hd : c.Good) {fa la : Nat} {h : Heap} (hf : Heap.at h fa = .blk [.func (.func 78) [] [.ptr p 0, .ptr q 0, .ptr r 0]]) (hfn : fa < h.n) (hl : Heap.at h la = v.blk c) (hln : la < h.n) {o : Option (Int × Int)} {err : Int}
    (hs : ∀ m h1, h.n ≤ m → m < h1.n → KMap c false (Heap.at h1 m) → (∀ i, i < h.n → Heap.at h1 i = Heap.at h i) → ∃ e h2, CallOk Try.prog 78 [knAV v c false m, .ptr p 0, .ptr q 0, .ptr r 0] h1 .no e h2 .no ∧ (e = endS o err ∧ Foot (fun i => i = m) h1 h2)) :
    ∃ e h', CallOk Try.prog 63 [.ptr fa 0, .ptr la 0] h .no e h' .no ∧ (e = endS (orT c o) (errT c err) ∧ Foot none' h h') := by
  unfold orT errT
  refine call_by (hm := false) Try.func63 rfl ?_
  conv => whnf
  generalize hG : TMap.push AB.dead h _ = G
  have Gn : G.n = h.n + 1 := by rw [← hG, push_n]
  have a0 : ∀ i, i < h.n → Heap.at G i = Heap.at h i := fun i hi => by rw [← hG]; exact at_push_lt _ _ hi
  have gz : Heap.at G h.n = .blk [.c (I 0), .c (I 0)] := by rw [← hG]; exact at_push_self _ _
  have f0 : Foot none' h G := by rw [← hG]; exact (Foot.refl _ _).push _
  clear hG
  have hf' := (a0 fa hfn).trans hf
  have hl' := (a0 la hln).trans hl
  obtain ⟨e1, H1, hc1, m, rfl, m0, m1, i1, f1⟩ := know_ret v c G
  have n1 := f1.n
  obtain ⟨e2, H2, hc2, he2, f2, i2⟩ := sure_ret hv hd m1 i1
  have n2 := f2.n
  have k1 := (f1.keep fa (by omega) (fun x => x)).trans hf'
  refine mixed_by (hm := false) (by kernel_rfl) (by kernel_rfl) ?_
  conv => whnf
  refine ⟨_, hf', ?_⟩
  conv => whnf
  refine ⟨_, hl', ?_⟩
  conv => whnf
  refine .heavy _ H1 (.inl hc1) ?_
  conv => whnf
  cases hcan : canT c
  · rw [hcan] at he2
    rw [if_neg (by simp)] at he2
    subst he2
    refine .heavy _ H2 (.inl hc2) ?_
    conv => whnf
    refine mOps_list (l' := []) (by kernel_rfl) ?_
    conv => whnf
    refine ⟨by kernel_rfl, ?_, ?_⟩
    · exact heaps_eq (l' := [(fa, G, H1), (fa, H1, H2)]) (by kernel_rfl) (heaps_cons (f1.keep _ (by omega) (fun x => x)) (heaps_cons (f2.keep _ (by omega) (by omega)) (by simp [HeapsOk])))
    intro ds
    conv => whnf
    exact ⟨rfl, (f0.trans f1).trans_up (N := h.n) (f2.mono fun i _ hi => by omega) (Nat.le_refl _)⟩
  · rw [hcan] at he2
    rw [if_pos rfl] at he2
    subst he2
    refine .heavy _ H2 (.inl hc2) ?_
    conv => whnf
    obtain ⟨e3, H3, hc3, he3, f3⟩ := hs m H2 (by omega) (by omega) i2 (fun i hi => (f2.keep i (by omega) (by omega)).trans ((f1.keep i (by omega) (fun x => x)).trans (a0 i hi)))
    have n3 := f3.n
    refine .heavy _ H3 (.inl hc3) ?_
    subst he3
    have F3 : Foot none' h H3 := (f0.trans f1).trans_up (N := h.n) ((f2.mono fun i _ hi => by omega).trans (f3.mono fun i _ hi => by omega)) (Nat.le_refl _)
    cases o with
    | none =>
      conv => whnf
      refine mOps_list (l' := []) (by kernel_rfl) ?_
      conv => whnf
      refine ⟨by kernel_rfl, ?_, ?_⟩
      · exact heaps_eq (l' := [(fa, G, H1), (fa, H1, H2)]) (by kernel_rfl) (heaps_cons (f1.keep _ (by omega) (fun x => x)) (heaps_cons (f2.keep _ (by omega) (by omega)) (by simp [HeapsOk])))
      intro ds
      conv => whnf
      exact ⟨rfl, F3⟩
    | some y =>
      conv => whnf
      refine ⟨_, (f3.keep h.n (by omega) (by omega)).trans ((f2.keep h.n (by omega) (by omega)).trans ((f1.keep h.n (by omega) (fun x => x)).trans gz)), ?_⟩
      conv => whnf
      refine ⟨by show h.n < H3.n; omega, ?_⟩
      conv => whnf
      refine ⟨by kernel_rfl, ?_, ?_⟩
      · exact heaps_eq (l' := [(fa, G, H1), (fa, H1, H2)]) (by kernel_rfl) (heaps_cons (f1.keep _ (by omega) (fun x => x)) (heaps_cons (f2.keep _ (by omega) (by omega)) (by simp [HeapsOk])))
      conv => whnf
      refine ⟨_, at_set_self _ _ (i := h.n) (by omega), ?_⟩
      conv => whnf
      exact ⟨rfl, Foot.set (k := h.n) F3 (.inr (Nat.le_refl _)) _⟩

set_option maxHeartbeats 2000000 in
theorem find_all  {v : LV} {c : Ln} (hv : v.Is c) (hd : c.Good) {fa la : Nat} {h : Heap} (hf : Heap.at h fa = .blk [.c (.func (.func 40) [] [])]) (hfn : fa < h.n) (hl : Heap.at h la = v.blk c) (hln : la < h.n) {o : Option (Int × Int)} {err : Int}
    (hs : ∀ m h1, h.n ≤ m → m < h1.n → KMap c false (Heap.at h1 m) → (∀ i, i < h.n → Heap.at h1 i = Heap.at h i) → ∃ e h2, CallOk Try.prog 40 [knAV v c false m] h1 .no e h2 .no ∧ (e = endS o err ∧ Foot (fun i => i = m) h1 h2)) :
    ∃ e h', CallOk Try.prog 63 [.ptr fa 0, .ptr la 0] h .no e h' .no ∧ (e = endS (orT c o) (errT c err) ∧ Foot none' h h') := by
  unfold orT errT
  refine call_by (hm := false) Try.func63 rfl ?_
  conv => whnf
  generalize hG : TMap.push AB.dead h _ = G
  have Gn : G.n = h.n + 1 := by rw [← hG, push_n]
  have a0 : ∀ i, i < h.n → Heap.at G i = Heap.at h i := fun i hi => by rw [← hG]; exact at_push_lt _ _ hi
  have gz : Heap.at G h.n = .blk [.c (I 0), .c (I 0)] := by rw [← hG]; exact at_push_self _ _
  have f0 : Foot none' h G := by rw [← hG]; exact (Foot.refl _ _).push _
  clear hG
  have hf' := (a0 fa hfn).trans hf
  have hl' := (a0 la hln).trans hl
  obtain ⟨e1, H1, hc1, m, rfl, m0, m1, i1, f1⟩ := know_ret v c G
  have n1 := f1.n
  obtain ⟨e2, H2, hc2, he2, f2, i2⟩ := sure_ret hv hd m1 i1
  have n2 := f2.n
  have k1 := (f1.keep fa (by omega) (fun x => x)).trans hf'
  refine mixed_by (hm := false) (by kernel_rfl) (by kernel_rfl) ?_
  conv => whnf
  refine ⟨_, hf', ?_⟩
  conv => whnf
  refine ⟨_, hl', ?_⟩
  conv => whnf
  refine .heavy _ H1 (.inl hc1) ?_
  conv => whnf
  cases hcan : canT c
  · rw [hcan] at he2
    rw [if_neg (by simp)] at he2
    subst he2
    refine .heavy _ H2 (.inl hc2) ?_
    conv => whnf
    refine mOps_list (l' := []) (by kernel_rfl) ?_
    conv => whnf
    refine ⟨by kernel_rfl, ?_, ?_⟩
    · exact heaps_eq (l' := [(fa, G, H1), (fa, H1, H2)]) (by kernel_rfl) (heaps_cons (f1.keep _ (by omega) (fun x => x)) (heaps_cons (f2.keep _ (by omega) (by omega)) (by simp [HeapsOk])))
    intro ds
    conv => whnf
    exact ⟨rfl, (f0.trans f1).trans_up (N := h.n) (f2.mono fun i _ hi => by omega) (Nat.le_refl _)⟩
  · rw [hcan] at he2
    rw [if_pos rfl] at he2
    subst he2
    refine .heavy _ H2 (.inl hc2) ?_
    conv => whnf
    obtain ⟨e3, H3, hc3, he3, f3⟩ := hs m H2 (by omega) (by omega) i2 (fun i hi => (f2.keep i (by omega) (by omega)).trans ((f1.keep i (by omega) (fun x => x)).trans (a0 i hi)))
    have n3 := f3.n
    refine .heavy _ H3 (.inl hc3) ?_
    subst he3
    have F3 : Foot none' h H3 := (f0.trans f1).trans_up (N := h.n) ((f2.mono fun i _ hi => by omega).trans (f3.mono fun i _ hi => by omega)) (Nat.le_refl _)
    cases o with
    | none =>
      conv => whnf
      refine mOps_list (l' := []) (by kernel_rfl) ?_
      conv => whnf
      refine ⟨by kernel_rfl, ?_, ?_⟩
      · exact heaps_eq (l' := [(fa, G, H1), (fa, H1, H2)]) (by kernel_rfl) (heaps_cons (f1.keep _ (by omega) (fun x => x)) (heaps_cons (f2.keep _ (by omega) (by omega)) (by simp [HeapsOk])))
      intro ds
      conv => whnf
      exact ⟨rfl, F3⟩
    | some y =>
      conv => whnf
      refine ⟨_, (f3.keep h.n (by omega) (by omega)).trans ((f2.keep h.n (by omega) (by omega)).trans ((f1.keep h.n (by omega) (fun x => x)).trans gz)), ?_⟩
      conv => whnf
      refine ⟨by show h.n < H3.n; omega, ?_⟩
      conv => whnf
      refine ⟨by kernel_rfl, ?_, ?_⟩
      · exact heaps_eq (l' := [(fa, G, H1), (fa, H1, H2)]) (by kernel_rfl) (heaps_cons (f1.keep _ (by omega) (fun x => x)) (heaps_cons (f2.keep _ (by omega) (by omega)) (by simp [HeapsOk])))
      conv => whnf
      refine ⟨_, at_set_self _ _ (i := h.n) (by omega), ?_⟩
      conv => whnf
      exact ⟨rfl, Foot.set (k := h.n) F3 (.inr (Nat.le_refl _)) _⟩
end Go.Ag
/- Layer 6: what is returned. -/
namespace Go.Ag
open Go.Proofs
set_option maxRecDepth 100000

def pairI (p : Int × Int) : CV := .tuple [I p.1, I p.2]
def pairS (p : (Int × Int) × Int) : CV := .tuple [spV p.1, I p.2]
def lineR (c : Ln) (o : Option Int) (err : Int) : Int × Int := if validL c then (match orT c o with | some y => (y, 0) | none => (0, errT c err)) else (0, 1)
def lineRS (c : Ln) (o : Option (Int × Int)) (err : Int) : (Int × Int) × Int := if validL c then (match orT c o with | some y => (y, 0) | none => ((0, 0), errT c err)) else ((0, 0), 1)
theorem bale_body {v : LV} {c : Ln} (hv : v.Is c) (hd : c.Good) {i : Nat} (hi : i < c.bales.length) {p q r m : Nat} {h : Heap} (hp : Heap.at h p = .blk [.c (.func (.func 48) [] [])]) (hq : Heap.at h q = .blk [.c (I i)]) (hr : Heap.at h r = v.blk c) (pn : p < h.n) (qn : q < h.n) (rn : r < h.n) (hm : m < h.n) (hI : KMap c false (Heap.at h m)) (mp : p ≠ m) (mq : q ≠ m) (mr : r ≠ m) :
    ∃ e h', CallOk Try.prog 82 [knAV v c false m, .ptr p 0, .ptr q 0, .ptr r 0] h .no e h' .no ∧ (e = endI (some (keepsN (thrF c false i) c)) 10 ∧ Foot (fun i => i = m) h h') := by
  refine call_by (hm := false) Try.func82 rfl ?_
  conv => whnf
  generalize hH : TMap.push AB.dead h _ = H
  have Hn : H.n = h.n + 1 := by rw [← hH]; rfl
  have b0 : Heap.at H h.n = knBlk v c false m := by rw [← hH]; exact at_push_self _ _
  have ha : ∀ i, i < h.n → Heap.at H i = Heap.at h i := fun i hi => by rw [← hH]; exact at_push_lt _ _ hi
  have f0 : Foot (fun i => i = m) h H := by rw [← hH]; exact (Foot.refl _ _).push _
  clear hH
  obtain ⟨D, hD⟩ := arr_ex (thrF c false i)
  obtain ⟨e1, H1, hc1, rfl, f1, i1⟩ := through_ret hv hd false hi (h := H) (show m < H.n by omega) (kMap_eq (ha m hm) hI) hD
  have n1 := f1.n
  refine mixed_by (hm := false) (by kernel_rfl) (by kernel_rfl) ?_
  conv => whnf
  refine ⟨_, (ha p pn).trans hp, ?_⟩
  conv => whnf
  refine ⟨_, b0, ?_⟩
  conv => whnf
  refine ⟨_, (ha q qn).trans hq, ?_⟩
  conv => whnf
  refine .heavy _ H1 (.inl hc1) ?_
  conv => whnf
  refine ⟨_, (f1.keep r (by omega) mr).trans ((ha r rn).trans hr), ?_⟩
  conv => whnf
  refine .ret _ _ (keeps_ret hD v c) rfl ?_
  conv => whnf
  refine ⟨by kernel_rfl, ?_, ?_⟩
  · exact heaps_eq (l' := [(p, H, H1), (r, H, H1)]) (by kernel_rfl) (heaps_cons (f1.keep _ (by omega) mp) (heaps_cons (f1.keep _ (by omega) mr) (by simp [HeapsOk])))
  conv => whnf
  exact ⟨rfl, f0.trans f1⟩
theorem span_body {v : LV} {c : Ln} (hv : v.Is c) (hd : c.Good) {i : Nat} (hi : i < c.bales.length) {p q r m : Nat} {h : Heap} (hp : Heap.at h p = .blk [.c (.func (.func 46) [] [])]) (hq : Heap.at h q = .blk [.c (I i)]) (hr : Heap.at h r = v.blk c) (pn : p < h.n) (qn : q < h.n) (rn : r < h.n) (hm : m < h.n) (hI : KMap c false (Heap.at h m)) (mp : p ≠ m) (mq : q ≠ m) (mr : r ≠ m) :
    ∃ e h', CallOk Try.prog 78 [knAV v c false m, .ptr p 0, .ptr q 0, .ptr r 0] h .no e h' .no ∧ (e = endS (some (spanF (thrF c false i) c.mist)) 10 ∧ Foot (fun i => i = m) h h') := by
  refine call_by (hm := false) Try.func78 rfl ?_
  conv => whnf
  generalize hH : TMap.push AB.dead (TMap.push AB.dead h _) _ = H
  have Hn : H.n = h.n + 2 := by rw [← hH]; rfl
  have b0 : Heap.at H h.n = knBlk v c false m := by rw [← hH]; exact (at_push_lt _ _ (by simp only [push_n]; omega)).trans (at_push_self _ _)
  have b1 : Heap.at H (h.n + 1) = .blk [.c (I 0), .c (I 0)] := by rw [← hH]; exact at_push_self _ _
  have ha : ∀ i, i < h.n → Heap.at H i = Heap.at h i := fun i hi => by rw [← hH]; exact (at_push_lt _ _ (by simp only [push_n]; omega)).trans (at_push_lt _ _ hi)
  have f0 : Foot (fun i => i = m) h H := by rw [← hH]; exact ((Foot.refl _ _).push _).push _
  clear hH
  obtain ⟨D, hD⟩ := arr_ex (thrF c false i)
  obtain ⟨e1, H1, hc1, rfl, f1, i1⟩ := through_ret hv hd false hi (h := H) (show m < H.n by omega) (kMap_eq (ha m hm) hI) hD
  have n1 := f1.n
  refine mixed_by (hm := false) (by kernel_rfl) (by kernel_rfl) ?_
  conv => whnf
  refine ⟨_, (ha p pn).trans hp, ?_⟩
  conv => whnf
  refine ⟨_, b0, ?_⟩
  conv => whnf
  refine ⟨_, (ha q qn).trans hq, ?_⟩
  conv => whnf
  refine .heavy _ H1 (.inl hc1) ?_
  conv => whnf
  refine ⟨_, (f1.keep r (by omega) mr).trans ((ha r rn).trans hr), ?_⟩
  conv => whnf
  refine .ret _ _ (span_ret hD v c) rfl ?_
  conv => whnf
  refine ⟨_, (f1.keep (h.n + 1) (by omega) (by omega)).trans b1, ?_⟩
  conv => whnf
  refine ⟨by show h.n + 1 < H1.n; omega, ?_⟩
  conv => whnf
  refine ⟨by kernel_rfl, ?_, ?_⟩
  · exact heaps_eq (l' := [(p, H, H1), (r, H, H1)]) (by kernel_rfl) (heaps_cons (f1.keep _ (by omega) mp) (heaps_cons (f1.keep _ (by omega) mr) (by simp [HeapsOk])))
  conv => whnf
  refine ⟨_, at_set_self _ _ (i := h.n + 1) (by omega), ?_⟩
  conv => whnf
  exact ⟨rfl, Foot.set (k := h.n + 1) (f0.trans f1) (.inr (by omega)) _⟩

set_option maxHeartbeats 2000000 in
theorem ofLine_kept  {v : LV} {c : Ln} (hv : v.Is c) {h : Heap} {o : Option Int} {err : Int}
    (hs : c.Good → ∀ m h1, h.n ≤ m → m < h1.n → KMap c false (Heap.at h1 m) → (∀ i, i < h.n → Heap.at h1 i = Heap.at h i) → ∃ e h2, CallOk Try.prog 42 [knAV v c false m] h1 .no e h2 .no ∧ (e = endI o err ∧ Foot (fun i => i = m) h1 h2)) :
    ∃ e h', CallOk Try.prog 41 [.c (v.cv c), .c (.func (.func 42) [] [])] h .no e h' .no ∧ (e = .ret (.c (pairI (lineR c o err))) ∧ Foot none' h h') := by
  unfold lineR
  refine call_by (hm := false) Try.func41 rfl ?_
  conv => whnf
  generalize hH : TMap.push AB.dead (TMap.push AB.dead h _) _ = H
  have Hn : H.n = h.n + 2 := by rw [← hH]; rfl
  have b0 : Heap.at H h.n = v.blk c := by rw [← hH]; exact (at_push_lt _ _ (by simp only [push_n]; omega)).trans (at_push_self _ _)
  have b1 : Heap.at H (h.n + 1) = .blk [.c (.func (.func 42) [] [])] := by rw [← hH]; exact at_push_self _ _
  have ha : ∀ i, i < h.n → Heap.at H i = Heap.at h i := fun i hi => by rw [← hH]; exact (at_push_lt _ _ (by simp only [push_n]; omega)).trans (at_push_lt _ _ hi)
  have f0 : Foot none' h H := by rw [← hH]; exact ((Foot.refl _ _).push _).push _
  clear hH
  refine ⟨_, b0, ?_⟩
  conv => whnf
  refine .ret (valid_ret hv) rfl ?_
  conv => whnf
  cases hval : validL c
  · conv => whnf
    exact ⟨rfl, f0⟩
  have hd := valid_good.1 hval
  obtain ⟨e1, H1, hc1, rfl, f1⟩ := ans_line (a := h.n + 1) (b := h.n) (h := H) (W := none') (o := orT c o) (err := errT c err) (fun i hi => hi.elim) (fun h1 q1 q2 => find_kept hv hd ((q2 (h.n + 1) (by omega)).trans b1) (by omega) ((q2 h.n (by omega)).trans b0) (fun m h2 w1 w2 w3 w4 => hs hd m h2 (by omega) w2 w3 (fun i hi => (w4 i (by omega)).trans ((q2 i (by omega)).trans (ha i hi)))))
  conv => whnf
  refine .inl _ H1 .no hc1 ?_
  conv => whnf
  cases ho : orT c o with
  | none =>
    conv => whnf
    exact ⟨rfl, f0.trans f1⟩
  | some y =>
    conv => whnf
    exact ⟨rfl, f0.trans f1⟩

set_option maxHeartbeats 2000000 in
theorem ofLine_proof  {v : LV} {c : Ln} (hv : v.Is c) {h : Heap} {o : Option Int} {err : Int}
    (hs : c.Good → ∀ m h1, h.n ≤ m → m < h1.n → KMap c false (Heap.at h1 m) → (∀ i, i < h.n → Heap.at h1 i = Heap.at h i) → ∃ e h2, CallOk Try.prog 43 [knAV v c false m] h1 .no e h2 .no ∧ (e = endI o err ∧ Foot (fun i => i = m) h1 h2)) :
    ∃ e h', CallOk Try.prog 41 [.c (v.cv c), .c (.func (.func 43) [] [])] h .no e h' .no ∧ (e = .ret (.c (pairI (lineR c o err))) ∧ Foot none' h h') := by
  unfold lineR
  refine call_by (hm := false) Try.func41 rfl ?_
  conv => whnf
  generalize hH : TMap.push AB.dead (TMap.push AB.dead h _) _ = H
  have Hn : H.n = h.n + 2 := by rw [← hH]; rfl
  have b0 : Heap.at H h.n = v.blk c := by rw [← hH]; exact (at_push_lt _ _ (by simp only [push_n]; omega)).trans (at_push_self _ _)
  have b1 : Heap.at H (h.n + 1) = .blk [.c (.func (.func 43) [] [])] := by rw [← hH]; exact at_push_self _ _
  have ha : ∀ i, i < h.n → Heap.at H i = Heap.at h i := fun i hi => by rw [← hH]; exact (at_push_lt _ _ (by simp only [push_n]; omega)).trans (at_push_lt _ _ hi)
  have f0 : Foot none' h H := by rw [← hH]; exact ((Foot.refl _ _).push _).push _
  clear hH
  refine ⟨_, b0, ?_⟩
  conv => whnf
  refine .ret (valid_ret hv) rfl ?_
  conv => whnf
  cases hval : validL c
  · conv => whnf
    exact ⟨rfl, f0⟩
  have hd := valid_good.1 hval
  obtain ⟨e1, H1, hc1, rfl, f1⟩ := ans_line (a := h.n + 1) (b := h.n) (h := H) (W := none') (o := orT c o) (err := errT c err) (fun i hi => hi.elim) (fun h1 q1 q2 => find_proof hv hd ((q2 (h.n + 1) (by omega)).trans b1) (by omega) ((q2 h.n (by omega)).trans b0) (fun m h2 w1 w2 w3 w4 => hs hd m h2 (by omega) w2 w3 (fun i hi => (w4 i (by omega)).trans ((q2 i (by omega)).trans (ha i hi)))))
  conv => whnf
  refine .inl _ H1 .no hc1 ?_
  conv => whnf
  cases ho : orT c o with
  | none =>
    conv => whnf
    exact ⟨rfl, f0.trans f1⟩
  | some y =>
    conv => whnf
    exact ⟨rfl, f0.trans f1⟩

set_option maxHeartbeats 2000000 in
theorem ofLine_bale {p q r : Nat} {v : LV} {c : Ln} (hv : v.Is c) {h : Heap} {o : Option Int} {err : Int}
    (hs : c.Good → ∀ m h1, h.n ≤ m → m < h1.n → KMap c false (Heap.at h1 m) → (∀ i, i < h.n → Heap.at h1 i = Heap.at h i) → ∃ e h2, CallOk Try.prog 82 [knAV v c false m, .ptr p 0, .ptr q 0, .ptr r 0] h1 .no e h2 .no ∧ (e = endI o err ∧ Foot (fun i => i = m) h1 h2)) :
    ∃ e h', CallOk Try.prog 41 [.c (v.cv c), .func (.func 82) [] [.ptr p 0, .ptr q 0, .ptr r 0]] h .no e h' .no ∧ (e = .ret (.c (pairI (lineR c o err))) ∧ Foot none' h h') := by
  unfold lineR
  refine call_by (hm := false) Try.func41 rfl ?_
  conv => whnf
  generalize hH : TMap.push AB.dead (TMap.push AB.dead h _) _ = H
  have Hn : H.n = h.n + 2 := by rw [← hH]; rfl
  have b0 : Heap.at H h.n = v.blk c := by rw [← hH]; exact (at_push_lt _ _ (by simp only [push_n]; omega)).trans (at_push_self _ _)
  have b1 : Heap.at H (h.n + 1) = .blk [.func (.func 82) [] [.ptr p 0, .ptr q 0, .ptr r 0]] := by rw [← hH]; exact at_push_self _ _
  have ha : ∀ i, i < h.n → Heap.at H i = Heap.at h i := fun i hi => by rw [← hH]; exact (at_push_lt _ _ (by simp only [push_n]; omega)).trans (at_push_lt _ _ hi)
  have f0 : Foot none' h H := by rw [← hH]; exact ((Foot.refl _ _).push _).push _
  clear hH
  refine ⟨_, b0, ?_⟩
  conv => whnf
  refine .ret (valid_ret hv) rfl ?_
  conv => whnf
  cases hval : validL c
  · conv => whnf
    exact ⟨rfl, f0⟩
  have hd := valid_good.1 hval
  obtain ⟨e1, H1, hc1, rfl, f1⟩ := ans_line (a := h.n + 1) (b := h.n) (h := H) (W := none') (o := orT c o) (err := errT c err) (fun i hi => hi.elim) (fun h1 q1 q2 => find_bale hv hd ((q2 (h.n + 1) (by omega)).trans b1) (by omega) ((q2 h.n (by omega)).trans b0) (fun m h2 w1 w2 w3 w4 => hs hd m h2 (by omega) w2 w3 (fun i hi => (w4 i (by omega)).trans ((q2 i (by omega)).trans (ha i hi)))))
  conv => whnf
  refine .inl _ H1 .no hc1 ?_
  conv => whnf
  cases ho : orT c o with
  | none =>
    conv => whnf
    exact ⟨rfl, f0.trans f1⟩
  | some y =>
    conv => whnf
    exact ⟨rfl, f0.trans f1⟩

set_option maxHeartbeats 2000000 in
theorem ofLineS_span {p q r : Nat} {v : LV} {c : Ln} (hv : v.Is c) {h : Heap} {o : Option (Int × Int)} {err : Int}
    (hs : c.Good → ∀ m h1, h.n ≤ m → m < h1.n → KMap c false (Heap.at h1 m) → (∀ i, i < h.n → Heap.at h1 i = Heap.at h i) → ∃ e h2, CallOk Try.prog 78 [knAV v c false m, .ptr p 0, .ptr q 0, .ptr r 0] h1 .no e h2 .no ∧ (e = endS o err ∧ Foot (fun i => i = m) h1 h2)) :
    ∃ e h', CallOk Try.prog 39 [.c (v.cv c), .func (.func 78) [] [.ptr p 0, .ptr q 0, .ptr r 0]] h .no e h' .no ∧ (e = .ret (.c (pairS (lineRS c o err))) ∧ Foot none' h h') := by
  unfold lineRS
  refine call_by (hm := false) Try.func39 rfl ?_
  conv => whnf
  generalize hH : TMap.push AB.dead (TMap.push AB.dead (TMap.push AB.dead h _) _) _ = H
  have Hn : H.n = h.n + 3 := by rw [← hH]; rfl
  have b0 : Heap.at H h.n = v.blk c := by rw [← hH]; exact (at_push_lt _ _ (by simp only [push_n]; omega)).trans ((at_push_lt _ _ (by simp only [push_n]; omega)).trans (at_push_self _ _))
  have b1 : Heap.at H (h.n + 1) = .blk [.func (.func 78) [] [.ptr p 0, .ptr q 0, .ptr r 0]] := by rw [← hH]; exact (at_push_lt _ _ (by simp only [push_n]; omega)).trans (at_push_self _ _)
  have b2 : Heap.at H (h.n + 2) = .blk [.c (I 0), .c (I 0)] := by rw [← hH]; exact at_push_self _ _
  have ha : ∀ i, i < h.n → Heap.at H i = Heap.at h i := fun i hi => by rw [← hH]; exact (at_push_lt _ _ (by simp only [push_n]; omega)).trans ((at_push_lt _ _ (by simp only [push_n]; omega)).trans (at_push_lt _ _ hi))
  have f0 : Foot none' h H := by rw [← hH]; exact (((Foot.refl _ _).push _).push _).push _
  clear hH
  refine ⟨_, b0, ?_⟩
  conv => whnf
  refine .ret (valid_ret hv) rfl ?_
  conv => whnf
  cases hval : validL c
  · conv => whnf
    refine ⟨_, b2, ?_⟩
    conv => whnf
    refine ⟨_, b2, ?_⟩
    conv => whnf
    refine ⟨_, at_set_self _ _ (i := h.n + 2) (by omega), ?_⟩
    conv => whnf
    exact ⟨rfl, Foot.set (k := h.n + 2) f0 (.inr (by omega)) _⟩
  have hd := valid_good.1 hval
  obtain ⟨e1, H1, hc1, rfl, f1⟩ := ans_span (a := h.n + 1) (b := h.n) (h := H) (W := none') (o := orT c o) (err := errT c err) (fun i hi => hi.elim) (fun h1 q1 q2 => find_span hv hd ((q2 (h.n + 1) (by omega)).trans b1) (by omega) ((q2 h.n (by omega)).trans b0) (by omega) (fun m h2 w1 w2 w3 w4 => hs hd m h2 (by omega) w2 w3 (fun i hi => (w4 i (by omega)).trans ((q2 i (by omega)).trans (ha i hi)))))
  have n1 := f1.n
  have c2 := (f1.keep (h.n + 2) (by omega) (fun x => x)).trans b2
  conv => whnf
  refine .inl _ H1 .no hc1 ?_
  conv => whnf
  cases ho : orT c o with
  | none =>
    conv => whnf
    refine ⟨_, c2, ?_⟩
    conv => whnf
    refine ⟨_, at_set_self _ _ (i := h.n + 2) (by omega), ?_⟩
    conv => whnf
    exact ⟨rfl, Foot.set (k := h.n + 2) (f0.trans f1) (.inr (by omega)) _⟩
  | some y =>
    conv => whnf
    refine ⟨_, c2, ?_⟩
    conv => whnf
    refine ⟨_, at_set_self _ _ (i := h.n + 2) (by omega), ?_⟩
    conv => whnf
    exact ⟨rfl, Foot.set (k := h.n + 2) (f0.trans f1) (.inr (by omega)) _⟩

set_option maxHeartbeats 2000000 in
theorem ofLineS_all  {v : LV} {c : Ln} (hv : v.Is c) {h : Heap} {o : Option (Int × Int)} {err : Int}
    (hs : c.Good → ∀ m h1, h.n ≤ m → m < h1.n → KMap c false (Heap.at h1 m) → (∀ i, i < h.n → Heap.at h1 i = Heap.at h i) → ∃ e h2, CallOk Try.prog 40 [knAV v c false m] h1 .no e h2 .no ∧ (e = endS o err ∧ Foot (fun i => i = m) h1 h2)) :
    ∃ e h', CallOk Try.prog 39 [.c (v.cv c), .c (.func (.func 40) [] [])] h .no e h' .no ∧ (e = .ret (.c (pairS (lineRS c o err))) ∧ Foot none' h h') := by
  unfold lineRS
  refine call_by (hm := false) Try.func39 rfl ?_
  conv => whnf
  generalize hH : TMap.push AB.dead (TMap.push AB.dead (TMap.push AB.dead h _) _) _ = H
  have Hn : H.n = h.n + 3 := by rw [← hH]; rfl
  have b0 : Heap.at H h.n = v.blk c := by rw [← hH]; exact (at_push_lt _ _ (by simp only [push_n]; omega)).trans ((at_push_lt _ _ (by simp only [push_n]; omega)).trans (at_push_self _ _))
  have b1 : Heap.at H (h.n + 1) = .blk [.c (.func (.func 40) [] [])] := by rw [← hH]; exact (at_push_lt _ _ (by simp only [push_n]; omega)).trans (at_push_self _ _)
  have b2 : Heap.at H (h.n + 2) = .blk [.c (I 0), .c (I 0)] := by rw [← hH]; exact at_push_self _ _
  have ha : ∀ i, i < h.n → Heap.at H i = Heap.at h i := fun i hi => by rw [← hH]; exact (at_push_lt _ _ (by simp only [push_n]; omega)).trans ((at_push_lt _ _ (by simp only [push_n]; omega)).trans (at_push_lt _ _ hi))
  have f0 : Foot none' h H := by rw [← hH]; exact (((Foot.refl _ _).push _).push _).push _
  clear hH
  refine ⟨_, b0, ?_⟩
  conv => whnf
  refine .ret (valid_ret hv) rfl ?_
  conv => whnf
  cases hval : validL c
  · conv => whnf
    refine ⟨_, b2, ?_⟩
    conv => whnf
    refine ⟨_, b2, ?_⟩
    conv => whnf
    refine ⟨_, at_set_self _ _ (i := h.n + 2) (by omega), ?_⟩
    conv => whnf
    exact ⟨rfl, Foot.set (k := h.n + 2) f0 (.inr (by omega)) _⟩
  have hd := valid_good.1 hval
  obtain ⟨e1, H1, hc1, rfl, f1⟩ := ans_span (a := h.n + 1) (b := h.n) (h := H) (W := none') (o := orT c o) (err := errT c err) (fun i hi => hi.elim) (fun h1 q1 q2 => find_all hv hd ((q2 (h.n + 1) (by omega)).trans b1) (by omega) ((q2 h.n (by omega)).trans b0) (by omega) (fun m h2 w1 w2 w3 w4 => hs hd m h2 (by omega) w2 w3 (fun i hi => (w4 i (by omega)).trans ((q2 i (by omega)).trans (ha i hi)))))
  have n1 := f1.n
  have c2 := (f1.keep (h.n + 2) (by omega) (fun x => x)).trans b2
  conv => whnf
  refine .inl _ H1 .no hc1 ?_
  conv => whnf
  cases ho : orT c o with
  | none =>
    conv => whnf
    refine ⟨_, c2, ?_⟩
    conv => whnf
    refine ⟨_, at_set_self _ _ (i := h.n + 2) (by omega), ?_⟩
    conv => whnf
    exact ⟨rfl, Foot.set (k := h.n + 2) (f0.trans f1) (.inr (by omega)) _⟩
  | some y =>
    conv => whnf
    refine ⟨_, c2, ?_⟩
    conv => whnf
    refine ⟨_, at_set_self _ _ (i := h.n + 2) (by omega), ?_⟩
    conv => whnf
    exact ⟨rfl, Foot.set (k := h.n + 2) (f0.trans f1) (.inr (by omega)) _⟩
end Go.Ag
/- Layer 6: the functions of the package. -/
namespace Go.Ag
open Go.Proofs
set_option maxRecDepth 100000

def isB (c : Ln) (b : Int) : Bool := inB' b 0 ((c.bales.length : Int) - 1)
theorem isB_nat {c : Ln} {b : Int} (h : isB c b = true) : ∃ i : Nat, b = i ∧ i < c.bales.length := by
  simp only [isB, inB', Bool.and_eq_true, decide_eq_true_eq] at h
  exact ⟨b.toNat, by omega, by omega⟩
def keepsR (c : Ln) (b : Int) : Int × Int := if validL c then (if isB c b then lineR c (some (keepsN (thrF c false b.toNat) c)) 10 else (0, 2)) else (0, 1)
def wrongR (c : Ln) (b : Int) : (Int × Int) × Int := if validL c then (if isB c b then lineRS c (some (spanF (thrF c false b.toNat) c.mist)) 10 else ((0, 0), 2)) else ((0, 0), 1)
theorem close_val {f : FuncId} {args : List CV} {c : CV} (H : ∃ e h', CallOk Try.prog f (args.map .c) TMap.nil .no e h' .no ∧ e = .ret (.c c)) : Ret Try.prog f args c := by
  obtain ⟨e, h', hc, rfl⟩ := H
  exact callOk_close hc (fuel := 1) (r := (_, [])) rfl
set_option maxHeartbeats 2000000 in
theorem ofBale_ret {v : LV} {c : Ln} (hv : v.Is c) (b : Int) (h : Heap) : ∃ e h', CallOk Try.prog 47 [.c (v.cv c), .c (I b), .c (.func (.func 48) [] [])] h .no e h' .no ∧ (e = .ret (.c (pairI (keepsR c b))) ∧ Foot none' h h') := by
  unfold keepsR
  refine call_by (hm := false) Try.func47 rfl ?_
  conv => whnf
  generalize hH : TMap.push AB.dead (TMap.push AB.dead (TMap.push AB.dead h _) _) _ = H
  have Hn : H.n = h.n + 3 := by rw [← hH]; rfl
  have b0 : Heap.at H h.n = v.blk c := by rw [← hH]; exact (at_push_lt _ _ (by simp only [push_n]; omega)).trans ((at_push_lt _ _ (by simp only [push_n]; omega)).trans (at_push_self _ _))
  have b1 : Heap.at H (h.n + 1) = .blk [.c (I b)] := by rw [← hH]; exact (at_push_lt _ _ (by simp only [push_n]; omega)).trans (at_push_self _ _)
  have b2 : Heap.at H (h.n + 2) = .blk [.c (.func (.func 48) [] [])] := by rw [← hH]; exact at_push_self _ _
  have f0 : Foot none' h H := by rw [← hH]; exact (((Foot.refl _ _).push _).push _).push _
  clear hH
  refine ⟨_, b0, ?_⟩
  conv => whnf
  refine .ret (valid_ret hv) rfl ?_
  conv => whnf
  cases hval : validL c
  · conv => whnf
    exact ⟨rfl, f0⟩
  conv => whnf
  refine ⟨_, b0, ?_⟩
  conv => whnf
  refine ⟨_, b1, ?_⟩
  conv => whnf
  refine .ret (isBale_ret hv b) rfl ?_
  conv => whnf
  rw [show inB' b 0 ((c.bales.length : Int) - 1) = isB c b from rfl]
  cases hb : isB c b
  · conv => whnf
    exact ⟨rfl, f0⟩
  obtain ⟨i, rfl, hi⟩ := isB_nat hb
  obtain ⟨e1, H1, hc1, rfl, f1⟩ := ofLine_bale (p := h.n + 2) (q := h.n + 1) (r := h.n) hv (h := H) (o := some (keepsN (thrF c false i) c)) (err := 10)
    (fun hd m h1 w1 w2 w3 w4 => bale_body hv hd hi ((w4 (h.n + 2) (by omega)).trans b2) ((w4 (h.n + 1) (by omega)).trans b1) ((w4 h.n (by omega)).trans b0) (by omega) (by omega) (by omega) w2 w3 (by omega) (by omega) (by omega))
  rw [if_pos rfl, if_pos rfl, Int.toNat_natCast]
  conv => whnf
  refine ⟨_, b0, ?_⟩
  conv => whnf
  refine .inl _ H1 .no hc1 ?_
  conv => whnf
  exact ⟨rfl, f0.trans f1⟩
set_option maxHeartbeats 2000000 in
theorem ofBaleS_ret {v : LV} {c : Ln} (hv : v.Is c) (b : Int) (h : Heap) : ∃ e h', CallOk Try.prog 45 [.c (v.cv c), .c (I b), .c (.func (.func 46) [] [])] h .no e h' .no ∧ (e = .ret (.c (pairS (wrongR c b))) ∧ Foot none' h h') := by
  unfold wrongR
  refine call_by (hm := false) Try.func45 rfl ?_
  conv => whnf
  generalize hH : TMap.push AB.dead (TMap.push AB.dead (TMap.push AB.dead (TMap.push AB.dead h _) _) _) _ = H
  have Hn : H.n = h.n + 4 := by rw [← hH]; rfl
  have b0 : Heap.at H h.n = v.blk c := by rw [← hH]; exact (at_push_lt _ _ (by simp only [push_n]; omega)).trans ((at_push_lt _ _ (by simp only [push_n]; omega)).trans ((at_push_lt _ _ (by simp only [push_n]; omega)).trans (at_push_self _ _)))
  have b1 : Heap.at H (h.n + 1) = .blk [.c (I b)] := by rw [← hH]; exact (at_push_lt _ _ (by simp only [push_n]; omega)).trans ((at_push_lt _ _ (by simp only [push_n]; omega)).trans (at_push_self _ _))
  have b2 : Heap.at H (h.n + 2) = .blk [.c (.func (.func 46) [] [])] := by rw [← hH]; exact (at_push_lt _ _ (by simp only [push_n]; omega)).trans (at_push_self _ _)
  have b3 : Heap.at H (h.n + 3) = .blk [.c (I 0), .c (I 0)] := by rw [← hH]; exact at_push_self _ _
  have f0 : Foot none' h H := by rw [← hH]; exact ((((Foot.refl _ _).push _).push _).push _).push _
  clear hH
  refine ⟨_, b0, ?_⟩
  conv => whnf
  refine .ret (valid_ret hv) rfl ?_
  conv => whnf
  cases hval : validL c
  · conv => whnf
    refine ⟨_, b3, ?_⟩
    conv => whnf
    refine ⟨_, b3, ?_⟩
    conv => whnf
    refine ⟨_, at_set_self _ _ (i := h.n + 3) (by omega), ?_⟩
    conv => whnf
    exact ⟨rfl, Foot.set (k := h.n + 3) f0 (.inr (by omega)) _⟩
  conv => whnf
  refine ⟨_, b0, ?_⟩
  conv => whnf
  refine ⟨_, b1, ?_⟩
  conv => whnf
  refine .ret (isBale_ret hv b) rfl ?_
  conv => whnf
  rw [show inB' b 0 ((c.bales.length : Int) - 1) = isB c b from rfl]
  cases hb : isB c b
  · conv => whnf
    refine ⟨_, b3, ?_⟩
    conv => whnf
    refine ⟨_, b3, ?_⟩
    conv => whnf
    refine ⟨_, at_set_self _ _ (i := h.n + 3) (by omega), ?_⟩
    conv => whnf
    exact ⟨rfl, Foot.set (k := h.n + 3) f0 (.inr (by omega)) _⟩
  obtain ⟨i, rfl, hi⟩ := isB_nat hb
  obtain ⟨e1, H1, hc1, rfl, f1⟩ := ofLineS_span (p := h.n + 2) (q := h.n + 1) (r := h.n) hv (h := H) (o := some (spanF (thrF c false i) c.mist)) (err := 10)
    (fun hd m h1 w1 w2 w3 w4 => span_body hv hd hi ((w4 (h.n + 2) (by omega)).trans b2) ((w4 (h.n + 1) (by omega)).trans b1) ((w4 h.n (by omega)).trans b0) (by omega) (by omega) (by omega) w2 w3 (by omega) (by omega) (by omega))
  have n1 := f1.n
  rw [if_pos rfl, if_pos rfl, Int.toNat_natCast]
  conv => whnf
  refine ⟨_, b0, ?_⟩
  conv => whnf
  refine .inl _ H1 .no hc1 ?_
  conv => whnf
  refine ⟨_, (f1.keep (h.n + 3) (by omega) (fun x => x)).trans b3, ?_⟩
  conv => whnf
  refine ⟨_, at_set_self _ _ (i := h.n + 3) (by omega), ?_⟩
  conv => whnf
  exact ⟨rfl, Foot.set (k := h.n + 3) (f0.trans f1) (.inr (by omega)) _⟩
/-! The functions. -/
theorem keepsX_ret {v : LV} {c : Ln} (hv : v.Is c) (b : Int) : Ret Try.prog 19 [v.cv c, I b] (pairI (keepsR c b)) := by
  refine close_val ?_
  refine call_by (hm := false) Try.func19 rfl ?_
  conv => whnf
  refine ⟨v.blk c, at_push_self _ _, ?_⟩
  conv => whnf
  obtain ⟨e1, H1, hc1, rfl, f1⟩ := ofBale_ret hv b (TMap.push .dead TMap.nil (v.blk c))
  refine .inl _ H1 .no hc1 ?_
  conv => whnf
  rfl
theorem wrongX_ret {v : LV} {c : Ln} (hv : v.Is c) (b : Int) : Ret Try.prog 18 [v.cv c, I b] (pairS (wrongR c b)) := by
  refine close_val ?_
  refine call_by (hm := false) Try.func18 rfl ?_
  conv => whnf
  generalize hH : TMap.push AB.dead (TMap.push AB.dead TMap.nil _) _ = H
  have Hn : H.n = 2 := by rw [← hH]; rfl
  have b0 : Heap.at H 0 = v.blk c := by rw [← hH]; exact (at_push_lt _ _ (by show 0 < 1; omega)).trans (at_push_self _ _)
  have b1 : Heap.at H 1 = .blk [.c (I 0), .c (I 0)] := by rw [← hH]; exact at_push_self (TMap.push _ TMap.nil _) _
  clear hH
  refine ⟨_, b0, ?_⟩
  conv => whnf
  obtain ⟨e1, H1, hc1, rfl, f1⟩ := ofBaleS_ret hv b H
  have n1 := f1.n
  refine .inl _ H1 .no hc1 ?_
  conv => whnf
  refine ⟨_, (f1.keep 1 (by omega) (fun x => x)).trans b1, ?_⟩
  conv => whnf
  refine ⟨_, at_set_self _ _ (i := 1) (by omega), ?_⟩
  conv => whnf
  rfl
def keptR (c : Ln) : Int × Int := lineR c (some (keptN c)) 10
theorem lineX_ret {v : LV} {c : Ln} (hv : v.Is c) : Ret Try.prog 15 [v.cv c] (pairI (keptR c)) := by
  refine close_val ?_
  refine call_by (hm := false) Try.func15 rfl ?_
  conv => whnf
  refine ⟨v.blk c, at_push_self _ _, ?_⟩
  conv => whnf
  obtain ⟨e1, H1, hc1, rfl, f1⟩ := ofLine_kept hv (h := TMap.push .dead TMap.nil (v.blk c)) (o := some (keptN c)) (err := 10) (fun hd m h1 w1 w2 w3 w4 => by
    obtain ⟨e, h2, q1, q2, q3, _⟩ := kept_ret hv hd w2 w3
    exact ⟨e, h2, q1, q2, q3⟩)
  refine .inl _ H1 .no hc1 ?_
  conv => whnf
  rfl
def provR (c : Ln) : Int × Int := lineR c ((provN c).map fun n => ((n : Nat) : Int)) 4
theorem proofX_ret {v : LV} {c : Ln} (hv : v.Is c) : Ret Try.prog 16 [v.cv c] (pairI (provR c)) := by
  refine close_val ?_
  refine call_by (hm := false) Try.func16 rfl ?_
  conv => whnf
  refine ⟨v.blk c, at_push_self _ _, ?_⟩
  conv => whnf
  obtain ⟨e1, H1, hc1, rfl, f1⟩ := ofLine_proof hv (h := TMap.push .dead TMap.nil (v.blk c)) (o := (provN c).map fun n => ((n : Nat) : Int)) (err := 4) (fun hd m h1 w1 w2 w3 w4 => by
    obtain ⟨e, h2, q1, q2, q3, _⟩ := proof_ret hv hd w2 w3
    rw [first_endI] at q2
    exact ⟨e, h2, q1, q2, q3⟩)
  refine .inl _ H1 .no hc1 ?_
  conv => whnf
  rfl
def mistR (c : Ln) : Int × Int := if validL c then ((mistN c : Nat), 0) else (0, 1)
theorem mistX_ret {v : LV} {c : Ln} (hv : v.Is c) : Ret Try.prog 17 [v.cv c] (pairI (mistR c)) := by
  refine close_val ?_
  unfold mistR
  refine call_by (hm := false) Try.func17 rfl ?_
  conv => whnf
  refine ⟨v.blk c, at_push_self _ _, ?_⟩
  conv => whnf
  refine .ret (valid_ret hv) rfl ?_
  conv => whnf
  cases hval : validL c
  · conv => whnf
    rfl
  have hd := valid_good.1 hval
  conv => whnf
  refine ⟨v.blk c, at_push_self _ _, ?_⟩
  conv => whnf
  obtain ⟨e1, H1, hc1, m, rfl, m0, m1, i1, f1⟩ := know_ret v c (TMap.push .dead TMap.nil (v.blk c))
  refine .inl _ H1 .no hc1 ?_
  conv => whnf
  obtain ⟨e2, H2, hc2, rfl, f2⟩ := ans_mist (v := v) (c := c) (m := m) (h := H1) (W := fun i => i = m) (o := some ((mistN c : Nat) : Int)) (err := 10) (fun i hi => by omega) (fun h1 q1 q2 => by
    obtain ⟨e, h2, q3, q4, q5, _⟩ := mistaken_ret hv hd (m := m) (h := h1) (by omega) (kMap_eq (q2 m m1) i1)
    exact ⟨e, h2, q3, q4, q5⟩)
  refine .inl _ H2 .no hc2 ?_
  conv => whnf
  rfl
def clashR (c : Ln) : Int × Int := if validL c then (if canT c then (0, 4) else match clashS c with | some y => ((y : Nat), 0) | none => (0, 4)) else (0, 1)
set_option maxHeartbeats 2000000 in
theorem clashX_ret {v : LV} {c : Ln} (hv : v.Is c) : Ret Try.prog 13 [v.cv c] (pairI (clashR c)) := by
  refine close_val ?_
  unfold clashR
  refine call_by (hm := false) Try.func13 rfl ?_
  conv => whnf
  refine ⟨v.blk c, at_push_self _ _, ?_⟩
  conv => whnf
  refine .ret (valid_ret hv) rfl ?_
  conv => whnf
  cases hval : validL c
  · conv => whnf
    rfl
  have hd := valid_good.1 hval
  have ha := allN_lt hd
  conv => whnf
  refine ⟨v.blk c, at_push_self _ _, ?_⟩
  conv => whnf
  obtain ⟨e1, H1, hc1, m, rfl, m0, m1, i1, f1⟩ := know_ret v c (TMap.push .dead TMap.nil (v.blk c))
  refine .inl _ H1 .no hc1 ?_
  conv => whnf
  refine ⟨_, at_push_self _ _, ?_⟩
  conv => whnf
  generalize hH2 : TMap.set AB.dead (TMap.push AB.dead H1 _) _ _ = H2
  have n2 : H2.n = H1.n + 1 := by rw [← hH2]; exact new_n _ _ _
  have b2 : Heap.at H2 H1.n = knBlk v c false m := by rw [← hH2]; exact at_new _ _ _
  have i2 : KMap c false (Heap.at H2 m) := kMap_eq (by rw [← hH2]; exact at_old _ _ _ m1) i1
  clear hH2
  obtain ⟨e3, H3, hc3, rfl, f3⟩ := every_ret hv hd false m H2
  have n3 := f3.n
  have b3 := (f3.keep H1.n (by omega) (fun x => x)).trans b2
  obtain ⟨e4, H4, hc4, rfl, f4, i4⟩ := possible_ret hv hd false (s := allN c) (by omega) (h := H3) (show m < H3.n by omega) (kMap_eq (f3.keep m (by omega) (fun x => x)) i2)
  have n4 := f4.n
  have b4 := (f4.keep H1.n (by omega) (by omega)).trans b3
  refine mixed_by (hm := false) (by kernel_rfl) (by kernel_rfl) ?_
  conv => whnf
  refine ⟨_, b2, ?_⟩
  conv => whnf
  refine ⟨_, b2, ?_⟩
  conv => whnf
  refine .heavy _ H3 (.inl hc3) ?_
  conv => whnf
  refine .heavy _ H4 (.inl hc4) ?_
  conv => whnf
  refine ⟨by kernel_rfl, ?_, ?_⟩
  · exact heaps_eq (l' := [(H1.n, H2, H3)]) (by kernel_rfl) (heaps_cons (f3.keep _ (by omega) (fun x => x)) (by simp [HeapsOk]))
  rw [show possB c false (allN c) = canT c from rfl]
  cases hcan : canT c
  case true =>
    conv => whnf
    rfl
  obtain ⟨e5, H5, hc5, rfl, f5⟩ := ans_clash (v := v) (c := c) (m := m) (h := H4) (W := fun i => i = m) (o := (clashS c).map fun n => ((n : Nat) : Int)) (err := 4) (fun i hi => by omega) (fun h1 q1 q2 => by
    obtain ⟨e, h2, q3, q4, q5, _⟩ := clashing_ret hv hd (m := m) (h := h1) (by omega) (kMap_eq (q2 m (by omega)) i4)
    rw [first_endI] at q4
    exact ⟨e, h2, q3, q4, q5⟩)
  conv => whnf
  refine ⟨_, b4, ?_⟩
  conv => whnf
  refine .inl _ H5 .no hc5 ?_
  conv => whnf
  cases hf : clashS c with
  | none =>
    conv => whnf
    rfl
  | some y =>
    conv => whnf
    rfl
def moreR (c : Ln) (b : Int) : Int × Int := if (wrongR c b).2 = 0 then (match moreN c b.toNat with | some y => ((y : Nat), 0) | none => (0, 4)) else (0, (wrongR c b).2)
theorem wrong_ok {c : Ln} {b : Int} (h : (wrongR c b).2 = 0) : c.Good ∧ canT c = true ∧ ∃ i : Nat, b = i ∧ i < c.bales.length := by
  unfold wrongR at h
  cases hv : validL c
  · rw [hv] at h; simp at h
  · cases hb : isB c b
    · rw [hv, hb] at h; simp at h
    · refine ⟨valid_good.1 hv, ?_, isB_nat hb⟩
      rw [hv, hb] at h
      unfold lineRS orT errT at h
      cases hc : canT c
      · rw [hv, hc] at h; simp at h
      · rfl
theorem more_body {v : LV} {c : Ln} (hv : v.Is c) (hd : c.Good) {i : Nat} (hi : i < c.bales.length) {a b : Nat} {h : Heap} (ha : Heap.at h a = v.blk c) (hb : Heap.at h b = .blk [.c (I i)]) (hbn : b < h.n) :
    ∃ e h', CallOk Try.prog 50 [.ptr a 0, .ptr b 0] h .no e h' .no ∧ (e = endI ((moreN c i).map fun n => ((n : Nat) : Int)) 4 ∧ Foot none' h h') := by
  refine call_by (hm := false) Try.func50 rfl ?_
  conv => whnf
  obtain ⟨e1, H1, hc1, m, rfl, m0, m1, i1, f1⟩ := know_ret v c h
  have n1 := f1.n
  obtain ⟨e2, H2, hc2, he2, f2, i2⟩ := more_ret hv hd hi m1 i1
  have F : Foot none' h H2 := f1.trans_up (N := h.n) (f2.mono fun i _ hi => by omega) (Nat.le_refl _)
  refine mixed_by (hm := false) (by kernel_rfl) (by kernel_rfl) ?_
  conv => whnf
  refine ⟨_, ha, ?_⟩
  conv => whnf
  refine .heavy _ H1 (.inl hc1) ?_
  conv => whnf
  refine ⟨_, (f1.keep b hbn (fun x => x)).trans hb, ?_⟩
  conv => whnf
  refine .heavy _ H2 (.inl hc2) ?_
  subst he2
  cases hf : moreN c i with
  | none =>
    conv => whnf
    refine mOps_list (l' := []) (by kernel_rfl) ?_
    conv => whnf
    refine ⟨by kernel_rfl, ?_, ?_⟩
    · exact heaps_eq (l' := [(b, h, H1)]) (by kernel_rfl) (heaps_cons (f1.keep _ hbn (fun x => x)) (by simp [HeapsOk]))
    intro ds
    conv => whnf
    exact ⟨rfl, F⟩
  | some y =>
    conv => whnf
    refine ⟨by kernel_rfl, ?_, ?_⟩
    · exact heaps_eq (l' := [(b, h, H1)]) (by kernel_rfl) (heaps_cons (f1.keep _ hbn (fun x => x)) (by simp [HeapsOk]))
    conv => whnf
    exact ⟨rfl, F⟩
set_option maxHeartbeats 2000000 in
theorem moreX_ret {v : LV} {c : Ln} (hv : v.Is c) (b : Int) : Ret Try.prog 23 [v.cv c, I b] (pairI (moreR c b)) := by
  refine close_val ?_
  unfold moreR
  have hw := wrongX_ret hv b
  cases he : decide ((wrongR c b).2 = 0)
  · rw [if_neg (of_decide_eq_false he)]
    have hne : ((wrongR c b).2 != 0) = true := by simpa using of_decide_eq_false he
    obtain ⟨⟨s, x⟩, hx⟩ : ∃ x, x = wrongR c b := ⟨_, rfl⟩
    rw [← hx] at hw hne ⊢
    dsimp only [pairS] at hw hne
    refine call_by (hm := false) Try.func23 rfl ?_
    conv => whnf
    generalize hH : TMap.push AB.dead (TMap.push AB.dead TMap.nil _) _ = H
    have b0 : Heap.at H 0 = v.blk c := by rw [← hH]; exact (at_push_lt _ _ (by show 0 < 1; omega)).trans (at_push_self _ _)
    have b1 : Heap.at H 1 = .blk [.c (I b)] := by rw [← hH]; exact at_push_self (TMap.push _ TMap.nil _) _
    clear hH
    refine ⟨_, b0, ?_⟩
    conv => whnf
    refine ⟨_, b1, ?_⟩
    conv => whnf
    refine .ret (hw) rfl ?_
    conv => whnf
    refine ⟨_, at_push_self _ _, ?_⟩
    conv => whnf
    rw [hne]
    conv => whnf
    rfl
  · have h0 : (wrongR c b).2 = 0 := of_decide_eq_true he
    rw [if_pos h0]
    obtain ⟨hd, -, i, rfl, hi⟩ := wrong_ok h0
    rw [Int.toNat_natCast]
    obtain ⟨⟨s, x⟩, hx⟩ : ∃ x, x = wrongR c i := ⟨_, rfl⟩
    rw [← hx] at hw h0
    dsimp only at h0
    subst h0
    dsimp only [pairS] at hw
    refine call_by (hm := false) Try.func23 rfl ?_
    conv => whnf
    generalize hH : TMap.push AB.dead (TMap.push AB.dead TMap.nil _) _ = H
    have Hn : H.n = 2 := by rw [← hH]; rfl
    have b0 : Heap.at H 0 = v.blk c := by rw [← hH]; exact (at_push_lt _ _ (by show 0 < 1; omega)).trans (at_push_self _ _)
    have b1 : Heap.at H 1 = .blk [.c (I i)] := by rw [← hH]; exact at_push_self (TMap.push _ TMap.nil _) _
    clear hH
    refine ⟨_, b0, ?_⟩
    conv => whnf
    refine ⟨_, b1, ?_⟩
    conv => whnf
    refine .ret (hw) rfl ?_
    conv => whnf
    refine ⟨_, at_push_self _ _, ?_⟩
    conv => whnf
    generalize hH2 : TMap.set AB.dead (TMap.push AB.dead H _) _ _ = H2
    have n2 : H2.n = 3 := by rw [← hH2]; exact (new_n _ _ _).trans (by omega)
    have c0 : Heap.at H2 0 = v.blk c := by rw [← hH2]; exact (at_old _ _ _ (by omega)).trans b0
    have c1 : Heap.at H2 1 = .blk [.c (I i)] := by rw [← hH2]; exact (at_old _ _ _ (by omega)).trans b1
    clear hH2
    obtain ⟨e5, H5, hc5, rfl, f5⟩ := ans_more (a := 0) (b := 1) (h := H2) (W := none') (o := (moreN c i).map fun n => ((n : Nat) : Int)) (err := 4) (fun i hi => hi.elim) (fun h1 q1 q2 => more_body hv hd hi ((q2 0 (by omega)).trans c0) ((q2 1 (by omega)).trans c1) (by omega))
    refine .inl _ H5 .no hc5 ?_
    conv => whnf
    cases hf : moreN c i with
    | none =>
      conv => whnf
      rfl
    | some y =>
      conv => whnf
      rfl
end Go.Ag
