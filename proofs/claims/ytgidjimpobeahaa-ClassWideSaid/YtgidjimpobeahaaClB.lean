/- Contracts of functions of layer 6: what is kept of a line, what numbers of a bale cost; truths of a line. No conditions. -/
import Derived.Test.YtgidjimpobeahaaClA
/- Layer 6: what numbers of a bale cost by those of the next one, the walk. -/
namespace Go.Ag
open Go.Proofs
set_option maxRecDepth 100000

set_option maxHeartbeats 2000000 in
theorem leading_false {v : LV} {c : Ln} (hd : c.Good) (m : Nat) {nx : Co} {X : List CV} (hX : Arr X nx) {D : List CV} (hD : Arr D (leadF (stF c false) nx)) (h : Heap) :
    ∃ e h', CallOk Try.prog 99 [knAV v c false m, .c (.agg X)] h .no e h' .no ∧ (e = .ret (.c (.agg D)) ∧ Foot none' h h') := by
  obtain ⟨Z, hZ, eZ⟩ := arrB_ex zeroCo
  have hXc := hX.ce
  refine call_by (hm := false) Try.func99 rfl ?_
  conv => whnf
  rw [box_agg (C := X)]; rotate_left; rfl; rfl; exact hXc
  conv => whnf
  refine forceL_intro ?_
  conv => whnf
  generalize hH : TMap.push AB.dead (TMap.push AB.dead (TMap.push AB.dead (TMap.push AB.dead h _) _) _) _ = H
  obtain ⟨N, hN⟩ : ∃ N, N = h.n := ⟨_, rfl⟩
  have Hn : H.n = N + 4 := by rw [← hH, hN]; rfl
  have b0 : Heap.at H N = knBlk v c false m := by rw [← hH, hN]; exact (at_push_lt _ _ (by simp only [push_n]; omega)).trans ((at_push_lt _ _ (by simp only [push_n]; omega)).trans ((at_push_lt _ _ (by simp only [push_n]; omega)).trans (at_push_self _ _)))
  have b1 : Heap.at H (N + 1) = .blk (X.map .c) := by rw [← hH, hN]; exact (at_push_lt _ _ (by simp only [push_n]; omega)).trans ((at_push_lt _ _ (by simp only [push_n]; omega)).trans (at_push_self _ _))
  have b2 : Heap.at H (N + 2) = .blk (Z.map .c) := by rw [← hH, ← eZ, hN]; exact (at_push_lt _ _ (by simp only [push_n]; omega)).trans ((at_push_self _ _).trans (by kernel_rfl))
  have b3 : Heap.at H (N + 3) = arrB zeroCo := by rw [← hH, hN]; exact (at_push_self _ _).trans (by kernel_rfl)
  have f0 : Foot none' h H := by rw [← hH]; exact ((((Foot.refl _ _).push _).push _).push _).push _
  clear hH
  rw [← hN]
  obtain ⟨F, hF⟩ : ∃ F : Co, F = leadF (stF c false) nx := ⟨_, rfl⟩
  rw [← hF] at hD
  refine loop_by (I := fun n st => ∃ (q : Nat) (g : Heap) (l : List Nat), q ≤ 31 ∧ n = 31 - q ∧ Heap.at g N = knBlk v c false m ∧ Heap.at g (N + 1) = .blk (X.map .c) ∧ Heap.at g (N + 2) = .blk (Z.map .c) ∧ Heap.at g (N + 3) = arrB (partC F zeroCo q) ∧ N + 4 ≤ g.n ∧ Foot none' h g ∧ Colls (N + 4) l g ∧
    Has st 29 [(2, .ptr N 0), (3, .ptr (N + 1) 0), (4, .ptr (N + 2) 0), (5, .ptr (N + 3) 0), (8, .c (I q))] (l.map .coll) none g) ?_ (k := 31)
    ⟨0, _, [], Nat.zero_le _, rfl, b0, b1, b2, b3.trans (by unfold arrB; rw [part_none]), by omega, f0, Colls.nil _ _, rfl, ⟨rfl, by subst hN; rfl, by subst hN; rfl, by subst hN; rfl, rfl, trivial⟩, rfl, rfl, rfl, rfl⟩
  rintro n st ⟨q, g, l, hq, rfl, g0, g1, g2, g3, gn, gf, gc, hs1⟩
  refine hs1.run (hm := false) ?_
  conv => whnf
  cases hc : decide ((q : Int) < 31)
  case false =>
    have : q = 31 := by simp at hc; omega
    subst this
    rw [arrB, part_all, ← hD] at g3
    conv => whnf
    refine ⟨_, g3, ?_⟩
    conv => whnf
    refine look_read (hD.rd) ?_
    conv => whnf
    refine ⟨_, g2, ?_⟩
    conv => whnf
    refine store_in hD.sz (hD.put hZ) ?_
    conv => whnf
    refine forceL_intro ?_
    conv => whnf
    refine Colls.run (b := N + 4) (gc.foot (Foot.set (W := fun i => i = N + 2) (k := N + 2) (Foot.refl _ _) (.inl rfl) _) (fun i _ _ _ => by omega)) (fun h' f => ?_)
    conv => whnf
    refine ⟨_, (f.keep (N + 2) (by rw [TMap.set_n]; omega) (by omega)).trans (at_set_self _ _ (i := N + 2) (by omega)), ?_⟩
    conv => whnf
    refine look_read (hD.rd) ?_
    conv => whnf
    exact ⟨rfl, (Foot.set (k := N + 2) gf (.inr (by omega)) _).trans_up f (by omega)⟩
  have hq : q < 31 := by simp at hc; omega
  conv => whnf
  refine ⟨_, at_push_self _ _, ?_⟩
  conv => whnf
  generalize hG : TMap.set AB.dead (TMap.push AB.dead g _) _ _ = G
  have Gn : G.n = g.n + 1 := by rw [← hG]; exact new_n _ _ _
  have G0 : Heap.at G N = knBlk v c false m := by rw [← hG]; exact (at_old _ _ _ (by omega)).trans g0
  have G1 : Heap.at G (N + 1) = .blk (X.map .c) := by rw [← hG]; exact (at_old _ _ _ (by omega)).trans g1
  have G2 : Heap.at G (N + 2) = .blk (Z.map .c) := by rw [← hG]; exact (at_old _ _ _ (by omega)).trans g2
  have G3 : Heap.at G (N + 3) = arrB (partC F zeroCo q) := by rw [← hG]; exact (at_old _ _ _ (by omega)).trans g3
  have G4 : Heap.at G g.n = .blk [.c (I q)] := by rw [← hG]; exact at_new _ _ _
  have Gf : Foot (fun i => g.n ≤ i) g G := by rw [← hG]; exact Foot.set ((Foot.refl _ _).push _) (.inl (Nat.le_refl _)) _
  clear hG
  obtain ⟨E, hE, eE⟩ := arrB_ex (partC F zeroCo q)
  rw [eE] at G3
  obtain ⟨E', hE', pE⟩ := hE.put1 hq 181
  refine ⟨_, G4, ?_⟩
  conv => whnf
  refine ⟨⟨by decide, by omega, by omega⟩, ?_⟩
  conv => whnf
  refine ⟨_, G3, ?_⟩
  conv => whnf
  refine look_put (pE) ?_
  conv => whnf
  refine forceL_intro ?_
  conv => whnf
  generalize hG5 : TMap.set AB.dead G _ _ = K
  have Kn : K.n = g.n + 1 := by rw [← hG5, TMap.set_n]; exact Gn
  have K0 : Heap.at K N = knBlk v c false m := by rw [← hG5]; exact (at_set_ne _ _ (by omega)).trans G0
  have K1 : Heap.at K (N + 1) = .blk (X.map .c) := by rw [← hG5]; exact (at_set_ne _ _ (by omega)).trans G1
  have K2 : Heap.at K (N + 2) = .blk (Z.map .c) := by rw [← hG5]; exact (at_set_ne _ _ (by omega)).trans G2
  have K3 : Heap.at K (N + 3) = arrB (updC (partC F zeroCo q) q (minL nx [])) := by rw [← hG5]; exact (at_set_self _ _ (by omega)).trans hE'.blk
  have K4 : Heap.at K g.n = .blk [.c (I q)] := by rw [← hG5]; exact (at_set_ne _ _ (by omega)).trans G4
  have Kf : Foot (fun i => i = N + 3 ∨ g.n ≤ i) g K := by rw [← hG5]; exact Foot.set (Gf.mono fun i _ hi => .inr hi) (.inl (.inl rfl)) _
  clear hG5
  refine ⟨_, K0, ?_⟩
  conv => whnf
  refine ⟨_, K4, ?_⟩
  conv => whnf
  refine .ret (nextD_ln hd (w := q) (by omega)) rfl ?_
  conv => whnf
  refine range_n (hm := false) (g.n + 1) Kn rfl (st_iter hd false (w := q) (by omega))
    (I := fun ys h1 => ∃ done rest, ys = oneL rest ∧ stF c false q = done ++ rest ∧ Heap.at h1 N = knBlk v c false m ∧ Heap.at h1 (N + 1) = .blk (X.map .c) ∧ Heap.at h1 (N + 2) = .blk (Z.map .c) ∧ Heap.at h1 (N + 3) = arrB (updC (partC F zeroCo q) q (minL nx done)) ∧ Heap.at h1 g.n = .blk [.c (I q)] ∧ Foot (fun i => i = N + 3 ∨ g.n ≤ i) g h1)
    (E := fun _ _ => False) (X := fun _ _ => False) ?_ ?_ ?_ ?_ ?_ ?_ ?_
  · rintro ys h1 h2 ⟨done, rest, x1, x2, x3, x4, x5, x6, x7, x8⟩ hn ff
    exact ⟨done, rest, x1, x2, (ff.keep _ (by omega) (by omega)).trans x3, (ff.keep _ (by omega) (by omega)).trans x4, (ff.keep _ (by omega) (by omega)).trans x5, (ff.keep _ (by omega) (by omega)).trans x6, (ff.keep _ (by omega) (by omega)).trans x7, x8.trans (ff.mono fun i _ hi => .inr (by omega))⟩
  · rintro _ _ _ hx
    exact hx.elim
  · exact ⟨[], _, rfl, rfl, K0, K1, K2, K3, K4, Kf⟩
  · rintro y ys h1 hn ⟨done, rest, x1, x2, x3, x4, x5, x6, x7, x8⟩
    cases rest with
    | nil => cases x1
    | cons o rest =>
    obtain ⟨rfl, rfl⟩ := List.cons.inj x1
    have ho : o < 31 := stF_bound hd false q o (by rw [x2]; simp)
    conv => whnf
    refine ⟨rfl, fun hb fb hbn => ?_⟩
    have keep : ∀ i, i < g.n + 1 → Heap.at hb i = Heap.at h1 i := fun i hi => fb.keep i (by omega) (by omega)
    have c1 := (keep (N + 1) (by omega)).trans x4
    have c3 := (keep (N + 3) (by omega)).trans x6
    have c4 := (keep g.n (by omega)).trans x7
    obtain ⟨A, hA, eA⟩ := arrB_ex (updC (partC F zeroCo q) q (minL nx done))
    rw [eA] at c3
    obtain ⟨A', hA', pA⟩ := hA.put1 hq (min (minL nx done) (nx o))
    rw [updC_same, ← minL_snoc] at hA'
    have hat := hA.at hq
    rw [updC_at] at hat
    conv => whnf
    refine draw_by (hm := false) (by kernel_rfl) (by kernel_rfl) ?_
    conv => whnf
    refine ⟨_, c4, ?_⟩
    conv => whnf
    refine ⟨_, c4, ?_⟩
    conv => whnf
    refine ⟨⟨by decide, by omega, by omega⟩, ?_⟩
    conv => whnf
    refine ⟨_, c3, ?_⟩
    conv => whnf
    refine look_read (hat) ?_
    conv => whnf
    refine ⟨⟨by decide, by omega, by omega⟩, ?_⟩
    conv => whnf
    refine ⟨_, c1, ?_⟩
    conv => whnf
    refine look_read (hX.at ho) ?_
    conv => whnf
    refine ⟨⟨by decide, by omega, by omega⟩, ?_⟩
    conv => whnf
    refine ⟨_, c3, ?_⟩
    conv => whnf
    refine look_put pA ?_
    conv => whnf
    refine ⟨by show N + 3 < hb.n; omega, ?_⟩
    conv => whnf
    refine forceL_intro ?_
    conv => whnf
    refine ⟨by kernel_rfl, ?_⟩
    conv => whnf
    exact ⟨Foot.set (k := N + 3) (Foot.refl _ _) (.inl (by omega)) _, done ++ [o], rest, rfl, by rw [x2]; simp, (at_set_ne _ _ (i := N) (k := N + 3) (by omega)).trans ((keep N (by omega)).trans x3), (at_set_ne _ _ (i := N + 1) (k := N + 3) (by omega)).trans c1, (at_set_ne _ _ (i := N + 2) (k := N + 3) (by omega)).trans ((keep (N + 2) (by omega)).trans x5), (at_set_self _ _ (i := N + 3) (by omega)).trans hA'.blk, (at_set_ne _ _ (i := g.n) (k := N + 3) (by omega)).trans c4, Foot.set (k := N + 3) (x8.trans (fb.mono fun i _ hi => .inr (by omega))) (.inl (.inl rfl)) _⟩
  · rintro h1 hn hc1 ⟨done, rest, x1, x2, x3, x4, x5, x6, x7, x8⟩
    have : rest = [] := by cases rest with | nil => rfl | cons a l => cases x1
    subst this
    rw [List.append_nil] at x2
    have hval : minL nx done = F q := by rw [hF, ← x2]; rfl
    rw [hval, part_upd] at x6
    conv => whnf
    refine ⟨((q + 1 : Nat) : Int), by rw [wrap_eq (by omega) (by omega)]; omega, ?_⟩
    conv => whnf
    exact ⟨31 - (q + 1), by omega, q + 1, h1, (g.n + 1) :: l, by omega, rfl, x3, x4, x5, x6, by omega, gf.trans_up (N := N) (x8.mono fun i _ hi => by omega) (by omega), gc.cons (x8.mono fun i _ hi => by omega) (by omega) (by omega) (by omega) hc1, rfl, ⟨rfl, rfl, rfl, rfl, rfl, trivial⟩, rfl, rfl, rfl, rfl⟩
  · rintro _ _ _ _ hx
    exact hx.elim
  · rintro x h1 _ _ hx
    exact hx.elim

set_option maxHeartbeats 2000000 in
theorem leading_true {v : LV} {c : Ln} (hd : c.Good) (m : Nat) {nx : Co} {X : List CV} (hX : Arr X nx) {D : List CV} (hD : Arr D (leadF (stF c true) nx)) (h : Heap) :
    ∃ e h', CallOk Try.prog 99 [knAV v c true m, .c (.agg X)] h .no e h' .no ∧ (e = .ret (.c (.agg D)) ∧ Foot none' h h') := by
  obtain ⟨Z, hZ, eZ⟩ := arrB_ex zeroCo
  have hXc := hX.ce
  refine call_by (hm := false) Try.func99 rfl ?_
  conv => whnf
  rw [box_agg (C := X)]; rotate_left; rfl; rfl; exact hXc
  conv => whnf
  refine forceL_intro ?_
  conv => whnf
  generalize hH : TMap.push AB.dead (TMap.push AB.dead (TMap.push AB.dead (TMap.push AB.dead h _) _) _) _ = H
  obtain ⟨N, hN⟩ : ∃ N, N = h.n := ⟨_, rfl⟩
  have Hn : H.n = N + 4 := by rw [← hH, hN]; rfl
  have b0 : Heap.at H N = knBlk v c true m := by rw [← hH, hN]; exact (at_push_lt _ _ (by simp only [push_n]; omega)).trans ((at_push_lt _ _ (by simp only [push_n]; omega)).trans ((at_push_lt _ _ (by simp only [push_n]; omega)).trans (at_push_self _ _)))
  have b1 : Heap.at H (N + 1) = .blk (X.map .c) := by rw [← hH, hN]; exact (at_push_lt _ _ (by simp only [push_n]; omega)).trans ((at_push_lt _ _ (by simp only [push_n]; omega)).trans (at_push_self _ _))
  have b2 : Heap.at H (N + 2) = .blk (Z.map .c) := by rw [← hH, ← eZ, hN]; exact (at_push_lt _ _ (by simp only [push_n]; omega)).trans ((at_push_self _ _).trans (by kernel_rfl))
  have b3 : Heap.at H (N + 3) = arrB zeroCo := by rw [← hH, hN]; exact (at_push_self _ _).trans (by kernel_rfl)
  have f0 : Foot none' h H := by rw [← hH]; exact ((((Foot.refl _ _).push _).push _).push _).push _
  clear hH
  rw [← hN]
  obtain ⟨F, hF⟩ : ∃ F : Co, F = leadF (stF c true) nx := ⟨_, rfl⟩
  rw [← hF] at hD
  refine loop_by (I := fun n st => ∃ (q : Nat) (g : Heap) (l : List Nat), q ≤ 31 ∧ n = 31 - q ∧ Heap.at g N = knBlk v c true m ∧ Heap.at g (N + 1) = .blk (X.map .c) ∧ Heap.at g (N + 2) = .blk (Z.map .c) ∧ Heap.at g (N + 3) = arrB (partC F zeroCo q) ∧ N + 4 ≤ g.n ∧ Foot none' h g ∧ Colls (N + 4) l g ∧
    Has st 29 [(2, .ptr N 0), (3, .ptr (N + 1) 0), (4, .ptr (N + 2) 0), (5, .ptr (N + 3) 0), (8, .c (I q))] (l.map .coll) none g) ?_ (k := 31)
    ⟨0, _, [], Nat.zero_le _, rfl, b0, b1, b2, b3.trans (by unfold arrB; rw [part_none]), by omega, f0, Colls.nil _ _, rfl, ⟨rfl, by subst hN; rfl, by subst hN; rfl, by subst hN; rfl, rfl, trivial⟩, rfl, rfl, rfl, rfl⟩
  rintro n st ⟨q, g, l, hq, rfl, g0, g1, g2, g3, gn, gf, gc, hs1⟩
  refine hs1.run (hm := false) ?_
  conv => whnf
  cases hc : decide ((q : Int) < 31)
  case false =>
    have : q = 31 := by simp at hc; omega
    subst this
    rw [arrB, part_all, ← hD] at g3
    conv => whnf
    refine ⟨_, g3, ?_⟩
    conv => whnf
    refine look_read (hD.rd) ?_
    conv => whnf
    refine ⟨_, g2, ?_⟩
    conv => whnf
    refine store_in hD.sz (hD.put hZ) ?_
    conv => whnf
    refine forceL_intro ?_
    conv => whnf
    refine Colls.run (b := N + 4) (gc.foot (Foot.set (W := fun i => i = N + 2) (k := N + 2) (Foot.refl _ _) (.inl rfl) _) (fun i _ _ _ => by omega)) (fun h' f => ?_)
    conv => whnf
    refine ⟨_, (f.keep (N + 2) (by rw [TMap.set_n]; omega) (by omega)).trans (at_set_self _ _ (i := N + 2) (by omega)), ?_⟩
    conv => whnf
    refine look_read (hD.rd) ?_
    conv => whnf
    exact ⟨rfl, (Foot.set (k := N + 2) gf (.inr (by omega)) _).trans_up f (by omega)⟩
  have hq : q < 31 := by simp at hc; omega
  conv => whnf
  refine ⟨_, at_push_self _ _, ?_⟩
  conv => whnf
  generalize hG : TMap.set AB.dead (TMap.push AB.dead g _) _ _ = G
  have Gn : G.n = g.n + 1 := by rw [← hG]; exact new_n _ _ _
  have G0 : Heap.at G N = knBlk v c true m := by rw [← hG]; exact (at_old _ _ _ (by omega)).trans g0
  have G1 : Heap.at G (N + 1) = .blk (X.map .c) := by rw [← hG]; exact (at_old _ _ _ (by omega)).trans g1
  have G2 : Heap.at G (N + 2) = .blk (Z.map .c) := by rw [← hG]; exact (at_old _ _ _ (by omega)).trans g2
  have G3 : Heap.at G (N + 3) = arrB (partC F zeroCo q) := by rw [← hG]; exact (at_old _ _ _ (by omega)).trans g3
  have G4 : Heap.at G g.n = .blk [.c (I q)] := by rw [← hG]; exact at_new _ _ _
  have Gf : Foot (fun i => g.n ≤ i) g G := by rw [← hG]; exact Foot.set ((Foot.refl _ _).push _) (.inl (Nat.le_refl _)) _
  clear hG
  obtain ⟨E, hE, eE⟩ := arrB_ex (partC F zeroCo q)
  rw [eE] at G3
  obtain ⟨E', hE', pE⟩ := hE.put1 hq 181
  refine ⟨_, G4, ?_⟩
  conv => whnf
  refine ⟨⟨by decide, by omega, by omega⟩, ?_⟩
  conv => whnf
  refine ⟨_, G3, ?_⟩
  conv => whnf
  refine look_put (pE) ?_
  conv => whnf
  refine forceL_intro ?_
  conv => whnf
  generalize hG5 : TMap.set AB.dead G _ _ = K
  have Kn : K.n = g.n + 1 := by rw [← hG5, TMap.set_n]; exact Gn
  have K0 : Heap.at K N = knBlk v c true m := by rw [← hG5]; exact (at_set_ne _ _ (by omega)).trans G0
  have K1 : Heap.at K (N + 1) = .blk (X.map .c) := by rw [← hG5]; exact (at_set_ne _ _ (by omega)).trans G1
  have K2 : Heap.at K (N + 2) = .blk (Z.map .c) := by rw [← hG5]; exact (at_set_ne _ _ (by omega)).trans G2
  have K3 : Heap.at K (N + 3) = arrB (updC (partC F zeroCo q) q (minL nx [])) := by rw [← hG5]; exact (at_set_self _ _ (by omega)).trans hE'.blk
  have K4 : Heap.at K g.n = .blk [.c (I q)] := by rw [← hG5]; exact (at_set_ne _ _ (by omega)).trans G4
  have Kf : Foot (fun i => i = N + 3 ∨ g.n ≤ i) g K := by rw [← hG5]; exact Foot.set (Gf.mono fun i _ hi => .inr hi) (.inl (.inl rfl)) _
  clear hG5
  refine ⟨_, K0, ?_⟩
  conv => whnf
  refine ⟨_, K4, ?_⟩
  conv => whnf
  refine .ret (nextK_ln hd (w := q) (by omega)) rfl ?_
  conv => whnf
  refine range_n (hm := false) (g.n + 1) Kn rfl (st_iter hd true (w := q) (by omega))
    (I := fun ys h1 => ∃ done rest, ys = oneL rest ∧ stF c true q = done ++ rest ∧ Heap.at h1 N = knBlk v c true m ∧ Heap.at h1 (N + 1) = .blk (X.map .c) ∧ Heap.at h1 (N + 2) = .blk (Z.map .c) ∧ Heap.at h1 (N + 3) = arrB (updC (partC F zeroCo q) q (minL nx done)) ∧ Heap.at h1 g.n = .blk [.c (I q)] ∧ Foot (fun i => i = N + 3 ∨ g.n ≤ i) g h1)
    (E := fun _ _ => False) (X := fun _ _ => False) ?_ ?_ ?_ ?_ ?_ ?_ ?_
  · rintro ys h1 h2 ⟨done, rest, x1, x2, x3, x4, x5, x6, x7, x8⟩ hn ff
    exact ⟨done, rest, x1, x2, (ff.keep _ (by omega) (by omega)).trans x3, (ff.keep _ (by omega) (by omega)).trans x4, (ff.keep _ (by omega) (by omega)).trans x5, (ff.keep _ (by omega) (by omega)).trans x6, (ff.keep _ (by omega) (by omega)).trans x7, x8.trans (ff.mono fun i _ hi => .inr (by omega))⟩
  · rintro _ _ _ hx
    exact hx.elim
  · exact ⟨[], _, rfl, rfl, K0, K1, K2, K3, K4, Kf⟩
  · rintro y ys h1 hn ⟨done, rest, x1, x2, x3, x4, x5, x6, x7, x8⟩
    cases rest with
    | nil => cases x1
    | cons o rest =>
    obtain ⟨rfl, rfl⟩ := List.cons.inj x1
    have ho : o < 31 := stF_bound hd true q o (by rw [x2]; simp)
    conv => whnf
    refine ⟨rfl, fun hb fb hbn => ?_⟩
    have keep : ∀ i, i < g.n + 1 → Heap.at hb i = Heap.at h1 i := fun i hi => fb.keep i (by omega) (by omega)
    have c1 := (keep (N + 1) (by omega)).trans x4
    have c3 := (keep (N + 3) (by omega)).trans x6
    have c4 := (keep g.n (by omega)).trans x7
    obtain ⟨A, hA, eA⟩ := arrB_ex (updC (partC F zeroCo q) q (minL nx done))
    rw [eA] at c3
    obtain ⟨A', hA', pA⟩ := hA.put1 hq (min (minL nx done) (nx o))
    rw [updC_same, ← minL_snoc] at hA'
    have hat := hA.at hq
    rw [updC_at] at hat
    conv => whnf
    refine draw_by (hm := false) (by kernel_rfl) (by kernel_rfl) ?_
    conv => whnf
    refine ⟨_, c4, ?_⟩
    conv => whnf
    refine ⟨_, c4, ?_⟩
    conv => whnf
    refine ⟨⟨by decide, by omega, by omega⟩, ?_⟩
    conv => whnf
    refine ⟨_, c3, ?_⟩
    conv => whnf
    refine look_read (hat) ?_
    conv => whnf
    refine ⟨⟨by decide, by omega, by omega⟩, ?_⟩
    conv => whnf
    refine ⟨_, c1, ?_⟩
    conv => whnf
    refine look_read (hX.at ho) ?_
    conv => whnf
    refine ⟨⟨by decide, by omega, by omega⟩, ?_⟩
    conv => whnf
    refine ⟨_, c3, ?_⟩
    conv => whnf
    refine look_put pA ?_
    conv => whnf
    refine ⟨by show N + 3 < hb.n; omega, ?_⟩
    conv => whnf
    refine forceL_intro ?_
    conv => whnf
    refine ⟨by kernel_rfl, ?_⟩
    conv => whnf
    exact ⟨Foot.set (k := N + 3) (Foot.refl _ _) (.inl (by omega)) _, done ++ [o], rest, rfl, by rw [x2]; simp, (at_set_ne _ _ (i := N) (k := N + 3) (by omega)).trans ((keep N (by omega)).trans x3), (at_set_ne _ _ (i := N + 1) (k := N + 3) (by omega)).trans c1, (at_set_ne _ _ (i := N + 2) (k := N + 3) (by omega)).trans ((keep (N + 2) (by omega)).trans x5), (at_set_self _ _ (i := N + 3) (by omega)).trans hA'.blk, (at_set_ne _ _ (i := g.n) (k := N + 3) (by omega)).trans c4, Foot.set (k := N + 3) (x8.trans (fb.mono fun i _ hi => .inr (by omega))) (.inl (.inl rfl)) _⟩
  · rintro h1 hn hc1 ⟨done, rest, x1, x2, x3, x4, x5, x6, x7, x8⟩
    have : rest = [] := by cases rest with | nil => rfl | cons a l => cases x1
    subst this
    rw [List.append_nil] at x2
    have hval : minL nx done = F q := by rw [hF, ← x2]; rfl
    rw [hval, part_upd] at x6
    conv => whnf
    refine ⟨((q + 1 : Nat) : Int), by rw [wrap_eq (by omega) (by omega)]; omega, ?_⟩
    conv => whnf
    exact ⟨31 - (q + 1), by omega, q + 1, h1, (g.n + 1) :: l, by omega, rfl, x3, x4, x5, x6, by omega, gf.trans_up (N := N) (x8.mono fun i _ hi => by omega) (by omega), gc.cons (x8.mono fun i _ hi => by omega) (by omega) (by omega) (by omega) hc1, rfl, ⟨rfl, rfl, rfl, rfl, rfl, trivial⟩, rfl, rfl, rfl, rfl⟩
  · rintro _ _ _ _ hx
    exact hx.elim
  · rintro x h1 _ _ hx
    exact hx.elim

theorem leading_ret {v : LV} {c : Ln} (hd : c.Good) (k : Bool) (m : Nat) {nx : Co} {X : List CV} (hX : Arr X nx) {D : List CV} (hD : Arr D (leadF (stF c k) nx)) (h : Heap) :
    ∃ e h', CallOk Try.prog 99 [knAV v c k m, .c (.agg X)] h .no e h' .no ∧ (e = .ret (.c (.agg D)) ∧ Foot none' h h') := by
  cases k
  · exact leading_false hd m hX hD h
  · exact leading_true hd m hX hD h
end Go.Ag
/- Layer 6: what is known is kept in a map. -/
namespace Go.Ag
open Go.Proofs
set_option maxRecDepth 100000

/-- A key: from which end, up to which bale, with which looks. -/
structure Ky where
  f : Int
  u : Nat
  s : Nat
deriving DecidableEq
def kyC (k : Ky) : CV := .agg [I k.f, I (k.u : Nat), I (k.s : Nat)]
def kyV (k : Ky) : Value := .agg #[.int .i64 k.f, .int .i64 (k.u : Nat), .int .i64 (k.s : Nat)]
theorem kyV_inj {k l : Ky} (h : kyV k = kyV l) : k = l := by
  cases k; cases l
  simp [kyV] at h
  simp only [Ky.mk.injEq]
  omega
theorem kyV_val (k : Ky) : (AV.c (kyC k)).toVal = some (kyV k) := rfl
theorem mt60 : mapType Try.prog 60 = some (122, 78) := by kernel_rfl
theorem zero78 : elemZero Try.prog 78 = some (.c (.agg (arrC zeroCo))) := by kernel_rfl
theorem pureRun_ite {α : Type} (P : Program) (c : Prop) [Decidable c] (x y : Sem α) : pureRun P (if c then x else y) = if c then pureRun P x else pureRun P y := by by_cases h : c <;> simp [h]
theorem pp0 : pureRun Try.prog program = some Try.prog := by kernel_rfl
theorem eq_intT {t : TypeId} (hu : pureRun Try.prog (underlying t) = some (.int .i64)) (d : Nat) (a b : Int) : pureRun Try.prog (Op.equalIn (d + 1) t (.int .i64 a) (.int .i64 b)) = some (a == b) := by
  unfold Op.equalIn
  rw [pureRun_bind, hu]
  simp
  rfl
theorem partT {t : TypeId} (ha : pureRun Try.prog (isAgg t) = some false) (v : Array Value) (i : Nat) (x : Value) (h : v[i]? = some x) : pureRun Try.prog (part t v i) = some x := by
  unfold part
  rw [pureRun_bind, ha]
  simp only [Option.bind_some, Bool.false_eq_true, if_false, h]
  rfl
theorem u3 : pureRun Try.prog (underlying 3) = some (.int .i64) := by kernel_rfl
theorem u119 : pureRun Try.prog (underlying 119) = some (.int .i64) := by kernel_rfl
theorem u65 : pureRun Try.prog (underlying 65) = some (.int .i64) := by kernel_rfl
theorem ag3 : pureRun Try.prog (isAgg 3) = some false := by kernel_rfl
theorem ag119 : pureRun Try.prog (isAgg 119) = some false := by kernel_rfl
theorem ag65 : pureRun Try.prog (isAgg 65) = some false := by kernel_rfl
theorem u122 : pureRun Try.prog (underlying 122) = some (.struct #[⟨"from", 119, 0, false, "", "shearworks/classer", 0⟩, ⟨"upTo", 3, 1, false, "", "shearworks/classer", 8⟩, ⟨"looks", 65, 2, false, "", "shearworks/classer", 16⟩]) := by kernel_rfl
theorem st122 : Try.prog.stoodInHeld 122 = false := by kernel_rfl
theorem key_ok (k : Ky) (e : Bool) : pureRun Try.prog (Instr.checkKey e 10000 122 (kyV k)) = some () := by kernel_rfl
theorem eq_key' (d : Nat) (k l : Ky) : pureRun Try.prog (Op.equalIn (d + 1 + 1) 122 (kyV k) (kyV l)) = some (decide (k = l)) := by
  rw [Op.equalIn.eq_def]
  simp only [pureRun_bind, u122, Option.bind_some, pp0, pureRun_ite, st122, Bool.false_eq_true, if_false, kyV]
  simp [pureRun_bind, pureRun_ite, partT ag3, partT ag119, partT ag65, eq_intT u3, eq_intT u119, eq_intT u65, pureRun_pure]
  cases k with | mk kf ku ks => cases l with | mk lf lu ls =>
  by_cases h1 : kf = lf
  · by_cases h2 : ku = lu
    · by_cases h3 : ks = ls
      · simp [h1, h2, h3, pureRun_bind, pureRun_ite, partT ag3, partT ag119, partT ag65, eq_intT u3, eq_intT u119, eq_intT u65, pureRun_pure]
      · have h3' : ¬ (ks : Int) = ls := by omega
        simp [h1, h2, h3, h3', pureRun_bind, pureRun_ite, partT ag3, partT ag119, partT ag65, eq_intT u3, eq_intT u119, eq_intT u65, pureRun_pure]
    · have h2' : ¬ (ku : Int) = lu := by omega
      simp [h1, h2, h2', pureRun_bind, pureRun_ite, partT ag3, partT ag119, partT ag65, eq_intT u3, eq_intT u119, eq_intT u65, pureRun_pure]
  · simp [h1, pureRun_bind, pureRun_ite, partT ag3, partT ag119, partT ag65, eq_intT u3, eq_intT u119, eq_intT u65, pureRun_pure]
theorem key_eq (k l : Ky) : pureRun Try.prog (Op.equal 122 (kyV k) (kyV l)) = some (decide (k = l)) := eq_key' 9998 k l
theorem find_key (k : Ky) : ∀ (ks : List Ky) (i : Nat), ∃ r, pureRun Try.prog (Instr.findAsking 122 (kyV k) (ks.map fun l => { key := kyV l, val := Go.undef, born := 0 }) i) = some r ∧
    match r with
    | none => k ∉ ks
    | some (j, _) => i ≤ j ∧ ks[j - i]? = some k
  | [], i => ⟨none, rfl, by simp⟩
  | l :: ks, i => by
    simp only [List.map_cons, Instr.findAsking, pureRun_bind, key_eq, Option.bind_some, pureRun_ite]
    by_cases h : k = l
    · subst h
      exact ⟨some (i, Go.undef), by simp [pureRun_pure], Nat.le_refl _, by simp⟩
    · obtain ⟨r, h1, h2⟩ := find_key k ks (i + 1)
      refine ⟨r, by simp [h, h1], ?_⟩
      cases r with
      | none => simp only at h2 ⊢; simp [h, h2]
      | some p =>
        simp only at h2 ⊢
        refine ⟨by omega, ?_⟩
        rw [show p.1 - i = (p.1 - (i + 1)) + 1 by omega, List.getElem?_cons_succ]
        exact h2.2
theorem key_index (k : Ky) (ks : List Ky) (e : Bool) : ∃ r, keyIndex Try.prog 122 (ks.map kyV) e (kyV k) = some r ∧ match r with
    | none => k ∉ ks
    | some j => ks[j]? = some k := by
  obtain ⟨r, h1, h2⟩ := find_key k ks 0
  have hn : pureRun Try.prog (Instr.findKey 122 (kyV k) ((ks.map kyV).map fun l => { key := l, val := Go.undef, born := 0 })) = some r := by
    simp only [Instr.findKey, pureRun_bind, u122, Option.bind_some, List.map_map, Function.comp_def]
    cases ks with
    | nil => exact h1
    | cons l ks => exact h1
  refine ⟨r.map (·.1), ?_, ?_⟩
  · simp only [keyIndex, key_ok, hn]
  · cases r with
    | none => exact h2
    | some p => simpa using h2.2

/-- What the bales on one side of a bale cost. -/
def besF (c : Ln) (k : Bool) (y : Ky) : Co := if y.f = -1 then chainF (stF c k) ((List.range y.u).reverse.map (ownF c y.s)) else chainF (stF c k) ((List.range' (y.u + 1) (c.bales.length - 1 - y.u)).map (ownF c y.s))
/-- A map that holds what some bales cost. -/
def KMap (c : Ln) (k : Bool) (b : AB) : Prop := ∃ (ks : List Ky) (vals : List AV) (borns : List Nat) (clock : Nat), b = .map (ks.map kyV) vals borns clock ∧ vals.length = ks.length ∧ ∀ (i : Nat) (y : Ky), ks[i]? = some y → vals[i]? = some (.c (.agg (arrC (besF c k y))))
theorem kMap_eq {c : Ln} {k : Bool} {b b' : AB} (e : b = b') (h : KMap c k b') : KMap c k b := e ▸ h
theorem kMap_nil (c : Ln) (k : Bool) : KMap c k (.map [] [] [] 0) := ⟨[], [], [], 0, rfl, rfl, by simp⟩
theorem k_lookup {c : Ln} {k : Bool} {rd : Nat → AB} {m : Nat} (h : KMap c k (rd m)) (y : Ky) :
    ∃ (C : List CV) (ok : Bool) (d : Co), alookup Try.prog rd 60 (.map m) (.c (kyC y)) true = some { val := .c (.tuple [.agg C, B ok]), reads := [m] } ∧ Arr C d ∧ (ok = true → d = besF c k y) := by
  obtain ⟨ks, vals, borns, clock, hb, hl, hv⟩ := h
  obtain ⟨r, h1, h2⟩ := key_index y ks (ks.map kyV).isEmpty
  unfold alookup
  simp only [mt60, kyV_val, mapOf, hb, h1]
  cases r with
  | none =>
    refine ⟨arrC zeroCo, false, zeroCo, ?_, rfl, fun h => by cases h⟩
    simp only [zero78]; rfl
  | some j =>
    have := hv j y h2
    refine ⟨arrC (besF c k y), true, _, ?_, rfl, fun _ => rfl⟩
    simp only [this]; rfl
theorem k_update {c : Ln} {k : Bool} {rd : Nat → AB} {m : Nat} (h : KMap c k (rd m)) (y : Ky) {C : List CV} (hC : Arr C (besF c k y)) : ∃ b, amapUpdate Try.prog rd 60 (.map m) (.c (kyC y)) (.c (.agg C)) = some { val := .undef, reads := [m], upds := [(m, b)] } ∧ KMap c k b := by
  unfold Arr at hC
  subst hC
  obtain ⟨ks, vals, borns, clock, hb, hl, hv⟩ := h
  obtain ⟨r, h1, h2⟩ := key_index y ks false
  unfold amapUpdate
  simp only [mt60, kyV_val, hb, h1]
  cases r with
  | none =>
    refine ⟨_, rfl, ks ++ [y], vals ++ [.c (.agg (arrC (besF c k y)))], borns ++ [clock], clock + 1, by simp, by simp [hl], ?_⟩
    intro i l hi
    by_cases hlt : i < ks.length
    · rw [List.getElem?_append_left hlt] at hi
      rw [List.getElem?_append_left (by omega)]
      exact hv i l hi
    · rw [List.getElem?_append_right (by omega)] at hi
      rw [List.getElem?_append_right (by omega), hl]
      have : i - ks.length = 0 := by
        rcases Nat.eq_zero_or_pos (i - ks.length) with h | h
        · exact h
        · rw [List.getElem?_eq_none (by simp; omega)] at hi; cases hi
      rw [this] at hi ⊢
      simp at hi ⊢
      rw [hi]
  | some j =>
    have h2 : ks[j]? = some y := h2
    have hjl : j < ks.length := by
      rcases Nat.lt_or_ge j ks.length with h | h
      · exact h
      · rw [List.getElem?_eq_none h] at h2; cases h2
    have hj : (ks.map kyV)[j]? = some (kyV y) := by simp only [List.getElem?_map]; rw [h2]; rfl
    have hs : Instr.sameBits 10000 (kyV y) (kyV y) = true := by
      have : ∀ n : Int, Instr.sameBits 9999 (.int .i64 n) (.int .i64 n) = true := fun n => by simp [Instr.sameBits]
      unfold kyV
      rw [show (10000 : Nat) = 9999 + 1 from rfl]
      simp [Instr.sameBits]
    simp only [hj, hs, if_true]
    refine ⟨_, rfl, ks, vals.set j (.c (.agg (arrC (besF c k y)))), borns, clock, ?_, by simp [hl], ?_⟩
    · congr 1
      apply List.ext_getElem?
      intro i
      rw [List.getElem?_set]
      by_cases hij : j = i
      · subst hij; rw [hj]; simp [hjl]
      · simp [hij]
    · intro i l hi
      rw [List.getElem?_set]
      by_cases hij : j = i
      · subst hij
        rw [h2] at hi
        obtain rfl := Option.some.inj hi
        simp [hl, hjl]
      · simp [hij, hv i l hi]
/-! The next bale. -/
theorem besF_front0 {c : Ln} {k : Bool} (s : Nat) : besF c k ⟨-1, 0, s⟩ = zeroCo := by unfold besF; rw [if_pos rfl]; rfl
theorem besF_front {c : Ln} {k : Bool} (u s : Nat) : besF c k ⟨-1, u + 1, s⟩ = leadF (stF c k) fun w => ownF c s u w + besF c k ⟨-1, u, s⟩ w := by
  unfold besF; rw [if_pos rfl, if_pos rfl, List.range_succ, List.reverse_append]; rfl
theorem besF_back0 {c : Ln} {k : Bool} {u : Nat} (s : Nat) (h : c.bales.length ≤ u + 1) : besF c k ⟨1, u, s⟩ = zeroCo := by
  unfold besF; rw [if_neg (by show ¬ (1 : Int) = -1; omega)]
  dsimp only
  rw [show c.bales.length - 1 - u = 0 by omega]; rfl
theorem besF_back {c : Ln} {k : Bool} {u : Nat} (s : Nat) (h : u + 1 < c.bales.length) : besF c k ⟨1, u, s⟩ = leadF (stF c k) fun w => ownF c s (u + 1) w + besF c k ⟨1, u + 1, s⟩ w := by
  unfold besF; rw [if_neg (by show ¬ (1 : Int) = -1; omega), if_neg (by show ¬ (1 : Int) = -1; omega)]
  dsimp only
  rw [show c.bales.length - 1 - u = (c.bales.length - 1 - (u + 1)) + 1 by omega, List.range'_succ]; rfl
theorem ownF_congr {c : Ln} {s t i : Nat} (h : s.testBit i = t.testBit i) : ownF c s i = ownF c t i := by unfold ownF ownB; rw [h]
theorem besF_congr {c : Ln} {k : Bool} {f : Int} {u s t : Nat} (h : ∀ i, (if f = -1 then i < u else u < i) → s.testBit i = t.testBit i) : besF c k ⟨f, u, s⟩ = besF c k ⟨f, u, t⟩ := by
  unfold besF
  dsimp only
  split
  · rename_i hf
    congr 1
    apply List.map_congr_left
    intro i hi
    exact ownF_congr (h i (by rw [if_pos hf]; exact List.mem_range.1 (List.mem_reverse.1 hi)))
  · rename_i hf
    congr 1
    apply List.map_congr_left
    intro i hi
    have := List.mem_range'_1.1 hi
    exact ownF_congr (h i (by rw [if_neg hf]; omega))
end Go.Ag
/- Layer 6: what the bales on one side of a bale cost. -/
namespace Go.Ag
open Go.Proofs
set_option maxRecDepth 100000

def msK (c : Ln) (y : Ky) : Nat := if y.f = -1 then y.u else c.bales.length - 1 - y.u
structure Ky.Ok (c : Ln) (y : Ky) : Prop where
  f : y.f = -1 ∨ y.f = 1
  u : y.u < c.bales.length
  s : y.s < 2 ^ 62
theorem next_cases {c : Ln} (hd : c.Good) (k : Bool) {y : Ky} (hy : y.Ok c) :
    (inB' ((y.u : Int) + y.f) 0 ((c.bales.length : Int) - 1) = false ∧ besF c k y = zeroCo) ∨
    ∃ nx : Nat, (y.u : Int) + y.f = nx ∧ nx < c.bales.length ∧ besF c k y = leadF (stF c k) (fun w => ownF c y.s nx w + besF c k ⟨y.f, nx, diffN y.s (2 ^ nx)⟩ w) ∧ (⟨y.f, nx, diffN y.s (2 ^ nx)⟩ : Ky).Ok c ∧ msK c ⟨y.f, nx, diffN y.s (2 ^ nx)⟩ < msK c y := by
  obtain ⟨f, u, s⟩ := y
  obtain ⟨hf, hu, hs⟩ := hy
  dsimp only at hf hu hs ⊢
  have n6 := hd.n6
  have bit : ∀ nx i, i ≠ nx → (diffN s (2 ^ nx)).testBit i = s.testBit i := fun nx i hi => by
    rw [diffN_bit, Nat.testBit_two_pow_of_ne (Ne.symm hi)]; simp
  rcases hf with rfl | rfl
  · cases u with
    | zero => left; exact ⟨by simp [inB'], besF_front0 s⟩
    | succ u =>
      right
      refine ⟨u, by omega, by omega, ?_, ⟨.inl rfl, by show u < _; omega, diffN_lt hs⟩, by simp [msK]⟩
      rw [besF_front, besF_congr (s := diffN s (2 ^ u)) (t := s) (fun i hi => by rw [if_pos rfl] at hi; exact bit u i (by omega))]
  · by_cases hl : u + 1 < c.bales.length
    · right
      refine ⟨u + 1, by omega, hl, ?_, ⟨.inr rfl, hl, diffN_lt hs⟩, by simp [msK]; omega⟩
      rw [besF_back s hl, besF_congr (u := u + 1) (s := diffN s (2 ^ (u + 1))) (t := s) (fun i hi => by rw [if_neg (by omega)] at hi; exact bit (u + 1) i (by omega))]
    · left
      refine ⟨by simp [inB']; omega, besF_back0 s (by omega)⟩
theorem besF_low {c : Ln} (hd : c.Good) (k : Bool) {y : Ky} : ∀ w, 0 ≤ besF c k y w ∧ besF c k y w ≤ 181 := fun w => by
  have h0 : ∀ (l : List Nat), ∀ o ∈ l.map (ownF c y.s), ∀ w, 0 ≤ o w := fun l o ho w => by
    obtain ⟨i, -, rfl⟩ := List.mem_map.1 ho
    exact costB_0 w
  unfold besF
  split
  · exact ⟨chain_0 (h0 _) w, chain_181 w⟩
  · exact ⟨chain_0 (h0 _) w, chain_181 w⟩
theorem own_low {c : Ln} (hd : c.Good) {s i : Nat} (hi : i < c.bales.length) : Low (ownF c s i) :=
  ⟨fun w => costB_0 w, fun w => Int.le_trans (costB_181 (ownB_good hd hi s) w) (by omega)⟩
theorem bes_low {c : Ln} (hd : c.Good) (k : Bool) (y : Ky) : Low (besF c k y) :=
  ⟨fun w => (besF_low hd k w).1, fun w => Int.le_trans (besF_low hd k w).2 (by omega)⟩

theorem flat_sl {α : Type} {sz : Nat} : ∀ (rows : List (List α)) (_ : ∀ r ∈ rows, r.length = sz) (i : Nat) (r : List α), rows[i]? = some r → sliceOf rows.flatten (0 + i * sz) sz = some r
  | [], _, i, r, h => by simp at h
  | r0 :: rows, hr, 0, r, h => by
    simp only [List.getElem?_cons_zero, Option.some.injEq] at h
    subst h
    have h0 := hr r0 (by simp)
    rw [Nat.zero_mul, List.flatten_cons]
    exact sl_take h0
  | r0 :: rows, hr, i + 1, r, h => by
    have h0 := hr r0 (by simp)
    have ih := flat_sl rows (fun x hx => hr x (by simp [hx])) i r (by simpa using h)
    unfold sliceOf at ih ⊢
    rw [List.flatten_cons, show 0 + (i + 1) * sz = r0.length + (0 + i * sz) by rw [Nat.add_mul]; omega, List.drop_length_add_append]
    exact ih
theorem Arr.lit {D : List CV} {c : Co} (h : Arr D c) : ∀ x ∈ D, ∃ v, x = CV.lit v := by
  intro x hx
  rw [h] at hx
  obtain ⟨i, -, rfl⟩ := List.mem_map.1 hx
  exact ⟨_, rfl⟩
theorem Arr.plain {D : List CV} {c : Co} (h : Arr D c) : (CV.agg D).plain = true := by
  have : ∀ l : List Nat, CV.plains (l.map fun j => I (c j)) = true := by
    intro l
    induction l with
    | nil => rfl
    | cons a l ih => exact ih
  rw [h]
  exact this _
def rowsA (ds : List Co) : List CV := (ds.map arrC).flatten
theorem rowsA_sl (ds : List Co) : SlOf 31 (ds.map arrC) (rowsA ds) 0 ds.length := by
  refine ⟨by simp, fun i r h => ?_⟩
  exact flat_sl (ds.map arrC) (sz := 31) (fun r hr => by obtain ⟨d, -, rfl⟩ := List.mem_map.1 hr; exact arrC_len d) i r h

theorem u131 : Try.prog.underlying 131 = some (.slice 78) := by kernel_rfl
theorem sp78 : slicePart Try.prog 78 = some 31 := by kernel_rfl
def z31 : List AV := List.replicate 31 (AV.lit (.int .i64 0))
theorem zc78 : zeroCells Try.prog 78 = some z31 := by kernel_rfl
theorem zcZ {Z : List CV} (h : Arr Z zeroCo) : zeroCells Try.prog 78 = some (Z.map .c) := by rw [h]; kernel_rfl
theorem rep62 : repeatCells z31 (2 * 31) = [] ++ (z31 ++ z31) := by kernel_rfl
theorem rep93 : repeatCells z31 (3 * 31) = [] ++ (z31 ++ (z31 ++ z31)) := by kernel_rfl
theorem put_at {a b r v : List AV} {n : Nat} (hn : n = a.length) (h : b.length = v.length) : putAt (a ++ (b ++ r)) n v = some (a ++ (v ++ r)) := by
  subst hn
  simp only [putAt]
  rw [if_pos (by simp only [List.length_append]; omega), List.take_left, ← h]
  congr 1
  rw [← List.append_assoc a b r, List.drop_left' (by simp), List.append_assoc]
theorem aop_bs2 {o : Oper} {x y : Operand} {σ : Operand → AV} {rd : Nat → AB} {n : Nat} {A B : List CV} {c d : Co} (ho : o.op = .buildSlice 131 2 #[(0, x), (1, y)]) (hx : σ x = .c (.agg A)) (hy : σ y = .c (.agg B)) (hA : Arr A c) (hB : Arr B d) :
    aop Try.prog o σ rd n = some (.simple { val := .msl n 31 0 2 2, fresh := some (.blk ((A ++ B).map .c)) }) := by
  unfold aop
  rw [ho]
  have e : partsOf σ #[(0, x), (1, y)] = [(0, σ x), (1, σ y)] := rfl
  have lA : (A.map AV.c).length = 31 := by rw [List.length_map, hA.len]
  have lB : (B.map AV.c).length = 31 := by rw [List.length_map, hB.len]
  have cA : (AV.c (.agg A)).cells = A.map AV.c := rfl
  have cB : (AV.c (.agg B)).cells = B.map AV.c := rfl
  have p1 : putAt ([] ++ (z31 ++ z31)) (0 * 31) (A.map AV.c) = some ([] ++ (A.map AV.c ++ z31)) := put_at rfl (by rw [lA]; rfl)
  have p2 : putAt ([] ++ (A.map AV.c ++ z31)) (1 * 31) (B.map AV.c) = some (A.map AV.c ++ (B.map AV.c ++ [])) := by
    have := put_at (a := A.map AV.c) (b := z31) (r := []) (v := B.map AV.c) (n := 1 * 31) (by rw [lA]) (by rw [lB]; rfl)
    rwa [List.append_nil z31] at this
  have hc : (A.map AV.c ++ (B.map AV.c ++ [])).all AV.cellish = true := by
    rw [List.append_nil, List.all_append, hA.ce, hB.ce]; rfl
  simp only [e, hx, hy, abuildSlice, u131, sp78, zc78, rep62, afill, Option.bind_some, cA, cB, lA, lB, hA.ce, hB.ce, and_self, if_true, p1, p2, hc, simp?, Option.map_some]
  rw [if_pos (by decide)]
  simp
theorem aop_bs3 {o : Oper} {x y z : Operand} {σ : Operand → AV} {rd : Nat → AB} {n : Nat} {A B C : List CV} {c d e : Co} (ho : o.op = .buildSlice 131 3 #[(0, x), (1, y), (2, z)]) (hx : σ x = .c (.agg A)) (hy : σ y = .c (.agg B)) (hz : σ z = .c (.agg C)) (hA : Arr A c) (hB : Arr B d) (hC : Arr C e) :
    aop Try.prog o σ rd n = some (.simple { val := .msl n 31 0 3 3, fresh := some (.blk ((A ++ (B ++ C)).map .c)) }) := by
  unfold aop
  rw [ho]
  have e : partsOf σ #[(0, x), (1, y), (2, z)] = [(0, σ x), (1, σ y), (2, σ z)] := rfl
  have lA : (A.map AV.c).length = 31 := by rw [List.length_map, hA.len]
  have lB : (B.map AV.c).length = 31 := by rw [List.length_map, hB.len]
  have lC : (C.map AV.c).length = 31 := by rw [List.length_map, hC.len]
  have cA : (AV.c (.agg A)).cells = A.map AV.c := rfl
  have cB : (AV.c (.agg B)).cells = B.map AV.c := rfl
  have cC : (AV.c (.agg C)).cells = C.map AV.c := rfl
  have p1 : putAt ([] ++ (z31 ++ (z31 ++ z31))) (0 * 31) (A.map AV.c) = some ([] ++ (A.map AV.c ++ (z31 ++ z31))) := put_at rfl (by rw [lA]; rfl)
  have p2 : putAt ([] ++ (A.map AV.c ++ (z31 ++ z31))) (1 * 31) (B.map AV.c) = some (A.map AV.c ++ (B.map AV.c ++ z31)) :=
    put_at (a := A.map AV.c) (b := z31) (r := z31) (v := B.map AV.c) (n := 1 * 31) (by rw [lA]) (by rw [lB]; rfl)
  have p3 : putAt (A.map AV.c ++ (B.map AV.c ++ z31)) (2 * 31) (C.map AV.c) = some ((A.map AV.c ++ B.map AV.c) ++ (C.map AV.c ++ [])) := by
    have := put_at (a := A.map AV.c ++ B.map AV.c) (b := z31) (r := []) (v := C.map AV.c) (n := 2 * 31) (by rw [List.length_append, lA, lB]) (by rw [lC]; rfl)
    rwa [List.append_nil z31, List.append_assoc (A.map AV.c) (B.map AV.c) z31] at this
  have hc : ((A.map AV.c ++ B.map AV.c) ++ (C.map AV.c ++ [])).all AV.cellish = true := by
    rw [List.append_nil, List.all_append, List.all_append, hA.ce, hB.ce, hC.ce]; rfl
  simp only [e, hx, hy, hz, abuildSlice, u131, sp78, zc78, rep93, afill, Option.bind_some, cA, cB, cC, lA, lB, lC, hA.ce, hB.ce, hC.ce, and_self, if_true, p1, p2, p3, hc, simp?, Option.map_some]
  rw [if_pos (by decide)]
  simp
set_option maxHeartbeats 4000000 in
theorem beside_ret {v : LV} {c : Ln} (hv : v.Is c) (hd : c.Good) (k : Bool) : ∀ (r : Nat) {y : Ky} (_ : y.Ok c) (_ : msK c y = r) {m : Nat} {h : Heap} (_ : m < h.n) (_ : KMap c k (Heap.at h m)) {D : List CV} (_ : Arr D (besF c k y)),
    ∃ e h', CallOk Try.prog 85 [knAV v c k m, .c (kyC y)] h .no e h' .no ∧ (e = .ret (.c (.agg D)) ∧ Foot (fun i => i = m) h h' ∧ KMap c k (Heap.at h' m)) := by
  intro r
  induction r using Nat.strongRecOn with
  | _ r ih =>
  intro y hy hr m h hm hI D hD
  have n6 := hd.n6
  have hyu := hy.u
  have hys := hy.s
  obtain ⟨Z, hZ, eZ⟩ := arrB_ex zeroCo
  refine call_by (hm := false) Try.func85 rfl ?_
  conv => whnf
  generalize hH : TMap.push AB.dead (TMap.push AB.dead (TMap.push AB.dead h _) _) _ = H
  have Hn : H.n = h.n + 3 := by rw [← hH]; rfl
  have b0 : Heap.at H h.n = knBlk v c k m := by rw [← hH]; exact (at_push_lt _ _ (by simp only [push_n]; omega)).trans ((at_push_lt _ _ (by simp only [push_n]; omega)).trans (at_push_self _ _))
  have b1 : Heap.at H (h.n + 1) = .blk [.c (I y.f), .c (I (y.u : Nat)), .c (I (y.s : Nat))] := by rw [← hH]; exact (at_push_lt _ _ (by simp only [push_n]; omega)).trans (at_push_self _ _)
  have b2 : Heap.at H (h.n + 2) = .blk (Z.map .c) := by rw [← hH, ← eZ]; exact (at_push_self _ _).trans (by kernel_rfl)
  have f0 : Foot (fun i => i = m) h H := by rw [← hH]; exact (((Foot.refl _ _).push _).push _).push _
  have i0 : KMap c k (Heap.at H m) := kMap_eq (by rw [← hH]; exact (at_push_lt _ _ (by simp only [push_n]; omega)).trans ((at_push_lt _ _ (by simp only [push_n]; omega)).trans (at_push_lt _ _ hm))) hI
  clear hH
  refine ⟨_, b0, ?_⟩
  conv => whnf
  refine ⟨_, b1, ?_⟩
  conv => whnf
  obtain ⟨C, ok, d, hlk, hC, hok⟩ := k_lookup (rd := Heap.at H) i0 y
  refine ⟨_, hlk, ?_⟩
  conv => whnf
  generalize hH1 : TMap.push AB.dead H _ = H1
  have H1n : H1.n = h.n + 4 := by rw [← hH1, push_n]; omega
  have c0 : Heap.at H1 h.n = knBlk v c k m := by rw [← hH1]; exact (at_push_lt _ _ (by omega)).trans b0
  have c1 : Heap.at H1 (h.n + 1) = .blk [.c (I y.f), .c (I (y.u : Nat)), .c (I (y.s : Nat))] := by rw [← hH1]; exact (at_push_lt _ _ (by omega)).trans b1
  have c2 : Heap.at H1 (h.n + 2) = .blk (Z.map .c) := by rw [← hH1]; exact (at_push_lt _ _ (by omega)).trans b2
  have c3 : Heap.at H1 H.n = .blk (Z.map .c) := by rw [← hH1, ← eZ]; exact (at_push_self _ _).trans (by kernel_rfl)
  have f1 : Foot (fun i => i = m) h H1 := by rw [← hH1]; exact f0.push _
  have i1 : KMap c k (Heap.at H1 m) := kMap_eq (by rw [← hH1]; exact at_push_lt _ _ (by omega)) i0
  clear hH1
  refine ⟨_, c3, ?_⟩
  conv => whnf
  refine store_in hC.sz (hC.put hZ) ?_
  conv => whnf
  refine forceL_intro ?_
  conv => whnf
  generalize hH2 : TMap.set AB.dead H1 _ _ = H2
  have H2n : H2.n = h.n + 4 := by rw [← hH2, TMap.set_n]; omega
  have d0 : Heap.at H2 h.n = knBlk v c k m := by rw [← hH2]; exact (at_set_ne _ _ (by omega)).trans c0
  have d1 : Heap.at H2 (h.n + 1) = .blk [.c (I y.f), .c (I (y.u : Nat)), .c (I (y.s : Nat))] := by rw [← hH2]; exact (at_set_ne _ _ (by omega)).trans c1
  have d2 : Heap.at H2 (h.n + 2) = .blk (Z.map .c) := by rw [← hH2]; exact (at_set_ne _ _ (by omega)).trans c2
  have d3 : Heap.at H2 H.n = .blk (C.map .c) := by rw [← hH2]; exact at_set_self _ _ (by omega)
  have f2 : Foot (fun i => i = m) h H2 := by rw [← hH2]; exact Foot.set f1 (.inr (by omega)) _
  have i2 : KMap c k (Heap.at H2 m) := kMap_eq (by rw [← hH2]; exact at_set_ne _ _ (by omega)) i1
  clear hH2
  cases ok
  case true =>
    have hdd := hok rfl
    subst hdd
    have hCD : C = D := hC.trans hD.symm
    subst hCD
    conv => whnf
    refine ⟨_, d3, ?_⟩
    conv => whnf
    refine look_read (hC.rd) ?_
    conv => whnf
    refine ⟨_, d2, ?_⟩
    conv => whnf
    refine store_in hC.sz (hC.put hZ) ?_
    conv => whnf
    refine forceL_intro ?_
    conv => whnf
    refine ⟨_, at_set_self _ _ (i := h.n + 2) (by omega), ?_⟩
    conv => whnf
    refine look_read (hC.rd) ?_
    conv => whnf
    exact ⟨rfl, Foot.set (k := h.n + 2) f2 (.inr (by omega)) _, kMap_eq (at_set_ne _ _ (i := m) (k := h.n + 2) (by omega)) i2⟩
  clear hok hC hlk
  conv => whnf
  generalize hH3 : TMap.push AB.dead H2 _ = H3
  have H3n : H3.n = h.n + 5 := by rw [← hH3, push_n]; omega
  have g0 : Heap.at H3 h.n = knBlk v c k m := by rw [← hH3]; exact (at_push_lt _ _ (by omega)).trans d0
  have g1 : Heap.at H3 (h.n + 1) = .blk [.c (I y.f), .c (I (y.u : Nat)), .c (I (y.s : Nat))] := by rw [← hH3]; exact (at_push_lt _ _ (by omega)).trans d1
  have g2 : Heap.at H3 (h.n + 2) = .blk (Z.map .c) := by rw [← hH3]; exact (at_push_lt _ _ (by omega)).trans d2
  have g4 : Heap.at H3 H2.n = .blk (Z.map .c) := by rw [← hH3, ← eZ]; exact (at_push_self _ _).trans (by kernel_rfl)
  have f3 : Foot (fun i => i = m) h H3 := by rw [← hH3]; exact f2.push _
  have i3 : KMap c k (Heap.at H3 m) := kMap_eq (by rw [← hH3]; exact at_push_lt _ _ (by omega)) i2
  clear hH3
  refine ⟨_, g1, ?_⟩
  conv => whnf
  refine ⟨_, g1, ?_⟩
  conv => whnf
  have hfb : -1 ≤ y.f ∧ y.f ≤ 1 := by rcases hy.f with h | h <;> omega
  refine ⟨(y.u : Int) + y.f, by rw [wrap_eq (by omega) (by omega)], ?_⟩
  conv => whnf
  refine ⟨_, g0, ?_⟩
  conv => whnf
  refine .ret (isBale_ret hv ((y.u : Int) + y.f)) rfl ?_
  conv => whnf
  rcases next_cases hd k hy with ⟨hno, hz⟩ | ⟨nx, hnx, hnl, hbs, hyn, hlt⟩
  · rw [hno]
    have hZb : Arr Z (besF c k y) := by rw [hz]; exact hZ
    have hZD : Z = D := hZb.trans hD.symm
    subst hZD
    conv => whnf
    refine ⟨_, g0, ?_⟩
    conv => whnf
    refine ⟨_, g1, ?_⟩
    conv => whnf
    refine ⟨_, g4, ?_⟩
    conv => whnf
    refine look_read (hZ.rd) ?_
    conv => whnf
    obtain ⟨b, hu, hb⟩ := k_update (rd := Heap.at H3) i3 y hZb
    refine ⟨_, hu, ?_⟩
    conv => whnf
    generalize hH5 : TMap.app AB.dead _ _ = H5
    have e5 : H5 = H3.set .dead m b := by rw [← hH5]; rfl
    have y4 : Heap.at H5 H2.n = .blk (Z.map .c) := by rw [e5]; exact (at_set_ne _ _ (by omega)).trans g4
    have y2 : Heap.at H5 (h.n + 2) = .blk (Z.map .c) := by rw [e5]; exact (at_set_ne _ _ (by omega)).trans g2
    have ym : KMap c k (Heap.at H5 m) := kMap_eq (by rw [e5]; exact at_set_self _ _ (by omega)) hb
    have yf : Foot (fun i => i = m) h H5 := by rw [e5]; exact Foot.set f3 (.inl rfl) _
    have yn : H5.n = h.n + 5 := by rw [e5, TMap.set_n]; exact H3n
    clear hH5 e5
    refine ⟨_, y4, ?_⟩
    conv => whnf
    refine look_read (hZ.rd) ?_
    conv => whnf
    refine ⟨_, y2, ?_⟩
    conv => whnf
    refine store_in hZ.sz (hZ.put hZ) ?_
    conv => whnf
    refine forceL_intro ?_
    conv => whnf
    refine ⟨_, at_set_self _ _ (i := h.n + 2) (by omega), ?_⟩
    conv => whnf
    refine look_read (hZ.rd) ?_
    conv => whnf
    exact ⟨rfl, Foot.set (k := h.n + 2) yf (.inr (by omega)) _, kMap_eq (at_set_ne _ _ (i := m) (k := h.n + 2) (by omega)) ym⟩
  · rw [show inB' ((y.u : Int) + y.f) 0 ((c.bales.length : Int) - 1) = true by simp [inB']; omega, hnx]
    obtain ⟨X, hX⟩ := arr_ex (besF c k ⟨y.f, nx, diffN y.s (2 ^ nx)⟩)
    obtain ⟨e7, H7, hc7, rfl, f7, i7⟩ := ih _ (hr ▸ hlt) hyn rfl (h := H3) (show m < H3.n by omega) i3 hX
    have n7 := f7.n
    have k0 := (f7.keep h.n (by omega) (by omega)).trans g0
    have k1 := (f7.keep (h.n + 1) (by omega) (by omega)).trans g1
    have k2 := (f7.keep (h.n + 2) (by omega) (by omega)).trans g2
    have k4 := (f7.keep H2.n (by omega) (by omega)).trans g4
    conv => whnf
    refine mixedA_by (hm := false) 10 9 (by kernel_rfl) (by kernel_rfl) ?_
    conv => whnf
    refine ⟨_, g0, ?_⟩
    conv => whnf
    refine ⟨_, g1, ?_⟩
    conv => whnf
    refine ⟨_, g1, ?_⟩
    conv => whnf
    refine .ret _ _ (without_ret y.s nx hys (by omega)) rfl ?_
    conv => whnf
    refine .heavy _ H7 (.inl hc7) ?_
    conv => whnf
    generalize hG : TMap.push AB.dead H7 _ = G
    have hGe : G = H7.push .dead (.blk (Z.map .c)) := by rw [← hG, ← eZ]; kernel_rfl
    have gz : Heap.at G H7.n = .blk (Z.map .c) := by rw [hGe]; exact at_push_self _ _
    have Gn : G.n = H7.n + 1 := by rw [hGe]; exact push_n _ _
    clear hG
    refine ⟨_, gz, ?_⟩
    conv => whnf
    refine store_in hX.sz (hX.put hZ) ?_
    conv => whnf
    refine ⟨by show H7.n < G.n; omega, ?_⟩
    conv => whnf
    refine forceL_intro ?_
    conv => whnf
    refine ⟨by kernel_rfl, heaps_nil (by kernel_rfl), by kernel_rfl, ⟨_, H7, Z, rfl, rfl, ⟨⟨_, 78, rfl, rfl, rfl, rfl, zcZ hZ⟩, rfl, by rw [← hGe]; rfl, rfl, hZ.lit⟩⟩, ?_⟩
    generalize hG2 : TMap.set AB.dead G _ _ = G2
    have G2n : G2.n = H7.n + 1 := by rw [← hG2, TMap.set_n]; exact Gn
    have gat : ∀ i, i < H7.n → Heap.at G2 i = Heap.at H7 i := fun i hi => by rw [← hG2, hGe]; exact (at_set_ne _ _ (by omega)).trans (at_push_lt _ _ hi)
    have gx : Heap.at G2 H7.n = .blk (X.map .c) := by rw [← hG2]; exact at_set_self _ _ (by omega)
    have G2f : Foot none' H7 G2 := by rw [← hG2, hGe]; exact Foot.set ((Foot.refl _ _).push _) (.inr (Nat.le_refl _)) _
    clear hG2
    obtain ⟨O, hO⟩ := arr_ex (ownF c y.s nx)
    obtain ⟨e8, H8, hc8, rfl, f8⟩ := own_ret hv hd hnl (s := y.s) hys k m hO G2
    have n8 := f8.n
    have hds : ∀ d ∈ [ownF c y.s nx, besF c k ⟨y.f, nx, diffN y.s (2 ^ nx)⟩], Low d := by
      intro d hd'
      rcases List.mem_cons.1 hd' with rfl | hd'
      · exact own_low hd hnl
      · rw [List.mem_singleton] at hd'; rw [hd']; exact bes_low hd k _
    obtain ⟨S, hS⟩ := arr_ex (sumF [ownF c y.s nx, besF c k ⟨y.f, nx, diffN y.s (2 ^ nx)⟩])
    have hsum := sum_ret (rowsA_sl [ownF c y.s nx, besF c k ⟨y.f, nx, diffN y.s (2 ^ nx)⟩]) (by simp) hds hS
    have hrows : rowsA [ownF c y.s nx, besF c k ⟨y.f, nx, diffN y.s (2 ^ nx)⟩] = O ++ X := by rw [hO, hX]; simp [rowsA]
    rw [hrows] at hsum
    have hSS : Arr S (fun w => ownF c y.s nx w + besF c k ⟨y.f, nx, diffN y.s (2 ^ nx)⟩ w) := hS.congr fun j _ => by simp [sumF]
    rw [hbs] at hD
    conv => whnf
    refine mixed_by (hm := false) (by kernel_rfl) (by kernel_rfl) ?_
    conv => whnf
    refine ⟨_, (gat h.n (by omega)).trans k0, ?_⟩
    conv => whnf
    refine ⟨_, (gat h.n (by omega)).trans k0, ?_⟩
    conv => whnf
    refine ⟨_, (gat (h.n + 1) (by omega)).trans k1, ?_⟩
    conv => whnf
    refine .heavy _ H8 (.inl hc8) ?_
    conv => whnf
    refine ⟨_, (f8.keep H7.n (by omega) (fun x => x)).trans gx, ?_⟩
    conv => whnf
    refine look_read (hX.rd) ?_
    conv => whnf
    rw [aop_bs2 (A := O) (B := X) (c := ownF c y.s nx) (d := besF c k ⟨y.f, nx, diffN y.s (2 ^ nx)⟩)]; rotate_left; rfl; rfl; rfl; exact hO; exact hX
    conv => whnf
    refine forceL_intro ?_
    conv => whnf
    generalize hG9 : TMap.push AB.dead H8 _ = G9
    have G9n : G9.n = H8.n + 1 := by rw [← hG9, push_n]
    have g9a : ∀ i, i < H8.n → Heap.at G9 i = Heap.at H8 i := fun i hi => by rw [← hG9]; exact at_push_lt _ _ hi
    have g9b : Heap.at G9 H8.n = .blk ((O ++ X).map .c) := by rw [← hG9]; exact at_push_self _ _
    have G9f : Foot none' H8 G9 := by rw [← hG9]; exact (Foot.refl _ _).push _
    clear hG9
    refine .snapped _ _ _ _ hsum (snaps_msl g9b) hS.plain ?_
    conv => whnf
    obtain ⟨e10, H10, hc10, rfl, f10⟩ := leading_ret (v := v) hd k m hSS hD G9
    have n10 := f10.n
    refine .heavy _ H10 (.inl hc10) ?_
    conv => whnf
    have q : ∀ i, i < H7.n → Heap.at H10 i = Heap.at H7 i := fun i hi => (f10.keep i (by omega) (fun x => x)).trans ((g9a i (by omega)).trans ((f8.keep i (by omega) (fun x => x)).trans (gat i hi)))
    refine ⟨_, (q H2.n (by omega)).trans k4, ?_⟩
    conv => whnf
    refine store_in hD.sz (hD.put hZ) ?_
    conv => whnf
    refine ⟨by show H2.n < H10.n; omega, ?_⟩
    conv => whnf
    refine forceL_intro ?_
    conv => whnf
    refine ⟨by kernel_rfl, ?_, ?_⟩
    · exact heaps_eq (l' := [(h.n, G2, H8), (h.n, H8, G9), (H7.n, G2, H8)]) (by kernel_rfl) (heaps_cons (f8.keep _ (by omega) (fun x => x)) (heaps_cons (g9a _ (by omega)) (heaps_cons (f8.keep _ (by omega) (fun x => x)) (by simp [HeapsOk]))))
    generalize hK : TMap.set AB.dead H10 _ _ = K
    have Kn : K.n = H10.n := by rw [← hK, TMap.set_n]
    have Ka : ∀ i, i < H7.n → i ≠ H2.n → Heap.at K i = Heap.at H7 i := fun i hi hne => by rw [← hK]; exact (at_set_ne _ _ hne).trans (q i hi)
    have Kx : Heap.at K H2.n = .blk (D.map .c) := by rw [← hK]; exact at_set_self _ _ (by omega)
    have Kf : Foot (fun i => i = m) h K := by
      rw [← hK]
      have t1 : Foot none' H7 H10 := (G2f.trans f8).trans (G9f.trans f10)
      exact Foot.set (f3.trans (f7.trans (t1.mono fun i _ hi => hi.elim))) (.inr (by omega)) _
    have Km : KMap c k (Heap.at K m) := kMap_eq (Ka m (by omega) (by omega)) i7
    clear hK
    conv => whnf
    refine ⟨_, (Ka h.n (by omega) (by omega)).trans k0, ?_⟩
    conv => whnf
    refine ⟨_, (Ka (h.n + 1) (by omega) (by omega)).trans k1, ?_⟩
    conv => whnf
    refine ⟨_, Kx, ?_⟩
    conv => whnf
    refine look_read (hD.rd) ?_
    conv => whnf
    rw [← hbs] at hD
    obtain ⟨b, hu, hb⟩ := k_update (rd := Heap.at K) Km y hD
    refine ⟨_, hu, ?_⟩
    conv => whnf
    generalize hH5 : TMap.app AB.dead _ _ = H5
    have e5 : H5 = K.set .dead m b := by rw [← hH5]; rfl
    have y4 : Heap.at H5 H2.n = .blk (D.map .c) := by rw [e5]; exact (at_set_ne _ _ (by omega)).trans Kx
    have y2 : Heap.at H5 (h.n + 2) = .blk (Z.map .c) := by rw [e5]; exact (at_set_ne _ _ (by omega)).trans ((Ka (h.n + 2) (by omega) (by omega)).trans k2)
    have ym : KMap c k (Heap.at H5 m) := kMap_eq (by rw [e5]; exact at_set_self _ _ (by omega)) hb
    have yf : Foot (fun i => i = m) h H5 := by rw [e5]; exact Foot.set Kf (.inl rfl) _
    have yn : H5.n = K.n := by rw [e5, TMap.set_n]
    clear hH5 e5
    refine ⟨_, y4, ?_⟩
    conv => whnf
    refine look_read (hD.rd) ?_
    conv => whnf
    refine ⟨_, y2, ?_⟩
    conv => whnf
    refine store_in hD.sz (hD.put hZ) ?_
    conv => whnf
    refine forceL_intro ?_
    conv => whnf
    refine ⟨_, at_set_self _ _ (i := h.n + 2) (by omega), ?_⟩
    conv => whnf
    refine look_read (hD.rd) ?_
    conv => whnf
    exact ⟨rfl, Foot.set (k := h.n + 2) yf (.inr (by omega)) _, kMap_eq (at_set_ne _ _ (i := m) (k := h.n + 2) (by omega)) ym⟩
end Go.Ag
/- Layer 6: what numbers of a bale cost by all bales. -/
namespace Go.Ag
open Go.Proofs
set_option maxRecDepth 100000

theorem lowN_bit (s n i : Nat) : (lowN s n).testBit i = (s.testBit i && decide (i < n)) := by
  unfold lowN; rw [Nat.testBit_and, Nat.testBit_two_pow_sub_one]
theorem highN_bit (s n i : Nat) : (highN s n).testBit i = (s.testBit i && !decide (i < n + 1)) := by
  unfold highN; rw [diffN_bit, show 2 * 2 ^ n = 2 ^ (n + 1) by rw [Nat.pow_succ]; omega, Nat.testBit_two_pow_sub_one]
def withF (c : Ln) (k : Bool) (s i : Nat) : Co := fun w => besF c k ⟨-1, i, s⟩ w + ownF c s i w + besF c k ⟨1, i, s⟩ w
theorem bes_low_eq {c : Ln} {k : Bool} (s i : Nat) : besF c k ⟨-1, i, lowN s i⟩ = besF c k ⟨-1, i, s⟩ := besF_congr fun j hj => by
  rw [if_pos rfl] at hj; rw [lowN_bit, decide_eq_true hj, Bool.and_true]
theorem bes_high_eq {c : Ln} {k : Bool} (s i : Nat) : besF c k ⟨1, i, highN s i⟩ = besF c k ⟨1, i, s⟩ := besF_congr fun j hj => by
  rw [if_neg (by omega)] at hj; rw [highN_bit, decide_eq_false (by omega), Bool.not_false, Bool.and_true]

set_option maxHeartbeats 4000000 in
theorem with_ret {v : LV} {c : Ln} (hv : v.Is c) (hd : c.Good) (k : Bool) {i : Nat} (hi : i < c.bales.length) {s : Nat} (hs : s < 2 ^ 62) {m : Nat} {h : Heap} (hm : m < h.n) (hI : KMap c k (Heap.at h m)) {D : List CV} (hD : Arr D (withF c k s i)) :
    ∃ e h', CallOk Try.prog 56 [knAV v c k m, .c (I s), .c (I i)] h .no e h' .no ∧ (e = .ret (.c (.agg D)) ∧ Foot (fun i => i = m) h h' ∧ KMap c k (Heap.at h' m)) := by
  have n6 := hd.n6
  obtain ⟨Z, hZ, eZ⟩ := arrB_ex zeroCo
  have hls : lowN s i < 2 ^ 62 := Nat.lt_of_le_of_lt Nat.and_le_left hs
  have hhs : highN s i < 2 ^ 62 := diffN_lt hs
  refine call_by (hm := false) Try.func56 rfl ?_
  conv => whnf
  generalize hH : TMap.push AB.dead (TMap.push AB.dead h _) _ = H
  have Hn : H.n = h.n + 2 := by rw [← hH]; rfl
  have b0 : Heap.at H h.n = knBlk v c k m := by rw [← hH]; exact (at_push_lt _ _ (by simp only [push_n]; omega)).trans (at_push_self _ _)
  have b1 : Heap.at H (h.n + 1) = .blk (Z.map .c) := by rw [← hH, ← eZ]; exact (at_push_self _ _).trans (by kernel_rfl)
  have f0 : Foot (fun i => i = m) h H := by rw [← hH]; exact ((Foot.refl _ _).push _).push _
  have i0 : KMap c k (Heap.at H m) := kMap_eq (by rw [← hH]; exact (at_push_lt _ _ (by simp only [push_n]; omega)).trans (at_push_lt _ _ hm)) hI
  clear hH
  obtain ⟨X, hX⟩ := arr_ex (besF c k ⟨-1, i, lowN s i⟩)
  obtain ⟨e1, H1, hc1, rfl, f1, i1⟩ := beside_ret hv hd k (msK c ⟨-1, i, lowN s i⟩) (y := ⟨-1, i, lowN s i⟩) ⟨.inl rfl, hi, hls⟩ rfl (h := H) (show m < H.n by omega) i0 hX
  have n1 := f1.n
  have c0 := (f1.keep h.n (by omega) (by omega)).trans b0
  have c1 := (f1.keep (h.n + 1) (by omega) (by omega)).trans b1
  refine mixedA_by (hm := false) 7 7 (by kernel_rfl) (by kernel_rfl) ?_
  conv => whnf
  refine ⟨_, b0, ?_⟩
  conv => whnf
  refine .ret _ _ (before_ret s i hs (by omega)) rfl ?_
  conv => whnf
  refine .heavy _ H1 (.inl hc1) ?_
  conv => whnf
  generalize hG : TMap.push AB.dead H1 _ = G
  have hGe : G = H1.push .dead (.blk (Z.map .c)) := by rw [← hG, ← eZ]; kernel_rfl
  have gz : Heap.at G H1.n = .blk (Z.map .c) := by rw [hGe]; exact at_push_self _ _
  have Gn : G.n = H1.n + 1 := by rw [hGe]; exact push_n _ _
  clear hG
  refine ⟨_, gz, ?_⟩
  conv => whnf
  refine store_in hX.sz (hX.put hZ) ?_
  conv => whnf
  refine ⟨by show H1.n < G.n; omega, ?_⟩
  conv => whnf
  refine forceL_intro ?_
  conv => whnf
  refine ⟨by kernel_rfl, heaps_nil (by kernel_rfl), by kernel_rfl, ⟨_, H1, Z, rfl, rfl, ⟨⟨_, 78, rfl, rfl, rfl, rfl, zcZ hZ⟩, rfl, by rw [← hGe]; rfl, rfl, hZ.lit⟩⟩, ?_⟩
  generalize hG2 : TMap.set AB.dead G _ _ = G2
  have G2n : G2.n = H1.n + 1 := by rw [← hG2, TMap.set_n]; exact Gn
  have gat : ∀ i, i < H1.n → Heap.at G2 i = Heap.at H1 i := fun i hi => by rw [← hG2, hGe]; exact (at_set_ne _ _ (by omega)).trans (at_push_lt _ _ hi)
  have gx : Heap.at G2 H1.n = .blk (X.map .c) := by rw [← hG2]; exact at_set_self _ _ (by omega)
  have G2f : Foot (fun i => i = m) H1 G2 := by rw [← hG2, hGe]; exact Foot.set ((Foot.refl _ _).push _) (.inr (Nat.le_refl _)) _
  clear hG2 hGe gz Gn
  have i2 : KMap c k (Heap.at G2 m) := kMap_eq (gat m (by omega)) i1
  obtain ⟨Y, hY⟩ := arr_ex (besF c k ⟨1, i, highN s i⟩)
  obtain ⟨e3, H3, hc3, rfl, f3, i3⟩ := beside_ret hv hd k (msK c ⟨1, i, highN s i⟩) (y := ⟨1, i, highN s i⟩) ⟨.inr rfl, hi, hhs⟩ rfl (h := G2) (show m < G2.n by omega) i2 hY
  have n3 := f3.n
  have d0 := (f3.keep h.n (by omega) (by omega)).trans ((gat h.n (by omega)).trans c0)
  have d1 := (f3.keep (h.n + 1) (by omega) (by omega)).trans ((gat (h.n + 1) (by omega)).trans c1)
  have dx := (f3.keep H1.n (by omega) (by omega)).trans gx
  conv => whnf
  refine mixedA_by (hm := false) 7 8 (by kernel_rfl) (by kernel_rfl) ?_
  conv => whnf
  refine ⟨_, (gat h.n (by omega)).trans c0, ?_⟩
  conv => whnf
  refine .ret _ _ (behind_ret s i hs (by omega)) rfl ?_
  conv => whnf
  refine .heavy _ H3 (.inl hc3) ?_
  conv => whnf
  generalize hG : TMap.push AB.dead H3 _ = G
  have hGe : G = H3.push .dead (.blk (Z.map .c)) := by rw [← hG, ← eZ]; kernel_rfl
  have gz : Heap.at G H3.n = .blk (Z.map .c) := by rw [hGe]; exact at_push_self _ _
  have Gn : G.n = H3.n + 1 := by rw [hGe]; exact push_n _ _
  clear hG
  refine ⟨_, gz, ?_⟩
  conv => whnf
  refine store_in hY.sz (hY.put hZ) ?_
  conv => whnf
  refine ⟨by show H3.n < G.n; omega, ?_⟩
  conv => whnf
  refine forceL_intro ?_
  conv => whnf
  refine ⟨by kernel_rfl, heaps_nil (by kernel_rfl), by kernel_rfl, ⟨_, H3, Z, rfl, rfl, ⟨⟨_, 78, rfl, rfl, rfl, rfl, zcZ hZ⟩, rfl, by rw [← hGe]; rfl, rfl, hZ.lit⟩⟩, ?_⟩
  generalize hG4 : TMap.set AB.dead G _ _ = G4
  have G4n : G4.n = H3.n + 1 := by rw [← hG4, TMap.set_n]; exact Gn
  have gat4 : ∀ i, i < H3.n → Heap.at G4 i = Heap.at H3 i := fun i hi => by rw [← hG4, hGe]; exact (at_set_ne _ _ (by omega)).trans (at_push_lt _ _ hi)
  have gy : Heap.at G4 H3.n = .blk (Y.map .c) := by rw [← hG4]; exact at_set_self _ _ (by omega)
  have G4f : Foot (fun i => i = m) H3 G4 := by rw [← hG4, hGe]; exact Foot.set ((Foot.refl _ _).push _) (.inr (Nat.le_refl _)) _
  clear hG4 hGe gz Gn
  have i4 : KMap c k (Heap.at G4 m) := kMap_eq (gat4 m (by omega)) i3
  obtain ⟨O, hO⟩ := arr_ex (ownF c s i)
  obtain ⟨e5, H5, hc5, rfl, f5⟩ := own_ret hv hd hi hs k m hO G4
  have n5 := f5.n
  rw [bes_low_eq] at hX
  rw [bes_high_eq] at hY
  have hds : ∀ d ∈ [besF c k ⟨-1, i, s⟩, ownF c s i, besF c k ⟨1, i, s⟩], Low d := by
    intro d hd'
    simp only [List.mem_cons, List.not_mem_nil, or_false] at hd'
    rcases hd' with rfl | rfl | rfl
    · exact bes_low hd k _
    · exact own_low hd hi
    · exact bes_low hd k _
  have hDS : Arr D (sumF [besF c k ⟨-1, i, s⟩, ownF c s i, besF c k ⟨1, i, s⟩]) := hD.congr fun j _ => by simp [sumF, withF]
  have hsum := sum_ret (rowsA_sl [besF c k ⟨-1, i, s⟩, ownF c s i, besF c k ⟨1, i, s⟩]) (by simp) hds hDS
  have hrows : rowsA [besF c k ⟨-1, i, s⟩, ownF c s i, besF c k ⟨1, i, s⟩] = X ++ (O ++ Y) := by rw [hO, hX, hY]; simp [rowsA]
  rw [hrows] at hsum
  conv => whnf
  refine mixed_by (hm := false) (by kernel_rfl) (by kernel_rfl) ?_
  conv => whnf
  refine ⟨_, (gat4 H1.n (by omega)).trans dx, ?_⟩
  conv => whnf
  refine look_read (hX.rd) ?_
  conv => whnf
  refine ⟨_, (gat4 h.n (by omega)).trans d0, ?_⟩
  conv => whnf
  refine .heavy _ H5 (.inl hc5) ?_
  conv => whnf
  refine ⟨_, (f5.keep H3.n (by omega) (fun x => x)).trans gy, ?_⟩
  conv => whnf
  refine look_read (hY.rd) ?_
  conv => whnf
  rw [aop_bs3 (A := X) (B := O) (C := Y) (c := besF c k ⟨-1, i, s⟩) (d := ownF c s i) (e := besF c k ⟨1, i, s⟩)]; rotate_left; rfl; rfl; rfl; rfl; exact hX; exact hO; exact hY
  conv => whnf
  refine forceL_intro ?_
  conv => whnf
  generalize hG9 : TMap.push AB.dead H5 _ = G9
  have G9n : G9.n = H5.n + 1 := by rw [← hG9, push_n]
  have g9a : ∀ i, i < H5.n → Heap.at G9 i = Heap.at H5 i := fun i hi => by rw [← hG9]; exact at_push_lt _ _ hi
  have g9b : Heap.at G9 H5.n = .blk ((X ++ (O ++ Y)).map .c) := by rw [← hG9]; exact at_push_self _ _
  have G9f : Foot none' H5 G9 := by rw [← hG9]; exact (Foot.refl _ _).push _
  clear hG9
  refine .snapped _ _ _ _ hsum (snaps_msl g9b) hD.plain ?_
  conv => whnf
  have q : ∀ i, i < H3.n → Heap.at G9 i = Heap.at H3 i := fun i hi => (g9a i (by omega)).trans ((f5.keep i (by omega) (fun x => x)).trans (gat4 i hi))
  refine ⟨_, (q (h.n + 1) (by omega)).trans d1, ?_⟩
  conv => whnf
  refine store_in hD.sz (hD.put hZ) ?_
  conv => whnf
  refine ⟨by show h.n + 1 < G9.n; omega, ?_⟩
  conv => whnf
  refine forceL_intro ?_
  conv => whnf
  refine ⟨by kernel_rfl, ?_, ?_⟩
  · exact heaps_eq (l' := [(H1.n, G4, H5), (H3.n, G4, H5)]) (by kernel_rfl) (heaps_cons (f5.keep _ (by omega) (fun x => x)) (heaps_cons (f5.keep _ (by omega) (fun x => x)) (by simp [HeapsOk])))
  conv => whnf
  refine ⟨_, at_set_self _ _ (i := h.n + 1) (by omega), ?_⟩
  conv => whnf
  refine look_read (hD.rd) ?_
  conv => whnf
  have F : Foot (fun i => i = m) h G9 := f0.trans (f1.trans (G2f.trans (f3.trans (G4f.trans ((f5.trans G9f).mono fun i _ hi => hi.elim)))))
  exact ⟨rfl, Foot.set (k := h.n + 1) F (.inr (by omega)) _, kMap_eq ((at_set_ne _ _ (i := m) (k := h.n + 1) (by omega)).trans (q m (by omega))) i3⟩
end Go.Ag
/- Layer 6: what is known of a line, and whether there is a truth. -/
namespace Go.Ag
open Go.Proofs
set_option maxRecDepth 100000

def allN (c : Ln) : Nat := 2 ^ c.bales.length - 1
theorem allN_lt {c : Ln} (hd : c.Good) : allN c < 64 := by
  have := pow_b hd.n6
  unfold allN; omega
theorem every_ret {v : LV} {c : Ln} (hv : v.Is c) (hd : c.Good) (k : Bool) (m : Nat) (h : Heap) : ∃ e h', CallOk Try.prog 36 [knAV v c k m] h .no e h' .no ∧ (e = .ret (.c (I (allN c : Nat))) ∧ Foot none' h h') := by
  have n6 := hd.n6
  have e1 := hv.sn
  have h32 := pow_b hd.n6
  refine call_by (hm := false) Try.func36 rfl ?_
  conv => whnf
  refine ⟨_, at_push_self _ _, ?_⟩
  conv => whnf
  refine ⟨by omega, _, shl_nat 1 v.sn (by omega) (by rw [e1]; omega), ?_⟩
  conv => whnf
  refine ⟨((allN c : Nat) : Int), by rw [wrap_eq (by rw [e1]; omega) (by rw [e1]; omega), e1]; unfold allN; omega, ?_⟩
  conv => whnf
  exact ⟨rfl, (Foot.refl _ _).push _⟩
/-- What numbers of a bale cost. -/
def thrF (c : Ln) (k : Bool) (i : Nat) : Co := withF c k (allN c) i
set_option maxHeartbeats 1000000 in
theorem through_ret {v : LV} {c : Ln} (hv : v.Is c) (hd : c.Good) (k : Bool) {i : Nat} (hi : i < c.bales.length) {m : Nat} {h : Heap} (hm : m < h.n) (hI : KMap c k (Heap.at h m)) {D : List CV} (hD : Arr D (thrF c k i)) :
    ∃ e h', CallOk Try.prog 71 [knAV v c k m, .c (I i)] h .no e h' .no ∧ (e = .ret (.c (.agg D)) ∧ Foot (fun i => i = m) h h' ∧ KMap c k (Heap.at h' m)) := by
  have ha := allN_lt hd
  obtain ⟨Z, hZ, eZ⟩ := arrB_ex zeroCo
  refine call_by (hm := false) Try.func71 rfl ?_
  conv => whnf
  generalize hH : TMap.push AB.dead (TMap.push AB.dead h _) _ = H
  have Hn : H.n = h.n + 2 := by rw [← hH]; rfl
  have b0 : Heap.at H h.n = knBlk v c k m := by rw [← hH]; exact (at_push_lt _ _ (by simp only [push_n]; omega)).trans (at_push_self _ _)
  have b1 : Heap.at H (h.n + 1) = .blk (Z.map .c) := by rw [← hH, ← eZ]; exact (at_push_self _ _).trans (by kernel_rfl)
  have f0 : Foot (fun i => i = m) h H := by rw [← hH]; exact ((Foot.refl _ _).push _).push _
  have i0 : KMap c k (Heap.at H m) := kMap_eq (by rw [← hH]; exact (at_push_lt _ _ (by simp only [push_n]; omega)).trans (at_push_lt _ _ hm)) hI
  clear hH
  obtain ⟨e1, H1, hc1, rfl, f1⟩ := every_ret hv hd k m H
  have n1 := f1.n
  have i1 : KMap c k (Heap.at H1 m) := kMap_eq (f1.keep m (by omega) (fun x => x)) i0
  obtain ⟨e2, H2, hc2, rfl, f2, i2⟩ := with_ret hv hd k hi (s := allN c) (by omega) (h := H1) (show m < H1.n by omega) i1 hD
  have n2 := f2.n
  refine mixed_by (hm := false) (by kernel_rfl) (by kernel_rfl) ?_
  conv => whnf
  refine ⟨_, b0, ?_⟩
  conv => whnf
  refine ⟨_, b0, ?_⟩
  conv => whnf
  refine .heavy _ H1 (.inl hc1) ?_
  conv => whnf
  refine .heavy _ H2 (.inl hc2) ?_
  conv => whnf
  refine ⟨_, (f2.keep (h.n + 1) (by omega) (by omega)).trans ((f1.keep (h.n + 1) (by omega) (fun x => x)).trans b1), ?_⟩
  conv => whnf
  refine store_in hD.sz (hD.put hZ) ?_
  conv => whnf
  refine ⟨by show h.n + 1 < H2.n; omega, ?_⟩
  conv => whnf
  refine forceL_intro ?_
  conv => whnf
  refine ⟨by kernel_rfl, ?_, ?_⟩
  · exact heaps_eq (l' := [(h.n, H, H1)]) (by kernel_rfl) (heaps_cons (f1.keep _ (by omega) (fun x => x)) (by simp [HeapsOk]))
  conv => whnf
  refine ⟨_, at_set_self _ _ (i := h.n + 1) (by omega), ?_⟩
  conv => whnf
  refine look_read (hD.rd) ?_
  conv => whnf
  exact ⟨rfl, Foot.set (k := h.n + 1) (f0.trans ((f1.mono fun i _ hi => hi.elim).trans f2)) (.inr (by omega)) _, kMap_eq (at_set_ne _ _ (i := m) (k := h.n + 1) (by omega)) i2⟩
/-- Whether there is a truth with the looks at some bales. -/
def possB (c : Ln) (k : Bool) (s : Nat) : Bool := decide (minTo (withF c k s 0) 30 ≤ c.mist)
theorem possible_ret {v : LV} {c : Ln} (hv : v.Is c) (hd : c.Good) (k : Bool) {s : Nat} (hs : s < 2 ^ 62) {m : Nat} {h : Heap} (hm : m < h.n) (hI : KMap c k (Heap.at h m)) :
    ∃ e h', CallOk Try.prog 35 [knAV v c k m, .c (I s)] h .no e h' .no ∧ (e = .ret (.c (B (possB c k s))) ∧ Foot (fun i => i = m) h h' ∧ KMap c k (Heap.at h' m)) := by
  have n1' := hd.n1
  obtain ⟨D, hD⟩ := arr_ex (withF c k s 0)
  refine call_by (hm := false) Try.func35 rfl ?_
  conv => whnf
  generalize hH : TMap.push AB.dead h _ = H
  have Hn : H.n = h.n + 1 := by rw [← hH]; rfl
  have b0 : Heap.at H h.n = knBlk v c k m := by rw [← hH]; exact at_push_self _ _
  have f0 : Foot (fun i => i = m) h H := by rw [← hH]; exact (Foot.refl _ _).push _
  have i0 : KMap c k (Heap.at H m) := kMap_eq (by rw [← hH]; exact at_push_lt _ _ hm) hI
  clear hH
  obtain ⟨e2, H2, hc2, rfl, f2, i2⟩ := with_ret hv hd k (i := 0) (by omega) (s := s) hs (h := H) (show m < H.n by omega) i0 hD
  have n2 := f2.n
  refine mixed_by (hm := false) (by kernel_rfl) (by kernel_rfl) ?_
  conv => whnf
  refine ⟨_, b0, ?_⟩
  conv => whnf
  refine .heavy _ H2 (.inl hc2) ?_
  conv => whnf
  refine ⟨_, (f2.keep h.n (by omega) (by omega)).trans b0, ?_⟩
  conv => whnf
  refine .ret _ _ (can_ret hD c.mist) rfl ?_
  conv => whnf
  refine ⟨by kernel_rfl, ?_, ?_⟩
  · exact heaps_eq (l' := [(h.n, H, H2)]) (by kernel_rfl) (heaps_cons (f2.keep _ (by omega) (by omega)) (by simp [HeapsOk]))
  conv => whnf
  exact ⟨rfl, f0.trans f2, i2⟩
/-! What is known. -/
theorem knowBy_ret (v : LV) (c : Ln) (k : Bool) (h : Heap) : ∃ e h', CallOk Try.prog 55 [.c (v.cv c), .c (stepC c k)] h .no e h' .no ∧ ∃ m, e = .ret (knAV v c k m) ∧ h.n ≤ m ∧ m < h'.n ∧ KMap c k (Heap.at h' m) ∧ Foot none' h h' := by
  refine call_by (hm := false) Try.func55 rfl ?_
  conv => whnf
  refine ⟨v.blk c, (at_push_lt _ _ (by rw [push_n]; omega)).trans (at_push_self _ _), ?_⟩
  conv => whnf
  refine ⟨_, (at_push_lt _ _ (i := h.n + 1) (by simp only [push_n]; omega)).trans (at_push_self _ _), ?_⟩
  conv => whnf
  refine ⟨_, at_set_self _ _ (i := h.n + 1) (by simp only [push_n]; omega), ?_⟩
  conv => whnf
  exact ⟨h.n + 2, rfl, by omega, by show h.n + 2 < _; rw [TMap.set_n]; simp only [push_n]; omega, kMap_eq ((at_set_ne _ _ (i := h.n + 2) (k := h.n + 1) (by omega)).trans (at_push_self _ _)) (kMap_nil c k), Foot.set (W := none') (k := h.n + 1) (((Foot.refl _ _).push _).push _ |>.push _) (.inr (by omega)) _⟩
theorem know_ret (v : LV) (c : Ln) (h : Heap) : ∃ e h', CallOk Try.prog 34 [.c (v.cv c)] h .no e h' .no ∧ ∃ m, e = .ret (knAV v c false m) ∧ h.n ≤ m ∧ m < h'.n ∧ KMap c false (Heap.at h' m) ∧ Foot none' h h' := by
  refine call_by (hm := false) Try.func34 rfl ?_
  conv => whnf
  refine ⟨v.blk c, (at_push_lt _ _ (by rw [push_n]; omega)).trans (at_push_self _ _), ?_⟩
  conv => whnf
  refine ⟨v.blk c, (at_push_lt _ _ (by rw [push_n]; omega)).trans (at_push_self _ _), ?_⟩
  conv => whnf
  generalize hH : TMap.push AB.dead (TMap.push AB.dead h _) _ = H
  have Hn : H.n = h.n + 2 := by rw [← hH]; rfl
  have f0 : Foot none' h H := by rw [← hH]; exact ((Foot.refl _ _).push _).push _
  have b1 : Heap.at H (h.n + 1) = .blk [AV.lit (.slice none 0 0), AV.lit (.int .i64 0), AV.lit (.int .i64 0), AV.lit (.int .i64 0), AV.lit .nilIface, AV.lit (.map none)] := by rw [← hH]; exact at_push_self _ _
  clear hH
  obtain ⟨e1, H1, hc1, m, rfl, m0, m1, i1, f1⟩ := knowBy_ret v c false H
  have n1 := f1.n
  refine .inl _ H1 .no hc1 ?_
  conv => whnf
  refine ⟨_, (f1.keep (h.n + 1) (by omega) (fun x => x)).trans b1, ?_⟩
  conv => whnf
  refine ⟨_, at_set_self _ _ (i := h.n + 1) (by omega), ?_⟩
  conv => whnf
  exact ⟨m, rfl, by omega, by show m < _; rw [TMap.set_n]; omega, kMap_eq (at_set_ne _ _ (i := m) (k := h.n + 1) (by omega)) i1, Foot.set (W := none') (k := h.n + 1) (f0.trans f1) (.inr (by omega)) _⟩
theorem keeping_ret (v : LV) (c : Ln) (k : Bool) (m0 : Nat) (h : Heap) : ∃ e h', CallOk Try.prog 72 [knAV v c k m0] h .no e h' .no ∧ ∃ m, e = .ret (knAV v c true m) ∧ h.n ≤ m ∧ m < h'.n ∧ KMap c true (Heap.at h' m) ∧ Foot none' h h' := by
  refine call_by (hm := false) Try.func72 rfl ?_
  conv => whnf
  generalize hH : TMap.push AB.dead (TMap.push AB.dead h _) _ = H
  have Hn : H.n = h.n + 2 := by rw [← hH]; rfl
  have f0 : Foot none' h H := by rw [← hH]; exact ((Foot.refl _ _).push _).push _
  have b0 : Heap.at H h.n = knBlk v c k m0 := by rw [← hH]; exact (at_push_lt _ _ (by simp only [push_n]; omega)).trans (at_push_self _ _)
  have b1 : Heap.at H (h.n + 1) = .blk [AV.lit (.slice none 0 0), AV.lit (.int .i64 0), AV.lit (.int .i64 0), AV.lit (.int .i64 0), AV.lit .nilIface, AV.lit (.map none)] := by rw [← hH]; exact at_push_self _ _
  clear hH
  obtain ⟨e1, H1, hc1, m, rfl, m0, m1, i1, f1⟩ := knowBy_ret v c true H
  have n1 := f1.n
  refine ⟨_, b0, ?_⟩
  conv => whnf
  refine ⟨_, b0, ?_⟩
  conv => whnf
  refine ⟨_, b0, ?_⟩
  conv => whnf
  refine .inl _ H1 .no hc1 ?_
  conv => whnf
  refine ⟨_, (f1.keep (h.n + 1) (by omega) (fun x => x)).trans b1, ?_⟩
  conv => whnf
  refine ⟨_, at_set_self _ _ (i := h.n + 1) (by omega), ?_⟩
  conv => whnf
  exact ⟨m, rfl, by omega, by show m < _; rw [TMap.set_n]; omega, kMap_eq (at_set_ne _ _ (i := m) (k := h.n + 1) (by omega)) i1, Foot.set (W := none') (k := h.n + 1) (f0.trans f1) (.inr (by omega)) _⟩
def errV (e : Int) : AV := .c (.iface 31 (I e))
/-- There is a truth. -/
def canT (c : Ln) : Bool := possB c false (allN c)
set_option maxHeartbeats 1000000 in
theorem sure_ret {v : LV} {c : Ln} (hv : v.Is c) (hd : c.Good) {m : Nat} {h : Heap} (hm : m < h.n) (hI : KMap c false (Heap.at h m)) :
    ∃ e h', CallOk Try.prog 64 [knAV v c false m] h .no e h' .no ∧ (e = (if canT c then .ret (knAV v c false m) else .panic (errV 10)) ∧ Foot (fun i => i = m) h h' ∧ KMap c false (Heap.at h' m)) := by
  have ha := allN_lt hd
  refine call_by (hm := false) Try.func64 rfl ?_
  conv => whnf
  generalize hH : TMap.push AB.dead (TMap.push AB.dead h _) _ = H
  have Hn : H.n = h.n + 2 := by rw [← hH]; rfl
  have b0 : Heap.at H h.n = knBlk v c false m := by rw [← hH]; exact (at_push_lt _ _ (by simp only [push_n]; omega)).trans (at_push_self _ _)
  have b1 : Heap.at H (h.n + 1) = .blk [AV.lit (.slice none 0 0), AV.lit (.int .i64 0), AV.lit (.int .i64 0), AV.lit (.int .i64 0), AV.lit .nilIface, AV.lit (.map none)] := by rw [← hH]; exact at_push_self _ _
  have f0 : Foot (fun i => i = m) h H := by rw [← hH]; exact ((Foot.refl _ _).push _).push _
  have i0 : KMap c false (Heap.at H m) := kMap_eq (by rw [← hH]; exact (at_push_lt _ _ (by simp only [push_n]; omega)).trans (at_push_lt _ _ hm)) hI
  clear hH
  obtain ⟨e1, H1, hc1, rfl, f1⟩ := every_ret hv hd false m H
  have n1 := f1.n
  have i1 : KMap c false (Heap.at H1 m) := kMap_eq (f1.keep m (by omega) (fun x => x)) i0
  obtain ⟨e2, H2, hc2, rfl, f2, i2⟩ := possible_ret hv hd false (s := allN c) (by omega) (h := H1) (show m < H1.n by omega) i1
  have n2 := f2.n
  have hc0 : canT c = possB c false (allN c) := rfl
  rw [hc0]
  refine mixed_by (hm := false) (by kernel_rfl) (by kernel_rfl) ?_
  conv => whnf
  refine ⟨_, b0, ?_⟩
  conv => whnf
  refine ⟨_, b0, ?_⟩
  conv => whnf
  refine .heavy _ H1 (.inl hc1) ?_
  conv => whnf
  refine .heavy _ H2 (.inl hc2) ?_
  conv => whnf
  refine ⟨by kernel_rfl, ?_, ?_⟩
  · exact heaps_eq (l' := [(h.n, H, H1)]) (by kernel_rfl) (heaps_cons (f1.keep _ (by omega) (fun x => x)) (by simp [HeapsOk]))
  cases hb : possB c false (allN c)
  · conv => whnf
    exact ⟨rfl, f0.trans ((f1.mono fun i _ hi => hi.elim).trans f2), i2⟩
  · conv => whnf
    refine ⟨_, (f2.keep h.n (by omega) (by omega)).trans ((f1.keep h.n (by omega) (fun x => x)).trans b0), ?_⟩
    conv => whnf
    refine ⟨_, (f2.keep (h.n + 1) (by omega) (by omega)).trans ((f1.keep (h.n + 1) (by omega) (fun x => x)).trans b1), ?_⟩
    conv => whnf
    refine ⟨_, at_set_self _ _ (i := h.n + 1) (by omega), ?_⟩
    conv => whnf
    exact ⟨rfl, Foot.set (k := h.n + 1) (f0.trans ((f1.mono fun i _ hi => hi.elim).trans f2)) (.inr (by omega)) _, kMap_eq (at_set_ne _ _ (i := m) (k := h.n + 1) (by omega)) i2⟩
end Go.Ag
/- Layer 6: the first one that suits. -/
namespace Go.Ag
open Go.Proofs
set_option maxRecDepth 100000

def firstC (err : Int) (o : Option Nat) : AEnd := match o with
  | some y => .ret (.c (I (y : Nat)))
  | none => .panic (errV err)

set_option maxHeartbeats 1000000 in
theorem first_can {D : List CV} {err : Int} {it : CV} {ys : List Nat} (hit : IterC Try.prog it (oneL ys)) {p : Nat → Bool} {c : Ln} {k : Bool} {m : Nat} {h : Heap} (hm : m < h.n) (hI : KMap c k (Heap.at h m))
    (hs : ∀ y, y ∈ ys → ∀ h1, Foot (fun i => i = m) h h1 → KMap c k (Heap.at h1 m) → ∃ e h2, CallOk Try.prog 57 [.c (.agg D), .c (I (y : Nat))] h1 .no e h2 .no ∧ (e = .ret (.c (B (p y))) ∧ Foot (fun i => i = m) h1 h2 ∧ KMap c k (Heap.at h2 m))) :
    ∃ e h', CallOk Try.prog 75 [.c it, .c (.agg [.func (.func 57) [.agg D] [], I err])] h .no e h' .no ∧ (e = firstC err (ys.find? p) ∧ Foot (fun i => i = m) h h' ∧ KMap c k (Heap.at h' m)) := by
  refine call_by (hm := false) Try.func75 rfl ?_
  conv => whnf
  refine range_n (hm := false) (h.n + 2) rfl rfl hit
    (I := fun l h1 => Heap.at h1 h.n = .blk [.c (.func (.func 57) [.agg D] []), .c (I err)] ∧ Heap.at h1 (h.n + 1) = .blk [.c (I 0)] ∧ Foot (fun i => i = m) h h1 ∧ KMap c k (Heap.at h1 m) ∧ ∃ done rest, l = oneL rest ∧ ys = done ++ rest ∧ ∀ y ∈ done, p y = false)
    (E := fun e h1 => e = .ret ∧ ∃ y, ys.find? p = some y ∧ Heap.at h1 (h.n + 1) = .blk [.c (I (y : Nat))] ∧ Foot (fun i => i = m) h h1 ∧ KMap c k (Heap.at h1 m)) (X := fun _ _ => False) ?_ ?_ ?_ ?_ ?_ ?_ ?_
  · rintro l h1 h2 ⟨k1, k2, k3, k4, k5⟩ hn ff
    exact ⟨(ff.below hn (by omega)).trans k1, (ff.below hn (by omega)).trans k2, k3.trans_up ff (by omega), kMap_eq (ff.below hn (by omega)) k4, k5⟩
  · rintro e h1 h2 ⟨k1, y, k2, k3, k4, k5⟩ hn ff
    exact ⟨k1, y, k2, (ff.below hn (by omega)).trans k3, k4.trans_up ff (by omega), kMap_eq (ff.below hn (by omega)) k5⟩
  · refine ⟨(at_push_lt _ _ (by rw [push_n]; omega)).trans (at_push_self _ _), at_push_self _ _, ((Foot.refl _ _).push _).push _, kMap_eq ((at_push_lt _ _ (by rw [push_n]; omega)).trans (at_push_lt _ _ hm)) hI, [], ys, rfl, rfl, by simp⟩
  · rintro y l h1 hn ⟨k1, k2, k3, k4, done, rest, e1, e2, e3⟩
    cases rest with
    | nil => cases e1
    | cons y0 rest =>
    obtain ⟨rfl, rfl⟩ := List.cons.inj e1
    conv => whnf
    refine ⟨rfl, fun hb fb hbn => ?_⟩
    have n1 : h.n + 2 + 2 ≤ h1.n := hn
    have b1 : Heap.at hb h.n = .blk [.c (.func (.func 57) [.agg D] []), .c (I err)] := (fb.keep h.n (by omega) (by omega)).trans k1
    have b2 : Heap.at hb (h.n + 1) = .blk [.c (I 0)] := (fb.keep (h.n + 1) (by omega) (by omega)).trans k2
    have b4 : KMap c k (Heap.at hb m) := kMap_eq (fb.keep m (by omega) (by omega)) k4
    have b3 : Foot (fun i => i = m) h hb := k3.trans_up (N := h.n) (fb.mono fun i _ hi => by omega) (Nat.le_refl _)
    obtain ⟨e, h2, hc, rfl, f2, i2⟩ := hs y0 (by rw [e2]; simp) hb b3 b4
    have c1 := (f2.keep (h.n + 1) (by omega) (by omega)).trans b2
    have c0 := (f2.keep h.n (by omega) (by omega)).trans b1
    have hn2 := f2.n
    conv => whnf
    refine ⟨_, b1, ?_⟩
    conv => whnf
    refine .inl _ h2 .no hc ?_
    conv => whnf
    have fend : Foot (fun i => i < h.n + 2) hb h2 := f2.mono fun i _ hi => by omega
    cases hp : p y0
    · conv => whnf
      exact ⟨fend, c0, c1, b3.trans f2, i2, done ++ [y0], rest, rfl, by rw [e2]; simp, fun z hz => by
        rcases List.mem_append.1 hz with h | h
        · exact e3 z h
        · rw [List.mem_singleton] at h; rw [h]; exact hp⟩
    · conv => whnf
      refine ⟨_, c1, ?_⟩
      conv => whnf
      refine ⟨Foot.set (k := h.n + 1) fend (.inl (by omega)) _, rfl, y0, ?_, at_set_self _ _ (i := h.n + 1) (by omega), Foot.set (W := fun i => i = m) (k := h.n + 1) (b3.trans f2) (.inr (by omega)) _, kMap_eq (at_set_ne _ _ (i := m) (k := h.n + 1) (by omega)) i2⟩
      rw [e2, List.find?_append]
      have : done.find? p = none := List.find?_eq_none.2 fun x hx => by rw [e3 x hx]; simp
      rw [this]
      simp [hp]
  · rintro h1 hn hc ⟨k1, k2, k3, k4, done, rest, e1, e2, e3⟩
    have : rest = [] := by cases rest with | nil => rfl | cons a l => cases e1
    subst this
    have hnone : ys.find? p = none := List.find?_eq_none.2 fun x hx => by rw [e2, List.append_nil] at hx; rw [e3 x hx]; simp
    rw [hnone]
    conv => whnf
    refine ⟨_, k1, ?_⟩
    conv => whnf
    refine ⟨_, hc, ?_⟩
    conv => whnf
    exact ⟨rfl, Foot.set (W := fun i => i = m) (k := h.n + 2) k3 (.inr (by omega)) _, kMap_eq (at_set_ne _ _ (by omega)) k4⟩
  · rintro e h1 hn hc ⟨rfl, y, k2, k3, k4, k5⟩ _
    rw [k2]
    conv => whnf
    refine ⟨_, hc, ?_⟩
    conv => whnf
    refine ⟨_, (at_set_ne _ _ (i := h.n + 1) (k := h.n + 2) (by omega)).trans k3, ?_⟩
    conv => whnf
    exact ⟨rfl, Foot.set (W := fun i => i = m) (k := h.n + 2) k4 (.inr (by omega)) _, kMap_eq (at_set_ne _ _ (by omega)) k5⟩
  · rintro x h1 _ _ hx
    exact hx.elim

set_option maxHeartbeats 1000000 in
theorem first_more {a b : Nat} {err : Int} {it : CV} {ys : List Nat} (hit : IterC Try.prog it (oneL ys)) {p : Nat → Bool} {c : Ln} {k : Bool} {m : Nat} {h : Heap} (hm : m < h.n) (hI : KMap c k (Heap.at h m))
    (hs : ∀ y, y ∈ ys → ∀ h1, Foot (fun i => i = m) h h1 → KMap c k (Heap.at h1 m) → ∃ e h2, CallOk Try.prog 83 [.c (I (y : Nat)), .ptr a 0, .ptr b 0] h1 .no e h2 .no ∧ (e = .ret (.c (B (p y))) ∧ Foot (fun i => i = m) h1 h2 ∧ KMap c k (Heap.at h2 m))) :
    ∃ e h', CallOk Try.prog 75 [.c it, .agg [.func (.func 83) [] [.ptr a 0, .ptr b 0], .c (I err)]] h .no e h' .no ∧ (e = firstC err (ys.find? p) ∧ Foot (fun i => i = m) h h' ∧ KMap c k (Heap.at h' m)) := by
  refine call_by (hm := false) Try.func75 rfl ?_
  conv => whnf
  refine range_n (hm := false) (h.n + 2) rfl rfl hit
    (I := fun l h1 => Heap.at h1 h.n = .blk [.func (.func 83) [] [.ptr a 0, .ptr b 0], .c (I err)] ∧ Heap.at h1 (h.n + 1) = .blk [.c (I 0)] ∧ Foot (fun i => i = m) h h1 ∧ KMap c k (Heap.at h1 m) ∧ ∃ done rest, l = oneL rest ∧ ys = done ++ rest ∧ ∀ y ∈ done, p y = false)
    (E := fun e h1 => e = .ret ∧ ∃ y, ys.find? p = some y ∧ Heap.at h1 (h.n + 1) = .blk [.c (I (y : Nat))] ∧ Foot (fun i => i = m) h h1 ∧ KMap c k (Heap.at h1 m)) (X := fun _ _ => False) ?_ ?_ ?_ ?_ ?_ ?_ ?_
  · rintro l h1 h2 ⟨k1, k2, k3, k4, k5⟩ hn ff
    exact ⟨(ff.below hn (by omega)).trans k1, (ff.below hn (by omega)).trans k2, k3.trans_up ff (by omega), kMap_eq (ff.below hn (by omega)) k4, k5⟩
  · rintro e h1 h2 ⟨k1, y, k2, k3, k4, k5⟩ hn ff
    exact ⟨k1, y, k2, (ff.below hn (by omega)).trans k3, k4.trans_up ff (by omega), kMap_eq (ff.below hn (by omega)) k5⟩
  · refine ⟨(at_push_lt _ _ (by rw [push_n]; omega)).trans (at_push_self _ _), at_push_self _ _, ((Foot.refl _ _).push _).push _, kMap_eq ((at_push_lt _ _ (by rw [push_n]; omega)).trans (at_push_lt _ _ hm)) hI, [], ys, rfl, rfl, by simp⟩
  · rintro y l h1 hn ⟨k1, k2, k3, k4, done, rest, e1, e2, e3⟩
    cases rest with
    | nil => cases e1
    | cons y0 rest =>
    obtain ⟨rfl, rfl⟩ := List.cons.inj e1
    conv => whnf
    refine ⟨rfl, fun hb fb hbn => ?_⟩
    have n1 : h.n + 2 + 2 ≤ h1.n := hn
    have b1 : Heap.at hb h.n = .blk [.func (.func 83) [] [.ptr a 0, .ptr b 0], .c (I err)] := (fb.keep h.n (by omega) (by omega)).trans k1
    have b2 : Heap.at hb (h.n + 1) = .blk [.c (I 0)] := (fb.keep (h.n + 1) (by omega) (by omega)).trans k2
    have b4 : KMap c k (Heap.at hb m) := kMap_eq (fb.keep m (by omega) (by omega)) k4
    have b3 : Foot (fun i => i = m) h hb := k3.trans_up (N := h.n) (fb.mono fun i _ hi => by omega) (Nat.le_refl _)
    obtain ⟨e, h2, hc, rfl, f2, i2⟩ := hs y0 (by rw [e2]; simp) hb b3 b4
    have c1 := (f2.keep (h.n + 1) (by omega) (by omega)).trans b2
    have c0 := (f2.keep h.n (by omega) (by omega)).trans b1
    have hn2 := f2.n
    conv => whnf
    refine ⟨_, b1, ?_⟩
    conv => whnf
    refine .inl _ h2 .no hc ?_
    conv => whnf
    have fend : Foot (fun i => i < h.n + 2) hb h2 := f2.mono fun i _ hi => by omega
    cases hp : p y0
    · conv => whnf
      exact ⟨fend, c0, c1, b3.trans f2, i2, done ++ [y0], rest, rfl, by rw [e2]; simp, fun z hz => by
        rcases List.mem_append.1 hz with h | h
        · exact e3 z h
        · rw [List.mem_singleton] at h; rw [h]; exact hp⟩
    · conv => whnf
      refine ⟨_, c1, ?_⟩
      conv => whnf
      refine ⟨Foot.set (k := h.n + 1) fend (.inl (by omega)) _, rfl, y0, ?_, at_set_self _ _ (i := h.n + 1) (by omega), Foot.set (W := fun i => i = m) (k := h.n + 1) (b3.trans f2) (.inr (by omega)) _, kMap_eq (at_set_ne _ _ (i := m) (k := h.n + 1) (by omega)) i2⟩
      rw [e2, List.find?_append]
      have : done.find? p = none := List.find?_eq_none.2 fun x hx => by rw [e3 x hx]; simp
      rw [this]
      simp [hp]
  · rintro h1 hn hc ⟨k1, k2, k3, k4, done, rest, e1, e2, e3⟩
    have : rest = [] := by cases rest with | nil => rfl | cons a l => cases e1
    subst this
    have hnone : ys.find? p = none := List.find?_eq_none.2 fun x hx => by rw [e2, List.append_nil] at hx; rw [e3 x hx]; simp
    rw [hnone]
    conv => whnf
    refine ⟨_, k1, ?_⟩
    conv => whnf
    refine ⟨_, hc, ?_⟩
    conv => whnf
    exact ⟨rfl, Foot.set (W := fun i => i = m) (k := h.n + 2) k3 (.inr (by omega)) _, kMap_eq (at_set_ne _ _ (by omega)) k4⟩
  · rintro e h1 hn hc ⟨rfl, y, k2, k3, k4, k5⟩ _
    rw [k2]
    conv => whnf
    refine ⟨_, hc, ?_⟩
    conv => whnf
    refine ⟨_, (at_set_ne _ _ (i := h.n + 1) (k := h.n + 2) (by omega)).trans k3, ?_⟩
    conv => whnf
    exact ⟨rfl, Foot.set (W := fun i => i = m) (k := h.n + 2) k4 (.inr (by omega)) _, kMap_eq (at_set_ne _ _ (by omega)) k5⟩
  · rintro x h1 _ _ hx
    exact hx.elim

set_option maxHeartbeats 1000000 in
theorem first_clash {a : Nat} {err : Int} {it : CV} {ys : List Nat} (hit : IterC Try.prog it (oneL ys)) {p : Nat → Bool} {c : Ln} {k : Bool} {m : Nat} {h : Heap} (hm : m < h.n) (hI : KMap c k (Heap.at h m))
    (hs : ∀ y, y ∈ ys → ∀ h1, Foot (fun i => i = m) h h1 → KMap c k (Heap.at h1 m) → ∃ e h2, CallOk Try.prog 61 [.c (I (y : Nat)), .ptr a 0] h1 .no e h2 .no ∧ (e = .ret (.c (B (p y))) ∧ Foot (fun i => i = m) h1 h2 ∧ KMap c k (Heap.at h2 m))) :
    ∃ e h', CallOk Try.prog 59 [.c it, .agg [.func (.func 61) [] [.ptr a 0], .c (I err)]] h .no e h' .no ∧ (e = firstC err (ys.find? p) ∧ Foot (fun i => i = m) h h' ∧ KMap c k (Heap.at h' m)) := by
  refine call_by (hm := false) Try.func59 rfl ?_
  conv => whnf
  refine range_n (hm := false) (h.n + 2) rfl rfl hit
    (I := fun l h1 => Heap.at h1 h.n = .blk [.func (.func 61) [] [.ptr a 0], .c (I err)] ∧ Heap.at h1 (h.n + 1) = .blk [.c (I 0)] ∧ Foot (fun i => i = m) h h1 ∧ KMap c k (Heap.at h1 m) ∧ ∃ done rest, l = oneL rest ∧ ys = done ++ rest ∧ ∀ y ∈ done, p y = false)
    (E := fun e h1 => e = .ret ∧ ∃ y, ys.find? p = some y ∧ Heap.at h1 (h.n + 1) = .blk [.c (I (y : Nat))] ∧ Foot (fun i => i = m) h h1 ∧ KMap c k (Heap.at h1 m)) (X := fun _ _ => False) ?_ ?_ ?_ ?_ ?_ ?_ ?_
  · rintro l h1 h2 ⟨k1, k2, k3, k4, k5⟩ hn ff
    exact ⟨(ff.below hn (by omega)).trans k1, (ff.below hn (by omega)).trans k2, k3.trans_up ff (by omega), kMap_eq (ff.below hn (by omega)) k4, k5⟩
  · rintro e h1 h2 ⟨k1, y, k2, k3, k4, k5⟩ hn ff
    exact ⟨k1, y, k2, (ff.below hn (by omega)).trans k3, k4.trans_up ff (by omega), kMap_eq (ff.below hn (by omega)) k5⟩
  · refine ⟨(at_push_lt _ _ (by rw [push_n]; omega)).trans (at_push_self _ _), at_push_self _ _, ((Foot.refl _ _).push _).push _, kMap_eq ((at_push_lt _ _ (by rw [push_n]; omega)).trans (at_push_lt _ _ hm)) hI, [], ys, rfl, rfl, by simp⟩
  · rintro y l h1 hn ⟨k1, k2, k3, k4, done, rest, e1, e2, e3⟩
    cases rest with
    | nil => cases e1
    | cons y0 rest =>
    obtain ⟨rfl, rfl⟩ := List.cons.inj e1
    conv => whnf
    refine ⟨rfl, fun hb fb hbn => ?_⟩
    have n1 : h.n + 2 + 2 ≤ h1.n := hn
    have b1 : Heap.at hb h.n = .blk [.func (.func 61) [] [.ptr a 0], .c (I err)] := (fb.keep h.n (by omega) (by omega)).trans k1
    have b2 : Heap.at hb (h.n + 1) = .blk [.c (I 0)] := (fb.keep (h.n + 1) (by omega) (by omega)).trans k2
    have b4 : KMap c k (Heap.at hb m) := kMap_eq (fb.keep m (by omega) (by omega)) k4
    have b3 : Foot (fun i => i = m) h hb := k3.trans_up (N := h.n) (fb.mono fun i _ hi => by omega) (Nat.le_refl _)
    obtain ⟨e, h2, hc, rfl, f2, i2⟩ := hs y0 (by rw [e2]; simp) hb b3 b4
    have c1 := (f2.keep (h.n + 1) (by omega) (by omega)).trans b2
    have c0 := (f2.keep h.n (by omega) (by omega)).trans b1
    have hn2 := f2.n
    conv => whnf
    refine ⟨_, b1, ?_⟩
    conv => whnf
    refine .inl _ h2 .no hc ?_
    conv => whnf
    have fend : Foot (fun i => i < h.n + 2) hb h2 := f2.mono fun i _ hi => by omega
    cases hp : p y0
    · conv => whnf
      exact ⟨fend, c0, c1, b3.trans f2, i2, done ++ [y0], rest, rfl, by rw [e2]; simp, fun z hz => by
        rcases List.mem_append.1 hz with h | h
        · exact e3 z h
        · rw [List.mem_singleton] at h; rw [h]; exact hp⟩
    · conv => whnf
      refine ⟨_, c1, ?_⟩
      conv => whnf
      refine ⟨Foot.set (k := h.n + 1) fend (.inl (by omega)) _, rfl, y0, ?_, at_set_self _ _ (i := h.n + 1) (by omega), Foot.set (W := fun i => i = m) (k := h.n + 1) (b3.trans f2) (.inr (by omega)) _, kMap_eq (at_set_ne _ _ (i := m) (k := h.n + 1) (by omega)) i2⟩
      rw [e2, List.find?_append]
      have : done.find? p = none := List.find?_eq_none.2 fun x hx => by rw [e3 x hx]; simp
      rw [this]
      simp [hp]
  · rintro h1 hn hc ⟨k1, k2, k3, k4, done, rest, e1, e2, e3⟩
    have : rest = [] := by cases rest with | nil => rfl | cons a l => cases e1
    subst this
    have hnone : ys.find? p = none := List.find?_eq_none.2 fun x hx => by rw [e2, List.append_nil] at hx; rw [e3 x hx]; simp
    rw [hnone]
    conv => whnf
    refine ⟨_, k1, ?_⟩
    conv => whnf
    refine ⟨_, hc, ?_⟩
    conv => whnf
    exact ⟨rfl, Foot.set (W := fun i => i = m) (k := h.n + 2) k3 (.inr (by omega)) _, kMap_eq (at_set_ne _ _ (by omega)) k4⟩
  · rintro e h1 hn hc ⟨rfl, y, k2, k3, k4, k5⟩ _
    rw [k2]
    conv => whnf
    refine ⟨_, hc, ?_⟩
    conv => whnf
    refine ⟨_, (at_set_ne _ _ (i := h.n + 1) (k := h.n + 2) (by omega)).trans k3, ?_⟩
    conv => whnf
    exact ⟨rfl, Foot.set (W := fun i => i = m) (k := h.n + 2) k4 (.inr (by omega)) _, kMap_eq (at_set_ne _ _ (by omega)) k5⟩
  · rintro x h1 _ _ hx
    exact hx.elim
end Go.Ag
/- Layer 6: truths of a line. -/
namespace Go.Ag
open Go.Proofs
set_option maxRecDepth 100000

def owns (c : Ln) (s : Nat) : List Co := (List.range c.bales.length).map (ownF c s)
theorem owns_len (c : Ln) (s : Nat) : (owns c s).length = c.bales.length := by simp [owns]
theorem owns_0 (c : Ln) (s : Nat) : ∀ o ∈ owns c s, ∀ w, 0 ≤ o w := by
  intro o ho w
  obtain ⟨i, -, rfl⟩ := List.mem_map.1 ho
  exact costB_0 w
theorem withF_both {c : Ln} {k : Bool} {s i : Nat} (hi : i < c.bales.length) (w : Nat) : withF c k s i w = bothF (stF c k) (owns c s) i w := by
  unfold withF bothF
  have e1 : ((owns c s).take i).reverse = (List.range i).reverse.map (ownF c s) := by
    unfold owns
    rw [← List.map_take, List.take_range, Nat.min_eq_left (by omega), List.map_reverse]
  have e2 : (owns c s).getD i (fun _ => 0) = ownF c s i := by
    unfold owns
    rw [List.getD_eq_getElem?_getD, List.getElem?_map, List.getElem?_range hi]; rfl
  have e3 : (owns c s).drop (i + 1) = (List.range' (i + 1) (c.bales.length - 1 - i)).map (ownF c s) := by
    unfold owns
    rw [← List.map_drop, List.range_eq_range', List.drop_range']
    congr 2
    · omega
    · omega
  rw [e1, e2, e3]
  unfold besF
  rw [if_pos rfl, if_neg (by show ¬ (1 : Int) = -1; omega)]
/-- A truth of a line, by the looks at some bales, with so many mistakes at most. -/
def Tru (c : Ln) (s : Nat) (m : Int) (ws : List Nat) : Prop := TrL c.drift.toNat (owns c s) m ws
theorem thr_tr {c : Ln} {s i : Nat} (hi : i < c.bales.length) {w : Nat} (hw : w ≤ 30) {m : Int} (h1 : m < 181) : withF c false s i w ≤ m ↔ ∃ ws, Tru c s m ws ∧ ws[i]? = some w := by
  rw [withF_both hi]
  exact both_tr (owns_0 c s) (by rw [owns_len]; exact hi) hw h1
theorem can_tr {c : Ln} {s i : Nat} (hi : i < c.bales.length) {m : Int} (h1 : m < 181) : minTo (withF c false s i) 30 ≤ m ↔ ∃ ws, Tru c s m ws := by
  rw [minTo_le]
  constructor
  · rintro ⟨j, h2, h3⟩
    obtain ⟨ws, h4, _⟩ := (thr_tr hi h2 h1).1 h3
    exact ⟨ws, h4⟩
  · rintro ⟨ws, h⟩
    have hl : i < ws.length := by rw [h.len, owns_len]; exact hi
    have hx : ws[i]? = some ws[i] := List.getElem?_eq_getElem hl
    have := h.top ws[i] (List.getElem_mem _)
    exact ⟨ws[i], this, (thr_tr hi this h1).2 ⟨ws, h, hx⟩⟩
theorem costL_le {l : List Co} {B : Int} : ∀ {xs : List Nat}, (∀ (i : Nat) (o : Co) (x : Nat), l[i]? = some o → xs[i]? = some x → o x ≤ B) → 0 ≤ B → costL l xs ≤ l.length * B := by
  induction l with
  | nil => intro xs _ _; simp [costL]
  | cons o l ih =>
    intro xs h hB
    cases xs with
    | nil =>
      simp only [costL, List.length_cons]
      exact Int.mul_nonneg (by omega) hB
    | cons x xs =>
      have h1 := h 0 o x rfl rfl
      have h2 := ih (xs := xs) (fun i o' x' h3 h4 => h (i + 1) o' x' (by simpa using h3) (by simpa using h4)) hB
      simp only [costL, List.length_cons]
      have : ((l.length + 1 : Nat) : Int) * B = l.length * B + B := by rw [Int.natCast_add, Int.add_mul]; simp
      omega
theorem path_zero (d : Nat) : ∀ n, Path d 0 (List.replicate n 0)
  | 0 => trivial
  | n + 1 => ⟨⟨by omega, by omega⟩, path_zero d n⟩
theorem own_get {c : Ln} {s i : Nat} {o : Co} (h : (owns c s)[i]? = some o) : i < c.bales.length ∧ o = ownF c s i := by
  have hi : i < c.bales.length := by
    have := (List.getElem?_eq_some_iff.1 h).1
    rwa [owns_len] at this
  unfold owns at h
  rw [List.getElem?_map, List.getElem?_range hi] at h
  exact ⟨hi, (Option.some.inj h).symm⟩
/-- With so many mistakes there is a truth: that no fleece is wrong. -/
theorem zero_tru {c : Ln} (hd : c.Good) (s : Nat) : Tru c s 180 (List.replicate c.bales.length 0) := by
  have n1 := hd.n1; have n6 := hd.n6
  refine ⟨by rw [owns_len]; simp, fun x hx => by rw [(List.mem_replicate.1 hx).2]; omega, ?_, ?_⟩
  · obtain ⟨n, hn⟩ : ∃ n, c.bales.length = n + 1 := ⟨c.bales.length - 1, by omega⟩
    rw [hn, List.replicate_succ]
    exact path_zero _ n
  · have := costL_le (l := owns c s) (B := 30) (xs := List.replicate c.bales.length 0) (fun i o x h1 h2 => ?_) (by omega)
    · rw [owns_len] at this; omega
    · obtain ⟨hi, rfl⟩ := own_get h1
      have hx : x = 0 := (List.mem_replicate.1 (List.mem_of_getElem? h2)).2
      subst hx
      have hg := ownB_good hd hi s
      have := hg.f1; have := hg.f2; have := hg.l1; have := hg.w0; have := hg.w1; have := hg.l0
      unfold ownF costB
      split <;> omega
theorem mist_some {c : Ln} (hd : c.Good) : minTo (thrF c false 0) 30 ≤ 180 := (can_tr hd.n1 (by omega)).2 ⟨_, zero_tru hd _⟩
/-- The least number of mistakes. -/
def mistN (c : Ln) : Nat := (minTo (thrF c false 0) 30).toNat
theorem minTo_0 {f : Co} (h : ∀ w, 0 ≤ f w) : ∀ k, 0 ≤ minTo f k
  | 0 => h 0
  | k + 1 => by have := minTo_0 h k; have := h (k + 1); simp only [minTo]; omega
theorem thr_0 {c : Ln} {s i : Nat} (hi : i < c.bales.length) {k : Bool} (w : Nat) : 0 ≤ withF c k s i w := by rw [withF_both hi]; exact both_0 (owns_0 c s) i w
theorem mist_eq {c : Ln} (hd : c.Good) : ((mistN c : Nat) : Int) = minTo (thrF c false 0) 30 := Int.toNat_of_nonneg (minTo_0 (fun w => thr_0 hd.n1 w) 30)
theorem find_least {p : Nat → Bool} {y : Nat} (h1 : p y = true) (h2 : ∀ j, j < y → p j = false) : ∀ (n k : Nat), k ≤ y → y < k + n → (List.range' k n).find? p = some y
  | 0, k, _, _ => by omega
  | n + 1, k, hk, hn => by
    rw [List.range'_succ]
    by_cases he : k = y
    · subst he; rw [List.find?_cons_of_pos h1]
    · rw [List.find?_cons_of_neg (by rw [h2 k (by omega)]; simp)]
      exact find_least h1 h2 n (k + 1) (by omega) (by omega)
theorem mist_find {c : Ln} (hd : c.Good) : (ftN 0 180).find? (fun y => decide (minTo (thrF c false 0) 30 ≤ (y : Nat))) = some (mistN c) := by
  have h1 := mist_eq hd
  have h2 := mist_some hd
  exact find_least (by rw [← h1]; simp) (fun j hj => by rw [← h1]; simp; omega) _ _ (by omega) (by omega)
theorem mist_iff {c : Ln} (hd : c.Good) {m : Nat} (h1 : m < 181) : mistN c ≤ m ↔ ∃ ws, Tru c (allN c) m ws := by
  rw [← can_tr hd.n1 (by omega)]
  have := mist_eq hd
  have e : thrF c false 0 = withF c false (allN c) 0 := rfl
  rw [← e, ← this]
  omega
end Go.Ag
