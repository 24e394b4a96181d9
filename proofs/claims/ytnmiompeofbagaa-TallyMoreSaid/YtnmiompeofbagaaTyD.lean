/- Contracts of functions of layer 5: supposing, fits; the chapter's tallies; the laws are awake. No conditions. -/
import Derived.Test.YtnmiompeofbagaaTyC
/- Layer 5: what is known with some calls, of a list of one's own. -/
namespace Go.Ag
open Go.Proofs
set_option maxRecDepth 100000

def knLM (v : TV) (id m : Nat) : List AV := [.c (I v.n), .c (I v.most), .c (.sl v.sc v.so v.sn), .msl id 4 0 v.cn v.cn, .map m]
def knAVM (v : TV) (id m : Nat) : AV := .agg (knLM v id m)
def knBlkM (v : TV) (id m : Nat) : AB := .blk (knLM v id m)
theorem snap_tally {H : Nat → AB} {v : TV} {id : Nat} (hco : v.co = 0) (hb : H id = .blk (v.cc.map .c)) (c : CV) : snaps H (v.cc.length + 40) [.agg [.c (I v.n), .c (I v.most), .c (.sl v.sc v.so v.sn), .msl id 4 0 v.cn v.cn], .c c] = some ([v.cv, c], [id]) := by
  simp only [snap, snaps, Option.bind_some, Option.map_some, hb]
  rw [snaps_map_c H v.cc _ (by omega)]
  simp only [TV.cv, hco]
  rfl
/-- What stays while bounds are put. -/
structure SameM (v : TV) (t : Td) (s id m : Nat) (Z : List AV) (h h1 : Heap) : Prop where
  kn : Heap.at h1 h.n = knBlkM v id m
  s : Heap.at h1 (h.n + 1) = .blk [.c (I s)]
  z : Heap.at h1 (h.n + 2) = .blk Z
  foot : Foot (fun i => i = m ∨ i = id) h h1
  map : KMap t (Heap.at h1 m)
theorem SameM.keep {v : TV} {t : Td} {s id m : Nat} {Z : List AV} {h h1 h2 : Heap} (k : SameM v t s id m Z h h1) (hm : m < h.n) (hn : h.n + 3 ≤ h1.n) (f : Foot (fun i => h.n + 3 ≤ i) h1 h2) : SameM v t s id m Z h h2 :=
  ⟨(f.keep _ (by omega) (by omega)).trans k.kn, (f.keep _ (by omega) (by omega)).trans k.s, (f.keep _ (by omega) (by omega)).trans k.z, k.foot.trans_up f (by omega), kMap_eq (f.keep _ (by omega) (by omega)) k.map⟩
set_option maxHeartbeats 2000000 in
theorem look_retM {v : TV} {t : Td} (hv : v.Is t) (hd : validX t = true) {s : Nat} (hs : s < 2 ^ 62) {id m : Nat} {h : Heap} (hco : v.co = 0) (hid : id < h.n) (hne : id ≠ m) (hcb : Heap.at h id = .blk (v.cc.map .c)) (hm : m < h.n) (hI : KMap t (Heap.at h m)) :
    ∃ e h', CallOk Try.prog 51 [knAVM v id m, .c (chV s)] h .no e h' .no ∧ (e = .ret (.c (.agg (toldC (lookF t s)))) ∧ Foot (fun i => i = m ∨ i = id) h h' ∧ KMap t (Heap.at h' m)) := by
  refine call_by (hm := false) Try.func51 rfl ?_
  conv => whnf
  generalize hH : TMap.push AB.dead (TMap.push AB.dead (TMap.push AB.dead h _) _) _ = H
  have h0n : H.n = h.n + 3 := by rw [← hH]; rfl
  have b0 : Heap.at H h.n = knBlkM v id m := by rw [← hH]; exact (at_push_lt _ _ (by simp only [push_n]; omega)).trans ((at_push_lt _ _ (by simp only [push_n]; omega)).trans (at_push_self _ _))
  have b1 : Heap.at H (h.n + 1) = .blk [.c (I s)] := by rw [← hH]; exact (at_push_lt _ _ (by simp only [push_n]; omega)).trans (at_push_self _ _)
  obtain ⟨Z4, b2, hZ4⟩ : ∃ Z : List AV, Heap.at H (h.n + 2) = .blk Z ∧ Z.length = 145 := ⟨_, by rw [← hH]; exact at_push_self _ _, rfl⟩
  have f0 : Foot (fun i => i = m ∨ i = id) h H := by rw [← hH]; exact (((Foot.refl _ _).push _).push _).push _
  have i0 : KMap t (Heap.at H m) := kMap_eq (by rw [← hH]; exact (at_push_lt _ _ (by simp only [push_n]; omega)).trans ((at_push_lt _ _ (by simp only [push_n]; omega)).trans (at_push_lt _ _ hm))) hI
  have q0 : Heap.at H id = .blk (v.cc.map .c) := by rw [← hH]; exact (at_push_lt _ _ (by simp only [push_n]; omega)).trans ((at_push_lt _ _ (by simp only [push_n]; omega)).trans ((at_push_lt _ _ hid).trans hcb))
  clear hH
  refine ⟨_, b0, ?_⟩
  conv => whnf
  refine ⟨_, b1, ?_⟩
  conv => whnf
  obtain ⟨C, ok, hl, hCl, hCc, hCe⟩ := k_lookup i0 s
  refine ⟨_, hl, ?_⟩
  conv => whnf
  generalize hH1 : TMap.push AB.dead H _ = H1
  have h1n : H1.n = h.n + 4 := by rw [← hH1, push_n]; omega
  have c0 : Heap.at H1 h.n = knBlkM v id m := by rw [← hH1]; exact (at_push_lt _ _ (by omega)).trans b0
  have c1 : Heap.at H1 (h.n + 1) = .blk [.c (I s)] := by rw [← hH1]; exact (at_push_lt _ _ (by omega)).trans b1
  have c2 : Heap.at H1 (h.n + 2) = .blk Z4 := by rw [← hH1]; exact (at_push_lt _ _ (by omega)).trans b2
  obtain ⟨Z5, c3, hZ5⟩ : ∃ Z : List AV, Heap.at H1 H.n = .blk Z ∧ Z.length = 145 := ⟨_, by rw [← hH1]; exact at_push_self _ _, rfl⟩
  have f1 : Foot (fun i => i = m ∨ i = id) h H1 := by rw [← hH1]; exact f0.push _
  have i1 : KMap t (Heap.at H1 m) := kMap_eq (by rw [← hH1]; exact at_push_lt _ _ (by omega)) i0
  have q1 : Heap.at H1 id = .blk (v.cc.map .c) := by rw [← hH1]; exact (at_push_lt _ _ (by omega)).trans q0
  clear hH1
  refine ⟨_, c3, ?_⟩
  conv => whnf
  refine store_in (sz145 hCl hCc) (put_all (by show Z5.length = (C.map AV.c).length; rw [hZ5, List.length_map, hCl])) ?_
  conv => whnf
  refine forceL_intro ?_
  conv => whnf
  generalize hH2 : TMap.set AB.dead H1 _ _ = H2
  have h2n : H2.n = h.n + 4 := by rw [← hH2, TMap.set_n]; exact h1n
  have d0 : Heap.at H2 h.n = knBlkM v id m := by rw [← hH2]; exact (at_set_ne _ _ (by omega)).trans c0
  have d1 : Heap.at H2 (h.n + 1) = .blk [.c (I s)] := by rw [← hH2]; exact (at_set_ne _ _ (by omega)).trans c1
  have d2 : Heap.at H2 (h.n + 2) = .blk Z4 := by rw [← hH2]; exact (at_set_ne _ _ (by omega)).trans c2
  have d3 : Heap.at H2 H.n = .blk (C.map .c) := by rw [← hH2]; exact at_set_self _ _ (by omega)
  have f2 : Foot (fun i => i = m ∨ i = id) h H2 := by rw [← hH2]; exact Foot.set f1 (.inr (by omega)) _
  have i2 : KMap t (Heap.at H2 m) := kMap_eq (by rw [← hH2]; exact at_set_ne _ _ (by omega)) i1
  have q2 : Heap.at H2 id = .blk (v.cc.map .c) := by rw [← hH2]; exact (at_set_ne _ _ (by omega)).trans q1
  clear hH2
  cases hok : ok
  case true =>
    have hCe := hCe hok
    conv => whnf
    refine ⟨_, d3, ?_⟩
    conv => whnf
    refine look_read (readVar_map (read86 hCl)) ?_
    conv => whnf
    refine ⟨_, d2, ?_⟩
    conv => whnf
    refine store_in (sz145 hCl hCc) (put_all (by show Z4.length = (C.map AV.c).length; rw [hZ4, List.length_map, hCl])) ?_
    conv => whnf
    refine forceL_intro ?_
    conv => whnf
    refine ⟨_, at_set_self _ _ (i := h.n + 2) (by omega), ?_⟩
    conv => whnf
    refine look_read (readVar_map (read86 hCl)) ?_
    conv => whnf
    rw [← hCe]
    exact ⟨rfl, Foot.set (W := fun i => i = m ∨ i = id) (k := h.n + 2) f2 (.inr (by omega)) _, kMap_eq (at_set_ne _ _ (i := m) (k := h.n + 2) (by omega)) i2⟩
  clear hCe
  conv => whnf
  obtain ⟨C0, hC0⟩ : ∃ C0, C0 = matC unkM := ⟨_, rfl⟩
  have hu : Ret Try.prog 79 [] (.agg C0) := by rw [hC0]; exact unknown_ret
  have l0 : C0.length = 144 := by rw [hC0, matC_len]
  have ce0 : (C0.map AV.c).all AV.cellish = true := by rw [hC0]; exact matC_cellish _
  refine .ret hu rfl ?_
  conv => whnf
  rw [aop_build86 (C := C0) (b := true)]; rotate_left; rfl; rfl; rfl; exact l0; exact ce0
  conv => whnf
  generalize hH3 : TMap.push AB.dead H2 _ = H3
  have h3n : H3.n = h.n + 5 := by rw [← hH3, push_n]; omega
  have g0 : Heap.at H3 h.n = knBlkM v id m := by rw [← hH3]; exact (at_push_lt _ _ (by omega)).trans d0
  have g1 : Heap.at H3 (h.n + 1) = .blk [.c (I s)] := by rw [← hH3]; exact (at_push_lt _ _ (by omega)).trans d1
  have g2 : Heap.at H3 (h.n + 2) = .blk Z4 := by rw [← hH3]; exact (at_push_lt _ _ (by omega)).trans d2
  obtain ⟨Z7, g4, hZ7⟩ : ∃ Z : List AV, Heap.at H3 H2.n = .blk Z ∧ Z.length = 145 := ⟨_, by rw [← hH3]; exact at_push_self _ _, rfl⟩
  have f3 : Foot (fun i => i = m ∨ i = id) h H3 := by rw [← hH3]; exact f2.push _
  have i3 : KMap t (Heap.at H3 m) := kMap_eq (by rw [← hH3]; exact at_push_lt _ _ (by omega)) i2
  have q3 : Heap.at H3 id = .blk (v.cc.map .c) := by rw [← hH3]; exact (at_push_lt _ _ (by omega)).trans q2
  clear hH3
  have l1 : (C0 ++ [B true]).length = 145 := by rw [List.length_append, l0]; rfl
  have ce1 : ((C0 ++ [B true]).map AV.c).all AV.cellish = true := by rw [List.map_append, List.all_append, ce0]; rfl
  refine ⟨_, g4, ?_⟩
  conv => whnf
  refine store_in (sz145 l1 ce1) (put_all (by show Z7.length = ((C0 ++ [B true]).map AV.c).length; rw [hZ7, List.length_map, l1])) ?_
  conv => whnf
  refine forceL_intro ?_
  conv => whnf
  generalize hH4 : TMap.set AB.dead H3 _ _ = H4
  have h4n : H4.n = h.n + 5 := by rw [← hH4, TMap.set_n]; exact h3n
  have k4 : Heap.at H4 H2.n = .blk (tldA C0) := by
    rw [← hH4, tldA_eq]
    exact (at_set_self _ _ (by omega)).trans rfl
  have same4 : SameM v t s id m Z4 h H4 := by
    rw [← hH4]
    exact ⟨(at_set_ne _ _ (by omega)).trans g0, (at_set_ne _ _ (by omega)).trans g1, (at_set_ne _ _ (by omega)).trans g2, Foot.set f3 (.inr (by omega)) _, kMap_eq (at_set_ne _ _ (by omega)) i3⟩
  have q4 : Heap.at H4 id = .blk (v.cc.map .c) := by rw [← hH4]; exact (at_set_ne _ _ (by omega)).trans q3
  clear hH4
  refine ⟨_, same4.kn, ?_⟩
  conv => whnf
  refine ⟨_, same4.s, ?_⟩
  conv => whnf
  refine .snapped _ _ _ _ _ (snap_tally hco q4 (chV s)) (bounds_ret v s) rfl ?_
  conv => whnf
  generalize hHk : Heap.upd H4 _ = Hk
  have ek : Hk = H4.set .dead id .dead := by rw [← hHk]; rfl
  have hkn : Hk.n = h.n + 5 := by rw [ek, TMap.set_n]; exact h4n
  have kk : Heap.at Hk H2.n = .blk (tldA C0) := by rw [ek]; exact (at_set_ne _ _ (by omega)).trans k4
  have samek : SameM v t s id m Z4 h Hk := by
    rw [ek]
    exact ⟨(at_set_ne _ _ (by omega)).trans same4.kn, (at_set_ne _ _ (by omega)).trans same4.s, (at_set_ne _ _ (by omega)).trans same4.z, Foot.set same4.foot (.inl (.inr rfl)) _, kMap_eq (at_set_ne _ _ (fun e => hne e.symm)) same4.map⟩
  clear hHk ek
  refine range_n (hm := false) (h.n + 5) hkn rfl (bounds_iter hv hd hs)
    (I := fun ys h1 => ∃ done rest d D, ys = prs rest ∧ prsOf t s = done ++ rest ∧ foldM unkM done = some d ∧ Inv12 d ∧ D = matC d ∧ Heap.at h1 H2.n = .blk (tldA D) ∧ SameM v t s id m Z4 h h1)
    (E := fun e h1 => e = .exit 0 ∧ lookF t s = none ∧ Heap.at h1 H2.n = .blk (zC.map .c) ∧ SameM v t s id m Z4 h h1) (X := fun _ _ => False) ?_ ?_ ?_ ?_ ?_ ?_ ?_
  · rintro ys h1 h2 ⟨done, rest, d, D, x1, x2, x3, x4, x5, x6, x7⟩ hn ff
    exact ⟨done, rest, d, D, x1, x2, x3, x4, x5, (ff.keep _ (by omega) (by omega)).trans x6, x7.keep hm (by omega) (ff.mono fun i _ hi => by omega)⟩
  · rintro e h1 h2 ⟨x1, x2, x3, x4⟩ hn ff
    exact ⟨x1, x2, (ff.keep _ (by omega) (by omega)).trans x3, x4.keep hm (by omega) (ff.mono fun i _ hi => by omega)⟩
  · exact ⟨[], prsOf t s, unkM, C0, rfl, rfl, rfl, unkM_inv, hC0, kk, samek⟩
  · rintro y ys h1 hn ⟨done, rest, d, D, x1, x2, x3, x4, x5, x6, x7⟩
    cases rest with
    | nil => cases x1
    | cons p rest =>
    obtain ⟨rfl, rfl⟩ := List.cons.inj x1
    have hp : p.good := prs_good hd s p (by rw [x2]; simp)
    have hle := hp.le; have hf := hp.f; have ht := hp.t; have hlo := hp.lo; have hhi := hp.hi
    have lD : D.length = 144 := by rw [x5, matC_len]
    have hstep := fold_app (l := done) (p := p) (d := unkM)
    rw [x3, Option.bind_some, step_eq] at hstep
    conv => whnf
    refine ⟨rfl, fun hb fb hbn => ?_⟩
    have b4 := (fb.keep H2.n (by omega) (by omega)).trans x6
    have b7 : SameM v t s id m Z4 h hb := x7.keep hm (by omega) (fb.mono fun i _ hi => by omega)
    conv => whnf
    refine ⟨_, b4, ?_⟩
    conv => whnf
    refine look_read (read84a lD) ?_
    conv => whnf
    refine .ret (excl_ret x5 x4.nar hp) rfl ?_
    conv => whnf
    cases hx : exclB d p
    case true =>
      rw [hx] at hstep
      conv => whnf
      refine ⟨_, b4, ?_⟩
      conv => whnf
      refine look_put (vs := zC.map AV.c) (cs := zC.map AV.c) (put_all (by rw [tldA_eq, List.length_map, List.length_map, List.length_append, lD]; rfl)) ?_
      conv => whnf
      exact ⟨Foot.set (W := fun i => i < h.n + 5) (k := H2.n) (Foot.refl _ _) (.inl (by omega)) _, rfl, by unfold lookF; rw [x2, show done ++ p :: rest = (done ++ [p]) ++ rest by simp]; exact fold_stop hstep, at_set_self _ _ (i := H2.n) (by omega), b7.keep hm (by omega) (Foot.set (W := fun i => h.n + 3 ≤ i) (k := H2.n) (Foot.refl _ _) (.inl (by omega)) _)⟩
    rw [hx] at hstep
    obtain ⟨c1, c2⟩ := excl_no hx
    conv => whnf
    refine ⟨_, b4, ?_⟩
    conv => whnf
    refine look_read (read84a lD) ?_
    conv => whnf
    refine .ret (miss_ret x5 hp) rfl ?_
    conv => whnf
    cases hmi : missB d p
    case false =>
      rw [hmi] at hstep
      conv => whnf
      exact ⟨Foot.refl _ _, done ++ [p], rest, d, D, rfl, by rw [x2]; simp, hstep, x4, x5, b4, b7⟩
    rw [hmi] at hstep
    have hput := put_ret x5 x4 hp c1 c2
    have hi1 := put_inv x4 hf ht c1
    have hi2 : Inv12 (putM (putM d p.f p.t p.hi) p.t p.f (-p.lo)) := by
      refine put_inv hi1 ht hf ?_
      have e1 := x4.self p.f hf; have e2 := x4.self p.t ht
      simp only [putM]; omega
    obtain ⟨D2, hD2⟩ : ∃ D2, D2 = matC (putM (putM d p.f p.t p.hi) p.t p.f (-p.lo)) := ⟨_, rfl⟩
    have lD2 : D2.length = 144 := by rw [hD2, matC_len]
    have cD2 : (D2.map AV.c).all AV.cellish = true := by rw [hD2]; exact matC_cellish _
    rw [matV, ← hD2] at hput
    conv => whnf
    refine ⟨_, b4, ?_⟩
    conv => whnf
    refine look_read (read84a lD) ?_
    conv => whnf
    refine .ret hput rfl ?_
    conv => whnf
    refine ⟨_, b4, ?_⟩
    conv => whnf
    refine store_in (sz84 D2 lD2 cD2) (put84a lD lD2) ?_
    conv => whnf
    refine forceL_intro ?_
    conv => whnf
    exact ⟨Foot.set (W := fun i => i < h.n + 5) (k := H2.n) (Foot.refl _ _) (.inl (by omega)) _, done ++ [p], rest, _, D2, rfl, by rw [x2]; simp, hstep, hi2, hD2, at_set_self _ _ (i := H2.n) (by omega), b7.keep hm (by omega) (Foot.set (W := fun i => h.n + 3 ≤ i) (k := H2.n) (Foot.refl _ _) (.inl (by omega)) _)⟩
  · rintro h1 hn hc ⟨done, rest, d, D, x1, x2, x3, x4, x5, x6, x7⟩
    have : rest = [] := by cases rest with | nil => rfl | cons a l => cases x1
    subst this
    rw [List.append_nil] at x2
    have hlook : lookF t s = some d := by unfold lookF; rw [x2]; exact x3
    have lD : D.length = 144 := by rw [x5, matC_len]
    have hres : toldC (lookF t s) = D ++ [B true] := by rw [hlook, x5]; rfl
    have lR : (D ++ [B true]).length = 145 := by rw [List.length_append, lD]; rfl
    have cR : ((D ++ [B true]).map AV.c).all AV.cellish = true := by rw [← hres]; exact toldC_cellish _
    rw [hres]
    conv => whnf
    refine ⟨_, x7.kn, ?_⟩
    conv => whnf
    refine ⟨_, x7.s, ?_⟩
    conv => whnf
    refine ⟨_, x6, ?_⟩
    conv => whnf
    refine look_read (read86a lD) ?_
    conv => whnf
    obtain ⟨b, hu, hb⟩ := k_update x7.map s hres.symm
    refine ⟨_, hu, ?_⟩
    conv => whnf
    generalize hH5 : TMap.app AB.dead _ _ = H5
    have e5 : H5 = h1.set .dead m b := by rw [← hH5]; rfl
    have y0 : Heap.at H5 H2.n = .blk (tldA D) := by rw [e5]; exact (at_set_ne _ _ (by omega)).trans x6
    have y1 : Heap.at H5 (h.n + 2) = .blk Z4 := by rw [e5]; exact (at_set_ne _ _ (by omega)).trans x7.z
    have y2 : KMap t (Heap.at H5 m) := kMap_eq (by rw [e5]; exact at_set_self _ _ (by omega)) hb
    have y3 : Foot (fun i => i = m ∨ i = id) h H5 := by rw [e5]; exact Foot.set x7.foot (.inl (.inl rfl)) _
    have y4 : Heap.at H5 (h.n + 5) = .coll true := by rw [e5]; exact (at_set_ne _ _ (by omega)).trans hc
    have y5 : h.n + 5 < H5.n := by rw [e5, TMap.set_n]; omega
    clear hH5 e5
    refine ⟨_, y0, ?_⟩
    conv => whnf
    refine look_read (read86a lD) ?_
    conv => whnf
    refine ⟨_, y1, ?_⟩
    conv => whnf
    refine store_in (sz145 lR cR) (put_all (by show Z4.length = ((D ++ [B true]).map AV.c).length; rw [hZ4, List.length_map, lR])) ?_
    conv => whnf
    refine forceL_intro ?_
    conv => whnf
    refine ⟨.coll true, (at_set_ne _ _ (i := h.n + 5) (k := h.n + 2) (by omega)).trans y4, ?_⟩
    conv => whnf
    refine ⟨_, (at_set_ne _ _ (i := h.n + 2) (k := h.n + 5) (by omega)).trans (at_set_self _ _ (i := h.n + 2) (by omega)), ?_⟩
    conv => whnf
    refine look_read (readVar_map (read86 lR)) ?_
    conv => whnf
    exact ⟨rfl, Foot.set (W := fun i => i = m ∨ i = id) (k := h.n + 5) (Foot.set (W := fun i => i = m ∨ i = id) (k := h.n + 2) y3 (.inr (by omega)) _) (.inr (by omega)) _, kMap_eq ((at_set_ne _ _ (i := m) (k := h.n + 5) (by omega)).trans (at_set_ne _ _ (i := m) (k := h.n + 2) (by omega))) y2⟩
  · rintro e h1 hn hc ⟨rfl, x2, x3, x4⟩ _
    obtain ⟨R, hR⟩ : ∃ R, R = zC := ⟨_, rfl⟩
    have hres : toldC (lookF t s) = R := by rw [x2, hR]; rfl
    have lR : R.length = 145 := by rw [hR]; rfl
    have cR : (R.map AV.c).all AV.cellish = true := by rw [hR]; exact zC_cellish
    rw [← hR] at x3
    rw [hres]
    conv => whnf
    refine ⟨_, x4.kn, ?_⟩
    conv => whnf
    refine ⟨_, x4.s, ?_⟩
    conv => whnf
    refine ⟨_, x3, ?_⟩
    conv => whnf
    refine look_read (readVar_map (read86 lR)) ?_
    conv => whnf
    obtain ⟨b, hu, hb⟩ := k_update x4.map s hres.symm
    refine ⟨_, hu, ?_⟩
    conv => whnf
    generalize hH5 : TMap.app AB.dead _ _ = H5
    have e5 : H5 = h1.set .dead m b := by rw [← hH5]; rfl
    have y0 : Heap.at H5 H2.n = .blk (R.map .c) := by rw [e5]; exact (at_set_ne _ _ (by omega)).trans x3
    have y1 : Heap.at H5 (h.n + 2) = .blk Z4 := by rw [e5]; exact (at_set_ne _ _ (by omega)).trans x4.z
    have y2 : KMap t (Heap.at H5 m) := kMap_eq (by rw [e5]; exact at_set_self _ _ (by omega)) hb
    have y3 : Foot (fun i => i = m ∨ i = id) h H5 := by rw [e5]; exact Foot.set x4.foot (.inl (.inl rfl)) _
    have y4 : Heap.at H5 (h.n + 5) = .coll true := by rw [e5]; exact (at_set_ne _ _ (by omega)).trans hc
    have y5 : h.n + 5 < H5.n := by rw [e5, TMap.set_n]; omega
    clear hH5 e5
    refine ⟨_, y0, ?_⟩
    conv => whnf
    refine look_read (readVar_map (read86 lR)) ?_
    conv => whnf
    refine ⟨_, y1, ?_⟩
    conv => whnf
    refine store_in (sz145 lR cR) (put_all (by show Z4.length = (R.map AV.c).length; rw [hZ4, List.length_map, lR])) ?_
    conv => whnf
    refine forceL_intro ?_
    conv => whnf
    refine ⟨.coll true, (at_set_ne _ _ (i := h.n + 5) (k := h.n + 2) (by omega)).trans y4, ?_⟩
    conv => whnf
    refine ⟨_, (at_set_ne _ _ (i := h.n + 2) (k := h.n + 5) (by omega)).trans (at_set_self _ _ (i := h.n + 2) (by omega)), ?_⟩
    conv => whnf
    refine look_read (readVar_map (read86 lR)) ?_
    conv => whnf
    exact ⟨rfl, Foot.set (W := fun i => i = m ∨ i = id) (k := h.n + 5) (Foot.set (W := fun i => i = m ∨ i = id) (k := h.n + 2) y3 (.inr (by omega)) _) (.inr (by omega)) _, kMap_eq ((at_set_ne _ _ (i := m) (k := h.n + 5) (by omega)).trans (at_set_ne _ _ (i := m) (k := h.n + 2) (by omega))) y2⟩
  · rintro x h1 _ _ hx
    exact hx.elim
end Go.Ag
/- Layer 5: with a call more. -/
namespace Go.Ag
open Go.Proofs
set_option maxRecDepth 100000

theorem all_retM {v : TV} {t : Td} (hv : v.Is t) (hd : validX t = true) (id m : Nat) (h : Heap) : ∃ e h', CallOk Try.prog 52 [knAVM v id m] h .no e h' .no ∧ (e = .ret (.c (chV (allN t))) ∧ Foot none' h h') := by
  have h5 := valid_numsX hd
  have e1 := hv.cn
  have h32 : 1 ≤ 2 ^ t.calls.length ∧ 2 ^ t.calls.length ≤ 512 := ⟨Nat.one_le_two_pow, Nat.pow_le_pow_right (n := 2) (by omega) h5.2.2.2.2.2⟩
  refine call_by (hm := false) Try.func52 rfl ?_
  conv => whnf
  refine ⟨knBlkM v id m, (at_push_lt _ _ (by rw [push_n]; omega)).trans (at_push_self _ _), ?_⟩
  conv => whnf
  refine ⟨by omega, _, shl_nat 1 v.cn (by omega) (by rw [e1]; omega), ?_⟩
  conv => whnf
  refine ⟨((allN t : Nat) : Int), by rw [wrap_eq (by rw [e1]; omega) (by rw [e1]; omega), e1]; unfold allN; omega, ?_⟩
  conv => whnf
  refine ⟨_, at_push_self _ _, ?_⟩
  conv => whnf
  refine ⟨_, at_set_self _ _ (i := h.n + 1) (by simp only [push_n]; omega), ?_⟩
  conv => whnf
  exact ⟨rfl, Foot.set (W := none') (k := h.n + 1) (((Foot.refl _ _).push _).push _) (.inr (by omega)) _⟩

theorem know_retM (v : TV) (t : Td) (id : Nat) (h : Heap) : ∃ e h', CallOk Try.prog 42 [.agg [.c (I v.n), .c (I v.most), .c (.sl v.sc v.so v.sn), .msl id 4 0 v.cn v.cn]] h .no e h' .no ∧ ∃ m, e = .ret (knAVM v id m) ∧ h.n ≤ m ∧ m < h'.n ∧ KMap t (Heap.at h' m) ∧ Foot none' h h' := by
  refine call_by (hm := false) Try.func42 rfl ?_
  conv => whnf
  refine ⟨.blk [.c (I v.n), .c (I v.most), .c (.sl v.sc v.so v.sn), .msl id 4 0 v.cn v.cn], (at_push_lt _ _ (by rw [push_n]; omega)).trans (at_push_self _ _), ?_⟩
  conv => whnf
  refine ⟨_, (at_push_lt _ _ (i := h.n + 1) (by simp only [push_n]; omega)).trans (at_push_self _ _), ?_⟩
  conv => whnf
  refine ⟨_, at_set_self _ _ (i := h.n + 1) (by simp only [push_n]; omega), ?_⟩
  conv => whnf
  exact ⟨h.n + 2, rfl, by omega, by show h.n + 2 < _; rw [TMap.set_n]; simp only [push_n]; omega, kMap_eq ((at_set_ne _ _ (i := h.n + 2) (k := h.n + 1) (by omega)).trans (at_push_self _ _)) (kMap_nil t), Foot.set (W := none') (k := h.n + 1) (((Foot.refl _ _).push _).push _ |>.push _) (.inr (by omega)) _⟩

/-! A list of one's own. -/
theorem U23 : Try.prog.underlying 23 = some (.slice 46) := by kernel_rfl
theorem S46 : slicePart Try.prog 46 = some 4 := by kernel_rfl
theorem zc46 : zeroCells Try.prog 46 = some [AV.lit (.int .i64 0), AV.lit (.int .i64 0), AV.lit (.int .i64 0), AV.lit (.int .i64 0)] := by kernel_rfl
theorem i46 : ∃ i, Try.prog.info? 46 = some i ∧ i.bytes = 32 := ⟨_, rfl, rfl⟩
def mkZ (n : Nat) : List AV := repeatCells [AV.lit (.int .i64 0), AV.lit (.int .i64 0), AV.lit (.int .i64 0), AV.lit (.int .i64 0)] (n * 4)
theorem mkZ_len (n : Nat) : (mkZ n).length = n * 4 := by unfold mkZ repeatCells; simp
theorem aop_make {o : Oper} {x : Operand} {σ : Operand → AV} {rd : Nat → AB} {fr n : Nat} (ho : o.op = .makeSlice 23 x x) (hx : σ x = .c (I n)) (hn : n ≤ 1000) :
    aop Try.prog o σ rd fr = some (.simple { val := .msl fr 4 0 n n, fresh := some (.blk (mkZ n)) }) := by
  obtain ⟨i, hi, hb⟩ := i46
  unfold aop
  rw [ho]
  have e : asInt (AV.c (I n)) = some (n : Int) := rfl
  simp only [hx, amakeSlice, U23, hi, S46, zc46, e, hb, Int.toNat_natCast]
  rw [if_pos ⟨by omega, by omega, by have : n * 32 ≤ 1000 * 32 := Nat.mul_le_mul_right _ hn; omega, by unfold limit; omega⟩]
  rfl
theorem rowCl_len (l : List Cl) : ∀ r ∈ l.map rowCl, r.length = 4 := by intro r hr; obtain ⟨x, _, rfl⟩ := List.mem_map.1 hr; rfl
theorem flat_sl {α : Type} {sz : Nat} : ∀ (rows : List (List α)) (_ : ∀ r ∈ rows, r.length = sz) (i : Nat) (r : List α), rows[i]? = some r → sliceOf rows.flatten (0 + i * sz) sz = some r
  | [], _, i, r, h => by simp at h
  | r0 :: rows, hr, 0, r, h => by
    simp only [List.getElem?_cons_zero, Option.some.injEq] at h
    subst h
    have h0 := hr r0 (by simp)
    rw [Nat.zero_mul, List.flatten_cons]
    exact sl_take h0
  | r0 :: rows, hr, i + 1, r, h => by
    have h0 := hr r0 (by simp)
    have ih := flat_sl rows (fun x hx => hr x (by simp [hx])) i r (by simpa using h)
    unfold sliceOf at ih ⊢
    rw [List.flatten_cons, show 0 + (i + 1) * sz = r0.length + (0 + i * sz) by rw [Nat.add_mul]; omega, List.drop_length_add_append]
    exact ih
theorem rowCl_cells (l : List Cl) : (((l.map rowCl).flatten).map AV.c).all AV.cellish = true := by
  rw [List.all_eq_true]
  intro c hc
  obtain ⟨c0, h0, rfl⟩ := List.mem_map.1 hc
  obtain ⟨r, hr, hcr⟩ := List.mem_flatten.1 h0
  obtain ⟨x, _, rfl⟩ := List.mem_map.1 hr
  simp only [rowCl, List.mem_cons, List.not_mem_nil, or_false] at hcr
  rcases hcr with rfl | rfl | rfl | rfl <;> rfl
/-- The whole of a slice's rows, as cells. -/
theorem SlOf.first {sz : Nat} {rows : List (List CV)} {cells : List CV} {off len : Nat} (h : SlOf sz rows cells off len) (hsz : ∀ r ∈ rows, r.length = sz) (rd : Nat → AB) : firstCells rd sz (.c (.sl cells off len)) = some (rows.flatten.map .c, rows.length, []) := by
  have key : ∀ (rows : List (List CV)) (off : Nat), (∀ r ∈ rows, r.length = sz) → (∀ i (r : List CV), rows[i]? = some r → sliceOf cells (off + i * sz) sz = some r) → sliceOf cells off (rows.length * sz) = some rows.flatten := by
    intro rows
    induction rows with
    | nil => intro off _ _; simp [sliceOf]
    | cons r rows ih =>
      intro off hs hr
      have h0 := hr 0 r rfl
      rw [Nat.zero_mul, Nat.add_zero] at h0
      have h1 := ih (off + sz) (fun r hr => hs r (by simp [hr])) (fun i r hir => by
        have := hr (i + 1) r (by simpa using hir)
        rw [Nat.add_mul, Nat.one_mul] at this
        rw [show off + sz + i * sz = off + (i * sz + sz) by omega]
        exact this)
      unfold sliceOf at h0 h1 ⊢
      dsimp only at h0 h1 ⊢
      split at h0
      · split at h1
        · simp only [Option.some.injEq] at h0 h1
          have e : List.take ((r :: rows).length * sz) (List.drop off cells) = (r :: rows).flatten := by
            rw [List.length_cons, Nat.add_mul, Nat.one_mul, Nat.add_comm, List.take_add, List.drop_drop, h0, h1, List.flatten_cons]
          rw [e, if_pos]
          rw [List.flatten_cons, List.length_append, ← h1]
          rename_i q1 q2
          rw [q2, hs r (by simp), List.length_cons, Nat.add_mul]
          omega
        · cases h1
      · cases h0
  have := key rows off hsz h.row
  simp only [firstCells]
  rw [h.len, this]
  rfl
/-- The argument with these calls. -/
def callsV (v : TV) (l : List Cl) : TV := ⟨v.n, v.most, v.sc, v.so, v.sn, (l.map rowCl).flatten, 0, l.length⟩
theorem callsV_is {v : TV} {t : Td} (hv : v.Is t) {l : List Cl} (hl : l.length ≤ 1000) : (callsV v l).Is { t with calls := l } := by
  refine ⟨hv.n, hv.most, hv.s, ⟨by simp [callsV], fun i r hr => flat_sl _ (rowCl_len l) i r hr⟩, hv.short.1, hl⟩
theorem copy_own {rd : Nat → AB} {id n : Nat} {s : AV} {rows : List (List CV)} {Z : List AV} (hf : firstCells rd 4 s = some (rows.flatten.map .c, rows.length, [])) (hn : rows.length = n) (hsz : ∀ r ∈ rows, r.length = 4) (hc : (rows.flatten.map AV.c).all AV.cellish = true) (hb : rd id = .blk Z) (hZ : Z.length = n * 4) :
    acopy Try.prog rd 23 (.msl id 4 0 n n) s = some { val := .int n, reads := [id], upds := [(id, .blk (rows.flatten.map .c))] } := by
  have hl : (rows.flatten.map AV.c).length = n * 4 := by rw [List.length_map, flat_len _ hsz, hn]
  unfold acopy
  simp only [U23, S46, hf, hc, and_self, if_true, hb, hn, Nat.min_self]
  rw [List.take_of_length_le (by omega)]
  simp only [putAt, Nat.zero_add]
  rw [if_pos (by omega)]
  simp only [Option.map_some, List.take_zero, List.nil_append]
  rw [List.drop_of_length_le (by omega), List.append_nil]

set_option maxHeartbeats 1000000 in
theorem supposing_ret {v : TV} {t : Td} (hv : v.Is t) (hd : validT t = true) (c : Cl) {m : Nat} {h : Heap} : ∃ e h', CallOk Try.prog 97 [knAV v m, .c (clV c)] h .no e h' .no ∧ ∃ id m2, e = .ret (knAVM (callsV v (t.calls ++ [c])) id m2) ∧ h.n ≤ id ∧ id < h'.n ∧ h.n ≤ m2 ∧ m2 < h'.n ∧ id ≠ m2 ∧ Heap.at h' id = .blk ((callsV v (t.calls ++ [c])).cc.map .c) ∧ KMap { t with calls := t.calls ++ [c] } (Heap.at h' m2) ∧ Foot none' h h' := by
  have h5 := valid_nums hd
  have e1 := hv.cn
  refine call_by (hm := false) Try.func97 rfl ?_
  conv => whnf
  generalize hH : TMap.push AB.dead (TMap.push AB.dead (TMap.push AB.dead h _) _) _ = H
  have h0n : H.n = h.n + 3 := by rw [← hH]; rfl
  have b0 : Heap.at H h.n = knBlk v m := by rw [← hH]; exact (at_push_lt _ _ (by simp only [push_n]; omega)).trans ((at_push_lt _ _ (by simp only [push_n]; omega)).trans (at_push_self _ _))
  have b1 : Heap.at H (h.n + 1) = .blk [.c (I c.kind), .c (I c.pos), .c (I c.lo), .c (I c.hi)] := by rw [← hH]; exact (at_push_lt _ _ (by simp only [push_n]; omega)).trans (at_push_self _ _)
  obtain ⟨Z2, b2, hZ2⟩ : ∃ Z : List AV, Heap.at H (h.n + 2) = .blk Z ∧ Z.length = 5 := ⟨_, by rw [← hH]; exact at_push_self _ _, rfl⟩
  have f0 : Foot none' h H := by rw [← hH]; exact (((Foot.refl _ _).push _).push _).push _
  clear hH
  refine ⟨_, b0, ?_⟩
  conv => whnf
  refine ⟨_, at_push_self _ _, ?_⟩
  conv => whnf
  generalize hH1 : TMap.set AB.dead (TMap.push AB.dead H _) _ _ = H1
  have h1n : H1.n = h.n + 4 := by rw [← hH1, new_n]; omega
  have c0 : Heap.at H1 h.n = knBlk v m := by rw [← hH1]; exact (at_old _ _ _ (by omega)).trans b0
  have c1 : Heap.at H1 (h.n + 1) = .blk [.c (I c.kind), .c (I c.pos), .c (I c.lo), .c (I c.hi)] := by rw [← hH1]; exact (at_old _ _ _ (by omega)).trans b1
  have c2 : Heap.at H1 (h.n + 2) = .blk Z2 := by rw [← hH1]; exact (at_old _ _ _ (by omega)).trans b2
  have c3 : Heap.at H1 H.n = .blk [.c (I v.n), .c (I v.most), .c (.sl v.sc v.so v.sn), .c (.sl v.cc v.co v.cn)] := by rw [← hH1]; exact at_new _ _ _
  have f1 : Foot none' h H1 := by rw [← hH1]; exact Foot.set (k := H.n) (f0.push _) (.inr (by omega)) _
  clear hH1
  refine ⟨_, c0, ?_⟩
  conv => whnf
  rw [e1]
  rw [aop_make (n := t.calls.length)]; rotate_left; rfl; rfl; omega
  obtain ⟨Z, hZd⟩ : ∃ Z, Z = mkZ t.calls.length := ⟨_, rfl⟩
  have hZ : Z.length = t.calls.length * 4 := by rw [hZd, mkZ_len]
  rw [← hZd]
  conv => whnf
  refine forceL_intro ?_
  conv => whnf
  refine ⟨_, (at_push_lt _ _ (by omega)).trans c3, ?_⟩
  conv => whnf
  generalize hH2 : TMap.set AB.dead (TMap.push AB.dead H1 _) _ _ = H2
  have h2n : H2.n = h.n + 5 := by rw [← hH2, TMap.set_n, push_n]; omega
  have d0 : Heap.at H2 h.n = knBlk v m := by rw [← hH2]; exact (at_set_ne _ _ (by omega)).trans ((at_push_lt _ _ (by omega)).trans c0)
  have d1 : Heap.at H2 (h.n + 1) = .blk [.c (I c.kind), .c (I c.pos), .c (I c.lo), .c (I c.hi)] := by rw [← hH2]; exact (at_set_ne _ _ (by omega)).trans ((at_push_lt _ _ (by omega)).trans c1)
  have d2 : Heap.at H2 (h.n + 2) = .blk Z2 := by rw [← hH2]; exact (at_set_ne _ _ (by omega)).trans ((at_push_lt _ _ (by omega)).trans c2)
  have d3 : Heap.at H2 H.n = .blk [.c (I v.n), .c (I v.most), .c (.sl v.sc v.so v.sn), .msl H1.n 4 0 t.calls.length t.calls.length] := by rw [← hH2]; exact (at_set_self _ _ (by rw [push_n]; omega)).trans rfl
  have d4 : Heap.at H2 H1.n = .blk Z := by rw [← hH2]; exact (at_set_ne _ _ (by omega)).trans (at_push_self _ _)
  have f2 : Foot none' h H2 := by rw [← hH2]; exact Foot.set (k := H.n) (f1.push _) (.inr (by omega)) _
  clear hH2
  refine ⟨_, d3, ?_⟩
  conv => whnf
  refine ⟨_, d0, ?_⟩
  conv => whnf
  have hfirst := hv.c.first (rowCl_len t.calls) (Heap.at H2)
  refine ⟨_, copy_own hfirst (by simp) (rowCl_len t.calls) (rowCl_cells t.calls) d4 hZ, ?_⟩
  conv => whnf
  generalize hH3 : TMap.app AB.dead _ _ = H3
  have e3 : H3 = H2.set .dead H1.n (.blk ((t.calls.map rowCl).flatten.map .c)) := by rw [← hH3]; rfl
  have h3n : H3.n = h.n + 5 := by rw [e3, TMap.set_n]; exact h2n
  have g1 : Heap.at H3 (h.n + 1) = .blk [.c (I c.kind), .c (I c.pos), .c (I c.lo), .c (I c.hi)] := by rw [e3]; exact (at_set_ne _ _ (by omega)).trans d1
  have g2 : Heap.at H3 (h.n + 2) = .blk Z2 := by rw [e3]; exact (at_set_ne _ _ (by omega)).trans d2
  have g3 : Heap.at H3 H.n = .blk [.c (I v.n), .c (I v.most), .c (.sl v.sc v.so v.sn), .msl H1.n 4 0 t.calls.length t.calls.length] := by rw [e3]; exact (at_set_ne _ _ (by omega)).trans d3
  have g4 : Heap.at H3 H1.n = .blk ((t.calls.map rowCl).flatten.map .c) := by rw [e3]; exact at_set_self _ _ (by omega)
  have f3 : Foot none' h H3 := by rw [e3]; exact Foot.set (k := H1.n) f2 (.inr (by omega)) _
  clear hH3 e3 d0 d1 d2 d3 d4 f2
  refine ⟨_, g3, ?_⟩
  conv => whnf
  refine ⟨_, g1, ?_⟩
  conv => whnf
  have q3 : Heap.at (H3.push .dead (.blk [.c (I c.kind), .c (I c.pos), .c (I c.lo), .c (I c.hi)])) H3.n = .blk [.c (I c.kind), .c (I c.pos), .c (I c.lo), .c (I c.hi)] := at_push_self _ _
  have hfc : firstCells (atF (H3.push .dead (.blk [.c (I c.kind), .c (I c.pos), .c (I c.lo), .c (I c.hi)]))) 4 (.msl H3.n 4 0 1 1) = some ([.c (I c.kind), .c (I c.pos), .c (I c.lo), .c (I c.hi)], 1, [H3.n]) := by
    rw [atF_eq]; simp only [firstCells, q3]; rfl
  refine ⟨_, append_grow (id := H1.n) (len := t.calls.length) rfl rfl U23 U23 rfl S46 hfc rfl (by omega) (by unfold limit; omega) (by rw [atF_eq]; exact (at_push_lt _ _ (by omega)).trans g4) (by rw [List.length_map, flat_len _ (rowCl_len _), List.length_map]), ?_⟩
  conv => whnf
  generalize hH4 : TMap.app AB.dead _ _ = H4
  have e4 : H4 = ((H3.push .dead (.blk [.c (I c.kind), .c (I c.pos), .c (I c.lo), .c (I c.hi)])).set .dead H1.n .dead).push .dead (.blk ((t.calls.map rowCl).flatten.map .c ++ [.c (I c.kind), .c (I c.pos), .c (I c.lo), .c (I c.hi)])) := by rw [← hH4]; rfl
  obtain ⟨nid, hnid⟩ : ∃ nid, nid = H3.n + 1 := ⟨_, rfl⟩
  have hp3 : (H3.push .dead (.blk [.c (I c.kind), .c (I c.pos), .c (I c.lo), .c (I c.hi)])).n = nid := by rw [push_n, hnid]
  have hlen : (t.calls ++ [c]).length = t.calls.length + 1 := by simp
  have hcells : (callsV v (t.calls ++ [c])).cc.map AV.c = (t.calls.map rowCl).flatten.map .c ++ [.c (I c.kind), .c (I c.pos), .c (I c.lo), .c (I c.hi)] := by
    simp [callsV, rowCl]
  have h4n : H4.n = nid + 1 := by rw [e4, push_n, TMap.set_n, hp3]
  have k2 : Heap.at H4 (h.n + 2) = .blk Z2 := by rw [e4]; exact (at_push_lt _ _ (by rw [TMap.set_n, hp3]; omega)).trans ((at_set_ne _ _ (by omega)).trans ((at_push_lt _ _ (by omega)).trans g2))
  have k3 : Heap.at H4 H.n = .blk [.c (I v.n), .c (I v.most), .c (.sl v.sc v.so v.sn), .msl H1.n 4 0 t.calls.length t.calls.length] := by rw [e4]; exact (at_push_lt _ _ (by rw [TMap.set_n, hp3]; omega)).trans ((at_set_ne _ _ (by omega)).trans ((at_push_lt _ _ (by omega)).trans g3))
  have k4 : Heap.at H4 nid = .blk ((callsV v (t.calls ++ [c])).cc.map .c) := by
    rw [e4, hcells]
    have : nid = ((H3.push .dead (.blk [.c (I c.kind), .c (I c.pos), .c (I c.lo), .c (I c.hi)])).set .dead H1.n .dead).n := by rw [TMap.set_n, hp3]
    rw [this]; exact at_push_self _ _
  have f4 : Foot none' h H4 := by rw [e4]; exact (Foot.set (k := H1.n) (f3.push _) (.inr (by omega)) _).push _
  clear hH4 e4
  rw [hp3]
  refine ⟨_, k3, ?_⟩
  conv => whnf
  generalize hH5 : TMap.set AB.dead H4 _ _ = H5
  have h5n : H5.n = nid + 1 := by rw [← hH5, TMap.set_n]; exact h4n
  have l2 : Heap.at H5 (h.n + 2) = .blk Z2 := by rw [← hH5]; exact (at_set_ne _ _ (by omega)).trans k2
  have l3 : Heap.at H5 H.n = .blk [.c (I v.n), .c (I v.most), .c (.sl v.sc v.so v.sn), .msl nid 4 0 (t.calls.length + 1) (t.calls.length + 1)] := by rw [← hH5]; exact (at_set_self _ _ (by omega)).trans rfl
  have l4 : Heap.at H5 nid = .blk ((callsV v (t.calls ++ [c])).cc.map .c) := by rw [← hH5]; exact (at_set_ne _ _ (by omega)).trans k4
  have f5 : Foot none' h H5 := by rw [← hH5]; exact Foot.set (k := H.n) f4 (.inr (by omega)) _
  clear hH5
  refine ⟨_, l3, ?_⟩
  conv => whnf
  obtain ⟨e6, H6, hc6, m2, he6, m0, m1, i6, f6⟩ := know_retM (callsV v (t.calls ++ [c])) { t with calls := t.calls ++ [c] } nid H5
  have ev : (callsV v (t.calls ++ [c])).cn = t.calls.length + 1 := hlen
  rw [ev] at hc6
  have hn6 := f6.n
  subst he6
  refine .inl _ H6 .no hc6 ?_
  conv => whnf
  have p2 := (f6.keep (h.n + 2) (by omega) (fun x => x)).trans l2
  have p4 := (f6.keep nid (by omega) (fun x => x)).trans l4
  refine ⟨_, p2, ?_⟩
  conv => whnf
  refine look_put (put_all (vs := knLM (callsV v (t.calls ++ [c])) nid m2) (by rw [hZ2]; rfl)) ?_
  conv => whnf
  refine ⟨_, at_set_self _ _ (i := h.n + 2) (by omega), ?_⟩
  conv => whnf
  exact ⟨nid, m2, rfl, by omega, by show nid < _; rw [TMap.set_n]; omega, by omega, by show m2 < _; rw [TMap.set_n]; omega, by omega, (at_set_ne _ _ (i := nid) (k := h.n + 2) (by omega)).trans p4, kMap_eq (at_set_ne _ _ (i := m2) (k := h.n + 2) (by omega)) i6, Foot.set (W := none') (k := h.n + 2) (f5.trans f6) (.inr (by omega)) _⟩
end Go.Ag
/- Layer 5: whether a call can be right. -/
namespace Go.Ag
open Go.Proofs
set_option maxRecDepth 100000

def moreT (t : Td) (c : Cl) : Td := { t with calls := t.calls ++ [c] }
theorem more_X {t : Td} (hd : validT t = true) {c : Cl} (hc : callOk t.n c = true) : validX (moreT t c) = true := by
  simp only [validT, validX, moreT, Bool.and_eq_true, decide_eq_true_eq, List.all_append, List.length_append] at hd ⊢
  refine ⟨hd.1, hd.2.1, ⟨decide_eq_true hd.2.2.1.1, hd.2.2.1.2⟩, ?_, hd.2.2.2.2, by simp [hc]⟩
  have := hd.2.2.2.1
  simp only [List.length_cons, List.length_nil]; omega
def fitsN (t : Td) (c : Cl) (d : M) : Int := if !missB d (callP t.n c) then 2 else if canB (lookF (moreT t c) (allN (moreT t c))) then 1 else 0
def fitsEnd (t : Td) (c : Cl) : AEnd := match lookF t (allN t) with
  | some d => .ret (.c (I (fitsN t c d)))
  | none => .panic (errV 10)
theorem fitsEnd_c (t : Td) (c : Cl) : ∃ x, (fitsEnd t c).val = .c x ∧ (fitsEnd t c).setVal (.c x) = fitsEnd t c := by
  unfold fitsEnd
  cases lookF t (allN t) with
  | none => exact ⟨_, rfl, rfl⟩
  | some d => exact ⟨_, rfl, rfl⟩

set_option maxHeartbeats 2000000 in
theorem fits_ret {v : TV} {t : Td} (hv : v.Is t) (hd : validT t = true) {c : Cl} (hc : callOk t.n c = true) {m : Nat} {h : Heap} (hm : m < h.n) (hI : KMap t (Heap.at h m)) :
    ∃ e h', CallOk Try.prog 66 [knAV v m, .c (clV c)] h .no e h' .no ∧ e = fitsEnd t c := by
  have h5 := valid_nums hd
  have ha := allN_lt hd
  have hN : v.n = ((t.n.toNat : Nat) : Int) := by have := hv.n; omega
  have hcl := called_ret hN ⟨by omega, by omega⟩ (c := c) (by rw [show ((t.n.toNat : Nat) : Int) = t.n by omega]; exact hc)
  rw [show ((t.n.toNat : Nat) : Int) = t.n by omega] at hcl
  have hgood := call_good ⟨h5.1, h5.2.1⟩ hc
  unfold fitsEnd
  refine call_by (hm := false) Try.func66 rfl ?_
  conv => whnf
  generalize hH : TMap.push AB.dead (TMap.push AB.dead h _) _ = H
  have h0n : H.n = h.n + 2 := by rw [← hH]; rfl
  have b0 : Heap.at H h.n = knBlk v m := by rw [← hH]; exact (at_push_lt _ _ (by simp only [push_n]; omega)).trans (at_push_self _ _)
  have b1 : Heap.at H (h.n + 1) = .blk [.c (I c.kind), .c (I c.pos), .c (I c.lo), .c (I c.hi)] := by rw [← hH]; exact at_push_self _ _
  have i0 : KMap t (Heap.at H m) := kMap_eq (by rw [← hH]; exact (at_push_lt _ _ (by simp only [push_n]; omega)).trans (at_push_lt _ _ hm)) hI
  clear hH
  obtain ⟨e3, H3, hc3, rfl, f3⟩ := all_ret hv (validT_X hd) m H
  have n3 := f3.n
  obtain ⟨e4, H4, hc4, rfl, f4, i4⟩ := look_ret hv (validT_X hd) (s := allN t) (pow62 ha).1 (m := m) (h := H3) (by omega) (kMap_eq (f3.keep m (by omega) (fun x => x)) i0)
  have n4 := f4.n
  obtain ⟨e5, H5, hc5, he5, f5⟩ := sure_at (lookF t (allN t)) H4
  have n5 := f5.n
  have p0 : Heap.at H5 h.n = knBlk v m := (f5.keep _ (by omega) (fun x => x)).trans ((f4.keep _ (by omega) (by omega)).trans ((f3.keep _ (by omega) (fun x => x)).trans b0))
  have p1 : Heap.at H5 (h.n + 1) = .blk [.c (I c.kind), .c (I c.pos), .c (I c.lo), .c (I c.hi)] := (f5.keep _ (by omega) (fun x => x)).trans ((f4.keep _ (by omega) (by omega)).trans ((f3.keep _ (by omega) (fun x => x)).trans b1))
  refine mixed_by (hm := false) (by kernel_rfl) (by kernel_rfl) ?_
  conv => whnf
  refine ⟨_, b0, ?_⟩
  conv => whnf
  refine ⟨_, b1, ?_⟩
  conv => whnf
  refine .ret _ _ hcl rfl ?_
  conv => whnf
  refine ⟨_, b0, ?_⟩
  conv => whnf
  refine ⟨_, b0, ?_⟩
  conv => whnf
  refine .heavy _ H3 (.inl hc3) ?_
  conv => whnf
  refine .heavy _ H4 (.inl hc4) ?_
  conv => whnf
  cases hl : lookF t (allN t) with
  | none =>
    rw [hl] at he5 hc5
    subst he5
    refine .heavy _ H5 (.inl hc5) ?_
    conv => whnf
    refine mOps_list (l' := []) (by kernel_rfl) ?_
    conv => whnf
    refine ⟨by kernel_rfl, ?_, ?_⟩
    · exact heaps_eq (l' := [(h.n, H, H3)]) (by kernel_rfl) (heaps_cons (f3.keep _ (by omega) (fun x => x)) (by simp [HeapsOk]))
    intro ds
    conv => whnf
  | some d =>
    rw [hl] at he5 hc5
    subst he5
    have hinv := (look_some (validT_X hd) hl).1
    obtain ⟨D, hD⟩ : ∃ D, D = matC d := ⟨_, rfl⟩
    have hmiss := miss_ret hD hgood
    rw [sureEnd, matV, ← hD] at hc5
    refine .heavy _ H5 (.inl hc5) ?_
    conv => whnf
    refine .ret _ _ hmiss rfl ?_
    conv => whnf
    refine ⟨by kernel_rfl, ?_, ?_⟩
    · exact heaps_eq (l' := [(h.n, H, H3)]) (by kernel_rfl) (heaps_cons (f3.keep _ (by omega) (fun x => x)) (by simp [HeapsOk]))
    conv => whnf
    refine ⟨_, p0, ?_⟩
    conv => whnf
    refine ⟨_, p1, ?_⟩
    conv => whnf
    obtain ⟨e6, H6, hc6, id, m2, rfl, q1, q2, q3, q4, q5, q6, q7, f6⟩ := supposing_ret hv hd c (m := m) (h := H5)
    refine .inl _ H6 .no hc6 ?_
    conv => whnf
    have hX := more_X hd hc
    have hvm : (callsV v (t.calls ++ [c])).Is (moreT t c) := callsV_is hv (by simp; omega)
    have h5X := valid_numsX hX
    have haX : allN (moreT t c) < 512 := by
      have h32 : 1 ≤ 2 ^ (moreT t c).calls.length ∧ 2 ^ (moreT t c).calls.length ≤ 512 := ⟨Nat.one_le_two_pow, Nat.pow_le_pow_right (n := 2) (by omega) h5X.2.2.2.2.2⟩
      unfold allN; omega
    refine ⟨_, at_push_self _ _, ?_⟩
    conv => whnf
    generalize hH7 : TMap.set AB.dead (TMap.push AB.dead H6 _) _ _ = H7
    have n7 : H7.n = H6.n + 1 := by rw [← hH7]; exact new_n _ _ _
    have r0 : Heap.at H7 H6.n = knBlkM (callsV v (t.calls ++ [c])) id m2 := by rw [← hH7]; exact (at_new _ _ _).trans rfl
    have r1 : Heap.at H7 id = .blk ((callsV v (t.calls ++ [c])).cc.map .c) := by rw [← hH7]; exact (at_old _ _ _ q2).trans q6
    have r2 : KMap (moreT t c) (Heap.at H7 m2) := kMap_eq (by rw [← hH7]; exact at_old _ _ _ q4) q7
    clear hH7
    obtain ⟨e8, H8, hc8, rfl, f8⟩ := all_retM hvm hX id m2 H7
    have n8 := f8.n
    obtain ⟨e9, H9, hc9, rfl, f9, i9⟩ := look_retM hvm hX (s := allN (moreT t c)) (by omega) (id := id) (m := m2) (h := H8) rfl (by omega) q5 ((f8.keep id (by omega) (fun x => x)).trans r1) (by omega) (kMap_eq (f8.keep m2 (by omega) (fun x => x)) r2)
    have hs := howSure_ret (!missB d (callP t.n c)) (canB (lookF (moreT t c) (allN (moreT t c))))
    refine mixed_by (hm := false) (by kernel_rfl) (by kernel_rfl) ?_
    conv => whnf
    refine ⟨_, r0, ?_⟩
    conv => whnf
    refine ⟨_, r0, ?_⟩
    conv => whnf
    refine .heavy _ H8 (.inl hc8) ?_
    conv => whnf
    refine .heavy _ H9 (.inl hc9) ?_
    conv => whnf
    rw [aop_can (r := lookF (moreT t c) (allN (moreT t c)))]; rotate_left; rfl; rfl
    conv => whnf
    refine .ret _ _ hs rfl ?_
    conv => whnf
    refine ⟨by kernel_rfl, ?_, ?_⟩
    · exact heaps_eq (l' := [(H6.n, H7, H8)]) (by kernel_rfl) (heaps_cons (f8.keep _ (by omega) (fun x => x)) (by simp [HeapsOk]))
    conv => whnf
    rfl

theorem find_fits {v : TV} {t : Td} (hv : v.Is t) (hd : validT t = true) {c : Cl} (hc : callOk t.n c = true) : CallOk Try.prog 65 ([tP v, .cptr (rowCl c) 0].map .c) TMap.nil .no (fitsEnd t c) TMap.nil .no := by
  refine close_any (fitsEnd_c t c) ?_
  refine call_by (hm := false) Try.func65 rfl ?_
  conv => whnf
  obtain ⟨e1, H1, hc1, m, rfl, hm0, hm1, hI1, f1⟩ := know_ret v t TMap.nil
  obtain ⟨e2, H2, hc2, he2⟩ := fits_ret hv hd hc (m := m) (h := H1) hm1 hI1
  refine mixed_by (hm := false) (by kernel_rfl) (by kernel_rfl) ?_
  conv => whnf
  refine ⟨_, rfl, ?_⟩
  conv => whnf
  refine .heavy _ H1 (.inl hc1) ?_
  conv => whnf
  refine ⟨_, rfl, ?_⟩
  conv => whnf
  subst he2
  unfold fitsEnd at hc2 ⊢
  cases hl : lookF t (allN t) with
  | none =>
    rw [hl] at hc2
    refine .heavy _ H2 (.inl hc2) ?_
    conv => whnf
    refine mOps_list (l' := []) (by kernel_rfl) ?_
    conv => whnf
    refine ⟨by kernel_rfl, heaps_nil (by kernel_rfl), ?_⟩
    intro ds
    conv => whnf
  | some d =>
    rw [hl] at hc2
    refine .heavy _ H2 (.inl hc2) ?_
    conv => whnf
    refine ⟨by kernel_rfl, heaps_nil (by kernel_rfl), ?_⟩
    conv => whnf
    rfl
def fitsR (t : Td) (c : Cl) : Int × Int := if validT t = false then (0, 1) else if callOk t.n c = false then (0, 2) else match lookF t (allN t) with
  | some d => (fitsN t c d, 0)
  | none => (0, 10)
theorem answer_fits {a b : CV} {t : Td} {c : Cl} (hc : CallOk Try.prog 65 ([a, b].map .c) TMap.nil .no (fitsEnd t c) TMap.nil .no) : Ret Try.prog 47 [.func (.func 65) [] [a, b]] (match lookF t (allN t) with | some d => .tuple [I (fitsN t c d), I 0] | none => .tuple [I 0, I 10]) := by
  unfold fitsEnd at hc
  refine ret_by (hm := true) Try.func47 rfl ?_
  conv => whnf
  cases hl : lookF t (allN t) with
  | none =>
    rw [hl] at hc
    refine .pure [a, b] _ rfl hc ⟨_, rfl⟩ ?_
    conv => whnf
    refine .mk _ _ _ (caughtN_live (c := 10) (c0 := 10) rfl) ?_
    conv => whnf
    exact .val
  | some d =>
    rw [hl] at hc
    refine .pure [a, b] _ rfl hc ⟨_, rfl⟩ ?_
    conv => whnf
    refine .mk _ _ _ (caughtN_no _ _) ?_
    conv => whnf
    exact .val
theorem fitsAll_ret {v : TV} {t : Td} (hv : v.Is t) (c : Cl) : Ret Try.prog 26 [v.cv, clV c] (.tuple [I (fitsR t c).1, I (fitsR t c).2]) := by
  unfold fitsR
  refine ret_by (hm := true) Try.func26 rfl ?_
  conv => whnf
  refine .ret (valid_ret hv) rfl ?_
  conv => whnf
  cases h1 : validT t
  · conv => whnf
    exact .val
  have h5 := valid_nums h1
  have hn : inB' t.n 1 5 = true := by simp [inB']; omega
  conv => whnf
  refine .ret (validCall_ret hv hn c) rfl ?_
  conv => whnf
  cases h2 : callOk t.n c
  · conv => whnf
    exact .val
  have ha := answer_fits (find_fits hv h1 h2)
  conv => whnf
  cases hl : lookF t (allN t) with
  | none =>
    rw [hl] at ha
    refine .snapped 20 _ _ _ _ rfl ha rfl ?_
    conv => whnf
    exact .val
  | some d =>
    rw [hl] at ha
    refine .snapped 20 _ _ _ _ rfl ha rfl ?_
    conv => whnf
    exact .val
end Go.Ag
/- Layer 5: the chapter's tallies. -/
namespace Go.Ag
open Go.Proofs
set_option maxRecDepth 100000

def trB (t : Td) (set : Nat) (xs : List Int) : Bool := ((List.range 12).all fun i => (List.range 12).all fun j => decide (xs.getD j 0 - xs.getD i 0 ≤ unkM i j)) && (prsOf t set).all fun p => decide (p.lo ≤ xs.getD p.t 0 - xs.getD p.f 0) && decide (xs.getD p.t 0 - xs.getD p.f 0 ≤ p.hi)
theorem tr_of {t : Td} {set : Nat} {xs : List Int} (h : trB t set xs = true) : Tr t set fun k => xs.getD k 0 := by
  simp only [trB, Bool.and_eq_true, List.all_eq_true, List.mem_range, decide_eq_true_eq] at h
  exact ⟨fun i j hi hj => h.1 i hi j hj, fun p hp => h.2 p hp⟩
theorem can_of {t : Td} (hv : validX t = true) {set : Nat} {xs : List Int} (h : trB t set xs = true) : canB (lookF t set) = true := (look_can hv set).2 ⟨_, tr_of h⟩
theorem can_not {t : Td} (hv : validX t = true) {set : Nat} (h : ∀ x, ¬ Tr t set x) : canB (lookF t set) = false := by
  cases hc : canB (lookF t set) with
  | false => rfl
  | true => obtain ⟨x, hx⟩ := (look_can hv set).1 hc; exact absurd hx (h x)
theorem span_at {t : Td} (hv : validX t = true) {set f g : Nat} (hf : f < 12) (hg : g < 12) {lo hi : Int} {a b : List Int} (ha : trB t set a = true) (hb : trB t set b = true) (ea : a.getD g 0 - a.getD f 0 = lo) (eb : b.getD g 0 - b.getD f 0 = hi) (h : ∀ x, Tr t set x → lo ≤ x g - x f ∧ x g - x f ≤ hi) :
    ∃ d, lookF t set = some d ∧ spanD d f g = (lo, hi) := by
  have hc := can_of hv ha
  cases hl : lookF t set with
  | none => rw [hl] at hc; cases hc
  | some d =>
    refine ⟨d, rfl, span_unique (span_is hv hl hf hg) ⟨h, ?_, ?_⟩⟩
    · intro v h1 h2
      have hs := span_is hv hl hf hg
      have q1 := hs.of _ (tr_of ha)
      have q2 := hs.of _ (tr_of hb)
      refine hs.ex v ?_ ?_
      · have : a.getD g 0 - a.getD f 0 = lo := ea; show (spanD d f g).1 ≤ v; have := q1.1; omega
      · have : b.getD g 0 - b.getD f 0 = hi := eb; show v ≤ (spanD d f g).2; have := q2.2; omega
    · have := h _ (tr_of ha); show lo ≤ hi; omega
def tT (l : List Cl) : Td := ⟨3, 10, [(0, 1), (-1, 0)], [⟨0, 0, 6, 6⟩, ⟨1, 0, 5, 5⟩, ⟨0, 2, 4, 5⟩, ⟨2, 0, 15, 16⟩] ++ l⟩
def tK : Td := tT [⟨1, 2, 3, 3⟩]
def tN : Td := tT [⟨1, 2, 3, 3⟩, ⟨0, 1, 8, 8⟩]
theorem tT_ok : validT (tT []) = true := by decide
theorem tK_ok : validT tK = true := by decide
theorem tN_ok : validT tN = true := by decide
theorem facts_T15 {x : Nat → Int} (h : Tr (tT []) 15 x) : (0 ≤ x 0 - x 6 ∧ x 0 - x 6 ≤ 0) ∧ (0 ≤ x 1 - x 7 ∧ x 1 - x 7 ≤ 1) ∧ ((-1) ≤ x 2 - x 8 ∧ x 2 - x 8 ≤ 0) ∧ (0 ≤ x 3 - x 9 ∧ x 3 - x 9 ≤ 0) ∧ (0 ≤ x 1 - x 0 ∧ x 1 - x 0 ≤ 10) ∧ (0 ≤ x 7 - x 6 ∧ x 7 - x 6 ≤ 300) ∧ (0 ≤ x 2 - x 1 ∧ x 2 - x 1 ≤ 10) ∧ (0 ≤ x 8 - x 7 ∧ x 8 - x 7 ≤ 300) ∧ (0 ≤ x 3 - x 2 ∧ x 3 - x 2 ≤ 10) ∧ (0 ≤ x 9 - x 8 ∧ x 9 - x 8 ≤ 300) ∧ (6 ≤ x 1 - x 0 ∧ x 1 - x 0 ≤ 6) ∧ (5 ≤ x 7 - x 6 ∧ x 7 - x 6 ≤ 5) ∧ (4 ≤ x 3 - x 2 ∧ x 3 - x 2 ≤ 5) ∧ (15 ≤ x 3 - x 0 ∧ x 3 - x 0 ≤ 16) := by
  have e : prsOf (tT []) 15 = [⟨6, 0, 0, 0⟩, ⟨7, 1, 0, 1⟩, ⟨8, 2, (-1), 0⟩, ⟨9, 3, 0, 0⟩, ⟨0, 1, 0, 10⟩, ⟨6, 7, 0, 300⟩, ⟨1, 2, 0, 10⟩, ⟨7, 8, 0, 300⟩, ⟨2, 3, 0, 10⟩, ⟨8, 9, 0, 300⟩, ⟨0, 1, 6, 6⟩, ⟨6, 7, 5, 5⟩, ⟨2, 3, 4, 5⟩, ⟨0, 3, 15, 16⟩] := by rfl
  have h2 := h.ok
  rw [e] at h2
  simp only [List.forall_mem_cons, Pr.ok] at h2
  simp only [List.not_mem_nil, false_implies, implies_true, and_true] at h2
  exact h2
theorem facts_K31 {x : Nat → Int} (h : Tr tK 31 x) : (0 ≤ x 0 - x 6 ∧ x 0 - x 6 ≤ 0) ∧ (0 ≤ x 1 - x 7 ∧ x 1 - x 7 ≤ 1) ∧ ((-1) ≤ x 2 - x 8 ∧ x 2 - x 8 ≤ 0) ∧ (0 ≤ x 3 - x 9 ∧ x 3 - x 9 ≤ 0) ∧ (0 ≤ x 1 - x 0 ∧ x 1 - x 0 ≤ 10) ∧ (0 ≤ x 7 - x 6 ∧ x 7 - x 6 ≤ 300) ∧ (0 ≤ x 2 - x 1 ∧ x 2 - x 1 ≤ 10) ∧ (0 ≤ x 8 - x 7 ∧ x 8 - x 7 ≤ 300) ∧ (0 ≤ x 3 - x 2 ∧ x 3 - x 2 ≤ 10) ∧ (0 ≤ x 9 - x 8 ∧ x 9 - x 8 ≤ 300) ∧ (6 ≤ x 1 - x 0 ∧ x 1 - x 0 ≤ 6) ∧ (5 ≤ x 7 - x 6 ∧ x 7 - x 6 ≤ 5) ∧ (4 ≤ x 3 - x 2 ∧ x 3 - x 2 ≤ 5) ∧ (15 ≤ x 3 - x 0 ∧ x 3 - x 0 ≤ 16) ∧ (3 ≤ x 9 - x 8 ∧ x 9 - x 8 ≤ 3) := by
  have e : prsOf tK 31 = [⟨6, 0, 0, 0⟩, ⟨7, 1, 0, 1⟩, ⟨8, 2, (-1), 0⟩, ⟨9, 3, 0, 0⟩, ⟨0, 1, 0, 10⟩, ⟨6, 7, 0, 300⟩, ⟨1, 2, 0, 10⟩, ⟨7, 8, 0, 300⟩, ⟨2, 3, 0, 10⟩, ⟨8, 9, 0, 300⟩, ⟨0, 1, 6, 6⟩, ⟨6, 7, 5, 5⟩, ⟨2, 3, 4, 5⟩, ⟨0, 3, 15, 16⟩, ⟨8, 9, 3, 3⟩] := by rfl
  have h2 := h.ok
  rw [e] at h2
  simp only [List.forall_mem_cons, Pr.ok] at h2
  simp only [List.not_mem_nil, false_implies, implies_true, and_true] at h2
  exact h2
theorem shorn_T0 : ∃ d, lookF (tT []) 15 = some d ∧ spanD d 0 1 = (6, 6) := by
  refine span_at (validT_X tT_ok) (by omega) (by omega) (a := [0, 6, 10, 15, 0, 0, 0, 5, 11, 15, 0, 0]) (b := [0, 6, 10, 15, 0, 0, 0, 5, 11, 15, 0, 0]) (by decide +kernel) (by decide +kernel) (by decide) (by decide) ?_
  intro x h
  have := facts_T15 h
  omega
theorem shorn_T1 : ∃ d, lookF (tT []) 15 = some d ∧ spanD d 1 2 = (4, 6) := by
  refine span_at (validT_X tT_ok) (by omega) (by omega) (a := [0, 6, 10, 15, 0, 0, 0, 5, 11, 15, 0, 0]) (b := [0, 6, 12, 16, 0, 0, 0, 5, 13, 16, 0, 0]) (by decide +kernel) (by decide +kernel) (by decide) (by decide) ?_
  intro x h
  have := facts_T15 h
  omega
theorem shorn_T2 : ∃ d, lookF (tT []) 15 = some d ∧ spanD d 2 3 = (4, 5) := by
  refine span_at (validT_X tT_ok) (by omega) (by omega) (a := [0, 6, 11, 15, 0, 0, 0, 5, 12, 15, 0, 0]) (b := [0, 6, 10, 15, 0, 0, 0, 5, 11, 15, 0, 0]) (by decide +kernel) (by decide +kernel) (by decide) (by decide) ?_
  intro x h
  have := facts_T15 h
  omega
theorem pen_T1 : ∃ d, lookF (tT []) 15 = some d ∧ spanD d 7 8 = (5, 8) := by
  refine span_at (validT_X tT_ok) (by omega) (by omega) (a := [0, 6, 10, 15, 0, 0, 0, 5, 10, 15, 0, 0]) (b := [0, 6, 12, 16, 0, 0, 0, 5, 13, 16, 0, 0]) (by decide +kernel) (by decide +kernel) (by decide) (by decide) ?_
  intro x h
  have := facts_T15 h
  omega
theorem pen_T2 : ∃ d, lookF (tT []) 15 = some d ∧ spanD d 8 9 = (3, 5) := by
  refine span_at (validT_X tT_ok) (by omega) (by omega) (a := [0, 6, 11, 15, 0, 0, 0, 5, 12, 15, 0, 0]) (b := [0, 6, 10, 15, 0, 0, 0, 5, 10, 15, 0, 0]) (by decide +kernel) (by decide +kernel) (by decide) (by decide) ?_
  intro x h
  have := facts_T15 h
  omega
theorem stray_T0 : ∃ d, lookF (tT []) 15 = some d ∧ spanD d 7 1 = (1, 1) := by
  refine span_at (validT_X tT_ok) (by omega) (by omega) (a := [0, 6, 10, 15, 0, 0, 0, 5, 11, 15, 0, 0]) (b := [0, 6, 10, 15, 0, 0, 0, 5, 11, 15, 0, 0]) (by decide +kernel) (by decide +kernel) (by decide) (by decide) ?_
  intro x h
  have := facts_T15 h
  omega
theorem stray_T1 : ∃ d, lookF (tT []) 15 = some d ∧ spanD d 8 2 = ((-1), 0) := by
  refine span_at (validT_X tT_ok) (by omega) (by omega) (a := [0, 6, 10, 15, 0, 0, 0, 5, 11, 15, 0, 0]) (b := [0, 6, 10, 15, 0, 0, 0, 5, 10, 15, 0, 0]) (by decide +kernel) (by decide +kernel) (by decide) (by decide) ?_
  intro x h
  have := facts_T15 h
  omega
theorem tog_T02 : ∃ d, lookF (tT []) 15 = some d ∧ spanD d 0 3 = (15, 16) := by
  refine span_at (validT_X tT_ok) (by omega) (by omega) (a := [0, 6, 10, 15, 0, 0, 0, 5, 11, 15, 0, 0]) (b := [0, 6, 11, 16, 0, 0, 0, 5, 12, 16, 0, 0]) (by decide +kernel) (by decide +kernel) (by decide) (by decide) ?_
  intro x h
  have := facts_T15 h
  omega
theorem tog_T12 : ∃ d, lookF (tT []) 15 = some d ∧ spanD d 1 3 = (9, 10) := by
  refine span_at (validT_X tT_ok) (by omega) (by omega) (a := [0, 6, 10, 15, 0, 0, 0, 5, 11, 15, 0, 0]) (b := [0, 6, 11, 16, 0, 0, 0, 5, 12, 16, 0, 0]) (by decide +kernel) (by decide +kernel) (by decide) (by decide) ?_
  intro x h
  have := facts_T15 h
  omega
theorem shorn_K1 : ∃ d, lookF tK 31 = some d ∧ spanD d 1 2 = (5, 6) := by
  refine span_at (validT_X tK_ok) (by omega) (by omega) (a := [0, 6, 11, 15, 0, 0, 0, 5, 12, 15, 0, 0]) (b := [0, 6, 12, 16, 0, 0, 0, 5, 13, 16, 0, 0]) (by decide +kernel) (by decide +kernel) (by decide) (by decide) ?_
  intro x h
  have := facts_K31 h
  omega
theorem shorn_K2 : ∃ d, lookF tK 31 = some d ∧ spanD d 2 3 = (4, 4) := by
  refine span_at (validT_X tK_ok) (by omega) (by omega) (a := [0, 6, 11, 15, 0, 0, 0, 5, 12, 15, 0, 0]) (b := [0, 6, 11, 15, 0, 0, 0, 5, 12, 15, 0, 0]) (by decide +kernel) (by decide +kernel) (by decide) (by decide) ?_
  intro x h
  have := facts_K31 h
  omega
theorem stray_K1 : ∃ d, lookF tK 31 = some d ∧ spanD d 8 2 = ((-1), (-1)) := by
  refine span_at (validT_X tK_ok) (by omega) (by omega) (a := [0, 6, 11, 15, 0, 0, 0, 5, 12, 15, 0, 0]) (b := [0, 6, 11, 15, 0, 0, 0, 5, 12, 15, 0, 0]) (by decide +kernel) (by decide +kernel) (by decide) (by decide) ?_
  intro x h
  have := facts_K31 h
  omega
theorem facts_N45 {x : Nat → Int} (h : Tr tN 45 x) : (0 ≤ x 0 - x 6 ∧ x 0 - x 6 ≤ 0) ∧ (0 ≤ x 1 - x 7 ∧ x 1 - x 7 ≤ 1) ∧ ((-1) ≤ x 2 - x 8 ∧ x 2 - x 8 ≤ 0) ∧ (0 ≤ x 3 - x 9 ∧ x 3 - x 9 ≤ 0) ∧ (0 ≤ x 1 - x 0 ∧ x 1 - x 0 ≤ 10) ∧ (0 ≤ x 7 - x 6 ∧ x 7 - x 6 ≤ 300) ∧ (0 ≤ x 2 - x 1 ∧ x 2 - x 1 ≤ 10) ∧ (0 ≤ x 8 - x 7 ∧ x 8 - x 7 ≤ 300) ∧ (0 ≤ x 3 - x 2 ∧ x 3 - x 2 ≤ 10) ∧ (0 ≤ x 9 - x 8 ∧ x 9 - x 8 ≤ 300) ∧ (6 ≤ x 1 - x 0 ∧ x 1 - x 0 ≤ 6) ∧ (4 ≤ x 3 - x 2 ∧ x 3 - x 2 ≤ 5) ∧ (15 ≤ x 3 - x 0 ∧ x 3 - x 0 ≤ 16) ∧ (8 ≤ x 2 - x 1 ∧ x 2 - x 1 ≤ 8) := by
  have e : prsOf tN 45 = [⟨6, 0, 0, 0⟩, ⟨7, 1, 0, 1⟩, ⟨8, 2, (-1), 0⟩, ⟨9, 3, 0, 0⟩, ⟨0, 1, 0, 10⟩, ⟨6, 7, 0, 300⟩, ⟨1, 2, 0, 10⟩, ⟨7, 8, 0, 300⟩, ⟨2, 3, 0, 10⟩, ⟨8, 9, 0, 300⟩, ⟨0, 1, 6, 6⟩, ⟨2, 3, 4, 5⟩, ⟨0, 3, 15, 16⟩, ⟨1, 2, 8, 8⟩] := by rfl
  have h2 := h.ok
  rw [e] at h2
  simp only [List.forall_mem_cons, Pr.ok] at h2
  simp only [List.not_mem_nil, false_implies, implies_true, and_true] at h2
  exact h2
theorem facts_N46 {x : Nat → Int} (h : Tr tN 46 x) : (0 ≤ x 0 - x 6 ∧ x 0 - x 6 ≤ 0) ∧ (0 ≤ x 1 - x 7 ∧ x 1 - x 7 ≤ 1) ∧ ((-1) ≤ x 2 - x 8 ∧ x 2 - x 8 ≤ 0) ∧ (0 ≤ x 3 - x 9 ∧ x 3 - x 9 ≤ 0) ∧ (0 ≤ x 1 - x 0 ∧ x 1 - x 0 ≤ 10) ∧ (0 ≤ x 7 - x 6 ∧ x 7 - x 6 ≤ 300) ∧ (0 ≤ x 2 - x 1 ∧ x 2 - x 1 ≤ 10) ∧ (0 ≤ x 8 - x 7 ∧ x 8 - x 7 ≤ 300) ∧ (0 ≤ x 3 - x 2 ∧ x 3 - x 2 ≤ 10) ∧ (0 ≤ x 9 - x 8 ∧ x 9 - x 8 ≤ 300) ∧ (5 ≤ x 7 - x 6 ∧ x 7 - x 6 ≤ 5) ∧ (4 ≤ x 3 - x 2 ∧ x 3 - x 2 ≤ 5) ∧ (15 ≤ x 3 - x 0 ∧ x 3 - x 0 ≤ 16) ∧ (8 ≤ x 2 - x 1 ∧ x 2 - x 1 ≤ 8) := by
  have e : prsOf tN 46 = [⟨6, 0, 0, 0⟩, ⟨7, 1, 0, 1⟩, ⟨8, 2, (-1), 0⟩, ⟨9, 3, 0, 0⟩, ⟨0, 1, 0, 10⟩, ⟨6, 7, 0, 300⟩, ⟨1, 2, 0, 10⟩, ⟨7, 8, 0, 300⟩, ⟨2, 3, 0, 10⟩, ⟨8, 9, 0, 300⟩, ⟨6, 7, 5, 5⟩, ⟨2, 3, 4, 5⟩, ⟨0, 3, 15, 16⟩, ⟨1, 2, 8, 8⟩] := by rfl
  have h2 := h.ok
  rw [e] at h2
  simp only [List.forall_mem_cons, Pr.ok] at h2
  simp only [List.not_mem_nil, false_implies, implies_true, and_true] at h2
  exact h2
theorem facts_N57 {x : Nat → Int} (h : Tr tN 57 x) : (0 ≤ x 0 - x 6 ∧ x 0 - x 6 ≤ 0) ∧ (0 ≤ x 1 - x 7 ∧ x 1 - x 7 ≤ 1) ∧ ((-1) ≤ x 2 - x 8 ∧ x 2 - x 8 ≤ 0) ∧ (0 ≤ x 3 - x 9 ∧ x 3 - x 9 ≤ 0) ∧ (0 ≤ x 1 - x 0 ∧ x 1 - x 0 ≤ 10) ∧ (0 ≤ x 7 - x 6 ∧ x 7 - x 6 ≤ 300) ∧ (0 ≤ x 2 - x 1 ∧ x 2 - x 1 ≤ 10) ∧ (0 ≤ x 8 - x 7 ∧ x 8 - x 7 ≤ 300) ∧ (0 ≤ x 3 - x 2 ∧ x 3 - x 2 ≤ 10) ∧ (0 ≤ x 9 - x 8 ∧ x 9 - x 8 ≤ 300) ∧ (6 ≤ x 1 - x 0 ∧ x 1 - x 0 ≤ 6) ∧ (15 ≤ x 3 - x 0 ∧ x 3 - x 0 ≤ 16) ∧ (3 ≤ x 9 - x 8 ∧ x 9 - x 8 ≤ 3) ∧ (8 ≤ x 2 - x 1 ∧ x 2 - x 1 ≤ 8) := by
  have e : prsOf tN 57 = [⟨6, 0, 0, 0⟩, ⟨7, 1, 0, 1⟩, ⟨8, 2, (-1), 0⟩, ⟨9, 3, 0, 0⟩, ⟨0, 1, 0, 10⟩, ⟨6, 7, 0, 300⟩, ⟨1, 2, 0, 10⟩, ⟨7, 8, 0, 300⟩, ⟨2, 3, 0, 10⟩, ⟨8, 9, 0, 300⟩, ⟨0, 1, 6, 6⟩, ⟨0, 3, 15, 16⟩, ⟨8, 9, 3, 3⟩, ⟨1, 2, 8, 8⟩] := by rfl
  have h2 := h.ok
  rw [e] at h2
  simp only [List.forall_mem_cons, Pr.ok] at h2
  simp only [List.not_mem_nil, false_implies, implies_true, and_true] at h2
  exact h2
theorem facts_M31 {x : Nat → Int} (h : Tr (moreT (tT []) ⟨1, 1, 9, 9⟩) 31 x) : (0 ≤ x 0 - x 6 ∧ x 0 - x 6 ≤ 0) ∧ (0 ≤ x 1 - x 7 ∧ x 1 - x 7 ≤ 1) ∧ ((-1) ≤ x 2 - x 8 ∧ x 2 - x 8 ≤ 0) ∧ (0 ≤ x 3 - x 9 ∧ x 3 - x 9 ≤ 0) ∧ (0 ≤ x 1 - x 0 ∧ x 1 - x 0 ≤ 10) ∧ (0 ≤ x 7 - x 6 ∧ x 7 - x 6 ≤ 300) ∧ (0 ≤ x 2 - x 1 ∧ x 2 - x 1 ≤ 10) ∧ (0 ≤ x 8 - x 7 ∧ x 8 - x 7 ≤ 300) ∧ (0 ≤ x 3 - x 2 ∧ x 3 - x 2 ≤ 10) ∧ (0 ≤ x 9 - x 8 ∧ x 9 - x 8 ≤ 300) ∧ (6 ≤ x 1 - x 0 ∧ x 1 - x 0 ≤ 6) ∧ (5 ≤ x 7 - x 6 ∧ x 7 - x 6 ≤ 5) ∧ (4 ≤ x 3 - x 2 ∧ x 3 - x 2 ≤ 5) ∧ (15 ≤ x 3 - x 0 ∧ x 3 - x 0 ≤ 16) ∧ (9 ≤ x 8 - x 7 ∧ x 8 - x 7 ≤ 9) := by
  have e : prsOf (moreT (tT []) ⟨1, 1, 9, 9⟩) 31 = [⟨6, 0, 0, 0⟩, ⟨7, 1, 0, 1⟩, ⟨8, 2, (-1), 0⟩, ⟨9, 3, 0, 0⟩, ⟨0, 1, 0, 10⟩, ⟨6, 7, 0, 300⟩, ⟨1, 2, 0, 10⟩, ⟨7, 8, 0, 300⟩, ⟨2, 3, 0, 10⟩, ⟨8, 9, 0, 300⟩, ⟨0, 1, 6, 6⟩, ⟨6, 7, 5, 5⟩, ⟨2, 3, 4, 5⟩, ⟨0, 3, 15, 16⟩, ⟨7, 8, 9, 9⟩] := by rfl
  have h2 := h.ok
  rw [e] at h2
  simp only [List.forall_mem_cons, Pr.ok] at h2
  simp only [List.not_mem_nil, false_implies, implies_true, and_true] at h2
  exact h2
theorem more_T56 : canB (lookF (moreT (tT []) ⟨1, 1, 5, 6⟩) 31) = true := can_of (by decide) (xs := [0, 6, 10, 15, 0, 0, 0, 5, 11, 15, 0, 0]) (by decide +kernel)
theorem more_T99 : canB (lookF (moreT (tT []) ⟨1, 1, 9, 9⟩) 31) = false := can_not (by decide) fun x h => by
  have := facts_M31 h
  omega
/-- The sets with which there is a truth. -/
def canN (s : Nat) : Bool := (s &&& 60 == s) || (s &&& 58 == s) || (s &&& 31 == s) || (s &&& 43 == s) || (s &&& 55 == s)
theorem tr_mono {t : Td} (hv : validX t = true) {a b : Nat} (h : ∀ i, a.testBit i = true → b.testBit i = true) {x : Nat → Int} (hx : Tr t b x) : Tr t a x := by
  rw [tr_iff hv] at hx ⊢
  exact ⟨hx.1, fun i c hi hb => hx.2 i c hi (h i hb)⟩
theorem sub_bits {a b : Nat} (h : (a &&& b == a) = true) : ∀ i, a.testBit i = true → b.testBit i = true := by
  intro i hi
  have e : a &&& b = a := by simpa using h
  have : (a &&& b).testBit i = true := by rw [e]; exact hi
  rw [Nat.testBit_and] at this
  cases hb : b.testBit i
  · rw [hb, Bool.and_false] at this; cases this
  · rfl
theorem sat_60 : trB tN 60 [0, 3, 11, 15, 0, 0, 0, 3, 12, 15, 0, 0] = true := by decide +kernel
theorem sat_58 : trB tN 58 [0, 5, 13, 16, 0, 0, 0, 5, 13, 16, 0, 0] = true := by decide +kernel
theorem sat_31 : trB tN 31 [0, 6, 11, 15, 0, 0, 0, 5, 12, 15, 0, 0] = true := by decide +kernel
theorem sat_43 : trB tN 43 [0, 6, 14, 15, 0, 0, 0, 5, 15, 15, 0, 0] = true := by decide +kernel
theorem sat_55 : trB tN 55 [0, 6, 14, 18, 0, 0, 0, 5, 15, 18, 0, 0] = true := by decide +kernel
theorem no_45 : ∀ x, ¬ Tr tN 45 x := fun x h => by
  have := facts_N45 h
  omega
theorem no_46 : ∀ x, ¬ Tr tN 46 x := fun x h => by
  have := facts_N46 h
  omega
theorem no_57 : ∀ x, ¬ Tr tN 57 x := fun x h => by
  have := facts_N57 h
  omega
theorem canN_no : ∀ s, s < 64 → canN s = false → ((45 &&& s == 45) || (46 &&& s == 46) || (57 &&& s == 57)) = true := by decide +kernel
theorem can_N {s : Nat} (hs : s < 64) : canB (lookF tN s) = canN s := by
  cases hc : canN s with
  | true =>
    simp only [canN, Bool.or_eq_true] at hc
    have go : ∀ {m : Nat} {xs : List Int}, trB tN m xs = true → (s &&& m == s) = true → canB (lookF tN s) = true := fun h1 h2 => (look_can (validT_X tN_ok) s).2 ⟨_, tr_mono (validT_X tN_ok) (sub_bits h2) (tr_of h1)⟩
    rcases hc with (((hc | hc) | hc) | hc) | hc
    · exact go sat_60 hc
    · exact go sat_58 hc
    · exact go sat_31 hc
    · exact go sat_43 hc
    · exact go sat_55 hc
  | false =>
    have h3 := canN_no s hs hc
    simp only [Bool.or_eq_true] at h3
    refine can_not (validT_X tN_ok) fun x hx => ?_
    rcases h3 with (h3 | h3) | h3
    · exact no_45 x (tr_mono (validT_X tN_ok) (sub_bits h3) hx)
    · exact no_46 x (tr_mono (validT_X tN_ok) (sub_bits h3) hx)
    · exact no_57 x (tr_mono (validT_X tN_ok) (sub_bits h3) hx)
theorem allN_N : allN tN = 63 := by decide
theorem bySize_N : ∀ s ∈ bySize 6, s < 64 := fun s hs => (mem_bySize.1 hs).1
theorem canL_N {s : Nat} (hs : s < 64) : canL tN s = canN (diffN 63 s) := by
  unfold canL
  rw [allN_N]
  exact can_N (diffN_lt (n := 6) (by omega))
theorem find_congr {α : Type} {p q : α → Bool} : ∀ {l : List α}, (∀ a ∈ l, p a = q a) → l.find? p = l.find? q
  | [], _ => rfl
  | a :: l, h => by
    rw [List.find?_cons, List.find?_cons, h a (by simp), find_congr fun b hb => h b (by simp [hb])]
theorem false_N : falseS tN = some 8 := by
  have e : (bySize tN.calls.length).find? (canL tN) = (bySize 6).find? fun s => canN (diffN 63 s) := find_congr fun s hs => canL_N (bySize_N s hs)
  unfold falseS
  rw [e]
  decide +kernel
theorem clash_N : clashS tN = some 45 := by
  have e : ((bySize tN.calls.length).find? fun s => !canB (lookF tN s)) = (bySize 6).find? fun s => !canN s := find_congr fun s hs => by rw [can_N (bySize_N s hs)]
  unfold clashS
  rw [e]
  decide +kernel
theorem fold_congr {α β : Type} {f g : β → α → β} : ∀ {l : List α} {b : β}, (∀ a ∈ l, ∀ b, f b a = g b a) → l.foldl f b = l.foldl g b
  | [], _, _ => rfl
  | a :: l, b, h => by
    rw [List.foldl_cons, List.foldl_cons, h a (by simp), fold_congr fun c hc => h c (by simp [hc])]
theorem susp_N : suspN tN 8 = 40 := by
  have e : (bySize tN.calls.length).foldl (suspStep tN 8) 0 = (bySize 6).foldl (fun acc y => if popB y == popB 8 && canN (diffN 63 y) then acc ||| y else acc) 0 := fold_congr fun s hs b => by
    unfold suspStep
    rw [canL_N (bySize_N s hs)]
  unfold suspN
  rw [e]
  decide +kernel
theorem noClash_N : canB (lookF tN 63) = false := by rw [can_N (by omega)]; decide
end Go.Ag
/- Layer 5: the laws are awake. -/
namespace Go.Ag
open Go.Proofs
set_option maxRecDepth 100000

theorem rowSp_len (l : List (Int × Int)) : ∀ r ∈ l.map rowSp, r.length = 2 := by intro r hr; obtain ⟨x, _, rfl⟩ := List.mem_map.1 hr; rfl
def tvOf (t : Td) : TV := ⟨t.n, t.most, (t.strays.map rowSp).flatten, 0, t.strays.length, (t.calls.map rowCl).flatten, 0, t.calls.length⟩
theorem tvOf_is {t : Td} (h1 : t.strays.length ≤ 1000) (h2 : t.calls.length ≤ 1000) : (tvOf t).Is t :=
  ⟨rfl, rfl, ⟨by simp [tvOf], fun i r hr => flat_sl _ (rowSp_len _) i r hr⟩, ⟨by simp [tvOf], fun i r hr => flat_sl _ (rowCl_len _) i r hr⟩, h1, h2⟩
theorem isT : (tvOf (tT [])).Is (tT []) := tvOf_is (by decide) (by decide)
theorem isK : (tvOf tK).Is tK := tvOf_is (by decide) (by decide)
theorem isN : (tvOf tN).Is tN := tvOf_is (by decide) (by decide)
theorem spanR_of {t : Td} {ok : Bool} {f g : Nat} {s : Int × Int} (hv : validT t = true) (hok : ok = true) (h : ∃ d, lookF t (allN t) = some d ∧ spanD d f g = s) : spanR t ok f g = (s, 0) := by
  obtain ⟨d, h1, h2⟩ := h
  unfold spanR
  rw [hv, hok, h1, ← h2]
  rfl
theorem missB_span {d : M} {f g : Nat} {a b lo hi : Int} (h : spanD d f g = (a, b)) : missB d ⟨f, g, lo, hi⟩ = (decide (hi < b) || decide (a < lo)) := by
  have h1 : -d g f = a := congrArg Prod.fst h
  have h2 : d f g = b := congrArg Prod.snd h
  unfold missB
  simp only [h2]
  have : decide (-lo < d g f) = decide (a < lo) := by rw [← h1]; by_cases h : -lo < d g f <;> simp [h] <;> omega
  rw [this]
theorem fitsR_of {t : Td} {c : Cl} {d : M} (hv : validT t = true) (hc : callOk t.n c = true) (h : lookF t (allN t) = some d) : fitsR t c = (fitsN t c d, 0) := by
  unfold fitsR
  rw [hv, hc, h]
  rfl
namespace Awake
def inl : List Nat := []
noncomputable def cfg (es : List Go.Ag.Known) : Go.Ag.Cfg := { P := Try.prog, pure := fun f => !inl.contains f, con := Go.Ag.conTab es }
def vT : CV := (tvOf (tT [])).cv
def vK : CV := (tvOf tK).cv
def vN : CV := (tvOf tN).cv
def e0 : Go.Ag.Known := ⟨22, [vT, I 1], spRV ((4, 6), 0)⟩
theorem k0 : e0.ok Try.prog := by
  have h : Ret Try.prog 22 [vT, I 1] (spRV (spanR (tT []) true 1 2)) := shorn_ret isT 1
  rw [spanR_of (s := (4, 6)) tT_ok rfl shorn_T1] at h
  exact h
def e1 : Go.Ag.Known := ⟨23, [vT, I 1], spRV ((5, 8), 0)⟩
theorem k1 : e1.ok Try.prog := by
  have h : Ret Try.prog 23 [vT, I 1] (spRV (spanR (tT []) true 7 8)) := pen_ret' isT 1
  rw [spanR_of (s := (5, 8)) tT_ok rfl pen_T1] at h
  exact h
def e2 : Go.Ag.Known := ⟨24, [vK, I 1], spRV ((-1, -1), 0)⟩
theorem k2 : e2.ok Try.prog := by
  have h : Ret Try.prog 24 [vK, I 1] (spRV (spanR tK true 8 2)) := stray_ret isK 1
  rw [spanR_of (s := (-1, -1)) tK_ok rfl stray_K1] at h
  exact h
def e3 : Go.Ag.Known := ⟨25, [vT, I 1, I 2], spRV ((9, 10), 0)⟩
theorem k3 : e3.ok Try.prog := by
  have h : Ret Try.prog 25 [vT, I 1, I 2] (spRV (spanR (tT []) true 1 3)) := together_ret isT 1 2
  rw [spanR_of (s := (9, 10)) tT_ok rfl tog_T12] at h
  exact h
def e4 : Go.Ag.Known := ⟨26, [vT, clV ⟨1, 1, 5, 6⟩], .tuple [I 1, I 0]⟩
theorem k4 : e4.ok Try.prog := by
  have h := fitsAll_ret isT ⟨1, 1, 5, 6⟩
  obtain ⟨d, h1, h2⟩ := pen_T1
  rw [fitsR_of tT_ok (by decide) h1] at h
  have : fitsN (tT []) ⟨1, 1, 5, 6⟩ d = 1 := by
    unfold fitsN
    rw [show callP (tT []).n ⟨1, 1, 5, 6⟩ = ⟨7, 8, 5, 6⟩ by rfl, missB_span h2, show allN (moreT (tT []) ⟨1, 1, 5, 6⟩) = 31 by rfl, more_T56]
    rfl
  rw [this] at h
  exact h
def e5 : Go.Ag.Known := ⟨13, [vN], .tuple [I 1, I 8, I 0]⟩
theorem k5 : e5.ok Try.prog := by
  have h := false_ret isN
  have : falseR tN = (1, 8, 0) := by unfold falseR; rw [tN_ok, false_N]; decide
  rw [this] at h
  exact h
def e6 : Go.Ag.Known := ⟨15, [vN], .tuple [I 40, I 0]⟩
theorem k6 : e6.ok Try.prog := by
  have h := susp_ret isN
  have : suspR tN = (40, 0) := by unfold suspR; rw [tN_ok, false_N]; simp only [susp_N]; rfl
  rw [this] at h
  exact h
def e7 : Go.Ag.Known := ⟨17, [vN], .tuple [I 45, I 0]⟩
theorem k7 : e7.ok Try.prog := by
  have h := clash_ret isN
  have : clashR tN = (45, 0) := by unfold clashR; rw [tN_ok, allN_N, noClash_N, clash_N]; rfl
  rw [this] at h
  exact h
def tab : List Go.Ag.Known := [e0, e1, e2, e3, e4, e5, e6, e7]
theorem tabOk : ∀ e ∈ tab, e.ok Try.prog := by
  intro e he
  simp only [tab, List.mem_cons, List.not_mem_nil, or_false] at he
  rcases he with rfl | rfl | rfl | rfl | rfl | rfl | rfl | rfl
  · exact k0
  · exact k1
  · exact k2
  · exact k3
  · exact k4
  · exact k5
  · exact k6
  · exact k7
def eA : Go.Ag.Known := ⟨12, [], B true⟩
theorem kA : eA.ok Try.prog := tells_ok (C := cfg tab) mix (conTab_ok rfl tabOk) (n := 20000) (by kernel_rfl)
theorem alive_ret : Ret Try.prog 12 [] (B true) := kA

/-! All examples. -/
theorem spn {fn : FuncId} {v : CV} {l : List CV} {t : Td} {f g : Nat} {s : Int × Int} (h : Ret Try.prog fn (v :: l) (spRV (spanR t true f g))) (hv : validT t = true) (hd : ∃ d, lookF t (allN t) = some d ∧ spanD d f g = s) : (⟨fn, v :: l, spRV (s, 0)⟩ : Go.Ag.Known).ok Try.prog := by
  rw [spanR_of hv rfl hd] at h
  exact h
def n0 : Go.Ag.Known := ⟨22, [vT, I 0], spRV ((6, 6), 0)⟩
theorem kn0 : n0.ok Try.prog := spn (t := tT []) (f := 0) (g := 1) (shorn_ret isT 0) tT_ok shorn_T0
def n1 : Go.Ag.Known := ⟨22, [vT, I 2], spRV ((4, 5), 0)⟩
theorem kn1 : n1.ok Try.prog := spn (t := tT []) (f := 2) (g := 3) (shorn_ret isT 2) tT_ok shorn_T2
def n2 : Go.Ag.Known := ⟨22, [vK, I 1], spRV ((5, 6), 0)⟩
theorem kn2 : n2.ok Try.prog := spn (t := tK) (f := 1) (g := 2) (shorn_ret isK 1) tK_ok shorn_K1
def n3 : Go.Ag.Known := ⟨22, [vK, I 2], spRV ((4, 4), 0)⟩
theorem kn3 : n3.ok Try.prog := spn (t := tK) (f := 2) (g := 3) (shorn_ret isK 2) tK_ok shorn_K2
def n4 : Go.Ag.Known := ⟨23, [vT, I 2], spRV ((3, 5), 0)⟩
theorem kn4 : n4.ok Try.prog := spn (t := tT []) (f := 8) (g := 9) (pen_ret' isT 2) tT_ok pen_T2
def n5 : Go.Ag.Known := ⟨24, [vT, I 0], spRV ((1, 1), 0)⟩
theorem kn5 : n5.ok Try.prog := spn (t := tT []) (f := 7) (g := 1) (stray_ret isT 0) tT_ok stray_T0
def n6 : Go.Ag.Known := ⟨24, [vT, I 1], spRV ((-1, 0), 0)⟩
theorem kn6 : n6.ok Try.prog := spn (t := tT []) (f := 8) (g := 2) (stray_ret isT 1) tT_ok stray_T1
def n7 : Go.Ag.Known := ⟨25, [vT, I 0, I 2], spRV ((15, 16), 0)⟩
theorem kn7 : n7.ok Try.prog := spn (t := tT []) (f := 0) (g := 3) (together_ret isT 0 2) tT_ok tog_T02
def n8 : Go.Ag.Known := ⟨26, [vT, clV ⟨1, 1, 5, 8⟩], .tuple [I 2, I 0]⟩
theorem kn8 : n8.ok Try.prog := by
  have h := fitsAll_ret isT ⟨1, 1, 5, 8⟩
  obtain ⟨d, h1, h2⟩ := pen_T1
  rw [fitsR_of tT_ok (by decide) h1] at h
  have : fitsN (tT []) ⟨1, 1, 5, 8⟩ d = 2 := by
    unfold fitsN
    rw [show callP (tT []).n ⟨1, 1, 5, 8⟩ = ⟨7, 8, 5, 8⟩ by rfl, missB_span h2]
    rfl
  rw [this] at h
  exact h
def n9 : Go.Ag.Known := ⟨26, [vT, clV ⟨1, 1, 9, 9⟩], .tuple [I 0, I 0]⟩
theorem kn9 : n9.ok Try.prog := by
  have h := fitsAll_ret isT ⟨1, 1, 9, 9⟩
  obtain ⟨d, h1, h2⟩ := pen_T1
  rw [fitsR_of tT_ok (by decide) h1] at h
  have : fitsN (tT []) ⟨1, 1, 9, 9⟩ d = 0 := by
    unfold fitsN
    rw [show callP (tT []).n ⟨1, 1, 9, 9⟩ = ⟨7, 8, 9, 9⟩ by rfl, missB_span h2, show allN (moreT (tT []) ⟨1, 1, 9, 9⟩) = 31 by rfl, more_T99]
    rfl
  rw [this] at h
  exact h
theorem can_K : canB (lookF tK (allN tK)) = true := by
  obtain ⟨d, h1, -⟩ := shorn_K1
  rw [show allN tK = 31 by rfl, h1]; rfl
def n10 : Go.Ag.Known := ⟨13, [vK], .tuple [I 0, I 0, I 0]⟩
theorem kn10 : n10.ok Try.prog := by
  have h := false_ret isK
  have e0 : canL tK 0 = true := by
    unfold canL
    rw [show diffN (allN tK) 0 = allN tK by rfl]; exact can_K
  have eb : bySize tK.calls.length = 0 :: (bySize 5).tail := by rfl
  have ef : falseS tK = some 0 := by
    unfold falseS
    rw [eb, List.find?_cons, e0]
  have : falseR tK = (0, 0, 0) := by unfold falseR; rw [tK_ok, ef]; decide
  rw [this] at h
  exact h
def n11 : Go.Ag.Known := ⟨17, [vK], .tuple [I 0, I 4]⟩
theorem kn11 : n11.ok Try.prog := by
  have h := clash_ret isK
  have : clashR tK = (0, 4) := by unfold clashR; rw [tK_ok, can_K]; rfl
  rw [this] at h
  exact h
def n12 : Go.Ag.Known := ⟨22, [vN, I 0], .tuple [.agg [I 0, I 0], I 10]⟩
theorem kn12 : n12.ok Try.prog := by
  have h : Ret Try.prog 22 [vN, I 0] (spRV (spanR tN true 0 1)) := shorn_ret isN 0
  have e : lookF tN 63 = none := by
    have := noClash_N
    cases hl : lookF tN 63 with
    | none => rfl
    | some d => rw [hl] at this; cases this
  have : spanR tN true 0 1 = ((0, 0), 10) := by unfold spanR; rw [tN_ok, allN_N, e]; rfl
  rw [this] at h
  exact h
def tabN : List Go.Ag.Known := eA :: n0 :: n1 :: n2 :: n3 :: n4 :: n5 :: n6 :: n7 :: n8 :: n9 :: n10 :: n11 :: n12 :: tab
theorem tabNOk : ∀ e ∈ tabN, e.ok Try.prog := by
  have c : ∀ {a : Go.Ag.Known} {l : List Go.Ag.Known}, a.ok Try.prog → (∀ e ∈ l, e.ok Try.prog) → ∀ e ∈ a :: l, e.ok Try.prog := fun h1 h2 => List.forall_mem_cons.2 ⟨h1, h2⟩
  exact c kA (c kn0 (c kn1 (c kn2 (c kn3 (c kn4 (c kn5 (c kn6 (c kn7 (c kn8 (c kn9 (c kn10 (c kn11 (c kn12 tabOk)))))))))))))
def eN : Go.Ag.Known := ⟨4, [], B true⟩
theorem kN : eN.ok Try.prog := tells_ok (C := cfg tabN) mix (conTab_ok rfl tabNOk) (n := 20000) (by kernel_rfl)
end Awake
end Go.Ag
