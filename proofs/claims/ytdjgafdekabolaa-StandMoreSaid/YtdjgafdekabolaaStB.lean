/- Contracts of functions of layer 4: what is known, the truths, spans over them, what Done, Count, Takes, Begun, Over and Late return. No conditions. -/
import Derived.Test.YtdjgafdekabolaaStA
/- Layer 4: what is known of a stand. -/
namespace Go.Ag
open Go.Proofs
set_option maxRecDepth 100000

def SV.avs (v : SV) : List AV := [.c (I v.lo.a), .c (I v.hi.a), .c (I v.lo.b), .c (I v.hi.b), .c (I v.lo.c), .c (I v.hi.c), .c (.sl v.rc v.ro v.rn), .c (.sl v.kc v.ko v.kn), .c (.sl v.lc v.lo' v.ln)]
def knL (v : SV) (m : Nat) : List AV := [.c (I v.lo.a), .c (I v.hi.a), .c (I v.lo.b), .c (I v.hi.b), .c (I v.lo.c), .c (I v.hi.c), .c (.sl v.rc v.ro v.rn), .c (.sl v.kc v.ko v.kn), .c (.sl v.lc v.lo' v.ln), .map m]
def knAV (v : SV) (m : Nat) : AV := .agg (knL v m)
def knBlk (v : SV) (m : Nat) : AB := .blk (knL v m)

theorem combos_narrow {s : Sd} (hd : validB s = true) : Narrow s.lo s.hi := by
  simp only [validB, minsOk, minOk, spanB, Bool.and_eq_true, decide_eq_true_eq] at hd
  intro k
  match k with
  | 0 => simp only [T3.get]; omega
  | 1 => simp only [T3.get]; omega
  | _ + 2 => simp only [T3.get]; omega
theorem valid_good {s : Sd} (hd : validB s = true) {t : T3} (ht : t ∈ combos s) : Good s t := by
  rw [mem_combos] at ht
  simp only [validB, minsOk, minOk, spanB, Bool.and_eq_true, decide_eq_true_eq] at hd
  refine ⟨runsOk_all 0 _ (Int.le_refl _) hd.2.1.2, ?_, ?_, ?_⟩
  · intro k hk
    have := List.all_eq_true.1 hd.2.2.1.2 k hk
    simpa [inB] using this
  · omega
  · intro k
    match k with
    | 0 => simp only [T3.get]; omega
    | 1 => simp only [T3.get]; omega
    | _ + 2 => simp only [T3.get]; omega

def zero10 : List AV := [AV.lit (.int .i64 0), AV.lit (.int .i64 0), AV.lit (.int .i64 0), AV.lit (.int .i64 0), AV.lit (.int .i64 0), AV.lit (.int .i64 0), AV.lit (.slice none 0 0), AV.lit (.slice none 0 0), AV.lit (.slice none 0 0), AV.lit (.map none)]
theorem Foot.high {W : Nat → Prop} {N : Nat} {h h' : Heap} (f : Foot (fun i => W i ∨ i = N ∨ i = N + 1) h h') (hw : ∀ i, W i → N + 2 ≤ i) : Foot (fun i => N ≤ i) h h' := f.mono fun i _ hi => by
  rcases hi with hi | hi | hi
  · have := hw i hi; omega
  · omega
  · omega
theorem apart_lt {W : Nat → Prop} {N : Nat} (hw : ∀ i, W i → N + 2 ≤ i) {i : Nat} (hi : i < N) : apart W N i := fun x => by
  rcases x with x | x | x
  · have := hw i x; omega
  · omega
  · omega
def H4 (v : SV) (h : Heap) : Heap := ((((h.push .dead v.blk).push .dead (.blk zero10)).push .dead (.map [] [] [] 0)).push .dead (.blk zero10)).set .dead (h.n + 3) (knBlk v (h.n + 2))
theorem H4_0 (v : SV) (h : Heap) : Heap.at (H4 v h) h.n = v.blk := by
  unfold H4
  have h2 : h.n ≠ h.n + 1 + 1 := by omega
  have h3 : h.n ≠ h.n + 3 := by omega
  have h4 : h.n ≠ h.n + 1 + 1 + 1 := by omega
  simp [at_set, at_push, push_n, h2, h3, h4]
theorem H4_1 (v : SV) (h : Heap) : Heap.at (H4 v h) (h.n + 1) = .blk zero10 := by unfold H4; simp [at_set, at_push, push_n]
theorem H4_2 (v : SV) (h : Heap) : Heap.at (H4 v h) (h.n + 2) = .map [] [] [] 0 := by unfold H4; simp [at_set, at_push, push_n]
theorem H4_3 (v : SV) (h : Heap) : Heap.at (H4 v h) (h.n + 3) = knBlk v (h.n + 2) := by unfold H4; simp [at_set, at_push, push_n]
theorem H4_foot (v : SV) (h : Heap) {W : Nat → Prop} : Foot W h (H4 v h) := Foot.set ((((Foot.refl _ _).push _).push _).push _ |>.push _) (.inr (by omega)) _

set_option maxHeartbeats 1000000 in
theorem know_ret {v : SV} {s : Sd} (hv : v.Is s) (hd : validB s = true) (h : Heap) : ∃ e h', CallOk Try.prog 61 [.c v.cv] h .no e h' .no ∧ ∃ m, e = .ret (knAV v m) ∧ h.n ≤ m ∧ m < h'.n ∧ DayMap s (combos s) (Heap.at h' m) ∧ Foot (fun _ => False) h h' := by
  have e1 := hv.lo; have e2 := hv.hi
  refine call_by (hm := false) Try.func61 rfl ?_
  conv => whnf
  refine ⟨v.blk, (at_push_lt _ _ (by rw [push_n]; omega)).trans (at_push_self _ _), ?_⟩
  conv => whnf
  refine ⟨_, at_push_self _ _, ?_⟩
  conv => whnf
  refine ⟨v.blk, (at_old _ _ _ (by simp only [push_n]; omega)).trans ((at_push_lt _ _ (by simp only [push_n]; omega)).trans ((at_push_lt _ _ (by rw [push_n]; omega)).trans (at_push_self _ _))), ?_⟩
  conv => whnf
  refine .ret (shearers_ret v.lo v.hi) rfl ?_
  conv => whnf
  have hys : ys3 (chooseL v.lo v.hi 3 ⟨0, 0, 0⟩) = ys3 (combos s) := by rw [combos_choose, e1, e2]
  have hit := shearers_iter (lo := v.lo) (hi := v.hi) (by rw [e1, e2]; exact combos_narrow hd)
  rw [hys] at hit
  refine range_nA (hm := false) (h.n + 4) rfl (ps := [11]) rfl rfl hit
    (I := fun _ l h1 => ∃ done rest, l = ys3 rest ∧ combos s = done ++ rest ∧ Heap.at h1 h.n = v.blk ∧ Heap.at h1 (h.n + 3) = knBlk v (h.n + 2) ∧ DayMap s done (Heap.at h1 (h.n + 2)) ∧ Heap.at h1 (h.n + 1) = .blk zero10 ∧ Foot (fun _ => False) h h1)
    (E := fun _ _ _ => False) (X := fun _ _ _ => False) ?_ ?_ ?_ ?_ ?_ ?_ ?_ ?_ ?_ ?_ ?_ ?_
  · rintro W l h1 h2 ⟨done, rest, k1, k2, k3, k4, k5, k6, k8⟩ hn hw ff0
    have ff := ff0.high hw
    exact ⟨done, rest, k1, k2, (ff.below hn (by omega)).trans k3, (ff.below hn (by omega)).trans k4, dayMap_eq (ff.below hn (by omega)) k5, (ff.below hn (by omega)).trans k6, k8.trans_up ff (by omega)⟩
  · rintro _ _ _ _ hx
    exact hx.elim
  · rintro _ _ _ _ hx
    exact hx.elim
  · rintro _ _ _ _ hx _
    exact hx
  · rintro _ _ _ _ hx _
    exact hx
  · rintro _ _ _ _ hx _
    exact hx
  · intro _ _ _ _
    trivial
  · exact ⟨[], combos s, rfl, rfl, H4_0 v h, H4_3 v h, dayMap_eq (H4_2 v h) ⟨[], [], [], 0, rfl, rfl, by simp, by simp⟩, H4_1 v h, H4_foot v h⟩
  · rintro W y l h1 hn hw ⟨done, rest, k1, k2, k3, k4, k5, k6, k8⟩
    cases rest with
    | nil => cases k1
    | cons t rest =>
    obtain ⟨rfl, rfl⟩ := List.cons.inj k1
    have ht : t ∈ combos s := by rw [k2]; simp
    have hg := valid_good hd ht
    refine ⟨rfl, ?_⟩
    conv => whnf
    refine ⟨_, at_push_self _ _, ?_⟩
    conv => whnf
    refine ⟨Foot.set ((Foot.refl _ _).push _) (.inr (Nat.le_refl _)) _, fun hb fb hbn => ?_⟩
    conv => whnf
    refine draw_by (hm := false) (by kernel_rfl) (by kernel_rfl) ?_
    conv => whnf
    have n1 : h.n + 4 + 2 ≤ h1.n := hn
    have hbn' : hb.n = h1.n + 1 := by rw [hbn, new_n]
    have b0 : Heap.at hb h.n = v.blk := (fb.keep h.n (by rw [new_n]; omega) (by omega)).trans ((at_old _ _ _ (by omega)).trans k3)
    have b1 : Heap.at hb (h.n + 1) = .blk zero10 := (fb.keep (h.n + 1) (by rw [new_n]; omega) (by omega)).trans ((at_old _ _ _ (by omega)).trans k6)
    have b2 : Heap.at hb (h.n + 2) = Heap.at h1 (h.n + 2) := (fb.keep (h.n + 2) (by rw [new_n]; omega) (by omega)).trans (at_old _ _ _ (by omega))
    have b3 : Heap.at hb (h.n + 3) = knBlk v (h.n + 2) := (fb.keep (h.n + 3) (by rw [new_n]; omega) (by omega)).trans ((at_old _ _ _ (by omega)).trans k4)
    have bt : Heap.at hb h1.n = .blk [.c (I t.a), .c (I t.b), .c (I t.c)] := (fb.keep h1.n (by rw [new_n]; omega) (by omega)).trans (at_new _ _ _)
    obtain ⟨b, hu, hdm⟩ := day_update (rd := Heap.at hb) (m := h.n + 2) (dayMap_eq b2 k5) t
    have ff : Foot (fun _ => False) h hb := k8.trans_up (N := h.n) (Foot.trans ((Foot.set ((Foot.refl _ _).push _) (.inr (Nat.le_refl _)) _)) (fb.mono fun i _ hi => by omega)) (Nat.le_refl _)
    refine ⟨_, b3, ?_⟩
    conv => whnf
    refine ⟨_, bt, ?_⟩
    conv => whnf
    refine ⟨_, b0, ?_⟩
    conv => whnf
    refine ⟨_, bt, ?_⟩
    conv => whnf
    refine .ret (shear_ret hv hg) rfl ?_
    conv => whnf
    refine ⟨_, congrArg (fun o : Option SOut => match o.map Out.simple with | some (.simple r) => some r | _ => none) hu, ?_⟩
    conv => whnf
    refine ⟨by simp only [Heap.upd, List.all_cons, List.all_nil, Bool.and_true, decide_eq_true_eq, hbn']; omega, ?_⟩
    conv => whnf
    refine ⟨by kernel_rfl, ?_⟩
    conv => whnf
    refine ⟨Foot.set (W := apart W (h.n + 4)) (k := h.n + 2) (Foot.refl _ _) (.inl (apart_lt (fun i hi => (hw i hi).1) (by omega))) _, done ++ [t], rest, rfl, by rw [k2]; simp, (at_set_ne _ _ (i := h.n) (k := h.n + 2) (by omega)).trans b0, (at_set_ne _ _ (i := h.n + 3) (k := h.n + 2) (by omega)).trans b3, dayMap_eq (at_set_self hb b (i := h.n + 2) (by omega)) hdm, (at_set_ne _ _ (i := h.n + 1) (k := h.n + 2) (by omega)).trans b1, Foot.set (W := fun _ => False) (k := h.n + 2) ff (.inr (by omega)) _⟩
  · rintro h1 hn hc ⟨done, rest, k1, k2, k3, k4, k5, k6, k8⟩
    have : rest = [] := by cases rest with | nil => rfl | cons a l => cases k1
    subst this
    rw [List.append_nil] at k2
    rw [← k2] at k5
    conv => whnf
    refine ⟨_, k4, ?_⟩
    conv => whnf
    refine ⟨_, k6, ?_⟩
    conv => whnf
    refine ⟨_, (at_set_ne _ _ (i := h.n + 4) (k := h.n + 1) (by omega)).trans hc, ?_⟩
    conv => whnf
    refine ⟨_, (at_set_ne _ _ (i := h.n + 1) (k := h.n + 4) (by omega)).trans (at_set_self _ _ (i := h.n + 1) (by omega)), ?_⟩
    conv => whnf
    exact ⟨h.n + 2, rfl, by omega, by show h.n + 2 < h1.n; omega, dayMap_eq ((at_set_ne _ _ (i := h.n + 2) (k := h.n + 4) (by omega)).trans (at_set_ne _ _ (i := h.n + 2) (k := h.n + 1) (by omega))) k5, Foot.set (W := fun _ => False) (k := h.n + 4) (Foot.set (W := fun _ => False) (k := h.n + 1) k8 (.inr (by omega)) _) (.inr (by omega)) _⟩
  · rintro e h1 _ _ hx
    exact hx.elim
  · rintro v h1 _ _ hx
    exact hx.elim
end Go.Ag
/- Layer 4: the truths, one after the other. -/
namespace Go.Ag
open Go.Proofs
set_option maxRecDepth 100000

/-- Looks, as a slice. -/
structure LV where
  c : List CV
  o : Nat
  n : Nat
def LV.cv (l : LV) : CV := .sl l.c l.o l.n
structure LV.Is (l : LV) (L : List Lk) : Prop where
  sl : SlOf 3 (L.map rowLk) l.c l.o l.n
  short : L.length ≤ 40
theorem LV.Is.len {l : LV} {L : List Lk} (h : l.Is L) : l.n = L.length := by rw [h.sl.len]; simp
theorem LV.Is.look {l : LV} {L : List Lk} (h : l.Is L) {k : Nat} {r : Lk} (hk : L[k]? = some r) : readVarC Try.prog 58 l.c (l.o + (k : Int).toNat * 3) = some (.agg (rowLk r)) := by
  rw [Int.toNat_natCast, rv58, h.sl.row k (rowLk r) (by simp [hk])]; rfl
def SV.looks (v : SV) : LV := ⟨v.lc, v.lo', v.ln⟩
theorem SV.Is.looks {v : SV} {s : Sd} (h : v.Is s) : v.looks.Is s.looks := ⟨h.l, h.short.2.2⟩

def truthsA (a b : Nat) : AV := .func (.func 122) [] [.ptr a 0, .ptr b 0]
def ysT (s : Sd) (l : List T3) : List (List CV) := l.map fun t => [t.cv, daySl (dayOf s t)]
/-- The heaps in which the truths are there. -/
structure TrH (v : SV) (s : Sd) (l : LV) (a b m : Nat) (h : Heap) : Prop where
  a : Heap.at h a = knBlk v m
  b : Heap.at h b = .blk [.c l.cv]
  m : DayMap s (combos s) (Heap.at h m)

/-- What an iterator owns that ranges over another one, from its first block on. -/
structure Holds (Wi Wo : Nat → Prop) (n0 B N : Nat) (h : Heap) : Prop where
  sub : ∀ i, Wi i → Wo i
  own : ∀ i, B ≤ i → i ≤ N + 1 → i < h.n → Wo i
  low : ∀ i, Wo i → n0 ≤ i ∧ i < h.n
theorem Holds.grow {Wi Wo : Nat → Prop} {n0 B N : Nat} {h h' : Heap} (o : Holds Wi Wo n0 B N h) (hn0 : n0 ≤ h.n) (hn : h.n ≤ h'.n) : Holds (grow Wi h h') (grow Wo h h') n0 B N h' := by
  refine ⟨?_, ?_, ?_⟩
  · rintro i (hi | hi)
    · exact .inl (o.sub i hi)
    · exact .inr hi
  · intro i h1 h2 h3
    by_cases hi : i < h.n
    · exact .inl (o.own i h1 h2 hi)
    · exact .inr ⟨by omega, h3⟩
  · rintro i (hi | hi)
    · have := o.low i hi; omega
    · omega
theorem Holds.stay {Wi Wo : Nat → Prop} {n0 B N : Nat} {h h' : Heap} (o : Holds Wi Wo n0 B N h) (hn : h.n ≤ h'.n) (hN : N + 2 ≤ h.n) : Holds Wi Wo n0 B N h' :=
  ⟨o.sub, fun i h1 h2 _ => o.own i h1 h2 (by omega), fun i hi => by have := o.low i hi; omega⟩
theorem Holds.less {Wi Wi' Wo : Nat → Prop} {n0 B N : Nat} {h : Heap} (o : Holds Wi Wo n0 B N h) (hw : ∀ i, Wi' i → Wi i) : Holds Wi' Wo n0 B N h := ⟨fun i hi => o.sub i (hw i hi), o.own, o.low⟩
theorem Holds.foot {Wi Wo : Nat → Prop} {n0 B N : Nat} {h h1 h2 : Heap} (o : Holds Wi Wo n0 B N h) (hB : B ≤ N) (hN : N + 2 ≤ h.n) (f : Foot (fun i => Wi i ∨ i = N ∨ i = N + 1) h1 h2) : Foot Wo h1 h2 := f.mono fun i _ hi => by
  rcases hi with hi | rfl | rfl
  · exact o.sub i hi
  · exact o.own _ hB (by omega) (by omega)
  · exact o.own _ (by omega) (by omega) (by omega)
theorem Holds.foot' {Wi Wo : Nat → Prop} {n0 B N : Nat} {h1 h2 : Heap} (o : Holds Wi Wo n0 B N h1) (hB : B ≤ N) (f : Foot (fun i => Wi i ∨ i = N ∨ i = N + 1) h1 h2) : Foot Wo h1 h2 := f.mono fun i hlt hi => by
  rcases hi with hi | rfl | rfl
  · exact o.sub i hi
  · exact o.own _ hB (by omega) (by omega)
  · exact o.own _ (by omega) (by omega) (by omega)
theorem Holds.apart {Wi Wo : Nat → Prop} {n0 B N : Nat} {h h1 h2 : Heap} (o : Holds Wi Wo n0 B N h) (hB : B ≤ N) (hN : N + 2 ≤ h.n) (f : Foot (fun i => ¬ Wo i) h1 h2) : Foot (apart Wi N) h1 h2 := f.mono fun i _ hi x => by
  rcases x with x | rfl | rfl
  · exact hi (o.sub i x)
  · exact hi (o.own _ hB (by omega) (by omega))
  · exact hi (o.own _ (by omega) (by omega) (by omega))

theorem truths_ret (v : SV) (l : LV) (m : Nat) (h : Heap) : ∃ e h', CallOk Try.prog 103 [knAV v m, .c l.cv] h .no e h' .no ∧ (e = .ret (truthsA h.n (h.n + 1)) ∧ h' = (h.push .dead (knBlk v m)).push .dead (.blk [.c l.cv])) := by
  refine call_by (hm := false) Try.func103 rfl ?_
  conv => whnf
  exact ⟨rfl, rfl⟩

set_option maxHeartbeats 2000000 in
theorem truths_iter {v : SV} {s : Sd} (hv : v.Is s) (hd : validB s = true) {l : LV} {L : List Lk} (hl : l.Is L) (a b m : Nat) : IterA Try.prog (TrH v s l a b m) (truthsA a b) (ysT s (truthsS s L)) := by
  have e1 := hv.lo; have e2 := hv.hi; have e3 := hl.len; have e4 := hl.short
  refine ⟨122, [], [.ptr a 0, .ptr b 0], fun args => by kernel_rfl, fun id n0 J D X R hQ hid h hn hJ => ?_⟩
  have hq := hQ _ _ _ hJ
  have alt : ∀ {h1 : Heap} {i : Nat} {x : List AV}, Heap.at h1 i = .blk x → i < h1.n := fun {h1 i x} hx => Nat.lt_of_not_le fun hle => by
    unfold Heap.at at hx; rw [TMap.get_ge hle] at hx; cases hx
  have la := alt hq.a
  have lb := alt hq.b
  refine call_by (hm := false) Try.func122 rfl ?_
  conv => whnf
  refine ⟨_, (at_push_lt _ _ la).trans hq.a, ?_⟩
  conv => whnf
  refine .ret (shearers_ret v.lo v.hi) rfl ?_
  conv => whnf
  have hys : ys3 (chooseL v.lo v.hi 3 ⟨0, 0, 0⟩) = ys3 (combos s) := by rw [combos_choose, e1, e2]
  have hit := shearers_iter (lo := v.lo) (hi := v.hi) (by rw [e1, e2]; exact combos_narrow hd)
  rw [hys] at hit
  refine range_nA (hm := false) (h.n + 1) rfl (ps := [12]) rfl rfl hit
    (I := fun Wi l' h1 => ∃ Wo rest, l' = ys3 rest ∧ (∀ t ∈ rest, t ∈ combos s) ∧ J Wo (ysT s (rest.filter (fits s L))) h1 ∧ Heap.at h1 h.n = .blk [.yield id] ∧ n0 ≤ h1.n ∧ Holds Wi Wo n0 h.n (h.n + 1) h1)
    (E := fun Wi e h1 => e = .exit 0 ∧ ∃ Wo, D Wo h1 ∧ n0 ≤ h1.n ∧ Holds Wi Wo n0 h.n (h.n + 1) h1) (X := fun Wi v h1 => ∃ Wo, X Wo v h1 ∧ n0 ≤ h1.n ∧ Holds Wi Wo n0 h.n (h.n + 1) h1) ?_ ?_ ?_ ?_ ?_ ?_ ?_ ?_ ?_ ?_ ?_ ?_
  · rintro Wi l' h1 h2 ⟨Wo, rest, k1, k2, k3, k4, k5, o⟩ hn1 hw ff
    exact ⟨_, rest, k1, k2, R.stable _ _ _ _ k3 k5 (o.foot' (by omega) ff), ((ff.high hw).below hn1 (by omega)).trans k4, Nat.le_trans k5 ff.n, o.grow k5 ff.n⟩
  · rintro Wi e h1 h2 ⟨rfl, Wo, k1, k2, o⟩ hn1 hw ff
    exact ⟨rfl, _, R.dstable _ _ _ k1 k2 (o.foot' (by omega) ff), Nat.le_trans k2 ff.n, o.grow k2 ff.n⟩
  · rintro Wi v' h1 h2 ⟨Wo, k1, k2, o⟩ hn1 hw ff
    exact ⟨_, R.xstable _ _ _ _ k1 k2 (o.foot' (by omega) ff), Nat.le_trans k2 ff.n, o.grow k2 ff.n⟩
  · rintro Wi Wi' l' h1 ⟨Wo, rest, k1, k2, k3, k4, k5, o⟩ hw
    exact ⟨Wo, rest, k1, k2, k3, k4, k5, o.less hw⟩
  · rintro Wi Wi' e h1 ⟨rfl, Wo, k1, k2, o⟩ hw
    exact ⟨rfl, Wo, k1, k2, o.less hw⟩
  · rintro Wi Wi' v' h1 ⟨Wo, k1, k2, o⟩ hw
    exact ⟨Wo, k1, k2, o.less hw⟩
  · intro _ _ _ _
    trivial
  · refine ⟨grow none' h (h.push .dead (.blk [.yield id])), combos s, rfl, fun t h => h, R.stable _ _ _ _ hJ hn ((Foot.refl _ _).push _), at_push_self _ _, by rw [push_n]; omega, fun i hi => hi.elim, fun i h1 h2 h3 => .inr ⟨h1, h3⟩, ?_⟩
    rintro i (hi | hi)
    · exact hi.elim
    · exact ⟨Nat.le_trans hn hi.1, hi.2⟩
  · rintro Wi y l' h1 hn1 hw ⟨Wo, rest, k1, k2, k3, k4, k5, o⟩
    cases rest with
    | nil => cases k1
    | cons t rest =>
    obtain ⟨rfl, rfl⟩ := List.cons.inj k1
    have ht : t ∈ combos s := k2 t (List.mem_cons_self ..)
    have hg := valid_good hd ht
    refine ⟨rfl, ?_⟩
    conv => whnf
    refine ⟨_, at_push_self _ _, ?_⟩
    conv => whnf
    refine ⟨Foot.set ((Foot.refl _ _).push _) (.inr (Nat.le_refl _)) _, fun hb fb hbn => ?_⟩
    conv => whnf
    have n1 : h.n + 1 + 2 ≤ h1.n := hn1
    have hbn' : hb.n = h1.n + 1 := by rw [hbn, new_n]
    have wN : Wo (h.n + 1 + 1) := o.own _ (by omega) (by omega) (by omega)
    have fup : Foot Wo h1 hb := Foot.trans (Foot.set ((Foot.refl _ _).push _) (.inr (Nat.le_refl _)) _) (fb.mono fun i _ hi => by rw [hi]; exact wN)
    have jb := R.stable _ _ _ _ k3 k5 fup
    have ob : Holds Wi (grow Wo h1 hb) n0 h.n (h.n + 1) hb := (o.grow k5 fup.n).less fun i hi => .inl hi
    have qb := hQ _ _ _ jb
    have by0 : Heap.at hb h.n = .blk [.yield id] := (fb.keep h.n (by rw [new_n]; omega) (by omega)).trans ((at_old _ _ _ (by omega)).trans k4)
    have bt : Heap.at hb h1.n = .blk [.c (I t.a), .c (I t.b), .c (I t.c)] := (fb.keep h1.n (by rw [new_n]; omega) (by omega)).trans (at_new _ _ _)
    have hlk := day_lookup (rd := Heap.at hb) (m := m) qb.m ht
    refine ⟨_, qb.a, ?_⟩
    conv => whnf
    refine ⟨_, bt, ?_⟩
    conv => whnf
    refine ⟨_, hlk, ?_⟩
    conv => whnf
    refine ⟨_, qb.b, ?_⟩
    conv => whnf
    refine loop_by (I := fun n st => ∃ (q : Nat) (h2 : Heap), q ≤ L.length ∧ n = L.length - q ∧ fits s L t = (L.drop q).all (agrees (dayOf s t)) ∧ Foot (fun _ => False) hb h2 ∧
      Has st 34 [(2, .ptr b 0), (3, .ptr h.n 0), (4, .ptr h1.n 0), (5, .c (daySl (dayOf s t))), (17, .c l.cv), (18, .c (I l.n)), (19, .c (I q))] [] (some (h.n + 1 + 1)) h2) ?_ (k := L.length)
      ⟨0, hb, Nat.zero_le _, rfl, rfl, Foot.refl _ _, rfl, ⟨rfl, rfl, rfl, rfl, rfl, rfl, rfl, trivial⟩, rfl, rfl, rfl, rfl⟩
    rintro n st ⟨q, h2, hq, rfl, hall, f2, hs1⟩
    refine hs1.run (hm := false) ?_
    conv => whnf
    have n2 := f2.n
    cases hc : decide ((q : Int) < (l.n : Int))
    case true =>
      have hq : q < L.length := by simp at hc; omega
      obtain ⟨r, hr⟩ := get_some hq
      rw [drop_get hr, List.all_cons] at hall
      conv => whnf
      refine ⟨⟨by omega, by omega⟩, ?_⟩
      conv => whnf
      refine ⟨_, hl.look hr, ?_⟩
      conv => whnf
      refine ⟨_, at_push_self _ _, ?_⟩
      conv => whnf
      refine ⟨_, at_new _ _ _, ?_⟩
      conv => whnf
      refine .ret (agrees_ret (day_tame hg) r) rfl ?_
      conv => whnf
      cases hb1 : agrees (dayOf s t) r
      · conv => whnf
        have hno : fits s L t = false := by rw [hall, hb1]; rfl
        rw [List.filter_cons, hno] at k3
        have f3 : Foot (fun _ => False) hb ((h2.push .dead (.blk [AV.lit (.int .i64 0), AV.lit (.int .i64 0), AV.lit (.int .i64 0)])).set .dead h2.n (.blk [.c (I r.minute), .c (I r.lo), .c (I r.hi)])) := Foot.set (f2.push _) (.inr (by omega)) _
        have k3 : J Wo (ysT s (rest.filter (fits s L))) h1 := k3
        exact ⟨f3.mono fun i _ hi => hi.elim, _, rest, rfl, fun t ht => k2 t (List.mem_cons_of_mem _ ht), R.stable _ _ _ _ (R.stable _ _ _ _ k3 k5 fup) (show n0 ≤ hb.n by omega) (f3.mono fun i _ hi => hi.elim), (f3.keep h.n (by omega) (by simp)).trans by0, Nat.le_trans (show n0 ≤ hb.n by omega) f3.n, (ob.grow (show n0 ≤ hb.n by omega) f3.n).less fun i hi => .inl hi⟩
      · conv => whnf
        refine ⟨((q + 1 : Nat) : Int), by rw [wrap_eq (by omega) (by omega)]; omega, ?_⟩
        conv => whnf
        rw [hb1, Bool.true_and] at hall
        exact ⟨L.length - (q + 1), by omega, q + 1, _, by omega, rfl, hall, Foot.set (f2.push _) (.inr (by omega)) _, rfl, ⟨rfl, rfl, rfl, rfl, rfl, rfl, rfl, trivial⟩, rfl, rfl, rfl, rfl⟩
    have hql : q = L.length := by simp at hc; omega
    subst hql
    rw [List.drop_length, List.all_nil] at hall
    have k3 : J Wo (ysT s (t :: rest.filter (fits s L))) h1 := by
      have := k3
      rw [List.filter_cons, hall] at this
      exact this
    have by2 : Heap.at h2 h.n = .blk [.yield id] := (f2.keep h.n (by omega) (by simp)).trans by0
    have bt2 : Heap.at h2 h1.n = .blk [.c (I t.a), .c (I t.b), .c (I t.c)] := (f2.keep h1.n (by omega) (by simp)).trans bt
    have j2 := R.stable _ _ _ _ (R.stable _ _ _ _ k3 k5 fup) (show n0 ≤ hb.n by omega) (f2.mono fun i _ hi => hi.elim)
    have o2 : Holds Wi (grow (grow Wo h1 hb) hb h2) n0 h.n (h.n + 1) h2 := (ob.grow (show n0 ≤ hb.n by omega) f2.n).less fun i hi => .inl hi
    conv => whnf
    refine ⟨_, by2, ?_⟩
    conv => whnf
    refine ⟨_, bt2, ?_⟩
    conv => whnf
    refine .mk ((R.round _ [t.cv, daySl (dayOf s t)] (ysT s (rest.filter (fits s L))) _ j2 (by omega) o2.low).mono ?_ ?_)
    · rintro b' h3 ⟨hf, hk⟩
      have fb3 : Foot (apart Wi (h.n + 1)) hb h3 := (f2.mono fun i _ hi => hi.elim).trans (o2.apart (by omega) (by omega) hf)
      have hn3 := fb3.n
      have c0 := (hf.keep h.n (by omega) (fun x => x (o2.own h.n (Nat.le_refl _) (by omega) (by omega)))).trans by2
      have o3 := o2.stay hf.n (by omega)
      cases b'
      · conv => whnf
        exact ⟨fb3, rfl, _, hk, Nat.le_trans (show n0 ≤ hb.n by omega) hn3, o3⟩
      · conv => whnf
        exact ⟨fb3, _, rest, rfl, fun t ht => k2 t (List.mem_cons_of_mem _ ht), hk, c0, Nat.le_trans (show n0 ≤ hb.n by omega) hn3, o3⟩
    · rintro v' h3 ⟨hx, hn3, hf⟩
      have fb3 : Foot (apart Wi (h.n + 1)) hb h3 := (f2.mono fun i _ hi => hi.elim).trans (o2.apart (by omega) (by omega) hf)
      conv => whnf
      exact ⟨fb3, _, hx, hn3, o2.stay hf.n (by omega)⟩
  · rintro h1 hn1 hc ⟨Wo, rest, k1, k2, k3, k4, k5, o⟩
    have : rest = [] := by cases rest with | nil => rfl | cons a l => cases k1
    subst this
    conv => whnf
    refine ⟨_, hc, ?_⟩
    conv => whnf
    exact ⟨k5, .inl (R.mono _ _ _ _ (R.stable _ _ _ _ k3 k5 (Foot.set (Foot.refl _ _) (.inl (o.own _ (by omega) (by omega) (by omega))) _)) fun i hi => hi.elim)⟩
  · rintro e h1 hn1 hc ⟨rfl, Wo, k1, k2, o⟩ _
    conv => whnf
    refine ⟨_, hc, ?_⟩
    conv => whnf
    exact ⟨k2, .inr (R.dmono _ _ _ (R.dstable _ _ _ k1 k2 (Foot.set (Foot.refl _ _) (.inl (o.own _ (by omega) (by omega) (by omega))) _)) fun i hi => hi.elim)⟩
  · rintro v' h1 hn1 hc ⟨Wo, k1, k2, o⟩
    conv => whnf
    refine ⟨_, hc, ?_⟩
    conv => whnf
    exact ⟨k2, R.xmono _ _ _ _ (R.xstable _ _ _ _ k1 k2 (Foot.set (Foot.refl _ _) (.inl (o.own _ (by omega) (by omega) (by omega))) _)) fun i hi => hi.elim⟩
end Go.Ag
/- Layer 4: shearers and days of all truths. -/
namespace Go.Ag
open Go.Proofs
set_option maxRecDepth 100000

def knQ (s : Sd) (m : Nat) (h : Heap) : Prop := DayMap s (combos s) (Heap.at h m)
/-- The heap in which truths are ranged over. -/
def H6 (v : SV) (m id : Nat) (h : Heap) : Heap := (((h.push .dead (knBlk v m)).push .dead (.blk [.yield id])).push .dead (knBlk v m)).push .dead (.blk [.c v.looks.cv])
theorem H6_1 (v : SV) (m id : Nat) (h : Heap) : Heap.at (H6 v m id h) (h.n + 1) = .blk [.yield id] := by unfold H6; simp [at_push, push_n]
theorem H6_2 (v : SV) (m id : Nat) (h : Heap) : Heap.at (H6 v m id h) (h.n + 2) = knBlk v m := by unfold H6; simp [at_push, push_n]
theorem H6_3 (v : SV) (m id : Nat) (h : Heap) : Heap.at (H6 v m id h) (h.n + 3) = .blk [.c v.looks.cv] := by unfold H6; simp [at_push, push_n]
theorem H6_foot (v : SV) (m id : Nat) (h : Heap) (W : Nat → Prop) : Foot W h (H6 v m id h) := ((((Foot.refl _ _).push _).push _).push _).push _

set_option maxHeartbeats 2000000 in
theorem known_shearers {v : SV} {s : Sd} (hv : v.Is s) (hd : validB s = true) (m : Nat) : IterA Try.prog (knQ s m) (.func (.func 62) [knAV v m] []) (ys3 (truthsS s s.looks)) := by
  refine ⟨62, [knAV v m], [], fun args => by kernel_rfl, fun id n0 J D X R hQ hid h hn hJ => ?_⟩
  refine call_by (hm := false) Try.func62 rfl ?_
  conv => whnf
  refine ⟨_, (at_push_lt _ _ (by rw [push_n]; omega)).trans (at_push_self _ _), ?_⟩
  conv => whnf
  refine ⟨_, (at_push_lt _ _ (by rw [push_n]; omega)).trans (at_push_self _ _), ?_⟩
  conv => whnf
  obtain ⟨e, h', hc, rfl, rfl⟩ := truths_ret v v.looks m ((h.push .dead (knBlk v m)).push .dead (.blk [.yield id]))
  refine .inl _ _ .no hc ?_
  conv => whnf
  refine range_nA (hm := false) (h.n + 4) rfl (ps := [10, 11]) rfl rfl (truths_iter hv hd hv.looks (h.n + 2) (h.n + 3) m)
    (I := fun Wi l h1 => ∃ Wo rest, l = ysT s rest ∧ J Wo (ys3 rest) h1 ∧ Heap.at h1 (h.n + 1) = .blk [.yield id] ∧ Heap.at h1 (h.n + 2) = knBlk v m ∧ Heap.at h1 (h.n + 3) = .blk [.c v.looks.cv] ∧ n0 ≤ h1.n ∧ Holds Wi Wo n0 h.n (h.n + 4) h1)
    (E := fun Wi e h1 => e = .ret ∧ ∃ Wo, D Wo h1 ∧ n0 ≤ h1.n ∧ Holds Wi Wo n0 h.n (h.n + 4) h1) (X := fun Wi v h1 => ∃ Wo, X Wo v h1 ∧ n0 ≤ h1.n ∧ Holds Wi Wo n0 h.n (h.n + 4) h1) ?_ ?_ ?_ ?_ ?_ ?_ ?_ ?_ ?_ ?_ ?_ ?_
  · rintro Wi l h1 h2 ⟨Wo, rest, k1, k2, k3, k4, k5, k6, o⟩ hn1 hw ff0
    have ff := ff0.high hw
    exact ⟨_, rest, k1, R.stable _ _ _ _ k2 k6 (o.foot' (by omega) ff0), (ff.below hn1 (by omega)).trans k3, (ff.below hn1 (by omega)).trans k4, (ff.below hn1 (by omega)).trans k5, Nat.le_trans k6 ff.n, o.grow k6 ff.n⟩
  · rintro Wi e h1 h2 ⟨rfl, Wo, k1, k2, o⟩ hn1 hw ff
    exact ⟨rfl, _, R.dstable _ _ _ k1 k2 (o.foot' (by omega) ff), Nat.le_trans k2 ff.n, o.grow k2 ff.n⟩
  · rintro Wi v' h1 h2 ⟨Wo, k1, k2, o⟩ hn1 hw ff
    exact ⟨_, R.xstable _ _ _ _ k1 k2 (o.foot' (by omega) ff), Nat.le_trans k2 ff.n, o.grow k2 ff.n⟩
  · rintro Wi Wi' l h1 ⟨Wo, rest, k1, k2, k3, k4, k5, k6, o⟩ hw
    exact ⟨Wo, rest, k1, k2, k3, k4, k5, k6, o.less hw⟩
  · rintro Wi Wi' e h1 ⟨rfl, Wo, k1, k2, o⟩ hw
    exact ⟨rfl, Wo, k1, k2, o.less hw⟩
  · rintro Wi Wi' v' h1 ⟨Wo, k1, k2, o⟩ hw
    exact ⟨Wo, k1, k2, o.less hw⟩
  · rintro Wi l h1 ⟨Wo, rest, k1, k2, k3, k4, k5, k6, o⟩
    exact ⟨k4, k5, hQ _ _ _ k2⟩
  · refine ⟨grow none' h (H6 v m id h), _, rfl, R.stable _ _ _ _ hJ hn (H6_foot v m id h _), H6_1 v m id h, H6_2 v m id h, H6_3 v m id h, Nat.le_trans hn (H6_foot v m id h none').n, fun i hi => hi.elim, fun i h1 h2 h3 => .inr ⟨h1, h3⟩, ?_⟩
    rintro i (hi | hi)
    · exact hi.elim
    · exact ⟨Nat.le_trans hn hi.1, hi.2⟩
  · rintro Wi y l h1 hn1 hw ⟨Wo, rest, k1, k2, k3, k4, k5, k6, o⟩
    cases rest with
    | nil => cases k1
    | cons t rest =>
    obtain ⟨rfl, rfl⟩ := List.cons.inj k1
    refine ⟨rfl, ?_⟩
    conv => whnf
    refine ⟨_, at_push_self _ _, ?_⟩
    conv => whnf
    refine ⟨Foot.set ((Foot.refl _ _).push _) (.inr (Nat.le_refl _)) _, fun hb fb hbn => ?_⟩
    have hbn' : hb.n = h1.n + 1 := by rw [hbn, new_n]
    have bt : Heap.at hb h1.n = .blk [.c (I t.a), .c (I t.b), .c (I t.c)] := (fb.keep h1.n (by rw [new_n]; omega) (by omega)).trans (at_new _ _ _)
    have low : ∀ i, i < h.n + 4 → Heap.at hb i = Heap.at h1 i := fun i hi => (fb.keep i (by rw [new_n]; omega) (by omega)).trans (at_old _ _ _ (by omega))
    conv => whnf
    have wN : Wo (h.n + 4 + 1) := o.own _ (by omega) (by omega) (by omega)
    have fup : Foot Wo h1 hb := Foot.trans (Foot.set ((Foot.refl _ _).push _) (.inr (Nat.le_refl _)) _) (fb.mono fun i _ hi => by rw [hi]; exact wN)
    have jb := R.stable _ _ _ _ k2 k6 fup
    have hnb := fup.n
    have ob : Holds Wi (grow Wo h1 hb) n0 h.n (h.n + 4) hb := (o.grow k6 fup.n).less fun i hi => .inl hi
    have by0 : Heap.at hb (h.n + 1) = .blk [.yield id] := (low _ (by omega)).trans k3
    refine ⟨_, by0, ?_⟩
    conv => whnf
    refine ⟨_, bt, ?_⟩
    conv => whnf
    refine .mk ((R.round _ [t.cv] (ys3 rest) _ jb (by omega) ob.low).mono ?_ ?_)
    · rintro b' h3 ⟨hf, hk⟩
      have hn3 := hf.n
      have c1 := (hf.keep (h.n + 1) (by omega) (fun x => x (ob.own _ (by omega) (by omega) (by omega)))).trans by0
      have c2 := (hf.keep (h.n + 2) (by omega) (fun x => x (ob.own _ (by omega) (by omega) (by omega)))).trans ((low _ (by omega)).trans k4)
      have c3 := (hf.keep (h.n + 3) (by omega) (fun x => x (ob.own _ (by omega) (by omega) (by omega)))).trans ((low _ (by omega)).trans k5)
      cases b'
      · conv => whnf
        exact ⟨ob.apart (by omega) (by omega) hf, rfl, _, hk, Nat.le_trans (show n0 ≤ hb.n by omega) hn3, ob.stay hn3 (by omega)⟩
      · conv => whnf
        exact ⟨ob.apart (by omega) (by omega) hf, _, rest, rfl, hk, c1, c2, c3, Nat.le_trans (show n0 ≤ hb.n by omega) hn3, ob.stay hn3 (by omega)⟩
    · rintro v' h3 ⟨hx, hn3, hf⟩
      conv => whnf
      exact ⟨ob.apart (by omega) (by omega) hf, _, hx, hn3, ob.stay hf.n (by omega)⟩
  · rintro h1 hn1 hc ⟨Wo, rest, k1, k2, k3, k4, k5, k6, o⟩
    have : rest = [] := by cases rest with | nil => rfl | cons a l => cases k1
    subst this
    conv => whnf
    refine ⟨_, hc, ?_⟩
    conv => whnf
    exact ⟨k6, .inl (R.mono _ _ _ _ (R.stable _ _ _ _ k2 k6 (Foot.set (Foot.refl _ _) (.inl (o.own _ (by omega) (by omega) (by omega))) _)) fun i hi => hi.elim)⟩
  · rintro e h1 hn1 hc ⟨rfl, Wo, k1, k2, o⟩ _
    conv => whnf
    refine ⟨_, hc, ?_⟩
    conv => whnf
    exact ⟨k2, .inr (R.dmono _ _ _ (R.dstable _ _ _ k1 k2 (Foot.set (Foot.refl _ _) (.inl (o.own _ (by omega) (by omega) (by omega))) _)) fun i hi => hi.elim)⟩
  · rintro v' h1 hn1 hc ⟨Wo, k1, k2, o⟩
    conv => whnf
    refine ⟨_, hc, ?_⟩
    conv => whnf
    exact ⟨k2, R.xmono _ _ _ _ (R.xstable _ _ _ _ k1 k2 (Foot.set (Foot.refl _ _) (.inl (o.own _ (by omega) (by omega) (by omega))) _)) fun i hi => hi.elim⟩

def ysD (s : Sd) (l : List T3) : List (List CV) := l.map fun t => [daySl (dayOf s t)]
set_option maxHeartbeats 2000000 in
theorem known_all {v : SV} {s : Sd} (hv : v.Is s) (hd : validB s = true) (m : Nat) : IterA Try.prog (knQ s m) (.func (.func 96) [knAV v m] []) (ysD s (truthsS s s.looks)) := by
  refine ⟨96, [knAV v m], [], fun args => by kernel_rfl, fun id n0 J D X R hQ hid h hn hJ => ?_⟩
  refine call_by (hm := false) Try.func96 rfl ?_
  conv => whnf
  refine ⟨_, (at_push_lt _ _ (by rw [push_n]; omega)).trans (at_push_self _ _), ?_⟩
  conv => whnf
  refine ⟨_, (at_push_lt _ _ (by rw [push_n]; omega)).trans (at_push_self _ _), ?_⟩
  conv => whnf
  obtain ⟨e, h', hc, rfl, rfl⟩ := truths_ret v v.looks m ((h.push .dead (knBlk v m)).push .dead (.blk [.yield id]))
  refine .inl _ _ .no hc ?_
  conv => whnf
  refine range_nA (hm := false) (h.n + 4) rfl (ps := [11, 12]) rfl rfl (truths_iter hv hd hv.looks (h.n + 2) (h.n + 3) m)
    (I := fun Wi l h1 => ∃ Wo rest, l = ysT s rest ∧ J Wo (ysD s rest) h1 ∧ Heap.at h1 (h.n + 1) = .blk [.yield id] ∧ Heap.at h1 (h.n + 2) = knBlk v m ∧ Heap.at h1 (h.n + 3) = .blk [.c v.looks.cv] ∧ n0 ≤ h1.n ∧ Holds Wi Wo n0 h.n (h.n + 4) h1)
    (E := fun Wi e h1 => e = .ret ∧ ∃ Wo, D Wo h1 ∧ n0 ≤ h1.n ∧ Holds Wi Wo n0 h.n (h.n + 4) h1) (X := fun Wi v h1 => ∃ Wo, X Wo v h1 ∧ n0 ≤ h1.n ∧ Holds Wi Wo n0 h.n (h.n + 4) h1) ?_ ?_ ?_ ?_ ?_ ?_ ?_ ?_ ?_ ?_ ?_ ?_
  · rintro Wi l h1 h2 ⟨Wo, rest, k1, k2, k3, k4, k5, k6, o⟩ hn1 hw ff0
    have ff := ff0.high hw
    exact ⟨_, rest, k1, R.stable _ _ _ _ k2 k6 (o.foot' (by omega) ff0), (ff.below hn1 (by omega)).trans k3, (ff.below hn1 (by omega)).trans k4, (ff.below hn1 (by omega)).trans k5, Nat.le_trans k6 ff.n, o.grow k6 ff.n⟩
  · rintro Wi e h1 h2 ⟨rfl, Wo, k1, k2, o⟩ hn1 hw ff
    exact ⟨rfl, _, R.dstable _ _ _ k1 k2 (o.foot' (by omega) ff), Nat.le_trans k2 ff.n, o.grow k2 ff.n⟩
  · rintro Wi v' h1 h2 ⟨Wo, k1, k2, o⟩ hn1 hw ff
    exact ⟨_, R.xstable _ _ _ _ k1 k2 (o.foot' (by omega) ff), Nat.le_trans k2 ff.n, o.grow k2 ff.n⟩
  · rintro Wi Wi' l h1 ⟨Wo, rest, k1, k2, k3, k4, k5, k6, o⟩ hw
    exact ⟨Wo, rest, k1, k2, k3, k4, k5, k6, o.less hw⟩
  · rintro Wi Wi' e h1 ⟨rfl, Wo, k1, k2, o⟩ hw
    exact ⟨rfl, Wo, k1, k2, o.less hw⟩
  · rintro Wi Wi' v' h1 ⟨Wo, k1, k2, o⟩ hw
    exact ⟨Wo, k1, k2, o.less hw⟩
  · rintro Wi l h1 ⟨Wo, rest, k1, k2, k3, k4, k5, k6, o⟩
    exact ⟨k4, k5, hQ _ _ _ k2⟩
  · refine ⟨grow none' h (H6 v m id h), _, rfl, R.stable _ _ _ _ hJ hn (H6_foot v m id h _), H6_1 v m id h, H6_2 v m id h, H6_3 v m id h, Nat.le_trans hn (H6_foot v m id h none').n, fun i hi => hi.elim, fun i h1 h2 h3 => .inr ⟨h1, h3⟩, ?_⟩
    rintro i (hi | hi)
    · exact hi.elim
    · exact ⟨Nat.le_trans hn hi.1, hi.2⟩
  · rintro Wi y l h1 hn1 hw ⟨Wo, rest, k1, k2, k3, k4, k5, k6, o⟩
    cases rest with
    | nil => cases k1
    | cons t rest =>
    obtain ⟨rfl, rfl⟩ := List.cons.inj k1
    refine ⟨rfl, ?_⟩
    conv => whnf
    refine ⟨Foot.refl _ _, fun hb fb hbn => ?_⟩
    have low : ∀ i, i < h.n + 4 → Heap.at hb i = Heap.at h1 i := fun i hi => fb.keep i (by omega) (by omega)
    conv => whnf
    have wN : Wo (h.n + 4 + 1) := o.own _ (by omega) (by omega) (by omega)
    have fup : Foot Wo h1 hb := fb.mono fun i _ hi => by rw [hi]; exact wN
    have jb := R.stable _ _ _ _ k2 k6 fup
    have hnb := fup.n
    have ob : Holds Wi (grow Wo h1 hb) n0 h.n (h.n + 4) hb := (o.grow k6 fup.n).less fun i hi => .inl hi
    have by0 : Heap.at hb (h.n + 1) = .blk [.yield id] := (low _ (by omega)).trans k3
    refine ⟨_, by0, ?_⟩
    conv => whnf
    refine .mk ((R.round _ [daySl (dayOf s t)] (ysD s rest) _ jb (by omega) ob.low).mono ?_ ?_)
    · rintro b' h3 ⟨hf, hk⟩
      have hn3 := hf.n
      have c1 := (hf.keep (h.n + 1) (by omega) (fun x => x (ob.own _ (by omega) (by omega) (by omega)))).trans by0
      have c2 := (hf.keep (h.n + 2) (by omega) (fun x => x (ob.own _ (by omega) (by omega) (by omega)))).trans ((low _ (by omega)).trans k4)
      have c3 := (hf.keep (h.n + 3) (by omega) (fun x => x (ob.own _ (by omega) (by omega) (by omega)))).trans ((low _ (by omega)).trans k5)
      cases b'
      · conv => whnf
        exact ⟨ob.apart (by omega) (by omega) hf, rfl, _, hk, Nat.le_trans (show n0 ≤ hb.n by omega) hn3, ob.stay hn3 (by omega)⟩
      · conv => whnf
        exact ⟨ob.apart (by omega) (by omega) hf, _, rest, rfl, hk, c1, c2, c3, Nat.le_trans (show n0 ≤ hb.n by omega) hn3, ob.stay hn3 (by omega)⟩
    · rintro v' h3 ⟨hx, hn3, hf⟩
      conv => whnf
      exact ⟨ob.apart (by omega) (by omega) hf, _, hx, hn3, ob.stay hf.n (by omega)⟩
  · rintro h1 hn1 hc ⟨Wo, rest, k1, k2, k3, k4, k5, k6, o⟩
    have : rest = [] := by cases rest with | nil => rfl | cons a l => cases k1
    subst this
    conv => whnf
    refine ⟨_, hc, ?_⟩
    conv => whnf
    exact ⟨k6, .inl (R.mono _ _ _ _ (R.stable _ _ _ _ k2 k6 (Foot.set (Foot.refl _ _) (.inl (o.own _ (by omega) (by omega) (by omega))) _)) fun i hi => hi.elim)⟩
  · rintro e h1 hn1 hc ⟨rfl, Wo, k1, k2, o⟩ _
    conv => whnf
    refine ⟨_, hc, ?_⟩
    conv => whnf
    exact ⟨k2, .inr (R.dmono _ _ _ (R.dstable _ _ _ k1 k2 (Foot.set (Foot.refl _ _) (.inl (o.own _ (by omega) (by omega) (by omega))) _)) fun i hi => hi.elim)⟩
  · rintro v' h1 hn1 hc ⟨Wo, k1, k2, o⟩
    conv => whnf
    refine ⟨_, hc, ?_⟩
    conv => whnf
    exact ⟨k2, R.xmono _ _ _ _ (R.xstable _ _ _ _ k1 k2 (Foot.set (Foot.refl _ _) (.inl (o.own _ (by omega) (by omega) (by omega))) _)) fun i hi => hi.elim⟩
end Go.Ag
/- Layer 4: spans are joined. -/
namespace Go.Ag
open Go.Proofs
set_option maxRecDepth 100000

def rowN (n : Int) : List CV := [I n, I n]
theorem rv23 (cells : List CV) (off : Nat) : readVarC Try.prog 23 cells off = (sliceOf cells off 2).map .agg := rfl
theorem take_snoc {l : List Int} {q : Nat} {x : Int} (h : l[q]? = some x) : l.take (q + 1) = l.take q ++ [x] := by rw [List.take_add_one, h]; rfl

def clashV : AV := .c (.iface 32 (I 10))

theorem join_none : CallOk Try.prog 99 ([nilC].map .c) TMap.nil .no (.panic clashV) TMap.nil .no := by
  suffices H : ∃ e h', CallOk Try.prog 99 ([nilC].map .c) TMap.nil .no e h' .no ∧ e = .panic clashV by
    obtain ⟨e, h', hc, rfl⟩ := H
    exact callOk_close (args := [nilC]) hc (fuel := 1) (r := (.iface 32 (I 10), [])) rfl
  refine call_by (hm := true) Try.func99 rfl ?_
  conv => whnf
  rfl

set_option maxHeartbeats 1000000 in
theorem join_ret {cs : List CV} {off : Nat} {a : Int} {l : List Int} (hs : SlOf 2 ((a :: l).map rowN) cs off (l.length + 1)) (hshort : l.length ≤ 1000) : Ret Try.prog 99 [.sl cs off (l.length + 1)] (.agg [I (l.foldl min a), I (l.foldl max a)]) := by
  refine ret_by (hm := false) Try.func99 rfl ?_
  conv => whnf
  have hne : (((l.length + 1 : Nat) : Int) == 0) = false := by simp; omega
  rw [hne]
  conv => whnf
  refine ⟨⟨by omega, by omega⟩, ?_⟩
  conv => whnf
  have row0 : readVarC Try.prog 23 cs (off + (0 : Int).toNat * 2) = some (.agg (rowN a)) := by
    rw [rv23]
    have := hs.row 0 (rowN a) rfl
    rw [show (0 : Int).toNat = 0 from rfl, this]; rfl
  refine ⟨_, row0, ?_⟩
  conv => whnf
  refine ⟨_, at_push_self _ _, ?_⟩
  conv => whnf
  refine loop_by (I := fun n st => ∃ (q : Nat) (h : Heap), q ≤ l.length + 1 ∧ n = l.length + 1 - q ∧ (∃ z, Heap.at h 0 = .blk z ∧ z = [AV.lit (.int .i64 0), AV.lit (.int .i64 0)]) ∧ Heap.at h 1 = .blk [.c (I (((a :: l).take q).foldl min a)), .c (I (((a :: l).take q).foldl max a))] ∧ 1 < h.n ∧
    Has st 32 [(2, .ptr 0 0), (3, .ptr 1 0), (13, .c (.sl cs off (l.length + 1))), (14, .c (I ((l.length + 1 : Nat) : Int))), (15, .c (I q))] [] none h) ?_ (k := l.length + 1)
    ⟨0, _, Nat.zero_le _, rfl, ⟨_, rfl, rfl⟩, rfl, Nat.lt_succ_self 1, rfl, ⟨rfl, rfl, rfl, rfl, rfl, trivial⟩, rfl, rfl, rfl, rfl⟩
  rintro n st ⟨q, h, hq, rfl, ⟨z, h0, hz⟩, h1, hn, hs1⟩
  refine hs1.run (hm := false) ?_
  conv => whnf
  cases hc : decide ((q : Int) < ((l.length + 1 : Nat) : Int))
  case true =>
    have hq2 : q < l.length + 1 := by simp at hc; omega
    have hq : q < (a :: l).length := by simp; omega
    obtain ⟨x, hx⟩ := get_some hq
    have rowq : readVarC Try.prog 23 cs (off + (q : Int).toNat * 2) = some (.agg (rowN x)) := by
      rw [rv23, Int.toNat_natCast]
      have := hs.row q (rowN x) (by rw [List.getElem?_map, hx]; rfl)
      rw [this]; rfl
    have mn : ((a :: l).take (q + 1)).foldl min a = min (((a :: l).take q).foldl min a) x := by rw [take_snoc hx, List.foldl_append]; rfl
    have mx : ((a :: l).take (q + 1)).foldl max a = max (((a :: l).take q).foldl max a) x := by rw [take_snoc hx, List.foldl_append]; rfl
    conv => whnf
    refine ⟨⟨by omega, by omega⟩, ?_⟩
    conv => whnf
    refine ⟨_, rowq, ?_⟩
    conv => whnf
    refine ⟨_, at_push_self _ _, ?_⟩
    conv => whnf
    refine ⟨_, (at_old _ _ _ hn).trans h1, ?_⟩
    conv => whnf
    refine ⟨_, at_new _ _ _, ?_⟩
    conv => whnf
    refine ⟨_, (at_old _ _ _ hn).trans h1, ?_⟩
    conv => whnf
    refine ⟨_, at_new _ _ _, ?_⟩
    conv => whnf
    refine ⟨_, (at_old _ _ _ hn).trans h1, ?_⟩
    conv => whnf
    refine ⟨((q + 1 : Nat) : Int), by rw [wrap_eq (by omega) (by omega)]; omega, ?_⟩
    conv => whnf
    refine ⟨l.length + 1 - (q + 1), by omega, q + 1, _, by omega, rfl, ⟨z, (at_set_ne _ _ (by decide)).trans ((at_old _ _ _ (by omega)).trans h0), hz⟩, ?_, by rw [TMap.set_n, new_n]; omega, rfl, ⟨rfl, rfl, rfl, rfl, rfl, trivial⟩, rfl, rfl, rfl, rfl⟩
    rw [mn, mx]
    exact at_set_self _ _ (by rw [new_n]; omega)
  have hql : q = (a :: l).length := by simp at hc; simp; omega
  subst hql
  rw [List.take_length] at h1
  conv => whnf
  refine ⟨_, h1, ?_⟩
  conv => whnf
  subst hz
  refine ⟨_, h0, ?_⟩
  conv => whnf
  refine ⟨_, at_set_self _ _ (by omega), ?_⟩
  conv => whnf
  have f1 : (a :: l).foldl min a = l.foldl min a := by simp
  have f2 : (a :: l).foldl max a = l.foldl max a := by simp
  rw [← f1, ← f2]
  exact .val
end Go.Ag
/- Layer 4: the span of an answer, over all truths. -/
namespace Go.Ag
open Go.Proofs
set_option maxRecDepth 100000

theorem flatMap_le {α β : Type} {f : α → List β} {b : Nat} : ∀ (l : List α), (∀ x ∈ l, (f x).length ≤ b) → (l.flatMap f).length ≤ l.length * b
  | [], _ => by simp
  | a :: l, h => by
    rw [List.flatMap_cons, List.length_append, List.length_cons, Nat.succ_mul]
    have h1 := h a (List.mem_cons_self ..)
    have h2 := flatMap_le l (fun x hx => h x (List.mem_cons_of_mem _ hx))
    omega
theorem ints_len (lo hi : Int) : (ints lo hi).length = (hi + 1 - lo).toNat := by simp [ints, intsN]
theorem combos_len {s : Sd} (hd : validB s = true) : (combos s).length ≤ 125 := by
  simp only [validB, minsOk, minOk, spanB, Bool.and_eq_true, decide_eq_true_eq] at hd
  have hc : (ints s.lo.c s.hi.c).length ≤ 5 := by rw [ints_len]; omega
  have hb : (ints s.lo.b s.hi.b).length ≤ 5 := by rw [ints_len]; omega
  have ha : (ints s.lo.a s.hi.a).length ≤ 5 := by rw [ints_len]; omega
  have h1 : (combos s).length ≤ (ints s.lo.a s.hi.a).length * 25 := by
    refine flatMap_le _ fun x _ => ?_
    have : ((ints s.lo.b s.hi.b).flatMap fun b => (ints s.lo.c s.hi.c).map fun c => (⟨x, b, c⟩ : T3)).length ≤ (ints s.lo.b s.hi.b).length * 5 := flatMap_le _ fun y _ => by rw [List.length_map]; exact hc
    omega
  omega
theorem truths_len {s : Sd} (hd : validB s = true) (L : List Lk) : (truthsS s L).length ≤ 125 := Nat.le_trans (List.length_filter_le _ _) (combos_len hd)

def endOf (o : Option (Int × Int)) : AEnd := match o with
  | some s => .ret (.c (.agg [I s.1, I s.2]))
  | none => .panic clashV

theorem U150 : Try.prog.underlying 150 = some (.slice 23) := by kernel_rfl
theorem S23 : slicePart Try.prog 23 = some 2 := by kernel_rfl
def zero2 : AB := .blk [AV.lit (.int .i64 0), AV.lit (.int .i64 0)]

set_option maxHeartbeats 2000000 in
theorem spanOf_takes {v : SV} {s : Sd} (hv : v.Is s) (hd : validB s = true) {k : Nat} (hk : k ≤ 2) {m : Nat} {h : Heap} (hm : m < h.n) (hI : knQ s m h) :
    ∃ e h', CallOk Try.prog 60 [.func (.func 62) [knAV v m] [], .c (.agg [I k, .func (.func 63) [] []])] h .no e h' .no ∧ (e = endOf (spanS s fun t => t.get k) ∧ Foot none' h h') := by
  refine call_by (hm := false) Try.func60 rfl ?_
  conv => whnf
  refine range_nA (hm := false) (h.n + 3) rfl (ps := [9]) rfl rfl (known_shearers hv hd m)
    (I := fun W l h1 => ∃ done rest out, l = ys3 rest ∧ truthsS s s.looks = done ++ rest ∧ Heap.at h1 h.n = .blk [.c (I k), .c (.func (.func 63) [] [])] ∧ Heap.at h1 (h.n + 1) = zero2 ∧ Heap.at h1 (h.n + 2) = .blk [out] ∧ RowsL 2 h1 out ((done.map fun t => t.get k).map rowN) ∧ (∀ o, outId out = some o → h.n + 3 + 1 < o ∧ ¬ W o) ∧ Foot none' h h1)
    (E := fun _ _ _ => False) (X := fun _ _ _ => False) ?_ ?_ ?_ ?_ ?_ ?_ ?_ ?_ ?_ ?_ ?_ ?_
  · rintro W l h1 h2 ⟨done, rest, out, k1, k2, k3, k4, k5, k6, k7, k8⟩ hn1 hw ff0
    have ff := ff0.high hw
    have hlt := k6.lt
    refine ⟨done, rest, out, k1, k2, (ff.below hn1 (by omega)).trans k3, (ff.below hn1 (by omega)).trans k4, (ff.below hn1 (by omega)).trans k5, k6.ext ff.n fun i hi ho => ff0.keep i hi ?_, fun o ho => ⟨(k7 o ho).1, ?_⟩, k8.trans_up ff (by omega)⟩
    · have := k7 i ho
      rintro (x | x | x)
      · exact this.2 x
      · omega
      · omega
    · have := k7 o ho
      have := hlt o ho
      rintro (x | x)
      · exact (k7 o ho).2 x
      · omega
  · rintro _ _ _ _ hx
    exact hx.elim
  · rintro _ _ _ _ hx
    exact hx.elim
  · rintro W W' l h1 ⟨done, rest, out, k1, k2, k3, k4, k5, k6, k7, k8⟩ hw
    exact ⟨done, rest, out, k1, k2, k3, k4, k5, k6, fun o ho => ⟨(k7 o ho).1, fun x => (k7 o ho).2 (hw o x)⟩, k8⟩
  · rintro _ _ _ _ hx _
    exact hx
  · rintro _ _ _ _ hx _
    exact hx
  · rintro W l h1 ⟨done, rest, out, k1, k2, k3, k4, k5, k6, k7, k8⟩
    exact dayMap_eq (k8.keep m hm (fun x => x)) hI
  · refine ⟨[], _, nilA, rfl, rfl, ?_, ?_, ?_, .inl ⟨rfl, rfl⟩, by simp [outId], ((Foot.refl _ _).push _).push _ |>.push _⟩
    · exact (at_push_lt _ _ (by simp only [push_n]; omega)).trans ((at_push_lt _ _ (by rw [push_n]; omega)).trans (at_push_self _ _))
    · exact (at_push_lt _ _ (by simp only [push_n]; omega)).trans (at_push_self _ _)
    · exact at_push_self _ _
  · rintro W y l h1 hn1 hw ⟨done, rest, out, k1, k2, k3, k4, k5, k6, k7, k8⟩
    cases rest with
    | nil => cases k1
    | cons t rest =>
    obtain ⟨rfl, rfl⟩ := List.cons.inj k1
    refine ⟨rfl, ?_⟩
    conv => whnf
    refine ⟨_, at_push_self _ _, ?_⟩
    conv => whnf
    refine ⟨Foot.set ((Foot.refl _ _).push _) (.inr (Nat.le_refl _)) _, fun hb fb hbn => ?_⟩
    have hbn' : hb.n = h1.n + 1 := by rw [hbn, new_n]
    have bt : Heap.at hb h1.n = .blk [.c (I t.a), .c (I t.b), .c (I t.c)] := (fb.keep h1.n (by rw [new_n]; omega) (by omega)).trans (at_new _ _ _)
    have low : ∀ i, i < h1.n → i ≠ h.n + 3 + 1 → Heap.at hb i = Heap.at h1 i := fun i hi hne => (fb.keep i (by rw [new_n]; omega) (by omega)).trans (at_old _ _ _ hi)
    have b3 := (low _ (by omega) (by omega)).trans k3
    have b5 := (low _ (by omega) (by omega)).trans k5
    conv => whnf
    refine ⟨_, b3, ?_⟩
    conv => whnf
    refine ⟨_, bt, ?_⟩
    conv => whnf
    refine ⟨_, b3, ?_⟩
    conv => whnf
    refine .ret (of_ret t k hk) rfl ?_
    conv => whnf
    have hlt := k6.lt
    have R1 : RowsL 2 hb out ((done.map fun t => t.get k).map rowN) := k6.ext (by omega) fun i hi ho => low i hi (by have := (k7 i ho).1; omega)
    have hrl : ∀ r ∈ (done.map fun t => t.get k).map rowN, r.length = 2 := by intro r hr; simp only [List.mem_map] at hr; obtain ⟨p, _, rfl⟩ := hr; rfl
    have hlim : ((done.map fun t => t.get k).map rowN).length + 1 ≤ limit := by
      have h1 := truths_len hd s.looks
      rw [k2, List.length_append] at h1
      simp only [List.length_map]; unfold limit; omega
    have f8 : Foot none' h hb := k8.trans_up (N := h.n) (Foot.trans (Foot.set ((Foot.refl _ _).push _) (.inr (Nat.le_refl _)) _) (fb.mono fun i _ hi => by omega)) (Nat.le_refl _)
    rcases k6.shape with rfl | ⟨o, m', rfl⟩
    all_goals
      refine ⟨_, b5, ?_⟩
      conv => whnf
      obtain ⟨rr, hrr, hR', hold, hn', hfresh⟩ := rows_append (row := rowN (t.get k)) (t := 150) (u := 150) R1 U150 U150 rfl S23 rfl hrl rfl hlim
      obtain ⟨rv, rreads, rupds, rfresh⟩ := rr
      have keep : ∀ i, i < h.n + 3 → Heap.at (after (hb.push .dead (.blk ((rowN (t.get k)).map .c))) ⟨rv, rreads, rupds, rfresh⟩) i = Heap.at hb i := fun i hi => hold i (by omega) (fun e => by have := (k7 i e).1; omega)
      have hne2 : outId rv ≠ some (h.n + 2) := fun e => absurd (hfresh _ e) (by omega)
      have hR2 := hR'.set (k := h.n + 2) hne2 (.blk [rv])
      rcases hR' with ⟨_, hh⟩ | ⟨o', ho', hb', hlt', hne'⟩
      · exact absurd hh (by simp)
      simp only at ho'
      subst ho'
      refine ⟨_, hrr, ?_⟩
      conv => whnf
      refine ⟨_, (keep (h.n + 2) (by omega)).trans b5, ?_⟩
      conv => whnf
      have hwl : ∀ i, W i → h.n + 3 + 2 ≤ i := fun i hi => (hw i hi).1
      refine ⟨⟨by rw [TMap.set_n]; exact Nat.le_trans (by omega) hn', fun i hi hna => (at_set_ne _ _ (i := i) (k := h.n + 2) (fun e => hna (by rw [e]; exact apart_lt hwl (by omega)))).trans (hold i (by omega) (fun e => hna (fun x => by
        have := k7 i e
        rcases x with x | x | x
        · exact this.2 x
        · omega
        · omega)))⟩, done ++ [t], rest, _, rfl, by rw [k2]; simp, (at_set_ne _ _ (i := h.n) (k := h.n + 2) (by omega)).trans ((keep _ (by omega)).trans b3), (at_set_ne _ _ (i := h.n + 1) (k := h.n + 2) (by omega)).trans ((keep _ (by omega)).trans ((low _ (by omega) (by omega)).trans k4)), at_set_self _ _ (i := h.n + 2) (Nat.lt_of_lt_of_le (by omega) hn'), ?_, ?_, ?_⟩
      · rw [List.map_append, List.map_append]
        exact hR2
      · intro o2 ho2
        have h1 := hfresh o2 ho2
        exact ⟨by omega, fun x => by have := hw o2 x; omega⟩
      · refine Foot.set (W := none') (k := h.n + 2) ⟨Nat.le_trans f8.n (Nat.le_trans (by omega) hn'), fun i hi _ => (hold i (by omega) (fun e => by have := (k7 i e).1; omega)).trans (f8.keep i hi (fun x => x))⟩ (.inr (by omega)) _
  · rintro h1 hn1 hc ⟨done, rest, out, k1, k2, k3, k4, k5, k6, k7, k8⟩
    have : rest = [] := by cases rest with | nil => rfl | cons a l => cases k1
    subst this
    rw [List.append_nil] at k2
    have hlen := truths_len hd s.looks
    unfold spanS
    rw [k2] at hlen ⊢
    clear k2
    conv => whnf
    rcases k6 with ⟨rfl, hd0⟩ | ⟨o, rfl, hb0, hlt, hne'⟩
    · have hd1 : done = [] := by simpa using hd0
      subst hd1
      refine ⟨_, k5, ?_⟩
      conv => whnf
      refine .pure [nilC] _ rfl join_none ⟨_, rfl⟩ ?_
      conv => whnf
      refine ⟨_, hc, ?_⟩
      conv => whnf
      exact ⟨rfl, Foot.set (W := none') (k := h.n + 3) k8 (.inr (by omega)) _⟩
    · cases done with
      | nil => exact absurd rfl hne'
      | cons t done =>
      refine ⟨_, k5, ?_⟩
      conv => whnf
      have hsl : SlOf 2 ((t.get k :: done.map fun t => t.get k).map rowN) (((t.get k :: done.map fun t => t.get k).map rowN).flatten) 0 ((done.map fun t => t.get k).length + 1) := by
        have := sl_flat (sz := 2) (rows := (t.get k :: done.map fun t => t.get k).map rowN) (by intro r hr; simp only [List.mem_map] at hr; obtain ⟨p, _, rfl⟩ := hr; rfl)
        rw [List.length_map, List.length_cons] at this
        exact this
      have hj := join_ret hsl (by rw [List.length_map]; simp at hlen; omega)
      have hl2 : (((t :: done).map fun t => t.get k).map rowN).length = (done.map fun t => t.get k).length + 1 := by simp
      rw [← hl2] at hj
      refine CallW.msl hb0 hj rfl ?_
      conv => whnf
      refine ⟨_, k4, ?_⟩
      conv => whnf
      refine ⟨_, (at_set_ne _ _ (i := h.n + 3) (k := h.n + 1) (by omega)).trans hc, ?_⟩
      conv => whnf
      refine ⟨_, (at_set_ne _ _ (i := h.n + 1) (k := h.n + 3) (by omega)).trans (at_set_self _ _ (i := h.n + 1) (by omega)), ?_⟩
      conv => whnf
      exact ⟨rfl, Foot.set (W := none') (k := h.n + 3) (Foot.set (W := none') (k := h.n + 1) k8 (.inr (by omega)) _) (.inr (by omega)) _⟩
  · rintro e h1 _ _ hx
    exact hx.elim
  · rintro v h1 _ _ hx
    exact hx.elim
set_option maxHeartbeats 2000000 in
theorem spanOf_days {v : SV} {s : Sd} (hv : v.Is s) (hd : validB s = true) {q : Me} (hq : q.ok) {m : Nat} {h : Heap} (hm : m < h.n) (hI : knQ s m h) :
    ∃ e h', CallOk Try.prog 95 [.func (.func 96) [knAV v m] [], .c (.agg [q.cv, .func (.func 97) [] []])] h .no e h' .no ∧ (e = endOf (spanS s fun t => q.of (dayOf s t)) ∧ Foot none' h h') := by
  have hmr := fun (t : T3) (ht : t ∈ combos s) => measured_ret (day_tame (valid_good hd ht)) q hq
  obtain ⟨ty, x, e⟩ : ∃ ty x, q.cv = .iface ty x := by cases q <;> exact ⟨_, _, rfl⟩
  simp only [e] at hmr ⊢
  refine call_by (hm := false) Try.func95 rfl ?_
  conv => whnf
  refine range_nA (hm := false) (h.n + 3) rfl (ps := [9]) rfl rfl (known_all hv hd m)
    (I := fun W l h1 => ∃ done rest out, l = ysD s rest ∧ truthsS s s.looks = done ++ rest ∧ Heap.at h1 h.n = .blk [.c (.iface ty x), .c (.func (.func 97) [] [])] ∧ Heap.at h1 (h.n + 1) = zero2 ∧ Heap.at h1 (h.n + 2) = .blk [out] ∧ RowsL 2 h1 out ((done.map fun t => q.of (dayOf s t)).map rowN) ∧ (∀ o, outId out = some o → h.n + 3 + 1 < o ∧ ¬ W o) ∧ Foot none' h h1)
    (E := fun _ _ _ => False) (X := fun _ _ _ => False) ?_ ?_ ?_ ?_ ?_ ?_ ?_ ?_ ?_ ?_ ?_ ?_
  · rintro W l h1 h2 ⟨done, rest, out, k1, k2, k3, k4, k5, k6, k7, k8⟩ hn1 hw ff0
    have ff := ff0.high hw
    have hlt := k6.lt
    refine ⟨done, rest, out, k1, k2, (ff.below hn1 (by omega)).trans k3, (ff.below hn1 (by omega)).trans k4, (ff.below hn1 (by omega)).trans k5, k6.ext ff.n fun i hi ho => ff0.keep i hi ?_, fun o ho => ⟨(k7 o ho).1, ?_⟩, k8.trans_up ff (by omega)⟩
    · have := k7 i ho
      rintro (x | x | x)
      · exact this.2 x
      · omega
      · omega
    · have := k7 o ho
      have := hlt o ho
      rintro (x | x)
      · exact (k7 o ho).2 x
      · omega
  · rintro _ _ _ _ hx
    exact hx.elim
  · rintro _ _ _ _ hx
    exact hx.elim
  · rintro W W' l h1 ⟨done, rest, out, k1, k2, k3, k4, k5, k6, k7, k8⟩ hw
    exact ⟨done, rest, out, k1, k2, k3, k4, k5, k6, fun o ho => ⟨(k7 o ho).1, fun x => (k7 o ho).2 (hw o x)⟩, k8⟩
  · rintro _ _ _ _ hx _
    exact hx
  · rintro _ _ _ _ hx _
    exact hx
  · rintro W l h1 ⟨done, rest, out, k1, k2, k3, k4, k5, k6, k7, k8⟩
    exact dayMap_eq (k8.keep m hm (fun x => x)) hI
  · refine ⟨[], _, nilA, rfl, rfl, ?_, ?_, ?_, .inl ⟨rfl, rfl⟩, by simp [outId], ((Foot.refl _ _).push _).push _ |>.push _⟩
    · exact (at_push_lt _ _ (by simp only [push_n]; omega)).trans ((at_push_lt _ _ (by rw [push_n]; omega)).trans (at_push_self _ _))
    · exact (at_push_lt _ _ (by simp only [push_n]; omega)).trans (at_push_self _ _)
    · exact at_push_self _ _
  · rintro W y l h1 hn1 hw ⟨done, rest, out, k1, k2, k3, k4, k5, k6, k7, k8⟩
    cases rest with
    | nil => cases k1
    | cons t rest =>
    obtain ⟨rfl, rfl⟩ := List.cons.inj k1
    refine ⟨rfl, ?_⟩
    conv => whnf
    have ht : t ∈ combos s := (List.mem_filter.1 (show t ∈ truthsS s s.looks by rw [k2]; simp)).1
    refine ⟨Foot.refl _ _, fun hb fb hbn => ?_⟩
    have hbn' : h1.n ≤ hb.n := by omega
    have low : ∀ i, i < h1.n → i ≠ h.n + 3 + 1 → Heap.at hb i = Heap.at h1 i := fun i hi hne => fb.keep i hi (by omega)
    have b3 := (low _ (by omega) (by omega)).trans k3
    have b5 := (low _ (by omega) (by omega)).trans k5
    conv => whnf
    refine ⟨_, b3, ?_⟩
    conv => whnf
    refine ⟨_, b3, ?_⟩
    conv => whnf
    refine .ret (hmr t ht) rfl ?_
    conv => whnf
    have hlt := k6.lt
    have R1 : RowsL 2 hb out ((done.map fun t => q.of (dayOf s t)).map rowN) := k6.ext (by omega) fun i hi ho => low i hi (by have := (k7 i ho).1; omega)
    have hrl : ∀ r ∈ (done.map fun t => q.of (dayOf s t)).map rowN, r.length = 2 := by intro r hr; simp only [List.mem_map] at hr; obtain ⟨p, _, rfl⟩ := hr; rfl
    have hlim : ((done.map fun t => q.of (dayOf s t)).map rowN).length + 1 ≤ limit := by
      have h1 := truths_len hd s.looks
      rw [k2, List.length_append] at h1
      simp only [List.length_map]; unfold limit; omega
    have f8 : Foot none' h hb := k8.trans_up (N := h.n) (fb.mono fun i _ hi => by omega) (Nat.le_refl _)
    rcases k6.shape with rfl | ⟨o, m', rfl⟩
    all_goals
      refine ⟨_, b5, ?_⟩
      conv => whnf
      obtain ⟨rr, hrr, hR', hold, hn', hfresh⟩ := rows_append (row := rowN (q.of (dayOf s t))) (t := 150) (u := 150) R1 U150 U150 rfl S23 rfl hrl rfl hlim
      obtain ⟨rv, rreads, rupds, rfresh⟩ := rr
      have keep : ∀ i, i < h.n + 3 → Heap.at (after (hb.push .dead (.blk ((rowN (q.of (dayOf s t))).map .c))) ⟨rv, rreads, rupds, rfresh⟩) i = Heap.at hb i := fun i hi => hold i (by omega) (fun e => by have := (k7 i e).1; omega)
      have hne2 : outId rv ≠ some (h.n + 2) := fun e => absurd (hfresh _ e) (by omega)
      have hR2 := hR'.set (k := h.n + 2) hne2 (.blk [rv])
      rcases hR' with ⟨_, hh⟩ | ⟨o', ho', hb', hlt', hne'⟩
      · exact absurd hh (by simp)
      simp only at ho'
      subst ho'
      refine ⟨_, hrr, ?_⟩
      conv => whnf
      refine ⟨_, (keep (h.n + 2) (by omega)).trans b5, ?_⟩
      conv => whnf
      have hwl : ∀ i, W i → h.n + 3 + 2 ≤ i := fun i hi => (hw i hi).1
      refine ⟨⟨by rw [TMap.set_n]; exact Nat.le_trans (by omega) hn', fun i hi hna => (at_set_ne _ _ (i := i) (k := h.n + 2) (fun e => hna (by rw [e]; exact apart_lt hwl (by omega)))).trans (hold i (by omega) (fun e => hna (fun x => by
        have := k7 i e
        rcases x with x | x | x
        · exact this.2 x
        · omega
        · omega)))⟩, done ++ [t], rest, _, rfl, by rw [k2]; simp, (at_set_ne _ _ (i := h.n) (k := h.n + 2) (by omega)).trans ((keep _ (by omega)).trans b3), (at_set_ne _ _ (i := h.n + 1) (k := h.n + 2) (by omega)).trans ((keep _ (by omega)).trans ((low _ (by omega) (by omega)).trans k4)), at_set_self _ _ (i := h.n + 2) (Nat.lt_of_lt_of_le (by omega) hn'), ?_, ?_, ?_⟩
      · rw [List.map_append, List.map_append]
        exact hR2
      · intro o2 ho2
        have h1 := hfresh o2 ho2
        exact ⟨by omega, fun x => by have := hw o2 x; omega⟩
      · refine Foot.set (W := none') (k := h.n + 2) ⟨Nat.le_trans f8.n (Nat.le_trans (by omega) hn'), fun i hi _ => (hold i (by omega) (fun e => by have := (k7 i e).1; omega)).trans (f8.keep i hi (fun x => x))⟩ (.inr (by omega)) _
  · rintro h1 hn1 hc ⟨done, rest, out, k1, k2, k3, k4, k5, k6, k7, k8⟩
    have : rest = [] := by cases rest with | nil => rfl | cons a l => cases k1
    subst this
    rw [List.append_nil] at k2
    have hlen := truths_len hd s.looks
    unfold spanS
    rw [k2] at hlen ⊢
    clear k2
    conv => whnf
    rcases k6 with ⟨rfl, hd0⟩ | ⟨o, rfl, hb0, hlt, hne'⟩
    · have hd1 : done = [] := by simpa using hd0
      subst hd1
      refine ⟨_, k5, ?_⟩
      conv => whnf
      refine .pure [nilC] _ rfl join_none ⟨_, rfl⟩ ?_
      conv => whnf
      refine ⟨_, hc, ?_⟩
      conv => whnf
      exact ⟨rfl, Foot.set (W := none') (k := h.n + 3) k8 (.inr (by omega)) _⟩
    · cases done with
      | nil => exact absurd rfl hne'
      | cons t done =>
      refine ⟨_, k5, ?_⟩
      conv => whnf
      have hsl : SlOf 2 ((q.of (dayOf s t) :: done.map fun t => q.of (dayOf s t)).map rowN) (((q.of (dayOf s t) :: done.map fun t => q.of (dayOf s t)).map rowN).flatten) 0 ((done.map fun t => q.of (dayOf s t)).length + 1) := by
        have := sl_flat (sz := 2) (rows := (q.of (dayOf s t) :: done.map fun t => q.of (dayOf s t)).map rowN) (by intro r hr; simp only [List.mem_map] at hr; obtain ⟨p, _, rfl⟩ := hr; rfl)
        rw [List.length_map, List.length_cons] at this
        exact this
      have hj := join_ret hsl (by rw [List.length_map]; simp at hlen; omega)
      have hl2 : (((t :: done).map fun t => q.of (dayOf s t)).map rowN).length = (done.map fun t => q.of (dayOf s t)).length + 1 := by simp
      rw [← hl2] at hj
      refine CallW.msl hb0 hj rfl ?_
      conv => whnf
      refine ⟨_, k4, ?_⟩
      conv => whnf
      refine ⟨_, (at_set_ne _ _ (i := h.n + 3) (k := h.n + 1) (by omega)).trans hc, ?_⟩
      conv => whnf
      refine ⟨_, (at_set_ne _ _ (i := h.n + 1) (k := h.n + 3) (by omega)).trans (at_set_self _ _ (i := h.n + 1) (by omega)), ?_⟩
      conv => whnf
      exact ⟨rfl, Foot.set (W := none') (k := h.n + 3) (Foot.set (W := none') (k := h.n + 1) k8 (.inr (by omega)) _) (.inr (by omega)) _⟩
  · rintro e h1 _ _ hx
    exact hx.elim
  · rintro v h1 _ _ hx
    exact hx.elim
end Go.Ag
/- Layer 4: what is returned. -/
namespace Go.Ag
open Go.Proofs
set_option maxRecDepth 100000

def dP (v : SV) : CV := .cptr v.cells 0
def qP (q : Me) : CV := .cptr [q.cv] 0
def kP (k : Int) : CV := .cptr [I k] 0
/-- What is measured, over all truths. -/
def spanM (s : Sd) (q : Me) : Option (Int × Int) := spanS s fun t => q.of (dayOf s t)
def spanT (s : Sd) (k : Nat) : Option (Int × Int) := spanS s fun t => t.get k

theorem close_span {f : FuncId} {args : List CV} {o : Option (Int × Int)} (H : ∃ e h', CallOk Try.prog f (args.map .c) TMap.nil .no e h' .no ∧ e = endOf o) : CallOk Try.prog f (args.map .c) TMap.nil .no (endOf o) TMap.nil .no := by
  obtain ⟨e, h', hc, rfl⟩ := H
  have hval : ∃ c, (endOf o).val = .c c ∧ (endOf o).setVal (.c c) = endOf o := by
    cases o with
    | none => exact ⟨_, rfl, rfl⟩
    | some s => exact ⟨_, rfl, rfl⟩
  obtain ⟨c, h1, h2⟩ := hval
  have := callOk_close hc (fuel := 1) (r := (c, [])) (by rw [h1]; rfl)
  rw [h2] at this
  exact this

set_option maxHeartbeats 1000000 in
theorem find_measured {v : SV} {s : Sd} (hv : v.Is s) (hd : validB s = true) {q : Me} (hq : q.ok) : CallOk Try.prog 94 ([dP v, qP q].map .c) TMap.nil .no (endOf (spanM s q)) TMap.nil .no := by
  have hso := fun {m : Nat} {h : Heap} => spanOf_days hv hd hq (m := m) (h := h)
  obtain ⟨ty, x, e⟩ : ∃ ty x, q.cv = .iface ty x := by cases q <;> exact ⟨_, _, rfl⟩
  simp only [e, qP] at hso ⊢
  refine close_span ?_
  refine call_by (hm := false) Try.func94 rfl ?_
  conv => whnf
  refine mixed_by (hm := false) (by kernel_rfl) (by kernel_rfl) ?_
  conv => whnf
  refine ⟨_, rfl, ?_⟩
  conv => whnf
  obtain ⟨e1, h1, hc1, m, rfl, hm0, hm1, hI1, f1⟩ := know_ret hv hd (TMap.push .dead TMap.nil zero2)
  refine .heavy _ h1 (.inl hc1) ?_
  conv => whnf
  refine ⟨_, rfl, ?_⟩
  conv => whnf
  obtain ⟨e2, h2, hc2, he2, f2⟩ := hso hm1 hI1
  have hn1 : 1 ≤ h1.n := f1.n
  have hn2 := f2.n
  cases hsp : (spanM s q) with
  | none =>
    unfold spanM at hsp
    rw [hsp] at he2
    subst he2
    refine .heavy _ h2 (.inl hc2) ?_
    conv => whnf
    refine mOps_list (l' := []) (by kernel_rfl) ?_
    conv => whnf
    refine ⟨by kernel_rfl, heaps_nil (by kernel_rfl), ?_⟩
    intro ds
    conv => whnf
    rfl
  | some p =>
    unfold spanM at hsp
    rw [hsp] at he2
    subst he2
    have g0 : Heap.at h2 0 = zero2 := (f2.keep 0 (by omega) (by simp [none'])).trans ((f1.keep 0 (Nat.lt_succ_self 0) (by simp)).trans (at_push_self _ _))
    refine .heavy _ h2 (.inl hc2) ?_
    conv => whnf
    refine ⟨_, g0, ?_⟩
    conv => whnf
    refine ⟨by show 0 < h2.n; omega, ?_⟩
    conv => whnf
    refine ⟨by kernel_rfl, heaps_nil (by kernel_rfl), ?_⟩
    conv => whnf
    refine ⟨_, at_set_self _ _ (i := 0) (by omega), ?_⟩
    conv => whnf
    rfl

set_option maxHeartbeats 1000000 in
theorem find_takes {v : SV} {s : Sd} (hv : v.Is s) (hd : validB s = true) {k : Nat} (hk : k ≤ 2) : CallOk Try.prog 59 ([dP v, kP k].map .c) TMap.nil .no (endOf (spanT s k)) TMap.nil .no := by
  refine close_span ?_
  refine call_by (hm := false) Try.func59 rfl ?_
  conv => whnf
  refine mixed_by (hm := false) (by kernel_rfl) (by kernel_rfl) ?_
  conv => whnf
  refine ⟨_, rfl, ?_⟩
  conv => whnf
  obtain ⟨e1, h1, hc1, m, rfl, hm0, hm1, hI1, f1⟩ := know_ret hv hd (TMap.push .dead TMap.nil zero2)
  refine .heavy _ h1 (.inl hc1) ?_
  conv => whnf
  refine ⟨_, rfl, ?_⟩
  conv => whnf
  obtain ⟨e2, h2, hc2, he2, f2⟩ := spanOf_takes hv hd hk hm1 hI1
  have hn1 : 1 ≤ h1.n := f1.n
  have hn2 := f2.n
  cases hsp : (spanT s k) with
  | none =>
    unfold spanT at hsp
    rw [hsp] at he2
    subst he2
    refine .heavy _ h2 (.inl hc2) ?_
    conv => whnf
    refine mOps_list (l' := []) (by kernel_rfl) ?_
    conv => whnf
    refine ⟨by kernel_rfl, heaps_nil (by kernel_rfl), ?_⟩
    intro ds
    conv => whnf
    rfl
  | some p =>
    unfold spanT at hsp
    rw [hsp] at he2
    subst he2
    have g0 : Heap.at h2 0 = zero2 := (f2.keep 0 (by omega) (by simp [none'])).trans ((f1.keep 0 (Nat.lt_succ_self 0) (by simp)).trans (at_push_self _ _))
    refine .heavy _ h2 (.inl hc2) ?_
    conv => whnf
    refine ⟨_, g0, ?_⟩
    conv => whnf
    refine ⟨by show 0 < h2.n; omega, ?_⟩
    conv => whnf
    refine ⟨by kernel_rfl, heaps_nil (by kernel_rfl), ?_⟩
    conv => whnf
    refine ⟨_, at_set_self _ _ (i := 0) (by omega), ?_⟩
    conv => whnf
    rfl


/-! A panic is recovered. -/
theorem caught_no (id : Nat) (h : Heap) : CallOk Try.prog 98 [.ptr id 0] h .no (.ret (.c (.tuple []))) h .no := by
  suffices H : ∃ e h' p', CallOk Try.prog 98 [.ptr id 0] h .no e h' p' ∧ (e = .ret (.c (.tuple [])) ∧ h' = h ∧ p' = .no) by
    obtain ⟨e, h', p', h1, rfl, rfl, rfl⟩ := H
    exact h1
  refine call_byP (hm := false) Try.func98 rfl ?_
  conv => whnf
  exact ⟨rfl, rfl, rfl⟩
theorem caught_live {id : Nat} {h : Heap} {c c0 : Int} (hb : Heap.at h id = .blk [.c (I c0)]) : CallOk Try.prog 98 [.ptr id 0] h (.live (.c (.iface 32 (I c)))) (.ret (.c (.tuple []))) (h.set .dead id (.blk [.c (I 10)])) .taken := by
  suffices H : ∃ e h' p', CallOk Try.prog 98 [.ptr id 0] h (.live (.c (.iface 32 (I c)))) e h' p' ∧ (e = .ret (.c (.tuple [])) ∧ h' = h.set .dead id (.blk [.c (I 10)]) ∧ p' = .taken) by
    obtain ⟨e, h', p', h1, rfl, rfl, rfl⟩ := H
    exact h1
  refine call_byP (hm := false) Try.func98 rfl ?_
  conv => whnf
  refine ⟨_, hb, ?_⟩
  conv => whnf
  exact ⟨rfl, rfl, rfl⟩

def toldV (o : Option (Int × Int)) : CV := match o with
  | some s => .tuple [.agg [I s.1, I s.2], I 0]
  | none => .tuple [.agg [I 0, I 0], I 10]
theorem told_ret {f : FuncId} {a b : CV} {o : Option (Int × Int)} (hf : f = 94 ∨ f = 59) (hc : CallOk Try.prog f ([a, b].map .c) TMap.nil .no (endOf o) TMap.nil .no) : Ret Try.prog 58 [.func (.func f) [] [a, b]] (toldV o) := by
  rcases hf with rfl | rfl
  all_goals
    refine ret_by (hm := true) Try.func58 rfl ?_
    conv => whnf
    cases o with
    | none =>
      refine .pure [a, b] _ rfl hc ⟨_, rfl⟩ ?_
      conv => whnf
      refine .mk _ _ _ (caught_live (c := 10) (c0 := 0) rfl) ?_
      conv => whnf
      exact .val
    | some s =>
      refine .pure [a, b] _ rfl hc ⟨_, rfl⟩ ?_
      conv => whnf
      refine .mk _ _ _ (caught_no _ _) ?_
      conv => whnf
      exact .val

theorem measured_all {v : SV} {s : Sd} (hv : v.Is s) (hd : validB s = true) {q : Me} (hq : q.ok) : Ret Try.prog 51 [v.cv, q.cv] (toldV (spanM s q)) := by
  have hc := told_ret (.inl rfl) (find_measured hv hd hq)
  obtain ⟨ty, x, e⟩ : ∃ ty x, q.cv = .iface ty x := by cases q <;> exact ⟨_, _, rfl⟩
  simp only [e, qP] at hc ⊢
  refine ret_by (hm := true) Try.func51 rfl ?_
  conv => whnf
  cases hsp : spanM s q with
  | none =>
    rw [hsp] at hc
    refine .snapped 20 _ _ _ _ rfl hc rfl ?_
    conv => whnf
    exact .val
  | some s =>
    rw [hsp] at hc
    refine .snapped 20 _ _ _ _ rfl hc rfl ?_
    conv => whnf
    exact .val

/-- What is returned of a span. -/
def spR (d : Sd) (ok : Bool) (o : Option (Int × Int)) : (Int × Int) × Int :=
  if validB d = false then ((0, 0), 1) else if ok = false then ((0, 0), 2) else match o with
    | some s => (s, 0)
    | none => ((0, 0), 10)
def spV (r : (Int × Int) × Int) : CV := .tuple [.agg [I r.1.1, I r.1.2], I r.2]

theorem inB_nat {n : Int} {k : Nat} (h : inB n 0 ((k : Int) - 1) = true) : ∃ j : Nat, n = j ∧ j < k := by
  simp only [inB, Bool.and_eq_true, decide_eq_true_eq] at h
  exact ⟨n.toNat, by omega, by omega⟩

theorem done_ret {v : SV} {s : Sd} (hv : v.Is s) (n : Int) : Ret Try.prog 14 [v.cv, I n] (spV (spR s (inB n 0 (s.sheep.length - 1)) (spanM s (.doneAt n.toNat)))) := by
  have e1 := hv.kn; have e2 := hv.short
  rw [← e1]
  refine ret_by (hm := true) Try.func14 rfl ?_
  conv => whnf
  refine .ret (valid_ret hv) rfl ?_
  conv => whnf
  unfold spR
  cases h1 : validB s
  · conv => whnf
    exact .val
  conv => whnf
  refine ⟨(v.kn : Int) - 1, by rw [wrap_eq (by omega) (by omega)], ?_⟩
  conv => whnf
  refine .ret (within_ret _ _ _) rfl ?_
  conv => whnf
  cases h2 : inB n 0 (v.kn - 1)
  · conv => whnf
    exact .val
  obtain ⟨k, rfl, hk⟩ := inB_nat h2
  have hc := measured_all hv h1 (q := .doneAt k) trivial
  simp only [Bool.true_eq_false, if_false, Int.toNat_natCast]
  conv => whnf
  cases hsp : spanM s (.doneAt k) with
  | none =>
    rw [hsp] at hc
    refine .ret hc rfl ?_
    conv => whnf
    exact .val
  | some s =>
    rw [hsp] at hc
    refine .ret hc rfl ?_
    conv => whnf
    exact .val

theorem count_ret {v : SV} {s : Sd} (hv : v.Is s) (n : Int) : Ret Try.prog 16 [v.cv, I n] (spV (spR s (inB n 0 999) (spanM s (.doneBy n)))) := by
  refine ret_by (hm := true) Try.func16 rfl ?_
  conv => whnf
  refine .ret (valid_ret hv) rfl ?_
  conv => whnf
  unfold spR
  cases h1 : validB s
  · conv => whnf
    exact .val
  conv => whnf
  refine .ret (within_ret _ _ _) rfl ?_
  conv => whnf
  cases h2 : inB n 0 999
  · conv => whnf
    exact .val
  have hc := measured_all hv h1 (q := .doneBy n) trivial
  simp only [Bool.true_eq_false, if_false]
  conv => whnf
  cases hsp : spanM s (.doneBy n) with
  | none =>
    rw [hsp] at hc
    refine .ret hc rfl ?_
    conv => whnf
    exact .val
  | some s =>
    rw [hsp] at hc
    refine .ret hc rfl ?_
    conv => whnf
    exact .val

theorem takes_ret {v : SV} {s : Sd} (hv : v.Is s) (n : Int) : Ret Try.prog 18 [v.cv, I n] (spV (spR s (inB n 0 2) (spanT s n.toNat))) := by
  refine ret_by (hm := true) Try.func18 rfl ?_
  conv => whnf
  refine .ret (valid_ret hv) rfl ?_
  conv => whnf
  unfold spR
  cases h1 : validB s
  · conv => whnf
    exact .val
  conv => whnf
  refine .ret (isKind_ret _) rfl ?_
  conv => whnf
  cases h2 : inB n 0 2
  · conv => whnf
    exact .val
  obtain ⟨k, rfl, hk⟩ := inB_nat (n := n) (k := 3) h2
  have hc := told_ret (.inr rfl) (find_takes hv h1 (k := k) (by omega))
  simp only [Bool.true_eq_false, if_false, Int.toNat_natCast]
  conv => whnf
  cases hsp : spanT s k with
  | none =>
    rw [hsp] at hc
    refine .snapped 20 _ _ _ _ rfl hc rfl ?_
    conv => whnf
    exact .val
  | some s =>
    rw [hsp] at hc
    refine .snapped 20 _ _ _ _ rfl hc rfl ?_
    conv => whnf
    exact .val

theorem begun_all {v : SV} {s : Sd} (hv : v.Is s) (n : Int) : Ret Try.prog 20 [v.cv, I n] (spV (spR s (inB n 0 (s.runs.length - 1)) (spanM s (.begun n n)))) := by
  refine ret_by (hm := true) Try.func20 rfl ?_
  conv => whnf
  refine .ret (valid_ret hv) rfl ?_
  conv => whnf
  unfold spR
  cases h1 : validB s
  · conv => whnf
    exact .val
  conv => whnf
  refine .ret (isRun_ret hv _) rfl ?_
  conv => whnf
  cases h2 : inB n 0 (s.runs.length - 1)
  · conv => whnf
    exact .val
  have hc := measured_all hv h1 (q := .begun n n) trivial
  simp only [Bool.true_eq_false, if_false]
  conv => whnf
  cases hsp : spanM s (.begun n n) with
  | none =>
    rw [hsp] at hc
    refine .ret hc rfl ?_
    conv => whnf
    exact .val
  | some s =>
    rw [hsp] at hc
    refine .ret hc rfl ?_
    conv => whnf
    exact .val
end Go.Ag
/- Layer 4: how long after the bell, and whether a run is late. -/
namespace Go.Ag
open Go.Proofs
set_option maxRecDepth 100000

def bellOf (s : Sd) (k : Nat) : Int := match s.runs[k]? with
  | some r => r.bell
  | none => 0
def startOf (s : Sd) (k : Nat) : Int := match s.runs[k]? with
  | some r => r.start
  | none => 0
theorem valid_run {s : Sd} (hd : validB s = true) {k : Nat} {r : Ru} (hr : s.runs[k]? = some r) : 0 ≤ r.start ∧ r.start < r.bell ∧ r.bell ≤ 600 := by
  simp only [validB, Bool.and_eq_true] at hd
  exact runsOk_all 0 _ (Int.le_refl _) hd.2.1.2 r (List.mem_of_getElem? hr)

theorem over_ret {v : SV} {s : Sd} (hv : v.Is s) (n : Int) : Ret Try.prog 22 [v.cv, I n] (spV (spR s (inB n 0 (s.runs.length - 1)) (spanM s (.past n n (bellOf s n.toNat))))) := by
  have e1 := hv.rn; have e2 := hv.short
  refine ret_by (hm := true) Try.func22 rfl ?_
  conv => whnf
  refine .ret (valid_ret hv) rfl ?_
  conv => whnf
  unfold spR
  cases h1 : validB s
  · conv => whnf
    exact .val
  conv => whnf
  refine .ret (isRun_ret hv _) rfl ?_
  conv => whnf
  cases h2 : inB n 0 (s.runs.length - 1)
  · conv => whnf
    exact .val
  obtain ⟨k, rfl, hk⟩ := inB_nat h2
  obtain ⟨r, hr⟩ := get_some hk
  have hvr := valid_run h1 hr
  have hb : bellOf s (k : Int).toNat = r.bell := by rw [Int.toNat_natCast]; unfold bellOf; rw [hr]
  have hc := measured_all hv h1 (q := .past k k r.bell) ⟨by omega, by omega⟩
  simp only [Bool.true_eq_false, if_false, hb]
  conv => whnf
  refine draw_by (hm := true) (by kernel_rfl) (by kernel_rfl) ?_
  conv => whnf
  refine ⟨⟨by omega, by omega⟩, ?_⟩
  conv => whnf
  refine ⟨_, hv.run1 hr, ?_⟩
  conv => whnf
  cases hsp : spanM s (.past k k r.bell) with
  | none =>
    rw [hsp] at hc
    refine .ret hc rfl ?_
    conv => whnf
    refine ⟨(show 1 < 2 by decide), ?_⟩
    conv => whnf
    refine ⟨by kernel_rfl, ?_⟩
    conv => whnf
    exact .val
  | some s =>
    rw [hsp] at hc
    refine .ret hc rfl ?_
    conv => whnf
    refine ⟨(show 1 < 2 by decide), ?_⟩
    conv => whnf
    refine ⟨by kernel_rfl, ?_⟩
    conv => whnf
    exact .val

theorem howSure_ret (a b : Bool) : Ret Try.prog 68 [B a, B b] (I (if a then 2 else if b then 1 else 0)) := by
  cases a
  · cases b
    · refine ret_by (hm := true) Try.func68 rfl ?_
      conv => whnf
      exact .val
    · refine ret_by (hm := true) Try.func68 rfl ?_
      conv => whnf
      exact .val
  · refine ret_by (hm := true) Try.func68 rfl ?_
    conv => whnf
    exact .val

/-- Whether it is late. -/
def sureOf (p : Int × Int) : Int := if decide (p.1 > 0) = true then 2 else if decide (p.2 > 0) = true then 1 else 0
def lateR (s : Sd) (n : Int) : Int × Int :=
  if validB s = false then (0, 1) else if (n == 0 || !inB n 0 (s.runs.length - 1)) = true then (0, 2) else match spanM s (.past 0 (n - 1) (startOf s n.toNat)) with
    | some p => (sureOf p, 0)
    | none => (0, 10)
theorem late_ret {v : SV} {s : Sd} (hv : v.Is s) (n : Int) : Ret Try.prog 24 [v.cv, I n] (.tuple [I (lateR s n).1, I (lateR s n).2]) := by
  have e1 := hv.rn; have e2 := hv.short
  refine ret_by (hm := true) Try.func24 rfl ?_
  conv => whnf
  refine .ret (valid_ret hv) rfl ?_
  conv => whnf
  unfold lateR
  cases h1 : validB s
  · conv => whnf
    exact .val
  conv => whnf
  cases h0 : (n == 0)
  case true =>
    conv => whnf
    exact .val
  conv => whnf
  refine .ret (isRun_ret hv _) rfl ?_
  conv => whnf
  cases h2 : inB n 0 (s.runs.length - 1)
  · conv => whnf
    exact .val
  obtain ⟨k, rfl, hk⟩ := inB_nat h2
  obtain ⟨r, hr⟩ := get_some hk
  have hvr := valid_run h1 hr
  have hk0 : (k : Int) ≠ 0 := by simpa using h0
  have hb : startOf s (k : Int).toNat = r.start := by rw [Int.toNat_natCast]; unfold startOf; rw [hr]
  have hc := measured_all hv h1 (q := .past 0 (k - 1) r.start) ⟨by omega, by omega⟩
  simp only [Bool.true_eq_false, if_false, Bool.not_true, Bool.or_self, Bool.false_eq_true, hb]
  conv => whnf
  refine draw_by (hm := true) (by kernel_rfl) (by kernel_rfl) ?_
  conv => whnf
  refine ⟨(k : Int) - 1, by rw [wrap_eq (by omega) (by omega)], ?_⟩
  conv => whnf
  refine ⟨⟨by omega, by omega⟩, ?_⟩
  conv => whnf
  refine ⟨_, hv.run0 hr, ?_⟩
  conv => whnf
  cases hsp : spanM s (.past 0 (k - 1) r.start) with
  | none =>
    rw [hsp] at hc
    refine .ret hc rfl ?_
    conv => whnf
    refine ⟨(show 1 < 2 by decide), ?_⟩
    conv => whnf
    refine ⟨by kernel_rfl, ?_⟩
    conv => whnf
    exact .val
  | some p =>
    rw [hsp] at hc
    refine .ret hc rfl ?_
    conv => whnf
    refine ⟨(show 1 < 2 by decide), ?_⟩
    conv => whnf
    refine ⟨by kernel_rfl, ?_⟩
    conv => whnf
    refine .ret (howSure_ret (decide (p.1 > 0)) (decide (p.2 > 0))) rfl ?_
    conv => whnf
    exact .val
end Go.Ag
