/- Contracts of functions of layer 5: first, fewest strays, suspects, spans; what False, Suspects, Clash, Together, Shorn, Pen, Stray return. No conditions. -/
import Derived.Test.YtnmiompeofbagaaTyB
/- Layer 5: the first set that suits. -/
namespace Go.Ag
open Go.Proofs
set_option maxRecDepth 100000

theorem Foot.high {W : Nat → Prop} {N : Nat} {h h' : Heap} (f : Foot (fun i => W i ∨ i = N ∨ i = N + 1) h h') (hw : ∀ i, W i → N + 2 ≤ i) : Foot (fun i => N ≤ i) h h' := f.mono fun i _ hi => by
  rcases hi with hi | hi | hi
  · have := hw i hi; omega
  · omega
  · omega
theorem apart_lt {W : Nat → Prop} {N : Nat} (hw : ∀ i, W i → N + 2 ≤ i) {i : Nat} (hi : i < N) : apart W N i := fun x => by
  rcases x with x | x | x
  · have := hw i x; omega
  · omega
  · omega
def firstC (err : Int) (o : Option Nat) : AEnd := match o with
  | some y => .ret (.c (chV y))
  | none => .panic (errV err)

set_option maxHeartbeats 1000000 in
theorem first_possible {v : TV} {err : Int} {it : CV} {ys : List Nat} (hit : IterA Try.prog (fun _ => True) (.c it) (chs ys)) {p : Nat → Bool} {t : Td} {m : Nat} {h : Heap} (hm : m < h.n) (hI : KMap t (Heap.at h m))
    (hs : ∀ y, y ∈ ys → ∀ h1, Foot (fun i => i = m) h h1 → KMap t (Heap.at h1 m) → ∃ e h2, CallOk Try.prog 76 [knAV v m, .c (chV y)] h1 .no e h2 .no ∧ (e = .ret (.c (B (p y))) ∧ Foot (fun i => i = m) h1 h2 ∧ KMap t (Heap.at h2 m))) :
    ∃ e h', CallOk Try.prog 74 [.c it, .agg [.func (.func 76) [knAV v m] [], .c (I err)]] h .no e h' .no ∧ (e = firstC err (ys.find? p) ∧ Foot (fun i => i = m) h h' ∧ KMap t (Heap.at h' m)) := by
  refine call_by (hm := false) Try.func74 rfl ?_
  conv => whnf
  refine range_nA (hm := false) (h.n + 2) rfl (ps := [7]) rfl rfl hit
    (I := fun _ l h1 => Heap.at h1 h.n = .blk [.func (.func 76) [knAV v m] [], .c (I err)] ∧ Heap.at h1 (h.n + 1) = .blk [.c (I 0)] ∧ Foot (fun i => i = m) h h1 ∧ KMap t (Heap.at h1 m) ∧ ∃ done rest, l = chs rest ∧ ys = done ++ rest ∧ ∀ y ∈ done, p y = false)
    (E := fun _ e h1 => e = .ret ∧ ∃ y, ys.find? p = some y ∧ Heap.at h1 (h.n + 1) = .blk [.c (I y)] ∧ Foot (fun i => i = m) h h1 ∧ KMap t (Heap.at h1 m)) (X := fun _ _ _ => False) ?_ ?_ ?_ ?_ ?_ ?_ ?_ ?_ ?_ ?_ ?_ ?_
  · rintro W l h1 h2 ⟨k1, k2, k3, k4, k5⟩ hn hw ff0
    have ff := ff0.high hw
    exact ⟨(ff.below hn (by omega)).trans k1, (ff.below hn (by omega)).trans k2, k3.trans_up ff (by omega), kMap_eq (ff.below hn (by omega)) k4, k5⟩
  · rintro W e h1 h2 ⟨k1, y, k2, k3, k4, k5⟩ hn hw ff0
    have ff := ff0.high hw
    exact ⟨k1, y, k2, (ff.below hn (by omega)).trans k3, k4.trans_up ff (by omega), kMap_eq (ff.below hn (by omega)) k5⟩
  · rintro _ _ _ _ hx
    exact hx.elim
  · rintro _ _ _ _ hx _
    exact hx
  · rintro _ _ _ _ hx _
    exact hx
  · rintro _ _ _ _ hx _
    exact hx
  · intro _ _ _ _
    trivial
  · refine ⟨(at_push_lt _ _ (by rw [push_n]; omega)).trans (at_push_self _ _), at_push_self _ _, ((Foot.refl _ _).push _).push _, kMap_eq ((at_push_lt _ _ (by rw [push_n]; omega)).trans (at_push_lt _ _ hm)) hI, [], ys, rfl, rfl, by simp⟩
  · rintro W y l h1 hn hw ⟨k1, k2, k3, k4, done, rest, e1, e2, e3⟩
    cases rest with
    | nil => cases e1
    | cons y0 rest =>
    obtain ⟨rfl, rfl⟩ := List.cons.inj e1
    refine ⟨rfl, ?_⟩
    conv => whnf
    refine ⟨_, at_push_self _ _, ?_⟩
    conv => whnf
    refine ⟨Foot.set ((Foot.refl _ _).push _) (.inr (Nat.le_refl _)) _, fun hb fb hbn => ?_⟩
    have n1 : h.n + 2 + 2 ≤ h1.n := hn
    have hbn' : hb.n = h1.n + 1 := by rw [hbn, new_n]
    have b1 : Heap.at hb h.n = .blk [.func (.func 76) [knAV v m] [], .c (I err)] := (fb.keep h.n (by rw [new_n]; omega) (by omega)).trans ((at_old _ _ _ (by omega)).trans k1)
    have b2 : Heap.at hb (h.n + 1) = .blk [.c (I 0)] := (fb.keep (h.n + 1) (by rw [new_n]; omega) (by omega)).trans ((at_old _ _ _ (by omega)).trans k2)
    have bt : Heap.at hb h1.n = .blk [.c (I y0)] := (fb.keep h1.n (by rw [new_n]; omega) (by omega)).trans (at_new _ _ _)
    have b4 : KMap t (Heap.at hb m) := kMap_eq ((fb.keep m (by rw [new_n]; omega) (by omega)).trans (at_old _ _ _ (by omega))) k4
    have b3 : Foot (fun i => i = m) h hb := k3.trans_up (N := h.n) (Foot.trans ((Foot.set ((Foot.refl _ _).push _) (.inr (Nat.le_refl _)) _)) (fb.mono fun i _ hi => by omega)) (Nat.le_refl _)
    obtain ⟨e, h2, hc, rfl, f2, i2⟩ := hs y0 (by rw [e2]; simp) hb b3 b4
    have c1 := (f2.keep (h.n + 1) (by omega) (by omega)).trans b2
    have c0 := (f2.keep h.n (by omega) (by omega)).trans b1
    have ct := (f2.keep h1.n (by omega) (by omega)).trans bt
    have hn2 := f2.n
    conv => whnf
    refine ⟨_, b1, ?_⟩
    conv => whnf
    refine ⟨_, bt, ?_⟩
    conv => whnf
    refine .inl _ h2 .no hc ?_
    conv => whnf
    have fend : Foot (apart W (h.n + 2)) hb h2 := f2.mono fun i _ hi => apart_lt (fun i hi => (hw i hi).1) (by omega)
    cases hp : p y0
    · conv => whnf
      exact ⟨fend, c0, c1, b3.trans f2, i2, done ++ [y0], rest, rfl, by rw [e2]; simp, fun z hz => by
        rcases List.mem_append.1 hz with h | h
        · exact e3 z h
        · rw [List.mem_singleton] at h; rw [h]; exact hp⟩
    · conv => whnf
      refine ⟨_, ct, ?_⟩
      conv => whnf
      refine ⟨_, c1, ?_⟩
      conv => whnf
      refine ⟨Foot.set (W := apart W (h.n + 2)) (k := h.n + 1) fend (.inl (apart_lt (fun i hi => (hw i hi).1) (by omega))) _, rfl, y0, ?_, at_set_self _ _ (i := h.n + 1) (by omega), Foot.set (W := fun i => i = m) (k := h.n + 1) (b3.trans f2) (.inr (by omega)) _, kMap_eq (at_set_ne _ _ (i := m) (k := h.n + 1) (by omega)) i2⟩
      rw [e2, List.find?_append]
      have : done.find? p = none := List.find?_eq_none.2 fun x hx => by rw [e3 x hx]; simp
      rw [this]
      simp [hp]
  · rintro h1 hn hc ⟨k1, k2, k3, k4, done, rest, e1, e2, e3⟩
    have : rest = [] := by cases rest with | nil => rfl | cons a l => cases e1
    subst this
    have hnone : ys.find? p = none := List.find?_eq_none.2 fun x hx => by rw [e2, List.append_nil] at hx; rw [e3 x hx]; simp
    rw [hnone]
    conv => whnf
    refine ⟨_, k1, ?_⟩
    conv => whnf
    refine ⟨_, hc, ?_⟩
    conv => whnf
    exact ⟨rfl, Foot.set (W := fun i => i = m) (k := h.n + 2) k3 (.inr (by omega)) _, kMap_eq (at_set_ne _ _ (by omega)) k4⟩
  · rintro e h1 hn hc ⟨rfl, y, k2, k3, k4, k5⟩ _
    rw [k2]
    conv => whnf
    refine ⟨_, hc, ?_⟩
    conv => whnf
    refine ⟨_, (at_set_ne _ _ (i := h.n + 1) (k := h.n + 2) (by omega)).trans k3, ?_⟩
    conv => whnf
    exact ⟨rfl, Foot.set (W := fun i => i = m) (k := h.n + 2) k4 (.inr (by omega)) _, kMap_eq (at_set_ne _ _ (by omega)) k5⟩
  · rintro x h1 _ _ hx
    exact hx.elim

set_option maxHeartbeats 1000000 in
theorem first_clash {a : Nat} {err : Int} {it : CV} {ys : List Nat} (hit : IterA Try.prog (fun _ => True) (.c it) (chs ys)) {p : Nat → Bool} {t : Td} {m : Nat} {h : Heap} (hm : m < h.n) (hI : KMap t (Heap.at h m))
    (hs : ∀ y, y ∈ ys → ∀ h1, Foot (fun i => i = m) h h1 → KMap t (Heap.at h1 m) → ∃ e h2, CallOk Try.prog 85 [.c (chV y), .ptr a 0] h1 .no e h2 .no ∧ (e = .ret (.c (B (p y))) ∧ Foot (fun i => i = m) h1 h2 ∧ KMap t (Heap.at h2 m))) :
    ∃ e h', CallOk Try.prog 74 [.c it, .agg [.func (.func 85) [] [.ptr a 0], .c (I err)]] h .no e h' .no ∧ (e = firstC err (ys.find? p) ∧ Foot (fun i => i = m) h h' ∧ KMap t (Heap.at h' m)) := by
  refine call_by (hm := false) Try.func74 rfl ?_
  conv => whnf
  refine range_nA (hm := false) (h.n + 2) rfl (ps := [7]) rfl rfl hit
    (I := fun _ l h1 => Heap.at h1 h.n = .blk [.func (.func 85) [] [.ptr a 0], .c (I err)] ∧ Heap.at h1 (h.n + 1) = .blk [.c (I 0)] ∧ Foot (fun i => i = m) h h1 ∧ KMap t (Heap.at h1 m) ∧ ∃ done rest, l = chs rest ∧ ys = done ++ rest ∧ ∀ y ∈ done, p y = false)
    (E := fun _ e h1 => e = .ret ∧ ∃ y, ys.find? p = some y ∧ Heap.at h1 (h.n + 1) = .blk [.c (I y)] ∧ Foot (fun i => i = m) h h1 ∧ KMap t (Heap.at h1 m)) (X := fun _ _ _ => False) ?_ ?_ ?_ ?_ ?_ ?_ ?_ ?_ ?_ ?_ ?_ ?_
  · rintro W l h1 h2 ⟨k1, k2, k3, k4, k5⟩ hn hw ff0
    have ff := ff0.high hw
    exact ⟨(ff.below hn (by omega)).trans k1, (ff.below hn (by omega)).trans k2, k3.trans_up ff (by omega), kMap_eq (ff.below hn (by omega)) k4, k5⟩
  · rintro W e h1 h2 ⟨k1, y, k2, k3, k4, k5⟩ hn hw ff0
    have ff := ff0.high hw
    exact ⟨k1, y, k2, (ff.below hn (by omega)).trans k3, k4.trans_up ff (by omega), kMap_eq (ff.below hn (by omega)) k5⟩
  · rintro _ _ _ _ hx
    exact hx.elim
  · rintro _ _ _ _ hx _
    exact hx
  · rintro _ _ _ _ hx _
    exact hx
  · rintro _ _ _ _ hx _
    exact hx
  · intro _ _ _ _
    trivial
  · refine ⟨(at_push_lt _ _ (by rw [push_n]; omega)).trans (at_push_self _ _), at_push_self _ _, ((Foot.refl _ _).push _).push _, kMap_eq ((at_push_lt _ _ (by rw [push_n]; omega)).trans (at_push_lt _ _ hm)) hI, [], ys, rfl, rfl, by simp⟩
  · rintro W y l h1 hn hw ⟨k1, k2, k3, k4, done, rest, e1, e2, e3⟩
    cases rest with
    | nil => cases e1
    | cons y0 rest =>
    obtain ⟨rfl, rfl⟩ := List.cons.inj e1
    refine ⟨rfl, ?_⟩
    conv => whnf
    refine ⟨_, at_push_self _ _, ?_⟩
    conv => whnf
    refine ⟨Foot.set ((Foot.refl _ _).push _) (.inr (Nat.le_refl _)) _, fun hb fb hbn => ?_⟩
    have n1 : h.n + 2 + 2 ≤ h1.n := hn
    have hbn' : hb.n = h1.n + 1 := by rw [hbn, new_n]
    have b1 : Heap.at hb h.n = .blk [.func (.func 85) [] [.ptr a 0], .c (I err)] := (fb.keep h.n (by rw [new_n]; omega) (by omega)).trans ((at_old _ _ _ (by omega)).trans k1)
    have b2 : Heap.at hb (h.n + 1) = .blk [.c (I 0)] := (fb.keep (h.n + 1) (by rw [new_n]; omega) (by omega)).trans ((at_old _ _ _ (by omega)).trans k2)
    have bt : Heap.at hb h1.n = .blk [.c (I y0)] := (fb.keep h1.n (by rw [new_n]; omega) (by omega)).trans (at_new _ _ _)
    have b4 : KMap t (Heap.at hb m) := kMap_eq ((fb.keep m (by rw [new_n]; omega) (by omega)).trans (at_old _ _ _ (by omega))) k4
    have b3 : Foot (fun i => i = m) h hb := k3.trans_up (N := h.n) (Foot.trans ((Foot.set ((Foot.refl _ _).push _) (.inr (Nat.le_refl _)) _)) (fb.mono fun i _ hi => by omega)) (Nat.le_refl _)
    obtain ⟨e, h2, hc, rfl, f2, i2⟩ := hs y0 (by rw [e2]; simp) hb b3 b4
    have c1 := (f2.keep (h.n + 1) (by omega) (by omega)).trans b2
    have c0 := (f2.keep h.n (by omega) (by omega)).trans b1
    have ct := (f2.keep h1.n (by omega) (by omega)).trans bt
    have hn2 := f2.n
    conv => whnf
    refine ⟨_, b1, ?_⟩
    conv => whnf
    refine ⟨_, bt, ?_⟩
    conv => whnf
    refine .inl _ h2 .no hc ?_
    conv => whnf
    have fend : Foot (apart W (h.n + 2)) hb h2 := f2.mono fun i _ hi => apart_lt (fun i hi => (hw i hi).1) (by omega)
    cases hp : p y0
    · conv => whnf
      exact ⟨fend, c0, c1, b3.trans f2, i2, done ++ [y0], rest, rfl, by rw [e2]; simp, fun z hz => by
        rcases List.mem_append.1 hz with h | h
        · exact e3 z h
        · rw [List.mem_singleton] at h; rw [h]; exact hp⟩
    · conv => whnf
      refine ⟨_, ct, ?_⟩
      conv => whnf
      refine ⟨_, c1, ?_⟩
      conv => whnf
      refine ⟨Foot.set (W := apart W (h.n + 2)) (k := h.n + 1) fend (.inl (apart_lt (fun i hi => (hw i hi).1) (by omega))) _, rfl, y0, ?_, at_set_self _ _ (i := h.n + 1) (by omega), Foot.set (W := fun i => i = m) (k := h.n + 1) (b3.trans f2) (.inr (by omega)) _, kMap_eq (at_set_ne _ _ (i := m) (k := h.n + 1) (by omega)) i2⟩
      rw [e2, List.find?_append]
      have : done.find? p = none := List.find?_eq_none.2 fun x hx => by rw [e3 x hx]; simp
      rw [this]
      simp [hp]
  · rintro h1 hn hc ⟨k1, k2, k3, k4, done, rest, e1, e2, e3⟩
    have : rest = [] := by cases rest with | nil => rfl | cons a l => cases e1
    subst this
    have hnone : ys.find? p = none := List.find?_eq_none.2 fun x hx => by rw [e2, List.append_nil] at hx; rw [e3 x hx]; simp
    rw [hnone]
    conv => whnf
    refine ⟨_, k1, ?_⟩
    conv => whnf
    refine ⟨_, hc, ?_⟩
    conv => whnf
    exact ⟨rfl, Foot.set (W := fun i => i = m) (k := h.n + 2) k3 (.inr (by omega)) _, kMap_eq (at_set_ne _ _ (by omega)) k4⟩
  · rintro e h1 hn hc ⟨rfl, y, k2, k3, k4, k5⟩ _
    rw [k2]
    conv => whnf
    refine ⟨_, hc, ?_⟩
    conv => whnf
    refine ⟨_, (at_set_ne _ _ (i := h.n + 1) (k := h.n + 2) (by omega)).trans k3, ?_⟩
    conv => whnf
    exact ⟨rfl, Foot.set (W := fun i => i = m) (k := h.n + 2) k4 (.inr (by omega)) _, kMap_eq (at_set_ne _ _ (by omega)) k5⟩
  · rintro x h1 _ _ hx
    exact hx.elim
end Go.Ag
/- Layer 5: the fewest calls. -/
namespace Go.Ag
open Go.Proofs
set_option maxRecDepth 100000

def falseS (t : Td) : Option Nat := (bySize t.calls.length).find? (canL t)
def clashS (t : Td) : Option Nat := (bySize t.calls.length).find? fun s => !canB (lookF t s)
theorem mem_lt {t : Td} (hd : validT t = true) {s : Nat} (h : s ∈ bySize t.calls.length) : s < 256 := by
  have h5 := valid_nums hd
  have := (mem_bySize.1 h).1
  have := Nat.pow_le_pow_right (n := 2) (by omega) h5.2.2.2.2.2
  omega

set_option maxHeartbeats 1000000 in
theorem fewest_ret {v : TV} {t : Td} (hv : v.Is t) (hd : validT t = true) {m : Nat} {h : Heap} (hm : m < h.n) (hI : KMap t (Heap.at h m)) :
    ∃ e h', CallOk Try.prog 43 [knAV v m] h .no e h' .no ∧ (e = firstC 10 (falseS t) ∧ Foot (fun i => i = m) h h' ∧ KMap t (Heap.at h' m)) := by
  have h5 := valid_nums hd
  have e1 := hv.cn
  refine call_by (hm := false) Try.func43 rfl ?_
  conv => whnf
  generalize hH : TMap.push AB.dead (TMap.push AB.dead h _) _ = H
  have h0n : H.n = h.n + 2 := by rw [← hH]; rfl
  have b0 : Heap.at H h.n = knBlk v m := by rw [← hH]; exact (at_push_lt _ _ (by simp only [push_n]; omega)).trans (at_push_self _ _)
  have b1 : Heap.at H (h.n + 1) = .blk [.c (I 0)] := by rw [← hH]; exact at_push_self _ _
  have f0 : Foot (fun i => i = m) h H := by rw [← hH]; exact ((Foot.refl _ _).push _).push _
  have i0 : KMap t (Heap.at H m) := kMap_eq (by rw [← hH]; exact (at_push_lt _ _ (by simp only [push_n]; omega)).trans (at_push_lt _ _ hm)) hI
  clear hH
  obtain ⟨e2, h2, hc2, he2, f2, i2⟩ := first_possible (v := v) (err := 10) (bySize_iter (m := t.calls.length) h5.2.2.2.2.2) (p := canL t) (m := m) (h := H) (by omega) i0 (fun y hy h1 f1 j1 => possible_ret hv hd (mem_lt hd hy) (by have := f1.n; omega) j1)
  rw [show (bySize t.calls.length).find? (canL t) = falseS t from rfl] at he2
  refine mixed_by (hm := false) (by kernel_rfl) (by kernel_rfl) ?_
  conv => whnf
  refine ⟨_, b0, ?_⟩
  conv => whnf
  refine .ret _ _ (bySize_ret v.cn) rfl ?_
  conv => whnf
  refine ⟨_, b0, ?_⟩
  conv => whnf
  rw [e1]
  refine .heavy _ h2 (.inl hc2) ?_
  subst he2
  have c1 := (f2.keep (h.n + 1) (by omega) (by omega)).trans b1
  have hn2 := f2.n
  cases hf : falseS t with
  | none =>
    conv => whnf
    refine mOps_list (l' := []) (by kernel_rfl) ?_
    conv => whnf
    refine ⟨by kernel_rfl, heaps_nil (by kernel_rfl), ?_⟩
    intro ds
    conv => whnf
    exact ⟨rfl, f0.trans f2, i2⟩
  | some y =>
    conv => whnf
    refine ⟨_, c1, ?_⟩
    conv => whnf
    refine ⟨by show h.n + 1 < h2.n; omega, ?_⟩
    conv => whnf
    refine ⟨by kernel_rfl, heaps_nil (by kernel_rfl), ?_⟩
    conv => whnf
    refine ⟨_, at_set_self _ _ (i := h.n + 1) (by omega), ?_⟩
    conv => whnf
    exact ⟨rfl, Foot.set (W := fun i => i = m) (k := h.n + 1) (f0.trans f2) (.inr (by omega)) _, kMap_eq (at_set_ne _ _ (i := m) (k := h.n + 1) (by omega)) i2⟩

def clashEnd : Option Nat → AEnd
  | some y => .ret (.c (I y))
  | none => .panic (errV 4)
set_option maxHeartbeats 1000000 in
theorem clashing_ret {v : TV} {t : Td} (hv : v.Is t) (hd : validT t = true) {m : Nat} {h : Heap} (hm : m < h.n) (hI : KMap t (Heap.at h m)) :
    ∃ e h', CallOk Try.prog 53 [knAV v m] h .no e h' .no ∧ (e = clashEnd (clashS t) ∧ Foot (fun i => i = m) h h' ∧ KMap t (Heap.at h' m)) := by
  have h5 := valid_nums hd
  have e1 := hv.cn
  refine call_by (hm := false) Try.func53 rfl ?_
  conv => whnf
  generalize hH : TMap.push AB.dead h _ = H
  have h0n : H.n = h.n + 1 := by rw [← hH]; rfl
  have b0 : Heap.at H h.n = knBlk v m := by rw [← hH]; exact at_push_self _ _
  have f0 : Foot (fun i => i = m) h H := by rw [← hH]; exact (Foot.refl _ _).push _
  have i0 : KMap t (Heap.at H m) := kMap_eq (by rw [← hH]; exact at_push_lt _ _ hm) hI
  clear hH
  obtain ⟨e2, h2, hc2, he2, f2, i2⟩ := first_clash (a := h.n) (err := 4) (bySize_iter (m := t.calls.length) h5.2.2.2.2.2) (p := fun s => !canB (lookF t s)) (m := m) (h := H) (by omega) i0 (fun y hy h1 f1 j1 => suits_clash hv hd (mem_lt hd hy) (by have := f1.n; omega) ((f1.keep _ (by omega) (by omega)).trans b0) (by have := f1.n; omega) j1)
  rw [show ((bySize t.calls.length).find? fun s => !canB (lookF t s)) = clashS t from rfl] at he2
  refine ⟨_, b0, ?_⟩
  conv => whnf
  refine .ret (bySize_ret v.cn) rfl ?_
  conv => whnf
  rw [e1]
  refine .inl _ h2 .no hc2 ?_
  conv => whnf
  subst he2
  cases hf : clashS t with
  | none =>
    conv => whnf
    exact ⟨rfl, f0.trans f2, i2⟩
  | some y =>
    conv => whnf
    exact ⟨rfl, f0.trans f2, i2⟩

/-- The calls that are suspected: of so many as these. -/
def suspStep (t : Td) (least acc y : Nat) : Nat := if popB y == popB least && canL t y then acc ||| y else acc
def suspN (t : Td) (least : Nat) : Nat := (bySize t.calls.length).foldl (suspStep t least) 0
theorem susp_lt {t : Td} (hd : validT t = true) (least : Nat) : ∀ (l : List Nat) (acc : Nat), acc < 256 → (∀ y ∈ l, y < 256) → l.foldl (suspStep t least) acc < 256
  | [], acc, h, _ => h
  | y :: l, acc, h, hl => by
    rw [List.foldl_cons]
    refine susp_lt hd least l _ ?_ (fun z hz => hl z (by simp [hz]))
    unfold suspStep
    split
    · exact Nat.or_lt_two_pow (n := 8) h (hl y (by simp))
    · exact h
def suspEnd (t : Td) : AEnd := match falseS t with
  | some y => .ret (.c (I (suspN t y)))
  | none => .panic (errV 10)

set_option maxHeartbeats 2000000 in
theorem suspects_ret {v : TV} {t : Td} (hv : v.Is t) (hd : validT t = true) {m : Nat} {h : Heap} (hm : m < h.n) (hI : KMap t (Heap.at h m)) :
    ∃ e h', CallOk Try.prog 48 [knAV v m] h .no e h' .no ∧ (e = suspEnd t ∧ Foot (fun i => i = m) h h' ∧ KMap t (Heap.at h' m)) := by
  have h5 := valid_nums hd
  have e1 := hv.cn
  unfold suspEnd
  refine call_by (hm := false) Try.func48 rfl ?_
  conv => whnf
  refine ⟨_, at_push_self _ _, ?_⟩
  conv => whnf
  generalize hH : TMap.push AB.dead h _ = H
  have h0n : H.n = h.n + 1 := by rw [← hH]; rfl
  have b0 : Heap.at H h.n = knBlk v m := by rw [← hH]; exact at_push_self _ _
  have f0 : Foot (fun i => i = m) h H := by rw [← hH]; exact (Foot.refl _ _).push _
  have i0 : KMap t (Heap.at H m) := kMap_eq (by rw [← hH]; exact at_push_lt _ _ hm) hI
  clear hH
  obtain ⟨e2, h2, hc2, he2, f2, i2⟩ := fewest_ret hv hd (m := m) (h := H) (by omega) i0
  refine .inl _ h2 .no hc2 ?_
  conv => whnf
  subst he2
  have c0 := (f2.keep h.n (by omega) (by omega)).trans b0
  have hn2 := f2.n
  cases hf : falseS t with
  | none =>
    conv => whnf
    exact ⟨rfl, f0.trans f2, i2⟩
  | some y0 =>
    have hy0 : y0 < 256 := mem_lt hd (List.mem_of_find?_eq_some hf)
    have hsum : ∀ l : List Nat, (∀ y ∈ l, y ∈ bySize t.calls.length) → l.foldl (suspStep t y0) 0 < 256 := fun l hl => susp_lt hd y0 l 0 (by omega) fun y hy => mem_lt hd (hl y hy)
    conv => whnf
    refine ⟨_, (at_push_lt _ _ (i := h2.n) (by rw [push_n]; omega)).trans (at_push_self _ _), ?_⟩
    conv => whnf
    refine ⟨_, (at_set_ne _ _ (i := h2.n + 1) (k := h2.n) (by omega)).trans (at_push_self _ _), ?_⟩
    conv => whnf
    generalize hH3 : TMap.set AB.dead (TMap.set AB.dead (TMap.push AB.dead (TMap.push AB.dead h2 _) _) _ _) _ _ = H3
    have h3n : H3.n = h2.n + 2 := by rw [← hH3]; rfl
    have g0 : Heap.at H3 h.n = knBlk v m := by rw [← hH3]; exact (at_set_ne _ _ (i := h.n) (k := h2.n + 1) (by omega)).trans ((at_set_ne _ _ (i := h.n) (k := h2.n) (by omega)).trans ((at_push_lt _ _ (by rw [push_n]; omega)).trans ((at_push_lt _ _ (by omega)).trans c0)))
    have g1 : Heap.at H3 h2.n = .blk [.c (I y0)] := by rw [← hH3]; exact (at_set_ne _ _ (i := h2.n) (k := h2.n + 1) (by omega)).trans (at_set_self _ _ (i := h2.n) (by simp only [push_n]; omega))
    have g2 : Heap.at H3 (h2.n + 1) = .blk [.c (I 0)] := by rw [← hH3]; exact at_set_self _ _ (i := h2.n + 1) (by rw [TMap.set_n]; simp only [push_n]; omega)
    have f3 : Foot (fun i => i = m) h H3 := by rw [← hH3]; exact Foot.set (W := fun i => i = m) (k := h2.n + 1) (Foot.set (W := fun i => i = m) (k := h2.n) (((f0.trans f2).push _).push _) (.inr (by omega)) _) (.inr (by omega)) _
    have i3 : KMap t (Heap.at H3 m) := kMap_eq (by rw [← hH3]; exact (at_set_ne _ _ (i := m) (k := h2.n + 1) (by omega)).trans ((at_set_ne _ _ (i := m) (k := h2.n) (by omega)).trans ((at_push_lt _ _ (by rw [push_n]; omega)).trans (at_push_lt _ _ (by omega))))) i2
    clear hH3
    refine ⟨_, g0, ?_⟩
    conv => whnf
    refine .ret (bySize_ret v.cn) rfl ?_
    conv => whnf
    rw [e1]
    refine range_nA (hm := false) (h2.n + 2) h3n (ps := [13]) rfl rfl (bySize_iter (m := t.calls.length) h5.2.2.2.2.2)
      (I := fun _ l h1 => Heap.at h1 h.n = knBlk v m ∧ Heap.at h1 h2.n = .blk [.c (I y0)] ∧ Foot (fun i => i = m) h h1 ∧ KMap t (Heap.at h1 m) ∧ ∃ done rest, l = chs rest ∧ bySize t.calls.length = done ++ rest ∧ Heap.at h1 (h2.n + 1) = .blk [.c (I (done.foldl (suspStep t y0) 0 : Nat))])
      (E := fun _ _ _ => False) (X := fun _ _ _ => False) ?_ ?_ ?_ ?_ ?_ ?_ ?_ ?_ ?_ ?_ ?_ ?_
    · rintro W l h1 h4 ⟨k1, k2, k3, k4, done, rest, k5, k6, k7⟩ hn hw ff0
      have ff := ff0.high hw
      exact ⟨(ff.below hn (by omega)).trans k1, (ff.below hn (by omega)).trans k2, k3.trans_up ff (by omega), kMap_eq (ff.below hn (by omega)) k4, done, rest, k5, k6, (ff.below hn (by omega)).trans k7⟩
    · rintro _ _ _ _ hx
      exact hx.elim
    · rintro _ _ _ _ hx
      exact hx.elim
    · rintro _ _ _ _ hx _
      exact hx
    · rintro _ _ _ _ hx _
      exact hx
    · rintro _ _ _ _ hx _
      exact hx
    · intro _ _ _ _
      trivial
    · exact ⟨g0, g1, f3, i3, [], bySize t.calls.length, rfl, rfl, g2⟩
    · rintro W y l h1 hn hw ⟨k1, k2, k3, k4, done, rest, k5, k6, k7⟩
      cases rest with
      | nil => cases k5
      | cons y1 rest =>
      obtain ⟨rfl, rfl⟩ := List.cons.inj k5
      have hy1 : y1 < 256 := mem_lt hd (by rw [k6]; simp)
      have hacc := hsum done (fun z hz => by rw [k6]; simp [hz])
      refine ⟨rfl, ?_⟩
      conv => whnf
      refine ⟨_, at_push_self _ _, ?_⟩
      conv => whnf
      refine ⟨Foot.set ((Foot.refl _ _).push _) (.inr (Nat.le_refl _)) _, fun hb fb hbn => ?_⟩
      have n1 : h2.n + 2 + 2 ≤ h1.n := hn
      have hbn' : hb.n = h1.n + 1 := by rw [hbn, new_n]
      have old : ∀ i, i < h1.n → i ≠ h2.n + 2 + 1 → Heap.at hb i = Heap.at h1 i := fun i hi hne => (fb.keep i (by rw [new_n]; omega) hne).trans (at_old _ _ _ hi)
      have b1 := (old h.n (by omega) (by omega)).trans k1
      have b2 := (old h2.n (by omega) (by omega)).trans k2
      have b7 := (old (h2.n + 1) (by omega) (by omega)).trans k7
      have b4 : KMap t (Heap.at hb m) := kMap_eq (old m (by omega) (by omega)) k4
      have bt : Heap.at hb h1.n = .blk [.c (I y1)] := (fb.keep h1.n (by rw [new_n]; omega) (by omega)).trans (at_new _ _ _)
      have b3 : Foot (fun i => i = m) h hb := k3.trans_up (N := h.n) (Foot.trans ((Foot.set ((Foot.refl _ _).push _) (.inr (Nat.le_refl _)) _)) (fb.mono fun i _ hi => by omega)) (Nat.le_refl _)
      obtain ⟨e3, h4, hc3, rfl, f4, i4⟩ := possible_ret hv hd hy1 (m := m) (h := hb) (by omega) b4
      have hn4 := f4.n
      have fend : Foot (apart W (h2.n + 2)) hb h4 := f4.mono fun i _ hi => apart_lt (fun i hi => (hw i hi).1) (by omega)
      conv => whnf
      refine mixed_by (hm := false) (by kernel_rfl) (by kernel_rfl) ?_
      conv => whnf
      refine ⟨_, bt, ?_⟩
      conv => whnf
      refine .ret _ _ (many_ret hy1) rfl ?_
      conv => whnf
      refine ⟨_, b2, ?_⟩
      conv => whnf
      refine .ret _ _ (many_ret hy0) rfl ?_
      conv => whnf
      have hpe : ((popB y1 : Int) == (popB y0 : Int)) = (popB y1 == popB y0) := by
        by_cases h : popB y1 = popB y0
        · rw [h]; simp
        · rw [beq_eq_false_iff_ne.2 h, beq_eq_false_iff_ne.2 (by omega)]
      have hst : ∀ c, (popB y1 == popB y0 && canL t y1) = c → (done ++ [y1]).foldl (suspStep t y0) 0 = if c = true then done.foldl (suspStep t y0) 0 ||| y1 else done.foldl (suspStep t y0) 0 := by
        rintro c rfl
        rw [List.foldl_append]
        rfl
      rw [hpe]
      cases hpp : (popB y1 == popB y0)
      · conv => whnf
        refine ⟨by kernel_rfl, heaps_nil (by kernel_rfl), ?_⟩
        conv => whnf
        have hst := hst false (by rw [hpp, Bool.false_and])
        exact ⟨Foot.refl _ _, b1, b2, b3, b4, done ++ [y1], rest, rfl, by rw [k6]; simp, (by rw [hst]; exact b7)⟩
      · conv => whnf
        refine ⟨_, b1, ?_⟩
        conv => whnf
        refine ⟨_, bt, ?_⟩
        conv => whnf
        refine .heavy _ h4 (.inl hc3) ?_
        have d1 := (f4.keep h.n (by omega) (by omega)).trans b1
        have d2 := (f4.keep h2.n (by omega) (by omega)).trans b2
        have d7 := (f4.keep (h2.n + 1) (by omega) (by omega)).trans b7
        have dt := (f4.keep h1.n (by omega) (by omega)).trans bt
        cases hca : canL t y1
        · conv => whnf
          refine ⟨by kernel_rfl, heaps_nil (by kernel_rfl), ?_⟩
          conv => whnf
          have hst := hst false (by rw [hca, Bool.and_false])
          exact ⟨fend, d1, d2, b3.trans f4, i4, done ++ [y1], rest, rfl, by rw [k6]; simp, (by rw [hst]; exact d7)⟩
        · conv => whnf
          refine ⟨by kernel_rfl, heaps_nil (by kernel_rfl), ?_⟩
          conv => whnf
          have hst := hst true (by rw [hca, hpp, Bool.and_self])
          refine ⟨_, d7, ?_⟩
          conv => whnf
          refine ⟨_, dt, ?_⟩
          conv => whnf
          refine ⟨_, or_nat (pow62 hacc).2 (pow62 hy1).2, ?_⟩
          conv => whnf
          refine ⟨_, d7, ?_⟩
          conv => whnf
          exact ⟨Foot.set (W := apart W (h2.n + 2)) (k := h2.n + 1) fend (.inl (apart_lt (fun i hi => (hw i hi).1) (by omega))) _, (at_set_ne _ _ (i := h.n) (k := h2.n + 1) (by omega)).trans d1, (at_set_ne _ _ (i := h2.n) (k := h2.n + 1) (by omega)).trans d2, Foot.set (W := fun i => i = m) (k := h2.n + 1) (b3.trans f4) (.inr (by omega)) _, kMap_eq (at_set_ne _ _ (i := m) (k := h2.n + 1) (by omega)) i4, done ++ [y1], rest, rfl, by rw [k6]; simp, (by rw [hst]; exact at_set_self _ _ (i := h2.n + 1) (by omega))⟩
    · rintro h1 hn hc ⟨k1, k2, k3, k4, done, rest, k5, k6, k7⟩
      have : rest = [] := by cases rest with | nil => rfl | cons a l => cases k5
      subst this
      rw [List.append_nil] at k6
      rw [← k6] at k7
      conv => whnf
      refine ⟨_, k7, ?_⟩
      conv => whnf
      refine ⟨_, hc, ?_⟩
      conv => whnf
      exact ⟨rfl, Foot.set (W := fun i => i = m) (k := h2.n + 2) k3 (.inr (by omega)) _, kMap_eq (at_set_ne _ _ (by omega)) k4⟩
    · rintro _ _ _ _ hx
      exact hx.elim
    · rintro x h1 _ _ hx
      exact hx.elim
end Go.Ag
/- Layer 5: what is returned of calls. -/
namespace Go.Ag
open Go.Proofs
set_option maxRecDepth 100000

/-! A panic is recovered. -/
theorem caughtC_no (id : Nat) (h : Heap) : CallOk Try.prog 73 [.ptr id 0] h .no (.ret (.c (.tuple []))) h .no := by
  suffices H : ∃ e h' p', CallOk Try.prog 73 [.ptr id 0] h .no e h' p' ∧ (e = .ret (.c (.tuple [])) ∧ h' = h ∧ p' = .no) by
    obtain ⟨e, h', p', h1, rfl, rfl, rfl⟩ := H
    exact h1
  refine call_byP (hm := false) Try.func73 rfl ?_
  conv => whnf
  exact ⟨rfl, rfl, rfl⟩
theorem caughtC_live {id : Nat} {h : Heap} {c c0 : Int} (hb : Heap.at h id = .blk [.c (I c0)]) : CallOk Try.prog 73 [.ptr id 0] h (.live (errV c)) (.ret (.c (.tuple []))) (h.set .dead id (.blk [.c (I c)])) .taken := by
  suffices H : ∃ e h' p', CallOk Try.prog 73 [.ptr id 0] h (.live (errV c)) e h' p' ∧ (e = .ret (.c (.tuple [])) ∧ h' = h.set .dead id (.blk [.c (I c)]) ∧ p' = .taken) by
    obtain ⟨e, h', p', h1, rfl, rfl, rfl⟩ := H
    exact h1
  refine call_byP (hm := false) Try.func73 rfl ?_
  conv => whnf
  refine ⟨_, hb, ?_⟩
  conv => whnf
  exact ⟨rfl, rfl, rfl⟩
theorem caughtN_no (id : Nat) (h : Heap) : CallOk Try.prog 78 [.ptr id 0] h .no (.ret (.c (.tuple []))) h .no := by
  suffices H : ∃ e h' p', CallOk Try.prog 78 [.ptr id 0] h .no e h' p' ∧ (e = .ret (.c (.tuple [])) ∧ h' = h ∧ p' = .no) by
    obtain ⟨e, h', p', h1, rfl, rfl, rfl⟩ := H
    exact h1
  refine call_byP (hm := false) Try.func78 rfl ?_
  conv => whnf
  exact ⟨rfl, rfl, rfl⟩
theorem caughtN_live {id : Nat} {h : Heap} {c c0 : Int} (hb : Heap.at h id = .blk [.c (I c0)]) : CallOk Try.prog 78 [.ptr id 0] h (.live (errV c)) (.ret (.c (.tuple []))) (h.set .dead id (.blk [.c (I c)])) .taken := by
  suffices H : ∃ e h' p', CallOk Try.prog 78 [.ptr id 0] h (.live (errV c)) e h' p' ∧ (e = .ret (.c (.tuple [])) ∧ h' = h.set .dead id (.blk [.c (I c)]) ∧ p' = .taken) by
    obtain ⟨e, h', p', h1, rfl, rfl, rfl⟩ := H
    exact h1
  refine call_byP (hm := false) Try.func78 rfl ?_
  conv => whnf
  refine ⟨_, hb, ?_⟩
  conv => whnf
  exact ⟨rfl, rfl, rfl⟩
theorem caughtS_no (id : Nat) (h : Heap) : CallOk Try.prog 111 [.ptr id 0] h .no (.ret (.c (.tuple []))) h .no := by
  suffices H : ∃ e h' p', CallOk Try.prog 111 [.ptr id 0] h .no e h' p' ∧ (e = .ret (.c (.tuple [])) ∧ h' = h ∧ p' = .no) by
    obtain ⟨e, h', p', h1, rfl, rfl, rfl⟩ := H
    exact h1
  refine call_byP (hm := false) Try.func111 rfl ?_
  conv => whnf
  exact ⟨rfl, rfl, rfl⟩
theorem caughtS_live {id : Nat} {h : Heap} {c c0 : Int} (hb : Heap.at h id = .blk [.c (I c0)]) : CallOk Try.prog 111 [.ptr id 0] h (.live (errV c)) (.ret (.c (.tuple []))) (h.set .dead id (.blk [.c (I c)])) .taken := by
  suffices H : ∃ e h' p', CallOk Try.prog 111 [.ptr id 0] h (.live (errV c)) e h' p' ∧ (e = .ret (.c (.tuple [])) ∧ h' = h.set .dead id (.blk [.c (I c)]) ∧ p' = .taken) by
    obtain ⟨e, h', p', h1, rfl, rfl, rfl⟩ := H
    exact h1
  refine call_byP (hm := false) Try.func111 rfl ?_
  conv => whnf
  refine ⟨_, hb, ?_⟩
  conv => whnf
  exact ⟨rfl, rfl, rfl⟩

/-- What is found, or the error. -/
def ansC (o : Option Nat) : CV := match o with
  | some y => .tuple [chV y, I 0]
  | none => .tuple [chV 0, I 10]
set_option maxHeartbeats 1000000 in
theorem answer_false {v : TV} {t : Td} (hv : v.Is t) (hd : validT t = true) {m : Nat} {h : Heap} (hm : m < h.n) (hI : KMap t (Heap.at h m)) :
    ∃ e h', CallOk Try.prog 41 [.func (.func 43) [knAV v m] []] h .no e h' .no ∧ (e = .ret (.c (ansC (falseS t))) ∧ Foot (fun i => i = m) h h' ∧ KMap t (Heap.at h' m)) := by
  refine call_by (hm := false) Try.func41 rfl ?_
  conv => whnf
  generalize hH : TMap.push AB.dead (TMap.push AB.dead h _) _ = H
  have h0n : H.n = h.n + 2 := by rw [← hH]; rfl
  have b0 : Heap.at H h.n = .blk [.c (I 0)] := by rw [← hH]; exact (at_push_lt _ _ (by simp only [push_n]; omega)).trans (at_push_self _ _)
  have b1 : Heap.at H (h.n + 1) = .blk [.c (I 0)] := by rw [← hH]; exact at_push_self _ _
  have f0 : Foot (fun i => i = m) h H := by rw [← hH]; exact ((Foot.refl _ _).push _).push _
  have i0 : KMap t (Heap.at H m) := kMap_eq (by rw [← hH]; exact (at_push_lt _ _ (by simp only [push_n]; omega)).trans (at_push_lt _ _ hm)) hI
  clear hH
  refine ⟨_, b1, ?_⟩
  conv => whnf
  generalize hH1 : TMap.set AB.dead H _ _ = H1
  have h1n : H1.n = h.n + 2 := by rw [← hH1, TMap.set_n]; exact h0n
  have c0 : Heap.at H1 h.n = .blk [.c (I 0)] := by rw [← hH1]; exact (at_set_ne _ _ (i := h.n) (k := h.n + 1) (by omega)).trans b0
  have c1 : Heap.at H1 (h.n + 1) = .blk [.c (I 10)] := by rw [← hH1]; exact at_set_self _ _ (i := h.n + 1) (by omega)
  have f1 : Foot (fun i => i = m) h H1 := by rw [← hH1]; exact Foot.set (k := h.n + 1) f0 (.inr (by omega)) _
  have i1 : KMap t (Heap.at H1 m) := kMap_eq (by rw [← hH1]; exact at_set_ne _ _ (i := m) (k := h.n + 1) (by omega)) i0
  clear hH1
  obtain ⟨e2, h2, hc2, he2, f2, i2⟩ := fewest_ret hv hd (m := m) (h := H1) (by omega) i1
  have d0 := (f2.keep h.n (by omega) (by omega)).trans c0
  have d1 := (f2.keep (h.n + 1) (by omega) (by omega)).trans c1
  have hn2 := f2.n
  refine .inl _ h2 .no hc2 ?_
  conv => whnf
  subst he2
  cases hf : falseS t with
  | none =>
    conv => whnf
    refine .mk _ _ _ (caughtC_live (c := 10) (c0 := 10) d1) ?_
    conv => whnf
    refine ⟨_, (at_set_ne _ _ (i := h.n) (k := h.n + 1) (by omega)).trans d0, ?_⟩
    conv => whnf
    refine ⟨_, at_set_self _ _ (i := h.n + 1) (show h.n + 1 < h2.n by omega), ?_⟩
    conv => whnf
    exact ⟨rfl, Foot.set (W := fun i => i = m) (k := h.n + 1) (f1.trans f2) (.inr (by omega)) _, kMap_eq (at_set_ne _ _ (i := m) (k := h.n + 1) (by omega)) i2⟩
  | some y =>
    conv => whnf
    refine ⟨_, d0, ?_⟩
    conv => whnf
    refine ⟨_, (at_set_ne _ _ (i := h.n + 1) (k := h.n) (by omega)).trans d1, ?_⟩
    conv => whnf
    refine .mk _ _ _ (caughtC_no _ _) ?_
    conv => whnf
    refine ⟨_, (at_set_ne _ _ (i := h.n) (k := h.n + 1) (by omega)).trans (at_set_self _ _ (i := h.n) (by omega)), ?_⟩
    conv => whnf
    refine ⟨_, at_set_self _ _ (i := h.n + 1) (by rw [TMap.set_n]; omega), ?_⟩
    conv => whnf
    exact ⟨rfl, Foot.set (W := fun i => i = m) (k := h.n + 1) (Foot.set (W := fun i => i = m) (k := h.n) (f1.trans f2) (.inr (by omega)) _) (.inr (by omega)) _, kMap_eq ((at_set_ne _ _ (i := m) (k := h.n + 1) (by omega)).trans (at_set_ne _ _ (i := m) (k := h.n) (by omega))) i2⟩

def ansN (o : Option Nat) (err : Int) : CV := match o with
  | some y => .tuple [I y, I 0]
  | none => .tuple [I 0, I err]
set_option maxHeartbeats 1000000 in
theorem answer_susp {v : TV} {t : Td} (hv : v.Is t) (hd : validT t = true) {m : Nat} {h : Heap} (hm : m < h.n) (hI : KMap t (Heap.at h m)) :
    ∃ e h', CallOk Try.prog 47 [.func (.func 48) [knAV v m] []] h .no e h' .no ∧ (e = .ret (.c (ansN ((falseS t).map (suspN t)) 10)) ∧ Foot (fun i => i = m) h h' ∧ KMap t (Heap.at h' m)) := by
  refine call_by (hm := false) Try.func47 rfl ?_
  conv => whnf
  refine ⟨_, at_push_self _ _, ?_⟩
  conv => whnf
  generalize hH1 : TMap.set AB.dead (TMap.push AB.dead h _) _ _ = H1
  have h1n : H1.n = h.n + 1 := by rw [← hH1]; exact new_n _ _ _
  have c1 : Heap.at H1 h.n = .blk [.c (I 10)] := by rw [← hH1]; exact at_new _ _ _
  have f1 : Foot (fun i => i = m) h H1 := by rw [← hH1]; exact Foot.set (k := h.n) ((Foot.refl _ _).push _) (.inr (by omega)) _
  have i1 : KMap t (Heap.at H1 m) := kMap_eq (by rw [← hH1]; exact at_old _ _ _ hm) hI
  clear hH1
  obtain ⟨e2, h2, hc2, he2, f2, i2⟩ := suspects_ret hv hd (m := m) (h := H1) (by omega) i1
  have d1 := (f2.keep h.n (by omega) (by omega)).trans c1
  have hn2 := f2.n
  refine .inl _ h2 .no hc2 ?_
  conv => whnf
  subst he2
  unfold suspEnd
  cases hf : falseS t with
  | none =>
    conv => whnf
    refine .mk _ _ _ (caughtN_live (c := 10) (c0 := 10) d1) ?_
    conv => whnf
    refine ⟨_, at_set_self _ _ (i := h.n) (show h.n < h2.n by omega), ?_⟩
    conv => whnf
    exact ⟨rfl, Foot.set (W := fun i => i = m) (k := h.n) (f1.trans f2) (.inr (by omega)) _, kMap_eq (at_set_ne _ _ (i := m) (k := h.n) (by omega)) i2⟩
  | some y =>
    conv => whnf
    refine ⟨_, d1, ?_⟩
    conv => whnf
    refine .mk _ _ _ (caughtN_no _ _) ?_
    conv => whnf
    refine ⟨_, at_set_self _ _ (i := h.n) (by omega), ?_⟩
    conv => whnf
    exact ⟨rfl, Foot.set (W := fun i => i = m) (k := h.n) (f1.trans f2) (.inr (by omega)) _, kMap_eq (at_set_ne _ _ (i := m) (k := h.n) (by omega)) i2⟩
set_option maxHeartbeats 1000000 in
theorem answer_clash {v : TV} {t : Td} (hv : v.Is t) (hd : validT t = true) {m : Nat} {h : Heap} (hm : m < h.n) (hI : KMap t (Heap.at h m)) :
    ∃ e h', CallOk Try.prog 47 [.func (.func 53) [knAV v m] []] h .no e h' .no ∧ (e = .ret (.c (ansN (clashS t) 4)) ∧ Foot (fun i => i = m) h h' ∧ KMap t (Heap.at h' m)) := by
  refine call_by (hm := false) Try.func47 rfl ?_
  conv => whnf
  refine ⟨_, at_push_self _ _, ?_⟩
  conv => whnf
  generalize hH1 : TMap.set AB.dead (TMap.push AB.dead h _) _ _ = H1
  have h1n : H1.n = h.n + 1 := by rw [← hH1]; exact new_n _ _ _
  have c1 : Heap.at H1 h.n = .blk [.c (I 10)] := by rw [← hH1]; exact at_new _ _ _
  have f1 : Foot (fun i => i = m) h H1 := by rw [← hH1]; exact Foot.set (k := h.n) ((Foot.refl _ _).push _) (.inr (by omega)) _
  have i1 : KMap t (Heap.at H1 m) := kMap_eq (by rw [← hH1]; exact at_old _ _ _ hm) hI
  clear hH1
  obtain ⟨e2, h2, hc2, he2, f2, i2⟩ := clashing_ret hv hd (m := m) (h := H1) (by omega) i1
  have d1 := (f2.keep h.n (by omega) (by omega)).trans c1
  have hn2 := f2.n
  refine .inl _ h2 .no hc2 ?_
  conv => whnf
  subst he2
  cases hf : clashS t with
  | none =>
    conv => whnf
    refine .mk _ _ _ (caughtN_live (c := 4) (c0 := 10) d1) ?_
    conv => whnf
    refine ⟨_, at_set_self _ _ (i := h.n) (show h.n < h2.n by omega), ?_⟩
    conv => whnf
    exact ⟨rfl, Foot.set (W := fun i => i = m) (k := h.n) (f1.trans f2) (.inr (by omega)) _, kMap_eq (at_set_ne _ _ (i := m) (k := h.n) (by omega)) i2⟩
  | some y =>
    conv => whnf
    refine ⟨_, d1, ?_⟩
    conv => whnf
    refine .mk _ _ _ (caughtN_no _ _) ?_
    conv => whnf
    refine ⟨_, at_set_self _ _ (i := h.n) (by omega), ?_⟩
    conv => whnf
    exact ⟨rfl, Foot.set (W := fun i => i = m) (k := h.n) (f1.trans f2) (.inr (by omega)) _, kMap_eq (at_set_ne _ _ (i := m) (k := h.n) (by omega)) i2⟩

/-! What is returned. -/
def falseR (t : Td) : Nat × Nat × Int := if validT t = false then (0, 0, 1) else match falseS t with
  | some y => (popB y, y, 0)
  | none => (0, 0, 10)
def suspR (t : Td) : Nat × Int := if validT t = false then (0, 1) else match falseS t with
  | some y => (suspN t y, 0)
  | none => (0, 10)
def clashR (t : Td) : Nat × Int := if validT t = false then (0, 1) else if canB (lookF t (allN t)) = true then (0, 4) else match clashS t with
  | some y => (y, 0)
  | none => (0, 4)
def pairV (p : Nat × Int) : CV := .tuple [I p.1, I p.2]
theorem close_val {f : FuncId} {args : List CV} {c : CV} (H : ∃ e h', CallOk Try.prog f (args.map .c) TMap.nil .no e h' .no ∧ e = .ret (.c c)) : Ret Try.prog f args c := by
  obtain ⟨e, h', hc, rfl⟩ := H
  exact callOk_close hc (fuel := 1) (r := (_, [])) rfl
set_option maxHeartbeats 1000000 in
theorem false_ret {v : TV} {t : Td} (hv : v.Is t) : Ret Try.prog 13 [v.cv] (.tuple [I (falseR t).1, I (falseR t).2.1, I (falseR t).2.2]) := by
  refine close_val ?_
  unfold falseR
  refine call_by (hm := false) Try.func13 rfl ?_
  conv => whnf
  refine ⟨v.blk, at_push_self _ _, ?_⟩
  conv => whnf
  refine .ret (valid_ret hv) rfl ?_
  conv => whnf
  cases h1 : validT t
  · conv => whnf
    rfl
  conv => whnf
  refine ⟨v.blk, at_push_self _ _, ?_⟩
  conv => whnf
  obtain ⟨e1, H1, hc1, m, rfl, hm0, hm1, hI1, f1⟩ := know_ret v t (TMap.push .dead TMap.nil v.blk)
  refine .inl _ H1 .no hc1 ?_
  conv => whnf
  obtain ⟨e2, H2, hc2, rfl, f2, i2⟩ := answer_false hv h1 hm1 hI1
  refine .inl _ H2 .no hc2 ?_
  conv => whnf
  have key : ∀ x : Nat, x < 256 → Ret Try.prog 44 [.agg [I x]] (I (popB x)) := fun x hx => many_ret hx
  cases hf : falseS t with
  | none =>
    conv => whnf
    refine ⟨_, at_push_self _ _, ?_⟩
    conv => whnf
    refine draw_by (hm := false) (by kernel_rfl) (by kernel_rfl) ?_
    conv => whnf
    refine ⟨_, at_new _ _ _, ?_⟩
    conv => whnf
    refine .ret (key 0 (by omega)) rfl ?_
    conv => whnf
    refine ⟨_, at_new _ _ _, ?_⟩
    conv => whnf
    refine ⟨by kernel_rfl, ?_⟩
    conv => whnf
    rfl
  | some y =>
    have hy : y < 256 := mem_lt h1 (List.mem_of_find?_eq_some hf)
    conv => whnf
    refine ⟨_, at_push_self _ _, ?_⟩
    conv => whnf
    refine draw_by (hm := false) (by kernel_rfl) (by kernel_rfl) ?_
    conv => whnf
    refine ⟨_, at_new _ _ _, ?_⟩
    conv => whnf
    refine .ret (key y hy) rfl ?_
    conv => whnf
    refine ⟨_, at_new _ _ _, ?_⟩
    conv => whnf
    refine ⟨by kernel_rfl, ?_⟩
    conv => whnf
    rfl
set_option maxHeartbeats 1000000 in
theorem susp_ret {v : TV} {t : Td} (hv : v.Is t) : Ret Try.prog 15 [v.cv] (pairV (suspR t)) := by
  refine close_val ?_
  unfold suspR
  refine call_by (hm := false) Try.func15 rfl ?_
  conv => whnf
  refine ⟨v.blk, at_push_self _ _, ?_⟩
  conv => whnf
  refine .ret (valid_ret hv) rfl ?_
  conv => whnf
  cases h1 : validT t
  · conv => whnf
    rfl
  conv => whnf
  refine ⟨v.blk, at_push_self _ _, ?_⟩
  conv => whnf
  obtain ⟨e1, H1, hc1, m, rfl, hm0, hm1, hI1, f1⟩ := know_ret v t (TMap.push .dead TMap.nil v.blk)
  refine .inl _ H1 .no hc1 ?_
  conv => whnf
  obtain ⟨e2, H2, hc2, rfl, f2, i2⟩ := answer_susp hv h1 hm1 hI1
  refine .inl _ H2 .no hc2 ?_
  conv => whnf
  cases hf : falseS t with
  | none =>
    conv => whnf
    rfl
  | some y =>
    conv => whnf
    rfl
set_option maxHeartbeats 1000000 in
theorem clash_ret {v : TV} {t : Td} (hv : v.Is t) : Ret Try.prog 17 [v.cv] (pairV (clashR t)) := by
  refine close_val ?_
  unfold clashR
  refine call_by (hm := false) Try.func17 rfl ?_
  conv => whnf
  refine ⟨v.blk, at_push_self _ _, ?_⟩
  conv => whnf
  refine .ret (valid_ret hv) rfl ?_
  conv => whnf
  cases h1 : validT t
  · conv => whnf
    rfl
  have ha := allN_lt h1
  conv => whnf
  refine ⟨v.blk, at_push_self _ _, ?_⟩
  conv => whnf
  obtain ⟨e1, H1, hc1, m, rfl, hm0, hm1, hI1, f1⟩ := know_ret v t (TMap.push .dead TMap.nil v.blk)
  refine .inl _ H1 .no hc1 ?_
  conv => whnf
  refine ⟨_, at_push_self _ _, ?_⟩
  conv => whnf
  generalize hH2 : TMap.set AB.dead (TMap.push AB.dead H1 _) _ _ = H2
  have n2 : H2.n = H1.n + 1 := by rw [← hH2]; exact new_n _ _ _
  have b2 : Heap.at H2 H1.n = knBlk v m := by rw [← hH2]; exact at_new _ _ _
  have i2 : KMap t (Heap.at H2 m) := kMap_eq (by rw [← hH2]; exact at_old _ _ _ hm1) hI1
  clear hH2
  obtain ⟨e3, H3, hc3, rfl, f3⟩ := all_ret hv (validT_X h1) m H2
  have n3 := f3.n
  have b3 := (f3.keep H1.n (by omega) (fun x => x)).trans b2
  obtain ⟨e4, H4, hc4, rfl, f4, i4⟩ := look_ret hv (validT_X h1) (s := allN t) (pow62 ha).1 (m := m) (h := H3) (by omega) (kMap_eq (f3.keep m (by omega) (fun x => x)) i2)
  have n4 := f4.n
  have b4 := (f4.keep H1.n (by omega) (by omega)).trans b3
  refine mixed_by (hm := false) (by kernel_rfl) (by kernel_rfl) ?_
  conv => whnf
  refine ⟨_, b2, ?_⟩
  conv => whnf
  refine ⟨_, b2, ?_⟩
  conv => whnf
  refine .heavy _ H3 (.inl hc3) ?_
  conv => whnf
  refine .heavy _ H4 (.inl hc4) ?_
  conv => whnf
  rw [aop_can (r := lookF t (allN t))]; rotate_left; rfl; rfl
  conv => whnf
  refine ⟨by kernel_rfl, ?_, ?_⟩
  · exact heaps_eq (l' := [(H1.n, H2, H3)]) (by kernel_rfl) (heaps_cons (f3.keep _ (by omega) (fun x => x)) (by simp [HeapsOk]))
  cases hcan : canB (lookF t (allN t))
  case true =>
    conv => whnf
    rfl
  obtain ⟨e5, H5, hc5, rfl, f5, i5⟩ := answer_clash hv h1 (m := m) (h := H4) (by omega) i4
  conv => whnf
  refine ⟨_, b4, ?_⟩
  conv => whnf
  refine .inl _ H5 .no hc5 ?_
  conv => whnf
  cases hf : clashS t with
  | none =>
    conv => whnf
    rfl
  | some y =>
    conv => whnf
    rfl
end Go.Ag
/- Layer 5: spans. -/
namespace Go.Ag
open Go.Proofs
set_option maxRecDepth 100000

theorem sure_at (o : Option M) (h : Heap) : ∃ e h', CallOk Try.prog 90 [.c (.agg (toldC o))] h .no e h' .no ∧ (e = sureEnd o ∧ Foot none' h h') := by
  obtain ⟨C, hC⟩ : ∃ C, C = toldC o := ⟨_, rfl⟩
  have lC : C.length = 145 := by rw [hC, toldC_len]
  have cC : (C.map AV.c).all AV.cellish = true := by rw [hC]; exact toldC_cellish o
  have r4 := readcan o
  rw [← hC] at r4 ⊢
  refine call_by (hm := false) Try.func90 rfl ?_
  conv => whnf
  rw [box_agg (C := C)]; rotate_left; rfl; rfl; exact cC
  conv => whnf
  refine forceL_intro ?_
  conv => whnf
  generalize hH : TMap.push AB.dead (TMap.push AB.dead h _) _ = H
  have h0n : H.n = h.n + 2 := by rw [← hH]; rfl
  have b0 : Heap.at H h.n = .blk (C.map .c) := by rw [← hH]; exact (at_push_lt _ _ (by simp only [push_n]; omega)).trans (at_push_self _ _)
  obtain ⟨Z, b1, hZ⟩ : ∃ Z : List AV, Heap.at H (h.n + 1) = .blk Z ∧ Z.length = 144 := ⟨_, by rw [← hH]; exact at_push_self _ _, rfl⟩
  have f0 : Foot none' h H := by rw [← hH]; exact ((Foot.refl _ _).push _).push _
  clear hH
  refine ⟨_, b0, ?_⟩
  conv => whnf
  refine look_read (readVar_map r4) ?_
  conv => whnf
  cases o with
  | none =>
    conv => whnf
    exact ⟨rfl, f0⟩
  | some d =>
    obtain ⟨D, hD⟩ : ∃ D, D = matC d := ⟨_, rfl⟩
    have lD : D.length = 144 := by rw [hD, matC_len]
    have cD : (D.map AV.c).all AV.cellish = true := by rw [hD]; exact matC_cellish _
    have hr : readVarC Try.prog 84 C 0 = some (.agg D) := by
      rw [hC, toldC, ← hD]; exact read84t lD
    rw [sureEnd, matV, ← hD]
    conv => whnf
    refine ⟨_, b0, ?_⟩
    conv => whnf
    refine look_read (readVar_map hr) ?_
    conv => whnf
    refine ⟨_, b1, ?_⟩
    conv => whnf
    refine store_in (sz84 D lD cD) (put_all (vs := D.map AV.c) (by rw [List.length_map, lD, hZ])) ?_
    conv => whnf
    refine forceL_intro ?_
    conv => whnf
    refine ⟨_, at_set_self _ _ (i := h.n + 1) (by omega), ?_⟩
    conv => whnf
    refine look_read (readVar_map (read84 lD)) ?_
    conv => whnf
    exact ⟨rfl, Foot.set (W := none') (k := h.n + 1) f0 (.inr (by omega)) _⟩

def spanEnd : Option (Int × Int) → AEnd
  | some s => .ret (.c (spV s))
  | none => .panic (errV 10)
theorem spanEnd_c (o : Option (Int × Int)) : ∃ c, (spanEnd o).val = .c c ∧ (spanEnd o).setVal (.c c) = spanEnd o := by
  cases o with
  | none => exact ⟨_, rfl, rfl⟩
  | some d => exact ⟨_, rfl, rfl⟩
def tP (v : TV) : CV := .cptr v.cells 0

set_option maxHeartbeats 2000000 in
theorem find_counted {v : TV} {t : Td} (hv : v.Is t) (hd : validT t = true) {ty : TypeId} {x : CV} {f g : Nat} (hcount : ∀ C d, C = matC d → Inv12 d → Ret Try.prog 60 [.agg C, .iface ty x] (spV (spanD d f g))) :
    CallOk Try.prog 89 ([tP v, .cptr [.func (.func 60) [] []] 0, .cptr [.iface ty x] 0].map .c) TMap.nil .no (spanEnd ((lookF t (allN t)).map fun d => spanD d f g)) TMap.nil .no := by
  have ha := allN_lt hd
  refine close_any (spanEnd_c _) ?_
  refine call_by (hm := false) Try.func89 rfl ?_
  conv => whnf
  refine ⟨_, rfl, ?_⟩
  conv => whnf
  obtain ⟨e1, H1, hc1, m, rfl, hm0, hm1, hI1, f1⟩ := know_ret v t (TMap.push .dead TMap.nil (.blk [.c (I 0), .c (I 0)]))
  refine .inl _ H1 .no hc1 ?_
  conv => whnf
  have n1 : 1 ≤ H1.n := f1.n
  have a1 : Heap.at H1 0 = .blk [.c (I 0), .c (I 0)] := (f1.keep 0 (Nat.lt_succ_self 0) (fun x => x)).trans (at_push_self _ _)
  refine ⟨_, at_push_self _ _, ?_⟩
  conv => whnf
  generalize hH2 : TMap.set AB.dead (TMap.push AB.dead H1 _) _ _ = H2
  have n2 : H2.n = H1.n + 1 := by rw [← hH2]; exact new_n _ _ _
  have a2 : Heap.at H2 0 = .blk [.c (I 0), .c (I 0)] := by rw [← hH2]; exact (at_old _ _ _ (by omega)).trans a1
  have b2 : Heap.at H2 H1.n = knBlk v m := by rw [← hH2]; exact at_new _ _ _
  have i2 : KMap t (Heap.at H2 m) := kMap_eq (by rw [← hH2]; exact at_old _ _ _ hm1) hI1
  clear hH2
  have hm0' : 1 ≤ m := hm0
  obtain ⟨e3, H3, hc3, rfl, f3⟩ := all_ret hv (validT_X hd) m H2
  have n3 := f3.n
  obtain ⟨e4, H4, hc4, rfl, f4, i4⟩ := look_ret hv (validT_X hd) (s := allN t) (pow62 ha).1 (m := m) (h := H3) (by omega) (kMap_eq (f3.keep m (by omega) (fun x => x)) i2)
  have n4 := f4.n
  obtain ⟨e5, H5, hc5, he5, f5⟩ := sure_at (lookF t (allN t)) H4
  have n5 := f5.n
  have a5 : Heap.at H5 0 = .blk [.c (I 0), .c (I 0)] := (f5.keep 0 (by omega) (fun x => x)).trans ((f4.keep 0 (by omega) (by omega)).trans ((f3.keep 0 (by omega) (fun x => x)).trans a2))
  refine mixed_by (hm := false) (by kernel_rfl) (by kernel_rfl) ?_
  conv => whnf
  refine ⟨_, rfl, ?_⟩
  conv => whnf
  refine ⟨_, b2, ?_⟩
  conv => whnf
  refine ⟨_, b2, ?_⟩
  conv => whnf
  refine .heavy _ H3 (.inl hc3) ?_
  conv => whnf
  refine .heavy _ H4 (.inl hc4) ?_
  conv => whnf
  cases hl : lookF t (allN t) with
  | none =>
    rw [hl] at he5 hc5
    subst he5
    refine .heavy _ H5 (.inl hc5) ?_
    conv => whnf
    refine mOps_list (l' := [6]) (by kernel_rfl) ?_
    conv => whnf
    refine ⟨_, rfl, ?_⟩
    conv => whnf
    refine ⟨by kernel_rfl, ?_, ?_⟩
    · exact heaps_eq (l' := [(H1.n, H2, H3)]) (by kernel_rfl) (heaps_cons (f3.keep _ (by omega) (fun x => x)) (by simp [HeapsOk]))
    intro ds
    conv => whnf
    rfl
  | some d =>
    rw [hl] at he5 hc5
    subst he5
    have hinv := (look_some (validT_X hd) hl).1
    obtain ⟨D, hD⟩ : ∃ D, D = matC d := ⟨_, rfl⟩
    have hcd := hcount D d hD hinv
    rw [sureEnd, matV, ← hD] at hc5
    refine .heavy _ H5 (.inl hc5) ?_
    conv => whnf
    refine ⟨_, rfl, ?_⟩
    conv => whnf
    refine .ret _ _ hcd rfl ?_
    conv => whnf
    refine ⟨_, a5, ?_⟩
    conv => whnf
    refine ⟨by show 0 < H5.n; omega, ?_⟩
    conv => whnf
    refine ⟨by kernel_rfl, ?_, ?_⟩
    · exact heaps_eq (l' := [(H1.n, H2, H3)]) (by kernel_rfl) (heaps_cons (f3.keep _ (by omega) (fun x => x)) (by simp [HeapsOk]))
    conv => whnf
    refine ⟨_, at_set_self _ _ (i := 0) (by omega), ?_⟩
    conv => whnf
    rfl
set_option maxHeartbeats 2000000 in
theorem find_strays {v : TV} {t : Td} (hv : v.Is t) (hd : validT t = true) {k : Nat} {f g : Nat} (hcount : ∀ C d, C = matC d → Inv12 d → Ret Try.prog 63 [.agg C, .agg [I k, I k]] (spV (spanD d f g))) :
    CallOk Try.prog 93 ([tP v, .cptr [.func (.func 63) [] []] 0, .cptr [I k, I k] 0].map .c) TMap.nil .no (spanEnd ((lookF t (allN t)).map fun d => spanD d f g)) TMap.nil .no := by
  have ha := allN_lt hd
  refine close_any (spanEnd_c _) ?_
  refine call_by (hm := false) Try.func93 rfl ?_
  conv => whnf
  refine ⟨_, rfl, ?_⟩
  conv => whnf
  obtain ⟨e1, H1, hc1, m, rfl, hm0, hm1, hI1, f1⟩ := know_ret v t (TMap.push .dead TMap.nil (.blk [.c (I 0), .c (I 0)]))
  refine .inl _ H1 .no hc1 ?_
  conv => whnf
  have n1 : 1 ≤ H1.n := f1.n
  have a1 : Heap.at H1 0 = .blk [.c (I 0), .c (I 0)] := (f1.keep 0 (Nat.lt_succ_self 0) (fun x => x)).trans (at_push_self _ _)
  refine ⟨_, at_push_self _ _, ?_⟩
  conv => whnf
  generalize hH2 : TMap.set AB.dead (TMap.push AB.dead H1 _) _ _ = H2
  have n2 : H2.n = H1.n + 1 := by rw [← hH2]; exact new_n _ _ _
  have a2 : Heap.at H2 0 = .blk [.c (I 0), .c (I 0)] := by rw [← hH2]; exact (at_old _ _ _ (by omega)).trans a1
  have b2 : Heap.at H2 H1.n = knBlk v m := by rw [← hH2]; exact at_new _ _ _
  have i2 : KMap t (Heap.at H2 m) := kMap_eq (by rw [← hH2]; exact at_old _ _ _ hm1) hI1
  clear hH2
  have hm0' : 1 ≤ m := hm0
  obtain ⟨e3, H3, hc3, rfl, f3⟩ := all_ret hv (validT_X hd) m H2
  have n3 := f3.n
  obtain ⟨e4, H4, hc4, rfl, f4, i4⟩ := look_ret hv (validT_X hd) (s := allN t) (pow62 ha).1 (m := m) (h := H3) (by omega) (kMap_eq (f3.keep m (by omega) (fun x => x)) i2)
  have n4 := f4.n
  obtain ⟨e5, H5, hc5, he5, f5⟩ := sure_at (lookF t (allN t)) H4
  have n5 := f5.n
  have a5 : Heap.at H5 0 = .blk [.c (I 0), .c (I 0)] := (f5.keep 0 (by omega) (fun x => x)).trans ((f4.keep 0 (by omega) (by omega)).trans ((f3.keep 0 (by omega) (fun x => x)).trans a2))
  refine mixed_by (hm := false) (by kernel_rfl) (by kernel_rfl) ?_
  conv => whnf
  refine ⟨_, rfl, ?_⟩
  conv => whnf
  refine ⟨_, b2, ?_⟩
  conv => whnf
  refine ⟨_, b2, ?_⟩
  conv => whnf
  refine .heavy _ H3 (.inl hc3) ?_
  conv => whnf
  refine .heavy _ H4 (.inl hc4) ?_
  conv => whnf
  cases hl : lookF t (allN t) with
  | none =>
    rw [hl] at he5 hc5
    subst he5
    refine .heavy _ H5 (.inl hc5) ?_
    conv => whnf
    refine mOps_list (l' := [6]) (by kernel_rfl) ?_
    conv => whnf
    refine ⟨_, rfl, ?_⟩
    conv => whnf
    refine ⟨by kernel_rfl, ?_, ?_⟩
    · exact heaps_eq (l' := [(H1.n, H2, H3)]) (by kernel_rfl) (heaps_cons (f3.keep _ (by omega) (fun x => x)) (by simp [HeapsOk]))
    intro ds
    conv => whnf
    rfl
  | some d =>
    rw [hl] at he5 hc5
    subst he5
    have hinv := (look_some (validT_X hd) hl).1
    obtain ⟨D, hD⟩ : ∃ D, D = matC d := ⟨_, rfl⟩
    have hcd := hcount D d hD hinv
    rw [sureEnd, matV, ← hD] at hc5
    refine .heavy _ H5 (.inl hc5) ?_
    conv => whnf
    refine ⟨_, rfl, ?_⟩
    conv => whnf
    refine .ret _ _ hcd rfl ?_
    conv => whnf
    refine ⟨_, a5, ?_⟩
    conv => whnf
    refine ⟨by show 0 < H5.n; omega, ?_⟩
    conv => whnf
    refine ⟨by kernel_rfl, ?_, ?_⟩
    · exact heaps_eq (l' := [(H1.n, H2, H3)]) (by kernel_rfl) (heaps_cons (f3.keep _ (by omega) (fun x => x)) (by simp [HeapsOk]))
    conv => whnf
    refine ⟨_, at_set_self _ _ (i := 0) (by omega), ?_⟩
    conv => whnf
    rfl

/-- What is found, or the error. -/
def spanA (o : Option (Int × Int)) : CV := match o with
  | some s => .tuple [spV s, I 0]
  | none => .tuple [spV (0, 0), I 10]
theorem answer_span {fn : FuncId} {a b c : CV} {o : Option (Int × Int)} (hf : fn = 89 ∨ fn = 93) (hc : CallOk Try.prog fn ([a, b, c].map .c) TMap.nil .no (spanEnd o) TMap.nil .no) : Ret Try.prog 88 [.func (.func fn) [] [a, b, c]] (spanA o) := by
  rcases hf with rfl | rfl
  all_goals
    refine ret_by (hm := true) Try.func88 rfl ?_
    conv => whnf
    cases o with
    | none =>
      refine .pure [a, b, c] _ rfl hc ⟨_, rfl⟩ ?_
      conv => whnf
      refine .mk _ _ _ (caughtS_live (c := 10) (c0 := 10) rfl) ?_
      conv => whnf
      exact .val
    | some s =>
      refine .pure [a, b, c] _ rfl hc ⟨_, rfl⟩ ?_
      conv => whnf
      refine .mk _ _ _ (caughtS_no _ _) ?_
      conv => whnf
      exact .val
theorem spanOf_counted {v : TV} {t : Td} (hv : v.Is t) (hd : validT t = true) {ty : TypeId} {x : CV} {f g : Nat} (hcount : ∀ C d, C = matC d → Inv12 d → Ret Try.prog 60 [.agg C, .iface ty x] (spV (spanD d f g))) :
    Ret Try.prog 58 [v.cv, .iface ty x, .func (.func 60) [] []] (spanA ((lookF t (allN t)).map fun d => spanD d f g)) := by
  have hc := answer_span (.inl rfl) (find_counted hv hd hcount)
  refine ret_by (hm := true) Try.func58 rfl ?_
  conv => whnf
  cases hsp : (lookF t (allN t)).map fun d => spanD d f g with
  | none =>
    rw [hsp] at hc
    refine .snapped 20 _ _ _ _ rfl hc rfl ?_
    conv => whnf
    exact .val
  | some s =>
    rw [hsp] at hc
    refine .snapped 20 _ _ _ _ rfl hc rfl ?_
    conv => whnf
    exact .val
theorem spanOf_strays {v : TV} {t : Td} (hv : v.Is t) (hd : validT t = true) {k f g : Nat} (hcount : ∀ C d, C = matC d → Inv12 d → Ret Try.prog 63 [.agg C, .agg [I k, I k]] (spV (spanD d f g))) :
    Ret Try.prog 62 [v.cv, .agg [I k, I k], .func (.func 63) [] []] (spanA ((lookF t (allN t)).map fun d => spanD d f g)) := by
  have hc := answer_span (.inr rfl) (find_strays hv hd hcount)
  refine ret_by (hm := true) Try.func62 rfl ?_
  conv => whnf
  cases hsp : (lookF t (allN t)).map fun d => spanD d f g with
  | none =>
    rw [hsp] at hc
    refine .snapped 20 _ _ _ _ rfl hc rfl ?_
    conv => whnf
    exact .val
  | some s =>
    rw [hsp] at hc
    refine .snapped 20 _ _ _ _ rfl hc rfl ?_
    conv => whnf
    exact .val

/-! What is returned. -/
def spanR (t : Td) (ok : Bool) (f g : Nat) : (Int × Int) × Int :=
  if validT t = false then ((0, 0), 1) else if ok = false then ((0, 0), 2) else match lookF t (allN t) with
    | some d => (spanD d f g, 0)
    | none => ((0, 0), 10)
def spRV (r : (Int × Int) × Int) : CV := .tuple [spV r.1, I r.2]
theorem inB_nat {n k : Int} (h : inB' n 0 (k - 1) = true) : ∃ j : Nat, n = j ∧ (j : Int) < k := by
  simp only [inB', Bool.and_eq_true, decide_eq_true_eq] at h
  exact ⟨n.toNat, by omega, by omega⟩
theorem together_ret {v : TV} {t : Td} (hv : v.Is t) (a b : Int) : Ret Try.prog 25 [v.cv, I a, I b] (spRV (spanR t (inB' a 0 (t.n - 1) && (inB' b 0 (t.n - 1) && !decide (a > b))) a.toNat (b.toNat + 1))) := by
  unfold spanR
  refine ret_by (hm := true) Try.func25 rfl ?_
  conv => whnf
  refine .ret (valid_ret hv) rfl ?_
  conv => whnf
  cases h1 : validT t
  · conv => whnf
    exact .val
  have h5 := valid_nums h1
  have hn : inB' t.n 1 5 = true := by simp [inB']; omega
  conv => whnf
  refine .ret (isShearer_ret hv hn _) rfl ?_
  conv => whnf
  cases h2 : inB' a 0 (t.n - 1)
  · conv => whnf
    exact .val
  conv => whnf
  refine .ret (isShearer_ret hv hn _) rfl ?_
  conv => whnf
  cases h3 : inB' b 0 (t.n - 1)
  · conv => whnf
    exact .val
  conv => whnf
  cases h4 : decide (a > b)
  case true =>
    conv => whnf
    exact .val
  obtain ⟨i, rfl, hi⟩ := inB_nat h2
  obtain ⟨j, rfl, hj⟩ := inB_nat h3
  have hc := spanOf_counted hv h1 (ty := 96) (x := .agg [I i, I j]) (f := 0 * 6 + i) (g := 0 * 6 + (j + 1)) (fun C d hC hd => countS_ret hC hd.nar (a := i) (b := j) (by omega) (by omega))
  rw [Nat.zero_mul, Nat.zero_add, Nat.zero_add] at hc
  simp only [Int.toNat_natCast]
  conv => whnf
  cases hl : lookF t (allN t) with
  | none =>
    rw [hl] at hc
    refine .ret hc rfl ?_
    conv => whnf
    exact .val
  | some d =>
    rw [hl] at hc
    refine .ret hc rfl ?_
    conv => whnf
    exact .val
end Go.Ag
/- Layer 5: what each has shorn, pens, strays; whether a call can be right. -/
namespace Go.Ag
open Go.Proofs
set_option maxRecDepth 100000

theorem shorn_ret {v : TV} {t : Td} (hv : v.Is t) (a : Int) : Ret Try.prog 22 [v.cv, I a] (spRV (spanR t (inB' a 0 (t.n - 1)) a.toNat (a.toNat + 1))) := by
  have ht := together_ret hv a a
  have e : (inB' a 0 (t.n - 1) && (inB' a 0 (t.n - 1) && !decide (a > a))) = inB' a 0 (t.n - 1) := by
    cases inB' a 0 (t.n - 1) <;> simp
  rw [e] at ht
  refine ret_by (hm := true) Try.func22 rfl ?_
  conv => whnf
  refine .ret ht rfl ?_
  conv => whnf
  exact .val
theorem pen_ret' {v : TV} {t : Td} (hv : v.Is t) (a : Int) : Ret Try.prog 23 [v.cv, I a] (spRV (spanR t (inB' a 0 (t.n - 1)) (6 + a.toNat) (6 + (a.toNat + 1)))) := by
  unfold spanR
  refine ret_by (hm := true) Try.func23 rfl ?_
  conv => whnf
  refine .ret (valid_ret hv) rfl ?_
  conv => whnf
  cases h1 : validT t
  · conv => whnf
    exact .val
  have h5 := valid_nums h1
  have hn : inB' t.n 1 5 = true := by simp [inB']; omega
  conv => whnf
  refine .ret (isShearer_ret hv hn _) rfl ?_
  conv => whnf
  cases h2 : inB' a 0 (t.n - 1)
  · conv => whnf
    exact .val
  obtain ⟨i, rfl, hi⟩ := inB_nat h2
  have hc := spanOf_counted hv h1 (ty := 99) (x := .agg [I i, I i]) (f := 1 * 6 + i) (g := 1 * 6 + (i + 1)) (fun C d hC hd => countP_ret hC hd.nar (a := i) (b := i) (by omega) (by omega))
  rw [Nat.one_mul] at hc
  simp only [Int.toNat_natCast]
  conv => whnf
  refine draw_by (hm := true) (by kernel_rfl) (by kernel_rfl) ?_
  conv => whnf
  refine .ret (only_ret _) rfl ?_
  conv => whnf
  cases hl : lookF t (allN t) with
  | none =>
    rw [hl] at hc
    refine .ret hc rfl ?_
    conv => whnf
    refine ⟨(show 1 < 2 by decide), ?_⟩
    conv => whnf
    refine ⟨by kernel_rfl, ?_⟩
    conv => whnf
    exact .val
  | some d =>
    rw [hl] at hc
    refine .ret hc rfl ?_
    conv => whnf
    refine ⟨(show 1 < 2 by decide), ?_⟩
    conv => whnf
    refine ⟨by kernel_rfl, ?_⟩
    conv => whnf
    exact .val
theorem stray_ret {v : TV} {t : Td} (hv : v.Is t) (a : Int) : Ret Try.prog 24 [v.cv, I a] (spRV (spanR t (inB' a 0 (t.n - 2)) (6 + (a.toNat + 1)) (a.toNat + 1))) := by
  have e1 := hv.sn
  have e2 := hv.short
  unfold spanR
  refine ret_by (hm := true) Try.func24 rfl ?_
  conv => whnf
  refine .ret (valid_ret hv) rfl ?_
  conv => whnf
  cases h1 : validT t
  · conv => whnf
    exact .val
  have h5 := valid_nums h1
  conv => whnf
  refine ⟨t.n - 2, by rw [wrap_eq (by omega) (by omega)]; omega, ?_⟩
  conv => whnf
  refine .ret (within_ret _ _ _) rfl ?_
  conv => whnf
  cases h2 : inB' a 0 (t.n - 2)
  · conv => whnf
    exact .val
  obtain ⟨i, rfl, hi⟩ := inB_nat (n := a) (k := t.n - 1) (by rw [show t.n - 1 - 1 = t.n - 2 by omega]; exact h2)
  have hc := spanOf_strays hv h1 (k := i) (f := 1 * 6 + (i + 1)) (g := 0 * 6 + (i + 1)) (fun C d hC hd => strays_ret hC hd.nar (k := i) (by omega))
  rw [Nat.one_mul, Nat.zero_mul, Nat.zero_add] at hc
  simp only [Int.toNat_natCast]
  conv => whnf
  refine draw_by (hm := true) (by kernel_rfl) (by kernel_rfl) ?_
  conv => whnf
  refine .ret (only_ret _) rfl ?_
  conv => whnf
  cases hl : lookF t (allN t) with
  | none =>
    rw [hl] at hc
    refine .ret hc rfl ?_
    conv => whnf
    refine ⟨(show 1 < 2 by decide), ?_⟩
    conv => whnf
    refine ⟨by kernel_rfl, ?_⟩
    conv => whnf
    exact .val
  | some d =>
    rw [hl] at hc
    refine .ret hc rfl ?_
    conv => whnf
    refine ⟨(show 1 < 2 by decide), ?_⟩
    conv => whnf
    refine ⟨by kernel_rfl, ?_⟩
    conv => whnf
    exact .val
theorem howSure_ret (a b : Bool) : Ret Try.prog 98 [B a, B b] (I (if a then 2 else if b then 1 else 0)) := by
  refine ret_by (hm := true) Try.func98 rfl ?_
  conv => whnf
  cases a
  · conv => whnf
    cases b
    · conv => whnf
      exact .val
    · conv => whnf
      exact .val
  · conv => whnf
    exact .val
end Go.Ag
