/- Sets by their size; which tests clash (without its law). No conditions. -/
import Derived.Test.YtbiamnobiechmaaGreatBuB
/- Layer 7: sets by their size, and the first one that suits. -/
namespace Go.Ag
open Go.Proofs
set_option maxRecDepth 100000

def setsOf (m k j : Nat) : List Nat := (List.range' j (2 ^ m - j)).filter fun s => popB s == k
def sizesFrom (m k : Nat) : List Nat := (List.range' k (m + 1 - k)).flatMap fun k => setsOf m k 0
def bySize (m : Nat) : List Nat := sizesFrom m 0
def bySizeC (m : Nat) : CV := .func (.func 129) [] [.cptr [I m] 0]
theorem sizes_cons {m k : Nat} (h : k ≤ m) : sizesFrom m k = setsOf m k 0 ++ sizesFrom m (k + 1) := by
  unfold sizesFrom
  rw [show m + 1 - k = (m + 1 - (k + 1)) + 1 by omega, List.range'_succ, List.flatMap_cons]
theorem sizes_nil {m k : Nat} (h : m < k) : sizesFrom m k = [] := by
  unfold sizesFrom
  rw [show m + 1 - k = 0 by omega]; rfl
theorem setsOf_cons {m k j : Nat} (h : j < 2 ^ m) : setsOf m k j = if popB j == k then j :: setsOf m k (j + 1) else setsOf m k (j + 1) := by
  unfold setsOf
  rw [show 2 ^ m - j = (2 ^ m - (j + 1)) + 1 by omega, List.range'_succ, List.filter_cons]
theorem setsOf_nil {m k j : Nat} (h : 2 ^ m ≤ j) : setsOf m k j = [] := by
  unfold setsOf
  rw [show 2 ^ m - j = 0 by omega]; rfl
theorem mem_bySize {m s : Nat} : s ∈ bySize m ↔ s < 2 ^ m ∧ popB s ≤ m := by
  unfold bySize sizesFrom setsOf
  simp only [List.mem_flatMap, List.mem_filter, List.mem_range', beq_iff_eq]
  constructor
  · rintro ⟨k, ⟨i, h1, rfl⟩, ⟨j, h2, rfl⟩, h3⟩; omega
  · rintro ⟨h1, h2⟩; exact ⟨popB s, ⟨popB s, by omega, by omega⟩, ⟨s, by omega, by omega⟩, rfl⟩

theorem bySize_ret (m : Nat) : Ret Tryz.prog 103 [I m] (bySizeC m) := by
  refine ret_by (hm := true) Tryz.func103 rfl ?_
  conv => whnf
  exact ⟨10, [0], rfl⟩

set_option maxHeartbeats 2000000 in
theorem bySize_iter {m : Nat} (hm8 : m ≤ 6) : IterA Tryz.prog (fun _ => True) (.c (bySizeC m)) (chs (bySize m)) := by
  have h32 : 1 ≤ 2 ^ m ∧ 2 ^ m ≤ 64 := pow_b hm8
  refine ⟨129, [], [.c (.cptr [I m] 0)], fun args => by kernel_rfl, fun id n0 J D X R _ hid h0 hn0 hJ => ?_⟩
  refine call_by (hm := false) Tryz.func129 rfl ?_
  conv => whnf
  refine ⟨_, rfl, ?_⟩
  conv => whnf
  refine ⟨((m + 1 : Nat) : Int), by rw [wrap_eq (by omega) (by omega)]; omega, ?_⟩
  conv => whnf
  refine loop_by (I := fun q s => ∃ (k : Nat) (h : Heap), k ≤ m + 1 ∧ q = m + 1 - k ∧ n0 ≤ h.n ∧ J none' (chs (sizesFrom m k)) h ∧
    Has s 27 [(0, .yield id), (1, .c (.cptr [I m] 0)), (6, .c (I ((m + 1 : Nat) : Int))), (7, .c (I k))] [] none h) ?_ (k := m + 1)
    ⟨0, _, Nat.zero_le _, rfl, hn0, hJ, rfl, ⟨rfl, rfl, rfl, rfl, trivial⟩, rfl, rfl, rfl, rfl⟩
  rintro q s ⟨k, h, hk, rfl, hn, hJ, hs⟩
  refine hs.run (hm := false) ?_
  conv => whnf
  cases hc : decide ((k : Int) < ((m + 1 : Nat) : Int))
  · have hkm : m < k := by simp at hc; omega
    rw [sizes_nil hkm, chs_nil] at hJ
    conv => whnf
    exact ⟨hn, .inl hJ⟩
  have hkm : k ≤ m := by simp at hc; omega
  rw [sizes_cons hkm] at hJ
  conv => whnf
  refine ⟨_, rfl, ?_⟩
  conv => whnf
  refine ⟨by omega, _, shl_nat 1 m (by omega) (by omega), ?_⟩
  conv => whnf
  rw [Nat.one_mul]
  refine loop_by (I := fun q s => ∃ (j : Nat) (h : Heap), j ≤ 2 ^ m ∧ q = 2 ^ m - j ∧ n0 ≤ h.n ∧ J none' (chs (setsOf m k j ++ sizesFrom m (k + 1))) h ∧
    Has s 27 [(0, .yield id), (1, .c (.cptr [I m] 0)), (3, .c (I k)), (6, .c (I ((m + 1 : Nat) : Int))), (7, .c (I k)), (11, .c (I ((2 ^ m : Nat) : Int))), (12, .c (I j))] [] none h) ?_ (k := 2 ^ m)
    ⟨0, _, Nat.zero_le _, rfl, hn, hJ, rfl, ⟨rfl, rfl, rfl, rfl, rfl, rfl, rfl, trivial⟩, rfl, rfl, rfl, rfl⟩
  rintro q s ⟨j, h1, hj, rfl, hn1, hJ1, hs1⟩
  refine hs1.run (hm := false) ?_
  conv => whnf
  cases hc1 : decide ((j : Int) < ((2 ^ m : Nat) : Int))
  · have hj2 : 2 ^ m ≤ j := by simp at hc1; exact_mod_cast hc1
    rw [setsOf_nil hj2, List.nil_append] at hJ1
    conv => whnf
    refine ⟨((k + 1 : Nat) : Int), by rw [wrap_eq (by omega) (by omega)]; omega, ?_⟩
    conv => whnf
    exact ⟨m + 1 - (k + 1), by omega, k + 1, h1, by omega, rfl, hn1, hJ1, rfl, ⟨rfl, rfl, rfl, rfl, trivial⟩, rfl, rfl, rfl, rfl⟩
  have hj2 : j < 2 ^ m := by have := of_decide_eq_true hc1; exact_mod_cast this
  rw [setsOf_cons hj2] at hJ1
  conv => whnf
  refine .ret (size_ret (n := j) (by omega)) rfl ?_
  conv => whnf
  cases hp : ((popB j : Int) == (k : Int))
  · have hp' : (popB j == k) = false := by
      have := beq_eq_false_iff_ne.1 hp
      exact beq_eq_false_iff_ne.2 (by omega)
    rw [hp'] at hJ1
    conv => whnf
    refine ⟨((j + 1 : Nat) : Int), by rw [wrap_eq (by omega) (by omega)]; omega, ?_⟩
    conv => whnf
    exact ⟨2 ^ m - (j + 1), by omega, j + 1, _, by omega, rfl, hn1, hJ1, rfl, ⟨rfl, rfl, rfl, rfl, rfl, rfl, rfl, trivial⟩, rfl, rfl, rfl, rfl⟩
  · have hp' : (popB j == k) = true := by
      have := beq_iff_eq.1 hp
      exact beq_iff_eq.2 (by omega)
    rw [hp'] at hJ1
    have hJ2 : J none' ([I (j : Nat)] :: chs (setsOf m k (j + 1) ++ sizesFrom m (k + 1))) h1 := hJ1
    conv => whnf
    refine .mk ((R.round _ _ _ _ hJ2 hn1 (fun i hi => hi.elim)).mono ?_ ?_)
    · rintro b h' ⟨hf, hk⟩
      have n' := hf.n
      have n3 : n0 ≤ h'.n := by omega
      cases b
      · conv => whnf
        exact ⟨n3, .inr hk⟩
      · conv => whnf
        refine ⟨((j + 1 : Nat) : Int), by rw [wrap_eq (by omega) (by omega)]; omega, ?_⟩
        conv => whnf
        exact ⟨2 ^ m - (j + 1), by omega, j + 1, h', by omega, rfl, n3, hk, rfl, ⟨rfl, rfl, rfl, rfl, rfl, rfl, rfl, trivial⟩, rfl, rfl, rfl, rfl⟩
    · rintro v h' ⟨hx, hn', hf⟩
      exact ⟨hn', hx⟩

def firstC (err : Int) (o : Option Nat) : AEnd := match o with
  | some y => .ret (.c (I (y : Nat)))
  | none => .panic (errV err)
theorem first_endI (err : Int) (o : Option Nat) : firstC err o = endI (o.map fun n => ((n : Nat) : Int)) err := by cases o <;> rfl
set_option maxHeartbeats 1000000 in
theorem first_clash {a : Nat} {err : Int} {it : CV} {ys : List Nat} (hit : IterA Tryz.prog (fun _ => True) (.c it) (chs ys)) {p : Nat → Bool} {h : Heap}
    (hs : ∀ y, y ∈ ys → ∀ h1, Foot none' h h1 → ∃ e h2, CallOk Tryz.prog 121 [.c (I (y : Nat)), .ptr a 0] h1 .no e h2 .no ∧ (e = .ret (.c (B (p y))) ∧ Foot none' h1 h2)) :
    ∃ e h', CallOk Tryz.prog 102 [.c it, .agg [.func (.func 121) [] [.ptr a 0], .c (I err)]] h .no e h' .no ∧ (e = firstC err (ys.find? p) ∧ Foot none' h h') := by
  refine call_by (hm := false) Tryz.func102 rfl ?_
  conv => whnf
  refine range_nA (hm := false) (h.n + 2) rfl (ps := [7]) rfl rfl hit
    (I := fun _ l h1 => Heap.at h1 h.n = .blk [.func (.func 121) [] [.ptr a 0], .c (I err)] ∧ Heap.at h1 (h.n + 1) = .blk [.c (I 0)] ∧ Foot none' h h1 ∧ ∃ done rest, l = chs rest ∧ ys = done ++ rest ∧ ∀ y ∈ done, p y = false)
    (E := fun _ e h1 => e = .ret ∧ ∃ y, ys.find? p = some y ∧ Heap.at h1 (h.n + 1) = .blk [.c (I (y : Nat))] ∧ Foot none' h h1) (X := fun _ _ _ => False) ?_ ?_ ?_ ?_ ?_ ?_ ?_ ?_ ?_ ?_ ?_ ?_
  · rintro W l h1 h2 ⟨k1, k2, k3, k5⟩ hn hw ff0
    have ff := ff0.high hw
    exact ⟨(ff.below hn (by omega)).trans k1, (ff.below hn (by omega)).trans k2, k3.trans_up ff (by omega), k5⟩
  · rintro W e h1 h2 ⟨k1, y, k2, k3, k4⟩ hn hw ff0
    have ff := ff0.high hw
    exact ⟨k1, y, k2, (ff.below hn (by omega)).trans k3, k4.trans_up ff (by omega)⟩
  · rintro _ _ _ _ hx
    exact hx.elim
  · rintro _ _ _ _ hx _
    exact hx
  · rintro _ _ _ _ hx _
    exact hx
  · rintro _ _ _ _ hx _
    exact hx
  · intro _ _ _ _
    trivial
  · exact ⟨(at_push_lt _ _ (by rw [push_n]; omega)).trans (at_push_self _ _), at_push_self _ _, ((Foot.refl _ _).push _).push _, [], ys, rfl, rfl, by simp⟩
  · rintro W y l h1 hn hw ⟨k1, k2, k3, done, rest, e1, e2, e3⟩
    cases rest with
    | nil => cases e1
    | cons y0 rest =>
    obtain ⟨rfl, rfl⟩ := List.cons.inj e1
    refine ⟨rfl, ?_⟩
    conv => whnf
    refine ⟨Foot.refl _ _, fun hb fb hbn => ?_⟩
    have n1 : h.n + 2 + 2 ≤ h1.n := hn
    have b1 : Heap.at hb h.n = .blk [.func (.func 121) [] [.ptr a 0], .c (I err)] := (fb.keep h.n (by omega) (by omega)).trans k1
    have b2 : Heap.at hb (h.n + 1) = .blk [.c (I 0)] := (fb.keep (h.n + 1) (by omega) (by omega)).trans k2
    have b3 : Foot none' h hb := k3.trans_up (N := h.n) (fb.mono fun i _ hi => by omega) (Nat.le_refl _)
    obtain ⟨e, h2, hc, rfl, f2⟩ := hs y0 (by rw [e2]; simp) hb b3
    have c1 := (f2.keep (h.n + 1) (by omega) (fun x => x)).trans b2
    have c0 := (f2.keep h.n (by omega) (fun x => x)).trans b1
    have hn2 := f2.n
    conv => whnf
    refine ⟨_, b1, ?_⟩
    conv => whnf
    refine .inl _ h2 .no hc ?_
    conv => whnf
    have fend : Foot (apart W (h.n + 2)) hb h2 := f2.mono fun i _ hi => hi.elim
    cases hp : p y0
    · conv => whnf
      exact ⟨fend, c0, c1, b3.trans f2, done ++ [y0], rest, rfl, by rw [e2]; simp, fun z hz => by
        rcases List.mem_append.1 hz with h | h
        · exact e3 z h
        · rw [List.mem_singleton] at h; rw [h]; exact hp⟩
    · conv => whnf
      refine ⟨_, c1, ?_⟩
      conv => whnf
      refine ⟨Foot.set (W := apart W (h.n + 2)) (k := h.n + 1) fend (.inl (apart_lt (fun i hi => (hw i hi).1) (by omega))) _, rfl, y0, ?_, at_set_self _ _ (i := h.n + 1) (by omega), Foot.set (W := none') (k := h.n + 1) (b3.trans f2) (.inr (by omega)) _⟩
      rw [e2, List.find?_append]
      have : done.find? p = none := List.find?_eq_none.2 fun x hx => by rw [e3 x hx]; simp
      rw [this]
      simp [hp]
  · rintro h1 hn hc ⟨k1, k2, k3, done, rest, e1, e2, e3⟩
    have : rest = [] := by cases rest with | nil => rfl | cons a l => cases e1
    subst this
    have hnone : ys.find? p = none := List.find?_eq_none.2 fun x hx => by rw [e2, List.append_nil] at hx; rw [e3 x hx]; simp
    rw [hnone]
    conv => whnf
    refine ⟨_, k1, ?_⟩
    conv => whnf
    refine ⟨_, hc, ?_⟩
    conv => whnf
    exact ⟨rfl, Foot.set (W := none') (k := h.n + 2) k3 (.inr (by omega)) _⟩
  · rintro e h1 hn hc ⟨rfl, y, k2, k3, k4⟩ _
    rw [k2]
    conv => whnf
    refine ⟨_, hc, ?_⟩
    conv => whnf
    refine ⟨_, (at_set_ne _ _ (i := h.n + 1) (k := h.n + 2) (by omega)).trans k3, ?_⟩
    conv => whnf
    exact ⟨rfl, Foot.set (W := none') (k := h.n + 2) k4 (.inr (by omega)) _⟩
  · rintro x h1 _ _ hx
    exact hx.elim
set_option maxHeartbeats 1000000 in
theorem first_tell {a b : Nat} {err : Int} {it : CV} {ys : List Nat} (hit : IterA Tryz.prog (fun _ => True) (.c it) (chs ys)) {p : Nat → Bool} {h : Heap}
    (hs : ∀ y, y ∈ ys → ∀ h1, Foot none' h h1 → ∃ e h2, CallOk Tryz.prog 104 [.c (I (y : Nat)), .ptr a 0, .ptr b 0] h1 .no e h2 .no ∧ (e = .ret (.c (B (p y))) ∧ Foot none' h1 h2)) :
    ∃ e h', CallOk Tryz.prog 102 [.c it, .agg [.func (.func 104) [] [.ptr a 0, .ptr b 0], .c (I err)]] h .no e h' .no ∧ (e = firstC err (ys.find? p) ∧ Foot none' h h') := by
  refine call_by (hm := false) Tryz.func102 rfl ?_
  conv => whnf
  refine range_nA (hm := false) (h.n + 2) rfl (ps := [7]) rfl rfl hit
    (I := fun _ l h1 => Heap.at h1 h.n = .blk [.func (.func 104) [] [.ptr a 0, .ptr b 0], .c (I err)] ∧ Heap.at h1 (h.n + 1) = .blk [.c (I 0)] ∧ Foot none' h h1 ∧ ∃ done rest, l = chs rest ∧ ys = done ++ rest ∧ ∀ y ∈ done, p y = false)
    (E := fun _ e h1 => e = .ret ∧ ∃ y, ys.find? p = some y ∧ Heap.at h1 (h.n + 1) = .blk [.c (I (y : Nat))] ∧ Foot none' h h1) (X := fun _ _ _ => False) ?_ ?_ ?_ ?_ ?_ ?_ ?_ ?_ ?_ ?_ ?_ ?_
  · rintro W l h1 h2 ⟨k1, k2, k3, k5⟩ hn hw ff0
    have ff := ff0.high hw
    exact ⟨(ff.below hn (by omega)).trans k1, (ff.below hn (by omega)).trans k2, k3.trans_up ff (by omega), k5⟩
  · rintro W e h1 h2 ⟨k1, y, k2, k3, k4⟩ hn hw ff0
    have ff := ff0.high hw
    exact ⟨k1, y, k2, (ff.below hn (by omega)).trans k3, k4.trans_up ff (by omega)⟩
  · rintro _ _ _ _ hx
    exact hx.elim
  · rintro _ _ _ _ hx _
    exact hx
  · rintro _ _ _ _ hx _
    exact hx
  · rintro _ _ _ _ hx _
    exact hx
  · intro _ _ _ _
    trivial
  · exact ⟨(at_push_lt _ _ (by rw [push_n]; omega)).trans (at_push_self _ _), at_push_self _ _, ((Foot.refl _ _).push _).push _, [], ys, rfl, rfl, by simp⟩
  · rintro W y l h1 hn hw ⟨k1, k2, k3, done, rest, e1, e2, e3⟩
    cases rest with
    | nil => cases e1
    | cons y0 rest =>
    obtain ⟨rfl, rfl⟩ := List.cons.inj e1
    refine ⟨rfl, ?_⟩
    conv => whnf
    refine ⟨Foot.refl _ _, fun hb fb hbn => ?_⟩
    have n1 : h.n + 2 + 2 ≤ h1.n := hn
    have b1 : Heap.at hb h.n = .blk [.func (.func 104) [] [.ptr a 0, .ptr b 0], .c (I err)] := (fb.keep h.n (by omega) (by omega)).trans k1
    have b2 : Heap.at hb (h.n + 1) = .blk [.c (I 0)] := (fb.keep (h.n + 1) (by omega) (by omega)).trans k2
    have b3 : Foot none' h hb := k3.trans_up (N := h.n) (fb.mono fun i _ hi => by omega) (Nat.le_refl _)
    obtain ⟨e, h2, hc, rfl, f2⟩ := hs y0 (by rw [e2]; simp) hb b3
    have c1 := (f2.keep (h.n + 1) (by omega) (fun x => x)).trans b2
    have c0 := (f2.keep h.n (by omega) (fun x => x)).trans b1
    have hn2 := f2.n
    conv => whnf
    refine ⟨_, b1, ?_⟩
    conv => whnf
    refine .inl _ h2 .no hc ?_
    conv => whnf
    have fend : Foot (apart W (h.n + 2)) hb h2 := f2.mono fun i _ hi => hi.elim
    cases hp : p y0
    · conv => whnf
      exact ⟨fend, c0, c1, b3.trans f2, done ++ [y0], rest, rfl, by rw [e2]; simp, fun z hz => by
        rcases List.mem_append.1 hz with h | h
        · exact e3 z h
        · rw [List.mem_singleton] at h; rw [h]; exact hp⟩
    · conv => whnf
      refine ⟨_, c1, ?_⟩
      conv => whnf
      refine ⟨Foot.set (W := apart W (h.n + 2)) (k := h.n + 1) fend (.inl (apart_lt (fun i hi => (hw i hi).1) (by omega))) _, rfl, y0, ?_, at_set_self _ _ (i := h.n + 1) (by omega), Foot.set (W := none') (k := h.n + 1) (b3.trans f2) (.inr (by omega)) _⟩
      rw [e2, List.find?_append]
      have : done.find? p = none := List.find?_eq_none.2 fun x hx => by rw [e3 x hx]; simp
      rw [this]
      simp [hp]
  · rintro h1 hn hc ⟨k1, k2, k3, done, rest, e1, e2, e3⟩
    have : rest = [] := by cases rest with | nil => rfl | cons a l => cases e1
    subst this
    have hnone : ys.find? p = none := List.find?_eq_none.2 fun x hx => by rw [e2, List.append_nil] at hx; rw [e3 x hx]; simp
    rw [hnone]
    conv => whnf
    refine ⟨_, k1, ?_⟩
    conv => whnf
    refine ⟨_, hc, ?_⟩
    conv => whnf
    exact ⟨rfl, Foot.set (W := none') (k := h.n + 2) k3 (.inr (by omega)) _⟩
  · rintro e h1 hn hc ⟨rfl, y, k2, k3, k4⟩ _
    rw [k2]
    conv => whnf
    refine ⟨_, hc, ?_⟩
    conv => whnf
    refine ⟨_, (at_set_ne _ _ (i := h.n + 1) (k := h.n + 2) (by omega)).trans k3, ?_⟩
    conv => whnf
    exact ⟨rfl, Foot.set (W := none') (k := h.n + 2) k4 (.inr (by omega)) _⟩
  · rintro x h1 _ _ hx
    exact hx.elim
end Go.Ag
/- Layer 7: which tests clash. -/
namespace Go.Ag
open Go.Proofs
set_option maxRecDepth 100000

def rowsT (l : List (Nat × Bool)) : List (List CV) := l.map fun t => rowTe ((t.1 : Int), t.2)
theorem rowsT_all (l : List (Nat × Bool)) : ∀ r ∈ rowsT l, r.length = 2 := by
  intro r hr; obtain ⟨x, _, rfl⟩ := List.mem_map.1 hr; rfl
theorem rowsT_len (l : List (Nat × Bool)) : (rowsT l).length = l.length := by unfold rowsT; simp
theorem rowsT_bu (d : Bn) : d.bu.tests.map rowTe = rowsT d.tests := by unfold rowsT Bn.bu; simp
/-- The same bales with tests of one's own. -/
def BV.own (v : BV) (l : List (Nat × Bool)) : BV := ⟨v.bc, v.bo, v.bn, (rowsT l).flatten, 0, l.length⟩
theorem own_is {v : BV} {d : Bn} (hv : v.Is d.bu) {l : List (Nat × Bool)} (hl : l.length ≤ 1000) : (v.own l).Is ({ d with tests := l } : Bn).bu := by
  refine ⟨⟨hv.b, ?_, hv.rg⟩, hv.sb, by rw [bu_t]; exact hl⟩
  rw [rowsT_bu]
  have := sl_flat (rowsT_all l)
  rw [rowsT_len] at this
  exact this
/-- The end of a function that returns bales with tests of its own. -/
theorem bu_end {H : Heap} {out : AV} {rows : List (List CV)} (R : RowsL 2 H out rows) (a0 a1 a2 a3 a4 : CV) : ∃ v', retW v' (.ret (.agg [.c a0, .c a1, .c a2, .c a3, .c a4, out])) H ∧ v'.Le (.agg [a0, a1, a2, a3, a4, .sl rows.flatten 0 rows.length]) := by
  obtain ⟨x, ids, hs, hle⟩ := snap_row R (rows.flatten.length + 25) (by omega)
  refine ⟨.agg [a0, a1, a2, a3, a4, x], ⟨rows.flatten.length + 32, [] ++ ([] ++ ([] ++ ([] ++ ([] ++ (ids ++ []))))), ?_⟩, CV.Le.agg ⟨.refl _, .refl _, .refl _, .refl _, .refl _, hle, trivial⟩⟩
  have e : ∀ (a : Nat) (c : CV), snap (Heap.at H) (a + 1) (.c c) = some (c, []) := fun a c => rfl
  have e0 : ∀ a : Nat, snaps (Heap.at H) (a + 1) [] = some ([], []) := fun a => rfl
  show (snaps (Heap.at H) (rows.flatten.length + 31) [.c a0, .c a1, .c a2, .c a3, .c a4, out]).map (fun l => (CV.agg l.1, l.2)) = _
  have h1 : snaps (Heap.at H) (rows.flatten.length + 26) [out] = some ([x], ids ++ []) := snapsCons hs (e0 _)
  rw [snapsCons (e _ a0) (snapsCons (e _ a1) (snapsCons (e _ a2) (snapsCons (e _ a3) (snapsCons (e _ a4) h1))))]
  rfl
set_option maxHeartbeats 4000000 in
theorem only_ret {v : BV} {d : Bn} (hv : v.Is d.bu) (hd : d.Good) {s : Nat} (hs : s < 2 ^ 62) : Ret Tryz.prog 122 [v.cv d.bu, I s] ((v.own (onlyQ d s d.tests.length)).cv (d.only s).bu) := by
  have e3 := hv.tn
  rw [bu_t] at e3
  have tn7 := hd.tn
  refine ret_le (hm := false) Tryz.func122 rfl ?_
  conv => whnf
  refine ⟨_, rfl, ?_⟩
  conv => whnf
  refine loop_by (I := fun z st => ∃ (q : Nat) (h : Heap) (out : AV), q ≤ d.tests.length ∧ z = d.tests.length - q ∧ RowsL 2 h out (rowsT (onlyQ d s q)) ∧ Heap.at h 0 = v.blk d.bu ∧ Heap.at h 1 = .blk [.c (I 0), .c (I 0), .c (I 0), nilA, .c (I 0), nilA] ∧ 2 ≤ h.n ∧ (∀ k, outId out = some k → 2 ≤ k) ∧
      Has st 29 [(1, .c (I s)), (2, .ptr 0 0), (4, .ptr 1 0), (5, out), (9, .c (.sl v.tc v.ot v.tn)), (10, .c (I v.tn)), (11, .c (I q))] [] none h) ?_ (k := d.tests.length)
    ⟨0, _, nilA, Nat.zero_le _, rfl, .inl ⟨rfl, rfl⟩, rfl, by kernel_rfl, Nat.le_refl 2, (fun k hk => by cases hk), rfl, ⟨rfl, rfl, rfl, rfl, rfl, rfl, rfl, trivial⟩, rfl, rfl, rfl, rfl⟩
  rintro z st ⟨q, h, out, hq, rfl, R, h0, h1, hn, ho, hs1⟩
  refine hs1.run (hm := false) ?_
  conv => whnf
  cases hcq : decide ((q : Int) < (v.tn : Int))
  case false =>
    have : q = d.tests.length := by simp at hcq; omega
    subst this
    have hrl := rowsT_len (onlyQ d s d.tests.length)
    rcases R with ⟨rfl, hh⟩ | ⟨o, rfl, hb, hlt, hne⟩
    · have hnil : onlyQ d s d.tests.length = [] := by unfold rowsT at hh; simpa using hh
      conv => whnf
      refine ⟨_, h0, ?_⟩
      conv => whnf
      refine ⟨_, at_set_self _ _ (i := 0) (by omega), ?_⟩
      conv => whnf
      refine ⟨_, (at_set_ne _ _ (by omega)).trans h1, ?_⟩
      conv => whnf
      refine ⟨_, at_set_self _ _ (i := 1) (by rw [TMap.set_n]; omega), ?_⟩
      conv => whnf
      refine ⟨_, .val, ?_⟩
      unfold BV.own BV.cv Bn.only
      rw [hnil]
      exact CV.Le.agg ⟨.refl _, .refl _, .refl _, .refl _, .refl _, .nil _ _, trivial⟩
    · have o2 := ho o rfl
      have n0 : ∀ k, k < 2 → outId (.msl o 2 0 (rowsT (onlyQ d s d.tests.length)).length (rowsT (onlyQ d s d.tests.length)).length) ≠ some k := fun k hk e => by
        have := Option.some.inj e; omega
      have R : RowsL 2 h (.msl o 2 0 (rowsT (onlyQ d s d.tests.length)).length (rowsT (onlyQ d s d.tests.length)).length) (rowsT (onlyQ d s d.tests.length)) := .inr ⟨o, rfl, hb, hlt, hne⟩
      conv => whnf
      refine ⟨_, h0, ?_⟩
      conv => whnf
      refine ⟨_, at_set_self _ _ (i := 0) (by omega), ?_⟩
      conv => whnf
      refine ⟨_, (at_set_ne _ _ (by omega)).trans h1, ?_⟩
      conv => whnf
      refine ⟨_, at_set_self _ _ (i := 1) (by rw [TMap.set_n]; omega), ?_⟩
      conv => whnf
      have key : (v.own (onlyQ d s d.tests.length)).cv (d.only s).bu = .agg [I d.bu.mobs, I d.bu.lo, I d.bu.hi, .sl v.bc v.bo v.bn, I d.bu.top, .sl (rowsT (onlyQ d s d.tests.length)).flatten 0 (rowsT (onlyQ d s d.tests.length)).length] := by
        rw [hrl]; rfl
      rw [key]
      exact bu_end ((R.set (n0 0 (by omega)) _).set (n0 1 (by omega)) _) _ _ _ _ _
  have hq : q < d.tests.length := by simp at hcq; omega
  have hol := onlyQ_len d s q
  have hlim : (rowsT (onlyQ d s q)).length + 1 ≤ limit := by rw [rowsT_len]; unfold limit; omega
  have hsucc : onlyQ d s (q + 1) = if s.testBit q then onlyQ d s q ++ [d.te q] else onlyQ d s q := rfl
  have hrow : rowsT (onlyQ d s q ++ [d.te q]) = rowsT (onlyQ d s q) ++ [rowTe (((d.te q).1 : Int), (d.te q).2)] := by unfold rowsT; simp
  have hlo := R.lt
  rcases R.shape with rfl | ⟨o, n, rfl⟩
  all_goals
    conv => whnf
    refine ⟨⟨by omega, by omega⟩, ?_⟩
    conv => whnf
    refine ⟨_, hv.test (bu_test hq), ?_⟩
    conv => whnf
    refine ⟨_, at_push_self _ _, ?_⟩
    conv => whnf
    generalize hG : TMap.set AB.dead (TMap.push AB.dead h _) _ _ = G
    have Gn : G.n = h.n + 1 := by rw [← hG]; exact new_n _ _ _
    have Ga : ∀ i, i < h.n → Heap.at G i = Heap.at h i := fun i hi => by rw [← hG]; exact at_old _ _ _ hi
    have Gt : Heap.at G h.n = .blk [.c (I (d.te q).1), .c (B (d.te q).2)] := by rw [← hG]; exact at_new _ _ _
    clear hG
    have R1 := R.ext (h' := G) (by omega) (fun i hi _ => Ga i hi)
    refine ⟨by omega, _, shr_nat s q (by omega), ?_⟩
    conv => whnf
    refine ⟨_, and_nat (b := 1) (Nat.lt_of_le_of_lt (Nat.shiftRight_le s q) (by omega)) (by omega), ?_⟩
    conv => whnf
    rw [bit_nat]
    cases hb : s.testBit q
    · rw [hb, if_neg (by simp)] at hsucc
      conv => whnf
      refine ⟨((q + 1 : Nat) : Int), by rw [wrap_eq (by omega) (by omega)]; omega, ?_⟩
      conv => whnf
      exact ⟨d.tests.length - (q + 1), by omega, q + 1, G, _, by omega, rfl, by rw [hsucc]; exact R1, (Ga 0 (by omega)).trans h0, (Ga 1 (by omega)).trans h1, by omega, ho, rfl, ⟨rfl, rfl, rfl, rfl, rfl, rfl, rfl, trivial⟩, rfl, rfl, rfl, rfl⟩
    · rw [hb, if_pos rfl] at hsucc
      conv => whnf
      refine ⟨_, Gt, ?_⟩
      conv => whnf
      obtain ⟨rr, hrr, hR', hold, hn', hfresh⟩ := rows_append (P := Tryz.prog) (row := rowTe (((d.te q).1 : Int), (d.te q).2)) (t := 25) (u := 25) R1 U25 U25 rfl S42 rfl (rowsT_all _) rfl hlim
      obtain ⟨rv, rreads, rupds, rfresh⟩ := rr
      rcases hR' with ⟨_, hh⟩ | ⟨o', ho', hb', hlt', hne'⟩
      · exact absurd hh (by simp)
      simp only at ho' hfresh
      subst ho'
      refine ⟨_, hrr, ?_⟩
      conv => whnf
      refine ⟨((q + 1 : Nat) : Int), by rw [wrap_eq (by omega) (by omega)]; omega, ?_⟩
      conv => whnf
      have low : ∀ i, i < 2 → Heap.at (after (G.push .dead (.blk ((rowTe (((d.te q).1 : Int), (d.te q).2)).map .c))) ⟨_, rreads, rupds, rfresh⟩) i = Heap.at h i := fun i hi => (hold i (by omega) (fun e => by have := ho i e; omega)).trans (Ga i (by omega))
      exact ⟨d.tests.length - (q + 1), by omega, q + 1, _, _, by omega, rfl, by rw [hsucc, hrow]; exact .inr ⟨o', rfl, hb', hlt', hne'⟩, (low 0 (by omega)).trans h0, (low 1 (by omega)).trans h1, Nat.le_trans (by omega) hn', (fun k hk => by have := hfresh k hk; omega), rfl, ⟨rfl, rfl, rfl, rfl, rfl, rfl, rfl, trivial⟩, rfl, rfl, rfl, rfl⟩
theorem only_is {v : BV} {d : Bn} (hv : v.Is d.bu) (hd : d.Good) (s : Nat) : (v.own (onlyQ d s d.tests.length)).Is (d.only s).bu := own_is hv (by have := onlyQ_len d s d.tests.length; have := hd.tn; omega)
theorem clash_suits {v : BV} {d : Bn} (hv : v.Is d.bu) (hd : d.Good) {s : Nat} (hs : s < 2 ^ 62) {a : Nat} {h : Heap} (ha : Heap.at h a = v.blk d.bu) :
    ∃ e h', CallOk Tryz.prog 121 [.c (I s), .ptr a 0] h .no e h' .no ∧ (e = .ret (.c (B (!canB (d.only s)))) ∧ Foot none' h h') := by
  have ho := only_ret hv hd hs
  have hk := know_ret (only_is hv hd s) (only_good hd s)
  have hp := possible_ret (d.only s)
  refine call_by (hm := false) Tryz.func121 rfl ?_
  conv => whnf
  refine ⟨_, ha, ?_⟩
  conv => whnf
  refine .ret (ho) rfl ?_
  conv => whnf
  refine .ret (hk) rfl ?_
  conv => whnf
  refine .ret (hp) rfl ?_
  conv => whnf
  cases hb : canB (d.only s)
  · conv => whnf
    exact ⟨rfl, Foot.refl _ _⟩
  · conv => whnf
    exact ⟨rfl, Foot.refl _ _⟩
def clashS (d : Bn) : Option Nat := (bySize d.tests.length).find? fun s => !canB (d.only s)
theorem clashing_ret {v : BV} {d : Bn} (hv : v.Is d.bu) (hd : d.Good) (h6 : d.tests.length ≤ 6) (h : Heap) :
    ∃ e h', CallOk Tryz.prog 76 [.c (v.cv d.bu)] h .no e h' .no ∧ (e = firstC 4 (clashS d) ∧ Foot none' h h') := by
  have e3 := hv.tn
  rw [bu_t] at e3
  have hp := pow_b h6
  refine call_by (hm := false) Tryz.func76 rfl ?_
  conv => whnf
  generalize hH : TMap.push AB.dead h _ = H
  have b0 : Heap.at H h.n = v.blk d.bu := by rw [← hH]; exact at_push_self _ _
  have f0 : Foot none' h H := by rw [← hH]; exact (Foot.refl _ _).push _
  have Hn : H.n = h.n + 1 := by rw [← hH]; rfl
  clear hH
  obtain ⟨e2, h2, hc2, he2, f2⟩ := first_clash (a := h.n) (err := 4) (bySize_iter (m := d.tests.length) h6) (p := fun s => !canB (d.only s)) (h := H) (fun y hy h1 f1 => clash_suits hv hd (by
    have := (mem_bySize.1 hy).1
    omega) ((f1.keep _ (by omega) (fun x => x)).trans b0))
  rw [show ((bySize d.tests.length).find? fun s => !canB (d.only s)) = clashS d from rfl] at he2
  refine ⟨_, b0, ?_⟩
  conv => whnf
  refine .ret (bySize_ret v.tn) rfl ?_
  conv => whnf
  rw [e3]
  refine .inl _ h2 .no hc2 ?_
  conv => whnf
  subst he2
  cases hf : clashS d with
  | none =>
    conv => whnf
    exact ⟨rfl, f0.trans f2⟩
  | some y =>
    conv => whnf
    exact ⟨rfl, f0.trans f2⟩
theorem clash_body {v : BV} {d : Bn} (hv : v.Is d.bu) (hd : d.Good) (h6 : d.tests.length ≤ 6) {a : Nat} {h : Heap} (ha : Heap.at h a = v.blk d.bu) :
    ∃ e h', CallOk Tryz.prog 75 [.ptr a 0] h .no e h' .no ∧ (e = endI ((clashS d).map fun n => ((n : Nat) : Int)) 4 ∧ Foot none' h h') := by
  rw [← first_endI]
  obtain ⟨e2, h2, hc2, he2, f2⟩ := clashing_ret hv hd h6 h
  refine call_by (hm := false) Tryz.func75 rfl ?_
  conv => whnf
  refine ⟨_, ha, ?_⟩
  conv => whnf
  refine .inl _ h2 .no hc2 ?_
  conv => whnf
  subst he2
  cases hf : clashS d with
  | none =>
    conv => whnf
    exact ⟨rfl, f2⟩
  | some y =>
    conv => whnf
    exact ⟨rfl, f2⟩
theorem clashX_bad {v : BV} {c : Bu} (hv : v.Is c) (hc : validB c = false) : Ret Tryz.prog 29 [v.cv c] (.tuple [I 0, I 1]) := by
  have hval := valid_ret hv
  rw [hc] at hval
  refine ret_by (hm := true) Tryz.func29 rfl ?_
  conv => whnf
  refine .ret (hval) rfl ?_
  conv => whnf
  exact .val
theorem clashX_ret {v : BV} {d : Bn} (hv : v.Is d.bu) (hd : d.Good) (h6 : d.tests.length ≤ 6) : Ret Tryz.prog 29 [v.cv d.bu] (ansI ((clashS d).map fun n => ((n : Nat) : Int)) 4) := by
  have hval := valid_ret hv
  rw [valid_yes hd h6 hv] at hval
  refine close_val ?_
  refine call_by (hm := false) Tryz.func29 rfl ?_
  conv => whnf
  refine ⟨v.blk d.bu, at_push_self _ _, ?_⟩
  conv => whnf
  refine .ret (hval) rfl ?_
  conv => whnf
  obtain ⟨e2, h2, hc2, rfl, f2⟩ := ans_clash (a := 0) (h := TMap.push .dead TMap.nil (v.blk d.bu)) (o := (clashS d).map fun n => ((n : Nat) : Int)) (err := 4) (fun h1 q1 q2 => clash_body hv hd h6 ((q2 0 (Nat.lt_succ_self 0)).trans (at_push_self TMap.nil (v.blk d.bu))))
  refine .inl _ h2 .no hc2 ?_
  conv => whnf
  cases (clashS d).map fun n => ((n : Nat) : Int) with
  | none => rfl
  | some y => rfl
end Go.Ag
/- Layer 7: the law BurrClash. -/
namespace Go.Ag
open Go.Proofs
set_option maxRecDepth 100000

def Less (a b : Nat) : Prop := popB a < popB b ∨ (popB a = popB b ∧ a < b)
instance (a b : Nat) : Decidable (Less a b) := by unfold Less; infer_instance
/-- Is it so of each one and the next? -/
def chain : List Nat → Bool
  | [] => true
  | [_] => true
  | a :: b :: l => decide (Less a b) && chain (b :: l)
theorem less_trans {a b c : Nat} (h1 : Less a b) (h2 : Less b c) : Less a c := by unfold Less at *; omega
theorem chain_pair : ∀ {l : List Nat}, chain l = true → l.Pairwise Less
  | [], _ => .nil
  | [a], _ => by simp
  | a :: b :: l, h => by
    simp only [chain, Bool.and_eq_true, decide_eq_true_eq] at h
    have ih := chain_pair h.2
    rw [List.pairwise_cons]
    refine ⟨fun x hx => ?_, ih⟩
    rcases List.mem_cons.1 hx with rfl | hx
    · exact h.1
    · exact less_trans h.1 ((List.pairwise_cons.1 ih).1 x hx)
theorem chained : ∀ m, m ≤ 6 → chain (bySize m) = true := by decide +kernel
theorem sorted {m : Nat} (h : m ≤ 6) : (bySize m).Pairwise Less := chain_pair (chained m h)
theorem pop_small : ∀ m, m ≤ 6 → ∀ s, s < 2 ^ m → popB s ≤ m := by decide +kernel
theorem first_least {m s : Nat} {q : Nat → Bool} (hm : m ≤ 6) (h : (bySize m).find? q = some s) : q s = true ∧ s < 2 ^ m ∧ ∀ t, t < 2 ^ m → q t = true → t = s ∨ Less s t := by
  have hs := List.find?_some h
  have hmem := List.mem_of_find?_eq_some h
  refine ⟨hs, (mem_bySize.1 hmem).1, fun t ht hq => ?_⟩
  obtain ⟨_, l1, l2, e, has⟩ := List.find?_eq_some_iff_append.1 h
  have hp := sorted hm
  rw [e, List.pairwise_append] at hp
  have htm : t ∈ bySize m := mem_bySize.2 ⟨ht, pop_small m hm t ht⟩
  rw [e] at htm
  rcases List.mem_append.1 htm with h1 | h1
  · have := has t h1
    rw [hq] at this
    simp at this
  · rcases List.mem_cons.1 h1 with h2 | h2
    · exact .inl h2
    · rw [List.pairwise_cons] at hp
      exact .inr (hp.2.1.1 t h2)
theorem first_none {m : Nat} {q : Nat → Bool} (hm : m ≤ 6) (h : (bySize m).find? q = none) {t : Nat} (ht : t < 2 ^ m) : q t = false := by
  have := List.find?_eq_none.1 h t (mem_bySize.2 ⟨ht, pop_small m hm t ht⟩)
  simpa using this
theorem pop_drop : ∀ s, s < 64 → ∀ p, p < 6 → s.testBit p = true → popB (diffN s (2 ^ p)) < popB s := by decide +kernel

/-! What clashes. -/
theorem clash_none {d : Bn} (hd : d.Good) (hc : canB d = true) : clashS d = none := by
  unfold clashS
  rw [List.find?_eq_none]
  intro s _
  have : canB (d.only s) = true := only_mono (t := 2 ^ d.tests.length - 1) hd (fun i hi _ => by rw [Nat.testBit_two_pow_sub_one, decide_eq_true hi]) (by
    rw [only_all]
    · exact hc
    · intro i hi; rw [Nat.testBit_two_pow_sub_one, decide_eq_true hi])
  rw [this]; simp
theorem only_full (d : Bn) : d.only (2 ^ d.tests.length - 1) = d := only_all fun i hi => by rw [Nat.testBit_two_pow_sub_one, decide_eq_true hi]
structure ClIs (d : Bn) (y : Nat) : Prop where
  no : canB (d.only y) = false
  lt : y < 2 ^ d.tests.length
  y1 : 1 ≤ y
  least : ∀ t, t < 2 ^ d.tests.length → canB (d.only t) = false → t = y ∨ Less y t
theorem clash_is {d : Bn} (hd : d.Good) (h6 : d.tests.length ≤ 6) (hc : canB d = false) : ∃ y, clashS d = some y ∧ ClIs d y := by
  cases hs : clashS d with
  | none =>
    have := first_none (q := fun s => !canB (d.only s)) h6 hs (t := 2 ^ d.tests.length - 1) (by have := Nat.one_le_two_pow (n := d.tests.length); omega)
    rw [only_full, hc] at this; cases this
  | some y =>
    obtain ⟨h1, h2, h3⟩ := first_least (q := fun s => !canB (d.only s)) h6 hs
    refine ⟨y, rfl, by simpa using h1, h2, ?_, fun t ht hq => h3 t ht (by simp [hq])⟩
    rcases Nat.eq_zero_or_pos y with h0 | h0
    · subst h0
      rw [only_none hd] at h1; cases h1
    · exact h0
theorem clash_drop {d : Bn} (h6 : d.tests.length ≤ 6) {y q : Nat} (h : ClIs d y) (hq : q < d.tests.length) (hb : y.testBit q = true) : canB (d.only (diffN y (2 ^ q))) = true := by
  have hp := pow_b h6
  have h1 := h.lt
  have hlt : diffN y (2 ^ q) < 2 ^ d.tests.length := diffN_lt h1
  have hpd := pop_drop y (by omega) q (by omega) hb
  cases hc : canB (d.only (diffN y (2 ^ q)))
  · exfalso
    rcases h.least _ hlt hc with h2 | h2
    · rw [h2] at hpd; omega
    · unfold Less at h2; omega
  · rfl
/-- A call with bales whose tests are one's own. -/
theorem bu_call {v : BV} {L : List (Nat × Bool)} {c : Bu} {o : Nat} {h : Heap} (hb : Heap.at h o = .blk ((rowsT L).flatten.map .c)) {f : FuncId} {r : CV} (hr : Ret Tryz.prog f [(v.own L).cv c] r) (hp : r.plain = true) {K : AEnd → Heap → Prop} (k : K (.ret (.c r)) h) :
    CallW Tryz.prog f [.agg [.c (I c.mobs), .c (I c.lo), .c (I c.hi), .c (.sl v.bc v.bo v.bn), .c (I c.top), .msl o 2 0 (rowsT L).length (rowsT L).length]] h K := by
  have e : ∀ (a : Nat) (c : CV), snap (Heap.at h) (a + 1) (.c c) = some (c, []) := fun a c => rfl
  have e0 : ∀ a : Nat, snaps (Heap.at h) (a + 1) [] = some ([], []) := fun a => rfl
  have hs : snap (Heap.at h) ((rowsT L).flatten.length + 25) (.msl o 2 0 (rowsT L).length (rowsT L).length) = some (.sl (rowsT L).flatten 0 (rowsT L).length, [o]) := snap_msl hb _ (by omega)
  have h1 : snaps (Heap.at h) ((rowsT L).flatten.length + 26) [.msl o 2 0 (rowsT L).length (rowsT L).length] = some ([.sl (rowsT L).flatten 0 (rowsT L).length], [o] ++ []) := snapsCons hs (e0 _)
  have h2 := snapsCons (e _ (I c.mobs)) (snapsCons (e _ (I c.lo)) (snapsCons (e _ (I c.hi)) (snapsCons (e _ (.sl v.bc v.bo v.bn)) (snapsCons (e _ (I c.top)) h1))))
  have h3 : snap (Heap.at h) ((rowsT L).flatten.length + 32) (.agg [.c (I c.mobs), .c (I c.lo), .c (I c.hi), .c (.sl v.bc v.bo v.bn), .c (I c.top), .msl o 2 0 (rowsT L).length (rowsT L).length]) = some (.agg [I c.mobs, I c.lo, I c.hi, .sl v.bc v.bo v.bn, I c.top, .sl (rowsT L).flatten 0 (rowsT L).length], [o]) := by
    show (snaps (Heap.at h) ((rowsT L).flatten.length + 31) _).map (fun l => (CV.agg l.1, l.2)) = _
    rw [h2]; rfl
  have hkl : killed r ([o] ++ []) = [] := by unfold killed; rw [if_pos hp]
  refine .snapped ((rowsT L).flatten.length + 33) _ _ _ r (snapsCons h3 (e0 _)) ?_ rfl (by rw [hkl]; exact k)
  rw [rowsT_len]
  exact hr
theorem bu_nil {v : BV} {c : Bu} {f : FuncId} {r : CV} (hr : Ret Tryz.prog f [(v.own []).cv c] r) : Ret Tryz.prog f [.agg [I c.mobs, I c.lo, I c.hi, .sl v.bc v.bo v.bn, I c.top, nilC]] r :=
  hr.args ⟨CV.Le.agg ⟨.refl _, .refl _, .refl _, .refl _, .refl _, .nil _ _, trivial⟩, trivial⟩
/-- Bales in memory, with tests of one's own. -/
def ownB (v : BV) (d : Bn) (out : AV) : AB := .blk [.c (I d.bu.mobs), .c (I d.bu.lo), .c (I d.bu.hi), .c (.sl v.bc v.bo v.bn), .c (I d.bu.top), out]
theorem bit_zero (s n : Nat) : ((((s >>> n) &&& 1 : Nat) : Int) == 0) = !s.testBit n := by
  rw [Nat.testBit, Nat.and_comm]
  have : 1 &&& (s >>> n) < 2 := Nat.lt_of_le_of_lt Nat.and_le_left (by omega)
  by_cases h : 1 &&& (s >>> n) = 0
  · rw [h]; rfl
  · have h1 : 1 &&& (s >>> n) = 1 := by omega
    rw [h1]; rfl
set_option maxHeartbeats 4000000 in
theorem clash_clos {v : BV} {d : Bn} (hv : v.Is d.bu) (hd : d.Good) (h6 : d.tests.length ≤ 6) {s : Nat} (hs : s < 2 ^ 62) {a : Nat} {h : Heap} (ha : Heap.at h a = v.blk d.bu) (han : a < h.n) :
    ∃ e h', CallOk Tryz.prog 44 [.c (I s), .ptr a 0] h .no e h' .no ∧ (e = .ret (.c (B (!canB (d.only s)))) ∧ Foot none' h h') := by
  have e3 := hv.tn
  rw [bu_t] at e3
  have hol := onlyQ_len d s d.tests.length
  have hcount := countX_ret (only_is hv hd s) (only_good hd s) (show (onlyQ d s d.tests.length).length ≤ 6 by omega)
  have hcc := can_count (only_good hd s)
  have hzz : (((countN (d.only s) : Nat) : Int) == 0) = !canB (d.only s) := by
    rw [hcc, Bool.eq_iff_iff, beq_iff_eq, Bool.not_eq_true', decide_eq_false_iff_not]; omega
  refine call_then (hm := false) Tryz.func44 rfl ?_
  conv => whnf
  repeat (refine then_seq (hm := false) ?_; conv => whnf)
  refine ⟨_, ha, ?_⟩
  conv => whnf
  refine ⟨_, at_push_self _ _, ?_⟩
  conv => whnf
  generalize hG : TMap.set AB.dead (TMap.push AB.dead h _) _ _ = G
  have Gn : G.n = h.n + 1 := by rw [← hG]; exact new_n _ _ _
  have Gt : Heap.at G h.n = v.blk d.bu := by rw [← hG]; exact at_new _ _ _
  have GF : Foot none' h G := by rw [← hG]; exact footNew _ _ _
  clear hG
  obtain ⟨N, hN⟩ : ∃ N, N = h.n := ⟨_, rfl⟩
  rw [← hN] at Gn Gt ⊢
  repeat (refine then_seq (hm := false) ?_; conv => whnf)
  refine ⟨_, Gt, ?_⟩
  conv => whnf
  generalize hG : TMap.set AB.dead G _ _ = K
  have Kn : K.n = N + 1 := by rw [← hG, TMap.set_n]; exact Gn
  have Kt : Heap.at K N = ownB v d nilA := by rw [← hG]; exact at_set_self _ _ (by omega)
  have Ka : Heap.at K a = v.blk d.bu := by rw [← hG]; exact (at_set_ne _ _ (by omega)).trans ((GF.keep a han (fun x => x)).trans ha)
  have KF : Foot none' h K := by rw [← hG]; exact Foot.set GF (.inr (by omega)) _
  clear hG
  repeat (refine then_seq (hm := false) ?_; conv => whnf)
  refine ⟨_, Ka, ?_⟩
  conv => whnf
  refine loop_by (I := fun z st => ∃ (q : Nat) (g : Heap) (out : AV), q ≤ d.tests.length ∧ z = d.tests.length - q ∧ RowsL 2 g out (rowsT (onlyQ d s q)) ∧ Heap.at g N = ownB v d out ∧ Heap.at g a = v.blk d.bu ∧ N < g.n ∧ Foot none' h g ∧ (∀ k, outId out = some k → N < k) ∧
      Has st 42 [(0, .c (I s)), (4, .ptr N 0), (12, .c (.sl v.tc v.ot v.tn)), (13, .c (I v.tn)), (14, .c (I q))] [] none g) ?_ (k := d.tests.length)
    ⟨0, _, nilA, Nat.zero_le _, rfl, .inl ⟨rfl, rfl⟩, Kt, Ka, by omega, KF, (fun k hk => by cases hk), rfl, ⟨rfl, rfl, rfl, rfl, rfl, trivial⟩, rfl, rfl, rfl, rfl⟩
  rintro z st ⟨q, g, out, hq, rfl, R, gN, ga, gn, gF, ho, hs1⟩
  refine hs1.run (hm := false) ?_
  conv => whnf
  cases hcq : decide ((q : Int) < (v.tn : Int))
  case false =>
    have : q = d.tests.length := by simp at hcq; omega
    subst this
    rcases R with ⟨rfl, hh⟩ | ⟨o, rfl, hb, hlt, hne⟩
    · have hnil : onlyQ d s d.tests.length = [] := by unfold rowsT at hh; simpa using hh
      rw [hnil] at hcount
      conv => whnf
      repeat (refine then_seq (hm := false) ?_; conv => whnf)
      refine ⟨_, gN, ?_⟩
      conv => whnf
      refine .ret (bu_nil hcount) rfl ?_
      conv => whnf
      repeat (refine then_seq (hm := false) ?_; conv => whnf)
      rw [hzz]
      refine then_end (hm := false) ?_
      conv => whnf
      exact ⟨rfl, gF⟩
    · conv => whnf
      repeat (refine then_seq (hm := false) ?_; conv => whnf)
      refine ⟨_, gN, ?_⟩
      conv => whnf
      refine bu_call (c := (d.only s).bu) hb hcount rfl ?_
      conv => whnf
      repeat (refine then_seq (hm := false) ?_; conv => whnf)
      rw [hzz]
      refine then_end (hm := false) ?_
      conv => whnf
      exact ⟨rfl, gF⟩
  have hq : q < d.tests.length := by simp at hcq; omega
  have hol2 := onlyQ_len d s q
  have hlim : (rowsT (onlyQ d s q)).length + 1 ≤ limit := by rw [rowsT_len]; unfold limit; omega
  have hsucc : onlyQ d s (q + 1) = if s.testBit q then onlyQ d s q ++ [d.te q] else onlyQ d s q := rfl
  have hrow : rowsT (onlyQ d s q ++ [d.te q]) = rowsT (onlyQ d s q) ++ [rowTe (((d.te q).1 : Int), (d.te q).2)] := by unfold rowsT; simp
  have hlo := R.lt
  rcases R.shape with rfl | ⟨o, n, rfl⟩
  all_goals
    conv => whnf
    refine ⟨⟨by omega, by omega⟩, ?_⟩
    conv => whnf
    refine ⟨_, hv.test (bu_test hq), ?_⟩
    conv => whnf
    refine ⟨_, at_push_self _ _, ?_⟩
    conv => whnf
    generalize hG : TMap.set AB.dead (TMap.push AB.dead g _) _ _ = G
    have Gn : G.n = g.n + 1 := by rw [← hG]; exact new_n _ _ _
    have Ga : ∀ i, i < g.n → Heap.at G i = Heap.at g i := fun i hi => by rw [← hG]; exact at_old _ _ _ hi
    have Gt : Heap.at G g.n = .blk [.c (I (d.te q).1), .c (B (d.te q).2)] := by rw [← hG]; exact at_new _ _ _
    have GF : Foot none' h G := by rw [← hG]; exact gF.trans (footNew _ _ _)
    clear hG
    have R1 := R.ext (h' := G) (by omega) (fun i hi _ => Ga i hi)
    have GN := (Ga N gn).trans gN
    have Gaa := (Ga a (by have := gF.n; omega)).trans ga
    refine ⟨by omega, _, shr_nat s q (by omega), ?_⟩
    conv => whnf
    refine ⟨_, and_nat (b := 1) (Nat.lt_of_le_of_lt (Nat.shiftRight_le s q) (by omega)) (by omega), ?_⟩
    conv => whnf
    rw [bit_nat]
    cases hb : s.testBit q
    · rw [hb, if_neg (by simp)] at hsucc
      conv => whnf
      refine ⟨((q + 1 : Nat) : Int), by rw [wrap_eq (by omega) (by omega)]; omega, ?_⟩
      conv => whnf
      exact ⟨d.tests.length - (q + 1), by omega, q + 1, G, _, by omega, rfl, by rw [hsucc]; exact R1, GN, Gaa, by omega, GF, ho, rfl, ⟨rfl, rfl, rfl, rfl, rfl, trivial⟩, rfl, rfl, rfl, rfl⟩
    · rw [hb, if_pos rfl] at hsucc
      conv => whnf
      refine ⟨_, GN, ?_⟩
      conv => whnf
      refine ⟨_, Gt, ?_⟩
      conv => whnf
      obtain ⟨rr, hrr, hR', hold, hn', hfresh⟩ := rows_append (P := Tryz.prog) (row := rowTe (((d.te q).1 : Int), (d.te q).2)) (t := 25) (u := 25) R1 U25 U25 rfl S42 rfl (rowsT_all _) rfl hlim
      obtain ⟨H9, hH9⟩ : ∃ H9, H9 = after (G.push .dead (.blk ((rowTe (((d.te q).1 : Int), (d.te q).2)).map .c))) rr := ⟨_, rfl⟩
      rw [← hH9] at hR' hold hn'
      obtain ⟨rv, rreads, rupds, rfresh⟩ := rr
      simp only at hfresh hR'
      rcases hR' with ⟨_, hh⟩ | ⟨o', ho', hb', hlt', hne'⟩
      · exact absurd hh (by simp)
      subst ho'
      have hfo := hfresh o' rfl
      have hgF := gF.n
      have l9 := (hold N (by omega) (fun e => by have := ho N e; omega)).trans GN
      have la := (hold a (by omega) (fun e => by have := ho a e; omega)).trans Gaa
      have R9 : RowsL 2 H9 (.msl o' 2 0 (rowsT (onlyQ d s q) ++ [rowTe (((d.te q).1 : Int), (d.te q).2)]).length (rowsT (onlyQ d s q) ++ [rowTe (((d.te q).1 : Int), (d.te q).2)]).length) (rowsT (onlyQ d s q) ++ [rowTe (((d.te q).1 : Int), (d.te q).2)]) := .inr ⟨o', rfl, hb', hlt', hne'⟩
      have F9 : Foot none' h H9 := ⟨by omega, fun i hi hw => (hold i (by omega) (fun e => by have := ho i e; omega)).trans (GF.keep i hi hw)⟩
      have nN : outId (.msl o' 2 0 (rowsT (onlyQ d s q) ++ [rowTe (((d.te q).1 : Int), (d.te q).2)]).length (rowsT (onlyQ d s q) ++ [rowTe (((d.te q).1 : Int), (d.te q).2)]).length) ≠ some N := fun e => by have := Option.some.inj e; omega
      refine ⟨_, hrr, ?_⟩
      conv => whnf
      subst hH9
      refine ⟨_, l9, ?_⟩
      conv => whnf
      refine ⟨((q + 1 : Nat) : Int), by rw [wrap_eq (by omega) (by omega)]; omega, ?_⟩
      conv => whnf
      exact ⟨d.tests.length - (q + 1), by omega, q + 1, _, _, by omega, rfl, by rw [hsucc, hrow]; exact R9.set nN _, at_set_self _ _ (by omega), (at_set_ne _ _ (by omega)).trans la, by rw [TMap.set_n]; omega, Foot.set F9 (.inr (by omega)) _, (fun k hk => by have := hfresh k hk; omega), rfl, ⟨rfl, rfl, rfl, rfl, rfl, trivial⟩, rfl, rfl, rfl, rfl⟩
end Go.Ag
/- Layer 7: rows of one number. -/
namespace Go.Ag
open Go.Proofs
set_option maxRecDepth 100000

def row1 (x : Nat) : List CV := [I x]
theorem row1_all (L : List Nat) : ∀ r ∈ L.map row1, r.length = 1 := by
  intro r hr; obtain ⟨x, _, rfl⟩ := List.mem_map.1 hr; rfl
theorem wrap_u8j {w : Nat} (h : w < 256) : IntKind.i64.wrap ((w : Nat) : Int) = ((w : Nat) : Int) := wrap_nat (by omega)
end Go.Ag
