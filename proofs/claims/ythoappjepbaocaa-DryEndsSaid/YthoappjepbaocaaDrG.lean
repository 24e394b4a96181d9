/- Contracts of functions of layer 2: sets by size, what clashes, copies of which some is written. No conditions. -/
import Derived.Test.YthoappjepbaocaaDrF
/- Layer 2: sets by their size. -/
namespace Go.Ag
open Go.Proofs
set_option maxRecDepth 100000

def setsOf (m k j : Nat) : List Nat := (List.range' j (2 ^ m - j)).filter fun s => pop s == k
def sizesFrom (m k : Nat) : List Nat := (List.range' k (m + 1 - k)).flatMap fun k => setsOf m k 0
def bySize (m : Nat) : List Nat := sizesFrom m 0
def nats (l : List Nat) : List CV := l.map fun s : Nat => I s
theorem nats_nil : nats [] = [] := rfl
def bySizeC (m : Nat) : CV := .func (.func 91) [] [.cptr [I m] 0]

theorem sizes_cons {m k : Nat} (h : k ≤ m) : sizesFrom m k = setsOf m k 0 ++ sizesFrom m (k + 1) := by
  unfold sizesFrom
  rw [show m + 1 - k = (m + 1 - (k + 1)) + 1 by omega, List.range'_succ, List.flatMap_cons]
theorem sizes_nil {m k : Nat} (h : m < k) : sizesFrom m k = [] := by
  unfold sizesFrom
  rw [show m + 1 - k = 0 by omega]; rfl
theorem setsOf_cons {m k j : Nat} (h : j < 2 ^ m) : setsOf m k j = if pop j == k then j :: setsOf m k (j + 1) else setsOf m k (j + 1) := by
  unfold setsOf
  rw [show 2 ^ m - j = (2 ^ m - (j + 1)) + 1 by omega, List.range'_succ, List.filter_cons]
theorem setsOf_nil {m k j : Nat} (h : 2 ^ m ≤ j) : setsOf m k j = [] := by
  unfold setsOf
  rw [show 2 ^ m - j = 0 by omega]; rfl

theorem bySize_ret (m : Nat) : Ret Try.prog 67 [I m] (bySizeC m) := by
  refine ret_by (hm := true) Try.func67 rfl ?_
  conv => whnf
  exact ⟨10, [0], rfl⟩

/-- Ranges that are over. -/
theorem defW_colls {P : Program} {mode : Option AV} {K : Option AV → Heap → Prop} : ∀ (l : List Nat) (h : Heap), l.Nodup → (∀ i ∈ l, i < h.n ∧ Heap.at h i = .coll true) → (∀ h', Foot (fun i => i ∈ l) h h' → K mode h') → defW false P (l.map .coll) mode h K
  | [], h, _, _, k => k h (Foot.refl _ _)
  | d :: l, h, hn, hc, k => by
    rw [List.nodup_cons] at hn
    obtain ⟨h1, h2⟩ := hc d (by simp)
    refine ⟨.coll true, h2, ?_⟩
    simp only [hSet_eq]
    refine defW_colls l _ hn.2 (fun i hi => ?_) (fun h' f => k h' ?_)
    · have := hc i (List.mem_cons_of_mem _ hi)
      refine ⟨by rw [TMap.set_n]; exact this.1, ?_⟩
      rw [at_set_ne _ _ (by rintro rfl; exact hn.1 hi)]; exact this.2
    · exact Foot.trans (Foot.set (Foot.refl _ _) (.inl (by simp)) _) (f.mono fun i _ hi => List.mem_cons_of_mem _ hi)

theorem wrap_u64 {j : Nat} (h : j < 2 ^ 63) : IntKind.u64.wrap ((j : Nat) : Int) = ((j : Nat) : Int) := by
  have e : (2 : Int) ^ IntKind.u64.bits = 18446744073709551616 := by decide
  unfold IntKind.wrap
  rw [e]
  have : IntKind.u64.signed = false := rfl
  simp only [this, Bool.false_and, Bool.false_eq_true, if_false]
  omega

set_option maxHeartbeats 2000000 in
theorem bySize_iter {m : Nat} (hm5 : m ≤ 5) : IterC Try.prog (bySizeC m) (nats (bySize m)) := by
  have h32 : 2 ^ m ≤ 32 := Nat.pow_le_pow_right (n := 2) (by omega) hm5
  refine ⟨91, [], [.cptr [I m] 0], rfl, by kernel_rfl, fun id n0 J D X R hid h0 hn0 hJ => ?_⟩
  refine call_by (hm := false) Try.func91 rfl ?_
  conv => whnf
  refine ⟨_, rfl, ?_⟩
  conv => whnf
  refine ⟨((m + 1 : Nat) : Int), by rw [wrap_eq (by omega) (by omega)]; omega, ?_⟩
  conv => whnf
  have hb0 : Heap.at (h0.push .dead (.blk [.yield id])) h0.n = .blk [.yield id] := at_push_self _ _
  have hJ0 : J (nats (bySize m)) (h0.push .dead (.blk [.yield id])) := R.stable _ _ _ hJ hn0 ((Foot.refl _ _).push _)
  refine loop_by (I := fun q s => ∃ (k : Nat) (h : Heap) (l : List Nat), k ≤ m + 1 ∧ q = m + 1 - k ∧ h0.n < h.n ∧ Heap.at h h0.n = .blk [.yield id] ∧ J (nats (sizesFrom m k)) h ∧ l.Nodup ∧ (∀ i ∈ l, h0.n < i ∧ i < h.n ∧ Heap.at h i = .coll true) ∧
    Has s 25 [(1, .c (.cptr [I m] 0)), (2, .ptr h0.n 0), (6, .c (I ((m + 1 : Nat) : Int))), (7, .c (I k))] (l.map .coll) none h) ?_ (k := m + 1)
    ⟨0, _, [], Nat.zero_le _, rfl, by rw [push_n]; omega, hb0, hJ0, List.nodup_nil, by simp, rfl, ⟨rfl, rfl, rfl, rfl, trivial⟩, rfl, rfl, rfl, rfl⟩
  rintro q s ⟨k, h, l, hk, rfl, hn, hb, hJ, hl, hlc, hs⟩
  refine hs.run (hm := false) ?_
  conv => whnf
  cases hc : decide ((k : Int) < ((m + 1 : Nat) : Int))
  · have hkm : m < k := by simp at hc; omega
    rw [sizes_nil hkm, nats_nil] at hJ
    conv => whnf
    refine defW_colls l h hl (fun i hi => (hlc i hi).2) (fun h' f => ?_)
    conv => whnf
    exact ⟨Nat.le_trans (by omega) f.n, .inl (R.stable _ _ _ hJ (by omega) (f.mono fun i _ hi => by have := (hlc i hi).1; omega))⟩
  · have hkm : k ≤ m := by simp at hc; omega
    rw [sizes_cons hkm] at hJ
    conv => whnf
    refine ⟨_, at_push_self _ _, ?_⟩
    conv => whnf
    refine ⟨_, rfl, ?_⟩
    conv => whnf
    refine .ret (sets_ret m (by omega)) rfl ?_
    conv => whnf
    have hb1 : Heap.at ((h.push .dead (.blk [AV.lit (.int .i64 0)])).set .dead h.n (.blk [.c (I k)])) h.n = .blk [.c (I k)] := at_new _ _ _
    have hold : ∀ i, i < h.n → Heap.at ((h.push .dead (.blk [AV.lit (.int .i64 0)])).set .dead h.n (.blk [.c (I k)])) i = Heap.at h i := fun i hi => at_old _ _ _ hi
    have hn1 : ((h.push .dead (.blk [AV.lit (.int .i64 0)])).set .dead h.n (.blk [.c (I k)])).n = h.n + 1 := new_n _ _ _
    have hJ1 : J (nats (setsOf m k 0 ++ sizesFrom m (k + 1))) ((h.push .dead (.blk [AV.lit (.int .i64 0)])).set .dead h.n (.blk [.c (I k)])) := R.stable _ _ _ hJ (by omega) (Foot.set ((Foot.refl _ _).push _) (.inr (Nat.le_refl _)) _)
    refine range_n (hm := false) (h.n + 1) hn1 (it := upC 0 ((2 ^ m - 1 : Nat) : Int)) (ys := upL 0 (2 ^ m) 0) rfl ?_
      (I := fun ys h1 => ∃ j, j ≤ 2 ^ m ∧ ys = upL 0 (2 ^ m) j ∧ Heap.at h1 h0.n = .blk [.yield id] ∧ Heap.at h1 h.n = .blk [.c (I k)] ∧ J (nats (setsOf m k j ++ sizesFrom m (k + 1))) h1 ∧ ∀ i ∈ l, Heap.at h1 i = .coll true)
      (E := fun e h1 => e = .ret ∧ D h1 ∧ ∀ i ∈ l, Heap.at h1 i = .coll true) (X := fun v h1 => X v h1 ∧ n0 ≤ h1.n ∧ ∀ i ∈ l, Heap.at h1 i = .coll true) ?_ ?_ ?_ ?_ ?_ ?_ ?_ ?_
    · have := up_iter (lo := 0) (hi := ((2 ^ m - 1 : Nat) : Int)) (by unfold tame; omega) (by unfold tame; omega)
      rw [upN_sets] at this
      exact this
    · rintro ys h1 h2 ⟨j, j1, j2, j3, j4, j5, j6⟩ hn2 ff
      exact ⟨j, j1, j2, (ff.below hn2 (by omega)).trans j3, (ff.below hn2 (by omega)).trans j4, R.stable _ _ _ j5 (by omega) (ff.mono fun i _ hi => by omega), fun i hi => (ff.below hn2 (by have := (hlc i hi).2.1; omega)).trans (j6 i hi)⟩
    · rintro e h1 h2 ⟨j1, j2, j3⟩ hn2 ff
      exact ⟨j1, R.dstable _ _ j2 (by omega) (ff.mono fun i _ hi => by omega), fun i hi => (ff.below hn2 (by have := (hlc i hi).2.1; omega)).trans (j3 i hi)⟩
    · exact ⟨0, Nat.zero_le _, rfl, (hold _ hn).trans hb, hb1, hJ1, fun i hi => (hold i (hlc i hi).2.1).trans (hlc i hi).2.2⟩
    · rintro y ys h1 hn2 ⟨j, j1, j2, j3, j4, j5, j6⟩
      have hj : j < 2 ^ m := by
        rcases Nat.lt_or_ge j (2 ^ m) with h | h
        · exact h
        · rw [upL_nil h] at j2; cases j2
      rw [upL_cons hj] at j2
      obtain ⟨rfl, rfl⟩ := List.cons.inj j2
      conv => whnf
      refine ⟨rfl, fun hb2 fb hbn => ?_⟩
      have b0 := (fb.keep h0.n (by omega) (by omega)).trans j3
      have b1 := (fb.keep h.n (by omega) (by omega)).trans j4
      have bl : ∀ i ∈ l, Heap.at hb2 i = .coll true := fun i hi => (fb.keep i (by have := (hlc i hi).2.1; omega) (by have := (hlc i hi).2.1; omega)).trans (j6 i hi)
      have bJ : J (nats (setsOf m k j ++ sizesFrom m (k + 1))) hb2 := R.stable _ _ _ j5 (by omega) (fb.mono fun i _ hi => by omega)
      conv => whnf
      refine split_by (hm := false) 8 (by kernel_rfl) (by kernel_rfl) (by decide) (by kernel_rfl) ?_
      have hw : IntKind.u64.wrap (0 + (j : Int)) = ((j : Nat) : Int) := by
        rw [Int.zero_add]
        exact wrap_u64 (by omega)
      have hones : Ret Try.prog 92 [CV.ofVal (Value.int .u64 (IntKind.u64.wrap (0 + (j : Int))))] (I (pop j)) := by
        rw [hw]; exact ones_ret (by omega)
      conv => whnf
      refine .ret _ _ hones rfl ?_
      conv => whnf
      refine ⟨_, b1, ?_⟩
      conv => whnf
      rw [setsOf_cons hj] at bJ
      cases hp : ((pop j : Int) == (k : Int))
      · have hp' : (pop j == k) = false := by
          have := beq_eq_false_iff_ne.1 hp
          exact beq_eq_false_iff_ne.2 (by omega)
        rw [hp'] at bJ
        conv => whnf
        refine ⟨by kernel_rfl, heaps_nil (by kernel_rfl), ?_⟩
        conv => whnf
        exact ⟨Foot.refl _ _, j + 1, by omega, rfl, b0, b1, bJ, bl⟩
      · have hp' : (pop j == k) = true := by
          have := beq_iff_eq.1 hp
          exact beq_iff_eq.2 (by omega)
        rw [hp'] at bJ
        have bJ' : J (I (0 + (j : Int)) :: nats (setsOf m k (j + 1) ++ sizesFrom m (k + 1))) hb2 := by rw [Int.zero_add]; exact bJ
        conv => whnf
        refine ⟨_, b0, ?_⟩
        conv => whnf
        refine ⟨by kernel_rfl, heaps_nil (by kernel_rfl), ?_⟩
        conv => whnf
        refine .mk ((R.round _ _ _ bJ' (by omega)).mono ?_ ?_)
        · rintro b h' ⟨hf, hk⟩
          have n' := hf.n
          have c0 := (hf.keep h0.n (by omega) (by omega)).trans b0
          have c1 := (hf.keep h.n (by omega) (by omega)).trans b1
          have cl : ∀ i ∈ l, Heap.at h' i = .coll true := fun i hi => (hf.keep i (by have := (hlc i hi).2.1; omega) (by have := (hlc i hi).1; omega)).trans (bl i hi)
          cases b
          · conv => whnf
            exact ⟨hf.mono (fun i _ hi => by omega), rfl, hk, cl⟩
          · conv => whnf
            exact ⟨hf.mono (fun i _ hi => by omega), j + 1, by omega, rfl, c0, c1, hk, cl⟩
        · rintro v h' ⟨hx, hn', hf⟩
          have n' := hf.n
          have cl : ∀ i ∈ l, Heap.at h' i = .coll true := fun i hi => (hf.keep i (by have := (hlc i hi).2.1; omega) (by have := (hlc i hi).1; omega)).trans (bl i hi)
          conv => whnf
          exact ⟨hf.mono (fun i _ hi => by omega), hx, hn', cl⟩
    · rintro h1 hn2 hc2 ⟨j, j1, j2, j3, j4, j5, j6⟩
      have hj : 2 ^ m ≤ j := by
        rcases Nat.lt_or_ge j (2 ^ m) with h | h
        · rw [upL_cons h] at j2; cases j2
        · exact h
      rw [setsOf_nil hj, List.nil_append] at j5
      conv => whnf
      refine ⟨((k + 1 : Nat) : Int), by rw [wrap_eq (by omega) (by omega)]; omega, ?_⟩
      conv => whnf
      refine ⟨m + 1 - (k + 1), by omega, k + 1, h1, (h.n + 1) :: l, by omega, rfl, by omega, j3, j5, List.nodup_cons.2 ⟨fun hi => by have := (hlc _ hi).2.1; omega, hl⟩, ?_, rfl, ⟨rfl, rfl, rfl, rfl, trivial⟩, rfl, rfl, rfl, rfl⟩
      intro i hi
      rcases List.mem_cons.1 hi with rfl | hi
      · exact ⟨by omega, by omega, hc2⟩
      · exact ⟨(hlc i hi).1, by have := (hlc i hi).2.1; omega, j6 i hi⟩
    · rintro e h1 hn2 hc2 ⟨rfl, j2, j3⟩ _
      conv => whnf
      refine defW_colls ((h.n + 1) :: l) h1 (List.nodup_cons.2 ⟨fun hi => by have := (hlc _ hi).2.1; omega, hl⟩) (fun i hi => ?_) (fun h' f => ?_)
      · rcases List.mem_cons.1 hi with rfl | hi
        · exact ⟨by omega, hc2⟩
        · exact ⟨by have := (hlc i hi).2.1; omega, j3 i hi⟩
      conv => whnf
      exact ⟨Nat.le_trans (by omega) f.n, .inr (R.dstable _ _ j2 (by omega) (f.mono fun i _ hi => by
        rcases List.mem_cons.1 hi with rfl | hi
        · omega
        · have := (hlc i hi).1; omega))⟩
    · rintro v h1 hn2 hc2 ⟨j1, j2, j3⟩
      conv => whnf
      refine defW_colls ((h.n + 1) :: l) h1 (List.nodup_cons.2 ⟨fun hi => by have := (hlc _ hi).2.1; omega, hl⟩) (fun i hi => ?_) (fun h' f => ?_)
      · rcases List.mem_cons.1 hi with rfl | hi
        · exact ⟨by omega, hc2⟩
        · exact ⟨by have := (hlc i hi).2.1; omega, j3 i hi⟩
      conv => whnf
      exact ⟨Nat.le_trans j2 f.n, R.xstable _ _ _ j1 j2 (f.mono fun i _ hi => by
        rcases List.mem_cons.1 hi with rfl | hi
        · omega
        · have := (hlc i hi).1; omega)⟩
    · rintro v h1 h2 ⟨j1, j2, j3⟩ hn2 ff
      exact ⟨R.xstable _ _ _ j1 j2 (ff.mono fun i _ hi => by omega), Nat.le_trans j2 ff.n, fun i hi => (ff.below hn2 (by have := (hlc i hi).2.1; omega)).trans (j3 i hi)⟩
end Go.Ag
/- Layer 2: Clash. -/
namespace Go.Ag
open Go.Proofs
set_option maxRecDepth 100000

theorem suits_clash {f : Fl} (hf : FlNear f) (hne : f.pens ≠ []) {s : Nat} (hs : s < 2 ^ 63) {m a : Nat} {h : Heap} (hm : m < h.n) (ha : Heap.at h a = knBlk f m) (hI : MapInv (specAgree f) (Heap.at h m)) :
    ∃ h2, CallOk Try.prog 68 [.c (I s), .ptr a 0] h .no (.ret (.c (B (!possibleF (takingF f s))))) h2 .no ∧ Foot (fun i => i = m) h h2 ∧ MapInv (specAgree f) (Heap.at h2 m) := by
  suffices H : ∃ e h2, CallOk Try.prog 68 [.c (I s), .ptr a 0] h .no e h2 .no ∧ (e = .ret (.c (B (!possibleF (takingF f s)))) ∧ Foot (fun i => i = m) h h2 ∧ MapInv (specAgree f) (Heap.at h2 m)) by
    obtain ⟨e, h2, h3, rfl, h4⟩ := H
    exact ⟨h2, h3, h4⟩
  obtain ⟨e, h', hc, rfl, hf', hI'⟩ := agree_ret hf hne hs hm hI
  refine call_by (hm := false) Try.func68 rfl ?_
  conv => whnf
  refine ⟨_, ha, ?_⟩
  conv => whnf
  refine .inl _ h' .no hc ?_
  conv => whnf
  cases possibleF (takingF f s) <;> exact ⟨rfl, hf', hI'⟩

def wantC (a : Nat) : AV := .agg [.func (.func 68) [] [.ptr a 0], .c (I 4)]
def noneV : AV := .c (.iface 30 (I 4))
def firstC (o : Option Nat) : AEnd := match o with
  | some y => .ret (.c (I y))
  | none => .panic noneV

set_option maxHeartbeats 1000000 in
theorem first_clash {it : CV} {ys : List Nat} (hit : IterC Try.prog it (nats ys)) {p : Nat → Bool} {spec : K4 → Bool} {a m : Nat} {h : Heap} (hm : m < h.n) (hI : MapInv spec (Heap.at h m))
    (hs : ∀ y, y ∈ ys → ∀ h1, Foot (fun i => i = m) h h1 → MapInv spec (Heap.at h1 m) → ∃ h2, CallOk Try.prog 68 [.c (I y), .ptr a 0] h1 .no (.ret (.c (B (p y)))) h2 .no ∧ Foot (fun i => i = m) h1 h2 ∧ MapInv spec (Heap.at h2 m)) :
    ∃ e h', CallOk Try.prog 66 [.c it, wantC a] h .no e h' .no ∧ (e = firstC (ys.find? p) ∧ Foot (fun i => i = m) h h' ∧ MapInv spec (Heap.at h' m)) := by
  refine call_by (hm := false) Try.func66 rfl ?_
  conv => whnf
  refine range_n (hm := false) (h.n + 2) rfl (it := it) (ys := nats ys) rfl hit
    (I := fun l h1 => Heap.at h1 h.n = .blk [.func (.func 68) [] [.ptr a 0], .c (I 4)] ∧ Heap.at h1 (h.n + 1) = .blk [.c (I 0)] ∧ Foot (fun i => i = m) h h1 ∧ MapInv spec (Heap.at h1 m) ∧ ∃ done rest, l = nats rest ∧ ys = done ++ rest ∧ ∀ y ∈ done, p y = false)
    (E := fun e h1 => e = .ret ∧ ∃ y, ys.find? p = some y ∧ Heap.at h1 (h.n + 1) = .blk [.c (I y)] ∧ Foot (fun i => i = m) h h1 ∧ MapInv spec (Heap.at h1 m)) (X := fun _ _ => False) ?_ ?_ ?_ ?_ ?_ ?_ ?_
  · rintro l h1 h2 ⟨k1, k2, k3, k4, k5⟩ hn ff
    exact ⟨(ff.below hn (by omega)).trans k1, (ff.below hn (by omega)).trans k2, k3.trans_up ff (by omega), mapInv_eq (ff.below hn (by omega)) k4, k5⟩
  · rintro e h1 h2 ⟨k1, y, k2, k3, k4, k5⟩ hn ff
    exact ⟨k1, y, k2, (ff.below hn (by omega)).trans k3, k4.trans_up ff (by omega), mapInv_eq (ff.below hn (by omega)) k5⟩
  · refine ⟨(at_push_lt _ _ (by rw [push_n]; omega)).trans (at_push_self _ _), at_push_self _ _, ((Foot.refl _ _).push _).push _, mapInv_eq ((at_push_lt _ _ (by rw [push_n]; omega)).trans (at_push_lt _ _ hm)) hI, [], ys, rfl, rfl, by simp⟩
  · rintro y l h1 hn ⟨k1, k2, k3, k4, done, rest, e1, e2, e3⟩
    cases rest with
    | nil => cases e1
    | cons y0 rest =>
    obtain ⟨rfl, rfl⟩ := List.cons.inj e1
    conv => whnf
    refine ⟨rfl, fun hb fb hbn => ?_⟩
    have b1 := (fb.keep h.n (by omega) (by omega)).trans k1
    have b2 := (fb.keep (h.n + 1) (by omega) (by omega)).trans k2
    have b3 : Foot (fun i => i = m) h hb := k3.trans_up (N := h.n) (fb.mono fun i _ hi => by omega) (Nat.le_refl _)
    have b4 : MapInv spec (Heap.at hb m) := mapInv_eq (fb.keep m (by omega) (by omega)) k4
    obtain ⟨h2, hc, f2, i2⟩ := hs y0 (by rw [e2]; simp) hb b3 b4
    have c1 := (f2.keep (h.n + 1) (by omega) (by omega)).trans b2
    have c0 := (f2.keep h.n (by omega) (by omega)).trans b1
    have hn2 := f2.n
    conv => whnf
    refine ⟨_, b1, ?_⟩
    conv => whnf
    refine .inl _ h2 .no hc ?_
    conv => whnf
    have fend : Foot (fun i => i < h.n + 2) hb h2 := f2.mono fun i _ hi => by omega
    cases hp : p y0
    · conv => whnf
      exact ⟨fend, c0, c1, b3.trans f2, i2, done ++ [y0], rest, rfl, by rw [e2]; simp, fun z hz => by
        rcases List.mem_append.1 hz with h | h
        · exact e3 z h
        · rw [List.mem_singleton] at h; rw [h]; exact hp⟩
    · conv => whnf
      refine ⟨_, c1, ?_⟩
      conv => whnf
      refine ⟨Foot.set (W := fun i => i < h.n + 2) (k := h.n + 1) fend (.inl (by omega)) _, rfl, y0, ?_, at_set_self _ _ (i := h.n + 1) (by omega), Foot.set (W := fun i => i = m) (k := h.n + 1) (b3.trans f2) (.inr (by omega)) _, mapInv_eq (at_set_ne _ _ (i := m) (k := h.n + 1) (by omega)) i2⟩
      rw [e2, List.find?_append]
      have : done.find? p = none := List.find?_eq_none.2 fun x hx => by rw [e3 x hx]; simp
      rw [this]
      simp [hp]
  · rintro h1 hn hc ⟨k1, k2, k3, k4, done, rest, e1, e2, e3⟩
    have : rest = [] := by cases rest with | nil => rfl | cons a l => cases e1
    subst this
    have hnone : ys.find? p = none := List.find?_eq_none.2 fun x hx => by rw [e2, List.append_nil] at hx; rw [e3 x hx]; simp
    rw [hnone]
    conv => whnf
    refine ⟨_, k1, ?_⟩
    conv => whnf
    refine ⟨_, hc, ?_⟩
    conv => whnf
    exact ⟨rfl, Foot.set (W := fun i => i = m) (k := h.n + 2) k3 (.inr (by omega)) _, mapInv_eq (at_set_ne _ _ (by omega)) k4⟩
  · rintro e h1 hn hc ⟨rfl, y, k2, k3, k4, k5⟩ _
    rw [k2]
    conv => whnf
    refine ⟨_, hc, ?_⟩
    conv => whnf
    refine ⟨_, (at_set_ne _ _ (i := h.n + 1) (k := h.n + 2) (by omega)).trans k3, ?_⟩
    conv => whnf
    exact ⟨rfl, Foot.set (W := fun i => i = m) (k := h.n + 2) k4 (.inr (by omega)) _, mapInv_eq (at_set_ne _ _ (by omega)) k5⟩
  · rintro v h1 _ _ hx
    exact hx.elim

def clashS (d : Dr) : Option Nat := (bySize d.pens.length).find? fun s => !possibleF (takingF (flockF d) s)

theorem mem_bySize {m s : Nat} : s ∈ bySize m ↔ s < 2 ^ m ∧ pop s ≤ m := by
  unfold bySize sizesFrom setsOf
  simp only [List.mem_flatMap, List.mem_filter, List.mem_range', beq_iff_eq]
  constructor
  · rintro ⟨k, ⟨i, h1, rfl⟩, ⟨j, h2, rfl⟩, h3⟩; omega
  · rintro ⟨h1, h2⟩; exact ⟨pop s, ⟨pop s, by omega, by omega⟩, ⟨s, by omega, by omega⟩, rfl⟩

set_option maxHeartbeats 1000000 in
theorem find_clash {v : DV} {d : Dr} (hv : v.Is d) (hd : validB d = true) : CallOk Try.prog 65 ([dP v].map .c) TMap.nil .no (firstC (clashS d)) TMap.nil .no := by
  obtain ⟨s1, s2, s3, s4, _⟩ := valid_sizes hd
  have e1 := hv.pn
  have hp : d.pens ≠ [] := fun e => by rw [e] at s3; simp at s3
  have hf := flock_near hd
  have hpf : (flockF d).pens ≠ [] := fun e => hp (by simpa [flockF] using e)
  suffices H : ∃ e h', CallOk Try.prog 65 ([dP v].map .c) TMap.nil .no e h' .no ∧ e = firstC (clashS d) by
    obtain ⟨e, h', hc, rfl⟩ := H
    have hval : ∃ c, (firstC (clashS d)).val = .c c ∧ (firstC (clashS d)).setVal (.c c) = firstC (clashS d) := by
      cases clashS d with
      | none => exact ⟨_, rfl, rfl⟩
      | some s => exact ⟨_, rfl, rfl⟩
    obtain ⟨c, h1, h2⟩ := hval
    have := callOk_close (args := [dP v]) hc (fuel := 1) (r := (c, [])) (by rw [h1]; rfl)
    rw [h2] at this
    exact this
  refine call_by (hm := false) Try.func65 rfl ?_
  conv => whnf
  refine ⟨_, rfl, ?_⟩
  conv => whnf
  obtain ⟨e1', h1, hc1, m, rfl, hm0, hm1, hI1, f1⟩ := know_ret hv s2 hp (specAgree (flockF d)) TMap.nil
  refine .inl _ h1 .no hc1 ?_
  conv => whnf
  refine ⟨_, at_push_self _ _, ?_⟩
  conv => whnf
  refine ⟨_, rfl, ?_⟩
  conv => whnf
  refine .ret (bySize_ret v.pn) rfl ?_
  conv => whnf
  rw [e1]
  have h32 : 2 ^ d.pens.length ≤ 2 ^ 5 := Nat.pow_le_pow_right (by omega) s4
  have b0 : ∀ c, Heap.at ((h1.push .dead c).set .dead h1.n (knBlk (flockF d) m)) h1.n = knBlk (flockF d) m := fun c => at_new _ _ _
  have bm : ∀ c, Heap.at ((h1.push .dead c).set .dead h1.n (knBlk (flockF d) m)) m = Heap.at h1 m := fun c => at_old _ _ _ hm1
  have key : ∀ c, ∃ e h', CallOk Try.prog 66 [.c (bySizeC d.pens.length), wantC h1.n] ((h1.push .dead c).set .dead h1.n (knBlk (flockF d) m)) .no e h' .no ∧ (e = firstC (clashS d) ∧ Foot (fun i => i = m) ((h1.push .dead c).set .dead h1.n (knBlk (flockF d) m)) h' ∧ MapInv (specAgree (flockF d)) (Heap.at h' m)) := by
    intro c
    refine first_clash (bySize_iter s4) (p := fun s => !possibleF (takingF (flockF d) s)) (by rw [new_n]; omega) (mapInv_eq (bm c) hI1) ?_
    intro y hy h2 f2 i2
    have hn2 := f2.n
    rw [new_n] at hn2
    have := (mem_bySize.1 hy).1
    exact suits_clash hf hpf (by omega) (by omega) ((f2.keep _ (by rw [new_n]; omega) (by omega)).trans (b0 c)) i2
  obtain ⟨e2, h2, hc2, he2, f2, i2⟩ := key _
  refine .inl _ h2 .no hc2 ?_
  conv => whnf
  subst he2
  cases clashS d with
  | none =>
    conv => whnf
    rfl
  | some s =>
    conv => whnf
    rfl

/-! What is caught. -/
theorem caught2_no (id : Nat) (h : Heap) : CallOk Try.prog 90 [.ptr id 0] h .no (.ret (.c (.tuple []))) h .no := by
  suffices H : ∃ e h' p', CallOk Try.prog 90 [.ptr id 0] h .no e h' p' ∧ (e = .ret (.c (.tuple [])) ∧ h' = h ∧ p' = .no) by
    obtain ⟨e, h', p', h1, rfl, rfl, rfl⟩ := H
    exact h1
  refine call_byP (hm := false) Try.func90 rfl ?_
  conv => whnf
  exact ⟨rfl, rfl, rfl⟩
theorem caught2_live {id : Nat} {h : Heap} {c c0 : Int} (hb : Heap.at h id = .blk [.c (I c0)]) : CallOk Try.prog 90 [.ptr id 0] h (.live (.c (.iface 30 (I c)))) (.ret (.c (.tuple []))) (h.set .dead id (.blk [.c (I c)])) .taken := by
  suffices H : ∃ e h' p', CallOk Try.prog 90 [.ptr id 0] h (.live (.c (.iface 30 (I c)))) e h' p' ∧ (e = .ret (.c (.tuple [])) ∧ h' = h.set .dead id (.blk [.c (I c)]) ∧ p' = .taken) by
    obtain ⟨e, h', p', h1, rfl, rfl, rfl⟩ := H
    exact h1
  refine call_byP (hm := false) Try.func90 rfl ?_
  conv => whnf
  refine ⟨_, hb, ?_⟩
  conv => whnf
  exact ⟨rfl, rfl, rfl⟩

def toldN (o : Option Nat) : CV := match o with
  | some s => .tuple [I s, I 0]
  | none => .tuple [I 0, I 4]
theorem told_clash_ret {v : DV} {d : Dr} (hv : v.Is d) (hd : validB d = true) : Ret Try.prog 64 [.func (.func 65) [] [dP v]] (toldN (clashS d)) := by
  have hc := find_clash hv hd
  refine ret_by (hm := true) Try.func64 rfl ?_
  conv => whnf
  cases hsp : clashS d with
  | none =>
    rw [hsp] at hc
    refine .pure [dP v] _ rfl hc ⟨_, rfl⟩ ?_
    conv => whnf
    refine .mk _ _ _ (caught2_live (c := 4) (c0 := 10) rfl) ?_
    conv => whnf
    exact .val
  | some s =>
    rw [hsp] at hc
    refine .pure [dP v] _ rfl hc ⟨_, rfl⟩ ?_
    conv => whnf
    refine .mk _ _ _ (caught2_no _ _) ?_
    conv => whnf
    exact .val

/-- What Clash returns. -/
def clashR (d : Dr) : Nat × Int := if validB d = false then (0, 1) else match clashS d with
  | some s => (s, 0)
  | none => (0, 4)
theorem clash_ret {v : DV} {d : Dr} (hv : v.Is d) : Ret Try.prog 28 [v.cv] (.tuple [I (clashR d).1, I (clashR d).2]) := by
  refine ret_by (hm := true) Try.func28 rfl ?_
  conv => whnf
  refine .ret (valid_ret hv) rfl ?_
  conv => whnf
  unfold clashR
  cases h1 : validB d
  · conv => whnf
    exact .val
  have hc := told_clash_ret hv h1
  simp only [Bool.true_eq_false, if_false]
  conv => whnf
  cases hsp : clashS d with
  | none =>
    rw [hsp] at hc
    refine .snapped 10 _ _ _ _ rfl hc rfl ?_
    conv => whnf
    exact .val
  | some s =>
    rw [hsp] at hc
    refine .snapped 10 _ _ _ _ rfl hc rfl ?_
    conv => whnf
    exact .val
end Go.Ag
/- Layer 2: droves of which one number is told; copies of one's own. -/
namespace Go.Ag
open Go.Proofs
set_option maxRecDepth 100000

def setP (d : Dr) (k : Nat) (p : Pn) : Dr := { d with pens := d.pens.set k p }
def setM (d : Dr) (j : Nat) (m : Mo) : Dr := { d with mobs := d.mobs.set j m }
def pinP (d : Dr) (k : Nat) (n : Int) : Dr := setP d k ⟨(penAt d k).fr, n, n⟩
def pinM (d : Dr) (j : Nat) (n : Int) : Dr := setM d j ⟨n, n, (mobAt d j).left⟩

theorem setP_at {d : Dr} {k : Nat} (hk : k < d.pens.length) (p : Pn) (i : Nat) : penAt (setP d k p) i = if i = k then p else penAt d i := by
  unfold penAt setP
  simp only [List.getD_eq_getElem?_getD, List.getElem?_set]
  by_cases h : k = i
  · subst h; simp [hk]
  · simp [h, Ne.symm h]
theorem setM_at {d : Dr} {j : Nat} (hj : j < d.mobs.length) (m : Mo) (i : Nat) : mobAt (setM d j m) i = if i = j then m else mobAt d i := by
  unfold mobAt setM
  simp only [List.getD_eq_getElem?_getD, List.getElem?_set]
  by_cases h : j = i
  · subst h; simp [hj]
  · simp [h, Ne.symm h]
theorem setP_len (d : Dr) (k : Nat) (p : Pn) : (setP d k p).pens.length = d.pens.length := by simp [setP]
theorem setM_len (d : Dr) (j : Nat) (m : Mo) : (setM d j m).mobs.length = d.mobs.length := by simp [setM]

theorem flock_pinP {d : Dr} {k : Nat} (hk : k < d.pens.length) (n : Int) : flockF (pinP d k n) = penFl (flockF d) k n := by
  unfold penFl setPen fixPen
  rw [penF_flock hk]
  unfold flockF pinP setP cutPen
  simp [List.map_set]
  exact ⟨rfl, rfl, rfl⟩
theorem flock_pinM {d : Dr} {j : Nat} (hj : j < d.mobs.length) (n : Int) : flockF (pinM d j n) = mobFl (flockF d) j n := by
  have hl : (pinM d j n).mobs.length = d.mobs.length := setM_len _ _ _
  have ha : ∀ i, mobAt (pinM d j n) i = if i = j then ⟨n, n, (mobAt d j).left⟩ else mobAt d i := fun i => setM_at hj _ i
  unfold mobFl flockF
  rw [hl]
  have e1 : cutF d.mobs.length (fun i => (mobAt (pinM d j n) i).lo) = putF (cutF d.mobs.length fun i => (mobAt d i).lo) j n := by
    funext i
    simp only [cutF, putF, ha]
    by_cases h : i = j
    · subst h; simp [hj]
    · simp [h]
  have e2 : cutF d.mobs.length (fun i => (mobAt (pinM d j n) i).hi) = putF (cutF d.mobs.length fun i => (mobAt d i).hi) j n := by
    funext i
    simp only [cutF, putF, ha]
    by_cases h : i = j
    · subst h; simp [hj]
    · simp [h]
  have e3 : cutF d.mobs.length (fun i => (mobAt (pinM d j n) i).left) = cutF d.mobs.length fun i => (mobAt d i).left := by
    funext i
    simp only [cutF, ha]
    by_cases h : i = j
    · subst h; simp
    · simp [h]
  rw [e1, e2, e3]
  rfl

theorem sheep_setP {d : Dr} {k : Nat} (hk : k < d.pens.length) {p : Pn} (hp : p.fr = (penAt d k).fr) (j : Nat) : sheepF (setP d k p) j = sheepF d j := by
  unfold sheepF
  rw [setP_len]
  congr 1
  refine sumTo_congr _ fun i _ => ?_
  rw [setP_at hk]
  by_cases h : i = k
  · subst h; simp [hp]
  · simp [h]

theorem valid_iff (d : Dr) : validB d = true ↔ (1 ≤ d.mobs.length ∧ d.mobs.length ≤ 4 ∧ 1 ≤ d.pens.length ∧ d.pens.length ≤ 5 ∧ 0 ≤ d.limit ∧ d.limit ≤ 36) ∧
    (∀ k, k < d.pens.length → 0 ≤ (penAt d k).lo ∧ (penAt d k).lo ≤ (penAt d k).hi ∧ (penAt d k).hi ≤ 36 ∧ ∀ j, j < d.mobs.length → 0 ≤ (penAt d k).fr j ∧ (penAt d k).fr j ≤ 9) ∧
    ∀ j, j < d.mobs.length → 0 ≤ (mobAt d j).left ∧ (mobAt d j).left ≤ 9 ∧ 0 ≤ (mobAt d j).lo ∧ (mobAt d j).lo ≤ (mobAt d j).hi ∧ (mobAt d j).hi ≤ 54 ∧ (mobAt d j).lo ≤ sheepF d j := by
  constructor
  · intro h
    exact ⟨valid_sizes h, fun k hk => valid_pen h hk, fun j hj => valid_mob h hj⟩
  · rintro ⟨h1, h2, h3⟩
    simp only [validB, Bool.and_eq_true]
    refine ⟨⟨?_, allTo_iff.2 fun k hk => ?_⟩, allTo_iff.2 fun j hj => ?_⟩
    · simp only [sizesOk, inB, Bool.and_eq_true, decide_eq_true_eq]; omega
    · have := h2 k hk
      simp only [penOk, spanB, fromOk, Bool.and_eq_true, decide_eq_true_eq]
      refine ⟨⟨⟨this.1, this.2.1⟩, this.2.2.1⟩, allTo_iff.2 fun j hj => ?_⟩
      have := this.2.2.2 j hj
      simpa [inB] using this
    · have := h3 j hj
      simp only [mobOk, spanB, inB, Bool.and_eq_true, decide_eq_true_eq, Bool.not_eq_true', decide_eq_false_iff_not]
      omega

theorem valid_setP {d : Dr} (h : validB d = true) {k : Nat} (hk : k < d.pens.length) {p : Pn} (hf : p.fr = (penAt d k).fr) (h1 : 0 ≤ p.lo) (h2 : p.lo ≤ p.hi) (h3 : p.hi ≤ 36) : validB (setP d k p) = true := by
  obtain ⟨k1, k2, k3⟩ := (valid_iff d).1 h
  refine (valid_iff _).2 ⟨by rw [setP_len]; exact k1, fun i hi => ?_, fun j hj => ?_⟩
  · rw [setP_len] at hi
    rw [setP_at hk]
    by_cases he : i = k
    · rw [if_pos he, hf]; exact ⟨h1, h2, h3, (k2 k hk).2.2.2⟩
    · rw [if_neg he]; exact k2 i hi
  · rw [sheep_setP hk hf]
    exact k3 j hj
theorem valid_pinP {d : Dr} (h : validB d = true) {k : Nat} (hk : k < d.pens.length) {n : Int} (h1 : 0 ≤ n) (h2 : n ≤ 36) : validB (pinP d k n) = true := valid_setP h hk rfl h1 (Int.le_refl _) h2

theorem valid_pinM {d : Dr} (h : validB d = true) {j : Nat} (hj : j < d.mobs.length) (n : Int) : validB (pinM d j n) = (decide (0 ≤ n) && decide (n ≤ 54) && decide (n ≤ sheepF d j)) := by
  obtain ⟨k1, k2, k3⟩ := (valid_iff d).1 h
  have ha : ∀ i, mobAt (pinM d j n) i = if i = j then ⟨n, n, (mobAt d j).left⟩ else mobAt d i := fun i => setM_at hj _ i
  have hs : ∀ i, sheepF (pinM d j n) i = sheepF d i := by
    intro i
    unfold sheepF
    rw [ha]
    congr 1
    by_cases he : i = j
    · subst he; simp
    · simp [he]
  rw [Bool.eq_iff_iff, valid_iff]
  simp only [Bool.and_eq_true, decide_eq_true_eq]
  have hl : (pinM d j n).mobs.length = d.mobs.length := setM_len _ _ _
  rw [hl]
  constructor
  · rintro ⟨_, _, h3⟩
    have := h3 j hj
    rw [ha, if_pos rfl, hs] at this
    exact ⟨⟨this.2.2.1, this.2.2.2.2.1⟩, this.2.2.2.2.2⟩
  · rintro ⟨⟨h1, h2⟩, h3⟩
    refine ⟨k1, k2, fun i hi => ?_⟩
    rw [ha, hs]
    by_cases he : i = j
    · subst he; rw [if_pos rfl]; exact ⟨(k3 i hj).1, (k3 i hj).2.1, h1, Int.le_refl _, h2, h3⟩
    · rw [if_neg he]; exact k3 i hi

theorem among_le_sum {g : Nat → Int} (h : ∀ i, 0 ≤ g i) (s : Nat) : among g s ≤ sum4 g := by
  rw [among_eq]
  have h0 := h 0; have h1 := h 1; have h2 := h 2; have h3 := h 3
  have e : sum4 g = g 0 + g 1 + g 2 + g 3 := by simp only [sum4, sumTo]; omega
  rw [e]
  cases s.testBit 0 <;> cases s.testBit 1 <;> cases s.testBit 2 <;> cases s.testBit 3 <;> simp <;> omega
/-! Whether anything clashes. -/
theorem room_taking {f : Fl} (hf : FlGood f) (t s : Nat) : roomF f s ≤ roomF (takingF f t) s := by
  unfold roomF
  have hl : (takingF f t).pens.length = f.pens.length := tk_len ..
  rw [hl]
  have : ∀ n, sumTo (fun k => min (penF f k).hi (among (penF f k).fr s)) n ≤ sumTo (fun k => min (penF (takingF f t) k).hi (among (penF (takingF f t) k).fr s)) n := by
    intro n
    induction n with
    | zero => exact Int.le_refl _
    | succ n ih =>
      simp only [sumTo]
      have : min (penF f n).hi (among (penF f n).fr s) ≤ min (penF (takingF f t) n).hi (among (penF (takingF f t) n).fr s) := by
        rcases taking_pen f t n with h | h
        · rw [h]; exact Int.le_refl _
        · rw [h]
          have := among_le_sum (hf.fr n) s
          show min (penF f n).hi (among (penF f n).fr s) ≤ min (sum4 (penF f n).fr) (among (penF f n).fr s)
          omega
      omega
  have := this f.pens.length
  show among f.left s + _ ≤ among f.left s + _
  omega
theorem need_taking {f : Fl} (hf : FlGood f) (t s : Nat) : needF (takingF f t) s ≤ needF f s := by
  unfold needF
  have hl : (takingF f t).pens.length = f.pens.length := tk_len ..
  rw [hl]
  have : ∀ n, sumTo (fun k => max 0 ((penF (takingF f t) k).lo - among (penF (takingF f t) k).fr (othersOf f.mobs s))) n ≤ sumTo (fun k => max 0 ((penF f k).lo - among (penF f k).fr (othersOf f.mobs s))) n := by
    intro n
    induction n with
    | zero => exact Int.le_refl _
    | succ n ih =>
      simp only [sumTo]
      have : max 0 ((penF (takingF f t) n).lo - among (penF (takingF f t) n).fr (othersOf f.mobs s)) ≤ max 0 ((penF f n).lo - among (penF f n).fr (othersOf f.mobs s)) := by
        rcases taking_pen f t n with h | h
        · rw [h]; exact Int.le_refl _
        · rw [h]
          have := among_nonneg (hf.fr n) (othersOf f.mobs s)
          simp only
          omega
      omega
  exact this f.pens.length
theorem taking_wide {f : Fl} (hf : FlGood f) (t : Nat) (h : possibleF f = true) : possibleF (takingF f t) = true := by
  rw [possible_iff] at h ⊢
  intro s hs
  have h1 := h s hs
  have h2 := room_taking hf t s
  have h3 := need_taking hf t s
  exact ⟨Int.le_trans h1.1 h2, Int.le_trans h3 h1.2⟩

theorem pop_le : ∀ m, m ≤ 5 → pop (2 ^ m - 1) ≤ m := by decide
theorem clash_none {d : Dr} (h : validB d = true) : clashS d = none ↔ possibleF (flockF d) = true := by
  obtain ⟨s1, s2, s3, s4, _⟩ := valid_sizes h
  have hl : (flockF d).pens.length = d.pens.length := by simp [flockF]
  unfold clashS
  rw [List.find?_eq_none]
  constructor
  · intro h1
    have := h1 (2 ^ d.pens.length - 1) (mem_bySize.2 ⟨by have := Nat.two_pow_pos d.pens.length; omega, pop_le _ s4⟩)
    rw [← hl, taking_all] at this
    simpa using this
  · intro h1 s hs
    rw [taking_wide (flock_good h).1 s h1]
    simp
theorem clash_err {d : Dr} (h : validB d = true) : (clashR d).2 = if possibleF (flockF d) = true then 4 else 0 := by
  unfold clashR
  rw [h]
  simp only [Bool.true_eq_false, if_false]
  cases hc : clashS d with
  | none => rw [if_pos ((clash_none h).1 hc)]
  | some s =>
    have : ¬ possibleF (flockF d) = true := fun hp => by rw [(clash_none h).2 hp] at hc; cases hc
    rw [if_neg this]

/-! What is returned, and what can be. -/
theorem pen_can {d : Dr} (h : validB d = true) (hp : possibleF (flockF d) = true) {k : Nat} (hk : k < d.pens.length) : ∃ a b, penR d k = ((a, b), 0) ∧ a ≤ b ∧ 0 ≤ a ∧ b ≤ 36 ∧ ∀ n, 0 ≤ n → n ≤ 36 →
    ((a ≤ n ∧ n ≤ b) ↔ possibleF (penFl (flockF d) k n) = true ∧ (penAt d k).lo ≤ n ∧ n ≤ (penAt d k).hi) := by
  obtain ⟨hg, hlm⟩ := flock_good h
  have hl : (flockF d).pens.length = d.pens.length := by simp [flockF]
  have hk' : k < (flockF d).pens.length := by omega
  have v := valid_pen h hk
  have e : penF (flockF d) k = cutPen d.mobs.length (penAt d k) := penF_flock hk
  have elo : (penF (flockF d) k).lo = (penAt d k).lo := by rw [e]; rfl
  have ehi : (penF (flockF d) k).hi = (penAt d k).hi := by rw [e]; rfl
  obtain ⟨n0, i1, i2, i3⟩ := pen_some hg (fun s => among_mono hlm s) hk' hp
  obtain ⟨a, b, hs, hab, hla, hbh, ha, hb, hall⟩ := spanBy_some (lo := (penF (flockF d) k).lo) (hi := (penF (flockF d) k).hi) (p := fun n => possibleF (penFl (flockF d) k n)) ⟨n0, i1, i2, i3⟩
  rw [elo] at hla
  rw [ehi] at hbh
  refine ⟨a, b, ?_, hab, by omega, by omega, fun n _ _ => ⟨fun hn => ⟨pen_between hk' hn.1 hn.2 ha hb, by omega, by omega⟩, fun hn => hall n (by omega) (by omega) hn.1⟩⟩
  unfold penR
  have hin : inB (k : Int) 0 ((d.pens.length : Int) - 1) = true := by simp only [inB, Bool.and_eq_true, decide_eq_true_eq]; omega
  rw [h, hin]
  have : spanPen (flockF d) (k : Int).toNat = some (a, b) := hs
  simp only [Bool.true_eq_false, if_false, this]

theorem among_one (g : Nat → Int) {j : Nat} (hj : j < 4) : among g (2 ^ j) = g j := by
  rw [among_eq]
  simp only [Nat.testBit_two_pow]
  rcases (by omega : j = 0 ∨ j = 1 ∨ j = 2 ∨ j = 3) with rfl | rfl | rfl | rfl <;> simp
theorem room_one {d : Dr} (h : validB d = true) {j : Nat} (hj : j < d.mobs.length) : roomF (flockF d) (2 ^ j) ≤ sheepF d j := by
  obtain ⟨s1, s2, s3, s4, _⟩ := valid_sizes h
  unfold roomF sheepF
  rw [among_one _ (by omega)]
  have hl : (flockF d).pens.length = d.pens.length := by simp [flockF]
  rw [hl]
  have e0 : (flockF d).left j = (mobAt d j).left := by simp [flockF, cutF, hj]
  have : ∀ n, n ≤ d.pens.length → sumTo (fun k => min (penF (flockF d) k).hi (among (penF (flockF d) k).fr (2 ^ j))) n ≤ sumTo (fun k => (penAt d k).fr j) n := by
    intro n
    induction n with
    | zero => intro _; exact Int.le_refl _
    | succ n ih =>
      intro hn
      have := ih (by omega)
      simp only [sumTo]
      have e : among (penF (flockF d) n).fr (2 ^ j) = (penAt d n).fr j := by
        rw [among_one _ (by omega), penF_flock (by omega)]
        simp [cutPen, cutF, hj]
      rw [e]
      omega
  have := this d.pens.length (Nat.le_refl _)
  omega
theorem mob_sheep {d : Dr} (h : validB d = true) {j : Nat} (hj : j < d.mobs.length) {n : Int} (hp : possibleF (mobFl (flockF d) j n) = true) : n ≤ sheepF d j := by
  obtain ⟨s1, s2, s3, s4, _⟩ := valid_sizes h
  have h1 := possible_iff.1 hp (2 ^ j) (by show 2 ^ j < 2 ^ d.mobs.length; exact Nat.pow_lt_pow_right (by omega) hj)
  have h2 : among (mobFl (flockF d) j n).least (2 ^ j) = n := by rw [among_one _ (by omega)]; simp [mobFl, putF]
  have h3 : roomF (mobFl (flockF d) j n) (2 ^ j) = roomF (flockF d) (2 ^ j) := rfl
  have := room_one h hj
  omega

theorem mob_can {d : Dr} (h : validB d = true) (hp : possibleF (flockF d) = true) {k : Nat} (hk : k < d.mobs.length) : ∃ a b, mobR d k = ((a, b), 0) ∧ a ≤ b ∧ 0 ≤ a ∧ b ≤ 54 ∧ b ≤ sheepF d k ∧ ∀ n,
    ((a ≤ n ∧ n ≤ b) ↔ possibleF (mobFl (flockF d) k n) = true ∧ (mobAt d k).lo ≤ n ∧ n ≤ (mobAt d k).hi) := by
  obtain ⟨s1, s2, s3, s4, _⟩ := valid_sizes h
  obtain ⟨hg, hlm⟩ := flock_good h
  have v := valid_mob h hk
  have elo : (flockF d).least k = (mobAt d k).lo := by simp [flockF, cutF, hk]
  have ehi : (flockF d).most k = (mobAt d k).hi := by simp [flockF, cutF, hk]
  obtain ⟨n0, i1, i2, i3⟩ := mob_some hg hlm (k := k) hk hp
  obtain ⟨a, b, hs, hab, hla, hbh, ha, hb, hall⟩ := spanBy_some (lo := (flockF d).least k) (hi := (flockF d).most k) (p := fun n => possibleF (mobFl (flockF d) k n)) ⟨n0, i1, i2, i3⟩
  rw [elo] at hla
  rw [ehi] at hbh
  refine ⟨a, b, ?_, hab, by omega, by omega, mob_sheep h hk hb, fun n => ⟨fun hn => ⟨mob_between (by omega) hn.1 hn.2 ha hb, by omega, by omega⟩, fun hn => hall n (by omega) (by omega) hn.1⟩⟩
  unfold mobR
  have hin : inB (k : Int) 0 ((d.mobs.length : Int) - 1) = true := by simp only [inB, Bool.and_eq_true, decide_eq_true_eq]; omega
  rw [h, hin]
  have : spanMob (flockF d) (k : Int).toNat = some (a, b) := hs
  simp only [Bool.true_eq_false, if_false, this]

/-- Where there is no truth nothing is returned. -/
theorem all_fail {d : Dr} (h : validB d = true) (hp : possibleF (flockF d) = false) : (∀ k, k < d.pens.length → penR d k = ((0, 0), 10)) ∧ (∀ j, j < d.mobs.length → mobR d j = ((0, 0), 10)) ∧ allR d = ((0, 0), 10) := by
  obtain ⟨hg, hlm⟩ := flock_good h
  have hl : (flockF d).pens.length = d.pens.length := by simp [flockF]
  refine ⟨fun k hk => ?_, fun k hk => ?_, ?_⟩
  · have hin : inB (k : Int) 0 ((d.pens.length : Int) - 1) = true := by simp only [inB, Bool.and_eq_true, decide_eq_true_eq]; omega
    have : spanPen (flockF d) (k : Int).toNat = none := (pen_span hg (fun s => among_mono hlm s) (k := k) (by omega)).1 hp
    unfold penR
    rw [h, hin]
    simp only [Bool.true_eq_false, if_false, this]
  · have hin : inB (k : Int) 0 ((d.mobs.length : Int) - 1) = true := by simp only [inB, Bool.and_eq_true, decide_eq_true_eq]; omega
    have : spanMob (flockF d) (k : Int).toNat = none := (mob_span hg hlm (k := k) hk).1 hp
    unfold mobR
    rw [h, hin]
    simp only [Bool.true_eq_false, if_false, this]
  · unfold allR allS
    rw [h, ← hl, taking_all, hp]
    simp
end Go.Ag
/- Layer 2: copies of one's own. -/
namespace Go.Ag
open Go.Proofs
set_option maxRecDepth 100000

def mobCells (l : List Mo) : List CV := (l.map rowMo).flatten
def vOf (d : Dr) : DV := ⟨mobCells d.mobs, 0, d.mobs.length, penCells d.pens, 0, d.pens.length, d.limit⟩
theorem flat_rows {α : Type} {sz : Nat} {rows : List (List α)} (hr : ∀ r ∈ rows, r.length = sz) {i : Nat} {r : List α} (h : rows[i]? = some r) : sliceOf rows.flatten (0 + i * sz) sz = some r := by
  rw [Nat.zero_add]; exact flat_sl rows hr i r h
theorem rowMo_len (l : List Mo) : ∀ r ∈ l.map rowMo, r.length = 3 := by intro r hr; obtain ⟨x, _, rfl⟩ := List.mem_map.1 hr; rfl
theorem rowPn_len (l : List Pn) : ∀ r ∈ l.map rowPn, r.length = 6 := by intro r hr; obtain ⟨x, _, rfl⟩ := List.mem_map.1 hr; rfl
theorem vOf_is {d : Dr} (h : d.mobs.length ≤ 40 ∧ d.pens.length ≤ 40) : (vOf d).Is d := by
  refine ⟨⟨by simp [vOf], fun i r hr => ?_⟩, ⟨by simp [vOf], fun i r hr => ?_⟩, rfl, h⟩
  · exact flat_rows (rowMo_len _) hr
  · exact flat_rows (rowPn_len _) hr

theorem snap_own {H : Nat → AB} {a b M P : Nat} {lim : Int} {d : Dr} (hm : d.mobs.length = M) (hp : d.pens.length = P) (hl : d.limit = lim) (ha : H a = .blk ((mobCells d.mobs).map .c)) (hb : H b = .blk ((penCells d.pens).map .c)) :
    snaps H ((mobCells d.mobs).length + (penCells d.pens).length + 40) [.agg [.msl a 3 0 M M, .msl b 6 0 P P, .c (I lim)]] = some ([(vOf d).cv], [a, b]) := by
  subst hm hp hl
  simp only [snap, snaps, Option.bind_some, Option.map_some, ha, hb]
  rw [snaps_map_c H (mobCells d.mobs) _ (by omega), snaps_map_c H (penCells d.pens) _ (by omega)]
  rfl

/-- A copy, and what was written of it. -/
structure OwnHeap (h1 : Heap) (k : Nat) (O S B : AB) (H : Heap) : Prop where
  n : H.n = h1.n + 2
  o : Heap.at H h1.n = O
  s : Heap.at H (h1.n + 1) = S
  b : Heap.at H k = B
  old : ∀ i, i < h1.n → i ≠ k → Heap.at H i = Heap.at h1 i
theorem own_heap {h1 : Heap} {k : Nat} {Z O Z2 S B : AB} (hk : k < h1.n) : OwnHeap h1 k O S B (TMap.set .dead (TMap.set .dead (TMap.push .dead (TMap.set .dead (TMap.push .dead h1 Z) h1.n O) Z2) (h1.n + 1) S) k B) := by
  refine ⟨rfl, ?_, ?_, ?_, fun i hi hne => ?_⟩
  · rw [at_set_ne _ _ (by omega), at_set_ne _ _ (by omega), at_push_lt _ _ (by rw [TMap.set_n, push_n]; omega)]
    exact at_new _ _ _
  · rw [at_set_ne _ _ (by omega)]
    exact at_set_self _ _ (by show h1.n + 1 < h1.n + 1 + 1; omega)
  · exact at_set_self _ _ (by show k < h1.n + 1 + 1; omega)
  · rw [at_set_ne _ _ hne, at_set_ne _ _ (by omega), at_push_lt _ _ (by rw [TMap.set_n, push_n]; omega), at_set_ne _ _ (by omega), at_push_lt _ _ hi]

theorem flat_put {α : Type} {sz : Nat} : ∀ (rows : List (List α)) (_ : ∀ r ∈ rows, r.length = sz) (k : Nat) (r : List α) (j : Nat) (vs : List α), rows[k]? = some r → j + vs.length ≤ sz →
    putAt rows.flatten (k * sz + j) vs = some ((rows.set k (r.take j ++ vs ++ r.drop (j + vs.length))).flatten)
  | [], _, k, r, j, vs, h, _ => by simp at h
  | r0 :: rows, hr, 0, r, j, vs, h, hj => by
    simp only [List.getElem?_cons_zero, Option.some.injEq] at h
    subst h
    have h0 := hr r0 (List.mem_cons_self ..)
    unfold putAt
    rw [Nat.zero_mul, Nat.zero_add, List.flatten_cons, if_pos (by rw [List.length_append]; omega)]
    rw [List.take_append_of_le_length (by omega), List.drop_append_of_le_length (by omega)]
    simp
  | r0 :: rows, hr, k + 1, r, j, vs, h, hj => by
    have h0 := hr r0 (List.mem_cons_self ..)
    have ih := flat_put rows (fun x hx => hr x (List.mem_cons_of_mem _ hx)) k r j vs (by simpa using h) hj
    unfold putAt at ih ⊢
    split at ih
    case isFalse => cases ih
    rename_i hle
    simp only [Option.some.injEq] at ih
    have e : (k + 1) * sz + j = r0.length + (k * sz + j) := by rw [Nat.add_mul]; omega
    rw [List.flatten_cons, if_pos (by rw [List.length_append, e]; omega), e]
    rw [Nat.add_assoc r0.length, List.take_length_add_append, List.drop_length_add_append]
    rw [List.set_cons_succ, List.flatten_cons, ← ih]
    simp

theorem penCells_map (l : List Pn) : (penCells l).map AV.c = (l.map fun p => (rowPn p).map AV.c).flatten := by
  unfold penCells
  rw [List.map_flatten, List.map_map]; rfl
theorem mobCells_map (l : List Mo) : (mobCells l).map AV.c = (l.map fun p => (rowMo p).map AV.c).flatten := by
  unfold mobCells
  rw [List.map_flatten, List.map_map]; rfl

/-- What was found in a pen of one's own is written. -/
theorem put_found {l : List Pn} {k : Nat} (hk : k < l.length) (a b : Int) : putAt ((penCells l).map AV.c) (k * 6 + 4) [.c (I a), .c (I b)] = some ((penCells (l.set k ⟨(l.getD k default).fr, a, b⟩)).map AV.c) := by
  rw [penCells_map, penCells_map]
  have hg : l[k]? = some (l.getD k default) := by simp [hk]
  rw [flat_put _ (by intro r hr; obtain ⟨x, _, rfl⟩ := List.mem_map.1 hr; rfl) k ((rowPn (l.getD k default)).map AV.c) 4 [.c (I a), .c (I b)] (by simp only [List.getElem?_map, hg, Option.map_some]) (by simp)]
  rw [List.map_set]
  rfl
theorem put_wet {l : List Mo} {k : Nat} (hk : k < l.length) (a b : Int) : putAt ((mobCells l).map AV.c) (k * 3 + 0) [.c (I a), .c (I b)] = some ((mobCells (l.set k ⟨a, b, (l.getD k default).left⟩)).map AV.c) := by
  rw [mobCells_map, mobCells_map]
  have hg : l[k]? = some (l.getD k default) := by simp [hk]
  rw [flat_put _ (by intro r hr; obtain ⟨x, _, rfl⟩ := List.mem_map.1 hr; rfl) k ((rowMo (l.getD k default)).map AV.c) 0 [.c (I a), .c (I b)] (by simp only [List.getElem?_map, hg, Option.map_some]) (by simp)]
  rw [List.map_set]
  rfl

theorem allC_map (l : List CV) : allC (l.map AV.c) = some l := by
  induction l with
  | nil => rfl
  | cons a l ih => simp [allC, ih]
theorem mkAgg_map (l : List CV) : mkAgg (l.map AV.c) = .c (.agg l) := by unfold mkAgg; rw [allC_map]
theorem sliceOf_map {α β : Type} (f : α → β) (l : List α) (off n : Nat) : sliceOf (l.map f) off n = (sliceOf l off n).map (List.map f) := by
  unfold sliceOf
  simp only [← List.map_drop, ← List.map_take, List.length_map]
  split <;> rfl
theorem readVar_map {P : Program} {t : TypeId} {cells : List CV} {off : Nat} {v : CV} (h : readVarC P t cells off = some v) : readVar P t (cells.map AV.c) off = some (.c v) := by
  unfold readVarC at h
  unfold readVar
  split at h
  · rename_i ha
    rw [if_pos ha]
    cases hi : P.info? t with
    | none => rw [hi] at h; cases h
    | some i =>
      rw [hi] at h
      simp only [Option.bind_some, sliceOf_map] at h ⊢
      cases hs : sliceOf cells off i.size with
      | none => rw [hs] at h; cases h
      | some l =>
        rw [hs] at h
        simp only [Option.map_some, Option.some.injEq] at h ⊢
        rw [mkAgg_map, h]
  · rename_i ha
    rw [if_neg ha]
    split at h
    · rename_i hu
      rw [if_pos hu]
      simp [h]
    · cases h

/-- A load of cells that are not known one by one, and a store. -/
theorem look_read {P : Program} {t : TypeId} {cells : List AV} {off : Nat} {v : AV} {K : AV → Prop} (h : readVar P t cells off = some v) (k : K v) : match readVar P t cells off with | some v => K v | none => False := by
  rw [h]; exact k
theorem look_put {cells : List AV} {off : Nat} {vs cs : List AV} {K : List AV → Prop} (h : putAt cells off vs = some cs) (k : K cs) : match putAt cells off vs with | some cs => K cs | none => False := by
  rw [h]; exact k

/-! Two spans are compared. -/
theorem u29 : pureRun Try.prog (underlying 29) = some (.struct #[⟨"Lo", 3, 0, false, "", "", 0⟩, ⟨"Hi", 3, 1, false, "", "", 8⟩]) := by kernel_rfl
theorem st29 : Try.prog.stoodInHeld 29 = false := by kernel_rfl
theorem eq_span (a b a' b' : Int) : pureRun Try.prog (Op.equal 29 (.agg #[.int .i64 a, .int .i64 b]) (.agg #[.int .i64 a', .int .i64 b'])) = some (decide (a = a') && decide (b = b')) := by
  show pureRun Try.prog (Op.equalIn (9998 + 1 + 1) 29 _ _) = _
  rw [Op.equalIn.eq_def]
  simp only [pureRun_bind, u29, Option.bind_some, pp0, pureRun_ite, st29, Bool.false_eq_true, if_false]
  simp [pureRun_bind, pureRun_ite, part3, eq_int, pureRun_pure]
  by_cases h1 : a = a'
  · by_cases h2 : b = b'
    · simp [pureRun_bind, pureRun_ite, part3, eq_int, pureRun_pure, h1, h2]
    · simp [pureRun_bind, pureRun_ite, part3, eq_int, pureRun_pure, h1, h2]
  · simp [pureRun_pure, h1]
theorem eg29 : Try.prog.eqGuardType Try.prog.depth 29 = false := by kernel_rfl
theorem span_eql {o : Oper} {x y : Operand} {t2 : TypeId} {σ : Operand → AV} {a b c e : Int} (ho : o.op = .binOp .eql 29 x y t2) (hx : σ x = .c (.agg [I a, I b])) (hy : σ y = .c (.agg [I c, I e])) (rd : Nat → AB) (n : Nat) :
    aop Try.prog o σ rd n = some (.simple { val := .c (B (decide (a = c) && decide (b = e))) }) := by
  have vx : (σ x).toVal = some (.agg #[.int .i64 a, .int .i64 b]) := by rw [hx]; rfl
  have vy : (σ y).toVal = some (.agg #[.int .i64 c, .int .i64 e]) := by rw [hy]; rfl
  unfold aop
  rw [ho]
  simp only [abinOp, vx, vy, litBin]
  unfold pureOp
  have hv : (allVals σ o.op.operands.toList && notSelect o.op) = true := by
    rw [ho]; simp [Op.operands, allVals, vx, vy, notSelect]
  rw [if_pos hv]
  have hr : pureRun Try.prog (execOp (fun x => ((σ x).toVal).getD Go.undef) o) = some (.value (.bool (decide (a = c) && decide (b = e)))) := by
    unfold execOp
    rw [ho]
    simp only [vx, vy, Option.getD_some, eqGuard, binOp, pureRun_bind, pp0, Option.bind_some, pureRun_ite, eg29]
    simp [pureRun_bind, pp0, eg29, eq_span, pureRun_pure, pureRun_ite]
  rw [hr]
  rfl
theorem plain_val {hm : Bool} {o : Oper} {tmps : TMap AV} {ds : List ADef} {p : Pan} {rd : Option Nat} {h : Heap} {K : ASt → Prop} {X : AV → ASt → Prop} {v : AV} (ha : aop Try.prog o (evalF tmps) (fun _ => .dead) h.n = some (.simple { val := v })) (k : fin tmps ds p rd h o.dst v K) :
    wPlain Try.prog hm o tmps ds p rd h K X := by
  unfold wPlain
  rw [ha]
  exact k

theorem dplain_val {P : Program} {hm : Bool} {ops : Array Oper} {i : Nat} {o : Oper} {tmps : TMap AV} {ds : List ADef} {p : Pan} {rd : Option Nat} {h : Heap} {K : ASt → DRec → Prop} {v : AV} (ha : aop P o (evalF tmps) (fun _ => .dead) h.n = some (.simple { val := v }))
    (k : finD ops i o tmps ds p rd h h.n v [] [] none K) : dPlain P hm ops i o tmps ds p rd h K := by
  unfold dPlain
  rw [ha]
  exact k
theorem rem_aop {P : Program} {o : Oper} {x y : Operand} {t t2 : TypeId} {σ : Operand → AV} {a b : Int} (ho : o.op = .binOp .rem t x y t2) (hx : σ x = .c (.lit (.int .i64 a))) (hy : σ y = .c (.lit (.int .i64 b))) (hb : b ≠ 0) (rd : Nat → AB) (n : Nat) :
    aop P o σ rd n = some (.simple { val := .c (I (a.tmod b)) }) := by
  unfold aop
  rw [ho]
  simp only [abinOp, hx, hy, AV.toVal, CV.toVal, litBin, if_neg hb]
  rfl
theorem rem_to {P : Program} {o : Oper} {x y : Operand} {t t2 : TypeId} {σ : Operand → AV} {a b : Int} (z : Int) (ho : o.op = .binOp .rem t x y t2) (hx : σ x = .c (.lit (.int .i64 a))) (hy : σ y = .c (.lit (.int .i64 b))) (hb : b ≠ 0) (hz : a.tmod b = z) (rd : Nat → AB) (n : Nat) :
    aop P o σ rd n = some (.simple { val := .c (I z) }) := by rw [← hz]; exact rem_aop ho hx hy hb rd n
theorem wrap_u8 {w : Nat} (h : w < 256) : IntKind.i64.wrap (w : Int) = (w : Int) := wrap_eq (by omega) (by omega)
theorem rem_nat {w : Nat} (h : w < 256) (n : Nat) : (IntKind.i64.wrap (w : Int)).tmod (n : Int) = ((w % n : Nat) : Int) := by
  rw [wrap_u8 h, Int.tmod_eq_emod_of_nonneg (by omega)]
  omega
theorem put_found' {d : Dr} {k : Nat} (hk : k < d.pens.length) (a b : Int) : putAt ((penCells d.pens).map AV.c) (0 + (k : Int).toNat * 6 + 4) [.c (I a), .c (I b)] = some ((penCells (setP d k ⟨(penAt d k).fr, a, b⟩).pens).map AV.c) := by
  have := put_found hk a b
  rw [show 0 + (k : Int).toNat * 6 + 4 = k * 6 + 4 by omega]
  exact this
theorem put_wet' {d : Dr} {k : Nat} (hk : k < d.mobs.length) (a b : Int) : putAt ((mobCells d.mobs).map AV.c) (0 + (k : Int).toNat * 3 + 0) [.c (I a), .c (I b)] = some ((mobCells (setM d k ⟨a, b, (mobAt d k).left⟩).mobs).map AV.c) := by
  have := put_wet hk a b
  rw [show 0 + (k : Int).toNat * 3 + 0 = k * 3 + 0 by omega]
  exact this
end Go.Ag
