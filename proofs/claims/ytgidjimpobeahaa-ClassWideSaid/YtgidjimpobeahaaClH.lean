/- Sets by their size, only some looks; the law ClassClash returns true for arguments that are not far too long. No conditions. -/
import Derived.Test.YtgidjimpobeahaaClG
/- Layer 6: sets of looks; only some looks. -/
namespace Go.Ag
open Go.Proofs
set_option maxRecDepth 100000

def Less (a b : Nat) : Prop := popB a < popB b ∨ (popB a = popB b ∧ a < b)
instance (a b : Nat) : Decidable (Less a b) := by unfold Less; infer_instance
/-- Is it so of each one and the next? -/
def chain : List Nat → Bool
  | [] => true
  | [_] => true
  | a :: b :: l => decide (Less a b) && chain (b :: l)
theorem less_trans {a b c : Nat} (h1 : Less a b) (h2 : Less b c) : Less a c := by unfold Less at *; omega
theorem chain_pair : ∀ {l : List Nat}, chain l = true → l.Pairwise Less
  | [], _ => .nil
  | [a], _ => by simp
  | a :: b :: l, h => by
    simp only [chain, Bool.and_eq_true, decide_eq_true_eq] at h
    have ih := chain_pair h.2
    rw [List.pairwise_cons]
    refine ⟨fun x hx => ?_, ih⟩
    rcases List.mem_cons.1 hx with rfl | hx
    · exact h.1
    · exact less_trans h.1 ((List.pairwise_cons.1 ih).1 x hx)
theorem chained : ∀ m, m ≤ 6 → chain (bySize m) = true := by decide +kernel
theorem sorted {m : Nat} (h : m ≤ 6) : (bySize m).Pairwise Less := chain_pair (chained m h)
theorem pop_small : ∀ m, m ≤ 6 → ∀ s, s < 2 ^ m → popB s ≤ m := by decide +kernel
theorem first_least {m s : Nat} {q : Nat → Bool} (hm : m ≤ 6) (h : (bySize m).find? q = some s) : q s = true ∧ s < 2 ^ m ∧ ∀ t, t < 2 ^ m → q t = true → t = s ∨ Less s t := by
  have hs := List.find?_some h
  have hmem := List.mem_of_find?_eq_some h
  refine ⟨hs, (mem_bySize.1 hmem).1, fun t ht hq => ?_⟩
  obtain ⟨_, l1, l2, e, has⟩ := List.find?_eq_some_iff_append.1 h
  have hp := sorted hm
  rw [e, List.pairwise_append] at hp
  have htm : t ∈ bySize m := mem_bySize.2 ⟨ht, pop_small m hm t ht⟩
  rw [e] at htm
  rcases List.mem_append.1 htm with h1 | h1
  · have := has t h1
    rw [hq] at this
    simp at this
  · rcases List.mem_cons.1 h1 with h2 | h2
    · exact .inl h2
    · rw [List.pairwise_cons] at hp
      exact .inr (hp.2.1.1 t h2)
theorem first_none {m : Nat} {q : Nat → Bool} (hm : m ≤ 6) (h : (bySize m).find? q = none) {t : Nat} (ht : t < 2 ^ m) : q t = false := by
  have := List.find?_eq_none.1 h t (mem_bySize.2 ⟨ht, pop_small m hm t ht⟩)
  simpa using this
theorem pop_drop : ∀ s, s < 64 → ∀ p, p < 6 → s.testBit p = true → popB (diffN s (2 ^ p)) < popB s := by decide +kernel
/-! The reference's size of a set. -/
def sizeE (n c : Nat) : Known := ⟨28, [I n], I c⟩
theorem sizeA0 : ((List.range 16).all fun n => tells cfg0 2000 (sizeE (0 + n) (popB (0 + n)))) = true := by kernel_rfl
theorem sizeA1 : ((List.range 16).all fun n => tells cfg0 2000 (sizeE (16 + n) (popB (16 + n)))) = true := by kernel_rfl
theorem sizeA2 : ((List.range 16).all fun n => tells cfg0 2000 (sizeE (32 + n) (popB (32 + n)))) = true := by kernel_rfl
theorem sizeA3 : ((List.range 16).all fun n => tells cfg0 2000 (sizeE (48 + n) (popB (48 + n)))) = true := by kernel_rfl
theorem size_at {b n : Nat} (h : ((List.range 16).all fun n => tells cfg0 2000 (sizeE (b + n) (popB (b + n)))) = true) (h1 : b ≤ n) (h2 : n < b + 16) : (sizeE n (popB n)).ok Try.prog := by
  have := List.all_eq_true.1 h (n - b) (List.mem_range.2 (by omega))
  rw [show b + (n - b) = n by omega] at this
  exact tells_ok (C := cfg0) mix con0 this
theorem size_ret {n : Nat} (h : n < 64) : Ret Try.prog 28 [I n] (I (popB n)) := by
  by_cases h0 : n < 16
  · exact size_at sizeA0 (by omega) (by omega)
  by_cases h1 : n < 32
  · exact size_at sizeA1 (by omega) (by omega)
  by_cases h2 : n < 48
  · exact size_at sizeA2 (by omega) (by omega)
  exact size_at sizeA3 (by omega) (by omega)

theorem allN_bit (c : Ln) (i : Nat) : (allN c).testBit i = decide (i < c.bales.length) := by
  unfold allN; rw [Nat.testBit_two_pow_sub_one]
theorem lt_all {c : Ln} {y : Nat} : y < 2 ^ c.bales.length ↔ y ≤ allN c := by
  unfold allN
  have := Nat.one_le_two_pow (n := c.bales.length)
  omega
theorem sub_all {c : Ln} {y : Nat} (h : y ≤ allN c) (i : Nat) (hi : y.testBit i = true) : (allN c).testBit i = true := by
  rw [allN_bit]
  apply decide_eq_true
  rcases Nat.lt_or_ge i c.bales.length with h1 | h1
  · exact h1
  · rw [Nat.testBit_lt_two_pow (Nat.lt_of_lt_of_le (lt_all.2 h) (Nat.pow_le_pow_right (by omega) h1))] at hi; cases hi
/-- What is returned of looks that clash. -/
structure ClashIs (c : Ln) (y : Nat) : Prop where
  le : y ≤ allN c
  no : possB c false y = false
  least : ∀ z, z ≤ allN c → possB c false z = false → z = y ∨ Less y z
theorem clash_is {c : Ln} (hd : c.Good) (h : canT c = false) : ∃ y, clashS c = some y ∧ ClashIs c y := by
  have n6 := hd.n6
  cases hc : clashS c with
  | none =>
    have := first_none n6 hc (t := allN c) (lt_all.2 (Nat.le_refl _))
    have h' : possB c false (allN c) = false := h
    rw [h'] at this
    cases this
  | some y =>
    obtain ⟨q1, q2, q3⟩ := first_least n6 hc
    exact ⟨y, rfl, lt_all.1 q2, by simpa using q1, fun z hz hn => q3 z (lt_all.2 hz) (by simp [hn])⟩
theorem poss_tr {c : Ln} (hd : c.Good) (s : Nat) : possB c false s = true ↔ ∃ ws, Tru c s c.mist ws := by
  have hk := hd.k1
  unfold possB
  rw [decide_eq_true_eq]
  exact can_tr hd.n1 (by omega)
theorem poss_zero {c : Ln} (hd : c.Good) : possB c false 0 = true := by
  have n1 := hd.n1; have n6 := hd.n6
  have hk := hd.k0
  refine (poss_tr hd 0).2 ⟨List.replicate c.bales.length 0, by rw [owns_len]; simp, fun x hx => by rw [(List.mem_replicate.1 hx).2]; omega, ?_, ?_⟩
  · obtain ⟨n, hn⟩ : ∃ n, c.bales.length = n + 1 := ⟨c.bales.length - 1, by omega⟩
    rw [hn, List.replicate_succ]
    exact path_zero _ n
  · have := costL_le (l := owns c 0) (B := 0) (xs := List.replicate c.bales.length 0) (fun i o x h1 h2 => ?_) (Int.le_refl _)
    · omega
    · obtain ⟨hi, rfl⟩ := own_get h1
      have hx : x = 0 := (List.mem_replicate.1 (List.mem_of_getElem? h2)).2
      subst hx
      have hg := bale_good hd hi
      have := hg.f1
      unfold ownF ownB costB
      rw [Nat.zero_testBit]
      simp only [Bool.false_eq_true, if_false]
      split <;> omega
theorem clash_drop {c : Ln} (hd : c.Good) {y i : Nat} (h : ClashIs c y) (hi : y.testBit i = true) : possB c false (diffN y (2 ^ i)) = true := by
  have ha := allN_lt hd
  have n6 := hd.n6
  have hi8 : i < 6 := by
    have := sub_all h.le i hi
    rw [allN_bit] at this
    have := of_decide_eq_true this
    omega
  cases hc : possB c false (diffN y (2 ^ i)) with
  | true => rfl
  | false =>
    have hp := pop_drop y (Nat.lt_of_le_of_lt h.le ha) i hi8 hi
    have hle : diffN y (2 ^ i) ≤ allN c := lt_all.1 (diffN_lt (lt_all.2 h.le))
    rcases h.least _ hle hc with h1 | h1
    · rw [h1] at hp; omega
    · unfold Less at h1; omega

/-! Only some looks. -/
def lookB (s q i : Nat) (b : Bl) : Bl := if i < q ∧ s.testBit i = false then ⟨b.f, 0, 0⟩ else b
def lookQ (c : Ln) (s q : Nat) : Ln := { c with bales := c.bales.mapIdx fun i b => lookB s q i b }
theorem lookQ_len (c : Ln) (s q : Nat) : (lookQ c s q).bales.length = c.bales.length := List.length_mapIdx
theorem lookQ_get (c : Ln) (s q i : Nat) : (lookQ c s q).bales[i]? = (c.bales[i]?).map (lookB s q i) := List.getElem?_mapIdx
theorem lookQ_at {c : Ln} (s q : Nat) {i : Nat} (hi : i < c.bales.length) : baleAt (lookQ c s q) i = lookB s q i (baleAt c i) := by
  have h1 := lookQ_get c s q i
  rw [bale_get hi, bale_get (by rw [lookQ_len]; exact hi)] at h1
  exact Option.some.inj h1
theorem lookQ_zero (c : Ln) (s : Nat) : lookQ c s 0 = c := by
  obtain ⟨bs, a, b, m⟩ := c
  unfold lookQ
  congr 1
  apply List.ext_getElem?
  intro i
  rw [List.getElem?_mapIdx]
  cases bs[i]? with
  | none => rfl
  | some x => simp [lookB]
theorem lookQ_in {c : Ln} {s q : Nat} (h : s.testBit q = true) : lookQ c s (q + 1) = lookQ c s q := by
  obtain ⟨bs, a, b, m⟩ := c
  unfold lookQ
  congr 1
  apply List.ext_getElem?
  intro i
  rw [List.getElem?_mapIdx, List.getElem?_mapIdx]
  cases bs[i]? with
  | none => rfl
  | some x =>
    simp only [Option.map_some, Option.some.injEq]
    unfold lookB
    by_cases hi : i = q
    · subst hi; rw [h]; simp
    · have : (i < q + 1 ∧ s.testBit i = false) ↔ (i < q ∧ s.testBit i = false) := by constructor <;> (rintro ⟨h1, h2⟩; exact ⟨by omega, h2⟩)
      simp only [this]
theorem lookQ_out {c : Ln} {s q : Nat} (h : s.testBit q = false) (hq : q < c.bales.length) : (lookQ c s (q + 1)).bales = (lookQ c s q).bales.set q ⟨(baleAt c q).f, 0, 0⟩ := by
  apply List.ext_getElem?
  intro i
  rw [List.getElem?_set, lookQ_get]
  by_cases hi : q = i
  · subst hi
    rw [if_pos rfl, if_pos (by rw [lookQ_len]; exact hq), bale_get hq]
    simp only [Option.map_some, lookB]
    rw [if_pos ⟨by omega, h⟩]
  · rw [if_neg hi, lookQ_get]
    cases c.bales[i]? with
    | none => rfl
    | some x =>
      simp only [Option.map_some, Option.some.injEq]
      unfold lookB
      have : (i < q + 1 ∧ s.testBit i = false) ↔ (i < q ∧ s.testBit i = false) := by constructor <;> (rintro ⟨h1, h2⟩; exact ⟨by omega, h2⟩)
      simp only [this]
theorem lookB_good {s q i : Nat} {b : Bl} (h : b.Good) : (lookB s q i b).Good := by
  unfold lookB
  split
  · exact ⟨h.f1, h.f2, Int.le_refl 0, Int.le_trans (by omega : (0 : Int) ≤ 1) h.f1, Int.le_refl _, Int.le_refl _⟩
  · exact h
theorem lookQ_good {c : Ln} (hd : c.Good) (s q : Nat) : (lookQ c s q).Good := by
  refine ⟨by rw [lookQ_len]; exact hd.n1, by rw [lookQ_len]; exact hd.n6, fun b hb => ?_, hd.m0, hd.m1, hd.d0, hd.d1, hd.k0, hd.k1⟩
  obtain ⟨i, hi⟩ := List.mem_iff_getElem?.1 hb
  rw [lookQ_get] at hi
  cases hx : c.bales[i]? with
  | none => rw [hx] at hi; cases hi
  | some x =>
    rw [hx] at hi
    simp only [Option.map_some, Option.some.injEq] at hi
    subst hi
    exact lookB_good (hd.bl x (List.mem_of_getElem? hx))
theorem lookQ_owns (c : Ln) (s : Nat) : owns (lookQ c s c.bales.length) (allN (lookQ c s c.bales.length)) = owns c s := by
  unfold owns
  rw [lookQ_len]
  refine List.map_congr_left fun i hi => ?_
  have hi := List.mem_range.1 hi
  unfold ownF ownB
  rw [allN_bit, lookQ_len, decide_eq_true hi, if_pos rfl, lookQ_at _ _ hi]
  congr 1
  unfold lookB
  cases h : s.testBit i
  · rw [if_pos ⟨hi, rfl⟩]; simp
  · rw [if_neg (by simp)]; simp
theorem lookQ_mist {c : Ln} (hd : c.Good) (s : Nat) : decide (((mistN (lookQ c s c.bales.length) : Nat) : Int) > c.mist) = !possB c false s := by
  have hk0 := hd.k0; have hk1 := hd.k1
  obtain ⟨m, hm⟩ : ∃ m : Nat, c.mist = m := ⟨c.mist.toNat, by omega⟩
  have h1 := mist_iff (lookQ_good hd s c.bales.length) (m := m) (by omega)
  have h2 := poss_tr hd s
  have e : (∃ ws, Tru (lookQ c s c.bales.length) (allN (lookQ c s c.bales.length)) m ws) ↔ ∃ ws, Tru c s c.mist ws := by
    unfold Tru
    rw [lookQ_owns, hm]
    exact Iff.rfl
  rw [e, ← h2] at h1
  cases hp : possB c false s
  · rw [hp] at h1
    have : ¬ mistN (lookQ c s c.bales.length) ≤ m := fun h => by have := h1.1 h; cases this
    exact decide_eq_true (by omega)
  · rw [hp] at h1
    have := h1.2 rfl
    exact decide_eq_false (by omega)
theorem rowsC_f : ∀ {l : List Bl} {i : Nat} {b : Bl}, l[i]? = some b → (rowsC l)[i * 3]? = some (I b.f)
  | [], i, b, h => by simp at h
  | x :: l, 0, b, h => by simp at h; subst h; rfl
  | x :: l, i + 1, b, h => by
    have h1 := rowsC_f (l := l) (i := i) (b := b) (by simpa using h)
    have : rowsC (x :: l) = rowBl x ++ rowsC l := rfl
    rw [this, List.getElem?_append_right (by show 3 ≤ _; omega), show (i + 1) * 3 - (rowBl x).length = i * 3 by show (i + 1) * 3 - 3 = _; omega]
    exact h1
theorem rowsC_setw : ∀ {l : List Bl} {i : Nat} {b : Bl} (y : Int), l[i]? = some b → (rowsC l).set (i * 3 + 2) (I y) = rowsC (l.set i { b with w := y })
  | [], i, b, y, h => by simp at h
  | x :: l, 0, b, y, h => by simp at h; subst h; rfl
  | x :: l, i + 1, b, y, h => by
    have h1 := rowsC_setw (l := l) (i := i) (b := b) y (by simpa using h)
    have : rowsC (x :: l) = rowBl x ++ rowsC l := rfl
    rw [this, List.set_append_right _ _ (by show 3 ≤ _; omega), show (i + 1) * 3 + 2 - (rowBl x).length = i * 3 + 2 by show (i + 1) * 3 + 2 - 3 = _; omega, h1]
    rfl
/-- Both of a bale's cells are set. -/
theorem rowsC_put1 {l : List Bl} {i : Nat} {b : Bl} (y : Int) (h : l[i]? = some b) : putAt ((rowsC l).map AV.c) (0 + (i : Int).toNat * 3 + 1) [.c (I y)] = some ((rowsC (l.set i { b with l := y })).map AV.c) := by
  have hi := (List.getElem?_eq_some_iff.1 h).1
  rw [Int.toNat_natCast, Nat.zero_add, put_one (by rw [List.length_map, rowsC_len]; omega), ← rowsC_set y h, List.map_set]
theorem rowsC_put2 {l : List Bl} {i : Nat} {b : Bl} (y : Int) (h : l[i]? = some b) : putAt ((rowsC l).map AV.c) (0 + (i : Int).toNat * 3 + 2) [.c (I y)] = some ((rowsC (l.set i { b with w := y })).map AV.c) := by
  have hi := (List.getElem?_eq_some_iff.1 h).1
  rw [Int.toNat_natCast, Nat.zero_add, put_one (by rw [List.length_map, rowsC_len]; omega), ← rowsC_setw y h, List.map_set]
end Go.Ag
/- Layer 6: the law ClassClash. -/
namespace Go.Ag
open Go.Proofs
set_option maxRecDepth 100000

theorem bit_zero (s n : Nat) : ((((s >>> n) &&& 1 : Nat) : Int) == 0) = !s.testBit n := by
  rw [Nat.testBit, Nat.and_comm]
  have : 1 &&& (s >>> n) < 2 := Nat.lt_of_le_of_lt Nat.and_le_left (by omega)
  by_cases h : 1 &&& (s >>> n) = 0
  · rw [h]; rfl
  · have h1 : 1 &&& (s >>> n) = 1 := by omega
    rw [h1]; rfl
set_option maxHeartbeats 4000000 in
theorem clash_clos {v : LV} {c : Ln} (hv : v.Is c) (hd : c.Good) {s : Nat} (hs : s < 64) {a : Nat} {h : Heap} (ha : Heap.at h a = v.blk c) (han : a < h.n) :
    ∃ e h', CallOk Try.prog 27 [.c (I s), .ptr a 0] h .no e h' .no ∧ (e = .ret (.c (B (!possB c false s))) ∧ Foot none' h h') := by
  have n6 := hd.n6; have n1' := hd.n1
  obtain ⟨e1, H1, hc1, id, rfl, i1, i2, r1, f1⟩ := copied_ret hv hd.n1 hd.n6 h
  have n1 := f1.n
  have a1 := (f1.keep a han (fun x => x)).trans ha
  refine call_by (hm := false) Try.func27 rfl ?_
  conv => whnf
  refine ⟨_, ha, ?_⟩
  conv => whnf
  refine .inl _ H1 .no hc1 ?_
  conv => whnf
  refine ⟨_, at_push_self _ _, ?_⟩
  conv => whnf
  generalize hG : TMap.set AB.dead (TMap.push AB.dead H1 _) _ _ = G
  have Gn : G.n = H1.n + 1 := by rw [← hG]; exact new_n _ _ _
  have Ga : ∀ i, i < H1.n → Heap.at G i = Heap.at H1 i := fun i hi => by rw [← hG]; exact at_old _ _ _ hi
  have Gr : Heap.at G H1.n = .blk (ownA c id) := by rw [← hG]; exact at_new _ _ _
  have Gf : Foot none' h G := by rw [← hG]; exact Foot.set (f1.push _) (.inr (by omega)) _
  clear hG
  refine ⟨_, Gr, ?_⟩
  conv => whnf
  refine loop_by (I := fun n st => ∃ (q : Nat) (g : Heap), q ≤ c.bales.length ∧ n = c.bales.length - q ∧ Heap.at g a = v.blk c ∧ Heap.at g H1.n = .blk (ownA c id) ∧ Heap.at g id = rowB (lookQ c s q) ∧ H1.n + 1 ≤ g.n ∧ Foot none' h g ∧
    Has st 45 [(0, .c (I s)), (1, .ptr a 0), (4, .ptr H1.n 0), (12, .c (I c.bales.length)), (13, .c (I q))] [] none g) ?_ (k := c.bales.length)
    ⟨0, _, Nat.zero_le _, rfl, (Ga a (by omega)).trans a1, Gr, ((Ga id (by omega)).trans r1).trans (by rw [lookQ_zero]), by omega, Gf, rfl, ⟨rfl, rfl, rfl, rfl, rfl, trivial⟩, rfl, rfl, rfl, rfl⟩
  rintro n st ⟨q, g, hq, rfl, ga, gb, gi, gn, gf, hs1⟩
  refine hs1.run (hm := false) ?_
  conv => whnf
  cases hc : decide ((q : Int) < ((c.bales.length : Nat) : Int))
  case false =>
    have : q = c.bales.length := by simp at hc; omega
    subst this
    have hdl := lookQ_good hd s c.bales.length
    have mr := mistX_ret (lvOf_ok hdl)
    have hmv : mistR (lookQ c s c.bales.length) = (((mistN (lookQ c s c.bales.length) : Nat) : Int), 0) := by unfold mistR; rw [valid_good.2 hdl]; rfl
    rw [hmv] at mr
    dsimp only [pairI] at mr
    have hml := lookQ_mist hd s
    conv => whnf
    refine ⟨_, gb, ?_⟩
    conv => whnf
    refine own_call (c := lookQ c s c.bales.length) (n := c.bales.length) (lookQ_len _ _ _) gi (cs := []) mr rfl ?_
    conv => whnf
    refine ⟨_, ga, ?_⟩
    conv => whnf
    rw [hml]
    conv => whnf
    exact ⟨rfl, gf⟩
  have hq : q < c.bales.length := by simp at hc; omega
  conv => whnf
  refine ⟨by omega, _, shr_nat s q (by omega), ?_⟩
  conv => whnf
  refine ⟨_, and_nat (b := 1) (Nat.lt_of_le_of_lt (Nat.shiftRight_le s q) (by omega)) (by omega), ?_⟩
  conv => whnf
  rw [bit_zero]
  cases hb : s.testBit q
  case true =>
    conv => whnf
    refine ⟨((q + 1 : Nat) : Int), by rw [wrap_eq (by omega) (by omega)]; omega, ?_⟩
    conv => whnf
    exact ⟨c.bales.length - (q + 1), by omega, q + 1, g, by omega, rfl, ga, gb, by rw [lookQ_in hb]; exact gi, gn, gf, rfl, ⟨rfl, rfl, rfl, rfl, rfl, trivial⟩, rfl, rfl, rfl, rfl⟩
  have hbq := bale_get (c := lookQ c s q) (i := q) (by rw [lookQ_len]; exact hq)
  have hout := lookQ_out hb hq
  have e0 : baleAt (lookQ c s q) q = baleAt c q := by rw [lookQ_at s q hq]; unfold lookB; rw [if_neg (fun h => Nat.lt_irrefl _ h.1)]
  rw [e0] at hbq
  conv => whnf
  refine mixed_by (hm := false) (by kernel_rfl) (by kernel_rfl) ?_
  conv => whnf
  refine ⟨_, gb, ?_⟩
  conv => whnf
  refine ⟨_, gb, ?_⟩
  conv => whnf
  refine ⟨⟨rfl, by omega, by omega⟩, ?_⟩
  conv => whnf
  refine ⟨_, gi, ?_⟩
  conv => whnf
  refine look_put (rowsC_put1 0 hbq) ?_
  conv => whnf
  refine ⟨by show id < g.n; omega, ?_⟩
  conv => whnf
  refine forceL_intro ?_
  conv => whnf
  refine ⟨⟨rfl, by omega, by omega⟩, ?_⟩
  conv => whnf
  refine ⟨_, at_set_self _ _ (i := id) (by omega), ?_⟩
  conv => whnf
  refine look_put (rowsC_put2 0 (List.getElem?_set_self (by rw [lookQ_len]; exact hq))) ?_
  conv => whnf
  refine ⟨by show id < TMap.n _; rw [TMap.set_n]; omega, ?_⟩
  conv => whnf
  refine forceL_intro ?_
  conv => whnf
  rw [List.set_set]
  refine ⟨by kernel_rfl, ?_, ?_⟩
  · exact heaps_eq (l' := [(H1.n, g, TMap.set AB.dead g id (.blk ((rowsC ((lookQ c s q).bales.set q { baleAt c q with l := 0 })).map .c)))]) (by kernel_rfl) (heaps_cons (at_set_ne _ _ (by omega)) (by simp [HeapsOk]))
  conv => whnf
  refine ⟨((q + 1 : Nat) : Int), by rw [wrap_eq (by omega) (by omega)]; omega, ?_⟩
  conv => whnf
  refine ⟨c.bales.length - (q + 1), by omega, q + 1, _, by omega, rfl, (at_set_ne _ _ (i := a) (k := id) (by omega)).trans ((at_set_ne _ _ (i := a) (k := id) (by omega)).trans ga), (at_set_ne _ _ (i := H1.n) (k := id) (by omega)).trans ((at_set_ne _ _ (i := H1.n) (k := id) (by omega)).trans gb), (at_set_self _ _ (i := id) (by rw [TMap.set_n]; omega)).trans (by unfold rowB; rw [hout]), by rw [TMap.set_n, TMap.set_n]; exact gn, Foot.set (k := id) (Foot.set (k := id) gf (.inr (by omega)) _) (.inr (by omega)) _, rfl, ⟨rfl, rfl, rfl, rfl, rfl, trivial⟩, rfl, rfl, rfl, rfl⟩
end Go.Ag
/- Layer 6: the law ClassClash. -/
namespace Go.Ag
open Go.Proofs
set_option maxRecDepth 100000

set_option maxHeartbeats 8000000 in
theorem clashLaw_ret {v : LV} {c : Ln} (h : v.IsS c) (hA : Ret Try.prog 11 [] (B true)) (w : Nat) (hw : w < 256) : Ret Try.prog 8 [v.cv c, .lit (.int .u8 w)] (B true) := by
  have hv := h.toIs
  have e1 := hv.sn
  refine ret_then (hm := true) Try.func8 rfl ?_
  conv => whnf
  repeat (refine then_seq (hm := true) ?_; conv => whnf)
  refine .ret (fine_ret h) rfl ?_
  conv => whnf
  cases hd : validL c
  · conv => whnf
    refine .ret (hA) rfl ?_
    conv => whnf
    exact .val
  have hg := valid_good.1 hd
  have n6 := hg.n6
  have n1 := hg.n1
  have ha := allN_lt hg
  have hcl := clashX_ret hv
  have hke := lineX_ret hv
  conv => whnf
  repeat (refine then_seq (hm := true) ?_; conv => whnf)
  cases hc : canT c
  case true =>
    obtain ⟨t, p, e, x, y, K⟩ := keeps_is hd hc
    have c1 : clashR c = (0, 4) := by unfold clashR; rw [hd, hc]; rfl
    rw [c1] at hcl
    rw [K.kept] at hke
    dsimp only [pairI] at hcl hke
    refine .ret (hcl) rfl ?_
    conv => whnf
    repeat (refine then_seq (hm := true) ?_; conv => whnf)
    refine .ret (hke) rfl ?_
    conv => whnf
    repeat (refine then_seq (hm := true) ?_; conv => whnf)
    refine ⟨_, bool_neq rfl rfl rfl _ _, ?_⟩
    conv => whnf
    repeat (refine then_seq (hm := true) ?_; conv => whnf)
    refine .ret (hA) rfl ?_
    conv => whnf
    exact .val
  obtain ⟨y, hy, hi⟩ := clash_is hg hc
  have c1 : clashR c = (((y : Nat) : Int), 0) := by unfold clashR; rw [hd, hc, hy]; rfl
  rw [c1] at hcl
  rw [no_kept hd hc] at hke
  dsimp only [pairI] at hcl hke
  have hle := hi.le
  have hy1 : 1 ≤ y := by
    rcases Nat.eq_zero_or_pos y with h0 | h0
    · have := hi.no
      rw [h0, poss_zero hg] at this; cases this
    · exact h0
  obtain ⟨N, hN⟩ : ∃ N, N = allN c := ⟨_, rfl⟩
  have hp : 1 ≤ 2 ^ c.bales.length ∧ 2 ^ c.bales.length ≤ 64 := ⟨Nat.one_le_two_pow, Nat.pow_le_pow_right (n := 2) (by omega) n6⟩
  have hNd : N = 2 ^ c.bales.length - 1 := by rw [hN]; rfl
  refine .ret (hcl) rfl ?_
  conv => whnf
  repeat (refine then_seq (hm := true) ?_; conv => whnf)
  refine .ret (hke) rfl ?_
  conv => whnf
  repeat (refine then_seq (hm := true) ?_; conv => whnf)
  refine ⟨_, bool_neq rfl rfl rfl _ _, ?_⟩
  conv => whnf
  repeat (refine then_seq (hm := true) ?_; conv => whnf)
  refine ⟨by omega, _, shl_nat 1 v.sn (by omega) (by rw [e1]; omega), ?_⟩
  conv => whnf
  refine ⟨(N : Int), by rw [wrap_eq (by rw [e1]; omega) (by rw [e1]; omega), e1]; omega, ?_⟩
  conv => whnf
  repeat (refine then_seq (hm := true) ?_; conv => whnf)
  rw [decide_eq_false (show ¬ (y : Int) < 1 by omega)]
  conv => whnf
  rw [decide_eq_false (show ¬ (y : Int) > (N : Int) by omega)]
  conv => whnf
  refine callW_ex (clash_clos hv hg (s := y) (by omega) (a := 0) rfl (Nat.zero_lt_succ _)) ?_
  rintro e2 H1 ⟨he1, f1⟩
  rw [hi.no] at he1
  subst he1
  have n1' := f1.n
  have n1'' : 0 < H1.n := Nat.lt_of_lt_of_le (Nat.zero_lt_succ _) n1'
  have b0 : Heap.at H1 0 = v.blk c := (f1.keep 0 (Nat.zero_lt_succ _) (fun x => x)).trans rfl
  conv => whnf
  repeat (refine then_seq (hm := false) ?_; conv => whnf)
  refine ⟨_, b0, ?_⟩
  conv => whnf
  refine loop_by (I := fun n st => ∃ (q : Nat) (g : Heap), q ≤ c.bales.length ∧ n = c.bales.length - q ∧ Heap.at g 0 = v.blk c ∧ 0 < g.n ∧
    Has st 121 [(1, .c (.lit (.int .u8 w))), (5, .c (I y)), (9, .c (I N)), (10, .func (.func 27) [] [.ptr 0 0]), (69, .c (I v.sn)), (70, .c (I q))] [] none g) ?_ (k := c.bales.length)
    ⟨0, _, Nat.zero_le _, rfl, b0, n1'', rfl, ⟨rfl, rfl, rfl, rfl, rfl, rfl, trivial⟩, rfl, rfl, rfl, rfl⟩
  rintro n st ⟨q, g, hq, rfl, g0, gn, hs1⟩
  refine hs1.run (hm := false) ?_
  conv => whnf
  cases hcq : decide ((q : Int) < (v.sn : Int))
  case true =>
    have hq : q < c.bales.length := by simp at hcq; omega
    conv => whnf
    refine ⟨by omega, _, shr_nat y q (by omega), ?_⟩
    conv => whnf
    refine ⟨_, and_nat (b := 1) (Nat.lt_of_le_of_lt (Nat.shiftRight_le y q) (by omega)) (by omega), ?_⟩
    conv => whnf
    rw [bit_nat]
    cases hb : y.testBit q
    · conv => whnf
      refine ⟨((q + 1 : Nat) : Int), by rw [wrap_eq (by omega) (by omega)]; omega, ?_⟩
      conv => whnf
      exact ⟨c.bales.length - (q + 1), by omega, q + 1, g, by omega, rfl, g0, gn, rfl, ⟨rfl, rfl, rfl, rfl, rfl, rfl, trivial⟩, rfl, rfl, rfl, rfl⟩
    · have hno := clash_drop hg hi hb
      have h2q : 2 ^ q ≤ 2 ^ 6 := Nat.pow_le_pow_right (by omega) (by omega)
      conv => whnf
      refine ⟨by omega, ((2 ^ q : Nat) : Int), (shl_nat 1 q (by omega) (by omega)).trans (by rw [Nat.one_mul]), ?_⟩
      conv => whnf
      refine ⟨_, andNot_nat (by omega) (by omega), ?_⟩
      conv => whnf
      refine callW_ex (clash_clos hv hg (s := diffN y (2 ^ q)) (diffN_lt (n := 6) (by omega)) (a := 0) g0 gn) ?_
      rintro e3 G ⟨he3, f3⟩
      rw [hno] at he3
      subst he3
      have n3 := f3.n
      conv => whnf
      refine ⟨((q + 1 : Nat) : Int), by rw [wrap_eq (by omega) (by omega)]; omega, ?_⟩
      conv => whnf
      exact ⟨c.bales.length - (q + 1), by omega, q + 1, _, by omega, rfl, (f3.keep 0 gn (fun x => x)).trans g0, by omega, rfl, ⟨rfl, rfl, rfl, rfl, rfl, rfl, trivial⟩, rfl, rfl, rfl, rfl⟩
  conv => whnf
  repeat (refine then_seq (hm := false) ?_; conv => whnf)
  rw [wrap_u8 hw]
  refine ⟨_, and_nat (b := N) (by omega) (by omega), ?_⟩
  conv => whnf
  have hand : w &&& N ≤ N := Nat.and_le_right
  generalize w &&& N = X at hand
  repeat (refine then_seq (hm := false) ?_; conv => whnf)
  refine callW_ex (clash_clos hv hg (s := X) (by omega) (a := 0) g0 gn) ?_
  rintro e3 G ⟨rfl, f3⟩
  cases hbx : possB c false X
  case true =>
    conv => whnf
    refine .ret (hA) rfl ?_
    conv => whnf
    refine then_end (hm := false) ?_
    conv => whnf
    exact .val
  have hleast := hi.least X (by omega) hbx
  conv => whnf
  refine .ret (size_ret (n := X) (by omega)) rfl ?_
  conv => whnf
  refine .ret (size_ret (n := y) (by omega)) rfl ?_
  conv => whnf
  cases hgt : decide ((popB X : Int) > (popB y : Int))
  case true =>
    conv => whnf
    refine .ret (hA) rfl ?_
    conv => whnf
    refine then_end (hm := false) ?_
    conv => whnf
    exact .val
  have hgt : ¬ popB X > popB y := by simpa using hgt
  have heq : popB y = popB X ∧ y ≤ X := by
    rcases hleast with rfl | h1
    · exact ⟨rfl, Nat.le_refl _⟩
    · unfold Less at h1; omega
  conv => whnf
  refine .ret (size_ret (n := X) (by omega)) rfl ?_
  conv => whnf
  refine .ret (size_ret (n := y) (by omega)) rfl ?_
  conv => whnf
  rw [heq.1]
  rw [show ((popB X : Int) == (popB X : Int)) = true by simp]
  conv => whnf
  rw [show decide ((X : Int) ≥ (y : Int)) = true by simp; omega]
  conv => whnf
  refine .ret (hA) rfl ?_
  conv => whnf
  refine then_end (hm := false) ?_
  conv => whnf
  exact .val
end Go.Ag
