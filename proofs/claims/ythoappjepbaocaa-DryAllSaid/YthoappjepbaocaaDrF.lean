/- Cuts of flows: what is possible of mobs, pens and parts. No conditions. -/
import Derived.Test.YthoappjepbaocaaDrE
/- Layer 2: the cuts of the flow are a strong pair. -/
namespace Go.Ag
open Go.Proofs
set_option maxRecDepth 100000

/-- s without t. -/
def sub (s t : Nat) : Nat := s ^^^ (s &&& t)
theorem sub_test (s t i : Nat) : (sub s t).testBit i = (s.testBit i && !t.testBit i) := by
  unfold sub
  rw [Nat.testBit_xor, Nat.testBit_and]
  cases s.testBit i <;> cases t.testBit i <;> rfl
theorem among_eq (g : Nat → Int) (s : Nat) : among g s = (if s.testBit 0 then g 0 else 0) + (if s.testBit 1 then g 1 else 0) + (if s.testBit 2 then g 2 else 0) + (if s.testBit 3 then g 3 else 0) := by
  simp only [among, sum4, sumTo, ofSet]
  omega
theorem among_parts (g : Nat → Int) (s t : Nat) : among g s = among g (sub s t) + among g (s &&& t) := by
  rw [among_eq, among_eq, among_eq]
  simp only [sub_test, Nat.testBit_and]
  cases s.testBit 0 <;> cases t.testBit 0 <;> cases s.testBit 1 <;> cases t.testBit 1 <;> cases s.testBit 2 <;> cases t.testBit 2 <;> cases s.testBit 3 <;> cases t.testBit 3 <;> simp <;> omega
theorem among_nonneg {g : Nat → Int} (h : ∀ i, 0 ≤ g i) (s : Nat) : 0 ≤ among g s := by
  have h0 := h 0; have h1 := h 1; have h2 := h 2; have h3 := h 3
  rw [among_eq]
  split <;> split <;> split <;> split <;> omega
theorem among_others {g : Nat → Int} {m t : Nat} (hm : m ≤ 4) (hz : ∀ i, m ≤ i → g i = 0) (ht : t < 2 ^ m) : among g (othersOf m t) = sum4 g - among g t := by
  have bit : ∀ i, (othersOf m t).testBit i = (decide (i < m) && !t.testBit i) := fun i => by
    unfold othersOf
    rw [show 2 ^ m - 1 - t = 2 ^ m - (t + 1) by omega]
    exact Nat.testBit_two_pow_sub_succ ht i
  have one : ∀ i, (if (othersOf m t).testBit i then g i else 0) = g i - (if t.testBit i then g i else 0) := fun i => by
    rw [bit i]
    by_cases hi : i < m
    · cases t.testBit i <;> simp [hi]
    · rw [hz i (by omega)]; simp
  rw [among_eq, among_eq, one, one, one, one]
  simp only [sum4, sumTo]
  omega
theorem among_three {g : Nat → Int} (h : ∀ i, 0 ≤ g i) (s t : Nat) : among g (sub s t) + among g (sub t s) + among g (s &&& t) ≤ sum4 g := by
  have h0 := h 0; have h1 := h 1; have h2 := h 2; have h3 := h 3
  rw [among_eq, among_eq, among_eq]
  simp only [sub_test, Nat.testBit_and, sum4, sumTo]
  cases s.testBit 0 <;> cases t.testBit 0 <;> cases s.testBit 1 <;> cases t.testBit 1 <;> cases s.testBit 2 <;> cases t.testBit 2 <;> cases s.testBit 3 <;> cases t.testBit 3 <;> simp <;> omega

/-- A flow whose numbers make sense. -/
structure FlGood (f : Fl) : Prop where
  mobs : f.mobs ≤ 4
  left : ∀ i, 0 ≤ f.left i
  fr : ∀ k i, 0 ≤ (penF f k).fr i
  out : ∀ k i, f.mobs ≤ i → (penF f k).fr i = 0
  span : ∀ k, (penF f k).lo ≤ (penF f k).hi
theorem sub_lt {s t m : Nat} (hs : s < 2 ^ m) (ht : t < 2 ^ m) : sub s t < 2 ^ m := Nat.xor_lt_two_pow hs (Nat.and_lt_two_pow _ ht)
theorem sum_pairs {a b c d : Nat → Int} (h : ∀ k, a k - b k ≤ c k - d k) : ∀ n, sumTo a n - sumTo b n ≤ sumTo c n - sumTo d n
  | 0 => Int.le_refl _
  | n + 1 => by have := sum_pairs h n; have := h n; simp only [sumTo]; omega
theorem strong {f : Fl} (hf : FlGood f) {s t : Nat} (hs : s < 2 ^ f.mobs) (ht : t < 2 ^ f.mobs) : roomF f (sub s t) - needF f (sub t s) ≤ roomF f s - needF f t := by
  have hl := among_parts f.left s t
  have hl0 := among_nonneg hf.left (s &&& t)
  have key : ∀ k, min (penF f k).hi (among (penF f k).fr (sub s t)) - max 0 ((penF f k).lo - among (penF f k).fr (othersOf f.mobs (sub t s))) ≤ min (penF f k).hi (among (penF f k).fr s) - max 0 ((penF f k).lo - among (penF f k).fr (othersOf f.mobs t)) := by
    intro k
    rw [among_others hf.mobs (hf.out k) ht, among_others hf.mobs (hf.out k) (sub_lt ht hs)]
    have h1 := among_parts (penF f k).fr s t
    have h2 := among_parts (penF f k).fr t s
    rw [Nat.and_comm] at h2
    have h3 := among_three (hf.fr k) s t
    have h4 := hf.span k
    have h5 := among_nonneg (hf.fr k) (s &&& t)
    have h6 := among_nonneg (hf.fr k) (sub s t)
    have h7 := among_nonneg (hf.fr k) (sub t s)
    omega
  have := sum_pairs key f.pens.length
  unfold roomF needF
  omega
end Go.Ag
/- Layer 2: what may be of a mob, and what may be at all. -/
namespace Go.Ag
open Go.Proofs
set_option maxRecDepth 100000

theorem possible_iff {f : Fl} : possibleF f = true ↔ ∀ s, s < 2 ^ f.mobs → among f.least s ≤ roomF f s ∧ needF f s ≤ among f.most s := by
  unfold possibleF
  rw [allTo_iff]
  simp only [okS, Bool.and_eq_true, decide_eq_true_eq]

theorem between {l u : Nat → Int} : ∀ {N : Nat}, 0 < N → (∀ s t, s < N → t < N → l t ≤ u s) → ∃ n, ∀ s, s < N → l s ≤ n ∧ n ≤ u s
  | 0, h, _ => absurd h (Nat.lt_irrefl 0)
  | 1, _, h => ⟨l 0, fun s hs => by
    have : s = 0 := by omega
    subst this
    exact ⟨Int.le_refl _, h 0 0 (by omega) (by omega)⟩⟩
  | N + 2, _, h => by
    obtain ⟨n, hn⟩ := between (l := l) (u := u) (N := N + 1) (by omega) (fun s t hs ht => h s t (by omega) (by omega))
    by_cases hle : l (N + 1) ≤ n
    · by_cases hge : n ≤ u (N + 1)
      · refine ⟨n, fun s hs => ?_⟩
        by_cases hsN : s = N + 1
        · subst hsN; exact ⟨hle, hge⟩
        · exact hn s (by omega)
      · refine ⟨u (N + 1), fun s hs => ?_⟩
        by_cases hsN : s = N + 1
        · subst hsN; exact ⟨h _ _ (by omega) (by omega), Int.le_refl _⟩
        · have := hn s (by omega)
          exact ⟨h _ _ (by omega) (by omega), by omega⟩
    · refine ⟨l (N + 1), fun s hs => ?_⟩
      by_cases hsN : s = N + 1
      · subst hsN; exact ⟨Int.le_refl _, h _ _ (by omega) (by omega)⟩
      · have := hn s (by omega)
        exact ⟨by omega, h _ _ (by omega) (by omega)⟩

theorem among_put {g : Nat → Int} {k : Nat} (hk : k < 4) (n : Int) (s : Nat) : among (putF g k n) s = among g s + (if s.testBit k then n - g k else 0) := by
  obtain rfl | rfl | rfl | rfl : k = 0 ∨ k = 1 ∨ k = 2 ∨ k = 3 := by omega
  all_goals
    rw [among_eq, among_eq]
    simp only [putF]
    cases s.testBit 0 <;> cases s.testBit 1 <;> cases s.testBit 2 <;> cases s.testBit 3 <;> simp <;> omega
theorem among_has {g : Nat → Int} (h : ∀ i, 0 ≤ g i) {k s : Nat} (hk : k < 4) (hs : s.testBit k = true) : g k ≤ among g s := by
  have h0 := h 0; have h1 := h 1; have h2 := h 2; have h3 := h 3
  rw [among_eq]
  obtain rfl | rfl | rfl | rfl : k = 0 ∨ k = 1 ∨ k = 2 ∨ k = 3 := by omega
  all_goals
    rw [hs]
    simp only [if_true]
    repeat' split
    all_goals omega
theorem among_diff (g h : Nat → Int) (s : Nat) : among (fun i => g i - h i) s = among g s - among h s := by
  rw [among_eq, among_eq, among_eq]
  repeat' split
  all_goals omega

theorem mob_some {f : Fl} (hf : FlGood f) (hlm : ∀ i, f.least i ≤ f.most i) {k : Nat} (hk : k < f.mobs) (hp : possibleF f = true) : ∃ n, f.least k ≤ n ∧ n ≤ f.most k ∧ possibleF (mobFl f k n) = true := by
  have hp := possible_iff.1 hp
  have hk4 : k < 4 := Nat.lt_of_lt_of_le hk hf.mobs
  obtain ⟨n, hn⟩ := between (l := fun t => if t.testBit k then max (f.least k) (needF f t - among f.most t + f.most k) else f.least k) (u := fun s => if s.testBit k then min (f.most k) (roomF f s - among f.least s + f.least k) else f.most k) (N := 2 ^ f.mobs) (Nat.two_pow_pos _) (by
    intro s t hs ht
    have h1 := hp s hs
    have h2 := hp t ht
    have h3 := hlm k
    cases hsk : s.testBit k
    · cases htk : t.testBit k
      · simpa using h3
      · simp; omega
    · cases htk : t.testBit k
      · simp; omega
      · have h4 := strong hf hs ht
        have h5 := (hp (sub s t) (sub_lt hs ht)).1
        have h6 := (hp (sub t s) (sub_lt ht hs)).2
        have h7 := among_parts f.least s t
        have h8 := among_parts f.most t s
        rw [Nat.and_comm] at h8
        have h9 := among_has (g := fun i => f.most i - f.least i) (fun i => by have := hlm i; omega) hk4 (s := s &&& t) (by rw [Nat.testBit_and, hsk, htk]; rfl)
        rw [among_diff] at h9
        simp
        omega)
  have hn0 := hn 0 (Nat.two_pow_pos _)
  simp at hn0
  refine ⟨n, hn0.1, hn0.2, possible_iff.2 fun s hs => ?_⟩
  have hs : s < 2 ^ f.mobs := hs
  have h1 := hp s hs
  have h2 := hn s hs
  show among (putF f.least k n) s ≤ roomF f s ∧ needF f s ≤ among (putF f.most k n) s
  rw [among_put hk4, among_put hk4]
  cases hsk : s.testBit k
  · simp; omega
  · rw [hsk] at h2
    simp at h2 ⊢
    omega
theorem mob_only {f : Fl} {k : Nat} (hk4 : k < 4) {n : Int} (h1 : f.least k ≤ n) (h2 : n ≤ f.most k) (hp : possibleF (mobFl f k n) = true) : possibleF f = true := by
  have hp := possible_iff.1 hp
  refine possible_iff.2 fun s hs => ?_
  have h3 : among (putF f.least k n) s ≤ roomF f s ∧ needF f s ≤ among (putF f.most k n) s := hp s hs
  rw [among_put hk4, among_put hk4] at h3
  cases hsk : s.testBit k
  · rw [hsk] at h3; simpa using h3
  · rw [hsk] at h3; simp at h3; omega
end Go.Ag
/- Layer 2: spans, by what they hold. -/
namespace Go.Ag
open Go.Proofs
set_option maxRecDepth 100000

theorem up_min {lo hi : Int} {p : Int → Bool} {a : Int} (h : (intsUp lo hi).find? p = some a) {y : Int} (h1 : lo ≤ y) (h2 : y ≤ hi) (hp : p y = true) : a ≤ y := by
  obtain ⟨_, l1, l2, e, hn⟩ := List.find?_eq_some_iff_append.1 h
  have hs : (intsUp lo hi).Pairwise (· < ·) := by
    unfold intsUp
    rw [List.pairwise_map]
    refine List.Pairwise.imp ?_ (List.pairwise_lt_range' (n := upN lo hi) (s := 0))
    intro a b hab
    omega
  have hm : y ∈ intsUp lo hi := mem_up.2 ⟨h1, h2⟩
  rw [e] at hm hs
  rcases List.mem_append.1 hm with hm | hm
  · have := hn y hm; simp [hp] at this
  · rcases List.mem_cons.1 hm with hm | hm
    · omega
    · have h3 := (List.pairwise_append.1 hs).2.1
      have := (List.pairwise_cons.1 h3).1 y hm
      omega
theorem spanBy_some {lo hi : Int} {p : Int → Bool} (h : ∃ n, lo ≤ n ∧ n ≤ hi ∧ p n = true) : ∃ a b, spanBy lo hi p = some (a, b) ∧ a ≤ b ∧ lo ≤ a ∧ b ≤ hi ∧ p a = true ∧ p b = true ∧ ∀ y, lo ≤ y → y ≤ hi → p y = true → a ≤ y ∧ y ≤ b := by
  obtain ⟨n, h1, h2, h3⟩ := h
  cases hu : (intsUp lo hi).find? p with
  | none => exact absurd h3 (List.find?_eq_none.1 hu n (mem_up.2 ⟨h1, h2⟩))
  | some a =>
    obtain ⟨b, hd⟩ := down_some hu
    have ha := mem_up.1 (List.mem_of_find?_eq_some hu)
    have hb := mem_down.1 (List.mem_of_find?_eq_some hd)
    have pa : p a = true := by simpa using List.find?_some hu
    have pb : p b = true := by simpa using List.find?_some hd
    exact ⟨a, b, by unfold spanBy; rw [hu, hd], down_max hd ha.1 ha.2 pa, ha.1, hb.2, pa, pb, fun y y1 y2 y3 => ⟨up_min hu y1 y2 y3, down_max hd y1 y2 y3⟩⟩
theorem spanBy_none {lo hi : Int} {p : Int → Bool} (h : ∀ n, lo ≤ n → n ≤ hi → p n = false) : spanBy lo hi p = none := by
  have hu : (intsUp lo hi).find? p = none := List.find?_eq_none.2 fun n hn => by
    have := mem_up.1 hn
    rw [h n this.1 this.2]; simp
  unfold spanBy
  rw [hu]

/-- A mob's answer is there just when something may be at all. -/
theorem mob_span {f : Fl} (hf : FlGood f) (hlm : ∀ i, f.least i ≤ f.most i) {k : Nat} (hk : k < f.mobs) : (possibleF f = false → spanMob f k = none) ∧ (possibleF f = true → ∃ a b, spanMob f k = some (a, b) ∧ a ≤ b ∧ f.least k ≤ a ∧ b ≤ f.most k ∧ ∀ y, f.least k ≤ y → y ≤ f.most k → possibleF (mobFl f k y) = true → a ≤ y ∧ y ≤ b) := by
  have hk4 : k < 4 := Nat.lt_of_lt_of_le hk hf.mobs
  constructor
  · intro hp
    refine spanBy_none fun n h1 h2 => ?_
    cases h : possibleF (mobFl f k n) with
    | false => rfl
    | true => rw [mob_only hk4 h1 h2 h] at hp; cases hp
  · intro hp
    obtain ⟨a, b, e, h1, h2, h3, _, _, h4⟩ := spanBy_some (p := fun n => possibleF (mobFl f k n)) (mob_some hf hlm hk hp)
    exact ⟨a, b, e, h1, h2, h3, h4⟩

/-- The flow of a valid drove makes sense. -/
theorem flock_good {d : Dr} (h : validB d = true) : FlGood (flockF d) ∧ ∀ i, (flockF d).least i ≤ (flockF d).most i := by
  obtain ⟨h1, h2, h3, h4, h5, h6⟩ := valid_sizes h
  have pen : ∀ k, (∀ i, 0 ≤ (penF (flockF d) k).fr i) ∧ (∀ i, d.mobs.length ≤ i → (penF (flockF d) k).fr i = 0) ∧ (penF (flockF d) k).lo ≤ (penF (flockF d) k).hi := by
    intro k
    by_cases hk : k < d.pens.length
    · rw [penF_flock hk]
      have hv := valid_pen h hk
      refine ⟨fun i => ?_, fun i hi => ?_, hv.2.1⟩
      · show 0 ≤ cutF d.mobs.length (penAt d k).fr i
        unfold cutF
        split
        · exact (hv.2.2.2 i (by assumption)).1
        · exact Int.le_refl 0
      · show cutF d.mobs.length (penAt d k).fr i = 0
        unfold cutF
        rw [if_neg (by omega)]
    · rw [penF_out hk]
      exact ⟨fun _ => Int.le_refl 0, fun _ _ => rfl, Int.le_refl 0⟩
  refine ⟨⟨h2, fun i => ?_, fun k => (pen k).1, fun k => (pen k).2.1, fun k => (pen k).2.2⟩, fun i => ?_⟩
  · show 0 ≤ cutF d.mobs.length (fun i => (mobAt d i).left) i
    unfold cutF
    split
    · exact (valid_mob h (by assumption)).1
    · exact Int.le_refl 0
  · show cutF d.mobs.length (fun i => (mobAt d i).lo) i ≤ cutF d.mobs.length (fun i => (mobAt d i).hi) i
    unfold cutF
    split
    · exact (valid_mob h (j := i) (by assumption)).2.2.2.1
    · exact Int.le_refl 0
end Go.Ag
/- Layer 2: what may be of a pen, and what may be at all. -/
namespace Go.Ag
open Go.Proofs
set_option maxRecDepth 100000

def zeroP : Pn := ⟨fun _ => 0, 0, 0⟩
theorem among_zero (s : Nat) : among (fun _ => 0) s = 0 := by rw [among_eq]; simp
theorem set_pen {f : Fl} {k : Nat} (hk : k < f.pens.length) (p : Pn) (j : Nat) : penF (setPen f k p) j = if j = k then p else penF f j := by
  unfold penF setPen
  simp only [List.getD_eq_getElem?_getD, List.getElem?_set]
  by_cases h : k = j
  · subst h; simp [hk]
  · have : ¬ j = k := fun e => h e.symm
    simp [h, this]
theorem sum_one {g h : Nat → Int} {k : Nat} (hg : ∀ j, j ≠ k → g j = h j) : ∀ n, sumTo g n = sumTo h n + if k < n then g k - h k else 0
  | 0 => by simp [sumTo]
  | n + 1 => by
    have ih := sum_one hg n
    simp only [sumTo]
    by_cases hn : n = k
    · subst hn
      rw [if_neg (Nat.lt_irrefl n)] at ih
      rw [if_pos (Nat.lt_succ_self n)]
      omega
    · have := hg n hn
      by_cases hkn : k < n
      · rw [if_pos hkn] at ih; rw [if_pos (by omega)]; omega
      · rw [if_neg hkn] at ih; rw [if_neg (by omega)]; omega
theorem room_set {f : Fl} {k : Nat} (hk : k < f.pens.length) (p : Pn) (s : Nat) : roomF (setPen f k p) s = roomF (setPen f k zeroP) s + min p.hi (among p.fr s) := by
  have hl : ∀ q, (setPen f k q).pens.length = f.pens.length := fun q => by simp [setPen]
  have := sum_one (g := fun j => min (penF (setPen f k p) j).hi (among (penF (setPen f k p) j).fr s)) (h := fun j => min (penF (setPen f k zeroP) j).hi (among (penF (setPen f k zeroP) j).fr s)) (k := k) (fun j hj => by simp only [set_pen hk, if_neg hj]) f.pens.length
  rw [if_pos hk] at this
  simp only [set_pen hk, if_true] at this
  have z : among zeroP.fr s = 0 := among_zero s
  rw [z] at this
  have zh : zeroP.hi = 0 := rfl
  rw [zh] at this
  unfold roomF
  rw [hl, hl]
  simp only [set_pen hk]
  show among f.left s + _ = among f.left s + _ + _
  omega
theorem need_set {f : Fl} {k : Nat} (hk : k < f.pens.length) (p : Pn) (s : Nat) : needF (setPen f k p) s = needF (setPen f k zeroP) s + max 0 (p.lo - among p.fr (othersOf f.mobs s)) := by
  have hl : ∀ q, (setPen f k q).pens.length = f.pens.length := fun q => by simp [setPen]
  have := sum_one (g := fun j => max 0 ((penF (setPen f k p) j).lo - among (penF (setPen f k p) j).fr (othersOf f.mobs s))) (h := fun j => max 0 ((penF (setPen f k zeroP) j).lo - among (penF (setPen f k zeroP) j).fr (othersOf f.mobs s))) (k := k) (fun j hj => by simp only [set_pen hk, if_neg hj]) f.pens.length
  rw [if_pos hk] at this
  simp only [set_pen hk, if_true] at this
  have z : among zeroP.fr (othersOf f.mobs s) = 0 := among_zero _
  rw [z] at this
  have zh : zeroP.lo = 0 := rfl
  rw [zh] at this
  unfold needF
  rw [hl, hl]
  simp only [set_pen hk]
  have hm : ∀ q, (setPen f k q).mobs = f.mobs := fun _ => rfl
  rw [hm, hm]
  omega
theorem set_same {f : Fl} {k : Nat} (hk : k < f.pens.length) : setPen f k (penF f k) = f := by
  unfold setPen penF
  have : f.pens.getD k default = f.pens[k] := by simp [hk]
  rw [this, List.set_getElem_self]
theorem rest_good {f : Fl} (hf : FlGood f) {k : Nat} (hk : k < f.pens.length) : FlGood (setPen f k zeroP) := by
  refine ⟨hf.mobs, hf.left, fun j i => ?_, fun j i hi => ?_, fun j => ?_⟩
  all_goals rw [set_pen hk]
  all_goals split
  · exact Int.le_refl 0
  · exact hf.fr j i
  · rfl
  · exact hf.out j i hi
  · exact Int.le_refl 0
  · exact hf.span j

theorem pen_some {f : Fl} (hf : FlGood f) (hlm : ∀ s, among f.least s ≤ among f.most s) {k : Nat} (hk : k < f.pens.length) (hp : possibleF f = true) : ∃ n, (penF f k).lo ≤ n ∧ n ≤ (penF f k).hi ∧ possibleF (penFl f k n) = true := by
  have hp := possible_iff.1 hp
  have hr := rest_good hf hk
  have room : ∀ s, roomF f s = roomF (setPen f k zeroP) s + min (penF f k).hi (among (penF f k).fr s) := fun s => by
    have := room_set hk (penF f k) s
    rwa [set_same hk] at this
  have need : ∀ s, needF f s = needF (setPen f k zeroP) s + max 0 ((penF f k).lo - among (penF f k).fr (othersOf f.mobs s)) := fun s => by
    have := need_set hk (penF f k) s
    rwa [set_same hk] at this
  have h3 := hf.span k
  obtain ⟨n, hn⟩ := between (l := fun s => max (penF f k).lo (among f.least s - roomF (setPen f k zeroP) s)) (u := fun t => min (penF f k).hi (among f.most t - needF (setPen f k zeroP) t + among (penF f k).fr (othersOf f.mobs t))) (N := 2 ^ f.mobs) (Nat.two_pow_pos _) (by
    intro t s ht hs
    have h1 := hp s hs
    have h2 := hp t ht
    rw [room, need] at h1 h2
    have h4 := strong hr (s := s) (t := t) hs ht
    have h5 := (hp (sub s t) (sub_lt hs ht)).1
    have h6 := (hp (sub t s) (sub_lt ht hs)).2
    rw [room] at h5
    rw [need] at h6
    have h7 := among_parts f.least s t
    have h8 := among_parts f.most t s
    rw [Nat.and_comm] at h8
    have o1 := among_others hf.mobs (hf.out k) ht
    have h9 := among_three (hf.fr k) s t
    have h10 := among_parts (penF f k).fr t s
    rw [Nat.and_comm] at h10
    have hlm := hlm (s &&& t)
    omega)
  refine ⟨n, ?_, ?_, possible_iff.2 fun s hs => ?_⟩
  · have := hn 0 (Nat.two_pow_pos _); omega
  · have := hn 0 (Nat.two_pow_pos _); omega
  · have hs : s < 2 ^ f.mobs := hs
    have h1 := hp s hs
    have h2 := hn s hs
    rw [room, need] at h1
    have e1 := room_set hk (fixPen (penF f k) n) s
    have e2 := need_set hk (fixPen (penF f k) n) s
    have f1 : (fixPen (penF f k) n).fr = (penF f k).fr := rfl
    have f2 : (fixPen (penF f k) n).lo = n := rfl
    have f3 : (fixPen (penF f k) n).hi = n := rfl
    rw [f1, f3] at e1
    rw [f1, f2] at e2
    show among f.least s ≤ roomF (setPen f k (fixPen (penF f k) n)) s ∧ needF (setPen f k (fixPen (penF f k) n)) s ≤ among f.most s
    omega
theorem pen_only {f : Fl} {k : Nat} (hk : k < f.pens.length) {n : Int} (h1 : (penF f k).lo ≤ n) (h2 : n ≤ (penF f k).hi) (hp : possibleF (penFl f k n) = true) : possibleF f = true := by
  have hp := possible_iff.1 hp
  refine possible_iff.2 fun s hs => ?_
  have h3 : among f.least s ≤ roomF (setPen f k (fixPen (penF f k) n)) s ∧ needF (setPen f k (fixPen (penF f k) n)) s ≤ among f.most s := hp s hs
  have e1 := room_set hk (fixPen (penF f k) n) s
  have e2 := need_set hk (fixPen (penF f k) n) s
  have f1 : (fixPen (penF f k) n).fr = (penF f k).fr := rfl
  have f2 : (fixPen (penF f k) n).lo = n := rfl
  have f3 : (fixPen (penF f k) n).hi = n := rfl
  rw [f1, f3] at e1
  rw [f1, f2] at e2
  have e3 := room_set hk (penF f k) s
  have e4 := need_set hk (penF f k) s
  rw [set_same hk] at e3 e4
  omega
/-- A pen's answer is there just when something may be at all. -/
theorem pen_span {f : Fl} (hf : FlGood f) (hlm : ∀ s, among f.least s ≤ among f.most s) {k : Nat} (hk : k < f.pens.length) : (possibleF f = false → spanPen f k = none) ∧ (possibleF f = true → ∃ a b, spanPen f k = some (a, b) ∧ a ≤ b ∧ (penF f k).lo ≤ a ∧ b ≤ (penF f k).hi ∧ ∀ y, (penF f k).lo ≤ y → y ≤ (penF f k).hi → possibleF (penFl f k y) = true → a ≤ y ∧ y ≤ b) := by
  constructor
  · intro hp
    refine spanBy_none fun n h1 h2 => ?_
    cases h : possibleF (penFl f k n) with
    | false => rfl
    | true => rw [pen_only hk h1 h2 h] at hp; cases hp
  · intro hp
    obtain ⟨a, b, e, h1, h2, h3, _, _, h4⟩ := spanBy_some (p := fun n => possibleF (penFl f k n)) (pen_some hf hlm hk hp)
    exact ⟨a, b, e, h1, h2, h3, h4⟩
end Go.Ag
/- Layer 2: what may be of a part, and what may be at all. -/
namespace Go.Ag
open Go.Proofs
set_option maxRecDepth 100000

theorem among_union (g : Nat → Int) (s t : Nat) : among g (s ||| t) = among g (sub s t) + among g t := by
  rw [among_eq, among_eq, among_eq]
  simp only [sub_test, Nat.testBit_or]
  cases s.testBit 0 <;> cases t.testBit 0 <;> cases s.testBit 1 <;> cases t.testBit 1 <;> cases s.testBit 2 <;> cases t.testBit 2 <;> cases s.testBit 3 <;> cases t.testBit 3 <;> simp <;> omega
theorem room_sub {f : Fl} (hf : FlGood f) (s t : Nat) : roomF f (s ||| t) + roomF f (s &&& t) ≤ roomF f s + roomF f t := by
  have l1 := among_union f.left s t
  have l2 := among_parts f.left s t
  have key : ∀ k, min (penF f k).hi (among (penF f k).fr (s ||| t)) - min (penF f k).hi (among (penF f k).fr s) ≤ min (penF f k).hi (among (penF f k).fr t) - min (penF f k).hi (among (penF f k).fr (s &&& t)) := by
    intro k
    have h1 := among_union (penF f k).fr s t
    have h2 := among_parts (penF f k).fr s t
    have h3 := among_parts (penF f k).fr t s
    rw [Nat.and_comm] at h3
    have h5 := among_nonneg (hf.fr k) (s &&& t)
    have h6 := among_nonneg (hf.fr k) (sub s t)
    have h7 := among_nonneg (hf.fr k) (sub t s)
    omega
  have := sum_pairs key f.pens.length
  unfold roomF
  omega
theorem need_sup {f : Fl} (hf : FlGood f) {s t : Nat} (hs : s < 2 ^ f.mobs) (ht : t < 2 ^ f.mobs) : needF f s + needF f t ≤ needF f (s ||| t) + needF f (s &&& t) := by
  have key : ∀ k, max 0 ((penF f k).lo - among (penF f k).fr (othersOf f.mobs s)) - max 0 ((penF f k).lo - among (penF f k).fr (othersOf f.mobs (s ||| t))) ≤ max 0 ((penF f k).lo - among (penF f k).fr (othersOf f.mobs (s &&& t))) - max 0 ((penF f k).lo - among (penF f k).fr (othersOf f.mobs t)) := by
    intro k
    rw [among_others hf.mobs (hf.out k) ht, among_others hf.mobs (hf.out k) hs, among_others hf.mobs (hf.out k) (Nat.or_lt_two_pow hs ht), among_others hf.mobs (hf.out k) (Nat.and_lt_two_pow _ ht)]
    have h1 := among_union (penF f k).fr s t
    have h2 := among_parts (penF f k).fr s t
    have h3 := among_parts (penF f k).fr t s
    rw [Nat.and_comm] at h3
    have h5 := among_nonneg (hf.fr k) (s &&& t)
    have h6 := among_nonneg (hf.fr k) (sub s t)
    have h7 := among_nonneg (hf.fr k) (sub t s)
    omega
  have := sum_pairs key f.pens.length
  unfold needF
  omega
/-- With one of s out: a number of it that is not in t. -/
theorem among_out {g : Nat → Int} (h : ∀ i, 0 ≤ g i) {j s t : Nat} (hj : j < 4) (hs : s.testBit j = true) (ht : t.testBit j = false) : g j ≤ among g (sub s t) := among_has h hj (by rw [sub_test, hs, ht]; rfl)
end Go.Ag
/- Layer 2: a part's answer is there just when something may be at all. -/
namespace Go.Ag
open Go.Proofs
set_option maxRecDepth 100000

theorem sum4_put {g : Nat → Int} {j : Nat} (hj : j < 4) (n : Int) : sum4 (putF g j n) = sum4 g + n - g j := by
  obtain rfl | rfl | rfl | rfl : j = 0 ∨ j = 1 ∨ j = 2 ∨ j = 3 := by omega
  all_goals
    simp only [sum4, sumTo, putF]
    simp
    omega
/-- The cuts of a part held at n. -/
theorem part_cuts {f : Fl} (hf : FlGood f) {k j : Nat} (hk : k < f.pens.length) (hj : j < f.mobs) (n : Int) {s : Nat} (hs : s < 2 ^ f.mobs) :
    among (partFl f k j n).least s = among f.least s - (if s.testBit j then n else 0) ∧ among (partFl f k j n).most s = among f.most s - (if s.testBit j then n else 0) ∧
    roomF (partFl f k j n) s = roomF (setPen f k zeroP) s + min ((penF f k).hi - n) (among (penF f k).fr s - (if s.testBit j then (penF f k).fr j else 0)) ∧
    needF (partFl f k j n) s = needF (setPen f k zeroP) s + max 0 ((penF f k).lo - n - (sum4 (penF f k).fr - (penF f k).fr j - (among (penF f k).fr s - (if s.testBit j then (penF f k).fr j else 0)))) := by
  have hj4 : j < 4 := Nat.lt_of_lt_of_le hj hf.mobs
  have a1 := among_put (g := f.least) hj4 (f.least j - n) s
  have a2 := among_put (g := f.most) hj4 (f.most j - n) s
  have a3 := among_put (g := (penF f k).fr) hj4 0 s
  have e1 := room_set (f := lessFl f j n) hk (lessPn (penF f k) j n) s
  have e2 := need_set (f := lessFl f j n) hk (lessPn (penF f k) j n) s
  have o1 := among_others (g := putF (penF f k).fr j 0) hf.mobs (fun i hi => by unfold putF; split; rfl; exact hf.out k i hi) hs
  have s1 := sum4_put (g := (penF f k).fr) hj4 0
  have r1 : roomF (setPen (lessFl f j n) k zeroP) s = roomF (setPen f k zeroP) s := rfl
  have r2 : needF (setPen (lessFl f j n) k zeroP) s = needF (setPen f k zeroP) s := rfl
  have f1 : (lessPn (penF f k) j n).fr = putF (penF f k).fr j 0 := rfl
  have f2 : (lessPn (penF f k) j n).lo = (penF f k).lo - n := rfl
  have f3 : (lessPn (penF f k) j n).hi = (penF f k).hi - n := rfl
  have f4 : (lessFl f j n).mobs = f.mobs := rfl
  rw [f1, f3, r1] at e1
  rw [f1, f2, f4, r2, o1] at e2
  refine ⟨?_, ?_, ?_, ?_⟩
  · show among (putF f.least j (f.least j - n)) s = _
    rw [a1]; split <;> omega
  · show among (putF f.most j (f.most j - n)) s = _
    rw [a2]; split <;> omega
  · show roomF (setPen (lessFl f j n) k (lessPn (penF f k) j n)) s = _
    rw [e1, a3]
    split <;> congr 2 <;> omega
  · show needF (setPen (lessFl f j n) k (lessPn (penF f k) j n)) s = _
    rw [e2, a3, s1]
    split <;> congr 2 <;> omega

set_option maxHeartbeats 4000000 in
theorem part_some {f : Fl} (hf : FlGood f) (hlm : ∀ s, among f.least s ≤ among f.most s) {k j : Nat} (hk : k < f.pens.length) (hj : j < f.mobs) (hp : possibleF f = true) : ∃ n, 0 ≤ n ∧ n ≤ (penF f k).fr j ∧ possibleF (partFl f k j n) = true := by
  have hp := possible_iff.1 hp
  have hj4 : j < 4 := Nat.lt_of_lt_of_le hj hf.mobs
  have hr := rest_good hf hk
  have room : ∀ s, roomF f s = roomF (setPen f k zeroP) s + min (penF f k).hi (among (penF f k).fr s) := fun s => by
    have := room_set hk (penF f k) s
    rwa [set_same hk] at this
  have need : ∀ s, s < 2 ^ f.mobs → needF f s = needF (setPen f k zeroP) s + max 0 ((penF f k).lo - (sum4 (penF f k).fr - among (penF f k).fr s)) := fun s hs => by
    have := need_set hk (penF f k) s
    rwa [set_same hk, among_others hf.mobs (hf.out k) hs] at this
  have h3 := hf.span k
  have hj0 := hf.fr k j
  obtain ⟨n, hn⟩ := between (l := fun s => if s.testBit j then max 0 (among f.least s - roomF (setPen f k zeroP) s - among (penF f k).fr s + (penF f k).fr j) else max 0 (needF (setPen f k zeroP) s + (penF f k).lo - sum4 (penF f k).fr + (penF f k).fr j + among (penF f k).fr s - among f.most s))
    (u := fun t => if t.testBit j then min ((penF f k).fr j) (among f.most t - needF (setPen f k zeroP) t) else min ((penF f k).fr j) (roomF (setPen f k zeroP) t + (penF f k).hi - among f.least t)) (N := 2 ^ f.mobs) (Nat.two_pow_pos _) (by
    intro t s ht hs
    have h1 := hp s hs
    have h2 := hp t ht
    rw [room, need _ hs] at h1
    rw [room, need _ ht] at h2
    have b1 := among_nonneg (hf.fr k) s
    have b2 := among_nonneg (hf.fr k) t
    cases hsj : s.testBit j
    · cases htj : t.testBit j
      · have h4 := strong hr (s := t) (t := s) ht hs
        have h5 := (hp (sub t s) (sub_lt ht hs)).1
        have h6 := (hp (sub s t) (sub_lt hs ht)).2
        rw [room] at h5
        rw [need _ (sub_lt hs ht)] at h6
        have h7 := among_parts f.least t s
        have h8 := among_parts f.most s t
        have h9 := among_parts (penF f k).fr s t
        have h10 := among_parts (penF f k).fr t s
        rw [Nat.and_comm] at h8 h9
        have h11 := hlm (t &&& s)
        have h12 := among_three (g := putF (penF f k).fr j 0) (fun i => by unfold putF; split; omega; exact hf.fr k i) s t
        rw [among_put hj4, among_put hj4, among_put hj4, sum4_put hj4, sub_test, sub_test, Nat.testBit_and, hsj, htj] at h12
        rw [Nat.and_comm s t] at h12
        have c1 := among_nonneg (hf.fr k) (sub t s)
        have c2 := among_nonneg (hf.fr k) (sub s t)
        simp at h12 ⊢
        omega
      · have hor := Nat.or_lt_two_pow ht hs
        have hand : t &&& s < 2 ^ f.mobs := Nat.and_lt_two_pow _ hs
        have h4 := need_sup hr (s := t) (t := s) ht hs
        have h5 := (hp (t ||| s) hor).2
        have h6 := (hp (t &&& s) hand).2
        rw [need _ hor] at h5
        rw [need _ hand] at h6
        have h7 := among_union f.most t s
        have h8 := among_parts f.most t s
        have h9 := among_union (penF f k).fr t s
        have h10 := among_out (hf.fr k) hj4 htj hsj
        simp
        omega
    · cases htj : t.testBit j
      · have hor := Nat.or_lt_two_pow hs ht
        have hand : s &&& t < 2 ^ f.mobs := Nat.and_lt_two_pow _ ht
        have h4 := room_sub hr s t
        have h5 := (hp (s ||| t) hor).1
        have h6 := (hp (s &&& t) hand).1
        rw [room] at h5 h6
        have h7 := among_union f.least s t
        have h8 := among_parts f.least s t
        have h9 := among_parts (penF f k).fr s t
        have h10 := among_out (hf.fr k) hj4 hsj htj
        simp
        omega
      · have h4 := strong hr (s := s) (t := t) hs ht
        have h5 := (hp (sub s t) (sub_lt hs ht)).1
        have h6 := (hp (sub t s) (sub_lt ht hs)).2
        rw [room] at h5
        rw [need _ (sub_lt ht hs)] at h6
        have h7 := among_parts f.least s t
        have h8 := among_parts f.most t s
        have h9 := among_parts (penF f k).fr s t
        rw [Nat.and_comm] at h8
        have h11 := hlm (s &&& t)
        have h12 := among_has (hf.fr k) hj4 (s := s &&& t) (by rw [Nat.testBit_and, hsj, htj]; rfl)
        simp
        omega)
  have hn0 := hn 0 (Nat.two_pow_pos _)
  simp only [Nat.zero_testBit, Bool.false_eq_true, if_false] at hn0
  refine ⟨n, by omega, by omega, possible_iff.2 fun s hs => ?_⟩
  have hs : s < 2 ^ f.mobs := hs
  have h1 := hp s hs
  rw [room, need _ hs] at h1
  have h2 := hn s hs
  obtain ⟨c1, c2, c3, c4⟩ := part_cuts hf hk hj n hs
  rw [c1, c2, c3, c4]
  have b1 := among_nonneg (hf.fr k) s
  cases hsj : s.testBit j
  · rw [hsj] at h2
    simp at h2 ⊢
    omega
  · rw [hsj] at h2
    simp at h2 ⊢
    omega
theorem part_only {f : Fl} (hf : FlGood f) {k j : Nat} (hk : k < f.pens.length) (hj : j < f.mobs) {n : Int} (h1 : 0 ≤ n) (h2 : n ≤ (penF f k).fr j) (hp : possibleF (partFl f k j n) = true) : possibleF f = true := by
  have hp := possible_iff.1 hp
  have hj4 : j < 4 := Nat.lt_of_lt_of_le hj hf.mobs
  refine possible_iff.2 fun s hs => ?_
  have h3 := hp s hs
  obtain ⟨c1, c2, c3, c4⟩ := part_cuts hf hk hj n hs
  rw [c1, c2, c3, c4] at h3
  have e3 := room_set hk (penF f k) s
  have e4 := need_set hk (penF f k) s
  rw [set_same hk] at e3 e4
  rw [among_others hf.mobs (hf.out k) hs] at e4
  cases hsj : s.testBit j
  · rw [hsj] at h3
    simp at h3
    omega
  · rw [hsj] at h3
    simp at h3
    omega
/-- A part's answer is there just when something may be at all. -/
theorem part_span {f : Fl} (hf : FlGood f) (hlm : ∀ s, among f.least s ≤ among f.most s) {k j : Nat} (hk : k < f.pens.length) (hj : j < f.mobs) : (possibleF f = false → spanPart f k j = none) ∧ (possibleF f = true → ∃ a b, spanPart f k j = some (a, b) ∧ a ≤ b ∧ 0 ≤ a ∧ b ≤ (penF f k).fr j ∧ ∀ y, 0 ≤ y → y ≤ (penF f k).fr j → possibleF (partFl f k j y) = true → a ≤ y ∧ y ≤ b) := by
  constructor
  · intro hp
    refine spanBy_none fun n h1 h2 => ?_
    cases h : possibleF (partFl f k j n) with
    | false => rfl
    | true => rw [part_only hf hk hj h1 h2 h] at hp; cases hp
  · intro hp
    obtain ⟨a, b, e, h1, h2, h3, _, _, h4⟩ := spanBy_some (p := fun n => possibleF (partFl f k j n)) (part_some hf hlm hk hj hp)
    exact ⟨a, b, e, h1, h2, h3, h4⟩
end Go.Ag
/- Layer 2: what fails together. -/
namespace Go.Ag
open Go.Proofs
set_option maxRecDepth 100000

theorem tk_same (s q : Nat) : ∀ (l : List Pn) (i : Nat), (∀ k, k < l.length → s.testBit (i + k) = true) → tkFrom s q i l = l
  | [], _, _ => rfl
  | p :: l, i, h => by
    have h0 := h 0 (by simp)
    rw [Nat.add_zero] at h0
    have ih := tk_same s q l (i + 1) (fun k hk => by have := h (k + 1) (by simp; omega); rwa [show i + (k + 1) = i + 1 + k by omega] at this)
    simp only [tkFrom, ih, tkP, h0]
    simp
theorem taking_all (f : Fl) : takingF f (2 ^ f.pens.length - 1) = f := by
  unfold takingF
  rw [tk_same _ _ _ _ (fun k hk => by rw [Nat.zero_add, Nat.testBit_two_pow_sub_one]; simpa using hk)]
theorem among_mono {g h : Nat → Int} (hle : ∀ i, g i ≤ h i) (s : Nat) : among g s ≤ among h s := by
  have h0 := hle 0; have h1 := hle 1; have h2 := hle 2; have h3 := hle 3
  rw [among_eq, among_eq]
  split <;> split <;> split <;> split <;> omega

/-- Where a valid drove clashes, no question has an answer; else each has one. -/
theorem together {d : Dr} (h : validB d = true) :
    (possibleF (flockF d) = false → allS d = none ∧ (∀ j, j < d.mobs.length → spanMob (flockF d) j = none) ∧ (∀ k, k < d.pens.length → spanPen (flockF d) k = none) ∧ (∀ k j, k < d.pens.length → j < d.mobs.length → spanPart (flockF d) k j = none)) ∧
    (possibleF (flockF d) = true → allS d ≠ none ∧ (∀ j, j < d.mobs.length → spanMob (flockF d) j ≠ none) ∧ (∀ k, k < d.pens.length → spanPen (flockF d) k ≠ none) ∧ (∀ k j, k < d.pens.length → j < d.mobs.length → spanPart (flockF d) k j ≠ none)) := by
  obtain ⟨hg, hlm⟩ := flock_good h
  have hl : ∀ s, among (flockF d).least s ≤ among (flockF d).most s := fun s => among_mono hlm s
  have hpl : (flockF d).pens.length = d.pens.length := by simp [flockF]
  have ha : takingF (flockF d) (2 ^ d.pens.length - 1) = flockF d := by
    have := taking_all (flockF d)
    rwa [hpl] at this
  constructor
  · intro hp
    refine ⟨by unfold allS; rw [ha, hp]; rfl, fun j hj => (mob_span hg hlm hj).1 hp, fun k hk => (pen_span hg hl (by rw [hpl]; exact hk)).1 hp, fun k j hk hj => (part_span hg hl (by rw [hpl]; exact hk) hj).1 hp⟩
  · intro hp
    refine ⟨by unfold allS; rw [ha, hp]; simp, fun j hj => ?_, fun k hk => ?_, fun k j hk hj => ?_⟩
    · obtain ⟨a, b, e, _⟩ := (mob_span hg hlm hj).2 hp
      rw [e]; simp
    · obtain ⟨a, b, e, _⟩ := (pen_span hg hl (k := k) (by rw [hpl]; exact hk)).2 hp
      rw [e]; simp
    · obtain ⟨a, b, e, _⟩ := (part_span hg hl (k := k) (by rw [hpl]; exact hk) hj).2 hp
      rw [e]; simp
end Go.Ag
/- Layer 2: what is possible has no holes. -/
namespace Go.Ag
open Go.Proofs
set_option maxRecDepth 100000

theorem mob_between {f : Fl} {k : Nat} (hk4 : k < 4) {a n b : Int} (h1 : a ≤ n) (h2 : n ≤ b) (ha : possibleF (mobFl f k a) = true) (hb : possibleF (mobFl f k b) = true) : possibleF (mobFl f k n) = true := by
  have ha := possible_iff.1 ha
  have hb := possible_iff.1 hb
  refine possible_iff.2 fun s hs => ?_
  have h3 : among (putF f.least k a) s ≤ roomF f s ∧ needF f s ≤ among (putF f.most k a) s := ha s hs
  have h4 : among (putF f.least k b) s ≤ roomF f s ∧ needF f s ≤ among (putF f.most k b) s := hb s hs
  show among (putF f.least k n) s ≤ roomF f s ∧ needF f s ≤ among (putF f.most k n) s
  rw [among_put hk4, among_put hk4] at h3 h4 ⊢
  cases hsk : s.testBit k
  · rw [hsk] at h3; simpa using h3
  · rw [hsk] at h3 h4; simp at h3 h4 ⊢; omega
theorem pen_between {f : Fl} {k : Nat} (hk : k < f.pens.length) {a n b : Int} (h1 : a ≤ n) (h2 : n ≤ b) (ha : possibleF (penFl f k a) = true) (hb : possibleF (penFl f k b) = true) : possibleF (penFl f k n) = true := by
  have ha := possible_iff.1 ha
  have hb := possible_iff.1 hb
  refine possible_iff.2 fun s hs => ?_
  have cut : ∀ x : Int, roomF (penFl f k x) s = roomF (setPen f k zeroP) s + min x (among (penF f k).fr s) ∧ needF (penFl f k x) s = needF (setPen f k zeroP) s + max 0 (x - among (penF f k).fr (othersOf f.mobs s)) := fun x => ⟨room_set hk (fixPen (penF f k) x) s, need_set hk (fixPen (penF f k) x) s⟩
  have l : ∀ x, (penFl f k x).least = f.least ∧ (penFl f k x).most = f.most := fun _ => ⟨rfl, rfl⟩
  have h3 := ha s hs
  have h4 := hb s hs
  rw [(cut _).1, (cut _).2, (l _).1, (l _).2] at h3 h4 ⊢
  omega
theorem part_between {f : Fl} (hf : FlGood f) {k j : Nat} (hk : k < f.pens.length) (hj : j < f.mobs) {a n b : Int} (h1 : a ≤ n) (h2 : n ≤ b) (ha : possibleF (partFl f k j a) = true) (hb : possibleF (partFl f k j b) = true) : possibleF (partFl f k j n) = true := by
  have ha := possible_iff.1 ha
  have hb := possible_iff.1 hb
  refine possible_iff.2 fun s hs => ?_
  have hs : s < 2 ^ f.mobs := hs
  have h3 := ha s hs
  have h4 := hb s hs
  obtain ⟨c1, c2, c3, c4⟩ := part_cuts hf hk hj a hs
  obtain ⟨d1, d2, d3, d4⟩ := part_cuts hf hk hj b hs
  obtain ⟨e1, e2, e3, e4⟩ := part_cuts hf hk hj n hs
  rw [c1, c2, c3, c4] at h3
  rw [d1, d2, d3, d4] at h4
  rw [e1, e2, e3, e4]
  cases hsj : s.testBit j
  · rw [hsj] at h3 h4; simp at h3 h4 ⊢; omega
  · rw [hsj] at h3 h4; simp at h3 h4 ⊢; omega
end Go.Ag
