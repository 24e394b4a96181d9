/- How many sheep are wet at all, against the mobs one by one. No conditions. -/
import Derived.Test.YthoappjepbaocaaDrK
/- Layer 2: how many are wet at all lies within what all mobs are. -/
namespace Go.Ag
open Go.Proofs
set_option maxRecDepth 100000

theorem others_test : ∀ m, m ≤ 4 → ∀ s, s < 2 ^ m → ∀ i, i < 4 → (othersOf m s).testBit i = (decide (i < m) && !s.testBit i) := by decide +kernel
theorem others_lt {m s : Nat} : othersOf m s < 2 ^ m := by
  unfold othersOf
  have := Nat.two_pow_pos m
  omega
theorem bits4 {s t : Nat} (hs : s < 16) (ht : t < 16) (h : ∀ i, i < 4 → s.testBit i = t.testBit i) : s = t := by
  apply Nat.eq_of_testBit_eq
  intro i
  by_cases hi : i < 4
  · exact h i hi
  · have e : ∀ x, x < 16 → x.testBit i = false := fun x hx => Nat.testBit_lt_two_pow (Nat.lt_of_lt_of_le hx (show 16 ≤ 2 ^ i from Nat.pow_le_pow_right (n := 2) (by omega) (show 4 ≤ i by omega)))
    rw [e s hs, e t ht]
theorem pow16 {m : Nat} (h : m ≤ 4) : 2 ^ m ≤ 16 := Nat.pow_le_pow_right (n := 2) (by omega) h
theorem and_lt {s t m : Nat} (hs : s < 2 ^ m) : s &&& t < 2 ^ m := Nat.lt_of_le_of_lt Nat.and_le_left hs
theorem or_lt {s t m : Nat} (hs : s < 2 ^ m) (ht : t < 2 ^ m) : s ||| t < 2 ^ m := Nat.or_lt_two_pow hs ht
theorem sub_lt' {s t m : Nat} (hs : s < 2 ^ m) : sub s t < 2 ^ m := by
  unfold sub
  exact Nat.xor_lt_two_pow hs (and_lt hs)

/-- What bounds all from below, and from above. -/
theorem allLo_ge {f : Fl} : ∀ {N s : Nat}, s < N → among f.least s + needF f (othersOf f.mobs s) ≤ allLo f N
  | N + 1, s, h => by
    simp only [allLo]
    rcases Nat.lt_or_ge s N with h1 | h1
    · have := allLo_ge (f := f) h1; omega
    · have : s = N := by omega
      subst this; omega
theorem allLo_pos (f : Fl) : ∀ N, 0 ≤ allLo f N
  | 0 => Int.le_refl _
  | N + 1 => by have := allLo_pos f N; simp only [allLo]; omega
theorem allLo_le {f : Fl} {c : Int} (h0 : 0 ≤ c) : ∀ {N : Nat}, (∀ s, s < N → among f.least s + needF f (othersOf f.mobs s) ≤ c) → allLo f N ≤ c
  | 0, _ => h0
  | N + 1, h => by
    have := allLo_le h0 (f := f) (N := N) (fun s hs => h s (by omega))
    have := h N (by omega)
    simp only [allLo]; omega
theorem allHi_le {f : Fl} : ∀ {N s : Nat}, s < N → allHi f N ≤ among f.most s + roomF f (othersOf f.mobs s)
  | N + 1, s, h => by
    simp only [allHi]
    rcases Nat.lt_or_ge s N with h1 | h1
    · have := allHi_le (f := f) h1; omega
    · have : s = N := by omega
      subst this; omega
theorem allHi_sum (f : Fl) : ∀ N, allHi f N ≤ sum4 f.most
  | 0 => Int.le_refl _
  | N + 1 => by have := allHi_sum f N; simp only [allHi]; omega
theorem allHi_ge {f : Fl} {c : Int} (h0 : c ≤ sum4 f.most) : ∀ {N : Nat}, (∀ s, s < N → c ≤ among f.most s + roomF f (othersOf f.mobs s)) → c ≤ allHi f N
  | 0, _ => h0
  | N + 1, h => by
    have := allHi_ge h0 (f := f) (N := N) (fun s hs => h s (by omega))
    have := h N (by omega)
    simp only [allHi]; omega

/-- Cuts of two sets. -/
theorem among_less (g : Nat → Int) {s j : Nat} (hj : j < 4) (hs : s.testBit j = true) : among g s = g j + among g (sub s (2 ^ j)) := by
  have h4 := among_parts g s (2 ^ j)
  have h5 : s &&& 2 ^ j = 2 ^ j := by
    apply Nat.eq_of_testBit_eq
    intro i
    rw [Nat.testBit_and, Nat.testBit_two_pow]
    by_cases hi : j = i
    · subst hi; simp [hs]
    · simp [hi]
  rw [h5, among_one _ hj] at h4
  omega

structure Tame (f : Fl) : Prop where
  good : FlGood f
  lm : ∀ i, f.least i ≤ f.most i
  hi : ∀ k, 0 ≤ (penF f k).hi
  pos : ∀ i, 0 ≤ f.least i

theorem most_base {f : Fl} (hf : Tame f) (hz : ∀ i, f.mobs ≤ i → f.most i = 0) : among f.most (2 ^ f.mobs - 1) + roomF f (othersOf f.mobs (2 ^ f.mobs - 1)) = sum4 f.most := by
  have e : othersOf f.mobs (2 ^ f.mobs - 1) = 0 := by unfold othersOf; omega
  have z : ∀ g : Nat → Int, among g 0 = 0 := fun g => by rw [among_eq]; simp
  have hr : roomF f 0 = 0 := by
    unfold roomF
    rw [z]
    have : ∀ n, sumTo (fun k => min (penF f k).hi (among (penF f k).fr 0)) n = 0 := by
      intro n
      induction n with
      | zero => rfl
      | succ n ih =>
        have := z (penF f n).fr
        have := hf.hi n
        simp only [sumTo]; omega
    rw [this]; rfl
  have := among_others hf.good.mobs hz (t := 0) (Nat.two_pow_pos _)
  rw [z] at this
  have e2 : othersOf f.mobs 0 = 2 ^ f.mobs - 1 := by unfold othersOf; omega
  rw [e2] at this
  rw [e, hr, this]
  omega

theorem lo_le_hi {f : Fl} (hf : Tame f) (hp : possibleF f = true) (hz : ∀ i, f.mobs ≤ i → f.most i = 0) : allLo f (2 ^ f.mobs) ≤ allHi f (2 ^ f.mobs) := by
  have hp := possible_iff.1 hp
  have hm4 := hf.good.mobs
  have h16 := pow16 hm4
  have cut : ∀ s t, s < 2 ^ f.mobs → t < 2 ^ f.mobs → among f.least s + needF f (othersOf f.mobs s) ≤ among f.most t + roomF f (othersOf f.mobs t) := by
    intro s t hs ht
    have h1 := strong hf.good (s := othersOf f.mobs t) (t := othersOf f.mobs s) others_lt others_lt
    have e1 : sub (othersOf f.mobs t) (othersOf f.mobs s) = sub s t := by
      refine bits4 (Nat.lt_of_lt_of_le (sub_lt' others_lt) h16) (Nat.lt_of_lt_of_le (sub_lt' hs) h16) fun i hi => ?_
      rw [sub_test, sub_test, others_test _ hm4 _ hs i hi, others_test _ hm4 _ ht i hi]
      by_cases him : i < f.mobs
      · simp only [him, decide_true, Bool.true_and]; cases s.testBit i <;> cases t.testBit i <;> rfl
      · have : s.testBit i = false := Nat.testBit_lt_two_pow (Nat.lt_of_lt_of_le hs (Nat.pow_le_pow_right (by omega) (by omega)))
        simp [him, this]
    have e2 : sub (othersOf f.mobs s) (othersOf f.mobs t) = sub t s := by
      refine bits4 (Nat.lt_of_lt_of_le (sub_lt' others_lt) h16) (Nat.lt_of_lt_of_le (sub_lt' ht) h16) fun i hi => ?_
      rw [sub_test, sub_test, others_test _ hm4 _ hs i hi, others_test _ hm4 _ ht i hi]
      by_cases him : i < f.mobs
      · simp only [him, decide_true, Bool.true_and]; cases s.testBit i <;> cases t.testBit i <;> rfl
      · have : t.testBit i = false := Nat.testBit_lt_two_pow (Nat.lt_of_lt_of_le ht (Nat.pow_le_pow_right (by omega) (by omega)))
        simp [him, this]
    rw [e1, e2] at h1
    have h2 := (hp _ (sub_lt' (t := t) hs)).1
    have h3 := (hp _ (sub_lt' (t := s) ht)).2
    have h4 := among_parts f.least s t
    have h5 := among_parts f.most t s
    have h6 : s &&& t = t &&& s := Nat.and_comm _ _
    have h7 := among_mono hf.lm (s &&& t)
    rw [← h6] at h5
    omega
  have base := most_base hf hz
  refine allLo_le ?_ fun s hs => ?_
  · refine allHi_ge ?_ fun t ht => ?_
    · have := among_nonneg (g := f.most) (fun i => Int.le_trans (hf.pos i) (hf.lm i)) (2 ^ f.mobs - 1)
      have h0 := cut 0 (2 ^ f.mobs - 1) (Nat.two_pow_pos _) (by have := Nat.two_pow_pos f.mobs; omega)
      have := among_nonneg hf.pos 0
      have hn : 0 ≤ needF f (othersOf f.mobs 0) := by
        have : ∀ n, 0 ≤ sumTo (fun k => max 0 ((penF f k).lo - among (penF f k).fr (othersOf f.mobs (othersOf f.mobs 0)))) n := by
          intro n
          induction n with
          | zero => exact Int.le_refl _
          | succ n ih => simp only [sumTo]; omega
        exact this _
      omega
    · have h0 := cut 0 t (Nat.two_pow_pos _) ht
      have := among_nonneg hf.pos 0
      have hn : 0 ≤ needF f (othersOf f.mobs 0) := by
        have : ∀ n, 0 ≤ sumTo (fun k => max 0 ((penF f k).lo - among (penF f k).fr (othersOf f.mobs (othersOf f.mobs 0)))) n := by
          intro n
          induction n with
          | zero => exact Int.le_refl _
          | succ n ih => simp only [sumTo]; omega
        exact this _
      omega
  · refine allHi_ge ?_ fun t ht => cut s t hs ht
    rw [← base]
    exact cut s _ hs (by have := Nat.two_pow_pos f.mobs; omega)
end Go.Ag
/- Layer 2: mob by mob. -/
namespace Go.Ag
open Go.Proofs
set_option maxRecDepth 100000

theorem oth_sub {m S U : Nat} (hm : m ≤ 4) (hS : S < 2 ^ m) (hU : U < 2 ^ m) : U ||| othersOf m S = othersOf m (sub S U) := by
  have h16 := pow16 hm
  refine bits4 (Nat.lt_of_lt_of_le (or_lt hU others_lt) h16) (Nat.lt_of_lt_of_le others_lt h16) fun i hi => ?_
  rw [Nat.testBit_or, others_test _ hm _ hS i hi, others_test _ hm _ (sub_lt' hS) i hi, sub_test]
  by_cases him : i < m
  · simp only [him, decide_true, Bool.true_and]; cases S.testBit i <;> cases U.testBit i <;> rfl
  · have : U.testBit i = false := Nat.testBit_lt_two_pow (Nat.lt_of_lt_of_le hU (Nat.pow_le_pow_right (by omega) (by omega)))
    simp [him, this]
theorem oth_and {m S U : Nat} (hm : m ≤ 4) (hS : S < 2 ^ m) (hU : U < 2 ^ m) : U &&& othersOf m S = sub U S := by
  have h16 := pow16 hm
  refine bits4 (Nat.lt_of_lt_of_le (and_lt hU) h16) (Nat.lt_of_lt_of_le (sub_lt' hU) h16) fun i hi => ?_
  rw [Nat.testBit_and, others_test _ hm _ hS i hi, sub_test]
  by_cases him : i < m
  · simp only [him, decide_true, Bool.true_and]
  · have : U.testBit i = false := Nat.testBit_lt_two_pow (Nat.lt_of_lt_of_le hU (Nat.pow_le_pow_right (by omega) (by omega)))
    simp [him, this]
theorem put_eq (g : Nat → Int) (j : Nat) : putF g j (g j) = g := by
  funext i; simp only [putF]; split
  · rename_i h; rw [h]
  · rfl

section
variable {g : Fl} {j : Nat} {n : Int}
theorem fix_tame (hg : Tame g) (hn : 0 ≤ n) : Tame (mobFl g j n) := by
  refine ⟨⟨hg.good.mobs, hg.good.left, hg.good.fr, hg.good.out, hg.good.span⟩, fun i => ?_, hg.hi, fun i => ?_⟩
  · show putF g.least j n i ≤ putF g.most j n i
    simp only [putF]; split
    · exact Int.le_refl _
    · exact hg.lm i
  · show 0 ≤ putF g.least j n i
    simp only [putF]; split
    · exact hn
    · exact hg.pos i

theorem step_lo (hg : Tame g) (hp : possibleF g = true) (hj : j < g.mobs) (h1 : g.least j ≤ n) (hpn : possibleF (mobFl g j n) = true) (hmin : n = g.least j ∨ possibleF (mobFl g j (n - 1)) = false) :
    allLo (mobFl g j n) (2 ^ g.mobs) ≤ allLo g (2 ^ g.mobs) := by
  have hm4 := hg.good.mobs
  have hj4 : j < 4 := by omega
  have hp := possible_iff.1 hp
  have hpn := possible_iff.1 hpn
  have nd : ∀ y s, needF (mobFl g j y) s = needF g s := fun _ _ => rfl
  have rm : ∀ y s, roomF (mobFl g j y) s = roomF g s := fun _ _ => rfl
  have al : ∀ y s, among (mobFl g j y).least s = among g.least s + (if s.testBit j then y - g.least j else 0) := fun y s => among_put hj4 y s
  have am : ∀ y s, among (mobFl g j y).most s = among g.most s + (if s.testBit j then y - g.most j else 0) := fun y s => among_put hj4 y s
  refine allLo_le (allLo_pos _ _) fun S hS => ?_
  show among (mobFl g j n).least S + needF g (othersOf g.mobs S) ≤ _
  rw [al]
  have base := allLo_ge (f := g) hS
  cases hb : S.testBit j
  · simp; exact base
  simp only [if_true]
  rcases hmin with rfl | hmin
  · omega
  -- a cut that forbids less
  by_cases hU : ∃ U, U < 2 ^ g.mobs ∧ U.testBit j = true ∧ needF g U = among g.most U + n - g.most j
  · obtain ⟨U, hU1, hU2, hU3⟩ := hU
    have k1 := need_sup hg.good hU1 (t := othersOf g.mobs S) others_lt
    rw [oth_sub hm4 hS hU1, oth_and hm4 hS hU1] at k1
    have k2 := (hp _ (sub_lt' (t := S) hU1)).2
    have k3 := among_parts g.most U S
    have k4 := among_parts g.least S U
    have k5 : S &&& U = U &&& S := Nat.and_comm _ _
    rw [k5] at k4
    have kb : (U &&& S).testBit j = true := by rw [Nat.testBit_and, hU2, hb]; rfl
    have k6 := among_less g.most hj4 kb
    have k7 := among_less g.least hj4 kb
    have k8 := among_mono hg.lm (sub (U &&& S) (2 ^ j))
    have k9 := allLo_ge (f := g) (sub_lt' (t := U) hS)
    omega
  · exfalso
    rw [Bool.eq_false_iff] at hmin
    refine hmin (possible_iff.2 fun s hs => ?_)
    have x1 := hp s hs
    have x2 := hpn s hs
    rw [al, am, rm, nd] at x2 ⊢
    cases hsb : s.testBit j
    · rw [hsb] at x2; simp at x2 ⊢; exact x1
    · rw [hsb] at x2
      simp only [if_true] at x2 ⊢
      have : needF g s ≠ among g.most s + n - g.most j := fun e => hU ⟨s, hs, hsb, e⟩
      omega

theorem step_hi (hg : Tame g) (hz : ∀ i, g.mobs ≤ i → g.most i = 0) (hp : possibleF g = true) (hj : j < g.mobs) (h0 : 0 ≤ n) (h1 : n ≤ g.most j) (hpn : possibleF (mobFl g j n) = true) (hmax : n = g.most j ∨ possibleF (mobFl g j (n + 1)) = false) :
    allHi g (2 ^ g.mobs) ≤ allHi (mobFl g j n) (2 ^ g.mobs) := by
  have hm4 := hg.good.mobs
  have hj4 : j < 4 := by omega
  have hp := possible_iff.1 hp
  have hpn := possible_iff.1 hpn
  have nd : ∀ y s, needF (mobFl g j y) s = needF g s := fun _ _ => rfl
  have rm : ∀ y s, roomF (mobFl g j y) s = roomF g s := fun _ _ => rfl
  have al : ∀ y s, among (mobFl g j y).least s = among g.least s + (if s.testBit j then y - g.least j else 0) := fun y s => among_put hj4 y s
  have am : ∀ y s, among (mobFl g j y).most s = among g.most s + (if s.testBit j then y - g.most j else 0) := fun y s => among_put hj4 y s
  have key : ∀ S, S < 2 ^ g.mobs → allHi g (2 ^ g.mobs) ≤ among (mobFl g j n).most S + roomF g (othersOf g.mobs S) := by
    intro S hS
    rw [am]
    have base := allHi_le (f := g) hS
    cases hb : S.testBit j
    · simp; exact base
    simp only [if_true]
    rcases hmax with rfl | hmax
    · omega
    by_cases hU : ∃ U, U < 2 ^ g.mobs ∧ U.testBit j = true ∧ roomF g U = among g.least U + n - g.least j
    · obtain ⟨U, hU1, hU2, hU3⟩ := hU
      have k1 := room_sub hg.good U (othersOf g.mobs S)
      rw [oth_sub hm4 hS hU1, oth_and hm4 hS hU1] at k1
      have k2 := (hp _ (sub_lt' (t := S) hU1)).1
      have k3 := among_parts g.least U S
      have k4 := among_parts g.most S U
      have k5 : S &&& U = U &&& S := Nat.and_comm _ _
      rw [k5] at k4
      have kb : (U &&& S).testBit j = true := by rw [Nat.testBit_and, hU2, hb]; rfl
      have k6 := among_less g.most hj4 kb
      have k7 := among_less g.least hj4 kb
      have k8 := among_mono hg.lm (sub (U &&& S) (2 ^ j))
      have k9 := allHi_le (f := g) (sub_lt' (t := U) hS)
      omega
    · exfalso
      rw [Bool.eq_false_iff] at hmax
      refine hmax (possible_iff.2 fun s hs => ?_)
      have x1 := hp s hs
      have x2 := hpn s hs
      rw [al, am, rm, nd] at x2 ⊢
      cases hsb : s.testBit j
      · rw [hsb] at x2; simp at x2 ⊢; exact x1
      · rw [hsb] at x2
        simp only [if_true] at x2 ⊢
        have : roomF g s ≠ among g.least s + n - g.least j := fun e => hU ⟨s, hs, hsb, e⟩
        omega
  have tm := fix_tame (j := j) hg h0
  have hb := most_base tm (fun i hi => by
    show putF g.most j n i = 0
    simp only [putF]; rw [if_neg (by have : g.mobs ≤ i := hi; omega)]; exact hz i hi)
  refine allHi_ge ?_ fun S hS => key S hS
  rw [← hb]
  exact key _ (by show 2 ^ g.mobs - 1 < 2 ^ g.mobs; have := Nat.two_pow_pos g.mobs; omega)
end

theorem narrow {f g : Fl} (hm : g.mobs = f.mobs) (hr : ∀ s, roomF g s = roomF f s) (hn : ∀ s, needF g s = needF f s) (hl : ∀ i, f.least i ≤ g.least i) (hh : ∀ i, g.most i ≤ f.most i) (h : possibleF g = true) : possibleF f = true := by
  rw [possible_iff] at h ⊢
  intro s hs
  have h1 := h s (by rw [hm]; exact hs)
  rw [hr, hn] at h1
  exact ⟨Int.le_trans (among_mono hl s) h1.1, Int.le_trans h1.2 (among_mono hh s)⟩

/-- A flow of which some mobs are told as little as may be. -/
structure Fixed (f g : Fl) (q : Nat) (lo : Nat → Int) : Prop where
  tame : Tame g
  pos : possibleF g = true
  mobs : g.mobs = f.mobs
  room : ∀ s, roomF g s = roomF f s
  need : ∀ s, needF g s = needF f s
  least : ∀ i, f.least i ≤ g.least i
  most : ∀ i, g.most i ≤ f.most i
  zl : ∀ i, f.mobs ≤ i → g.least i = 0
  zm : ∀ i, f.mobs ≤ i → g.most i = 0
  done : ∀ i, i < q → lo i ≤ g.least i ∧ g.least i = g.most i

theorem mob_min {g : Fl} (hg : Tame g) (hp : possibleF g = true) {j : Nat} (hj : j < g.mobs) : ∃ a, g.least j ≤ a ∧ a ≤ g.most j ∧ possibleF (mobFl g j a) = true ∧ (a = g.least j ∨ possibleF (mobFl g j (a - 1)) = false) := by
  obtain ⟨n0, i1, i2, i3⟩ := mob_some hg.good hg.lm hj hp
  obtain ⟨a, b, hs, hab, hla, hbh, ha, hb, hall⟩ := spanBy_some (lo := g.least j) (hi := g.most j) (p := fun n => possibleF (mobFl g j n)) ⟨n0, i1, i2, i3⟩
  refine ⟨a, hla, by omega, ha, ?_⟩
  by_cases he : a = g.least j
  · exact .inl he
  · right
    cases h : possibleF (mobFl g j (a - 1)) with
    | false => rfl
    | true => have := hall (a - 1) (by omega) (by omega) h; omega
theorem mob_max {g : Fl} (hg : Tame g) (hp : possibleF g = true) {j : Nat} (hj : j < g.mobs) : ∃ a, g.least j ≤ a ∧ a ≤ g.most j ∧ possibleF (mobFl g j a) = true ∧ (a = g.most j ∨ possibleF (mobFl g j (a + 1)) = false) := by
  obtain ⟨n0, i1, i2, i3⟩ := mob_some hg.good hg.lm hj hp
  obtain ⟨a, b, hs, hab, hla, hbh, ha, hb, hall⟩ := spanBy_some (lo := g.least j) (hi := g.most j) (p := fun n => possibleF (mobFl g j n)) ⟨n0, i1, i2, i3⟩
  refine ⟨b, by omega, hbh, hb, ?_⟩
  by_cases he : b = g.most j
  · exact .inl he
  · right
    cases h : possibleF (mobFl g j (b + 1)) with
    | false => rfl
    | true => have := hall (b + 1) (by omega) (by omega) h; omega

theorem sum_lo {f : Fl} (hf : Tame f) (hzl : ∀ i, f.mobs ≤ i → f.least i = 0) (hzm : ∀ i, f.mobs ≤ i → f.most i = 0) (hp : possibleF f = true) {lo : Nat → Int} (hlo : ∀ j, j < f.mobs → ∀ n, f.least j ≤ n → n ≤ f.most j → possibleF (mobFl f j n) = true → lo j ≤ n) :
    sumTo lo f.mobs ≤ allLo f (2 ^ f.mobs) := by
  have hm4 := hf.good.mobs
  have key : ∀ q, q ≤ f.mobs → ∃ g, Fixed f g q lo ∧ allLo g (2 ^ f.mobs) ≤ allLo f (2 ^ f.mobs) := by
    intro q
    induction q with
    | zero => intro _; exact ⟨f, ⟨hf, hp, rfl, fun _ => rfl, fun _ => rfl, fun _ => Int.le_refl _, fun _ => Int.le_refl _, hzl, hzm, fun i hi => absurd hi (Nat.not_lt_zero _)⟩, Int.le_refl _⟩
    | succ q ih =>
      intro hq
      obtain ⟨g, F, hle⟩ := ih (by omega)
      have hjq : q < g.mobs := by rw [F.mobs]; omega
      obtain ⟨a, a1, a2, a3, a4⟩ := mob_min F.tame F.pos hjq
      have a0 : 0 ≤ a := Int.le_trans (F.tame.pos q) a1
      have st := step_lo F.tame F.pos hjq a1 a3 a4
      rw [F.mobs] at st
      refine ⟨mobFl g q a, ⟨fix_tame F.tame a0, a3, F.mobs, F.room, F.need, fun i => ?_, fun i => ?_, fun i hi => ?_, fun i hi => ?_, fun i hi => ?_⟩, by omega⟩
      · show f.least i ≤ putF g.least q a i
        simp only [putF]; split
        · rename_i h; subst h; have := F.least i; omega
        · exact F.least i
      · show putF g.most q a i ≤ f.most i
        simp only [putF]; split
        · rename_i h; subst h; have := F.most i; omega
        · exact F.most i
      · show putF g.least q a i = 0
        simp only [putF]; rw [if_neg (by omega)]; exact F.zl i hi
      · show putF g.most q a i = 0
        simp only [putF]; rw [if_neg (by omega)]; exact F.zm i hi
      · show lo i ≤ putF g.least q a i ∧ putF g.least q a i = putF g.most q a i
        simp only [putF]
        by_cases h : i = q
        · subst h
          rw [if_pos rfl, if_pos rfl]
          refine ⟨hlo i (by omega) a (by have := F.least i; omega) (by have := F.most i; omega) ?_, rfl⟩
          refine narrow (g := mobFl g i a) F.mobs F.room F.need (fun k => ?_) (fun k => ?_) a3
          · show putF f.least i a k ≤ putF g.least i a k
            simp only [putF]; split
            · exact Int.le_refl _
            · exact F.least k
          · show putF g.most i a k ≤ putF f.most i a k
            simp only [putF]; split
            · exact Int.le_refl _
            · exact F.most k
        · rw [if_neg h, if_neg h]; exact F.done i (by omega)
  obtain ⟨g, F, hle⟩ := key f.mobs (Nat.le_refl _)
  have hge := allLo_ge (f := g) (N := 2 ^ f.mobs) (s := 2 ^ f.mobs - 1) (by have := Nat.two_pow_pos f.mobs; omega)
  have hn : 0 ≤ needF g (othersOf g.mobs (2 ^ f.mobs - 1)) := by
    have : ∀ n, 0 ≤ sumTo (fun k => max 0 ((penF g k).lo - among (penF g k).fr (othersOf g.mobs (othersOf g.mobs (2 ^ f.mobs - 1))))) n := by
      intro n
      induction n with
      | zero => exact Int.le_refl _
      | succ n ih => simp only [sumTo]; omega
    exact this _
  have hall : among g.least (2 ^ f.mobs - 1) = sum4 g.least := by
    have := among_others hm4 F.zl (t := 0) (Nat.two_pow_pos _)
    have z : among g.least 0 = 0 := by rw [among_eq]; simp
    have e2 : othersOf f.mobs 0 = 2 ^ f.mobs - 1 := by unfold othersOf; omega
    rw [z, e2] at this; omega
  have hs4 : sumTo lo f.mobs ≤ sum4 g.least := by
    have h1 : ∀ q, q ≤ f.mobs → sumTo lo q ≤ sumTo g.least q := by
      intro q
      induction q with
      | zero => intro _; exact Int.le_refl _
      | succ q ih => intro hq; have := ih (by omega); have := (F.done q (by omega)).1; simp only [sumTo]; omega
    have h2 : sumTo g.least f.mobs = sum4 g.least := by
      rw [← sum_cut g.least hm4]
      congr 1
      funext i
      simp only [cutF]; split
      · rfl
      · exact (F.zl i (by omega)).symm
    have := h1 f.mobs (Nat.le_refl _)
    omega
  omega

theorem sum_hi {f : Fl} (hf : Tame f) (hzl : ∀ i, f.mobs ≤ i → f.least i = 0) (hzm : ∀ i, f.mobs ≤ i → f.most i = 0) (hp : possibleF f = true) {hi : Nat → Int} (hhi : ∀ j, j < f.mobs → ∀ n, f.least j ≤ n → n ≤ f.most j → possibleF (mobFl f j n) = true → n ≤ hi j) :
    allHi f (2 ^ f.mobs) ≤ sumTo hi f.mobs := by
  have hm4 := hf.good.mobs
  have key : ∀ q, q ≤ f.mobs → ∃ g, Fixed f g q (fun _ => 0) ∧ allHi f (2 ^ f.mobs) ≤ allHi g (2 ^ f.mobs) ∧ ∀ i, i < q → g.most i ≤ hi i := by
    intro q
    induction q with
    | zero => intro _; exact ⟨f, ⟨hf, hp, rfl, fun _ => rfl, fun _ => rfl, fun _ => Int.le_refl _, fun _ => Int.le_refl _, hzl, hzm, fun i hi => absurd hi (Nat.not_lt_zero _)⟩, Int.le_refl _, fun i hi => absurd hi (Nat.not_lt_zero _)⟩
    | succ q ih =>
      intro hq
      obtain ⟨g, F, hle, hd⟩ := ih (by omega)
      have hjq : q < g.mobs := by rw [F.mobs]; omega
      obtain ⟨a, a1, a2, a3, a4⟩ := mob_max F.tame F.pos hjq
      have a0 : 0 ≤ a := Int.le_trans (F.tame.pos q) a1
      have st := step_hi F.tame (fun i hi => F.zm i (by rw [← F.mobs]; exact hi)) F.pos hjq a0 a2 a3 a4
      rw [F.mobs] at st
      refine ⟨mobFl g q a, ⟨fix_tame F.tame a0, a3, F.mobs, F.room, F.need, fun i => ?_, fun i => ?_, fun i hi => ?_, fun i hi => ?_, fun i hi => ?_⟩, by omega, fun i hi' => ?_⟩
      · show f.least i ≤ putF g.least q a i
        simp only [putF]; split
        · rename_i h; subst h; have := F.least i; omega
        · exact F.least i
      · show putF g.most q a i ≤ f.most i
        simp only [putF]; split
        · rename_i h; subst h; have := F.most i; omega
        · exact F.most i
      · show putF g.least q a i = 0
        simp only [putF]; rw [if_neg (by omega)]; exact F.zl i hi
      · show putF g.most q a i = 0
        simp only [putF]; rw [if_neg (by omega)]; exact F.zm i hi
      · show 0 ≤ putF g.least q a i ∧ putF g.least q a i = putF g.most q a i
        simp only [putF]
        by_cases h : i = q
        · subst h; rw [if_pos rfl, if_pos rfl]; exact ⟨a0, rfl⟩
        · rw [if_neg h, if_neg h]; exact F.done i (by omega)
      · show putF g.most q a i ≤ hi i
        simp only [putF]
        by_cases h : i = q
        · subst h
          rw [if_pos rfl]
          refine hhi i (by omega) a (by have := F.least i; omega) (by have := F.most i; omega) ?_
          refine narrow (g := mobFl g i a) F.mobs F.room F.need (fun k => ?_) (fun k => ?_) a3
          · show putF f.least i a k ≤ putF g.least i a k
            simp only [putF]; split
            · exact Int.le_refl _
            · exact F.least k
          · show putF g.most i a k ≤ putF f.most i a k
            simp only [putF]; split
            · exact Int.le_refl _
            · exact F.most k
        · rw [if_neg h]; exact hd i (by omega)
  obtain ⟨g, F, hle, hd⟩ := key f.mobs (Nat.le_refl _)
  have hs := allHi_sum g (2 ^ f.mobs)
  have hs4 : sum4 g.most ≤ sumTo hi f.mobs := by
    have h1 : ∀ q, q ≤ f.mobs → sumTo g.most q ≤ sumTo hi q := by
      intro q
      induction q with
      | zero => intro _; exact Int.le_refl _
      | succ q ih => intro hq; have := ih (by omega); have := hd q (by omega); simp only [sumTo]; omega
    have h2 : sumTo g.most f.mobs = sum4 g.most := by
      rw [← sum_cut g.most hm4]
      congr 1
      funext i
      simp only [cutF]; split
      · rfl
      · exact (F.zm i (by omega)).symm
    have := h1 f.mobs (Nat.le_refl _)
    omega
  omega
end Go.Ag
/- Layer 2: All against the mobs; without findings; of one mob. -/
namespace Go.Ag
open Go.Proofs
set_option maxRecDepth 100000

theorem flock_tame {d : Dr} (h : validB d = true) : Tame (flockF d) ∧ (∀ i, (flockF d).mobs ≤ i → (flockF d).least i = 0) ∧ ∀ i, (flockF d).mobs ≤ i → (flockF d).most i = 0 := by
  obtain ⟨hg, hlm⟩ := flock_good h
  refine ⟨⟨hg, hlm, fun k => ?_, fun i => ?_⟩, fun i hi => ?_, fun i hi => ?_⟩
  · by_cases hk : k < d.pens.length
    · have := valid_pen h hk
      rw [penF_flock hk]
      show 0 ≤ (penAt d k).hi
      omega
    · rw [penF_out hk]; exact Int.le_refl 0
  · by_cases hi : i < d.mobs.length
    · have := valid_mob h hi
      simp [flockF, cutF, hi]; omega
    · simp [flockF, cutF, hi]
  · have : ¬ i < d.mobs.length := by have : d.mobs.length ≤ i := hi; omega
    simp [flockF, cutF, this]
  · have : ¬ i < d.mobs.length := by have : d.mobs.length ≤ i := hi; omega
    simp [flockF, cutF, this]

theorem all_is {d : Dr} (h : validB d = true) (hp : possibleF (flockF d) = true) : allR d = ((allLo (flockF d) (2 ^ d.mobs.length), allHi (flockF d) (2 ^ d.mobs.length)), 0) := by
  have hl : (flockF d).pens.length = d.pens.length := by simp [flockF]
  unfold allR allS
  rw [h, ← hl, taking_all, hp]
  simp
theorem all_sum {d : Dr} (h : validB d = true) (hp : possibleF (flockF d) = true) : ∃ L H, allR d = ((L, H), 0) ∧ sumTo (fun j => (mobR d j).1.1) d.mobs.length ≤ L ∧ H ≤ sumTo (fun j => (mobR d j).1.2) d.mobs.length ∧ L ≤ H := by
  obtain ⟨ht, hzl, hzm⟩ := flock_tame h
  refine ⟨_, _, all_is h hp, ?_, ?_, lo_le_hi ht hp hzm⟩
  · refine sum_lo ht hzl hzm hp fun j hj n h1 h2 h3 => ?_
    obtain ⟨a, b, xm, mab, ma0, mb54, mbs, mall⟩ := mob_can h hp (k := j) hj
    have e1 : (flockF d).least j = (mobAt d j).lo := by have : j < d.mobs.length := hj; simp [flockF, cutF, this]
    have e2 : (flockF d).most j = (mobAt d j).hi := by have : j < d.mobs.length := hj; simp [flockF, cutF, this]
    have := (mall n).2 ⟨h3, by omega, by omega⟩
    rw [xm]; exact this.1
  · refine sum_hi ht hzl hzm hp fun j hj n h1 h2 h3 => ?_
    obtain ⟨a, b, xm, mab, ma0, mb54, mbs, mall⟩ := mob_can h hp (k := j) hj
    have e1 : (flockF d).least j = (mobAt d j).lo := by have : j < d.mobs.length := hj; simp [flockF, cutF, this]
    have e2 : (flockF d).most j = (mobAt d j).hi := by have : j < d.mobs.length := hj; simp [flockF, cutF, this]
    have := (mall n).2 ⟨h3, by omega, by omega⟩
    rw [xm]; exact this.2

/-! Without findings. -/
theorem bare0_pen {d : Dr} {k : Nat} (hk : k < d.pens.length) : penF (flockF (bareD d 0)) k = ⟨cutF d.mobs.length (penAt d k).fr, 0, 36⟩ := by
  have hl : (bareD d 0).pens.length = d.pens.length := bare_len d 0 _
  have hm : (bareD d 0).mobs = d.mobs := bare_mobs d 0 _
  rw [penF_flock (by rw [hl]; exact hk), hm]
  have hb : penAt (bareD d 0) k = if k < d.pens.length ∧ (0 : Nat).testBit k = false then ⟨(penAt d k).fr, 0, 36⟩ else penAt d k := bare_at d 0 d.pens.length (Nat.le_refl _) k
  rw [hb, if_pos ⟨hk, Nat.zero_testBit k⟩]
  rfl
theorem bare0_need {d : Dr} (h : validB d = true) (t : Nat) : needF (flockF (bareD d 0)) t = 0 := by
  have hbl : (flockF (bareD d 0)).pens.length = d.pens.length := by rw [show (flockF (bareD d 0)).pens.length = (bareD d 0).pens.length by simp [flockF]]; exact bare_len d 0 _
  unfold needF
  rw [hbl]
  have : ∀ n, n ≤ d.pens.length → sumTo (fun k => max 0 ((penF (flockF (bareD d 0)) k).lo - among (penF (flockF (bareD d 0)) k).fr (othersOf (flockF (bareD d 0)).mobs t))) n = 0 := by
    intro n
    induction n with
    | zero => intro _; rfl
    | succ n ih =>
      intro hn
      have := ih (by omega)
      have p := pen36 h (k := n) (by omega) (othersOf (flockF (bareD d 0)).mobs t)
      simp only [sumTo]
      rw [this, bare0_pen (by omega)]
      show 0 + max 0 (0 - among (cutF d.mobs.length (penAt d n).fr) (othersOf (flockF (bareD d 0)).mobs t)) = 0
      omega
  exact this _ (Nat.le_refl _)
theorem bare0_room {d : Dr} (h : validB d = true) (t : Nat) : roomF (flockF (bareD d 0)) t = among (cutF d.mobs.length (sheepF d)) t := by
  have hbl : (flockF (bareD d 0)).pens.length = d.pens.length := by rw [show (flockF (bareD d 0)).pens.length = (bareD d 0).pens.length by simp [flockF]]; exact bare_len d 0 _
  have hm : (bareD d 0).mobs = d.mobs := bare_mobs d 0 _
  have el : (flockF (bareD d 0)).left = cutF d.mobs.length fun i => (mobAt d i).left := by
    show cutF (bareD d 0).mobs.length (fun i => (mobAt (bareD d 0) i).left) = _
    have : ∀ i, mobAt (bareD d 0) i = mobAt d i := fun i => by unfold mobAt; rw [hm]
    rw [hm]; simp only [this]
  unfold roomF
  rw [hbl, el]
  have e1 : sumTo (fun k => min (penF (flockF (bareD d 0)) k).hi (among (penF (flockF (bareD d 0)) k).fr t)) d.pens.length = sumTo (fun k => among (cutF d.mobs.length (penAt d k).fr) t) d.pens.length := by
    refine sumTo_congr _ fun k hk => ?_
    rw [bare0_pen hk]
    have p := pen36 h hk t
    show min 36 (among (cutF d.mobs.length (penAt d k).fr) t) = among (cutF d.mobs.length (penAt d k).fr) t
    omega
  rw [e1]
  have sums : ∀ n, sumTo (fun k => among (cutF d.mobs.length (penAt d k).fr) t) n = among (fun j => sumTo (fun k => cutF d.mobs.length (penAt d k).fr j) n) t := by
    intro n
    induction n with
    | zero => simp only [sumTo]; rw [among_eq]; simp
    | succ n ih =>
      simp only [sumTo]
      rw [ih, among_eq, among_eq, among_eq]
      cases t.testBit 0 <;> cases t.testBit 1 <;> cases t.testBit 2 <;> cases t.testBit 3 <;> simp <;> omega
  rw [sums]
  have cut : ∀ j, cutF d.mobs.length (sheepF d) j = cutF d.mobs.length (fun i => (mobAt d i).left) j + sumTo (fun k => cutF d.mobs.length (penAt d k).fr j) d.pens.length := by
    intro j
    simp only [cutF]
    split
    · rfl
    · have : ∀ n, sumTo (fun _ => (0 : Int)) n = 0 := by
        intro n
        induction n with
        | zero => rfl
        | succ n ih => simp only [sumTo]; omega
      rw [this]; rfl
  rw [among_eq, among_eq, among_eq, cut, cut, cut, cut]
  cases t.testBit 0 <;> cases t.testBit 1 <;> cases t.testBit 2 <;> cases t.testBit 3 <;> simp <;> omega

theorem bare_all {d : Dr} (h : validB d = true) : allR (bareD d 0) = ((sumTo (fun j => (mobAt d j).lo) d.mobs.length, sumTo (fun j => min (mobAt d j).hi (sheepF d j)) d.mobs.length), 0) := by
  obtain ⟨s1, s2, s3, s4, _⟩ := valid_sizes h
  have hvx : validB (bareD d 0) = true := valid_bare h 0 (Nat.le_refl _)
  have hpx : possibleF (flockF (bareD d 0)) = true := by rw [flock_bare h]; exact taking_none h
  have hm : (bareD d 0).mobs = d.mobs := bare_mobs d 0 _
  obtain ⟨tx, zl, zm⟩ := flock_tame hvx
  have hmm : (flockF (bareD d 0)).mobs = d.mobs.length := by show (bareD d 0).mobs.length = _; rw [hm]
  have eM : ∀ j, mobAt (bareD d 0) j = mobAt d j := fun j => by unfold mobAt; rw [hm]
  have e2 : (flockF (bareD d 0)).least = cutF d.mobs.length fun i => (mobAt d i).lo := by
    show cutF (bareD d 0).mobs.length (fun i => (mobAt (bareD d 0) i).lo) = _
    rw [hm]; simp only [eM]
  have e3 : (flockF (bareD d 0)).most = cutF d.mobs.length fun i => (mobAt d i).hi := by
    show cutF (bareD d 0).mobs.length (fun i => (mobAt (bareD d 0) i).hi) = _
    rw [hm]; simp only [eM]
  have full : ∀ g : Nat → Int, (∀ i, d.mobs.length ≤ i → g i = 0) → among g (2 ^ d.mobs.length - 1) = sum4 g := by
    intro g hz
    have := among_others s2 hz (t := 0) (Nat.two_pow_pos _)
    have z : among g 0 = 0 := by rw [among_eq]; simp
    have e2 : othersOf d.mobs.length 0 = 2 ^ d.mobs.length - 1 := by unfold othersOf; omega
    rw [z, e2] at this; omega
  have zc : ∀ g : Nat → Int, ∀ i, d.mobs.length ≤ i → cutF d.mobs.length g i = 0 := fun g i hi => by simp only [cutF]; rw [if_neg (by omega)]
  rw [all_is hvx hpx, hm]
  have hlo : allLo (flockF (bareD d 0)) (2 ^ d.mobs.length) = sumTo (fun j => (mobAt d j).lo) d.mobs.length := by
    rw [← sum_cut _ s2]
    refine Int.le_antisymm (allLo_le ?_ fun S hS => ?_) ?_
    · have := among_nonneg tx.pos (2 ^ d.mobs.length - 1)
      rw [e2, full _ (zc _)] at this; exact this
    · rw [bare0_need h, e2]
      have := among_le_sum (g := cutF d.mobs.length fun i => (mobAt d i).lo) (fun i => by have := tx.pos i; rw [e2] at this; exact this) S
      omega
    · have := allLo_ge (f := flockF (bareD d 0)) (N := 2 ^ d.mobs.length) (s := 2 ^ d.mobs.length - 1) (by have := Nat.two_pow_pos d.mobs.length; omega)
      rw [bare0_need h, e2, full _ (zc _)] at this
      omega
  have hhi : allHi (flockF (bareD d 0)) (2 ^ d.mobs.length) = sumTo (fun j => min (mobAt d j).hi (sheepF d j)) d.mobs.length := by
    rw [← sum_cut _ s2]
    have ec : ∀ i, cutF d.mobs.length (fun j => min (mobAt d j).hi (sheepF d j)) i = min (cutF d.mobs.length (fun i => (mobAt d i).hi) i) (cutF d.mobs.length (sheepF d) i) := by
      intro i; simp only [cutF]; split
      · rfl
      · rfl
    refine Int.le_antisymm ?_ (allHi_ge ?_ fun S hS => ?_)
    · -- the best cut
      have hB := bitsOf_lt (fun j => decide ((mobAt d j).hi ≤ sheepF d j)) d.mobs.length
      have tB := bitsOf_test (fun j => decide ((mobAt d j).hi ≤ sheepF d j)) d.mobs.length
      have := allHi_le (f := flockF (bareD d 0)) hB
      rw [bare0_room h, e3, hmm] at this
      refine Int.le_trans this ?_
      rw [among_eq, among_eq]
      have o := fun i hi => others_test d.mobs.length s2 _ hB i hi
      rw [o 0 (by omega), o 1 (by omega), o 2 (by omega), o 3 (by omega)]
      have e4 : sum4 (cutF d.mobs.length fun j => min (mobAt d j).hi (sheepF d j)) = cutF d.mobs.length (fun j => min (mobAt d j).hi (sheepF d j)) 0 + cutF d.mobs.length (fun j => min (mobAt d j).hi (sheepF d j)) 1 + cutF d.mobs.length (fun j => min (mobAt d j).hi (sheepF d j)) 2 + cutF d.mobs.length (fun j => min (mobAt d j).hi (sheepF d j)) 3 := by simp only [sum4, sumTo]; omega
      rw [e4, tB, tB, tB, tB]
      have one : ∀ i, (if (decide (i < d.mobs.length) && decide ((mobAt d i).hi ≤ sheepF d i)) = true then cutF d.mobs.length (fun i => (mobAt d i).hi) i else 0) + (if (decide (i < d.mobs.length) && !(decide (i < d.mobs.length) && decide ((mobAt d i).hi ≤ sheepF d i))) = true then cutF d.mobs.length (sheepF d) i else 0) ≤ cutF d.mobs.length (fun j => min (mobAt d j).hi (sheepF d j)) i := by
        intro i
        by_cases hi : i < d.mobs.length
        · by_cases hc : (mobAt d i).hi ≤ sheepF d i
          · simp [hi, hc, cutF]; omega
          · simp [hi, hc, cutF]; omega
        · simp [hi, cutF]
      have x0 := one 0; have x1 := one 1; have x2 := one 2; have x3 := one 3
      omega
    · rw [e3]
      simp only [sum4, sumTo, ec]
      omega
    · rw [bare0_room h, e3, hmm]
      have k1 := among_others s2 (zc fun j => min (mobAt d j).hi (sheepF d j)) hS
      have k2 := among_mono (g := cutF d.mobs.length fun j => min (mobAt d j).hi (sheepF d j)) (h := cutF d.mobs.length fun i => (mobAt d i).hi) (fun i => by rw [ec]; omega) S
      have k3 := among_mono (g := cutF d.mobs.length fun j => min (mobAt d j).hi (sheepF d j)) (h := cutF d.mobs.length (sheepF d)) (fun i => by rw [ec]; omega) (othersOf d.mobs.length S)
      omega
  rw [hlo, hhi]

/-! Of one mob. -/
theorem one_all {d : Dr} (h : validB d = true) (h1 : d.mobs.length = 1) : allR d = mobR d 0 := by
  cases hp : possibleF (flockF d)
  · obtain ⟨f1, f2, f3⟩ := all_fail h hp
    rw [f3]
    exact (f2 0 (by omega)).symm
  obtain ⟨t, zl, zm⟩ := flock_tame h
  have hm : (flockF d).mobs = 1 := h1
  obtain ⟨a, b, xm, mab, ma0, mb54, mbs, mall⟩ := mob_can h hp (k := 0) (by omega)
  have hpp := possible_iff.1 hp
  have p0 := hpp 0 (by rw [hm]; decide)
  have p1 := hpp 1 (by rw [hm]; decide)
  have z : ∀ g : Nat → Int, among g 0 = 0 := fun g => by rw [among_eq]; simp
  have o1 : ∀ g : Nat → Int, among g 1 = g 0 := fun g => among_one g (j := 0) (by omega)
  rw [z, z] at p0
  rw [o1, o1] at p1
  have e1 : (flockF d).least 0 = (mobAt d 0).lo := by simp [flockF, cutF, h1]
  have e2 : (flockF d).most 0 = (mobAt d 0).hi := by simp [flockF, cutF, h1]
  have base := most_base t zm
  rw [hm] at base
  have b1 : othersOf 1 (2 ^ 1 - 1) = 0 := by decide
  rw [b1, show (2 ^ 1 - 1 : Nat) = 1 by decide, o1] at base
  have nn : 0 ≤ needF (flockF d) 0 ∧ 0 ≤ needF (flockF d) 1 := by
    have : ∀ s n, 0 ≤ sumTo (fun k => max 0 ((penF (flockF d) k).lo - among (penF (flockF d) k).fr (othersOf (flockF d).mobs s))) n := by
      intro s n
      induction n with
      | zero => exact Int.le_refl _
      | succ n ih => simp only [sumTo]; omega
    exact ⟨this 0 _, this 1 _⟩
  have hposs : ∀ n, possibleF (mobFl (flockF d) 0 n) = true ↔ n ≤ roomF (flockF d) 1 ∧ needF (flockF d) 1 ≤ n := by
    intro n
    rw [possible_iff]
    have al : ∀ s, among (mobFl (flockF d) 0 n).least s = among (flockF d).least s + (if s.testBit 0 then n - (flockF d).least 0 else 0) := fun s => among_put (by omega) n s
    have am : ∀ s, among (mobFl (flockF d) 0 n).most s = among (flockF d).most s + (if s.testBit 0 then n - (flockF d).most 0 else 0) := fun s => among_put (by omega) n s
    constructor
    · intro hh
      have := hh 1 (by show 1 < 2 ^ (flockF d).mobs; rw [hm]; decide)
      rw [al, am, o1, o1] at this
      have e : (1 : Nat).testBit 0 = true := by decide
      rw [e] at this
      simp only [if_true] at this
      have r : roomF (mobFl (flockF d) 0 n) 1 = roomF (flockF d) 1 := rfl
      have q : needF (mobFl (flockF d) 0 n) 1 = needF (flockF d) 1 := rfl
      omega
    · intro hh s hs
      have hs : s < 2 ^ 1 := by have : s < 2 ^ (flockF d).mobs := hs; rw [hm] at this; exact this
      rw [al, am]
      have r : roomF (mobFl (flockF d) 0 n) s = roomF (flockF d) s := rfl
      have q : needF (mobFl (flockF d) 0 n) s = needF (flockF d) s := rfl
      rw [r, q]
      rcases (by omega : s = 0 ∨ s = 1) with rfl | rfl
      · rw [z, z]; simp; exact p0
      · rw [o1, o1]
        have e : (1 : Nat).testBit 0 = true := by decide
        rw [e]
        simp only [if_true]
        omega
  have hL : allLo (flockF d) (2 ^ d.mobs.length) = max (max 0 (0 + needF (flockF d) 1)) ((flockF d).least 0 + needF (flockF d) 0) := by
    rw [h1]
    show max (max 0 (among (flockF d).least 0 + needF (flockF d) (othersOf (flockF d).mobs 0))) (among (flockF d).least 1 + needF (flockF d) (othersOf (flockF d).mobs 1)) = _
    rw [hm, z, o1]; rfl
  have hH : allHi (flockF d) (2 ^ d.mobs.length) = min (min (sum4 (flockF d).most) (0 + roomF (flockF d) 1)) ((flockF d).most 0 + roomF (flockF d) 0) := by
    rw [h1]
    show min (min (sum4 (flockF d).most) (among (flockF d).most 0 + roomF (flockF d) (othersOf (flockF d).mobs 0))) (among (flockF d).most 1 + roomF (flockF d) (othersOf (flockF d).mobs 1)) = _
    rw [hm, z, o1]; rfl
  have v := valid_mob h (j := 0) (by omega)
  rw [all_is h hp, hL, hH]
  have xm' : mobR d 0 = ((a, b), 0) := xm
  rw [xm']
  have q1 := (mall a); have q2 := (mall b)
  have q3 := mall (max (mobAt d 0).lo (needF (flockF d) 1)); have q4 := mall (min (mobAt d 0).hi (roomF (flockF d) 1))
  rw [hposs] at q1 q2 q3 q4
  have s4 : sum4 (flockF d).most = (flockF d).most 0 := by
    have z1 := zm 1 (by omega); have z2 := zm 2 (by omega); have z3 := zm 3 (by omega)
    simp only [sum4, sumTo]; omega
  have ra : a = max (max 0 (0 + needF (flockF d) 1)) ((flockF d).least 0 + needF (flockF d) 0) := by omega
  have rb : b = min (min (sum4 (flockF d).most) (0 + roomF (flockF d) 1)) ((flockF d).most 0 + roomF (flockF d) 0) := by omega
  rw [← ra, ← rb]
end Go.Ag
