/- Sets in the order of their sizes; droves without the findings of some pens. No conditions. -/
import Derived.Test.YthoappjepbaocaaDrH
/- Layer 2: how many are in a set, by the reference; sets in order; droves without findings. -/
namespace Go.Ag
open Go.Proofs
set_option maxRecDepth 100000

def sizeE (n c : Nat) : Known := ⟨40, [.lit (.int .i64 n)], I c⟩
theorem size0 : (sizeE 0 (pop 0)).ok Try.prog := tells_ok (C := cfg0) mix0 con0 (n := 2000) (by kernel_rfl)
theorem size1 : (sizeE 1 (pop 1)).ok Try.prog := tells_ok (C := cfg0) mix0 con0 (n := 2000) (by kernel_rfl)
theorem size2 : (sizeE 2 (pop 2)).ok Try.prog := tells_ok (C := cfg0) mix0 con0 (n := 2000) (by kernel_rfl)
theorem size3 : (sizeE 3 (pop 3)).ok Try.prog := tells_ok (C := cfg0) mix0 con0 (n := 2000) (by kernel_rfl)
theorem size4 : (sizeE 4 (pop 4)).ok Try.prog := tells_ok (C := cfg0) mix0 con0 (n := 2000) (by kernel_rfl)
theorem size5 : (sizeE 5 (pop 5)).ok Try.prog := tells_ok (C := cfg0) mix0 con0 (n := 2000) (by kernel_rfl)
theorem size6 : (sizeE 6 (pop 6)).ok Try.prog := tells_ok (C := cfg0) mix0 con0 (n := 2000) (by kernel_rfl)
theorem size7 : (sizeE 7 (pop 7)).ok Try.prog := tells_ok (C := cfg0) mix0 con0 (n := 2000) (by kernel_rfl)
theorem size8 : (sizeE 8 (pop 8)).ok Try.prog := tells_ok (C := cfg0) mix0 con0 (n := 2000) (by kernel_rfl)
theorem size9 : (sizeE 9 (pop 9)).ok Try.prog := tells_ok (C := cfg0) mix0 con0 (n := 2000) (by kernel_rfl)
theorem size10 : (sizeE 10 (pop 10)).ok Try.prog := tells_ok (C := cfg0) mix0 con0 (n := 2000) (by kernel_rfl)
theorem size11 : (sizeE 11 (pop 11)).ok Try.prog := tells_ok (C := cfg0) mix0 con0 (n := 2000) (by kernel_rfl)
theorem size12 : (sizeE 12 (pop 12)).ok Try.prog := tells_ok (C := cfg0) mix0 con0 (n := 2000) (by kernel_rfl)
theorem size13 : (sizeE 13 (pop 13)).ok Try.prog := tells_ok (C := cfg0) mix0 con0 (n := 2000) (by kernel_rfl)
theorem size14 : (sizeE 14 (pop 14)).ok Try.prog := tells_ok (C := cfg0) mix0 con0 (n := 2000) (by kernel_rfl)
theorem size15 : (sizeE 15 (pop 15)).ok Try.prog := tells_ok (C := cfg0) mix0 con0 (n := 2000) (by kernel_rfl)
theorem size16 : (sizeE 16 (pop 16)).ok Try.prog := tells_ok (C := cfg0) mix0 con0 (n := 2000) (by kernel_rfl)
theorem size17 : (sizeE 17 (pop 17)).ok Try.prog := tells_ok (C := cfg0) mix0 con0 (n := 2000) (by kernel_rfl)
theorem size18 : (sizeE 18 (pop 18)).ok Try.prog := tells_ok (C := cfg0) mix0 con0 (n := 2000) (by kernel_rfl)
theorem size19 : (sizeE 19 (pop 19)).ok Try.prog := tells_ok (C := cfg0) mix0 con0 (n := 2000) (by kernel_rfl)
theorem size20 : (sizeE 20 (pop 20)).ok Try.prog := tells_ok (C := cfg0) mix0 con0 (n := 2000) (by kernel_rfl)
theorem size21 : (sizeE 21 (pop 21)).ok Try.prog := tells_ok (C := cfg0) mix0 con0 (n := 2000) (by kernel_rfl)
theorem size22 : (sizeE 22 (pop 22)).ok Try.prog := tells_ok (C := cfg0) mix0 con0 (n := 2000) (by kernel_rfl)
theorem size23 : (sizeE 23 (pop 23)).ok Try.prog := tells_ok (C := cfg0) mix0 con0 (n := 2000) (by kernel_rfl)
theorem size24 : (sizeE 24 (pop 24)).ok Try.prog := tells_ok (C := cfg0) mix0 con0 (n := 2000) (by kernel_rfl)
theorem size25 : (sizeE 25 (pop 25)).ok Try.prog := tells_ok (C := cfg0) mix0 con0 (n := 2000) (by kernel_rfl)
theorem size26 : (sizeE 26 (pop 26)).ok Try.prog := tells_ok (C := cfg0) mix0 con0 (n := 2000) (by kernel_rfl)
theorem size27 : (sizeE 27 (pop 27)).ok Try.prog := tells_ok (C := cfg0) mix0 con0 (n := 2000) (by kernel_rfl)
theorem size28 : (sizeE 28 (pop 28)).ok Try.prog := tells_ok (C := cfg0) mix0 con0 (n := 2000) (by kernel_rfl)
theorem size29 : (sizeE 29 (pop 29)).ok Try.prog := tells_ok (C := cfg0) mix0 con0 (n := 2000) (by kernel_rfl)
theorem size30 : (sizeE 30 (pop 30)).ok Try.prog := tells_ok (C := cfg0) mix0 con0 (n := 2000) (by kernel_rfl)
theorem size31 : (sizeE 31 (pop 31)).ok Try.prog := tells_ok (C := cfg0) mix0 con0 (n := 2000) (by kernel_rfl)
theorem size_ret {n : Nat} (h : n < 32) : Ret Try.prog 40 [I n] (I (pop n)) := by
  obtain rfl | rfl | rfl | rfl | rfl | rfl | rfl | rfl | rfl | rfl | rfl | rfl | rfl | rfl | rfl | rfl | rfl | rfl | rfl | rfl | rfl | rfl | rfl | rfl | rfl | rfl | rfl | rfl | rfl | rfl | rfl | rfl : n = 0 ∨ n = 1 ∨ n = 2 ∨ n = 3 ∨ n = 4 ∨ n = 5 ∨ n = 6 ∨ n = 7 ∨ n = 8 ∨ n = 9 ∨ n = 10 ∨ n = 11 ∨ n = 12 ∨ n = 13 ∨ n = 14 ∨ n = 15 ∨ n = 16 ∨ n = 17 ∨ n = 18 ∨ n = 19 ∨ n = 20 ∨ n = 21 ∨ n = 22 ∨ n = 23 ∨ n = 24 ∨ n = 25 ∨ n = 26 ∨ n = 27 ∨ n = 28 ∨ n = 29 ∨ n = 30 ∨ n = 31 := by omega
  · exact size0
  · exact size1
  · exact size2
  · exact size3
  · exact size4
  · exact size5
  · exact size6
  · exact size7
  · exact size8
  · exact size9
  · exact size10
  · exact size11
  · exact size12
  · exact size13
  · exact size14
  · exact size15
  · exact size16
  · exact size17
  · exact size18
  · exact size19
  · exact size20
  · exact size21
  · exact size22
  · exact size23
  · exact size24
  · exact size25
  · exact size26
  · exact size27
  · exact size28
  · exact size29
  · exact size30
  · exact size31

/-! The first set is the smallest, and of one size the least. -/
def Less (a b : Nat) : Prop := pop a < pop b ∨ (pop a = pop b ∧ a < b)
instance (a b : Nat) : Decidable (Less a b) := by unfold Less; infer_instance
theorem sorted : ∀ m, m ≤ 5 → (bySize m).Pairwise Less := by decide +kernel
theorem pop_small : ∀ m, m ≤ 5 → ∀ s, s < 2 ^ m → pop s ≤ m := by decide +kernel
theorem first_least {m s : Nat} {q : Nat → Bool} (hm : m ≤ 5) (h : (bySize m).find? q = some s) : q s = true ∧ s < 2 ^ m ∧ ∀ t, t < 2 ^ m → q t = true → t = s ∨ Less s t := by
  have hs := List.find?_some h
  have hmem := List.mem_of_find?_eq_some h
  refine ⟨hs, (mem_bySize.1 hmem).1, fun t ht hq => ?_⟩
  obtain ⟨_, l1, l2, e, has⟩ := List.find?_eq_some_iff_append.1 h
  have hp := sorted m hm
  rw [e, List.pairwise_append] at hp
  have htm : t ∈ bySize m := mem_bySize.2 ⟨ht, pop_small m hm t ht⟩
  rw [e] at htm
  rcases List.mem_append.1 htm with h1 | h1
  · have := has t h1
    rw [hq] at this
    simp at this
  · rcases List.mem_cons.1 h1 with h2 | h2
    · exact .inl h2
    · rw [List.pairwise_cons] at hp
      exact .inr (hp.2.1.1 t h2)
theorem pop_drop : ∀ s, s < 32 → ∀ p, p < 5 → s.testBit p = true → pop (s - 2 ^ p) < pop s ∧ s - 2 ^ p < 32 := by decide +kernel

/-! Droves without the findings of some pens. -/
def bareTo (d : Dr) (s : Nat) : Nat → Dr
  | 0 => d
  | q + 1 => if s.testBit q then bareTo d s q else setP (bareTo d s q) q ⟨(penAt (bareTo d s q) q).fr, 0, 36⟩
theorem bare_mobs (d : Dr) (s : Nat) : ∀ q, (bareTo d s q).mobs = d.mobs
  | 0 => rfl
  | q + 1 => by simp only [bareTo]; split <;> simp [setP, bare_mobs d s q]
theorem bare_lim (d : Dr) (s : Nat) : ∀ q, (bareTo d s q).limit = d.limit
  | 0 => rfl
  | q + 1 => by simp only [bareTo]; split <;> simp [setP, bare_lim d s q]
theorem bare_len (d : Dr) (s : Nat) : ∀ q, (bareTo d s q).pens.length = d.pens.length
  | 0 => rfl
  | q + 1 => by simp only [bareTo]; split <;> simp [setP, bare_len d s q]
theorem bare_at (d : Dr) (s : Nat) : ∀ q, q ≤ d.pens.length → ∀ i, penAt (bareTo d s q) i = if i < q ∧ s.testBit i = false then ⟨(penAt d i).fr, 0, 36⟩ else penAt d i
  | 0, _, i => by simp [bareTo]
  | q + 1, hq, i => by
    have ih := bare_at d s q (by omega)
    simp only [bareTo]
    cases hb : s.testBit q
    · simp only [Bool.false_eq_true, if_false]
      rw [setP_at (by rw [bare_len]; omega)]
      by_cases h : i = q
      · subst h
        rw [if_pos rfl, if_pos ⟨by omega, hb⟩, ih, if_neg (by omega)]
      · rw [if_neg h, ih]
        by_cases h2 : i < q ∧ s.testBit i = false
        · rw [if_pos h2, if_pos ⟨by omega, h2.2⟩]
        · rw [if_neg h2, if_neg (fun x => h2 ⟨by omega, x.2⟩)]
    · simp only [if_true]
      rw [ih]
      by_cases h2 : i < q ∧ s.testBit i = false
      · rw [if_pos h2, if_pos ⟨by omega, h2.2⟩]
      · rw [if_neg h2, if_neg (fun x => by
          rcases Nat.lt_or_ge i q with h3 | h3
          · exact h2 ⟨h3, x.2⟩
          · have : i = q := by omega
            subst this
            rw [hb] at x; cases x.2)]
def bareD (d : Dr) (s : Nat) : Dr := bareTo d s d.pens.length

theorem sheep_fr {d d' : Dr} (hm : d'.mobs = d.mobs) (hl : d'.pens.length = d.pens.length) (hf : ∀ i, (penAt d' i).fr = (penAt d i).fr) (j : Nat) : sheepF d' j = sheepF d j := by
  unfold sheepF mobAt
  rw [hm, hl]
  congr 1
  refine sumTo_congr _ fun i _ => ?_
  rw [hf]
theorem bare_fr (d : Dr) (s : Nat) {q : Nat} (hq : q ≤ d.pens.length) (i : Nat) : (penAt (bareTo d s q) i).fr = (penAt d i).fr := by
  rw [bare_at d s q hq]; split <;> rfl
theorem valid_bare {d : Dr} (h : validB d = true) (s : Nat) {q : Nat} (hq : q ≤ d.pens.length) : validB (bareTo d s q) = true := by
  obtain ⟨k1, k2, k3⟩ := (valid_iff d).1 h
  have hm := bare_mobs d s q
  have hl := bare_len d s q
  refine (valid_iff _).2 ⟨by rw [hm, hl, bare_lim]; exact k1, fun i hi => ?_, fun j hj => ?_⟩
  · rw [hl] at hi
    rw [hm, bare_at d s q hq]
    have := k2 i hi
    split
    · exact ⟨Int.le_refl _, by show (0 : Int) ≤ 36; omega, Int.le_refl _, this.2.2.2⟩
    · exact this
  · rw [hm] at hj
    rw [sheep_fr hm hl (bare_fr d s hq)]
    have := k3 j hj
    unfold mobAt at this ⊢
    rw [hm]
    exact this

/-- Without findings it is as with those that say nothing. -/
theorem pen36 {d : Dr} (h : validB d = true) {k : Nat} (hk : k < d.pens.length) (s : Nat) : among (cutF d.mobs.length (penAt d k).fr) s ≤ 36 ∧ 0 ≤ among (cutF d.mobs.length (penAt d k).fr) s := by
  obtain ⟨s1, s2, _⟩ := valid_sizes h
  have v := (valid_pen h hk).2.2.2
  have hc : ∀ i, 0 ≤ cutF d.mobs.length (penAt d k).fr i ∧ cutF d.mobs.length (penAt d k).fr i ≤ 9 := by
    intro i
    unfold cutF
    split
    · rename_i hi; exact v i hi
    · omega
  have h0 := hc 0; have h1 := hc 1; have h2 := hc 2; have h3 := hc 3
  rw [among_eq]
  cases s.testBit 0 <;> cases s.testBit 1 <;> cases s.testBit 2 <;> cases s.testBit 3 <;> simp <;> omega
theorem flock_bare {d : Dr} (h : validB d = true) (s : Nat) : possibleF (flockF (bareD d s)) = possibleF (takingF (flockF d) s) := by
  have hl : (bareD d s).pens.length = d.pens.length := bare_len d s _
  have hm : (bareD d s).mobs = d.mobs := bare_mobs d s _
  have hfl : (flockF d).pens.length = d.pens.length := by simp [flockF]
  have htl : (takingF (flockF d) s).pens.length = d.pens.length := by rw [show (takingF (flockF d) s).pens.length = (flockF d).pens.length from tk_len ..]; exact hfl
  have hbl : (flockF (bareD d s)).pens.length = d.pens.length := by rw [show (flockF (bareD d s)).pens.length = (bareD d s).pens.length by simp [flockF]]; exact hl
  have e1 : (flockF (bareD d s)).mobs = (takingF (flockF d) s).mobs := by show (bareD d s).mobs.length = d.mobs.length; rw [hm]
  have eM : ∀ j, mobAt (bareD d s) j = mobAt d j := fun j => by unfold mobAt; rw [hm]
  have e2 : (flockF (bareD d s)).least = (takingF (flockF d) s).least := by
    show cutF (bareD d s).mobs.length (fun i => (mobAt (bareD d s) i).lo) = cutF d.mobs.length fun i => (mobAt d i).lo
    rw [hm]; simp only [eM]
  have e3 : (flockF (bareD d s)).most = (takingF (flockF d) s).most := by
    show cutF (bareD d s).mobs.length (fun i => (mobAt (bareD d s) i).hi) = cutF d.mobs.length fun i => (mobAt d i).hi
    rw [hm]; simp only [eM]
  have e4 : (flockF (bareD d s)).left = (takingF (flockF d) s).left := by
    show cutF (bareD d s).mobs.length (fun i => (mobAt (bareD d s) i).left) = cutF d.mobs.length fun i => (mobAt d i).left
    rw [hm]; simp only [eM]
  -- pen by pen
  have pens : ∀ k, k < d.pens.length → (penF (flockF (bareD d s)) k = penF (takingF (flockF d) s) k) ∨ (penF (flockF (bareD d s)) k = ⟨cutF d.mobs.length (penAt d k).fr, 0, 36⟩ ∧ penF (takingF (flockF d) s) k = ⟨cutF d.mobs.length (penAt d k).fr, 0, sum4 (cutF d.mobs.length (penAt d k).fr)⟩) := by
    intro k hk
    have hb := bare_at d s d.pens.length (Nat.le_refl _) k
    have ef : penF (flockF (bareD d s)) k = cutPen d.mobs.length (penAt (bareD d s) k) := by
      rw [penF_flock (by rw [hl]; exact hk), hm]
    have et : penF (takingF (flockF d) s) k = tkP s d.pens.length k (penF (flockF d) k) := by
      unfold penF takingF
      simp only [List.getD_eq_getElem?_getD, tk_get, Nat.zero_add, hfl]
      have : (flockF d).pens[k]? = some (penF (flockF d) k) := penF_get (by omega)
      rw [this]
      rfl
    rw [ef, et, penF_flock hk]
    have hb' : penAt (bareD d s) k = if k < d.pens.length ∧ s.testBit k = false then ⟨(penAt d k).fr, 0, 36⟩ else penAt d k := hb
    rw [hb']
    unfold tkP
    by_cases hc : k < d.pens.length ∧ s.testBit k = false
    · rw [if_pos hc, if_pos hc]
      exact .inr ⟨rfl, rfl⟩
    · rw [if_neg hc, if_neg hc]
      exact .inl rfl
  have eR : ∀ t, roomF (flockF (bareD d s)) t = roomF (takingF (flockF d) s) t := by
    intro t
    unfold roomF
    rw [e4, hbl, htl]
    congr 1
    refine sumTo_congr _ fun k hk => ?_
    rcases pens k hk with h1 | ⟨h1, h2⟩
    · rw [h1]
    · rw [h1, h2]
      have p1 := pen36 h hk t
      have p2 := among_le_sum (g := cutF d.mobs.length (penAt d k).fr) (fun i => by
        unfold cutF; split
        · rename_i hi; exact ((valid_pen h hk).2.2.2 i hi).1
        · omega) t
      show min 36 (among (cutF d.mobs.length (penAt d k).fr) t) = min (sum4 (cutF d.mobs.length (penAt d k).fr)) (among (cutF d.mobs.length (penAt d k).fr) t)
      omega
  have eN : ∀ t, needF (flockF (bareD d s)) t = needF (takingF (flockF d) s) t := by
    intro t
    unfold needF
    rw [hbl, htl, e1]
    refine sumTo_congr _ fun k hk => ?_
    rcases pens k hk with h1 | ⟨h1, h2⟩
    · rw [h1]
    · rw [h1, h2]
  rw [Bool.eq_iff_iff, possible_iff, possible_iff, e1, e2, e3]
  simp only [eR, eN]

/-- With no findings at all there is a truth. -/
theorem taking_none {d : Dr} (h : validB d = true) : possibleF (takingF (flockF d) 0) = true := by
  obtain ⟨hg, hlm⟩ := flock_good h
  obtain ⟨s1, s2, s3, s4, _⟩ := valid_sizes h
  have hfl : (flockF d).pens.length = d.pens.length := by simp [flockF]
  have htl : (takingF (flockF d) 0).pens.length = d.pens.length := by rw [show (takingF (flockF d) 0).pens.length = (flockF d).pens.length from tk_len ..]; exact hfl
  have et : ∀ k, k < d.pens.length → penF (takingF (flockF d) 0) k = ⟨(penF (flockF d) k).fr, 0, sum4 (penF (flockF d) k).fr⟩ := by
    intro k hk
    unfold penF takingF
    simp only [List.getD_eq_getElem?_getD, tk_get, Nat.zero_add, hfl]
    have : (flockF d).pens[k]? = some (penF (flockF d) k) := penF_get (by omega)
    rw [this]
    simp only [Option.map_some, Option.getD_some, tkP]
    rw [if_pos ⟨by omega, by simp⟩]
  rw [possible_iff]
  intro t ht
  constructor
  · -- each mob has so many sheep
    have eR : roomF (takingF (flockF d) 0) t = among (flockF d).left t + sumTo (fun k => among (penF (flockF d) k).fr t) d.pens.length := by
      unfold roomF
      rw [htl]
      congr 1
      refine sumTo_congr _ fun k hk => ?_
      rw [et k hk]
      have := among_le_sum (hg.fr k) t
      show min (sum4 (penF (flockF d) k).fr) (among (penF (flockF d) k).fr t) = among (penF (flockF d) k).fr t
      omega
    rw [eR]
    have one : ∀ j, j < 4 → (flockF d).least j ≤ (flockF d).left j + sumTo (fun k => (penF (flockF d) k).fr j) d.pens.length := by
      intro j hj
      by_cases hjm : j < d.mobs.length
      · have v := valid_mob h hjm
        have e1 : (flockF d).least j = (mobAt d j).lo := by simp [flockF, cutF, hjm]
        have e2 : (flockF d).left j = (mobAt d j).left := by simp [flockF, cutF, hjm]
        have e3 : sumTo (fun k => (penF (flockF d) k).fr j) d.pens.length = sumTo (fun k => (penAt d k).fr j) d.pens.length := sumTo_congr _ fun k hk => by
          rw [penF_flock hk]; simp [cutPen, cutF, hjm]
        rw [e1, e2, e3]
        have := v.2.2.2.2.2
        unfold sheepF at this
        exact this
      · have e1 : (flockF d).least j = 0 := by simp [flockF, cutF, hjm]
        have e2 : (flockF d).left j = 0 := by simp [flockF, cutF, hjm]
        have : ∀ n, 0 ≤ sumTo (fun k => (penF (flockF d) k).fr j) n := by
          intro n
          induction n with
          | zero => exact Int.le_refl _
          | succ n ih => have := hg.fr n j; simp only [sumTo]; omega
        rw [e1, e2]
        have := this d.pens.length
        omega
    have sums : ∀ n, sumTo (fun k => among (penF (flockF d) k).fr t) n = among (fun j => sumTo (fun k => (penF (flockF d) k).fr j) n) t := by
      intro n
      induction n with
      | zero => simp only [sumTo]; rw [among_eq]; simp
      | succ n ih =>
        simp only [sumTo]
        rw [ih, among_eq, among_eq, among_eq]
        cases t.testBit 0 <;> cases t.testBit 1 <;> cases t.testBit 2 <;> cases t.testBit 3 <;> simp <;> omega
    rw [sums]
    have o0 := one 0 (by omega); have o1 := one 1 (by omega); have o2 := one 2 (by omega); have o3 := one 3 (by omega)
    show among (flockF d).least t ≤ _
    rw [among_eq, among_eq, among_eq]
    cases t.testBit 0 <;> cases t.testBit 1 <;> cases t.testBit 2 <;> cases t.testBit 3 <;> simp <;> omega
  · have eN : needF (takingF (flockF d) 0) t = 0 := by
      unfold needF
      rw [htl]
      have : ∀ n, n ≤ d.pens.length → sumTo (fun k => max 0 ((penF (takingF (flockF d) 0) k).lo - among (penF (takingF (flockF d) 0) k).fr (othersOf (takingF (flockF d) 0).mobs t))) n = 0 := by
        intro n
        induction n with
        | zero => intro _; rfl
        | succ n ih =>
          intro hn
          have := ih (by omega)
          simp only [sumTo]
          rw [this, et n (by omega)]
          have := among_nonneg (hg.fr n) (othersOf (takingF (flockF d) 0).mobs t)
          show 0 + max 0 (0 - among (penF (flockF d) n).fr (othersOf (takingF (flockF d) 0).mobs t)) = 0
          omega
      exact this d.pens.length (Nat.le_refl _)
    rw [eN]
    refine among_nonneg (fun i => ?_) t
    have hl0 : 0 ≤ (flockF d).least i := by
      by_cases hi : i < d.mobs.length
      · have := valid_mob h hi
        simp [flockF, cutF, hi]; omega
      · simp [flockF, cutF, hi]
    exact Int.le_trans hl0 (hlm i)
end Go.Ag
