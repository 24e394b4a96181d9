/- The plan of layer 8 is the first of the best pressings, as numbers. No conditions. -/
import Derived.Test.YtbkbbkkmahenlaaGreatDoorPrA
import Derived.Test.YtbkbbkkmahenlaaGreatDoorPrE
/- Layer 8: the plan is the first of the best pressings (no program here). -/
namespace Go.Ag
set_option maxRecDepth 100000

theorem most_more {fit : Nat → Bool} (h0 : fit 0 = false) {s k y : Nat} {l : List Nat} (hs : s < 1024) (h : okL fit s k (y :: l)) (hv : valL (y :: l) = mostF fit s k) : pickB fit s k y = true ∧ valL l = mostF fit (diffN s y) (k - 1) := by
  obtain ⟨a1, a2, a3, a4⟩ := h
  have hyne : y ≠ 0 := fun e => by rw [e, h0] at a3; cases a3
  have hd := diff_lt a2 hyne
  have g1 := (most_ge fit h0 (diffN s y) (Nat.le_refl _) (by omega) a4).1
  obtain ⟨m, m1, m2⟩ := most_ex fit (diffN s y) (k := k - 1) (Nat.le_refl _) (by omega)
  have g2 := (most_ge fit h0 s (l := y :: m) (Nat.le_refl _) hs ⟨a1, a2, a3, m1⟩).1
  have g3 : (mostF fit s k).ge ((mostF fit (diffN s y) (k - 1)).more y) := by rw [← m2]; exact g2
  have g4 : ((mostF fit (diffN s y) (k - 1)).more y).ge (mostF fit s k) := by rw [← hv]; exact g1.more y
  have e := g4.anti g3
  refine ⟨by unfold pickB; rw [a3, Bool.true_and, decide_eq_true_eq]; exact e, ?_⟩
  rw [← hv] at e
  have e : (mostF fit (diffN s y) (k - 1)).more y = (valL l).more y := e
  unfold Pd.more at e
  simp only [Pd.mk.injEq] at e
  generalize mostF fit (diffN s y) (k - 1) = p at *
  generalize valL l = q at *
  cases p; cases q
  simp only [Pd.mk.injEq]
  dsimp only at e
  omega
theorem find_least {p : Nat → Bool} : ∀ {l : List Nat} {x y : Nat}, l.Pairwise (· < ·) → l.find? p = some x → y ∈ l → p y = true → x ≤ y
  | a :: l, x, y, hs, hf, hy, hp => by
    rw [List.pairwise_cons] at hs
    rw [List.find?_cons] at hf
    rcases List.mem_cons.1 hy with rfl | hy
    · rw [hp] at hf
      simp only [Option.some.injEq] at hf
      omega
    · cases ha : p a
      · rw [ha] at hf
        exact find_least hs.2 hf hy hp
      · rw [ha] at hf
        simp only [Option.some.injEq] at hf
        have := hs.1 y hy
        omega
  | [], _, _, _, _, h, _ => by cases h
theorem planR_cons {fit : Nat → Bool} (h0 : fit 0 = false) {k s : Nat} (hs : s < 1024) (hm : mostF fit s (k + 1) ≠ ⟨0, 0⟩) : ∃ x, (subL s).find? (pickB fit s (k + 1)) = some x ∧ planR fit (k + 1) s = x :: planR fit k (diffN s x) ∧ Sub x s ∧ pickB fit s (k + 1) x = true := by
  obtain ⟨z, hz, hp⟩ := most_pick fit h0 hs hm
  cases hf : (subL s).find? (pickB fit s (k + 1)) with
  | none => exact absurd hp (by simpa using List.find?_eq_none.1 hf z hz)
  | some x =>
    refine ⟨x, rfl, by rw [planR, if_neg hm, hf], (mem_sub hs).1 (List.mem_of_find?_eq_some hf), by have := List.find?_some hf; exact this⟩
theorem pick_fit {fit : Nat → Bool} {s k x : Nat} (h : pickB fit s k x = true) : fit x = true ∧ (mostF fit (diffN s x) (k - 1)).more x = mostF fit s k := by
  unfold pickB at h
  rw [Bool.and_eq_true, decide_eq_true_eq] at h
  exact h
theorem planR_ok {fit : Nat → Bool} (h0 : fit 0 = false) : ∀ (k s : Nat), s < 1024 → okL fit s k (planR fit k s) ∧ valL (planR fit k s) = mostF fit s k
  | 0, s, _ => ⟨trivial, (most_zero fit (.inr rfl)).symm⟩
  | k + 1, s, hs => by
    by_cases hm : mostF fit s (k + 1) = ⟨0, 0⟩
    · rw [planR, if_pos hm, hm]
      exact ⟨trivial, rfl⟩
    · obtain ⟨x, _, h2, h3, h4⟩ := planR_cons h0 hs hm
      obtain ⟨f1, f2⟩ := pick_fit h4
      have hxne : x ≠ 0 := fun e => by rw [e, h0] at f1; cases f1
      have hd := diff_lt h3 hxne
      obtain ⟨i1, i2⟩ := planR_ok h0 k (diffN s x) (by omega)
      rw [h2]
      refine ⟨⟨by omega, h3, f1, by rw [Nat.add_sub_cancel]; exact i1⟩, ?_⟩
      show (valL _).more x = _
      rw [i2, ← f2, Nat.add_sub_cancel]
/-- No best one comes before it. -/
theorem plan_least {fit : Nat → Bool} (h0 : fit 0 = false) : ∀ (k s : Nat) (l : List Nat), s < 1024 → okL fit s k l → valL l = mostF fit s k → ∀ (i x y : Nat), (∀ j, j < i → (planR fit k s)[j]? = l[j]?) → (planR fit k s)[i]? = some x → l[i]? = some y → x ≤ y
  | 0, s, l, _, _, _, i, x, y, _, hx, _ => by simp [planR] at hx
  | k + 1, s, [], _, _, _, i, x, y, _, _, hy => by simp at hy
  | k + 1, s, y0 :: l, hs, hl, hv, i, x, y, he, hx, hy => by
    have hm : mostF fit s (k + 1) ≠ ⟨0, 0⟩ := fun e => by
      rw [e] at hv
      have hv : (valL l).more y0 = ⟨0, 0⟩ := hv
      unfold Pd.more at hv
      simp only [Pd.mk.injEq] at hv
      omega
    obtain ⟨x0, h1, h2, h3, h4⟩ := planR_cons h0 hs hm
    obtain ⟨p1, p2⟩ := most_more h0 hs hl hv
    have hle : x0 ≤ y0 := find_least (sb_sorted s 10) h1 ((mem_sub hs).2 hl.2.1) p1
    rw [h2] at he hx
    cases i with
    | zero =>
      simp only [List.getElem?_cons_zero, Option.some.injEq] at hx hy
      omega
    | succ i =>
      have e0 := he 0 (by omega)
      simp only [List.getElem?_cons_zero, Option.some.injEq] at e0
      subst e0
      simp only [List.getElem?_cons_succ] at hx hy
      have hxne : x0 ≠ 0 := fun e => by have := (pick_fit h4).1; rw [e, h0] at this; cases this
      have hd := diff_lt h3 hxne
      rw [Nat.add_sub_cancel] at p2
      have hl4 := hl.2.2.2
      rw [Nat.add_sub_cancel] at hl4
      refine plan_least h0 k (diffN s x0) l (by omega) hl4 p2 i x y (fun j hj => ?_) hx hy
      have := he (j + 1) (by omega)
      simpa only [List.getElem?_cons_succ] using this
theorem sub_both {x s : Nat} (h : Sub x (diffN s x)) : x = 0 := bits_zero fun i => by
  cases hx : x.testBit i
  · rfl
  · have := h i hx
    rw [diffN_bit, hx] at this
    simp at this
theorem plan_adj {fit : Nat → Bool} (h0 : fit 0 = false) : ∀ (k s : Nat), s < 1024 → ∀ (i x y : Nat), (planR fit k s)[i]? = some x → (planR fit k s)[i + 1]? = some y → x < y
  | 0, s, _, i, x, y, hx, _ => by simp [planR] at hx
  | k + 1, s, hs, i, x, y, hx, hy => by
    by_cases hm : mostF fit s (k + 1) = ⟨0, 0⟩
    · rw [planR, if_pos hm] at hx; simp at hx
    · obtain ⟨ok, va⟩ := planR_ok h0 (k + 1) s hs
      obtain ⟨x0, h1, h2, h3, h4⟩ := planR_cons h0 hs hm
      have hxne : x0 ≠ 0 := fun e => by have := (pick_fit h4).1; rw [e, h0] at this; cases this
      have hd := diff_lt h3 hxne
      cases i with
      | zero =>
        cases hr : planR fit k (diffN s x0) with
        | nil => rw [h2, hr] at hy; simp at hy
        | cons y0 r =>
          rw [h2, hr] at ok va hx hy
          simp at hx hy
          subst hx; subst hy
          have hle := plan_least h0 (k + 1) s (y0 :: x0 :: r) hs (okL_swap ok) ((val_perm (List.Perm.swap x0 y0 r)).trans va) 0 x0 y0 (fun j hj => by omega) (by rw [h2]; rfl) rfl
          obtain ⟨_, _, _, _, b2, b3, _⟩ := ok
          have hne : x0 ≠ y0 := fun e => by rw [← e] at b2; exact hxne (sub_both b2)
          omega
      | succ i =>
        rw [h2] at hx hy
        simp only [List.getElem?_cons_succ] at hx hy
        exact plan_adj h0 k (diffN s x0) (by omega) i x y hx hy

theorem okL_mem {fit : Nat → Bool} : ∀ {l : List Nat} {s k : Nat}, okL fit s k l → ∀ x ∈ l, Sub x s ∧ fit x = true
  | y :: l, s, k, ⟨_, h2, h3, h4⟩, x, hx => by
    rcases List.mem_cons.1 hx with rfl | hx
    · exact ⟨h2, h3⟩
    · exact ⟨(okL_mem h4 x hx).1.trans fun i hi => by rw [diffN_bit, Bool.and_eq_true] at hi; exact hi.1, (okL_mem h4 x hx).2⟩
theorem okL_apart {fit : Nat → Bool} : ∀ {l : List Nat} {s k : Nat}, okL fit s k l → l.Pairwise fun a b => b &&& a = 0
  | [], _, _, _ => .nil
  | y :: l, s, k, ⟨_, h2, h3, h4⟩ => .cons (fun x hx => (sub_diff.1 (okL_mem h4 x hx).1).2) (okL_apart h4)
theorem okL_len {fit : Nat → Bool} : ∀ {l : List Nat} {s k : Nat}, okL fit s k l → l.length ≤ k
  | [], _, _, _ => Nat.zero_le _
  | y :: l, s, k, ⟨h1, _, _, h4⟩ => by have := okL_len h4; rw [List.length_cons]; omega
theorem val_b : ∀ l : List Nat, (valL l).b = l.length
  | [] => rfl
  | x :: l => by rw [List.length_cons, ← val_b l]; rfl
theorem okL_app {fit : Nat → Bool} {w : Nat} (hf : fit w = true) : ∀ {l : List Nat} {s k : Nat}, okL fit s k l → l.length < k → Sub w s → (∀ y ∈ l, w &&& y = 0) → okL fit s k (l ++ [w])
  | [], s, k, _, hk, hw, _ => ⟨by simp at hk; omega, hw, hf, trivial⟩
  | y :: l, s, k, ⟨h1, h2, h3, h4⟩, hk, hw, ha => by
    rw [List.length_cons] at hk
    exact ⟨h1, h2, h3, okL_app hf h4 (by omega) (sub_diff.2 ⟨hw, ha y (by simp)⟩) fun z hz => ha z (by simp [hz])⟩
theorem and_orF {x : Nat} : ∀ (l : List Nat) (a : Nat), x &&& a = 0 → (∀ y ∈ l, x &&& y = 0) → x &&& orF a l = 0
  | [], a, h, _ => h
  | y :: l, a, h, hl => and_orF l (a ||| y) (by
      rw [and_zero] at h ⊢
      intro i hi
      rw [Nat.testBit_or, h i hi, and_zero.1 (hl y (by simp)) i hi]; rfl) fun z hz => hl z (by simp [hz])
theorem countP_or {p q : Nat → Bool} : ∀ (l : List Nat), (∀ i ∈ l, p i = true → q i = false) → l.countP (fun i => p i || q i) = l.countP p + l.countP q
  | [], _ => rfl
  | a :: l, h => by
    have ih := countP_or l fun i hi => h i (by simp [hi])
    have ha := h a (by simp)
    rw [List.countP_cons, List.countP_cons, List.countP_cons, ih]
    cases hp : p a
    · cases q a <;> simp <;> omega
    · rw [ha hp]; simp; omega
theorem pop_or {a b : Nat} (h : a &&& b = 0) : popN (a ||| b) = popN a + popN b := by
  unfold popN
  rw [← countP_or _ fun i _ hi => and_zero.1 h i hi]
  congr 1
  funext i
  rw [Nat.testBit_or]
theorem pop_orF : ∀ (l : List Nat) (a : Nat), (∀ y ∈ l, y &&& a = 0) → l.Pairwise (fun a b => b &&& a = 0) → popN (orF a l) = popN a + (valL l).f
  | [], a, _, _ => rfl
  | y :: l, a, h, hp => by
    rw [List.pairwise_cons] at hp
    have ha := h y (by simp)
    show popN (orF (a ||| y) l) = popN a + ((valL l).f + popN y)
    rw [pop_orF l (a ||| y) (fun z hz => by
      rw [and_zero]
      intro i hi
      rw [Nat.testBit_or, and_zero.1 (h z (by simp [hz])) i hi, and_zero.1 (hp.1 z hz) i hi]; rfl) hp.2, pop_or (by rw [Nat.and_comm]; exact ha)]
    omega
theorem orF_snoc (a : Nat) (l : List Nat) (x : Nat) : orF a (l ++ [x]) = orF a l ||| x := by unfold orF; rw [List.foldl_append]; rfl
theorem pop_pos {w : Nat} (hw : w < 1024) (h : w ≠ 0) : 1 ≤ popN w := by
  unfold popN
  rw [Nat.one_le_iff_ne_zero]
  intro hc
  rw [List.countP_eq_zero] at hc
  exact h (bits_zero fun i => by
    cases hb : w.testBit i
    · rfl
    · exact absurd hb (hc i (List.mem_range.2 (bit_lt (n := 10) (by omega) hb))))
theorem pop_two {q : Nat} (hq : q < 10) : popN (2 ^ q) = 1 := by
  have : ∀ q : Nat, q < 10 → popN (2 ^ q) = 1 := by decide +kernel
  exact this q hq
theorem sub_orF {x : Nat} : ∀ (l : List Nat) (a : Nat), x ∈ l → Sub x (orF a l)
  | y :: l, a, h => by
    rcases List.mem_cons.1 h with rfl | h
    · have key : ∀ (l : List Nat) (b : Nat), Sub b (orF b l) := by
        intro l
        induction l with
        | nil => intro b; exact Sub.refl b
        | cons z l ih => intro b i hi; exact ih (b ||| z) i (by rw [Nat.testBit_or, hi]; rfl)
      intro i hi
      exact key l (a ||| x) i (by rw [Nat.testBit_or, hi]; simp)
    · exact sub_orF l (a ||| y) h

section
variable {d : Pn}
theorem plan_facts (hd : d.Good) (hc : canP d = true) : okL (fitsP d) (2 ^ d.n - 1) d.bales (planL d) ∧ valL (planL d) = mostP d :=
  planR_ok (fits_zero hd hc) _ _ (by have := pow10 hd.n10; omega)
/-- What waits of a line doesn't fit by one more bale. -/
theorem wait_fits (hd : d.Good) (hc : canP d = true) (hb : (mostP d).b < d.bales) {w : Nat} (hw : Sub w (2 ^ d.n - 1)) (ha : w &&& orF 0 (planL d) = 0) : fitsP d w = false := by
  cases hf : fitsP d w
  · rfl
  exfalso
  have h0 := fits_zero hd hc
  have p10 := pow10 hd.n10
  obtain ⟨ok, va⟩ := plan_facts hd hc
  have hlen : (planL d).length < d.bales := by rw [← val_b, va]; exact hb
  have hok := okL_app hf ok hlen hw fun y hy => by
    rw [and_zero] at ha ⊢
    intro i hi
    cases hyi : y.testBit i
    · rfl
    · have := sub_orF (planL d) 0 hy i hyi
      rw [ha i hi] at this; cases this
  have hge := (most_ge (fitsP d) h0 (2 ^ d.n - 1) (Nat.le_refl _) (by omega) hok).1
  have hv : valL (planL d ++ [w]) = (mostP d).more w := by rw [val_perm (List.perm_append_singleton _ _)]; show (valL _).more w = _; rw [va]
  rw [hv] at hge
  have hwne : w ≠ 0 := fun e => by rw [e, h0] at hf; cases hf
  have hwl : w < 2 ^ 10 := hw.lt (n := 10) (by omega)
  have hpp := pop_pos (by omega) hwne
  have hge : (mostP d).ge ((mostP d).more w) := hge
  unfold Pd.ge Pd.more at hge
  dsimp only at hge
  omega
theorem line_sub (d : Pn) (l : Nat) (u : Nat) : Sub (diffN (lineN d l) u) (2 ^ d.n - 1) := fun i hi => by
  rw [diffN_bit, Bool.and_eq_true] at hi
  have := hi.1
  unfold lineN at this
  rw [lineQ_bit, Bool.and_eq_true, decide_eq_true_eq] at this
  rw [Nat.testBit_two_pow_sub_one, decide_eq_true_eq]
  exact this.1
theorem line_apart (d : Pn) (l : Nat) (u : Nat) : diffN (lineN d l) u &&& u = 0 := and_zero.2 fun i hi => by
  rw [diffN_bit, Bool.and_eq_true] at hi
  simpa using hi.2
/-- Those of a line, of the first q fleeces, that are in no bale. -/
def restQ (d : Pn) (u q l : Nat) : Nat := diffN (lineQ d l q) u
theorem rest_next (d : Pn) (u q l : Nat) : restQ d u (q + 1) l = if l = d.ln q ∧ u.testBit q = false then restQ d u q l ||| 2 ^ q else restQ d u q l := by
  refine Nat.eq_of_testBit_eq fun i => ?_
  unfold restQ
  rw [diffN_bit, lineQ_bit]
  by_cases h : l = d.ln q ∧ u.testBit q = false
  · rw [if_pos h, Nat.testBit_or, diffN_bit, lineQ_bit, two_bit]
    by_cases hi : i = q
    · subst hi
      simp [h.1, h.2]
    · have e1 : (i < q + 1) = (i < q) := by simp; omega
      have e2 : decide (q = i) = false := decide_eq_false fun e => hi e.symm
      simp only [e1, e2, Bool.or_false]
  · rw [if_neg h, diffN_bit, lineQ_bit]
    by_cases hi : i = q
    · subst hi
      cases hu : u.testBit i
      · have hne : ¬ d.ln i = l := fun e => h ⟨e.symm, hu⟩
        simp [hne]
      · simp
    · have e1 : (i < q + 1) = (i < q) := by simp; omega
      simp only [e1]
theorem rest_lt {u q l : Nat} : restQ d u q l < 2 ^ q := by
  unfold restQ
  exact Nat.lt_of_le_of_lt (sub_le fun i hi => by rw [diffN_bit, Bool.and_eq_true] at hi; exact hi.1) (bitsN_lt _ _)
theorem rest_pop {u q l : Nat} (hq : q < 10) : popN (restQ d u (q + 1) l) = if l = d.ln q ∧ u.testBit q = false then popN (restQ d u q l) + 1 else popN (restQ d u q l) := by
  rw [rest_next]
  split
  · rw [pop_or, pop_two hq]
    rw [and_zero]
    intro i hi
    rw [two_bit, decide_eq_false_iff_not]
    have := bit_lt rest_lt hi
    omega
  · rfl
end
end Go.Ag
