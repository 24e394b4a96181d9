/- Lines with fewer truths, lines reversed; the law ClassWide returns true for arguments that are not far too long. No conditions. -/
import Derived.Test.YtgidjimpobeahaaClK
/- Layer 6: lines with fewer truths, and lines reversed (no program here). -/
namespace Go.Ag
open Go.Proofs
set_option maxRecDepth 100000

theorem tru_le {c : Ln} {s : Nat} {m n : Int} {ws : List Nat} (h : Tru c s m ws) (hmn : m ≤ n) : Tru c s n ws := ⟨h.len, h.top, h.adj, Int.le_trans h.cost hmn⟩
/-- All truths of the second line are truths of the first one, with whatever mistakes. -/
structure SubL (c d : Ln) : Prop where
  len : d.bales.length = c.bales.length
  may : d.may = c.may
  mist : d.mist ≤ c.mist
  sub : ∀ m ws, Tru d (allN d) m ws → Tru c (allN c) m ws
theorem SubL.tru {c d : Ln} (h : SubL c d) {ws : List Nat} (t : Tru d (allN d) d.mist ws) : Tru c (allN c) c.mist ws := tru_le (h.sub _ _ t) h.mist
theorem SubL.can {c d : Ln} (h : SubL c d) (hc : c.Good) (hd : d.Good) (k : canT d = true) : canT c = true := by
  obtain ⟨ws, t⟩ := (can_iff hd).1 k
  exact (can_iff hc).2 ⟨ws, h.tru t⟩
theorem SubL.mistN {c d : Ln} (h : SubL c d) (hc : c.Good) (hd : d.Good) : mistN c ≤ Go.Ag.mistN d := by
  have h1 : Go.Ag.mistN d ≤ 180 := by
    have := mist_some hd
    have h2 := mist_eq hd
    rw [← h2] at this
    omega
  obtain ⟨ws, t⟩ := (mist_iff hd (m := Go.Ag.mistN d) (by omega)).1 (Nat.le_refl _)
  exact (mist_iff hc (m := Go.Ag.mistN d) (by omega)).2 ⟨ws, h.sub _ _ t⟩
theorem SubL.wrong {c d : Ln} (h : SubL c d) {i : Nat} {a b k a' b' k' : Int} (hB : BaIs c i a b k) (hB' : BaIs d i a' b' k') : a ≤ a' ∧ b' ≤ b := by
  obtain ⟨ws, x, t, hx, e⟩ := hB'.lox
  obtain ⟨us, y, t', hy, e'⟩ := hB'.hix
  have h1 := hB.of ws x (h.tru t) hx
  have h2 := hB.of us y (h.tru t') hy
  omega
theorem SubL.all {c d : Ln} (h : SubL c d) (hc : c.Good) (hd : d.Good) (k : canT d = true) : ∃ x y x' y' : Nat, allS c = ((x : Int), (y : Int)) ∧ allS d = ((x' : Int), (y' : Int)) ∧ x ≤ x' ∧ y' ≤ y := by
  obtain ⟨x, y, e, _, _, _, _, hof⟩ := all_is hc (h.can hc hd k)
  obtain ⟨x', y', e', _, _, ⟨w1, t1, s1⟩, ⟨w2, t2, s2⟩, _⟩ := all_is hd k
  have h1 := hof w1 (h.tru t1)
  have h2 := hof w2 (h.tru t2)
  exact ⟨x, y, x', y', e, e', by omega, by omega⟩
theorem keptN_2 {c : Ln} : keptN c = 2 ↔ keptA c c.bales.length = true := by
  unfold keptN sureN
  cases keptA c c.bales.length <;> cases keptE c <;> simp
theorem keptA_iff {c : Ln} (hv : validL c = true) (hc : canT c = true) : keptA c c.bales.length = true ↔ ∀ ws, Tru c (allN c) c.mist ws → ∀ x ∈ ws, (x : Int) ≤ c.may := by
  constructor
  · intro hka ws t z hz
    have hl : ws.length = c.bales.length := by rw [t.len, owns_len]
    obtain ⟨i, hi⟩ := List.mem_iff_getElem?.1 hz
    have hil : i < c.bales.length := by rw [← hl]; exact (List.getElem?_eq_some_iff.1 hi).1
    obtain ⟨a, b, k, hB⟩ := ba_is hv hc hil
    unfold keptA at hka
    have := List.all_eq_true.1 hka i (List.mem_range.2 hil)
    rw [hB.kn, hB.k2] at this
    have hb := of_decide_eq_true this
    have := hB.of ws z t hi
    omega
  · intro h
    unfold keptA
    rw [List.all_eq_true]
    intro i hi
    have hil := List.mem_range.1 hi
    obtain ⟨a, b, k, hB⟩ := ba_is hv hc hil
    rw [hB.kn, hB.k2]
    obtain ⟨ws, w, t, hw, e⟩ := hB.hix
    have := h ws t w (List.mem_of_getElem? hw)
    exact decide_eq_true (by omega)
theorem keptE_iff {c : Ln} (hd : c.Good) : keptE c = true ↔ ∃ ws, Tru c (allN c) c.mist ws ∧ ∀ x ∈ ws, (x : Int) ≤ c.may :=
  ⟨fun h => keptE_ex hd h, fun ⟨ws, t, h⟩ => keptE_of hd t h⟩
/-- Where it is sure whether the line is kept, it stays so. -/
theorem SubL.kept {c d : Ln} (h : SubL c d) (hvc : validL c = true) (hvd : validL d = true) (k : canT d = true) : keptN c = 1 ∨ keptN d = keptN c := by
  have hc := valid_good.1 hvc
  have hd := valid_good.1 hvd
  have kc := h.can hc hd k
  have a1 := keptA_iff hvc kc
  have a2 := keptA_iff hvd k
  have e1 := keptE_iff hc
  have e2 := keptE_iff hd
  obtain ⟨ws, t⟩ := (can_iff hd).1 k
  unfold keptN sureN
  cases hA : keptA c c.bales.length
  · cases hE : keptE c
    · have hEd : keptE d = false := by
        cases hh : keptE d with
        | false => rfl
        | true =>
          obtain ⟨us, t', hm⟩ := e2.1 hh
          have := e1.2 ⟨us, h.tru t', fun x hx => by have := hm x hx; rw [h.may] at this; exact this⟩
          rw [hE] at this; cases this
      have hAd : keptA d d.bales.length = false := by
        cases hh : keptA d d.bales.length with
        | false => rfl
        | true =>
          have := e2.2 ⟨ws, t, a2.1 hh ws t⟩
          rw [hEd] at this; cases this
      right
      rw [hAd, hEd]
    · left; rfl
  · right
    have : keptA d d.bales.length = true := a2.2 fun us t' x hx => by rw [h.may]; exact a1.1 hA us (h.tru t') x hx
    rw [this]
    rfl
theorem adjL_near {d e : Nat} (hde : d ≤ e) : ∀ {ws : List Nat}, AdjL d ws → AdjL e ws := by
  have key : ∀ (xs : List Nat) (w : Nat), Path d w xs → Path e w xs := by
    intro xs
    induction xs with
    | nil => intro w _; trivial
    | cons x xs ih =>
      intro w h
      obtain ⟨h1, h2⟩ := h.1
      exact ⟨⟨by omega, by omega⟩, ih x h.2⟩
  intro ws h
  cases ws with
  | nil => trivial
  | cons w l => exact key l w h
/-- Fewer mistakes. -/
theorem sub_mist {c : Ln} {m : Int} (hm : m ≤ c.mist) : SubL c { c with mist := m } := ⟨rfl, rfl, hm, fun _ _ t => ⟨t.len, t.top, t.adj, t.cost⟩⟩
/-- Less drift. -/
theorem sub_drift {c : Ln} {d : Int} (hd : d ≤ c.drift) : SubL c { c with drift := d } := ⟨rfl, rfl, Int.le_refl _, fun _ _ t => ⟨t.len, t.top, adjL_near (by show d.toNat ≤ c.drift.toNat; omega) t.adj, t.cost⟩⟩
theorem cost_more {f l w : Int} {b : Int} (hb : b = 0 ∨ b = 1) (x : Nat) : costB ⟨f, l, w⟩ x ≤ costB ⟨f, l + 1, w + b⟩ x := by
  unfold costB
  dsimp only
  split
  · exact Int.le_refl _
  · omega
end Go.Ag
/- Layer 6: one look more; a line reversed (no program here). -/
namespace Go.Ag
open Go.Proofs
set_option maxRecDepth 100000

theorem costL_mono : ∀ {l1 l2 : List Co} {xs : List Nat}, l1.length = l2.length → (∀ (i : Nat) (o p : Co), l1[i]? = some o → l2[i]? = some p → ∀ x, o x ≤ p x) → costL l1 xs ≤ costL l2 xs
  | [], [], _, _, _ => Int.le_refl _
  | [], _ :: _, _, h, _ => by cases h
  | _ :: _, [], _, h, _ => by cases h
  | _ :: _, _ :: _, [], _, _ => Int.le_refl _
  | o :: l1, p :: l2, x :: xs, h, k => by
    have h1 := k 0 o p rfl rfl x
    have h2 := costL_mono (l1 := l1) (l2 := l2) (xs := xs) (by simpa using h) (fun i o' p' e1 e2 => k (i + 1) o' p' (by simpa using e1) (by simpa using e2))
    simp only [costL]
    omega
/-- One fleece more is looked at. -/
def lookM (c : Ln) (i : Nat) (b : Int) : Ln := { c with bales := c.bales.set i ⟨(baleAt c i).f, (baleAt c i).l + 1, (baleAt c i).w + b⟩ }
theorem lookM_len (c : Ln) (i : Nat) (b : Int) : (lookM c i b).bales.length = c.bales.length := List.length_set
theorem lookM_at {c : Ln} {i j : Nat} {b : Int} (hi : i < c.bales.length) (hj : j < c.bales.length) : baleAt (lookM c i b) j = if i = j then ⟨(baleAt c i).f, (baleAt c i).l + 1, (baleAt c i).w + b⟩ else baleAt c j := by
  have h1 : (lookM c i b).bales[j]? = some (baleAt (lookM c i b) j) := bale_get (by rw [lookM_len]; exact hj)
  have h2 : (lookM c i b).bales[j]? = (c.bales.set i ⟨(baleAt c i).f, (baleAt c i).l + 1, (baleAt c i).w + b⟩)[j]? := rfl
  rw [h2, List.getElem?_set] at h1
  by_cases h : i = j
  · rw [if_pos h, if_pos hi] at h1
    rw [if_pos h]
    exact (Option.some.inj h1).symm
  · rw [if_neg h, bale_get hj] at h1
    rw [if_neg h]
    exact (Option.some.inj h1).symm
theorem lookM_good {c : Ln} (hd : c.Good) {i : Nat} (hi : i < c.bales.length) {b : Int} (hb : b = 0 ∨ b = 1) (hl : (baleAt c i).l < (baleAt c i).f) : (lookM c i b).Good := by
  have hg := bale_good hd hi
  refine ⟨by rw [lookM_len]; exact hd.n1, by rw [lookM_len]; exact hd.n6, fun x hx => ?_, hd.m0, hd.m1, hd.d0, hd.d1, hd.k0, hd.k1⟩
  rcases List.mem_or_eq_of_mem_set hx with h | h
  · exact hd.bl x h
  · subst h
    have := hg.l0; have := hg.w0; have := hg.w1
    refine ⟨hg.f1, hg.f2, ?_, ?_, ?_, ?_⟩ <;> dsimp only <;> omega
theorem sub_look {c : Ln} {i : Nat} (hi : i < c.bales.length) {b : Int} (hb : b = 0 ∨ b = 1) : SubL c (lookM c i b) := by
  refine ⟨lookM_len c i b, rfl, Int.le_refl _, fun m ws t => ⟨?_, t.top, t.adj, Int.le_trans (costL_mono ?_ ?_) t.cost⟩⟩
  · rw [t.len, owns_len, owns_len, lookM_len]
  · rw [owns_len, owns_len, lookM_len]
  · intro j o p h1 h2 x
    obtain ⟨hj, rfl⟩ := own_get h1
    obtain ⟨hj', rfl⟩ := own_get h2
    rw [ownAll hj, ownAll hj', lookM_at hi hj]
    by_cases h : i = j
    · subst h
      rw [if_pos rfl]
      exact cost_more hb x
    · rw [if_neg h]
      exact Int.le_refl _

/-! The line reversed. -/
def revL (c : Ln) : Ln := { c with bales := c.bales.reverse }
theorem revL_len (c : Ln) : (revL c).bales.length = c.bales.length := List.length_reverse
theorem revL_good {c : Ln} (hd : c.Good) : (revL c).Good := ⟨by rw [revL_len]; exact hd.n1, by rw [revL_len]; exact hd.n6, fun b hb => hd.bl b (List.mem_reverse.1 hb), hd.m0, hd.m1, hd.d0, hd.d1, hd.k0, hd.k1⟩
theorem revL_revL (c : Ln) : revL (revL c) = c := by
  obtain ⟨b, m, d, k⟩ := c
  show Ln.mk b.reverse.reverse m d k = _
  rw [List.reverse_reverse]
theorem revL_at {c : Ln} {i : Nat} (hi : i < c.bales.length) : baleAt (revL c) (c.bales.length - 1 - i) = baleAt c i := by
  have h1 : (revL c).bales[c.bales.length - 1 - i]? = some (baleAt (revL c) (c.bales.length - 1 - i)) := bale_get (by rw [revL_len]; omega)
  have h2 : (revL c).bales[c.bales.length - 1 - i]? = c.bales[c.bales.length - 1 - (c.bales.length - 1 - i)]? := List.getElem?_reverse (by omega)
  rw [h2, show c.bales.length - 1 - (c.bales.length - 1 - i) = i by omega, bale_get hi] at h1
  exact (Option.some.inj h1).symm
theorem revL_owns (c : Ln) : owns (revL c) (allN (revL c)) = (owns c (allN c)).reverse := by
  apply List.ext_getElem?
  intro i
  by_cases hi : i < c.bales.length
  · rw [own_at (by rw [revL_len]; exact hi), List.getElem?_reverse (by rw [owns_len]; exact hi), owns_len, own_at (by omega), ownAll (by rw [revL_len]; exact hi), ownAll (by omega)]
    have := revL_at (c := c) (i := c.bales.length - 1 - i) (by omega)
    rw [show c.bales.length - 1 - (c.bales.length - 1 - i) = i by omega] at this
    rw [this]
  · rw [List.getElem?_eq_none (by rw [owns_len, revL_len]; omega), List.getElem?_eq_none (by rw [List.length_reverse, owns_len]; omega)]
theorem tru_rev {c : Ln} {m : Int} {ws : List Nat} (h : Tru c (allN c) m ws) : Tru (revL c) (allN (revL c)) m ws.reverse := by
  refine ⟨by rw [List.length_reverse, h.len, owns_len, owns_len, revL_len], fun x hx => h.top x (List.mem_reverse.1 hx), ?_, ?_⟩
  · show AdjL c.drift.toNat ws.reverse
    cases ws with
    | nil => exact h.adj
    | cons w l => exact adj_rev.2 h.adj
  · rw [revL_owns, costL_rev h.len.symm]
    exact h.cost
theorem rev_iff {c : Ln} {m : Int} {ws : List Nat} : Tru (revL c) (allN (revL c)) m ws ↔ Tru c (allN c) m ws.reverse := by
  constructor
  · intro h
    have := tru_rev h
    rw [revL_revL] at this
    exact this
  · intro h
    have := tru_rev h
    rw [List.reverse_reverse] at this
    exact this
theorem rev_can {c : Ln} (hd : c.Good) : canT (revL c) = canT c := by
  have h1 := can_iff hd
  have h2 := can_iff (revL_good hd)
  rw [Bool.eq_iff_iff, h1, h2]
  exact ⟨fun ⟨ws, t⟩ => ⟨ws.reverse, rev_iff.1 t⟩, fun ⟨ws, t⟩ => ⟨ws.reverse, tru_rev t⟩⟩
theorem rev_mist {c : Ln} (hd : c.Good) : mistN (revL c) = mistN c := by
  have key : ∀ {c : Ln}, c.Good → mistN (revL c) ≤ mistN c := fun {c} hd => by
    have h1 : mistN c ≤ 180 := by
      have := mist_some hd
      rw [← mist_eq hd] at this
      omega
    obtain ⟨ws, t⟩ := (mist_iff hd (m := mistN c) (by omega)).1 (Nat.le_refl _)
    exact (mist_iff (revL_good hd) (m := mistN c) (by omega)).2 ⟨_, tru_rev t⟩
  have h1 := key hd
  have h2 := key (revL_good hd)
  rw [revL_revL] at h2
  omega
theorem rev_all {c : Ln} (hd : c.Good) (hc : canT c = true) : allS (revL c) = allS c := by
  obtain ⟨x, y, e, _, _, ⟨w1, t1, s1⟩, ⟨w2, t2, s2⟩, hof⟩ := all_is hd hc
  obtain ⟨x', y', e', _, _, ⟨u1, r1, q1⟩, ⟨u2, r2, q2⟩, hof'⟩ := all_is (revL_good hd) (by rw [rev_can hd]; exact hc)
  have a1 := hof' _ (tru_rev t1)
  have a2 := hof' _ (tru_rev t2)
  have b1 := hof _ (rev_iff.1 r1)
  have b2 := hof _ (rev_iff.1 r2)
  rw [List.sum_reverse] at a1 a2 b1 b2
  rw [e, e', show x' = x by omega, show y' = y by omega]
theorem rev_wrong {c : Ln} {i : Nat} (hi : i < c.bales.length) {a b k a' b' k' : Int} (hB : BaIs c i a b k) (hB' : BaIs (revL c) (c.bales.length - 1 - i) a' b' k') : a' = a ∧ b' = b := by
  have get : ∀ {ws : List Nat} {w : Nat}, ws.length = c.bales.length → ws[i]? = some w → ws.reverse[c.bales.length - 1 - i]? = some w := fun {ws w} hl h => by
    rw [List.getElem?_reverse (by omega), hl, show c.bales.length - 1 - (c.bales.length - 1 - i) = i by omega]; exact h
  have get' : ∀ {ws : List Nat} {w : Nat}, ws.length = c.bales.length → ws[c.bales.length - 1 - i]? = some w → ws.reverse[i]? = some w := fun {ws w} hl h => by
    rw [List.getElem?_reverse (by omega), hl]; exact h
  obtain ⟨w1, x1, t1, h1, e1⟩ := hB.lox
  obtain ⟨w2, x2, t2, h2, e2⟩ := hB.hix
  obtain ⟨u1, y1, r1, g1, f1⟩ := hB'.lox
  obtain ⟨u2, y2, r2, g2, f2⟩ := hB'.hix
  have a1 := hB'.of _ x1 (tru_rev t1) (get (by rw [t1.len, owns_len]) h1)
  have a2 := hB'.of _ x2 (tru_rev t2) (get (by rw [t2.len, owns_len]) h2)
  have b1 := hB.of _ y1 (rev_iff.1 r1) (get' (by rw [r1.len, owns_len, revL_len]) g1)
  have b2 := hB.of _ y2 (rev_iff.1 r2) (get' (by rw [r2.len, owns_len, revL_len]) g2)
  omega
theorem rev_kept {c : Ln} (hv : validL c = true) (hc : canT c = true) : keptN (revL c) = keptN c := by
  have hd := valid_good.1 hv
  have hr := revL_good hd
  have hA : keptA (revL c) (revL c).bales.length = keptA c c.bales.length := by
    rw [Bool.eq_iff_iff, keptA_iff (valid_good.2 hr) (by rw [rev_can hd]; exact hc), keptA_iff hv hc]
    exact ⟨fun h ws t x hx => h _ (tru_rev t) x (List.mem_reverse.2 hx), fun h ws t x hx => h _ (rev_iff.1 t) x (List.mem_reverse.2 hx)⟩
  have hE : keptE (revL c) = keptE c := by
    rw [Bool.eq_iff_iff, keptE_iff hr, keptE_iff hd]
    exact ⟨fun ⟨ws, t, h⟩ => ⟨ws.reverse, rev_iff.1 t, fun x hx => h x (List.mem_reverse.1 hx)⟩, fun ⟨ws, t, h⟩ => ⟨ws.reverse, tru_rev t, fun x hx => h x (List.mem_reverse.1 hx)⟩⟩
  unfold keptN
  rw [hA, hE]
end Go.Ag
/- Layer 6: what is told of a line, of one with fewer truths, and of the line reversed (no program here). -/
namespace Go.Ag
open Go.Proofs
set_option maxRecDepth 100000

structure WideC (c : Ln) (k : Nat) (a b x y t m e : Int) : Prop where
  wr : wrongR c k = ((a, b), e)
  al : allR c = ((x, y), e)
  kp : keptR c = (t, e)
  mi : mistR c = (m, 0)
  e0 : e = 0 ∨ e = 10
structure WideD (d : Ln) (k : Nat) (a b x y t m e a' b' x' y' t' m' j : Int) : Prop where
  wr : wrongR d k = ((a', b'), j)
  al : allR d = ((x', y'), j)
  kp : keptR d = (t', j)
  mi : mistR d = (m', 0)
  mm : m ≤ m'
  or : j = 10 ∨ (j = 0 ∧ e = 0 ∧ (a ≤ a' ∧ b' ≤ b) ∧ (x ≤ x' ∧ y' ≤ y) ∧ (t = 1 ∨ t' = t))
theorem mist_r {c : Ln} (hv : validL c = true) : mistR c = (((mistN c : Nat) : Int), 0) := by unfold mistR; rw [if_pos hv]
theorem all_r {c : Ln} (hv : validL c = true) (hc : canT c = true) : allR c = (allS c, 0) := by unfold allR lineRS orT; rw [hv, hc]; rfl
theorem kept_r {c : Ln} (hv : validL c = true) (hc : canT c = true) : keptR c = (keptN c, 0) := by unfold keptR lineR orT; rw [hv, hc]; rfl
theorem base_told {c : Ln} (hv : validL c = true) {k : Nat} (hk : k < c.bales.length) : ∃ a b x y t m e, WideC c k a b x y t m e := by
  cases hc : canT c
  · exact ⟨0, 0, 0, 0, 0, _, 10, no_wrong hv hc hk, no_all hv hc, no_kept hv hc, mist_r hv, .inr rfl⟩
  · obtain ⟨a, b, q, hB⟩ := ba_is hv hc hk
    exact ⟨a, b, (allS c).1, (allS c).2, keptN c, _, 0, hB.wr, all_r hv hc, kept_r hv hc, mist_r hv, .inl rfl⟩
theorem sub_told {c d : Ln} {k : Nat} {a b x y t m e : Int} (W : WideC c k a b x y t m e) (h : SubL c d) (hvc : validL c = true) (hvd : validL d = true) (hk : k < c.bales.length) : ∃ a' b' x' y' t' m' j, WideD d k a b x y t m e a' b' x' y' t' m' j := by
  have hgc := valid_good.1 hvc
  have hgd := valid_good.1 hvd
  have hkd : k < d.bales.length := by rw [h.len]; exact hk
  have hm : m ≤ ((mistN d : Nat) : Int) := by
    have h1 := W.mi
    rw [mist_r hvc] at h1
    have h2 := congrArg Prod.fst h1
    have := h.mistN hgc hgd
    dsimp only at h2
    omega
  cases hc : canT d
  · exact ⟨0, 0, 0, 0, 0, _, 10, no_wrong hvd hc hkd, no_all hvd hc, no_kept hvd hc, mist_r hvd, hm, .inl rfl⟩
  · have hcc := h.can hgc hgd hc
    obtain ⟨a1, b1, q1, B1⟩ := ba_is hvc hcc hk
    obtain ⟨a2, b2, q2, B2⟩ := ba_is hvd hc hkd
    have hw := h.wrong B1 B2
    obtain ⟨u, v, u', v', e1, e2, l1, l2⟩ := h.all hgc hgd hc
    have hK := h.kept hvc hvd hc
    have k1 := W.wr
    rw [B1.wr] at k1
    have k2 := W.al
    rw [all_r hvc hcc, e1] at k2
    have k3 := W.kp
    rw [kept_r hvc hcc] at k3
    injection k1 with k1 k1e
    injection k1 with k1a k1b
    injection k2 with k2 k2e
    injection k2 with k2a k2b
    injection k3 with k3a k3e
    refine ⟨a2, b2, (u' : Nat), (v' : Nat), keptN d, _, 0, B2.wr, by rw [all_r hvd hc, e2], kept_r hvd hc, mist_r hvd, hm, .inr ⟨rfl, k1e.symm, ?_, ?_, ?_⟩⟩
    · omega
    · omega
    · rw [← k3a]; exact hK
theorem rev_told {c : Ln} {k : Nat} {a b x y t m e : Int} (W : WideC c k a b x y t m e) (hvc : validL c = true) (hk : k < c.bales.length) : WideC (revL c) (c.bales.length - 1 - k) a b x y t m e := by
  have hgc := valid_good.1 hvc
  have hgr := revL_good hgc
  have hvr := valid_good.2 hgr
  have hkr : c.bales.length - 1 - k < (revL c).bales.length := by rw [revL_len]; omega
  have hmi : mistR (revL c) = (m, 0) := by
    rw [mist_r hvr, rev_mist hgc, ← mist_r hvc]; exact W.mi
  cases hc : canT c
  · have hcr : canT (revL c) = false := by rw [rev_can hgc]; exact hc
    have k1 := W.wr
    rw [no_wrong hvc hc hk] at k1
    have k2 := W.al
    rw [no_all hvc hc] at k2
    have k3 := W.kp
    rw [no_kept hvc hc] at k3
    exact ⟨(no_wrong hvr hcr hkr).trans k1, (no_all hvr hcr).trans k2, (no_kept hvr hcr).trans k3, hmi, W.e0⟩
  · have hcr : canT (revL c) = true := by rw [rev_can hgc]; exact hc
    obtain ⟨a1, b1, q1, B1⟩ := ba_is hvc hc hk
    obtain ⟨a2, b2, q2, B2⟩ := ba_is hvr hcr hkr
    obtain ⟨r1, r2⟩ := rev_wrong hk B1 B2
    subst r1 r2
    exact ⟨B2.wr.trans (B1.wr.symm.trans W.wr), by rw [all_r hvr hcr, rev_all hgc hc, ← all_r hvc hc]; exact W.al, by rw [kept_r hvr hcr, rev_kept hvc hc, ← kept_r hvc hc]; exact W.kp, hmi, W.e0⟩
end Go.Ag
/- Layer 6: the law ClassWide: what lies where. -/
namespace Go.Ag
open Go.Proofs
set_option maxRecDepth 100000

/-! Ids that are told by what they stand for. -/
structure Sk where
  idx : Nat
  dst : Option Tmp
  looks : List Tmp
  reads : List Nat
  writes : List Nat
def DRec.sk (r : DRec) : Sk := ⟨r.idx, r.dst, r.looks, r.reads, r.writes⟩
def Sk.via (f : Nat → Nat) (r : Sk) : Sk := ⟨r.idx, r.dst, r.looks, r.reads.map f, r.writes.map f⟩
def indepS (a b : Sk) : Bool :=
  (match a.dst with | some d => !b.looks.contains d && b.dst != some d | none => true) &&
  (match b.dst with | some d => !a.looks.contains d | none => true) &&
  a.writes.all (fun i => !b.reads.contains i && !b.writes.contains i) && b.writes.all (fun i => !a.reads.contains i)
def pairsS (ms : List Nat) : List Sk → Bool
  | [] => true
  | r :: l => l.all (fun x => (ms.getD x.idx 0).testBit r.idx || indepS r x) && pairsS ms l
theorem pairs_sk (ms : List Nat) : ∀ l : List DRec, pairsOk ms l = pairsS ms (l.map DRec.sk)
  | [] => rfl
  | r :: l => by
    simp only [pairsOk, List.map_cons, pairsS, pairs_sk ms l, List.all_map]
    rfl
theorem contains_via {f : Nat → Nat} {i : Nat} {l : List Nat} (h : (l.map f).contains (f i) = false) : l.contains i = false := by
  rw [Bool.eq_false_iff] at h ⊢
  intro hc
  refine h ?_
  rw [List.contains_iff_mem] at hc ⊢
  exact List.mem_map_of_mem hc
theorem indep_via {f : Nat → Nat} {a b : Sk} (h : indepS (a.via f) (b.via f) = true) : indepS a b = true := by
  simp only [indepS, Sk.via, List.all_map, Bool.and_eq_true, List.all_eq_true, Function.comp_apply, Bool.not_eq_true'] at h ⊢
  obtain ⟨⟨h1, h2⟩, h3⟩ := h
  exact ⟨⟨h1, fun i hi => ⟨contains_via (h2 i hi).1, contains_via (h2 i hi).2⟩⟩, fun i hi => contains_via (h3 i hi)⟩
theorem pairs_via' {ms : List Nat} (f : Nat → Nat) : ∀ {l : List Sk}, pairsS ms (l.map (Sk.via f)) = true → pairsS ms l = true
  | [], _ => rfl
  | r :: l, h => by
    simp only [List.map_cons, pairsS, Bool.and_eq_true, List.all_map, List.all_eq_true, Function.comp_apply, Bool.or_eq_true] at h ⊢
    refine ⟨fun x hx => ?_, pairs_via' f h.2⟩
    rcases h.1 x hx with h1 | h1
    · exact .inl h1
    · exact .inr (indep_via h1)
/-- It is enough to look at what ids stand for. -/
theorem pairs_via {ms : List Nat} {l : List DRec} (f : Nat → Nat) (l0 : List Sk) (he : (l.map DRec.sk).map (Sk.via f) = l0) (hb : pairsS ms l0 = true) : pairsOk ms l = true := by
  rw [pairs_sk]
  refine pairs_via' f ?_
  rw [he]
  exact hb

theorem wOps_opaque {P : Program} {hm : Bool} {ops : Array Oper} {l : List Nat} {s : ASt} {K : AExit → ASt → Prop} (h : ∀ K', K' = K → wOps P hm ops l s K') : wOps P hm ops l s K := h K rfl
def oA (n : Nat) (d : Ln) (id : Nat) : List AV := [.msl id 3 0 n n, .c (I d.may), .c (I d.drift), .c (I d.mist)]
/-- Four lines of one's own. -/
structure WH (v : LV) (c : Ln) (i1 i2 i3 i4 p : Nat) (dx dy dz dt : Ln) (g : Heap) : Prop where
  b0 : Heap.at g 0 = v.blk c
  bx : Heap.at g p = .blk (oA c.bales.length dx i1)
  bY : Heap.at g (p + 1) = .blk (oA c.bales.length dy i2)
  bz : Heap.at g (p + 2) = .blk (oA c.bales.length dz i3)
  bt : Heap.at g (p + 3) = .blk (oA c.bales.length dt i4)
  rx : Heap.at g i1 = rowB dx
  ry : Heap.at g i2 = rowB dy
  rz : Heap.at g i3 = rowB dz
  rt : Heap.at g i4 = rowB dt
  n : p + 4 ≤ g.n
structure WI (i1 i2 i3 i4 p : Nat) : Prop where
  a0 : 1 ≤ i1
  a1 : i1 < i2
  a2 : i2 < i3
  a3 : i3 < i4
  a4 : i4 < p
section
variable {v : LV} {c : Ln} {i1 i2 i3 i4 p : Nat} {dx dy dz dt : Ln} {g g' : Heap}
theorem WH.ext (e : WH v c i1 i2 i3 i4 p dx dy dz dt g) (w : WI i1 i2 i3 i4 p) (hn : g.n ≤ g'.n) (h : ∀ i, i < p + 4 → Heap.at g' i = Heap.at g i) : WH v c i1 i2 i3 i4 p dx dy dz dt g' := by
  have := w.a0; have := w.a1; have := w.a2; have := w.a3; have := w.a4; have := e.n
  exact ⟨(h _ (by omega)).trans e.b0, (h _ (by omega)).trans e.bx, (h _ (by omega)).trans e.bY, (h _ (by omega)).trans e.bz, (h _ (by omega)).trans e.bt, (h _ (by omega)).trans e.rx, (h _ (by omega)).trans e.ry, (h _ (by omega)).trans e.rz, (h _ (by omega)).trans e.rt, by omega⟩
/-- The third line's list is written. -/
theorem WH.setz (e : WH v c i1 i2 i3 i4 p dx dy dz dt g) (w : WI i1 i2 i3 i4 p) {d : Ln} (h1 : d.may = dz.may) (h2 : d.drift = dz.drift) (h3 : d.mist = dz.mist) : WH v c i1 i2 i3 i4 p dx dy d dt (g.set .dead i3 (rowB d)) := by
  have := w.a0; have := w.a1; have := w.a2; have := w.a3; have := w.a4; have := e.n
  have k : ∀ i, i ≠ i3 → Heap.at (TMap.set AB.dead g i3 (rowB d)) i = Heap.at g i := fun i hi => at_set_ne _ _ hi
  exact ⟨(k _ (by omega)).trans e.b0, (k _ (by omega)).trans e.bx, (k _ (by omega)).trans e.bY, by rw [k _ (by omega), e.bz]; unfold oA; rw [h1, h2, h3], (k _ (by omega)).trans e.bt, (k _ (by omega)).trans e.rx, (k _ (by omega)).trans e.ry, at_set_self _ _ (by omega), (k _ (by omega)).trans e.rt, by rw [TMap.set_n]; omega⟩
theorem WH.sett (e : WH v c i1 i2 i3 i4 p dx dy dz dt g) (w : WI i1 i2 i3 i4 p) {d : Ln} (h1 : d.may = dt.may) (h2 : d.drift = dt.drift) (h3 : d.mist = dt.mist) : WH v c i1 i2 i3 i4 p dx dy dz d (g.set .dead i4 (rowB d)) := by
  have := w.a0; have := w.a1; have := w.a2; have := w.a3; have := w.a4; have := e.n
  have k : ∀ i, i ≠ i4 → Heap.at (TMap.set AB.dead g i4 (rowB d)) i = Heap.at g i := fun i hi => at_set_ne _ _ hi
  exact ⟨(k _ (by omega)).trans e.b0, (k _ (by omega)).trans e.bx, (k _ (by omega)).trans e.bY, (k _ (by omega)).trans e.bz, by rw [k _ (by omega), e.bt]; unfold oA; rw [h1, h2, h3], (k _ (by omega)).trans e.rx, (k _ (by omega)).trans e.ry, (k _ (by omega)).trans e.rz, at_set_self _ _ (by omega), by rw [TMap.set_n]; omega⟩
end
/-- And what is kept and told. -/
structure WX (v : LV) (c : Ln) (i1 i2 i3 i4 p : Nat) (dx dy dz dt : Ln) (i5 P : Nat) (A B' X Z : Int) (g : Heap) : Prop where
  W : WH v c i1 i2 i3 i4 p dx dy dz dt g
  k : Heap.at g P = .blk (oA c.bales.length c i5)
  r : Heap.at g i5 = rowB c
  s1 : Heap.at g (P + 1) = .blk [.c (I A), .c (I B')]
  s2 : Heap.at g (P + 2) = .blk [.c (I X), .c (I Z)]
  n : P + 3 ≤ g.n
theorem WX.ext {v : LV} {c : Ln} {i1 i2 i3 i4 p : Nat} {dx dy dz dt : Ln} {i5 P : Nat} {A B' X Z : Int} {g g' : Heap} (e : WX v c i1 i2 i3 i4 p dx dy dz dt i5 P A B' X Z g) (w : WI i1 i2 i3 i4 p) (h5 : p + 4 ≤ i5) (hP : i5 < P) (hn : g.n ≤ g'.n) (h : ∀ i, i < P + 3 → Heap.at g' i = Heap.at g i) : WX v c i1 i2 i3 i4 p dx dy dz dt i5 P A B' X Z g' := by
  have := e.n
  exact ⟨e.W.ext w hn (fun i hi => h i (by omega)), (h _ (by omega)).trans e.k, (h _ (by omega)).trans e.r, (h _ (by omega)).trans e.s1, (h _ (by omega)).trans e.s2, by omega⟩
/-- One of the three. -/
theorem three_read {c dx dy dz : Ln} {n i1 i2 i3 : Nat} {g : Heap} (sx : SubL c dx) (sy : SubL c dy) (sz : SubL c dz) (gx : dx.Good) (gy : dy.Good) (gz : dz.Good) (rx : Heap.at g i1 = rowB dx) (ry : Heap.at g i2 = rowB dy) (rz : Heap.at g i3 = rowB dz) {q : Nat} (hq : q < 3) :
    ∃ d id, SubL c d ∧ d.Good ∧ Heap.at g id = rowB d ∧ (id = i1 ∨ id = i2 ∨ id = i3) ∧ readVar Try.prog 24 (oA n dx i1 ++ (oA n dy i2 ++ oA n dz i3)) (0 + (q : Int).toNat * 4) = some (.agg (oA n d id)) := by
  rcases (by omega : q = 0 ∨ q = 1 ∨ q = 2) with rfl | rfl | rfl
  · exact ⟨dx, i1, sx, gx, rx, .inl rfl, by kernel_rfl⟩
  · exact ⟨dy, i2, sy, gy, ry, .inr (.inl rfl), by kernel_rfl⟩
  · exact ⟨dz, i3, sz, gz, rz, .inr (.inr rfl), by kernel_rfl⟩
def zL : AB := .blk [AV.lit (.slice none 0 0), AV.lit (.int .i64 0), AV.lit (.int .i64 0), AV.lit (.int .i64 0)]
/-- Four blocks laid, and written. -/
theorem four_new {H : Heap} {a b c d : AB} : ∃ Y, Y = (((((((H.push .dead zL).push .dead zL).push .dead zL).push .dead zL).set .dead H.n a).set .dead (H.n + 1) b).set .dead (H.n + 2) c).set .dead (H.n + 3) d ∧ Y.n = H.n + 4 ∧ (∀ i, i < H.n → Heap.at Y i = Heap.at H i) ∧ Heap.at Y H.n = a ∧ Heap.at Y (H.n + 1) = b ∧ Heap.at Y (H.n + 2) = c ∧ Heap.at Y (H.n + 3) = d := by
  refine ⟨_, rfl, by simp only [TMap.set_n, push_n], fun i hi => ?_, ?_, ?_, ?_, ?_⟩
  · rw [at_set_ne _ _ (by omega), at_set_ne _ _ (by omega), at_set_ne _ _ (by omega), at_set_ne _ _ (by omega), at_push_lt _ _ (by simp only [push_n]; omega), at_push_lt _ _ (by simp only [push_n]; omega), at_push_lt _ _ (by simp only [push_n]; omega), at_push_lt _ _ hi]
  · rw [at_set_ne _ _ (by omega), at_set_ne _ _ (by omega), at_set_ne _ _ (by omega), at_set_self _ _ (by simp only [push_n]; omega)]
  · rw [at_set_ne _ _ (by omega), at_set_ne _ _ (by omega), at_set_self _ _ (by simp only [TMap.set_n, push_n]; omega)]
  · rw [at_set_ne _ _ (by omega), at_set_self _ _ (by simp only [TMap.set_n, push_n]; omega)]
  · rw [at_set_self _ _ (by simp only [TMap.set_n, push_n]; omega)]

theorem inW_ret (a b x y : Int) : Ret Try.prog 29 [spV (a, b), spV (x, y)] (B (decide (a ≥ x) && decide (b ≤ y))) := by
  refine ret_by (hm := true) Try.func29 rfl ?_
  conv => whnf
  cases h : decide (a ≥ x)
  · conv => whnf
    exact .val
  · conv => whnf
    exact .val

/-! Bales compared. -/
theorem u43 : pureRun Try.prog (underlying 43) = some (.struct #[⟨"Fleeces", 3, 0, false, "", "", 0⟩, ⟨"Looked", 3, 1, false, "", "", 8⟩, ⟨"Wrong", 3, 2, false, "", "", 16⟩]) := by kernel_rfl
theorem st43 : Try.prog.stoodInHeld 43 = false := by kernel_rfl
theorem eg43 : Try.prog.eqGuardType Try.prog.depth 43 = false := by kernel_rfl
theorem eq_bale (a b c : Int) : pureRun Try.prog (Op.equal 43 (.agg #[.int .i64 a, .int .i64 b, .int .i64 c]) (.agg #[.int .i64 a, .int .i64 b, .int .i64 c])) = some true := by
  show pureRun Try.prog (Op.equalIn (9998 + 1 + 1) 43 _ _) = _
  rw [Op.equalIn.eq_def]
  simp only [pureRun_bind, u43, Option.bind_some, pp0, pureRun_ite, st43, Bool.false_eq_true, if_false]
  simp [pureRun_bind, pureRun_ite, partT ag3, eq_intT u3, pureRun_pure]
theorem bale_neq {o : Oper} {x y : Operand} {t2 : TypeId} {σ : Operand → AV} {b : Bl} (ho : o.op = .binOp .neq 43 x y t2) (hx : σ x = .c (.agg (rowBl b))) (hy : σ y = .c (.agg (rowBl b))) (rd : Nat → AB) (n : Nat) :
    aop Try.prog o σ rd n = some (.simple { val := .c (B false) }) := by
  have vx : (σ x).toVal = some (.agg #[.int .i64 b.f, .int .i64 b.l, .int .i64 b.w]) := by rw [hx]; rfl
  have vy : (σ y).toVal = some (.agg #[.int .i64 b.f, .int .i64 b.l, .int .i64 b.w]) := by rw [hy]; rfl
  unfold aop
  rw [ho]
  simp only [abinOp, vx, vy, litBin]
  unfold pureOp
  have hv : (allVals σ o.op.operands.toList && notSelect o.op) = true := by
    rw [ho]; simp [Op.operands, allVals, vx, vy, notSelect]
  rw [if_pos hv]
  have hr : pureRun Try.prog (execOp (fun x => ((σ x).toVal).getD Go.undef) o) = some (.value (.bool false)) := by
    unfold execOp
    rw [ho]
    simp only [vx, vy, Option.getD_some, eqGuard, binOp, pureRun_bind, pp0, Option.bind_some, pureRun_ite, eg43]
    simp [eq_bale, pureRun_pure]
  rw [hr]
  rfl

/-! The list, written bale by bale. -/
theorem rowsC_app (a b : List Bl) : rowsC (a ++ b) = rowsC a ++ rowsC b := by
  unfold rowsC
  rw [List.map_append, List.flatten_append]
theorem rowsC_put3 {a r : List Bl} {x y : Bl} {q : Nat} (hq : q = a.length) : putAt ((rowsC (a ++ x :: r)).map AV.c) (0 + (q : Int).toNat * 3) [.c (I y.f), .c (I y.l), .c (I y.w)] = some ((rowsC (a ++ y :: r)).map AV.c) := by
  have e : ∀ z : Bl, (rowsC (a ++ z :: r)).map AV.c = (rowsC a).map .c ++ ((rowBl z).map .c ++ (rowsC r).map .c) := fun z => by
    rw [rowsC_app, show rowsC (z :: r) = rowBl z ++ rowsC r from rfl, List.map_append, List.map_append]
  rw [e x, e y]
  exact put_at (by rw [List.length_map, rowsC_len, Int.toNat_natCast, hq]; omega) rfl
/-- As far as it is turned. -/
def turnL (c : Ln) (q : Nat) : Ln := { c with bales := c.bales.reverse.take q ++ c.bales.drop q }
theorem turn_zero (c : Ln) : turnL c 0 = c := rfl
theorem turn_all (c : Ln) : turnL c c.bales.length = revL c := by
  unfold turnL revL
  rw [List.drop_length, List.append_nil, ← List.length_reverse, List.take_length]
theorem turn_len {c : Ln} {q : Nat} (h : q ≤ c.bales.length) : (turnL c q).bales.length = c.bales.length := by
  show (c.bales.reverse.take q ++ c.bales.drop q).length = _
  rw [List.length_append, List.length_take, List.length_reverse, List.length_drop]
  omega
theorem turn_put {c : Ln} {q : Nat} (h : q < c.bales.length) : putAt ((rowsC (turnL c q).bales).map AV.c) (0 + (q : Int).toNat * 3) [.c (I (baleAt c (c.bales.length - 1 - q)).f), .c (I (baleAt c (c.bales.length - 1 - q)).l), .c (I (baleAt c (c.bales.length - 1 - q)).w)] = some ((rowsC (turnL c (q + 1)).bales).map AV.c) := by
  have hl : (c.bales.reverse.take q).length = q := by rw [List.length_take, List.length_reverse]; omega
  have h1 : c.bales.reverse[q]? = some (baleAt c (c.bales.length - 1 - q)) := by
    rw [List.getElem?_reverse h]
    exact bale_get (by omega)
  have h2 : (turnL c q).bales = c.bales.reverse.take q ++ c.bales[q] :: c.bales.drop (q + 1) := by
    show _ ++ c.bales.drop q = _
    rw [List.drop_eq_getElem_cons h]
  have h3 : (turnL c (q + 1)).bales = c.bales.reverse.take q ++ baleAt c (c.bales.length - 1 - q) :: c.bales.drop (q + 1) := by
    show c.bales.reverse.take (q + 1) ++ _ = _
    rw [List.take_add_one, h1, List.append_assoc]
    rfl
  rw [h2, h3]
  exact rowsC_put3 hl.symm
end Go.Ag
/- Layer 6: the law ClassWide: its walk. -/
namespace Go.Ag
open Go.Proofs
set_option maxRecDepth 100000

set_option maxHeartbeats 16000000 in
theorem wideLaw_ret {v : LV} {c : Ln} (h : v.IsS c) (hA : Ret Try.prog 11 [] (B true)) (a1 a2 : Nat) (ha1 : a1 < 256) (ha2 : a2 < 256) : Ret Try.prog 9 [v.cv c, .lit (.int .u8 a1), .lit (.int .u8 a2)] (B true) := by
  have hv := h.toIs
  have e1 := hv.sn
  refine ret_then (hm := false) Try.func9 rfl ?_
  conv => whnf
  repeat (refine then_seq (hm := false) ?_; conv => whnf)
  refine ⟨_, at_push_self _ _, ?_⟩
  conv => whnf
  refine .ret (fine_ret h) rfl ?_
  conv => whnf
  cases hd : validL c
  · conv => whnf
    refine .ret (hA) rfl ?_
    conv => whnf
    exact .val
  have hg := valid_good.1 hd
  have n6 := hg.n6
  have n1 := hg.n1
  obtain ⟨i, hi⟩ : ∃ i, i = a1 % c.bales.length := ⟨_, rfl⟩
  have hin : i < c.bales.length := by rw [hi]; exact Nat.mod_lt _ (by omega)
  conv => whnf
  repeat (refine then_seq (hm := false) ?_; conv => whnf)
  generalize hH : TMap.push AB.dead TMap.nil _ = H
  have Hn : H.n = 1 := by rw [← hH]; rfl
  have b0 : Heap.at H 0 = v.blk c := by rw [← hH]; exact at_push_self TMap.nil _
  clear hH
  refine ⟨_, b0, ?_⟩
  conv => whnf
  repeat (refine then_seq (hm := false) ?_; conv => whnf)
  refine ⟨by omega, ((i : Nat) : Int), by rw [e1, rem_nat ha1, hi], ?_⟩
  conv => whnf
  obtain ⟨e1', H1, hc1, i1, rfl, p1, q1, r1, f1⟩ := copied_ret hv n1 n6 H
  obtain ⟨e2', H2, hc2, i2, rfl, p2, q2, r2, f2⟩ := copied_ret hv n1 n6 H1
  obtain ⟨e3', H3, hc3, i3, rfl, p3, q3, r3, f3⟩ := copied_ret hv n1 n6 H2
  obtain ⟨e4', H4, hc4, i4, rfl, p4, q4, r4, f4⟩ := copied_ret hv n1 n6 H3
  have m1 := f1.n; have m2 := f2.n; have m3 := f3.n; have m4 := f4.n
  have d1 := (f1.keep 0 (by omega) (fun x => x)).trans b0
  have d2 := (f2.keep 0 (by omega) (fun x => x)).trans d1
  have d3 := (f3.keep 0 (by omega) (fun x => x)).trans d2
  have d4 := (f4.keep 0 (by omega) (fun x => x)).trans d3
  obtain ⟨Y, hY, Yn, Yo, y1, y2, y3, y4⟩ := four_new (H := H4) (a := .blk (oA c.bales.length c i1)) (b := .blk (oA c.bales.length c i2)) (c := .blk (oA c.bales.length c i3)) (d := .blk (oA c.bales.length c i4))
  have WW : WI i1 i2 i3 i4 H4.n := ⟨by omega, by omega, by omega, by omega, q4⟩
  refine then_via (hm := false) (fun st => Has st 331 [(2, .c (.lit (.int .u8 a2))), (3, .ptr 0 0), (7, .c (I v.sn)), (8, .c (I i)), (9, .ptr H4.n 0), (10, .ptr (H4.n + 1) 0), (11, .ptr (H4.n + 2) 0), (12, .ptr (H4.n + 3) 0)] [] none Y) ?_ ?_
  · skip
    refine mixedM_by (hm := false) 8 4 [9, 10, 11, 12] (by kernel_rfl) (by kernel_rfl) (by kernel_rfl) ?_
    conv => whnf
    refine ⟨_, b0, ?_⟩
    conv => whnf
    refine .heavy _ H1 (.inl hc1) ?_
    conv => whnf
    refine ⟨_, d1, ?_⟩
    conv => whnf
    refine .heavy _ H2 (.inl hc2) ?_
    conv => whnf
    refine ⟨_, d2, ?_⟩
    conv => whnf
    refine .heavy _ H3 (.inl hc3) ?_
    conv => whnf
    refine ⟨_, d3, ?_⟩
    conv => whnf
    refine .heavy _ H4 (.inl hc4) ?_
    conv => whnf
    refine ⟨_, (at_push_lt _ _ (by simp only [push_n]; omega)).trans ((at_push_lt _ _ (by simp only [push_n]; omega)).trans ((at_push_lt _ _ (by simp only [push_n]; omega)).trans (at_push_self _ _))), ?_⟩
    conv => whnf
    refine ⟨by show H4.n < TMap.n _; simp only [push_n]; omega, ?_⟩
    conv => whnf
    refine ⟨_, (at_set_ne _ _ (by simp only [push_n]; omega)).trans ((at_push_lt _ _ (by simp only [push_n]; omega)).trans ((at_push_lt _ _ (by simp only [push_n]; omega)).trans (at_push_self _ _))), ?_⟩
    conv => whnf
    refine ⟨by simp only [TMap.set_n, push_n]; omega, ?_⟩
    conv => whnf
    refine ⟨_, (at_set_ne _ _ (by simp only [push_n]; omega)).trans ((at_set_ne _ _ (by simp only [push_n]; omega)).trans ((at_push_lt _ _ (by simp only [push_n]; omega)).trans (at_push_self _ _))), ?_⟩
    conv => whnf
    refine ⟨by simp only [TMap.set_n, push_n]; omega, ?_⟩
    conv => whnf
    refine ⟨_, (at_set_ne _ _ (by simp only [push_n]; omega)).trans ((at_set_ne _ _ (by simp only [push_n]; omega)).trans ((at_set_ne _ _ (by simp only [push_n]; omega)).trans (at_push_self _ _))), ?_⟩
    conv => whnf
    refine ⟨by simp only [TMap.set_n, push_n]; omega, ?_⟩
    conv => whnf
    refine ⟨by kernel_rfl, ?_, by kernel_rfl, by kernel_rfl, ⟨[⟨8, 9, [nilC, I 0, I 0, I 0]⟩, ⟨9, 10, [nilC, I 0, I 0, I 0]⟩, ⟨10, 11, [nilC, I 0, I 0, I 0]⟩, ⟨11, 12, [nilC, I 0, I 0, I 0]⟩], rfl, ⟨rfl, trivial, H4, ⟨⟨_, 24, rfl, rfl, rfl, rfl, by kernel_rfl⟩, rfl, rfl, rfl, ?_⟩⟩, ⟨rfl, trivial, _, ⟨⟨_, 24, rfl, rfl, rfl, rfl, by kernel_rfl⟩, rfl, rfl, rfl, ?_⟩⟩, ⟨rfl, trivial, _, ⟨⟨_, 24, rfl, rfl, rfl, rfl, by kernel_rfl⟩, rfl, rfl, rfl, ?_⟩⟩, ⟨rfl, trivial, _, ⟨⟨_, 24, rfl, rfl, rfl, rfl, by kernel_rfl⟩, rfl, rfl, rfl, ?_⟩⟩, trivial⟩, ?_⟩
    · exact heaps_eq (l' := [(0, H, H1), (0, H, H1), (0, H, H1), (0, H1, H2), (0, H1, H2), (0, H2, H3)]) (by kernel_rfl) (heaps_cons (d1.trans b0.symm) (heaps_cons (d1.trans b0.symm) (heaps_cons (d1.trans b0.symm) (heaps_cons (d2.trans d1.symm) (heaps_cons (d2.trans d1.symm) (heaps_cons (d3.trans d2.symm) (by simp [HeapsOk])))))))
    · simp
    · simp
    · simp
    · simp
    exact ⟨rfl, ⟨rfl, rfl, rfl, rfl, rfl, rfl, rfl, rfl, trivial⟩, rfl, rfl, rfl, hY.symm⟩
  rintro st hs
  have W0 : WH v c i1 i2 i3 i4 H4.n c c c c Y := ⟨(Yo 0 (by omega)).trans d4, y1, y2, y3, y4, (Yo i1 (by omega)).trans ((f4.keep i1 (by omega) (fun x => x)).trans ((f3.keep i1 (by omega) (fun x => x)).trans ((f2.keep i1 (by omega) (fun x => x)).trans r1))), (Yo i2 (by omega)).trans ((f4.keep i2 (by omega) (fun x => x)).trans ((f3.keep i2 (by omega) (fun x => x)).trans r2)), (Yo i3 (by omega)).trans ((f4.keep i3 (by omega) (fun x => x)).trans r3), (Yo i4 (by omega)).trans r4, by omega⟩
  obtain ⟨p, hp⟩ : ∃ p, p = H4.n := ⟨_, rfl⟩
  rw [← hp] at hs W0 WW Yn
  have p0 : 5 ≤ p := by have := WW.a0; have := WW.a1; have := WW.a2; have := WW.a3; have := WW.a4; omega
  clear hY Yo y1 y2 y3 y4 hp hc1 hc2 hc3 hc4 f1 f2 f3 f4 r1 r2 r3 r4 p1 p2 p3 p4 q1 q2 q3 q4 m1 m2 m3 m4 d1 d2 d3 d4 b0 Hn
  have k0 := hg.k0; have k1 := hg.k1; have g0 := hg.d0; have g1 := hg.d1
  obtain ⟨dx, hdx⟩ : ∃ dx : Ln, dx = { c with mist := max 0 (c.mist - 1) } := ⟨_, rfl⟩
  obtain ⟨dy, hdy⟩ : ∃ dy : Ln, dy = { c with drift := max 0 (c.drift - 1) } := ⟨_, rfl⟩
  have sx : SubL c dx := by rw [hdx]; exact sub_mist (by omega)
  have sy : SubL c dy := by rw [hdy]; exact sub_drift (by omega)
  have gx : dx.Good := by rw [hdx]; exact ⟨hg.n1, hg.n6, hg.bl, hg.m0, hg.m1, hg.d0, hg.d1, by show (0 : Int) ≤ max 0 (c.mist - 1); omega, by show max 0 (c.mist - 1) ≤ (6 : Int); omega⟩
  have gy : dy.Good := by rw [hdy]; exact ⟨hg.n1, hg.n6, hg.bl, hg.m0, hg.m1, by show (0 : Int) ≤ max 0 (c.drift - 1); omega, by show max 0 (c.drift - 1) ≤ (30 : Int); omega, hg.k0, hg.k1⟩
  refine hs.then ?_
  conv => whnf
  refine then_via (hm := false) (fun st => ∃ g, WH v c i1 i2 i3 i4 p dx dy c c g ∧ Has st 331 [(2, .c (.lit (.int .u8 a2))), (3, .ptr 0 0), (7, .c (I v.sn)), (8, .c (I i)), (9, .ptr p 0), (10, .ptr (p + 1) 0), (11, .ptr (p + 2) 0), (12, .ptr (p + 3) 0)] [] none g) ?_ ?_
  · skip
    refine draw_by (hm := false) (by kernel_rfl) (by kernel_rfl) ?_
    conv => whnf
    refine ⟨_, W0.b0, ?_⟩
    conv => whnf
    refine ⟨c.mist - 1, by rw [wrap_eq (by omega) (by omega)], ?_⟩
    conv => whnf
    refine ⟨_, W0.b0, ?_⟩
    conv => whnf
    refine ⟨c.drift - 1, by rw [wrap_eq (by omega) (by omega)], ?_⟩
    conv => whnf
    refine ⟨_, W0.bx, ?_⟩
    conv => whnf
    refine ⟨by show p < Y.n; omega, ?_⟩
    conv => whnf
    refine ⟨_, (at_set_ne _ _ (by omega)).trans W0.bY, ?_⟩
    conv => whnf
    refine ⟨by rw [TMap.set_n]; omega, ?_⟩
    conv => whnf
    obtain ⟨π, z0, z1, z2⟩ : ∃ π : Nat → Nat, π 0 = 0 ∧ π p = 1 ∧ π (p + 1) = 2 := ⟨fun x => if x = 0 then 0 else if x = p then 1 else 2, by dsimp only; rw [if_pos rfl], by dsimp only; rw [if_neg (by omega), if_pos rfl], by dsimp only; rw [if_neg (by omega), if_neg (by omega)]⟩
    refine ⟨pairs_via π [⟨0, _, _, [], []⟩, ⟨1, _, _, [π 0], []⟩, ⟨2, _, _, [], []⟩, ⟨3, _, _, [], []⟩, ⟨4, _, _, [], []⟩, ⟨5, _, _, [π 0], []⟩, ⟨6, _, _, [], []⟩, ⟨7, _, _, [], []⟩, ⟨8, _, _, [], []⟩, ⟨9, _, _, [π p], [π p]⟩, ⟨10, _, _, [], []⟩, ⟨11, _, _, [π (p + 1)], [π (p + 1)]⟩] rfl (by rw [z0, z1, z2]; kernel_rfl), ?_⟩
    conv => whnf
    have w0 := WW.a0; have w1 := WW.a1; have w2 := WW.a2; have w3 := WW.a3; have w4 := WW.a4
    have old : ∀ (j : Nat) (A B : AB), j ≠ p → j ≠ p + 1 → Heap.at ((Y.set .dead p A).set .dead (p + 1) B) j = Heap.at Y j := fun j A B h1 h2 => (at_set_ne _ _ h2).trans (at_set_ne _ _ h1)
    refine ⟨_, ⟨(old _ _ _ (by omega) (by omega)).trans W0.b0, ?_, ?_, (old _ _ _ (by omega) (by omega)).trans W0.bz, (old _ _ _ (by omega) (by omega)).trans W0.bt, ?_, ?_, (old _ _ _ (by omega) (by omega)).trans W0.rz, (old _ _ _ (by omega) (by omega)).trans W0.rt, ?_⟩, rfl, ⟨rfl, rfl, rfl, rfl, rfl, rfl, rfl, rfl, trivial⟩, rfl, rfl, rfl, rfl⟩
    · rw [at_set_ne _ _ (by omega), at_set_self _ _ (by omega), hdx]; rfl
    · rw [at_set_self _ _ (by rw [TMap.set_n]; omega), hdy]; rfl
    · rw [old _ _ _ (by omega) (by omega), W0.rx, hdx]; rfl
    · rw [old _ _ _ (by omega) (by omega), W0.ry, hdy]; rfl
    · rw [TMap.set_n, TMap.set_n]; omega
  clear hs W0
  rintro st ⟨g, W, hs⟩
  have w0 := WW.a0; have w1 := WW.a1; have w2 := WW.a2; have w3 := WW.a3; have w4 := WW.a4
  have hbi := bale_get hin
  have hgb := bale_good hg hin
  have l0 := hgb.l0; have l1 := hgb.l1; have f1 := hgb.f1; have f2 := hgb.f2; have o0 := hgb.w0; have o1 := hgb.w1
  have rdl : readVar Try.prog 3 ((rowsC c.bales).map AV.c) (0 + (i : Int).toNat * 3 + 1) = some (.c (I (baleAt c i).l)) := by
    refine readVar_map ?_
    rw [rv3, Int.toNat_natCast, Nat.zero_add]
    exact rowsC_get hbi
  have rdf : readVar Try.prog 3 ((rowsC c.bales).map AV.c) (0 + (i : Int).toNat * 3 + 0) = some (.c (I (baleAt c i).f)) := by
    refine readVar_map ?_
    rw [rv3, Int.toNat_natCast, Nat.zero_add]
    exact rowsC_f hbi
  obtain ⟨b, hb⟩ : ∃ b : Int, b = ((a2 % 2 : Nat) : Int) := ⟨_, rfl⟩
  have hb01 : b = 0 ∨ b = 1 := by omega
  refine hs.then ?_
  conv => whnf
  refine then_via (hm := false) (fun st => ∃ g dz, WH v c i1 i2 i3 i4 p dx dy dz c g ∧ SubL c dz ∧ dz.Good ∧ Has st 331 [(2, .c (.lit (.int .u8 a2))), (3, .ptr 0 0), (7, .c (I v.sn)), (9, .ptr p 0), (10, .ptr (p + 1) 0), (11, .ptr (p + 2) 0), (12, .ptr (p + 3) 0)] [] none g) ?_ ?_
  · conv => whnf
    refine ⟨_, W.bz, ?_⟩
    conv => whnf
    refine ⟨⟨rfl, by omega, by omega⟩, ?_⟩
    conv => whnf
    refine draw_by (hm := false) (by kernel_rfl) (by kernel_rfl) ?_
    conv => whnf
    refine ⟨_, W.rz, ?_⟩
    conv => whnf
    refine look_read (rdl) ?_
    conv => whnf
    refine ⟨_, W.rz, ?_⟩
    conv => whnf
    refine look_read (rdf) ?_
    conv => whnf
    refine ⟨by kernel_rfl, ?_⟩
    conv => whnf
    cases hlf : decide ((baleAt c i).l < (baleAt c i).f)
    · conv => whnf
      exact ⟨g, c, W, sub_mist (c := c) (m := c.mist) (Int.le_refl _), hg, rfl, ⟨rfl, rfl, rfl, rfl, rfl, rfl, rfl, trivial⟩, rfl, rfl, rfl, rfl⟩
    have hl := of_decide_eq_true hlf
    obtain ⟨cL, hcL⟩ : ∃ cL : Ln, cL = { c with bales := c.bales.set i { baleAt c i with l := (baleAt c i).l + 1 } } := ⟨_, rfl⟩
    have hbL : cL.bales[i]? = some { baleAt c i with l := (baleAt c i).l + 1 } := by rw [hcL]; exact List.getElem?_set_self hin
    have put1 : putAt ((rowsC c.bales).map AV.c) (0 + (i : Int).toNat * 3 + 1) [.c (I ((baleAt c i).l + 1))] = some ((rowsC cL.bales).map AV.c) := by rw [hcL]; exact rowsC_put1 _ hbi
    have put2 : putAt ((rowsC cL.bales).map AV.c) (0 + (i : Int).toNat * 3 + 2) [.c (I ((baleAt c i).w + b))] = some ((rowsC (lookM c i b).bales).map AV.c) := by
      rw [rowsC_put2 _ hbL, hcL]
      show some ((rowsC ((c.bales.set i _).set i _)).map AV.c) = _
      rw [List.set_set]
      rfl
    have rdw : readVar Try.prog 3 ((rowsC cL.bales).map AV.c) (0 + (i : Int).toNat * 3 + 2) = some (.c (I (baleAt c i).w)) := by
      refine readVar_map ?_
      rw [rv3, Int.toNat_natCast, Nat.zero_add]
      have := rowsC_w hbL
      exact this
    have W1 : WH v c i1 i2 i3 i4 p dx dy cL c (g.set .dead i3 (rowB cL)) := W.setz WW (by rw [hcL]) (by rw [hcL]) (by rw [hcL])
    have W2 : WH v c i1 i2 i3 i4 p dx dy (lookM c i b) c ((g.set .dead i3 (rowB cL)).set .dead i3 (rowB (lookM c i b))) := W1.setz WW (by rw [hcL]; rfl) (by rw [hcL]; rfl) (by rw [hcL]; rfl)
    conv => whnf
    refine ⟨_, W.rz, ?_⟩
    conv => whnf
    refine look_read (rdl) ?_
    conv => whnf
    refine ⟨(baleAt c i).l + 1, by rw [wrap_eq (by omega) (by omega)], ?_⟩
    conv => whnf
    refine ⟨_, W.rz, ?_⟩
    conv => whnf
    refine look_put (put1) ?_
    conv => whnf
    refine forceL_intro ?_
    conv => whnf
    refine ⟨_, W1.rz, ?_⟩
    conv => whnf
    refine look_read (rdw) ?_
    conv => whnf
    refine ⟨by decide, b, (rem_nat ha2 2).trans hb.symm, ?_⟩
    conv => whnf
    refine ⟨(baleAt c i).w + b, by rw [wrap_eq (by omega) (by omega)], ?_⟩
    conv => whnf
    refine ⟨_, W1.rz, ?_⟩
    conv => whnf
    refine look_put (put2) ?_
    conv => whnf
    refine forceL_intro ?_
    conv => whnf
    exact ⟨_, lookM c i b, W2, sub_look hin hb01, lookM_good hg hin hb01 hl, rfl, ⟨rfl, rfl, rfl, rfl, rfl, rfl, rfl, trivial⟩, rfl, rfl, rfl, rfl⟩
  clear hs W hbi rdl rdf l0 l1 f1 f2 o0 o1 hgb hb01 hb
  rintro st ⟨g, dz, W, sz, gz, hs⟩
  refine hs.then ?_
  conv => whnf
  refine then_via (hm := false) (fun st => ∃ g, WH v c i1 i2 i3 i4 p dx dy dz (revL c) g ∧ Has st 331 [(2, .c (.lit (.int .u8 a2))), (3, .ptr 0 0), (7, .c (I v.sn)), (9, .ptr p 0), (10, .ptr (p + 1) 0), (11, .ptr (p + 2) 0), (12, .ptr (p + 3) 0)] [] none g) ?_ ?_
  · conv => whnf
    refine ⟨_, W.bt, ?_⟩
    conv => whnf
    refine loop_by (I := fun n st => ∃ (q : Nat) (g : Heap), q ≤ c.bales.length ∧ n = c.bales.length - q ∧ WH v c i1 i2 i3 i4 p dx dy dz (turnL c q) g ∧ Has st 331 [(2, .c (.lit (.int .u8 a2))), (3, .ptr 0 0), (7, .c (I v.sn)), (9, .ptr p 0), (10, .ptr (p + 1) 0), (11, .ptr (p + 2) 0), (12, .ptr (p + 3) 0), (106, .c (I c.bales.length)), (107, .c (I q))] [] none g) ?_ (k := c.bales.length)
      ⟨0, g, Nat.zero_le _, rfl, by rw [turn_zero]; exact W, rfl, ⟨rfl, rfl, rfl, rfl, rfl, rfl, rfl, rfl, rfl, trivial⟩, rfl, rfl, rfl, rfl⟩
    clear W hs
    rintro n st ⟨q, g, hq, rfl, W, hs1⟩
    refine hs1.run (hm := false) ?_
    conv => whnf
    cases hcq : decide ((q : Int) < ((c.bales.length : Nat) : Int))
    case false =>
      have : q = c.bales.length := by simp at hcq; omega
      subst this
      rw [turn_all] at W
      conv => whnf
      exact ⟨g, W, rfl, ⟨rfl, rfl, rfl, rfl, rfl, rfl, rfl, trivial⟩, rfl, rfl, rfl, rfl⟩
    have hq : q < c.bales.length := by simp at hcq; omega
    have hbr := bale_get (c := c) (i := c.bales.length - 1 - q) (by omega)
    have hpt := turn_put hq
    have W' := W.sett WW (d := turnL c (q + 1)) rfl rfl rfl
    have w0 := WW.a0; have w1 := WW.a1; have w2 := WW.a2; have w3 := WW.a3; have w4 := WW.a4
    conv => whnf
    refine draw_by (hm := false) (by kernel_rfl) (by kernel_rfl) ?_
    conv => whnf
    refine ⟨_, W.bt, ?_⟩
    conv => whnf
    refine ⟨_, W.b0, ?_⟩
    conv => whnf
    refine ⟨((c.bales.length - 1 : Nat) : Int), by rw [wrap_eq (by omega) (by omega)]; omega, ?_⟩
    conv => whnf
    refine ⟨((c.bales.length - 1 - q : Nat) : Int), by rw [wrap_eq (by omega) (by omega)]; omega, ?_⟩
    conv => whnf
    refine ⟨⟨by omega, by omega⟩, ?_⟩
    conv => whnf
    refine ⟨_, hv.bale hbr, ?_⟩
    conv => whnf
    refine ⟨⟨rfl, by omega, by omega⟩, ?_⟩
    conv => whnf
    refine ⟨_, W.rt, ?_⟩
    conv => whnf
    refine look_put hpt ?_
    refine ⟨by have := W.n; omega, ?_⟩
    conv => whnf
    refine forceL_intro ?_
    conv => whnf
    obtain ⟨π, z0, z1, z2⟩ : ∃ π : Nat → Nat, π 0 = 0 ∧ π (p + 3) = 1 ∧ π i4 = 2 := ⟨fun x => if x = 0 then 0 else if x = p + 3 then 1 else 2, by dsimp only; rw [if_pos rfl], by dsimp only; rw [if_neg (by omega), if_pos rfl], by dsimp only; rw [if_neg (by omega), if_neg (by omega)]⟩
    refine ⟨pairs_via π [⟨0, _, _, [], []⟩, ⟨1, _, _, [π (p + 3)], []⟩, ⟨2, _, _, [], []⟩, ⟨3, _, _, [], []⟩, ⟨4, _, _, [π 0], []⟩, ⟨5, _, _, [], []⟩, ⟨6, _, _, [], []⟩, ⟨7, _, _, [], []⟩, ⟨8, _, _, [], []⟩, ⟨9, _, _, [], []⟩, ⟨10, _, _, [], []⟩, ⟨11, _, _, [], []⟩, ⟨12, _, _, [π i4], [π i4]⟩] rfl (by rw [z0, z1, z2]; kernel_rfl), ?_⟩
    conv => whnf
    refine ⟨((q + 1 : Nat) : Int), by rw [wrap_eq (by omega) (by omega)]; omega, ?_⟩
    conv => whnf
    exact ⟨c.bales.length - (q + 1), by omega, q + 1, _, by omega, rfl, W', rfl, ⟨rfl, rfl, rfl, rfl, rfl, rfl, rfl, rfl, rfl, trivial⟩, rfl, rfl, rfl, rfl⟩
  clear hs W
  rintro st ⟨g, W, hs⟩
  have wn := W.n
  obtain ⟨e5', H5, hc5, i5, rfl, p5, q5, r5, f5⟩ := copied_ret hv n1 n6 g
  have m5 := f5.n
  have w0 := WW.a0; have w1 := WW.a1; have w2 := WW.a2; have w3 := WW.a3; have w4 := WW.a4
  obtain ⟨k, hk⟩ : ∃ k, k = a2 / 2 % c.bales.length := ⟨_, rfl⟩
  have hkn : k < c.bales.length := by rw [hk]; exact Nat.mod_lt _ (by omega)
  refine hs.then ?_
  conv => whnf
  repeat (refine then_seq (hm := false) ?_; conv => whnf)
  refine ⟨_, W.b0, ?_⟩
  conv => whnf
  refine .inl _ H5 .no hc5 ?_
  conv => whnf
  refine ⟨_, at_push_self _ _, ?_⟩
  conv => whnf
  generalize hG : TMap.set AB.dead (TMap.push AB.dead H5 _) _ _ = G
  have Gn : G.n = H5.n + 1 := by rw [← hG]; exact new_n _ _ _
  have Go : ∀ i, i < H5.n → Heap.at G i = Heap.at H5 i := fun i hi => by rw [← hG]; exact at_old _ _ _ hi
  have Gk : Heap.at G H5.n = .blk (ownA c i5) := by rw [← hG]; exact at_new _ _ _
  clear hG
  have G5 : Heap.at G i5 = rowB c := (Go i5 q5).trans r5
  have WG : WH v c i1 i2 i3 i4 p dx dy dz (revL c) G := W.ext WW (by omega) (fun i hi => (Go i (by omega)).trans (f5.keep i (by omega) (fun x => x)))
  repeat (refine then_seq (hm := false) ?_; conv => whnf)
  refine ⟨by decide, ((a2 / 2 : Nat) : Int), by rw [wrap_u8 ha2, Int.tdiv_eq_ediv_of_nonneg (by omega), wrap_eq (by omega) (by omega)]; omega, ?_⟩
  conv => whnf
  refine ⟨by omega, (k : Int), by rw [e1, Int.tmod_eq_emod_of_nonneg (by omega), hk]; omega, ?_⟩
  conv => whnf
  obtain ⟨A, B', X, Z, t, m, e, T⟩ := base_told hd hkn
  have cw := wrongX_ret hv (k : Int)
  rw [T.wr] at cw
  have ca := allX_ret hv
  rw [T.al] at ca
  have cl := lineX_ret hv
  rw [T.kp] at cl
  have cm := mistX_ret hv
  rw [T.mi] at cm
  dsimp only [pairI, pairS, spV] at cw ca cl cm
  repeat (refine then_seq (hm := false) ?_; conv => whnf)
  repeat (refine then_seq (hm := false) ?_; conv => whnf)
  refine ⟨_, WG.b0, ?_⟩
  conv => whnf
  refine .ret (cw) rfl ?_
  conv => whnf
  refine ⟨_, at_push_self _ _, ?_⟩
  conv => whnf
  generalize hJ : TMap.set AB.dead (TMap.push AB.dead G _) _ _ = J
  have Jn : J.n = G.n + 1 := by rw [← hJ]; exact new_n _ _ _
  have Jo : ∀ i, i < G.n → Heap.at J i = Heap.at G i := fun i hi => by rw [← hJ]; exact at_old _ _ _ hi
  have Js : Heap.at J G.n = .blk [.c (I A), .c (I B')] := by rw [← hJ]; exact at_new _ _ _
  clear hJ
  have WJ := WG.ext WW (g' := J) (by omega) (fun i hi => Jo i (by omega))
  repeat (refine then_seq (hm := false) ?_; conv => whnf)
  refine ⟨_, WJ.b0, ?_⟩
  conv => whnf
  refine .ret (ca) rfl ?_
  conv => whnf
  refine ⟨_, at_push_self _ _, ?_⟩
  conv => whnf
  generalize hK : TMap.set AB.dead (TMap.push AB.dead J _) _ _ = K
  have Kn : K.n = J.n + 1 := by rw [← hK]; exact new_n _ _ _
  have Ko : ∀ i, i < J.n → Heap.at K i = Heap.at J i := fun i hi => by rw [← hK]; exact at_old _ _ _ hi
  have Ks : Heap.at K J.n = .blk [.c (I X), .c (I Z)] := by rw [← hK]; exact at_new _ _ _
  clear hK
  have WK := WJ.ext WW (g' := K) (by omega) (fun i hi => Ko i (by omega))
  repeat (refine then_seq (hm := false) ?_; conv => whnf)
  refine ⟨_, WK.b0, ?_⟩
  conv => whnf
  refine .ret (cl) rfl ?_
  conv => whnf
  repeat (refine then_seq (hm := false) ?_; conv => whnf)
  refine ⟨_, WK.b0, ?_⟩
  conv => whnf
  refine .ret (cm) rfl ?_
  conv => whnf
  repeat (refine then_seq (hm := false) ?_; conv => whnf)
  have ee : (e != e) = false := by simp
  rw [ee]
  conv => whnf
  rw [ee]
  conv => whnf
  obtain ⟨P, hP⟩ : ∃ P, P = H5.n := ⟨_, rfl⟩
  have gj : G.n = P + 1 := by omega
  have jj : J.n = P + 2 := by omega
  have kk : K.n = P + 3 := by omega
  have QK : WX v c i1 i2 i3 i4 p dx dy dz (revL c) i5 P A B' X Z K := ⟨WK, by rw [hP]; exact (Ko _ (by omega)).trans ((Jo _ (by omega)).trans Gk), (Ko _ (by omega)).trans ((Jo _ (by omega)).trans G5), by rw [← gj]; exact (Ko _ (by omega)).trans Js, by rw [← jj]; exact Ks, by omega⟩
  have P5 : p + 4 ≤ i5 := by omega
  have P6 : i5 < P := by omega
  refine then_via (hm := false) (fun st => ∃ g, WX v c i1 i2 i3 i4 p dx dy dz (revL c) i5 P A B' X Z g ∧ Has st 331 [(3, .ptr 0 0), (7, .c (I v.sn)), (12, .ptr (p + 3) 0), (15, .ptr P 0), (16, .c (I k)), (18, .ptr (P + 1) 0), (19, .c (I e)), (20, .ptr (P + 2) 0), (21, .c (I e)), (22, .c (I t)), (23, .c (I e)), (24, .c (I m)), (25, .c (I 0))] [] none g) ?_ ?_
  · conv => whnf
    refine ⟨_, WK.bx, ?_⟩
    conv => whnf
    refine ⟨_, WK.bY, ?_⟩
    conv => whnf
    refine ⟨_, WK.bz, ?_⟩
    conv => whnf
    generalize hL : TMap.push AB.dead K _ = L
    have Ln' : L.n = P + 4 := by rw [← hL, push_n, kk]
    have Lo : ∀ i, i < P + 3 → Heap.at L i = Heap.at K i := fun i hi => by rw [← hL]; exact at_push_lt _ _ (by omega)
    obtain ⟨CC, hCC⟩ : ∃ CC, CC = oA c.bales.length dx i1 ++ (oA c.bales.length dy i2 ++ oA c.bales.length dz i3) := ⟨_, rfl⟩
    have Ls : Heap.at L (P + 3) = .blk CC := by rw [← hL, ← kk, hCC]; exact at_push_self _ _
    clear hL
    have QL := QK.ext WW P5 P6 (g' := L) (by omega) Lo
    refine loop_by (I := fun n st => ∃ (q : Nat) (g : Heap), q ≤ 3 ∧ n = 3 - q ∧ WX v c i1 i2 i3 i4 p dx dy dz (revL c) i5 P A B' X Z g ∧ Heap.at g (P + 3) = .blk CC ∧ P + 4 ≤ g.n ∧ Has st 331 [(3, .ptr 0 0), (7, .c (I v.sn)), (12, .ptr (p + 3) 0), (15, .ptr P 0), (16, .c (I k)), (17, .c (.func (.func 29) [] [])), (18, .ptr (P + 1) 0), (19, .c (I e)), (20, .ptr (P + 2) 0), (21, .c (I e)), (22, .c (I t)), (23, .c (I e)), (24, .c (I m)), (25, .c (I 0)), (166, .msl (P + 3) 4 0 3 3), (167, .c (I 3)), (168, .c (I q))] [] none g) ?_ (k := 3)
      ⟨0, L, by omega, rfl, QL, Ls, by omega, rfl, ⟨rfl, rfl, rfl, by rw [hP]; rfl, rfl, rfl, by rw [← gj]; rfl, rfl, by rw [← jj]; rfl, rfl, rfl, rfl, rfl, rfl, by rw [← kk]; rfl, rfl, rfl, trivial⟩, rfl, rfl, rfl, rfl⟩
    clear hs QL QK WK WG W Ls Lo
    rintro n st ⟨q, g, hq, rfl, Q, gl, gn, hs1⟩
    refine (hs1.then ?_).1
    conv => whnf
    repeat (refine then_seq (hm := false) ?_; conv => whnf)
    cases hcq : decide ((q : Int) < 3)
    case false =>
      conv => whnf
      exact ⟨g, Q, rfl, ⟨rfl, rfl, rfl, rfl, rfl, rfl, rfl, rfl, rfl, rfl, rfl, rfl, rfl, trivial⟩, rfl, rfl, rfl, rfl⟩
    have hq : q < 3 := by simp at hcq; omega
    obtain ⟨d, id, sd, gd, rd, hid, hrd⟩ := three_read (n := c.bales.length) (i1 := i1) (i2 := i2) (i3 := i3) sx sy sz gx gy gz Q.W.rx Q.W.ry Q.W.rz hq
    rw [← hCC] at hrd
    have idp : id < p := by omega
    have hvd := valid_good.2 gd
    obtain ⟨a', b', x', y', t', m', j, D⟩ := sub_told T sd hd hvd hkn
    have isd := lvOf_ok gd
    have dw := wrongX_ret isd (k : Int)
    rw [D.wr] at dw
    have da := allX_ret isd
    rw [D.al] at da
    have dl := lineX_ret isd
    rw [D.kp] at dl
    have dm := mistX_ret isd
    rw [D.mi] at dm
    dsimp only [pairI, pairS, spV] at dw da dl dm
    conv => whnf
    repeat (refine then_seq (hm := false) ?_; conv => whnf)
    refine ⟨⟨rfl, by omega, by omega⟩, ?_⟩
    conv => whnf
    refine ⟨_, gl, ?_⟩
    conv => whnf
    refine look_read hrd ?_
    generalize hV : AV.agg (oA c.bales.length d id) = V
    rw [fin_eq]
    refine wOps_opaque fun KK hKK => ?_
    conv => whnf -- X1
    refine ⟨_, at_push_self _ _, ?_⟩
    subst hV
    conv => whnf
    subst hKK
    conv => whnf -- X3
    generalize hL1 : TMap.set AB.dead (TMap.push AB.dead g _) _ _ = L1
    have n1' : L1.n = g.n + 1 := by rw [← hL1]; exact new_n _ _ _
    have o1 : ∀ i, i < g.n → Heap.at L1 i = Heap.at g i := fun i hi => by rw [← hL1]; exact at_old _ _ _ hi
    have b1 : Heap.at L1 g.n = .blk (oA c.bales.length d id) := by rw [← hL1]; exact at_new _ _ _
    clear hL1
    repeat (refine then_seq (hm := false) ?_; conv => whnf)
    refine ⟨_, b1, ?_⟩
    conv => whnf
    refine own_call (c := d) sd.len ((o1 id (by omega)).trans rd) (cs := [I k]) dw rfl ?_
    conv => whnf
    refine ⟨_, at_push_self _ _, ?_⟩
    conv => whnf
    generalize hL2 : TMap.set AB.dead (TMap.push AB.dead L1 _) _ _ = L2
    have n2' : L2.n = g.n + 2 := by rw [← hL2, new_n, n1']
    have o2 : ∀ i, i < L1.n → Heap.at L2 i = Heap.at L1 i := fun i hi => by rw [← hL2]; exact at_old _ _ _ hi
    have b2 : Heap.at L2 L1.n = .blk [.c (I a'), .c (I b')] := by rw [← hL2]; exact at_new _ _ _
    clear hL2
    repeat (refine then_seq (hm := false) ?_; conv => whnf)
    have b12 := (o2 g.n (by omega)).trans b1
    refine ⟨_, b12, ?_⟩
    conv => whnf
    refine own_call (c := d) sd.len ((o2 id (by omega)).trans ((o1 id (by omega)).trans rd)) (cs := []) da rfl ?_
    conv => whnf
    refine ⟨_, at_push_self _ _, ?_⟩
    conv => whnf
    generalize hL3 : TMap.set AB.dead (TMap.push AB.dead L2 _) _ _ = L3
    have n3' : L3.n = g.n + 3 := by rw [← hL3, new_n, n2']
    have o3 : ∀ i, i < L2.n → Heap.at L3 i = Heap.at L2 i := fun i hi => by rw [← hL3]; exact at_old _ _ _ hi
    have b3 : Heap.at L3 L2.n = .blk [.c (I x'), .c (I y')] := by rw [← hL3]; exact at_new _ _ _
    clear hL3
    have old : ∀ i, i < g.n → Heap.at L3 i = Heap.at g i := fun i hi => (o3 i (by omega)).trans ((o2 i (by omega)).trans (o1 i hi))
    have b13 := (o3 g.n (by omega)).trans ((o2 _ (by omega)).trans b1)
    have b23 := (o3 L1.n (by omega)).trans b2
    have Q3 := Q.ext WW P5 P6 (g' := L3) (by omega) (fun i hi => old i (by omega))
    repeat (refine then_seq (hm := false) ?_; conv => whnf)
    refine ⟨_, b13, ?_⟩
    conv => whnf
    refine own_call (c := d) sd.len ((old id (by omega)).trans rd) (cs := []) dl rfl ?_
    conv => whnf
    repeat (refine then_seq (hm := false) ?_; conv => whnf)
    refine ⟨_, b13, ?_⟩
    conv => whnf
    refine own_call (c := d) sd.len ((old id (by omega)).trans rd) (cs := []) dm rfl ?_
    conv => whnf
    have mm := decide_eq_false (show ¬ m' < m by have := D.mm; omega)
    have jj' : (j != j) = false := by simp
    repeat (refine then_seq (hm := false) ?_; conv => whnf)
    rw [jj']
    conv => whnf
    rw [jj']
    conv => whnf
    rw [mm]
    conv => whnf
    rcases D.or with hj | ⟨hj, he, hAA, hXX, ht⟩
    · subst hj
      conv => whnf
      refine then_end (hm := false) ?_
      conv => whnf
      refine ⟨((q + 1 : Nat) : Int), by rw [wrap_eq (by omega) (by omega)]; omega, ?_⟩
      conv => whnf
      exact ⟨3 - (q + 1), by omega, q + 1, L3, by omega, rfl, Q3, (old _ (by omega)).trans gl, by omega, rfl, ⟨rfl, rfl, rfl, rfl, rfl, rfl, rfl, rfl, rfl, rfl, rfl, rfl, rfl, rfl, rfl, rfl, rfl, trivial⟩, rfl, rfl, rfl, rfl⟩
    · subst hj
      subst he
      conv => whnf
      refine ⟨_, b23, ?_⟩
      conv => whnf
      refine ⟨_, Q3.s1, ?_⟩
      conv => whnf
      refine .ret (inW_ret a' b' A B') rfl ?_
      conv => whnf
      rw [decide_eq_true (show a' ≥ A from hAA.1), decide_eq_true (show b' ≤ B' from hAA.2)]
      conv => whnf
      refine ⟨_, b3, ?_⟩
      conv => whnf
      refine ⟨_, Q3.s2, ?_⟩
      conv => whnf
      refine .ret (inW_ret x' y' X Z) rfl ?_
      conv => whnf
      rw [decide_eq_true (show x' ≥ X from hXX.1), decide_eq_true (show y' ≤ Z from hXX.2)]
      conv => whnf
      rcases ht with ht | ht
      · subst ht
        conv => whnf
        refine then_end (hm := false) ?_
        conv => whnf
        refine ⟨((q + 1 : Nat) : Int), by rw [wrap_eq (by omega) (by omega)]; omega, ?_⟩
        conv => whnf
        exact ⟨3 - (q + 1), by omega, q + 1, L3, by omega, rfl, Q3, (old _ (by omega)).trans gl, by omega, rfl, ⟨rfl, rfl, rfl, rfl, rfl, rfl, rfl, rfl, rfl, rfl, rfl, rfl, rfl, rfl, rfl, rfl, rfl, trivial⟩, rfl, rfl, rfl, rfl⟩

      · subst ht
        cases ht1 : (t' != 1)
        · conv => whnf
          refine then_end (hm := false) ?_
          conv => whnf
          refine ⟨((q + 1 : Nat) : Int), by rw [wrap_eq (by omega) (by omega)]; omega, ?_⟩
          conv => whnf
          exact ⟨3 - (q + 1), by omega, q + 1, L3, by omega, rfl, Q3, (old _ (by omega)).trans gl, by omega, rfl, ⟨rfl, rfl, rfl, rfl, rfl, rfl, rfl, rfl, rfl, rfl, rfl, rfl, rfl, rfl, rfl, rfl, rfl, trivial⟩, rfl, rfl, rfl, rfl⟩

        · conv => whnf
          rw [show (t' != t') = false by simp]
          conv => whnf
          refine then_end (hm := false) ?_
          conv => whnf
          refine ⟨((q + 1 : Nat) : Int), by rw [wrap_eq (by omega) (by omega)]; omega, ?_⟩
          conv => whnf
          exact ⟨3 - (q + 1), by omega, q + 1, L3, by omega, rfl, Q3, (old _ (by omega)).trans gl, by omega, rfl, ⟨rfl, rfl, rfl, rfl, rfl, rfl, rfl, rfl, rfl, rfl, rfl, rfl, rfl, rfl, rfl, rfl, rfl, trivial⟩, rfl, rfl, rfl, rfl⟩

  clear hs WK WG W QK cw ca cl cm
  rintro st ⟨g, Q, hs⟩
  have gn := Q.n
  have TR := rev_told T hd hkn
  have isr := lvOf_ok (revL_good hg)
  have dw := wrongX_ret isr ((c.bales.length - 1 - k : Nat) : Int)
  rw [TR.wr] at dw
  have da := allX_ret isr
  rw [TR.al] at da
  have dl := lineX_ret isr
  rw [TR.kp] at dl
  have dm := mistX_ret isr
  rw [TR.mi] at dm
  dsimp only [pairI, pairS, spV] at dw da dl dm
  refine hs.then ?_
  conv => whnf
  repeat (refine then_seq (hm := false) ?_; conv => whnf)
  refine ⟨_, Q.W.bt, ?_⟩
  conv => whnf
  refine ⟨((c.bales.length - 1 : Nat) : Int), by rw [wrap_eq (by omega) (by omega)]; omega, ?_⟩
  conv => whnf
  refine ⟨((c.bales.length - 1 - k : Nat) : Int), by rw [wrap_eq (by omega) (by omega)]; omega, ?_⟩
  conv => whnf
  refine own_call (c := revL c) (revL_len c) Q.W.rt (cs := [I ((c.bales.length - 1 - k : Nat) : Int)]) dw rfl ?_
  conv => whnf
  refine ⟨_, at_push_self _ _, ?_⟩
  conv => whnf
  generalize hL1 : TMap.set AB.dead (TMap.push AB.dead g _) _ _ = L1
  have n1' : L1.n = g.n + 1 := by rw [← hL1]; exact new_n _ _ _
  have o1 : ∀ i, i < g.n → Heap.at L1 i = Heap.at g i := fun i hi => by rw [← hL1]; exact at_old _ _ _ hi
  have b1 : Heap.at L1 g.n = .blk [.c (I A), .c (I B')] := by rw [← hL1]; exact at_new _ _ _
  clear hL1
  have Q1 := Q.ext WW P5 P6 (g' := L1) (by omega) (fun i hi => o1 i (by omega))
  repeat (refine then_seq (hm := false) ?_; conv => whnf)
  refine ⟨_, Q1.W.bt, ?_⟩
  conv => whnf
  refine own_call (c := revL c) (revL_len c) Q1.W.rt (cs := []) da rfl ?_
  conv => whnf
  refine ⟨_, at_push_self _ _, ?_⟩
  conv => whnf
  generalize hL2 : TMap.set AB.dead (TMap.push AB.dead L1 _) _ _ = L2
  have n2' : L2.n = g.n + 2 := by rw [← hL2, new_n, n1']
  have o2 : ∀ i, i < L1.n → Heap.at L2 i = Heap.at L1 i := fun i hi => by rw [← hL2]; exact at_old _ _ _ hi
  have b2 : Heap.at L2 L1.n = .blk [.c (I X), .c (I Z)] := by rw [← hL2]; exact at_new _ _ _
  clear hL2
  have Q2 := Q1.ext WW P5 P6 (g' := L2) (by omega) (fun i hi => o2 i (by omega))
  have b12 := (o2 g.n (by omega)).trans b1
  repeat (refine then_seq (hm := false) ?_; conv => whnf)
  refine ⟨_, Q2.W.bt, ?_⟩
  conv => whnf
  refine own_call (c := revL c) (revL_len c) Q2.W.rt (cs := []) dl rfl ?_
  conv => whnf
  repeat (refine then_seq (hm := false) ?_; conv => whnf)
  refine ⟨_, Q2.W.bt, ?_⟩
  conv => whnf
  refine own_call (c := revL c) (revL_len c) Q2.W.rt (cs := []) dm rfl ?_
  conv => whnf
  have tt : (t != t) = false := by simp
  have mm : (m != m) = false := by simp
  repeat (refine then_seq (hm := false) ?_; conv => whnf)
  refine ⟨_, b12, ?_⟩
  conv => whnf
  refine ⟨_, Q2.s1, ?_⟩
  conv => whnf
  refine ⟨_, span_neq rfl rfl rfl _ _, ?_⟩
  conv => whnf
  rw [show (!(decide (A = A) && decide (B' = B'))) = false by simp]
  conv => whnf
  rw [ee]
  conv => whnf
  refine ⟨_, b2, ?_⟩
  conv => whnf
  refine ⟨_, Q2.s2, ?_⟩
  conv => whnf
  refine ⟨_, span_neq rfl rfl rfl _ _, ?_⟩
  conv => whnf
  rw [show (!(decide (X = X) && decide (Z = Z))) = false by simp]
  conv => whnf
  rw [ee]
  conv => whnf
  rw [tt]
  conv => whnf
  rw [ee]
  conv => whnf
  rw [mm]
  conv => whnf
  refine then_via (hm := false) (fun st => ∃ g, Has st 331 [] [] none g) ?_ ?_
  · conv => whnf
    refine ⟨_, Q2.k, ?_⟩
    conv => whnf
    refine loop_by (I := fun n st => ∃ (q : Nat), q ≤ c.bales.length ∧ n = c.bales.length - q ∧ Has st 331 [(3, .ptr 0 0), (15, .ptr P 0), (314, .c (I c.bales.length)), (315, .c (I q))] [] none L2) ?_ (k := c.bales.length)
      ⟨0, Nat.zero_le _, rfl, rfl, ⟨rfl, rfl, rfl, rfl, trivial⟩, rfl, rfl, rfl, rfl⟩
    clear hs
    rintro n st ⟨q, hq, rfl, hs1⟩
    refine (hs1.then ?_).1
    conv => whnf
    repeat (refine then_seq (hm := false) ?_; conv => whnf)
    cases hcq : decide ((q : Int) < ((c.bales.length : Nat) : Int))
    case false =>
      conv => whnf
      exact ⟨L2, rfl, trivial, rfl, rfl, rfl, rfl⟩
    have hq : q < c.bales.length := by simp at hcq; omega
    have hbq := bale_get (c := c) (i := q) hq
    have rdb : readVar Try.prog 43 ((rowsC c.bales).map AV.c) (0 + (q : Int).toNat * 3) = some (.c (.agg (rowBl (baleAt c q)))) := readVar_map ((lvOf_ok hg).bale hbq)
    conv => whnf
    repeat (refine then_seq (hm := false) ?_; conv => whnf)
    refine draw_by (hm := false) (by kernel_rfl) (by kernel_rfl) ?_
    conv => whnf
    refine ⟨_, Q2.k, ?_⟩
    conv => whnf
    refine ⟨⟨rfl, by omega, by omega⟩, ?_⟩
    conv => whnf
    refine ⟨_, Q2.r, ?_⟩
    conv => whnf
    refine look_read (rdb) ?_
    conv => whnf
    refine ⟨_, Q2.W.b0, ?_⟩
    conv => whnf
    refine ⟨⟨by omega, by omega⟩, ?_⟩
    conv => whnf
    refine ⟨_, hv.bale hbq, ?_⟩
    conv => whnf
    refine dplain_val (bale_neq rfl rfl rfl _ _) ?_
    conv => whnf
    refine ⟨by kernel_rfl, ?_⟩
    conv => whnf
    refine then_end (hm := false) ?_
    conv => whnf
    refine ⟨((q + 1 : Nat) : Int), by rw [wrap_eq (by omega) (by omega)]; omega, ?_⟩
    conv => whnf
    exact ⟨c.bales.length - (q + 1), by omega, q + 1, by omega, rfl, rfl, ⟨rfl, rfl, rfl, rfl, trivial⟩, rfl, rfl, rfl, rfl⟩
  rintro st ⟨g9, hs9⟩
  refine hs9.then ?_
  conv => whnf
  refine then_end (hm := false) ?_
  conv => whnf
  refine .ret (hA) rfl ?_
  conv => whnf
  exact .val
end Go.Ag
