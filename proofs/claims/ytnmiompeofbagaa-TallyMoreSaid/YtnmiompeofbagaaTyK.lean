/- With more calls, with calls that tell more, and mirrored: what is told; what the law has at hand. No conditions. -/
import Derived.Test.YtnmiompeofbagaaTyI
/- Layer 5: with more calls, or with calls that tell more. -/
namespace Go.Ag
open Go.Proofs

/-- Whatever is so of T is so of t. -/
structure SubT (t T : Td) : Prop where
  n : T.n = t.n
  most : T.most = t.most
  strays : T.strays = t.strays
  calls : ∀ (i : Nat) (c : Cl), t.calls[i]? = some c → ∃ c', T.calls[i]? = some c' ∧ ∀ x, (callP t.n c').ok x → (callP t.n c).ok x
theorem SubT.base {t T : Td} (h : SubT t T) (x : Nat → Int) : Base T x ↔ Base t x := by
  have e : ∀ k, strayP T k = strayP t k := fun k => by unfold strayP; rw [h.n, h.strays]
  constructor
  · intro b
    exact ⟨b.sat, fun k hk => by have := b.stray k (by rw [h.n]; exact hk); rw [e] at this; exact this, fun k hk => by have := b.port k (by rw [h.n]; exact hk); rw [h.most] at this; exact this, fun k hk => b.pen k (by rw [h.n]; exact hk)⟩
  · intro b
    exact ⟨b.sat, fun k hk => by rw [e]; exact b.stray k (by rw [← h.n]; exact hk), fun k hk => by rw [h.most]; exact b.port k (by rw [← h.n]; exact hk), fun k hk => b.pen k (by rw [← h.n]; exact hk)⟩
theorem SubT.tr {t T : Td} (h : SubT t T) (hd : validT t = true) (hD : validT T = true) {a b : Nat} (hab : ∀ i, i < t.calls.length → a.testBit i = true → b.testBit i = true) {x : Nat → Int} (hx : Tr T b x) : Tr t a x := by
  have h1 := (tr_iff (validT_X hD)).1 hx
  refine (tr_iff (validT_X hd)).2 ⟨(h.base x).1 h1.1, fun i c hi hb => ?_⟩
  obtain ⟨c', hc', himp⟩ := h.calls i c hi
  have hlt : i < t.calls.length := (List.getElem?_eq_some_iff.1 hi).1
  have := h1.2 i c' hc' (hab i hlt hb)
  rw [h.n] at this
  exact himp x this
theorem can_iff {t : Td} (hd : validT t = true) (set : Nat) : canB (lookF t set) = true ↔ ∃ x, Tr t set x := by
  rw [← look_can (validT_X hd) set]
  cases lookF t set <;> simp [canB]
theorem canL_all {t : Td} (hd : validT t = true) : canL t (allN t) = true ↔ ∃ x, Base t x := by
  unfold canL
  rw [can_iff hd]
  have h0 : diffN (allN t) (allN t) = 0 := diff_none fun i hb => hb
  rw [h0]
  constructor
  · rintro ⟨x, hx⟩; exact ⟨x, ((tr_iff (validT_X hd)).1 hx).1⟩
  · rintro ⟨x, hx⟩; exact ⟨x, (tr_iff (validT_X hd)).2 ⟨hx, fun i c _ hb => by rw [Nat.zero_testBit] at hb; cases hb⟩⟩
/-- Some set that may be false there is, if anything is true whatever was called. -/
theorem false_none {t : Td} (hd : validT t = true) : falseS t = none ↔ ¬ ∃ x, Base t x := by
  rw [← canL_all hd]
  constructor
  · intro h hc
    rw [false_no hd h (Nat.le_refl _)] at hc
    cases hc
  · intro h
    cases hf : falseS t with
    | none => rfl
    | some y =>
      exfalso
      exact h (canL_mono hd (fun i hb => sub_all (false_is hd hf).le i hb) (false_is hd hf).can)
theorem false_min {t : Td} (hd : validT t = true) {y : Nat} (h : falseS t = some y) {z : Nat} (hz : z ≤ allN t) (hc : canL t z = true) : popB y ≤ popB z := by
  rcases (false_is hd h).least z hz hc with rfl | h1
  · exact Nat.le_refl _
  · unfold Less at h1; omega
theorem pop_mod : ∀ n, n ≤ 8 → ∀ z, z < 256 → popB (z % 2 ^ n) ≤ popB z := by decide +kernel
theorem SubT.pop {t T : Td} (h : SubT t T) (hd : validT t = true) (hD : validT T = true) {y Y : Nat} (h1 : falseS t = some y) (h2 : falseS T = some Y) : popB y ≤ popB Y := by
  have h5 := valid_nums hd
  have hY := false_is hD h2
  have hY256 : Y < 256 := by have := allN_lt hD; have := hY.le; omega
  have hlt : Y % 2 ^ t.calls.length < 2 ^ t.calls.length := Nat.mod_lt _ (Nat.two_pow_pos _)
  refine Nat.le_trans (false_min hd h1 (z := Y % 2 ^ t.calls.length) (lt_all.1 hlt) ?_) (pop_mod _ h5.2.2.2.2.2 Y hY256)
  have hc := hY.can
  unfold canL at hc ⊢
  rw [can_iff hD] at hc
  rw [can_iff hd]
  obtain ⟨x, hx⟩ := hc
  have hlen : t.calls.length ≤ T.calls.length := by
    rcases Nat.lt_or_ge T.calls.length t.calls.length with hl | hl
    · exfalso
      obtain ⟨c, hc⟩ := get_some hl
      obtain ⟨c', hc', _⟩ := h.calls _ c hc
      have := (List.getElem?_eq_some_iff.1 hc').1
      omega
    · exact hl
  refine ⟨x, h.tr hd hD (fun i hi hb => ?_) hx⟩
  rw [diffN_bit, allN_bit] at hb ⊢
  rw [Nat.testBit_mod_two_pow] at hb
  rw [decide_eq_true (show i < T.calls.length by omega)]
  simpa [hi] using hb
theorem SubT.look {t T : Td} (h : SubT t T) (hd : validT t = true) (hD : validT T = true) {D : M} (hl : lookF T (allN T) = some D) : ∃ d, lookF t (allN t) = some d ∧ ∀ f g, f < 12 → g < 12 → (spanD d f g).1 ≤ (spanD D f g).1 ∧ (spanD D f g).2 ≤ (spanD d f g).2 := by
  have hsub : ∀ x, Tr T (allN T) x → Tr t (allN t) x := fun x hx => h.tr hd hD (fun i hi _ => by
    rw [allN_bit]
    obtain ⟨c, hc⟩ := get_some hi
    obtain ⟨c', hc', _⟩ := h.calls i c hc
    exact decide_eq_true (List.getElem?_eq_some_iff.1 hc').1) hx
  obtain ⟨x, hx⟩ := (look_can (validT_X hD) (allN T)).1 (by rw [hl]; rfl)
  obtain ⟨d, hd'⟩ := tr_look hd (hsub x hx)
  refine ⟨d, hd', fun f g hf hg => ?_⟩
  have s := span_is (validT_X hd) hd' hf hg
  have S := span_is (validT_X hD) hl hf hg
  obtain ⟨x1, k1, e1⟩ := S.ex _ (Int.le_refl _) S.le
  obtain ⟨x2, k2, e2⟩ := S.ex _ S.le (Int.le_refl _)
  have e1 : x1 g - x1 f = (spanD D f g).1 := e1
  have e2 : x2 g - x2 f = (spanD D f g).2 := e2
  have q1 : (spanD d f g).1 ≤ x1 g - x1 f ∧ x1 g - x1 f ≤ (spanD d f g).2 := s.of x1 (hsub x1 k1)
  have q2 : (spanD d f g).1 ≤ x2 g - x2 f ∧ x2 g - x2 f ≤ (spanD d f g).2 := s.of x2 (hsub x2 k2)
  omega
/-- A call more. -/
theorem more_sub (t : Td) (c : Cl) : SubT t (moreT t c) := ⟨rfl, rfl, rfl, fun i c0 h => ⟨c0, by
  show (t.calls ++ [c])[i]? = some c0
  rw [List.getElem?_append_left (List.getElem?_eq_some_iff.1 h).1]; exact h, fun _ h => h⟩⟩
theorem pop_add : ∀ n, n ≤ 7 → ∀ y, y < 2 ^ n → popB (y + 2 ^ n) = popB y + 1 := by decide +kernel
theorem more_pop {t : Td} {c : Cl} (hd : validT t = true) (hD : validT (moreT t c) = true) {y Y : Nat} (h1 : falseS t = some y) (h2 : falseS (moreT t c) = some Y) : popB Y ≤ popB y + 1 := by
  have hy := false_is hd h1
  have h5 := valid_nums hD
  have hlen : (moreT t c).calls.length = t.calls.length + 1 := by show (t.calls ++ [c]).length = _; simp
  have hylt : y < 2 ^ t.calls.length := lt_all.2 hy.le
  have h7 : t.calls.length ≤ 7 := by omega
  rw [← pop_add _ h7 y hylt]
  refine false_min hD h2 (lt_all.1 ?_) ?_
  · rw [hlen, Nat.pow_succ]; omega
  have hc := hy.can
  unfold canL at hc ⊢
  rw [can_iff hd] at hc
  rw [can_iff hD]
  obtain ⟨x, hx⟩ := hc
  have h3 := (tr_iff (validT_X hd)).1 hx
  refine ⟨x, (tr_iff (validT_X hD)).2 ⟨((more_sub t c).base x).2 h3.1, ?_⟩⟩
  intro i c0 hi hb
  rw [diffN_bit, allN_bit, Bool.and_eq_true, decide_eq_true_eq, hlen] at hb
  have hyn : y.testBit t.calls.length = false := Nat.testBit_lt_two_pow hylt
  rw [Nat.add_comm y] at hb
  rcases Nat.lt_or_ge i t.calls.length with hlt | hge
  · have hi' : (t.calls ++ [c])[i]? = some c0 := hi
    rw [List.getElem?_append_left hlt] at hi'
    refine h3.2 i c0 hi' ?_
    rw [diffN_bit, allN_bit, decide_eq_true hlt]
    rw [Nat.testBit_two_pow_add_gt hlt] at hb
    exact hb.2
  · have : i = t.calls.length := by omega
    subst this
    rw [Nat.testBit_two_pow_add_eq, hyn] at hb
    exact absurd hb.2 (by decide)
/-- One call told more narrowly. -/
def tightL (l : List Cl) (q : Nat) : List Cl := l.modify q fun c => { c with hi := max c.lo (c.hi - 1) }
def tightT (t : Td) (q : Nat) : Td := { t with calls := tightL t.calls q }
theorem tight_get {l : List Cl} {q i : Nat} {c : Cl} (h : l[i]? = some c) : (tightL l q)[i]? = some (if q = i then { c with hi := max c.lo (c.hi - 1) } else c) := by
  unfold tightL
  rw [List.getElem?_modify, h]
  split <;> simp
theorem tight_len (l : List Cl) (q : Nat) : (tightL l q).length = l.length := by unfold tightL; simp
theorem tight_sub {t : Td} (hd : validT t = true) (q : Nat) : SubT t (tightT t q) := ⟨rfl, rfl, rfl, fun i c h => ⟨_, tight_get h, by
  have hok := valid_call (validT_X hd) (List.mem_of_getElem? h)
  have hle : c.lo ≤ c.hi := by
    unfold callOk at hok
    split at hok
    · simp only [inB', spB, Bool.and_eq_true, decide_eq_true_eq] at hok; omega
    · simp only [spB, Bool.and_eq_true, decide_eq_true_eq] at hok; omega
  intro x hx
  split at hx
  · have key : ∀ m : Int, c.lo ≤ m → m ≤ max c.lo (c.hi - 1) → c.lo ≤ m ∧ m ≤ c.hi := fun m h1 h2 => ⟨h1, by omega⟩
    unfold callP at hx ⊢
    dsimp only at hx
    by_cases h0 : c.kind = 0
    · rw [if_pos h0] at hx ⊢
      exact key _ hx.1 hx.2
    · rw [if_neg h0] at hx ⊢
      by_cases h1 : c.kind = 1
      · rw [if_pos h1] at hx ⊢
        exact key _ hx.1 hx.2
      · rw [if_neg h1] at hx ⊢
        exact key _ hx.1 hx.2
  · exact hx⟩⟩
theorem tight_ok {t : Td} (hd : validT t = true) (q : Nat) : validT (tightT t q) = true := by
  have hall : ∀ c ∈ t.calls, callOk t.n c = true := fun c hc => valid_call (validT_X hd) hc
  simp only [validT, Bool.and_eq_true, decide_eq_true_eq, List.all_eq_true] at hd ⊢
  obtain ⟨q1, q2, ⟨q3, q4⟩, q5, q6⟩ := hd
  refine ⟨q1, q2, ⟨q3, q4⟩, by show (tightL t.calls q).length ≤ 8; rw [tight_len]; exact q5, fun c' hc' => ?_⟩
  obtain ⟨i, hi, hget⟩ := List.getElem_of_mem hc'
  have hi' : i < t.calls.length := by have : i < (tightL t.calls q).length := hi; rw [tight_len] at this; exact this
  obtain ⟨c, hc⟩ := get_some hi'
  have h1 := tight_get (q := q) hc
  have h2 : (tightL t.calls q)[i]? = some c' := (List.getElem?_eq_getElem hi).trans (congrArg some hget)
  rw [h2] at h1
  have hok := hall c (List.mem_of_getElem? hc)
  obtain rfl := Option.some.inj h1
  show callOk t.n _ = true
  split
  · unfold callOk at hok ⊢
    dsimp only
    cases hk : decide (c.kind = 0) || decide (c.kind = 1)
    · rw [hk] at hok
      simp only [spB, Bool.and_eq_true, decide_eq_true_eq] at hok ⊢; omega
    · rw [hk] at hok
      simp only [inB', spB, Bool.and_eq_true, decide_eq_true_eq] at hok ⊢; omega
  · exact hok
end Go.Ag
/- Layer 5: a tally mirrored. -/
namespace Go.Ag
open Go.Proofs

def mirC (n : Int) (c : Cl) : Cl := if c.kind = 2 then c else { c with pos := n - 1 - c.pos }
def mirS (l : List (Int × Int)) : List (Int × Int) := l.reverse.map fun s => (-s.2, -s.1)
def mirT (t : Td) : Td := ⟨t.n, t.most, mirS t.strays, t.calls.reverse.map (mirC t.n)⟩
theorem mirC_mirC (n : Int) (c : Cl) : mirC n (mirC n c) = c := by
  unfold mirC
  by_cases h : c.kind = 2
  · rw [if_pos h, if_pos h]
  · rw [if_neg h]
    rw [if_neg (show ¬ ({ c with pos := n - 1 - c.pos } : Cl).kind = 2 from h)]
    have : n - 1 - (n - 1 - c.pos) = c.pos := by omega
    simp [this]
theorem mirT_mirT (t : Td) : mirT (mirT t) = t := by
  unfold mirT mirS
  have h1 : ∀ l : List (Int × Int), ((l.reverse.map fun s => (-s.2, -s.1)).reverse.map fun s => (-s.2, -s.1)) = l := fun l => by
    rw [← List.map_reverse, List.reverse_reverse, List.map_map]
    conv => rhs; rw [← List.map_id l]
    apply List.map_congr_left
    intro s _
    simp
  have h2 : ∀ l : List Cl, ((l.reverse.map (mirC t.n)).reverse.map (mirC t.n)) = l := fun l => by
    rw [← List.map_reverse, List.reverse_reverse, List.map_map]
    conv => rhs; rw [← List.map_id l]
    apply List.map_congr_left
    intro c _
    exact mirC_mirC t.n c
  dsimp only
  rw [h1, h2]
theorem mir_callOk {n : Int} {c : Cl} (h : callOk n c = true) : callOk n (mirC n c) = true := by
  unfold mirC
  by_cases h2 : c.kind = 2
  · rw [if_pos h2]; exact h
  · rw [if_neg h2]
    unfold callOk at h ⊢
    dsimp only
    cases hk : decide (c.kind = 0) || decide (c.kind = 1)
    · rw [hk] at h
      exact absurd (show c.kind = 2 by simp at h; exact h.1) h2
    · rw [hk] at h
      simp only [inB', Bool.and_eq_true, decide_eq_true_eq] at h ⊢
      exact ⟨by omega, h.2⟩
theorem mir_ok {t : Td} (hd : validT t = true) : validT (mirT t) = true := by
  have hall : ∀ c ∈ t.calls, callOk t.n c = true := fun c hc => valid_call (validT_X hd) hc
  simp only [validT, Bool.and_eq_true, decide_eq_true_eq, List.all_eq_true] at hd ⊢
  obtain ⟨q1, q2, ⟨q3, q4⟩, q5, q6⟩ := hd
  refine ⟨q1, q2, ⟨by simpa [mirT, mirS] using q3, fun s hs => ?_⟩, by simpa [mirT] using q5, fun c hc => ?_⟩
  · obtain ⟨s0, h0, rfl⟩ := List.mem_map.1 hs
    have := q4 s0 (List.mem_reverse.1 h0)
    simp only [spB, Bool.and_eq_true, decide_eq_true_eq] at this ⊢
    omega
  · obtain ⟨c0, h0, rfl⟩ := List.mem_map.1 hc
    exact mir_callOk (hall c0 (List.mem_reverse.1 h0))
/-- A truth mirrored. -/
def mx (N : Nat) (x : Nat → Int) : Nat → Int := fun i => if i < 6 then x N - x (N - min i N) else x (6 + N) - x (6 + (N - min (i - 6) N))
theorem mx_low {N : Nat} (hN : N ≤ 5) (x : Nat → Int) {k : Nat} (hk : k ≤ N) : mx N x k = x N - x (N - k) := by
  unfold mx; rw [if_pos (by omega), Nat.min_eq_left hk]
theorem mx_high {N : Nat} (x : Nat → Int) {k : Nat} (hk : k ≤ N) : mx N x (6 + k) = x (6 + N) - x (6 + (N - k)) := by
  unfold mx; rw [if_neg (by omega), show 6 + k - 6 = k by omega, Nat.min_eq_left hk]
theorem mir_tr {t : Td} (hd : validT t = true) {N : Nat} (hN : t.n = N) {set set' : Nat} (hs : ∀ i, i < t.calls.length → set'.testBit i = true → set.testBit (t.calls.length - 1 - i) = true) {x : Nat → Int} (h : Tr t set x) : Tr (mirT t) set' (mx N x) := by
  have hv := validT_X hd
  have hV := validT_X (mir_ok hd)
  have h5 := valid_nums hd
  obtain ⟨hb, hc⟩ := (tr_iff hv).1 h
  have ends : x (6 + N) = x N ∧ x (6 + 0) = x 0 := by
    have h1 := hb.stray N (by omega)
    have h2 := hb.stray 0 (by omega)
    have e1 : strayP t N = (0, 0) := by unfold strayP; rw [if_neg (by omega)]
    have e2 : strayP t 0 = (0, 0) := by unfold strayP; rw [if_neg (by omega)]
    rw [e1] at h1
    rw [e2] at h2
    dsimp only at h1 h2
    omega
  have hp : ∀ i, i < 12 → ∃ p, p < 12 ∧ mx N x i = x N - x p := fun i hi => by
    unfold mx
    split
    · exact ⟨N - min i N, by omega, rfl⟩
    · exact ⟨6 + (N - min (i - 6) N), by omega, by rw [ends.1]⟩
  refine (tr_iff hV).2 ⟨⟨?_, ?_, ?_, ?_⟩, ?_⟩
  · intro i j hi hj
    by_cases hij : i = j
    · subst hij
      unfold unkM
      rw [if_pos rfl]; omega
    · obtain ⟨p, hp1, hp2⟩ := hp i hi
      obtain ⟨q, hq1, hq2⟩ := hp j hj
      have := hb.sat q p hq1 hp1
      have h3 : unkM q p ≤ 300 := by unfold unkM; split <;> omega
      have h4 : unkM i j = 300 := by unfold unkM; rw [if_neg hij]
      rw [h4]; omega
  · intro k hk
    have hk : (k : Int) ≤ t.n := hk
    have hkN : k ≤ N := by omega
    rw [mx_low (by omega) x hkN, mx_high x hkN, ends.1]
    have h1 := hb.stray (N - k) (by omega)
    have e : strayP (mirT t) k = (-(strayP t (N - k)).2, -(strayP t (N - k)).1) := by
      unfold strayP
      by_cases hk0 : 0 < k ∧ (k : Int) < t.n
      · have hk1 : 0 < N - k ∧ ((N - k : Nat) : Int) < t.n := by omega
        rw [if_pos (show 0 < k ∧ (k : Int) < (mirT t).n from hk0), if_pos hk1]
        obtain ⟨s, hs', -⟩ := strays_ok hv hk1.1 hk1.2
        rw [List.getD_eq_getElem?_getD, List.getD_eq_getElem?_getD, hs']
        have e1 : (mirT t).strays[k - 1]? = some (-s.2, -s.1) := by
          show (mirS t.strays)[k - 1]? = _
          unfold mirS
          rw [List.getElem?_map, List.getElem?_reverse (by omega), show t.strays.length - 1 - (k - 1) = N - k - 1 by omega, hs']
          rfl
        rw [e1]
        rfl
      · rw [if_neg (show ¬ (0 < k ∧ (k : Int) < (mirT t).n) from hk0), if_neg (by omega)]
        rfl
    rw [e]
    dsimp only
    omega
  · intro k hk
    have hk : (k : Int) < t.n := hk
    rw [mx_low (by omega) x (show k ≤ N by omega), mx_low (by omega) x (show k + 1 ≤ N by omega)]
    have h1 := hb.port (N - (k + 1)) (by omega)
    rw [show N - (k + 1) + 1 = N - k by omega] at h1
    show 0 ≤ _ ∧ _ ≤ t.most
    omega
  · intro k hk
    have hk : (k : Int) < t.n := hk
    rw [show 6 + k + 1 = 6 + (k + 1) by omega, mx_high x (show k ≤ N by omega), mx_high x (show k + 1 ≤ N by omega)]
    have h1 := hb.pen (N - (k + 1)) (by omega)
    rw [show 6 + (N - (k + 1)) + 1 = 6 + (N - k) by omega] at h1
    omega
  · intro i c' hi hbit
    have hlen : (mirT t).calls.length = t.calls.length := by simp [mirT]
    have hil : i < t.calls.length := by have := (List.getElem?_eq_some_iff.1 hi).1; omega
    obtain ⟨c, hcg⟩ := get_some (l := t.calls) (show t.calls.length - 1 - i < t.calls.length by omega)
    have hcc : c' = mirC t.n c := by
      have h1 : (t.calls.reverse.map (mirC t.n))[i]? = some c' := hi
      rw [List.getElem?_map, List.getElem?_reverse hil, hcg] at h1
      exact (Option.some.inj h1).symm
    have hok := hc _ c hcg (hs i hil hbit)
    have hval := valid_call hv (List.mem_of_getElem? hcg)
    subst hcc
    show (callP t.n (mirC t.n c)).ok _
    unfold mirC
    by_cases h2 : c.kind = 2
    · rw [if_pos h2]
      unfold callP at hok ⊢
      rw [if_neg (by omega), if_neg (by omega)] at hok ⊢
      have hok : c.lo ≤ x t.n.toNat - x 0 ∧ x t.n.toNat - x 0 ≤ c.hi := hok
      show c.lo ≤ mx N x t.n.toNat - mx N x 0 ∧ mx N x t.n.toNat - mx N x 0 ≤ c.hi
      rw [show t.n.toNat = N by omega] at hok ⊢
      rw [mx_low (by omega) x (Nat.le_refl N), mx_low (by omega) x (Nat.zero_le N), Nat.sub_self, Nat.sub_zero]
      omega
    · rw [if_neg h2]
      unfold callOk at hval
      cases hk : decide (c.kind = 0) || decide (c.kind = 1)
      · rw [hk] at hval
        exact absurd (show c.kind = 2 by simp at hval; exact hval.1) h2
      · rw [hk] at hval
        have hval : (inB' c.pos 0 (t.n - 1) && spB c.lo c.hi 0 300) = true := hval
        simp only [inB', Bool.and_eq_true, decide_eq_true_eq] at hval
        obtain ⟨p, hp⟩ : ∃ p : Nat, c.pos = p := ⟨c.pos.toNat, by omega⟩
        unfold callP at hok ⊢
        dsimp only
        rw [hp] at hok ⊢
        rw [show (t.n - 1 - (p : Int)).toNat = N - 1 - p by omega]
        rw [Int.toNat_natCast] at hok
        by_cases h0 : c.kind = 0
        · rw [if_pos h0] at hok ⊢
          have hok : c.lo ≤ x (p + 1) - x p ∧ x (p + 1) - x p ≤ c.hi := hok
          show c.lo ≤ mx N x (N - 1 - p + 1) - mx N x (N - 1 - p) ∧ mx N x (N - 1 - p + 1) - mx N x (N - 1 - p) ≤ c.hi
          rw [mx_low (by omega) x (show N - 1 - p + 1 ≤ N by omega), mx_low (by omega) x (show N - 1 - p ≤ N by omega), show N - (N - 1 - p + 1) = p by omega, show N - (N - 1 - p) = p + 1 by omega]
          omega
        · have h1 : c.kind = 1 := by simp at hk; omega
          rw [if_neg h0, if_pos h1] at hok ⊢
          have hok : c.lo ≤ x (6 + p + 1) - x (6 + p) ∧ x (6 + p + 1) - x (6 + p) ≤ c.hi := hok
          show c.lo ≤ mx N x (6 + (N - 1 - p) + 1) - mx N x (6 + (N - 1 - p)) ∧ mx N x (6 + (N - 1 - p) + 1) - mx N x (6 + (N - 1 - p)) ≤ c.hi
          rw [show 6 + (N - 1 - p) + 1 = 6 + (N - 1 - p + 1) by omega, mx_high x (show N - 1 - p + 1 ≤ N by omega), mx_high x (show N - 1 - p ≤ N by omega), show N - (N - 1 - p + 1) = p by omega, show N - (N - 1 - p) = p + 1 by omega]
          rw [show 6 + p + 1 = 6 + (p + 1) by omega] at hok
          omega
end Go.Ag
/- Layer 5: what is told of a tally mirrored. -/
namespace Go.Ag
open Go.Proofs

def revN : Nat → Nat → Nat
  | 0, _ => 0
  | n + 1, y => (y % 2) * 2 ^ n + revN n (y / 2)
theorem revN_facts : ∀ n, n ≤ 8 → ∀ y, y < 2 ^ n → revN n y < 2 ^ n ∧ popB (revN n y) = popB y ∧ ∀ i, i < n → (revN n y).testBit i = y.testBit (n - 1 - i) := by decide +kernel
theorem mir_all {t : Td} : allN (mirT t) = allN t := by unfold allN; simp [mirT]
theorem mir_len {t : Td} : (mirT t).calls.length = t.calls.length := by simp [mirT]
theorem mir_tr_all {t : Td} (hd : validT t = true) {N : Nat} (hN : t.n = N) {x : Nat → Int} (h : Tr t (allN t) x) : Tr (mirT t) (allN (mirT t)) (mx N x) :=
  mir_tr hd hN (fun i hi _ => by rw [allN_bit]; exact decide_eq_true (by omega)) h
theorem mx_shorn {N : Nat} (hN : N ≤ 5) (x : Nat → Int) {k : Nat} (hk : k < N) : mx N x (N - 1 - k + 1) - mx N x (N - 1 - k) = x (k + 1) - x k := by
  rw [mx_low hN x (show N - 1 - k + 1 ≤ N by omega), mx_low hN x (show N - 1 - k ≤ N by omega), show N - (N - 1 - k + 1) = k by omega, show N - (N - 1 - k) = k + 1 by omega]
  omega
theorem mx_pen {N : Nat} (x : Nat → Int) {k : Nat} (hk : k < N) : mx N x (6 + (N - 1 - k + 1)) - mx N x (6 + (N - 1 - k)) = x (6 + (k + 1)) - x (6 + k) := by
  rw [mx_high x (show N - 1 - k + 1 ≤ N by omega), mx_high x (show N - 1 - k ≤ N by omega), show N - (N - 1 - k + 1) = k by omega, show N - (N - 1 - k) = k + 1 by omega]
  omega
theorem mx_total {N : Nat} (hN : N ≤ 5) (x : Nat → Int) : mx N x N - mx N x 0 = x N - x 0 := by
  rw [mx_low hN x (Nat.le_refl N), mx_low hN x (Nat.zero_le N), Nat.sub_self, Nat.sub_zero]
  omega
/-- A number that is mirrored to a number has the same span. -/
theorem mir_span {t : Td} (hd : validT t = true) {N : Nat} (hN : t.n = N) {f g f' g' : Nat} (hf : f < 12) (hg : g < 12) (hf' : f' < 12) (hg' : g' < 12)
    (h1 : ∀ x : Nat → Int, mx N x g' - mx N x f' = x g - x f) (h2 : ∀ x : Nat → Int, mx N x g - mx N x f = x g' - x f') : spanR (mirT t) true f' g' = spanR t true f g := by
  have hD := mir_ok hd
  have hNm : (mirT t).n = N := hN
  have back : ∀ x, Tr (mirT t) (allN (mirT t)) x → Tr t (allN t) (mx N x) := fun x hx => by
    have := mir_tr_all hD hNm hx
    rw [mirT_mirT] at this
    exact this
  unfold spanR
  rw [hd, hD]
  cases hl : lookF t (allN t) with
  | none =>
    cases hL : lookF (mirT t) (allN (mirT t)) with
    | none => rfl
    | some D =>
      exfalso
      obtain ⟨x, hx⟩ := (look_can (validT_X hD) (allN (mirT t))).1 (by rw [hL]; rfl)
      exact look_none (validT_X hd) hl _ (back x hx)
  | some d =>
    cases hL : lookF (mirT t) (allN (mirT t)) with
    | none =>
      exfalso
      obtain ⟨x, hx⟩ := (look_can (validT_X hd) (allN t)).1 (by rw [hl]; rfl)
      exact look_none (validT_X hD) hL _ (mir_tr_all hd hN hx)
    | some D =>
      have s := span_is (validT_X hd) hl hf hg
      have S := span_is (validT_X hD) hL hf' hg'
      have e : spanD D f' g' = spanD d f g := by
        refine span_unique (t := t) (set := allN t) (m := fun x => x g - x f) ⟨fun x hx => ?_, fun w w1 w2 => ?_, S.le⟩ s
        · have := S.of _ (mir_tr_all hd hN hx)
          rw [h1] at this
          exact this
        · obtain ⟨x, hx, ex⟩ := S.ex w w1 w2
          exact ⟨mx N x, back x hx, by rw [h2]; exact ex⟩
      show (spanD D f' g', (0 : Int)) = (spanD d f g, 0)
      rw [e]
theorem mir_shorn {t : Td} (hd : validT t = true) {N : Nat} (hN : t.n = N) {k : Nat} (hk : k < N) : spanR (mirT t) true (N - 1 - k) (N - 1 - k + 1) = spanR t true k (k + 1) := by
  have h5 := valid_nums hd
  refine mir_span hd hN (by omega) (by omega) (by omega) (by omega) (fun x => mx_shorn (by omega) x hk) (fun x => ?_)
  have := mx_shorn (by omega) x (show N - 1 - k < N by omega)
  rw [show N - 1 - (N - 1 - k) = k by omega] at this
  exact this
theorem mir_pen {t : Td} (hd : validT t = true) {N : Nat} (hN : t.n = N) {k : Nat} (hk : k < N) : spanR (mirT t) true (6 + (N - 1 - k)) (6 + (N - 1 - k + 1)) = spanR t true (6 + k) (6 + (k + 1)) := by
  have h5 := valid_nums hd
  refine mir_span hd hN (by omega) (by omega) (by omega) (by omega) (fun x => mx_pen x hk) (fun x => ?_)
  have := mx_pen x (show N - 1 - k < N by omega)
  rw [show N - 1 - (N - 1 - k) = k by omega] at this
  exact this
theorem mir_total {t : Td} (hd : validT t = true) {N : Nat} (hN : t.n = N) : spanR (mirT t) true 0 N = spanR t true 0 N := by
  have h5 := valid_nums hd
  exact mir_span hd hN (by omega) (by omega) (by omega) (by omega) (fun x => mx_total (by omega) x) (fun x => mx_total (by omega) x)
theorem mir_le {t : Td} (hd : validT t = true) {N : Nat} (hN : t.n = N) {y Y : Nat} (h1 : falseS t = some y) (h2 : falseS (mirT t) = some Y) : popB Y ≤ popB y := by
  have hD := mir_ok hd
  have h5 := valid_nums hd
  have hy := false_is hd h1
  have hylt : y < 2 ^ t.calls.length := lt_all.2 hy.le
  obtain ⟨r1, r2, r3⟩ := revN_facts _ h5.2.2.2.2.2 y hylt
  rw [← r2]
  refine false_min hD h2 (lt_all.1 (by rw [mir_len]; exact r1)) ?_
  have hc := hy.can
  unfold canL at hc ⊢
  rw [can_iff hd] at hc
  rw [can_iff hD]
  obtain ⟨x, hx⟩ := hc
  refine ⟨mx N x, mir_tr hd hN (fun i hi hb => ?_) hx⟩
  rw [diffN_bit, mir_all, allN_bit, decide_eq_true hi, Bool.true_and, r3 i hi] at hb
  rw [diffN_bit, allN_bit, decide_eq_true (show t.calls.length - 1 - i < t.calls.length by omega), Bool.true_and]
  exact hb
theorem mir_none {t : Td} (hd : validT t = true) {N : Nat} (hN : t.n = N) (h : falseS (mirT t) = none) : falseS t = none := by
  have hD := mir_ok hd
  rw [false_none hD] at h
  rw [false_none hd]
  rintro ⟨x, hx⟩
  have h0 : Tr t 0 x := (tr_iff (validT_X hd)).2 ⟨hx, fun i c _ hb => by rw [Nat.zero_testBit] at hb; cases hb⟩
  exact h ⟨mx N x, ((tr_iff (validT_X hD)).1 (mir_tr hd hN (set' := 0) (fun i _ hb => by rw [Nat.zero_testBit] at hb; cases hb) h0)).1⟩
/-- Count and error are the same. -/
theorem mir_false {t : Td} (hd : validT t = true) {N : Nat} (hN : t.n = N) : (falseR (mirT t)).1 = (falseR t).1 ∧ (falseR (mirT t)).2.2 = (falseR t).2.2 := by
  have hD := mir_ok hd
  have hNm : (mirT t).n = N := hN
  unfold falseR
  rw [hd, hD]
  cases h1 : falseS t with
  | none =>
    cases h2 : falseS (mirT t) with
    | none => exact ⟨rfl, rfl⟩
    | some Y =>
      exfalso
      have := mir_none hD hNm (by rw [mirT_mirT]; exact h1)
      rw [h2] at this; cases this
  | some y =>
    cases h2 : falseS (mirT t) with
    | none =>
      exfalso
      have := mir_none hd hN h2
      rw [h1] at this; cases this
    | some Y =>
      have a := mir_le hd hN h1 h2
      have b := mir_le hD hNm h2 (by rw [mirT_mirT]; exact h1)
      exact ⟨by show popB Y = popB y; omega, rfl⟩
/-- More that is known. -/
theorem sub_false {t T : Td} (h : SubT t T) (hd : validT t = true) (hD : validT T = true) : (falseR T).2.2 = (falseR t).2.2 ∧ (falseR t).1 ≤ (falseR T).1 := by
  unfold falseR
  rw [hd, hD]
  have hb : (∃ x, Base T x) ↔ ∃ x, Base t x := ⟨fun ⟨x, hx⟩ => ⟨x, (h.base x).1 hx⟩, fun ⟨x, hx⟩ => ⟨x, (h.base x).2 hx⟩⟩
  cases h1 : falseS t with
  | none =>
    have : falseS T = none := by rw [false_none hD, hb, ← false_none hd]; exact h1
    rw [this]; exact ⟨rfl, Nat.le_refl _⟩
  | some y =>
    cases h2 : falseS T with
    | none =>
      exfalso
      have : falseS t = none := by rw [false_none hd, ← hb, ← false_none hD]; exact h2
      rw [h1] at this; cases this
    | some Y => exact ⟨rfl, h.pop hd hD h1 h2⟩
theorem more_false {t : Td} {c : Cl} (hd : validT t = true) (hD : validT (moreT t c) = true) : (falseR (moreT t c)).1 ≤ (falseR t).1 + 1 := by
  have hb : (∃ x, Base (moreT t c) x) ↔ ∃ x, Base t x := ⟨fun ⟨x, hx⟩ => ⟨x, ((more_sub t c).base x).1 hx⟩, fun ⟨x, hx⟩ => ⟨x, ((more_sub t c).base x).2 hx⟩⟩
  unfold falseR
  rw [hd, hD]
  cases h2 : falseS (moreT t c) with
  | none => exact Nat.zero_le _
  | some Y =>
    cases h1 : falseS t with
    | none =>
      exfalso
      have : falseS (moreT t c) = none := by rw [false_none hD, hb, ← false_none hd]; exact h1
      rw [h2] at this; cases this
    | some y => exact more_pop hd hD h1 h2
/-- Spans of one that is known better. -/
theorem sub_spans {t T : Td} (h : SubT t T) (hd : validT t = true) (hD : validT T = true) : (∃ D d : M, lookF T (allN T) = some D ∧ lookF t (allN t) = some d ∧ ∀ f g, f < 12 → g < 12 → (spanD d f g).1 ≤ (spanD D f g).1 ∧ (spanD D f g).2 ≤ (spanD d f g).2) ∨ lookF T (allN T) = none := by
  cases hl : lookF T (allN T) with
  | none => exact .inr rfl
  | some D =>
    obtain ⟨d, h1, h2⟩ := h.look hd hD hl
    exact .inl ⟨D, d, rfl, h1, h2⟩
end Go.Ag
/- Layer 5: what the law of more has at hand. -/
namespace Go.Ag
open Go.Proofs
set_option maxRecDepth 100000
def blk4 (v : TV) (a b : AV) : AB := .blk [.c (I v.n), .c (I v.most), a, b]
structure MH (v : TV) (t : Td) (c : Cl) (q o : Nat) (SL : List (Int × Int)) (CL : List Cl) (os oc : AV) (h : Heap) : Prop where
  b0 : Heap.at h 0 = v.blk
  b2 : Heap.at h 2 = (callsV v (t.calls ++ [c])).blk
  b3 : Heap.at h 3 = blk4 v (.c (.sl v.sc v.so v.sn)) (.msl o 4 0 v.cn v.cn)
  b4 : Heap.at h 4 = blk4 v os oc
  bo : Heap.at h o = .blk (((tightL t.calls q).map rowCl).flatten.map .c)
  o5 : 5 ≤ o
  n : o < h.n
  rs : RowsL 2 h os (SL.map rowSp)
  rc : RowsL 4 h oc (CL.map rowCl)
  is' : ∀ k, outId os = some k → o < k
  ic : ∀ k, outId oc = some k → o < k
  d : ∀ k, outId os = some k → outId oc ≠ some k
section
variable {v : TV} {t : Td} {c : Cl} {q o : Nat} {SL : List (Int × Int)} {CL : List Cl} {os oc : AV} {h h' : Heap}
theorem MH.up (e : MH v t c q o SL CL os oc h) (F : Foot none' h h') : MH v t c q o SL CL os oc h' := by
  have q1 := e.o5; have q2 := e.n
  exact ⟨(F.keep _ (by omega) (fun x => x)).trans e.b0, (F.keep _ (by omega) (fun x => x)).trans e.b2, (F.keep _ (by omega) (fun x => x)).trans e.b3, (F.keep _ (by omega) (fun x => x)).trans e.b4, (F.keep _ (by omega) (fun x => x)).trans e.bo, e.o5, Nat.lt_of_lt_of_le e.n F.n,
    e.rs.ext F.n (fun i hi _ => F.keep i hi (fun x => x)), e.rc.ext F.n (fun i hi _ => F.keep i hi (fun x => x)), e.is', e.ic, e.d⟩
theorem MH.new (e : MH v t c q o SL CL os oc h) (x y : AB) : MH v t c q o SL CL os oc ((h.push .dead x).set .dead h.n y) := e.up (footNew h x y)
theorem MH.put (e : MH v t c q o SL CL os oc h) {k : Nat} (hk : o < k) (h1 : outId os ≠ some k) (h2 : outId oc ≠ some k) (b : AB) : MH v t c q o SL CL os oc (h.set .dead k b) := by
  have q1 := e.o5; have q2 := e.n
  exact ⟨(at_set_ne _ _ (by omega)).trans e.b0, (at_set_ne _ _ (by omega)).trans e.b2, (at_set_ne _ _ (by omega)).trans e.b3, (at_set_ne _ _ (by omega)).trans e.b4, (at_set_ne _ _ (by omega)).trans e.bo, e.o5, by rw [TMap.set_n]; exact e.n, e.rs.set h1 _, e.rc.set h2 _, e.is', e.ic, e.d⟩
theorem MH.appS (e : MH v t c q o SL CL os oc h) {s : Int × Int} {rr : SOut} (hR : RowsL 2 (after (h.push .dead (.blk ((rowSp s).map .c))) rr) rr.val (SL.map rowSp ++ [rowSp s])) (hold : ∀ i, i < h.n → outId os ≠ some i → Heap.at (after (h.push .dead (.blk ((rowSp s).map .c))) rr) i = Heap.at h i)
    (hn' : h.n ≤ (after (h.push .dead (.blk ((rowSp s).map .c))) rr).n) (hfresh : ∀ o, outId rr.val = some o → h.n ≤ o) : MH v t c q o (SL ++ [s]) CL rr.val oc ((after (h.push .dead (.blk ((rowSp s).map .c))) rr).set .dead 4 (blk4 v rr.val oc)) := by
  have q1 := e.o5; have q2 := e.n
  have lo : ∀ i, i ≤ o → Heap.at (after (h.push .dead (.blk ((rowSp s).map .c))) rr) i = Heap.at h i := fun i hi => hold i (by omega) (fun h2 => by have := e.is' _ h2; omega)
  exact ⟨(at_set_ne _ _ (by omega)).trans ((lo _ (by omega)).trans e.b0), (at_set_ne _ _ (by omega)).trans ((lo _ (by omega)).trans e.b2), (at_set_ne _ _ (by omega)).trans ((lo _ (by omega)).trans e.b3), at_set_self _ _ (by omega), (at_set_ne _ _ (by omega)).trans ((lo _ (by omega)).trans e.bo), e.o5, by rw [TMap.set_n]; omega,
    by rw [List.map_append]; exact hR.set (fun h2 => by have := hfresh _ h2; omega) _, (e.rc.ext hn' (fun i hi h2 => hold i hi (fun h3 => e.d i h3 h2))).set (fun h2 => by have := e.ic _ h2; omega) _, fun k hk => by have := hfresh k hk; omega, e.ic, fun k h1 h2 => by have := hfresh k h1; have := e.rc.lt k h2; omega⟩
theorem MH.appC (e : MH v t c q o SL CL os oc h) {s : Cl} {rr : SOut} (hR : RowsL 4 (after (h.push .dead (.blk ((rowCl s).map .c))) rr) rr.val (CL.map rowCl ++ [rowCl s])) (hold : ∀ i, i < h.n → outId oc ≠ some i → Heap.at (after (h.push .dead (.blk ((rowCl s).map .c))) rr) i = Heap.at h i)
    (hn' : h.n ≤ (after (h.push .dead (.blk ((rowCl s).map .c))) rr).n) (hfresh : ∀ o, outId rr.val = some o → h.n ≤ o) : MH v t c q o SL (CL ++ [s]) os rr.val ((after (h.push .dead (.blk ((rowCl s).map .c))) rr).set .dead 4 (blk4 v os rr.val)) := by
  have q1 := e.o5; have q2 := e.n
  have lo : ∀ i, i ≤ o → Heap.at (after (h.push .dead (.blk ((rowCl s).map .c))) rr) i = Heap.at h i := fun i hi => hold i (by omega) (fun h2 => by have := e.ic _ h2; omega)
  exact ⟨(at_set_ne _ _ (by omega)).trans ((lo _ (by omega)).trans e.b0), (at_set_ne _ _ (by omega)).trans ((lo _ (by omega)).trans e.b2), (at_set_ne _ _ (by omega)).trans ((lo _ (by omega)).trans e.b3), at_set_self _ _ (by omega), (at_set_ne _ _ (by omega)).trans ((lo _ (by omega)).trans e.bo), e.o5, by rw [TMap.set_n]; omega,
    (e.rs.ext hn' (fun i hi h2 => hold i hi (fun h3 => e.d i h2 h3))).set (fun h2 => by have := e.is' _ h2; omega) _, by rw [List.map_append]; exact hR.set (fun h2 => by have := hfresh _ h2; omega) _, e.is', fun k hk => by have := hfresh k hk; omega, fun k h1 h2 => by have := hfresh k h2; have := e.rs.lt k h1; omega⟩
end
/-- And more blocks. -/
structure NH (v : TV) (t : Td) (c : Cl) (q o : Nat) (SL : List (Int × Int)) (CL : List Cl) (os oc : AV) (l : List (Nat × AB)) (h : Heap) : Prop where
  m : MH v t c q o SL CL os oc h
  k : ∀ x ∈ l, x.1 < h.n ∧ Heap.at h x.1 = x.2
theorem NH.up {v : TV} {t : Td} {c : Cl} {q o : Nat} {SL : List (Int × Int)} {CL : List Cl} {os oc : AV} {l : List (Nat × AB)} {h h' : Heap} (e : NH v t c q o SL CL os oc l h) (F : Foot none' h h') : NH v t c q o SL CL os oc l h' :=
  ⟨e.m.up F, fun x hx => ⟨Nat.lt_of_lt_of_le (e.k x hx).1 F.n, (F.keep _ (e.k x hx).1 (fun x => x)).trans (e.k x hx).2⟩⟩
theorem NH.new {v : TV} {t : Td} {c : Cl} {q o : Nat} {SL : List (Int × Int)} {CL : List Cl} {os oc : AV} {l : List (Nat × AB)} {h : Heap} (e : NH v t c q o SL CL os oc l h) (x y : AB) : NH v t c q o SL CL os oc ((h.n, y) :: l) ((h.push .dead x).set .dead h.n y) := by
  have f := e.up (footNew h x y)
  refine ⟨f.m, fun z hz => ?_⟩
  rcases List.mem_cons.1 hz with rfl | h1
  · exact ⟨by show h.n < _; rw [new_n]; omega, at_new _ _ _⟩
  · exact f.k z h1
theorem NH.less {v : TV} {t : Td} {c : Cl} {q o : Nat} {SL : List (Int × Int)} {CL : List Cl} {os oc : AV} {l l' : List (Nat × AB)} {h : Heap} (e : NH v t c q o SL CL os oc l h) (hs : ∀ x ∈ l', x ∈ l) : NH v t c q o SL CL os oc l' h := ⟨e.m, fun x hx => e.k x (hs x hx)⟩
/-- A slice of one's own, or none, as a value. -/
theorem snap_row {H : Heap} {sz : Nat} {out : AV} {rows : List (List CV)} (R : RowsL sz H out rows) (m : Nat) (hm : rows.flatten.length + 20 ≤ m) : ∃ x ids, snap (Heap.at H) m out = some (x, ids) ∧ x.Le (CV.sl rows.flatten 0 rows.length) := by
  obtain ⟨m, rfl⟩ : ∃ k, m = k + 20 := ⟨m - 20, by omega⟩
  rcases R with ⟨rfl, hn⟩ | ⟨o, rfl, hb, _, _⟩
  · subst hn
    exact ⟨nilC, [], rfl, .nil _ _⟩
  · refine ⟨.sl rows.flatten 0 rows.length, [o], ?_, .refl _⟩
    simp only [snap, Option.bind_some, Option.map_some, hb]
    rw [snaps_map_c _ rows.flatten _ (by omega)]
    rfl
theorem callT {v : TV} {o n : Nat} {h : Heap} {L : List Cl} (hb : Heap.at h o = .blk ((L.map rowCl).flatten.map .c)) (hn : L.length = n) {f : FuncId} {cs : List CV} {r : CV} (hr : Ret Try.prog f ((callsV v L).cv :: cs) r) (hp : r.plain = true) {K : AEnd → Heap → Prop} (k : K (.ret (.c r)) h) :
    CallW Try.prog f (.agg [.c (I v.n), .c (I v.most), .c (.sl v.sc v.so v.sn), .msl o 4 0 n n] :: cs.map .c) h K := by
  have hkl : killed r ([o] ++ []) = [] := by unfold killed; rw [if_pos hp]
  refine .snapped ((L.map rowCl).flatten.length + cs.length + 20 + 1) _ _ _ r (snapsCons (snap_xT hb _ _ _ _ (by omega)) (snaps_map_c _ cs _ (by omega))) ?_ rfl (by rw [hkl]; exact k)
  subst hn
  exact hr
theorem inside_span (a1 a2 b1 b2 : Int) : Ret Try.prog 39 [.agg [I a1, I a2], .agg [I b1, I b2]] (B (decide (b1 ≤ a1) && decide (a2 ≤ b2))) := by
  refine ret_by (hm := true) Try.func39 rfl ?_
  conv => whnf
  rw [show decide (a1 ≥ b1) = decide (b1 ≤ a1) from rfl]
  cases decide (b1 ≤ a1)
  · conv => whnf
    exact .val
  · conv => whnf
    exact .val
/-- What is told of one that is known better. -/
theorem sub_tells {t T : Td} (h : SubT t T) (hd : validT t = true) (hD : validT T = true) {N i : Nat} (hN : t.n = N) (hiN : i < N) : ∃ (eT : Int) (r1 r2 r3 : Int × Int), (eT = 0 ∨ eT = 10) ∧ spanR T true i (i + 1) = (r1, eT) ∧ spanR T true (6 + i) (6 + (i + 1)) = (r2, eT) ∧ spanR T true 0 N = (r3, eT) ∧
    (eT = 0 → ∃ d, lookF t (allN t) = some d ∧ ((spanD d i (i + 1)).1 ≤ r1.1 ∧ r1.2 ≤ (spanD d i (i + 1)).2) ∧ ((spanD d (6 + i) (6 + (i + 1))).1 ≤ r2.1 ∧ r2.2 ≤ (spanD d (6 + i) (6 + (i + 1))).2) ∧ ((spanD d 0 N).1 ≤ r3.1 ∧ r3.2 ≤ (spanD d 0 N).2)) := by
  have h5 := valid_nums hd
  rcases sub_spans h hd hD with ⟨D, d, h1, h2, h3⟩ | h1
  · have c2 : ∀ f g, spanR T true f g = (spanD D f g, 0) := fun f g => by unfold spanR; rw [hD, h1]; rfl
    exact ⟨0, _, _, _, .inl rfl, c2 _ _, c2 _ _, c2 _ _, fun _ => ⟨d, h2, h3 _ _ (by omega) (by omega), h3 _ _ (by omega) (by omega), h3 _ _ (by omega) (by omega)⟩⟩
  · have c2 : ∀ f g, spanR T true f g = ((0, 0), 10) := fun f g => by unfold spanR; rw [hD, h1]; rfl
    exact ⟨10, _, _, _, .inr rfl, c2 _ _, c2 _ _, c2 _ _, fun h => absurd h (by decide)⟩
theorem false_le (t : Td) : (falseR t).1 ≤ 8 := by
  unfold falseR
  split
  · exact Nat.zero_le _
  · split
    · exact popB_le _
    · exact Nat.zero_le _
/-! Ids that are told by what they stand for. -/
structure Sk where
  idx : Nat
  dst : Option Tmp
  looks : List Tmp
  reads : List Nat
  writes : List Nat
def DRec.sk (r : DRec) : Sk := ⟨r.idx, r.dst, r.looks, r.reads, r.writes⟩
def Sk.via (f : Nat → Nat) (r : Sk) : Sk := ⟨r.idx, r.dst, r.looks, r.reads.map f, r.writes.map f⟩
def indepS (a b : Sk) : Bool :=
  (match a.dst with | some d => !b.looks.contains d && b.dst != some d | none => true) &&
  (match b.dst with | some d => !a.looks.contains d | none => true) &&
  a.writes.all (fun i => !b.reads.contains i && !b.writes.contains i) && b.writes.all (fun i => !a.reads.contains i)
def pairsS (ms : List Nat) : List Sk → Bool
  | [] => true
  | r :: l => l.all (fun x => (ms.getD x.idx 0).testBit r.idx || indepS r x) && pairsS ms l
theorem pairs_sk (ms : List Nat) : ∀ l : List DRec, pairsOk ms l = pairsS ms (l.map DRec.sk)
  | [] => rfl
  | r :: l => by
    simp only [pairsOk, List.map_cons, pairsS, pairs_sk ms l, List.all_map]
    rfl
theorem contains_via {f : Nat → Nat} {i : Nat} {l : List Nat} (h : (l.map f).contains (f i) = false) : l.contains i = false := by
  rw [Bool.eq_false_iff] at h ⊢
  intro hc
  refine h ?_
  rw [List.contains_iff_mem] at hc ⊢
  exact List.mem_map_of_mem hc
theorem indep_via {f : Nat → Nat} {a b : Sk} (h : indepS (a.via f) (b.via f) = true) : indepS a b = true := by
  simp only [indepS, Sk.via, List.all_map, Bool.and_eq_true, List.all_eq_true, Function.comp_apply, Bool.not_eq_true'] at h ⊢
  obtain ⟨⟨h1, h2⟩, h3⟩ := h
  exact ⟨⟨h1, fun i hi => ⟨contains_via (h2 i hi).1, contains_via (h2 i hi).2⟩⟩, fun i hi => contains_via (h3 i hi)⟩
theorem pairs_via' {ms : List Nat} (f : Nat → Nat) : ∀ {l : List Sk}, pairsS ms (l.map (Sk.via f)) = true → pairsS ms l = true
  | [], _ => rfl
  | r :: l, h => by
    simp only [List.map_cons, pairsS, Bool.and_eq_true, List.all_map, List.all_eq_true, Function.comp_apply, Bool.or_eq_true] at h ⊢
    refine ⟨fun x hx => ?_, pairs_via' f h.2⟩
    rcases h.1 x hx with h1 | h1
    · exact .inl h1
    · exact .inr (indep_via h1)
/-- It is enough to look at what ids stand for. -/
theorem pairs_via {ms : List Nat} {l : List DRec} (f : Nat → Nat) (l0 : List Sk) (he : (l.map DRec.sk).map (Sk.via f) = l0) (hb : pairsS ms l0 = true) : pairsOk ms l = true := by
  rw [pairs_sk]
  refine pairs_via' f ?_
  rw [he]
  exact hb

def mV (v : TV) (SL : List (Int × Int)) (CL : List Cl) : TV := ⟨v.n, v.most, (SL.map rowSp).flatten, 0, SL.length, (CL.map rowCl).flatten, 0, CL.length⟩
theorem snap_mN {H : Nat → AB} {X : Nat} {cs : List CV} (hb : H X = .blk (cs.map .c)) (a0 a1 a3 : CV) (m n : Nat) (hm : cs.length + 20 ≤ m) :
    snap H m (.agg [.c a0, .c a1, .msl X 2 0 n n, .c a3]) = some (.agg [a0, a1, .sl cs 0 n, a3], [X]) := by
  obtain ⟨m, rfl⟩ : ∃ k, m = k + 20 := ⟨m - 20, by omega⟩
  simp only [snap, snaps, Option.bind_some, Option.map_some, hb]
  rw [snaps_map_c H cs _ (by omega)]
  rfl
theorem snap_mS {H : Nat → AB} {X o : Nat} {cs ds : List CV} (hb : H X = .blk (cs.map .c)) (hd : H o = .blk (ds.map .c)) (a0 a1 : CV) (m n k : Nat) (hm : cs.length + ds.length + 20 ≤ m) :
    snap H m (.agg [.c a0, .c a1, .msl X 2 0 n n, .msl o 4 0 k k]) = some (.agg [a0, a1, .sl cs 0 n, .sl ds 0 k], [X, o]) := by
  obtain ⟨m, rfl⟩ : ∃ k, m = k + 20 := ⟨m - 20, by omega⟩
  simp only [snap, snaps, Option.bind_some, Option.map_some, hb, hd]
  rw [snaps_map_c H cs _ (by omega), snaps_map_c H ds _ (by omega)]
  rfl
theorem callM {v : TV} {SL : List (Int × Int)} {CL : List Cl} {os oc : AV} {h : Heap} (A : RowsL 2 h os (SL.map rowSp)) (C : RowsL 4 h oc (CL.map rowCl)) {f : FuncId} {cs : List CV} {r : CV} (hr : Ret Try.prog f ((mV v SL CL).cv :: cs) r) (hp : r.plain = true) {K : AEnd → Heap → Prop} (k : K (.ret (.c r)) h) :
    CallW Try.prog f (mkAgg [.c (I v.n), .c (I v.most), os, oc] :: cs.map .c) h K := by
  have kil : ∀ l : List Nat, killed r l = [] := fun l => by unfold killed; rw [if_pos hp]
  rcases A with ⟨rfl, hs⟩ | ⟨x, rfl, hb, _, _⟩
  · have hS : SL = [] := by simpa using hs
    subst hS
    rcases C with ⟨rfl, hc⟩ | ⟨o, rfl, hb2, _, _⟩
    · have hC : CL = [] := by simpa using hc
      subst hC
      have hr' : Ret Try.prog f (.agg [I v.n, I v.most, nilC, nilC] :: cs) r := hr.args ⟨.agg ⟨.refl _, .refl _, .nil _ _, .nil _ _, trivial⟩, Les.refl _⟩
      refine .ret hr' ?_ k
      show (allC (cs.map .c)).map _ = _
      rw [allCmap]
      rfl
    · have hr' : Ret Try.prog f (.agg [I v.n, I v.most, nilC, .sl (CL.map rowCl).flatten 0 (CL.map rowCl).length] :: cs) r := by
        rw [List.length_map]
        exact hr.args ⟨.agg ⟨.refl _, .refl _, .nil _ _, .refl _, trivial⟩, Les.refl _⟩
      exact .snapped ((CL.map rowCl).flatten.length + cs.length + 20 + 1) _ _ _ r (snapsCons (snap_xT hb2 _ _ _ _ (by omega)) (snaps_map_c _ cs _ (by omega))) hr' rfl (by rw [kil]; exact k)
  · rcases C with ⟨rfl, hc⟩ | ⟨o, rfl, hb2, _, _⟩
    · have hC : CL = [] := by simpa using hc
      subst hC
      have hr' : Ret Try.prog f (.agg [I v.n, I v.most, .sl (SL.map rowSp).flatten 0 (SL.map rowSp).length, nilC] :: cs) r := by
        rw [List.length_map]
        exact hr.args ⟨.agg ⟨.refl _, .refl _, .refl _, .nil _ _, trivial⟩, Les.refl _⟩
      exact .snapped ((SL.map rowSp).flatten.length + cs.length + 20 + 1) _ _ _ r (snapsCons (snap_mN hb _ _ _ _ _ (by omega)) (snaps_map_c _ cs _ (by omega))) hr' rfl (by rw [kil]; exact k)
    · have hr' : Ret Try.prog f (.agg [I v.n, I v.most, .sl (SL.map rowSp).flatten 0 (SL.map rowSp).length, .sl (CL.map rowCl).flatten 0 (CL.map rowCl).length] :: cs) r := by
        rw [List.length_map, List.length_map]
        exact hr
      exact .snapped ((SL.map rowSp).flatten.length + (CL.map rowCl).flatten.length + cs.length + 20 + 1) _ _ _ r (snapsCons (snap_mS hb hb2 _ _ _ _ _ (by omega)) (snaps_map_c _ cs _ (by omega))) hr' rfl (by rw [kil]; exact k)
theorem mV_is {v : TV} {t : Td} (hv : v.Is t) : (mV v (mirS t.strays) (t.calls.reverse.map (mirC t.n))).Is (mirT t) := by
  refine ⟨hv.n, hv.most, ⟨by simp [mV, mirT], fun i r hr => flat_sl _ (rowSp_len _) i r hr⟩, ⟨by simp [mV, mirT], fun i r hr => flat_sl _ (rowCl_len _) i r hr⟩, ?_, ?_⟩
  · show (mirS t.strays).length ≤ 1000
    have := hv.short.1
    simpa [mirS] using this
  · show (t.calls.reverse.map (mirC t.n)).length ≤ 1000
    have := hv.short.2
    simpa using this
theorem u46 : pureRun Try.prog (underlying 46) = some (.struct #[⟨"Kind", 3, 0, false, "", "", 0⟩, ⟨"At", 3, 1, false, "", "", 8⟩, ⟨"Sheep", 36, 2, false, "", "", 16⟩]) := by kernel_rfl
theorem st46 : Try.prog.stoodInHeld 46 = false := by kernel_rfl
theorem eg46 : Try.prog.eqGuardType Try.prog.depth 46 = false := by kernel_rfl
theorem part36 (k p a b : Int) : pureRun Try.prog (part 36 #[.int .i64 k, .int .i64 p, .int .i64 a, .int .i64 b] 2) = some (.agg #[.int .i64 a, .int .i64 b]) := by kernel_rfl
theorem eq_span2 (a b : Int) : pureRun Try.prog (Op.equalIn 9999 36 (.agg #[.int .i64 a, .int .i64 b]) (.agg #[.int .i64 a, .int .i64 b])) = some true := by
  show pureRun Try.prog (Op.equalIn (9997 + 1 + 1) 36 _ _) = _
  rw [Op.equalIn.eq_def]
  simp only [pureRun_bind, u36, Option.bind_some, pp0, pureRun_ite, st36, Bool.false_eq_true, if_false]
  simp [pureRun_bind, pureRun_ite, part3, eq_int, pureRun_pure]
theorem eq_call (k p a b : Int) : pureRun Try.prog (Op.equal 46 (.agg #[.int .i64 k, .int .i64 p, .int .i64 a, .int .i64 b]) (.agg #[.int .i64 k, .int .i64 p, .int .i64 a, .int .i64 b])) = some true := by
  show pureRun Try.prog (Op.equalIn (9998 + 1 + 1) 46 _ _) = _
  rw [Op.equalIn.eq_def]
  simp only [pureRun_bind, u46, Option.bind_some, pp0, pureRun_ite, st46, Bool.false_eq_true, if_false]
  simp [pureRun_bind, pureRun_ite, part3, eq_int, pureRun_pure]
  simp [part36, eq_span2, pureRun_pure]
theorem call_neq {o : Oper} {x y : Operand} {t2 : TypeId} {σ : Operand → AV} (k p a b : Int) (ho : o.op = .binOp .neq 46 x y t2) (hx : σ x = .c (.agg [I k, I p, I a, I b])) (hy : σ y = .c (.agg [I k, I p, I a, I b])) (rd : Nat → AB) (n : Nat) :
    aop Try.prog o σ rd n = some (.simple { val := .c (B false) }) := by
  have vx : (σ x).toVal = some (.agg #[.int .i64 k, .int .i64 p, .int .i64 a, .int .i64 b]) := by rw [hx]; rfl
  have vy : (σ y).toVal = some (.agg #[.int .i64 k, .int .i64 p, .int .i64 a, .int .i64 b]) := by rw [hy]; rfl
  unfold aop
  rw [ho]
  simp only [abinOp, vx, vy, litBin]
  unfold pureOp
  have hv : (allVals σ o.op.operands.toList && notSelect o.op) = true := by
    rw [ho]; simp [Op.operands, allVals, vx, vy, notSelect]
  rw [if_pos hv]
  have hr : pureRun Try.prog (execOp (fun x => ((σ x).toVal).getD Go.undef) o) = some (.value (.bool false)) := by
    unfold execOp
    rw [ho]
    simp only [vx, vy, Option.getD_some, eqGuard, binOp, pureRun_bind, pp0, Option.bind_some, pureRun_ite, eg46]
    simp [eq_call, pureRun_pure]
  rw [hr]
  rfl
theorem rows_append2 {P : Program} {sz : Nat} {h : Heap} {out : AV} {rows : List (List CV)} {row : List CV} {t u elem : TypeId} {du : TypeDesc} (R : RowsL sz h out rows) (ht : P.underlying t = some (.slice elem)) (hu : P.underlying u = some du)
    (hdu : isSliceOrString du = true) (hs : slicePart P elem = some sz) (hrow : row.length = sz) (hall : ∀ r ∈ rows, r.length = sz) (hc : (row.map AV.c).all AV.cellish = true) (hlim : rows.length + 1 ≤ limit) :
    ∃ r, aappend P (Heap.at (h.push .dead (.blk (row.map .c)))) (h.n + 1) #[t, u] out (.msl h.n sz 0 1 1) = some r ∧ RowsL sz (after (h.push .dead (.blk (row.map .c))) r) r.val (rows ++ [row]) ∧
      (∀ i, i < h.n → outId out ≠ some i → Heap.at (after (h.push .dead (.blk (row.map .c))) r) i = Heap.at h i) ∧ h.n ≤ (after (h.push .dead (.blk (row.map .c))) r).n ∧ (∀ o, outId r.val = some o → h.n ≤ o) ∧ r.upds.all (fun p => decide (p.1 < h.n + 1)) = true ∧ r.reads = (outId out).toList ++ [h.n] ∧ r.upds = (outId out).toList.map (fun i => (i, .dead)) ∧ ∃ b, r.fresh = some b := by
  have hf : firstCells (Heap.at (h.push .dead (.blk (row.map .c)))) sz (.msl h.n sz 0 1 1) = some (row.map .c, 1, [h.n]) := first_own (by rw [at_push, if_pos rfl]) (by simp [hrow])
  rcases R with ⟨rfl, rfl⟩ | ⟨o, rfl, h2, h3, h4⟩
  · refine ⟨_, append_first rfl rfl ht hu hdu hs hf hc (by decide) (by decide), ?_⟩
    refine ⟨.inr ⟨h.n + 1, rfl, ?_, ?_, by simp⟩, fun i hi _ => ?_, ?_, fun o ho => by simp [outId] at ho; omega, rfl, rfl, rfl, _, rfl⟩
    · show Heap.at ((h.push .dead (.blk (row.map .c))).push .dead (.blk (row.map .c))) (h.n + 1) = _
      rw [at_push, if_pos (by rw [push_n])]; simp
    · show h.n + 1 < h.n + 1 + 1; omega
    · show Heap.at ((h.push .dead (.blk (row.map .c))).push .dead (.blk (row.map .c))) i = _
      rw [at_push, if_neg (by rw [push_n]; omega), at_push, if_neg (by omega)]
    · show h.n ≤ h.n + 1 + 1; omega
  · have hl : ((rows.flatten).map AV.c).length = rows.length * sz := by rw [List.length_map, flat_len rows hall]
    refine ⟨_, append_grow rfl rfl ht hu hdu hs hf hc (by decide) hlim (by rw [at_push, if_neg (by omega)]; exact h2) hl, ?_⟩
    refine ⟨.inr ⟨h.n + 1, by simp, ?_, ?_, by simp⟩, fun i hi hne => ?_, ?_, fun o ho => by simp [outId] at ho; omega, ?_, rfl, rfl, _, rfl⟩
    · show Heap.at (((h.push .dead (.blk (row.map .c))).set .dead o .dead).push .dead (.blk (rows.flatten.map .c ++ row.map .c))) (h.n + 1) = _
      rw [at_push, if_pos (by rw [TMap.set_n, push_n])]; simp
    · show h.n + 1 < h.n + 1 + 1; omega
    · show Heap.at (((h.push .dead (.blk (row.map .c))).set .dead o .dead).push .dead (.blk (rows.flatten.map .c ++ row.map .c))) i = _
      rw [at_push, if_neg (by rw [TMap.set_n, push_n]; omega), at_set, if_neg (fun x => hne (by rw [x.1]; rfl)), at_push, if_neg (by omega)]
    · show h.n ≤ h.n + 1 + 1; omega
    · rw [List.all_cons, List.all_nil, Bool.and_true]; exact decide_eq_true (show o < h.n + 1 by omega)
end Go.Ag
