/- Contracts of layer 8: the hand that presses: what can be pressed at most, the first of the best pressings, and what waits. No conditions. -/
import Derived.Test.YtbkbbkkmahenlaaGreatDoorAgF
import Derived.Test.YtbkbbkkmahenlaaGreatDoorPrA
import Derived.Test.YtbkbbkkmahenlaaGreatDoorPrC
import Derived.Test.YtbkbbkkmahenlaaGreatDoorPrD
/- Layer 8: small functions of pressing; the map of what was found. -/
namespace Go.Ag
open Go.Proofs
set_option maxRecDepth 100000

theorem siz_at {b n : Nat} (h : ((List.range 64).all fun n => tells cfg0 2000 (sizE (b + n))) = true) (h1 : b ≤ n) (h2 : n < b + 64) : Ret Tryz.prog 113 [I n] (I (popN n)) := by
  have := List.all_eq_true.1 h (n - b) (List.mem_range.2 (by omega))
  rw [show b + (n - b) = n by omega] at this
  exact tells_ok (C := cfg0) (e := sizE n) mix con0 this
theorem size_ret {n : Nat} (h : n < 1024) : Ret Tryz.prog 113 [I n] (I (popN n)) := by
  rcases Nat.lt_or_ge n 512 with h5 | h5
  · rcases Nat.lt_or_ge n 256 with h4 | h4
    · rcases Nat.lt_or_ge n 128 with h3 | h3
      · rcases Nat.lt_or_ge n 64 with h2 | h2
        · exact siz_at sizA0 (by omega) (by omega)
        · exact siz_at sizB0 (by omega) (by omega)
      · rcases Nat.lt_or_ge n 192 with h2 | h2
        · exact siz_at sizA1 (by omega) (by omega)
        · exact siz_at sizB1 (by omega) (by omega)
    · rcases Nat.lt_or_ge n 384 with h3 | h3
      · rcases Nat.lt_or_ge n 320 with h2 | h2
        · exact siz_at sizA2 (by omega) (by omega)
        · exact siz_at sizB2 (by omega) (by omega)
      · rcases Nat.lt_or_ge n 448 with h2 | h2
        · exact siz_at sizA3 (by omega) (by omega)
        · exact siz_at sizB3 (by omega) (by omega)
  · rcases Nat.lt_or_ge n 768 with h4 | h4
    · rcases Nat.lt_or_ge n 640 with h3 | h3
      · rcases Nat.lt_or_ge n 576 with h2 | h2
        · exact siz_at sizA4 (by omega) (by omega)
        · exact siz_at sizB4 (by omega) (by omega)
      · rcases Nat.lt_or_ge n 704 with h2 | h2
        · exact siz_at sizA5 (by omega) (by omega)
        · exact siz_at sizB5 (by omega) (by omega)
    · rcases Nat.lt_or_ge n 896 with h3 | h3
      · rcases Nat.lt_or_ge n 832 with h2 | h2
        · exact siz_at sizA6 (by omega) (by omega)
        · exact siz_at sizB6 (by omega) (by omega)
      · rcases Nat.lt_or_ge n 960 with h2 | h2
        · exact siz_at sizA7 (by omega) (by omega)
        · exact siz_at sizB7 (by omega) (by omega)
theorem pop_le (n : Nat) : popN n ≤ 10 := by
  unfold popN
  exact Nat.le_trans List.countP_le_length (by simp)
/-- What is left, what is pressed, as values. -/
def reV (s k : Nat) : CV := .agg [I (s : Nat), I (k : Nat)]
def reB (s k : Nat) : AB := .blk [.c (I (s : Nat)), .c (I (k : Nat))]
def pdV (p : Pd) : CV := .agg [I (p.f : Nat), I (p.b : Nat)]
def pdB (p : Pd) : AB := .blk [.c (I (p.f : Nat)), .c (I (p.b : Nat))]
theorem without_ret {s x k : Nat} (hs : s < 2 ^ 62) (hx : x < 2 ^ 62) (hk : 1 ≤ k) (hk2 : k ≤ 1000) : Ret Tryz.prog 104 [reV s k, I x] (reV (diffN s x) (k - 1)) := by
  refine ret_by (hm := true) Tryz.func104 rfl ?_
  conv => whnf
  refine ⟨_, andNot_nat (a := s) (b := x) (by omega) (by omega), ?_⟩
  conv => whnf
  refine ⟨((k - 1 : Nat) : Int), by rw [wrap_eq (by omega) (by omega)]; omega, ?_⟩
  conv => whnf
  exact .val
theorem with_ret {p : Pd} {x : Nat} (hx : x < 1024) (hf : p.f ≤ 100000) (hb : p.b ≤ 100000) : Ret Tryz.prog 105 [pdV p, I x] (pdV (p.more x)) := by
  have hp := pop_le x
  refine ret_by (hm := true) Tryz.func105 rfl ?_
  conv => whnf
  refine draw_by (hm := true) (by kernel_rfl) (by kernel_rfl) ?_
  conv => whnf
  refine .pure _ _ rfl (size_ret hx) ?_
  conv => whnf
  refine ⟨((p.f + popN x : Nat) : Int), by rw [wrap_eq (by omega) (by omega)]; omega, ?_⟩
  conv => whnf
  refine ⟨((p.b + 1 : Nat) : Int), by rw [wrap_eq (by omega) (by omega)]; omega, ?_⟩
  conv => whnf
  refine ⟨(show 1 < 2 by decide), ?_⟩
  conv => whnf
  refine ⟨by kernel_rfl, ?_⟩
  conv => whnf
  exact .val
theorem better_ret (p o : Pd) : Ret Tryz.prog 106 [pdV p, pdV o] (B (p.better o)) := by
  unfold Pd.better
  refine ret_by (hm := true) Tryz.func106 rfl ?_
  conv => whnf
  rw [show decide (((p.f : Nat) : Int) > ((o.f : Nat) : Int)) = decide (p.f > o.f) by rw [decide_eq_decide]; omega]
  cases h1 : decide (p.f > o.f)
  case true =>
    conv => whnf
    exact .val
  conv => whnf
  rw [show (((p.f : Nat) : Int) == ((o.f : Nat) : Int)) = decide (p.f = o.f) by rw [Bool.eq_iff_iff, beq_iff_eq, decide_eq_true_eq]; omega]
  cases h2 : decide (p.f = o.f)
  · conv => whnf
    exact .val
  conv => whnf
  rw [show decide (((p.b : Nat) : Int) < ((o.b : Nat) : Int)) = decide (p.b < o.b) by rw [decide_eq_decide]; omega]
  exact .val
/-! The map. -/
structure Ky where
  s : Nat
  k : Nat
deriving DecidableEq
def kyC (y : Ky) : CV := reV y.s y.k
def kyV (y : Ky) : Value := .agg #[.int .i64 (y.s : Nat), .int .i64 (y.k : Nat)]
theorem kyV_val (k : Ky) : (AV.c (kyC k)).toVal = some (kyV k) := rfl
theorem mt134 : mapType Tryz.prog 134 = some (78, 92) := by kernel_rfl
theorem zero92 : elemZero Tryz.prog 92 = some (.c (pdV ⟨0, 0⟩)) := by kernel_rfl
theorem pureRun_ite {α : Type} (P : Program) (c : Prop) [Decidable c] (x y : Sem α) : pureRun P (if c then x else y) = if c then pureRun P x else pureRun P y := by by_cases h : c <;> simp [h]
theorem pp0 : pureRun Tryz.prog program = some Tryz.prog := by kernel_rfl
theorem eq_intT {t : TypeId} (hu : pureRun Tryz.prog (underlying t) = some (.int .i64)) (d : Nat) (a b : Int) : pureRun Tryz.prog (Op.equalIn (d + 1) t (.int .i64 a) (.int .i64 b)) = some (a == b) := by
  unfold Op.equalIn
  rw [pureRun_bind, hu]
  simp
  rfl
theorem partT {t : TypeId} (ha : pureRun Tryz.prog (isAgg t) = some false) (v : Array Value) (i : Nat) (x : Value) (h : v[i]? = some x) : pureRun Tryz.prog (part t v i) = some x := by
  unfold part
  rw [pureRun_bind, ha]
  simp only [Option.bind_some, Bool.false_eq_true, if_false, h]
  rfl
theorem u3 : pureRun Tryz.prog (underlying 3) = some (.int .i64) := by kernel_rfl
theorem ag3 : pureRun Tryz.prog (isAgg 3) = some false := by kernel_rfl
theorem u78 : pureRun Tryz.prog (underlying 78) = some (.struct #[⟨"fleeces", 3, 0, false, "", "shearworks/press", 0⟩, ⟨"bales", 3, 1, false, "", "shearworks/press", 8⟩]) := by kernel_rfl
theorem st78 : Tryz.prog.stoodInHeld 78 = false := by kernel_rfl
theorem key_ok (k : Ky) (e : Bool) : pureRun Tryz.prog (Instr.checkKey e 10000 78 (kyV k)) = some () := by kernel_rfl
theorem eq_key' (d : Nat) (k l : Ky) : pureRun Tryz.prog (Op.equalIn (d + 1 + 1) 78 (kyV k) (kyV l)) = some (decide (k = l)) := by
  rw [Op.equalIn.eq_def]
  simp only [pureRun_bind, u78, Option.bind_some, pp0, pureRun_ite, st78, Bool.false_eq_true, if_false, kyV]
  simp [pureRun_bind, pureRun_ite, partT ag3, eq_intT u3, pureRun_pure]
  cases k with | mk ku ks => cases l with | mk lu ls =>
  by_cases h2 : ku = lu
  · by_cases h3 : ks = ls
    · simp [h2, h3, pureRun_bind, pureRun_ite, partT ag3, eq_intT u3, pureRun_pure]
    · have h3' : ¬ (ks : Int) = ls := by omega
      simp [h2, h3, h3', pureRun_bind, pureRun_ite, partT ag3, eq_intT u3, pureRun_pure]
  · have h2' : ¬ (ku : Int) = lu := by omega
    simp [h2, h2', pureRun_bind, pureRun_ite, partT ag3, eq_intT u3, pureRun_pure]
theorem key_eq (k l : Ky) : pureRun Tryz.prog (Op.equal 78 (kyV k) (kyV l)) = some (decide (k = l)) := eq_key' 9998 k l
theorem find_key (k : Ky) : ∀ (ks : List Ky) (i : Nat), ∃ r, pureRun Tryz.prog (Instr.findAsking 78 (kyV k) (ks.map fun l => { key := kyV l, val := Go.undef, born := 0 }) i) = some r ∧
    match r with
    | none => k ∉ ks
    | some (j, _) => i ≤ j ∧ ks[j - i]? = some k
  | [], i => ⟨none, rfl, by simp⟩
  | l :: ks, i => by
    simp only [List.map_cons, Instr.findAsking, pureRun_bind, key_eq, Option.bind_some, pureRun_ite]
    by_cases h : k = l
    · subst h
      exact ⟨some (i, Go.undef), by simp [pureRun_pure], Nat.le_refl _, by simp⟩
    · obtain ⟨r, h1, h2⟩ := find_key k ks (i + 1)
      refine ⟨r, by simp [h, h1], ?_⟩
      cases r with
      | none => simp only at h2 ⊢; simp [h, h2]
      | some p =>
        simp only at h2 ⊢
        refine ⟨by omega, ?_⟩
        rw [show p.1 - i = (p.1 - (i + 1)) + 1 by omega, List.getElem?_cons_succ]
        exact h2.2
theorem key_index (k : Ky) (ks : List Ky) (e : Bool) : ∃ r, keyIndex Tryz.prog 78 (ks.map kyV) e (kyV k) = some r ∧ match r with
    | none => k ∉ ks
    | some j => ks[j]? = some k := by
  obtain ⟨r, h1, h2⟩ := find_key k ks 0
  have hn : pureRun Tryz.prog (Instr.findKey 78 (kyV k) ((ks.map kyV).map fun l => { key := l, val := Go.undef, born := 0 })) = some r := by
    simp only [Instr.findKey, pureRun_bind, u78, Option.bind_some, List.map_map, Function.comp_def]
    cases ks with
    | nil => exact h1
    | cons l ks => exact h1
  refine ⟨r.map (·.1), ?_, ?_⟩
  · simp only [keyIndex, key_ok, hn]
  · cases r with
    | none => exact h2
    | some p => simpa using h2.2
/-- A map that holds what can be pressed of some rests. -/
def PMap (F : Ky → Pd) (b : AB) : Prop := ∃ (ks : List Ky) (vals : List AV) (borns : List Nat) (clock : Nat), b = .map (ks.map kyV) vals borns clock ∧ vals.length = ks.length ∧ ∀ (i : Nat) (y : Ky), ks[i]? = some y → vals[i]? = some (.c (pdV (F y)))
theorem pMap_eq {F : Ky → Pd} {b b' : AB} (e : b = b') (h : PMap F b') : PMap F b := e ▸ h
theorem pMap_nil (F : Ky → Pd) : PMap F (.map [] [] [] 0) := ⟨[], [], [], 0, rfl, rfl, by simp⟩
theorem p_lookup {F : Ky → Pd} {rd : Nat → AB} {m : Nat} (h : PMap F (rd m)) (y : Ky) :
    ∃ (ok : Bool) (p : Pd), alookup Tryz.prog rd 134 (.map m) (.c (kyC y)) true = some { val := .c (.tuple [pdV p, B ok]), reads := [m] } ∧ (ok = true → p = F y) := by
  obtain ⟨ks, vals, borns, clock, hb, hl, hv⟩ := h
  obtain ⟨r, h1, h2⟩ := key_index y ks (ks.map kyV).isEmpty
  unfold alookup
  simp only [mt134, kyV_val, mapOf, hb, h1]
  cases r with
  | none =>
    refine ⟨false, ⟨0, 0⟩, ?_, fun h => by cases h⟩
    simp only [zero92]; rfl
  | some j =>
    have := hv j y h2
    refine ⟨true, _, ?_, fun _ => rfl⟩
    simp only [this]; rfl
theorem p_update {F : Ky → Pd} {rd : Nat → AB} {m : Nat} (h : PMap F (rd m)) (y : Ky) : ∃ b, amapUpdate Tryz.prog rd 134 (.map m) (.c (kyC y)) (.c (pdV (F y))) = some { val := .undef, reads := [m], upds := [(m, b)] } ∧ PMap F b := by
  obtain ⟨ks, vals, borns, clock, hb, hl, hv⟩ := h
  obtain ⟨r, h1, h2⟩ := key_index y ks false
  unfold amapUpdate
  simp only [mt134, kyV_val, hb, h1]
  cases r with
  | none =>
    refine ⟨_, rfl, ks ++ [y], vals ++ [.c (pdV (F y))], borns ++ [clock], clock + 1, by simp, by simp [hl], ?_⟩
    intro i l hi
    by_cases hlt : i < ks.length
    · rw [List.getElem?_append_left hlt] at hi
      rw [List.getElem?_append_left (by omega)]
      exact hv i l hi
    · rw [List.getElem?_append_right (by omega)] at hi
      rw [List.getElem?_append_right (by omega), hl]
      have : i - ks.length = 0 := by
        rcases Nat.eq_zero_or_pos (i - ks.length) with h | h
        · exact h
        · rw [List.getElem?_eq_none (by simp; omega)] at hi; cases hi
      rw [this] at hi ⊢
      simp at hi ⊢
      rw [hi]
  | some j =>
    have h2 : ks[j]? = some y := h2
    have hjl : j < ks.length := by
      rcases Nat.lt_or_ge j ks.length with h | h
      · exact h
      · rw [List.getElem?_eq_none h] at h2; cases h2
    have hj : (ks.map kyV)[j]? = some (kyV y) := by simp only [List.getElem?_map]; rw [h2]; rfl
    have hs : Instr.sameBits 10000 (kyV y) (kyV y) = true := by
      have : ∀ n : Int, Instr.sameBits 9999 (.int .i64 n) (.int .i64 n) = true := fun n => by simp [Instr.sameBits]
      unfold kyV
      rw [show (10000 : Nat) = 9999 + 1 from rfl]
      simp [Instr.sameBits]
    simp only [hj, hs, if_true]
    refine ⟨_, rfl, ks, vals.set j (.c (pdV (F y))), borns, clock, ?_, by simp [hl], ?_⟩
    · congr 1
      apply List.ext_getElem?
      intro i
      rw [List.getElem?_set]
      by_cases hij : j = i
      · subst hij; rw [hj]; simp [hjl]
      · simp [hij]
    · intro i l hi
      rw [List.getElem?_set]
      by_cases hij : j = i
      · subst hij
        rw [h2] at hi
        obtain rfl := Option.some.inj hi
        simp [hl, hjl]
      · simp [hij, hv i l hi]
end Go.Ag
/- Layer 8: what can be pressed of what is left, from the first fleece on. -/
namespace Go.Ag
open Go.Proofs
set_option maxRecDepth 100000

set_option maxRecDepth 1000000 in
theorem low_tab : ∀ s : Nat, s < 1024 → s = 0 ∨ (lowN s &&& s = lowN s ∧ lowN s ≠ 0) := by decide +kernel
theorem low_sub {s : Nat} (hs : s < 1024) : Sub (lowN s) s := by
  intro i hi
  unfold lowN at hi
  rw [Nat.testBit_and, Bool.and_eq_true] at hi
  exact hi.1
theorem low_ne {s : Nat} (hs : s < 1024) (h : s ≠ 0) : lowN s ≠ 0 := ((low_tab s hs).resolve_left h).2
theorem diff_lt {s a : Nat} (h : Sub a s) (ha : a ≠ 0) : diffN s a < s := by
  have h1 := diffN_le s a
  rcases Nat.lt_or_ge (diffN s a) s with h2 | h2
  · exact h2
  · exfalso
    have e : diffN s a = s := by omega
    apply ha
    refine bits_zero fun i => ?_
    cases hx : a.testBit i
    · rfl
    · have := diffN_bit s a i
      rw [e, h i hx, hx] at this
      cases this
theorem low_diff {s : Nat} (hs : s < 1024) (h : s ≠ 0) : diffN s (lowN s) < s := diff_lt (low_sub hs) (low_ne hs h)
theorem or_sub {s x : Nat} (hs : s < 1024) (hx : Sub x (diffN s (lowN s))) : Sub (lowN s ||| x) s := by
  intro i hi
  rw [Nat.testBit_or, Bool.or_eq_true] at hi
  rcases hi with hi | hi
  · exact low_sub hs i hi
  · have := hx i hi
    rw [diffN_bit, Bool.and_eq_true] at this
    exact this.1
theorem or_ne {s x : Nat} (hs : s < 1024) (h : s ≠ 0) : lowN s ||| x ≠ 0 := by
  intro e
  apply low_ne hs h
  refine bits_zero fun i => ?_
  have := Nat.testBit_or (lowN s) x i
  rw [e, Nat.zero_testBit] at this
  cases hl : (lowN s).testBit i
  · rfl
  · rw [hl] at this; cases this
theorem neg_and {s : Nat} (hs : s < 1024) : IntKind.i64.wrap ((BitVec.ofInt 64 (s : Int) &&& BitVec.ofInt 64 (-(s : Int))).toNat : Int) = ((lowN s : Nat) : Int) := by
  have e : (BitVec.ofInt 64 (s : Int) &&& BitVec.ofInt 64 (-(s : Int))).toNat = lowN s := by
    rw [BitVec.toNat_and, BitVec.toNat_ofInt, BitVec.toNat_ofInt]
    unfold lowN
    have e64 : ((2 ^ 64 : Nat) : Int) = 18446744073709551616 := by decide
    have e64' : (2 : Nat) ^ 64 = 18446744073709551616 := by decide
    have h2 : ((s : Int) % ((2 ^ 64 : Nat) : Int)).toNat = s := by rw [e64]; omega
    rw [h2]
    by_cases h0 : s = 0
    · subst h0; simp
    · have h1 : ((-(s : Int)) % ((2 ^ 64 : Nat) : Int)).toNat = 2 ^ 64 - s := by rw [e64, e64']; omega
      rw [h1]
  rw [e]
  have : lowN s ≤ s := Nat.and_le_left
  exact wrap_nat (by omega)
theorem foldl_mem {α β : Type} {f g : β → α → β} : ∀ {l : List α} {b : β}, (∀ x ∈ l, ∀ b, f b x = g b x) → l.foldl f b = l.foldl g b
  | [], _, _ => rfl
  | a :: l, b, h => by
    rw [List.foldl_cons, List.foldl_cons, h a (by simp)]
    exact foldl_mem fun x hx => h x (by simp [hx])
theorem step_congr {fit : Nat → Bool} {r r' : Nat → Pd} {s nx x : Nat} {b : Pd} (h : r (diffN s (nx ||| x)) = r' (diffN s (nx ||| x))) : stepR fit r s nx b x = stepR fit r' s nx b x := by
  unfold stepR; simp only [h]
theorem most_fuel (fit : Nat → Bool) : ∀ (f g s k : Nat), s ≤ f → s ≤ g → s < 1024 → mostR fit f s k = mostR fit g s k
  | 0, 0, _, _, _, _, _ => rfl
  | 0, g + 1, s, k, h, _, _ => by
    have : s = 0 := by omega
    subst this
    show (⟨0, 0⟩ : Pd) = if (0 : Nat) = 0 ∨ k = 0 then _ else _
    rw [if_pos (.inl rfl)]
  | f + 1, 0, s, k, _, h, _ => by
    have : s = 0 := by omega
    subst this
    show (if (0 : Nat) = 0 ∨ k = 0 then _ else _) = (⟨0, 0⟩ : Pd)
    rw [if_pos (.inl rfl)]
  | f + 1, g + 1, s, k, hf, hg, hs => by
    unfold mostR
    by_cases h0 : s = 0 ∨ k = 0
    · rw [if_pos h0, if_pos h0]
    · rw [if_neg h0, if_neg h0]
      have hs0 : s ≠ 0 := fun e => h0 (.inl e)
      have hl := low_diff hs hs0
      rw [most_fuel fit f g (diffN s (lowN s)) k (by omega) (by omega) (by omega)]
      refine foldl_mem fun x hx b => ?_
      have hsx := or_sub hs ((mem_sub (by omega)).1 hx)
      have hd := diff_lt hsx (or_ne hs hs0)
      exact step_congr (most_fuel fit f g (diffN s (lowN s ||| x)) (k - 1) (by omega) (by omega) (by omega))
/-- The most that can be pressed of what is left. -/
def mostF (fit : Nat → Bool) (s k : Nat) : Pd := mostR fit s s k
theorem most_zero (fit : Nat → Bool) {s k : Nat} (h : s = 0 ∨ k = 0) : mostF fit s k = ⟨0, 0⟩ := by
  unfold mostF
  cases s with
  | zero => rfl
  | succ s => unfold mostR; rw [if_pos h]
theorem most_step (fit : Nat → Bool) {s k : Nat} (hs : s < 1024) (h : ¬ (s = 0 ∨ k = 0)) : mostF fit s k = (subL (diffN s (lowN s))).foldl (stepR fit (fun t => mostF fit t (k - 1)) s (lowN s)) (mostF fit (diffN s (lowN s)) k) := by
  have hs0 : s ≠ 0 := fun e => h (.inl e)
  have hl := low_diff hs hs0
  unfold mostF
  rw [most_fuel fit s (s + 1) s k (by omega) (by omega) hs]
  show (if s = 0 ∨ k = 0 then _ else _) = _
  rw [if_neg h, most_fuel fit s (diffN s (lowN s)) (diffN s (lowN s)) k (by omega) (by omega) (by omega)]
  refine foldl_mem fun x hx b => ?_
  have hsx := or_sub hs ((mem_sub (by omega)).1 hx)
  have hd := diff_lt hsx (or_ne hs hs0)
  exact step_congr (most_fuel fit s (diffN s (lowN s ||| x)) (diffN s (lowN s ||| x)) (k - 1) (by omega) (by omega) (by omega))
/-- No more than so many are pressed. -/
theorem most_le (fit : Nat → Bool) : ∀ (f s k : Nat), s < 1024 → (mostR fit f s k).f ≤ 10 * k ∧ (mostR fit f s k).b ≤ k
  | 0, _, _, _ => by simp [mostR]
  | f + 1, s, k, hs => by
    unfold mostR
    by_cases h0 : s = 0 ∨ k = 0
    · rw [if_pos h0]; simp
    · rw [if_neg h0]
      have hs0 : s ≠ 0 := fun e => h0 (.inl e)
      have hl := low_diff hs hs0
      have key : ∀ (l : List Nat) (b : Pd), (∀ x ∈ l, Sub (lowN s ||| x) s) → b.f ≤ 10 * k ∧ b.b ≤ k → (l.foldl (stepR fit (fun t => mostR fit f t (k - 1)) s (lowN s)) b).f ≤ 10 * k ∧ (l.foldl (stepR fit (fun t => mostR fit f t (k - 1)) s (lowN s)) b).b ≤ k := by
        intro l
        induction l with
        | nil => intro b _ h; exact h
        | cons x l ih =>
          intro b hl hb
          rw [List.foldl_cons]
          refine ih _ (fun y hy => hl y (by simp [hy])) ?_
          unfold stepR
          split
          · split
            · have h1 := most_le fit f (diffN s (lowN s ||| x)) (k - 1) (by have := diffN_le s (lowN s ||| x); omega)
              have h2 := pop_le (lowN s ||| x)
              unfold Pd.more
              dsimp only
              omega
            · exact hb
          · exact hb
      exact key _ _ (fun x hx => or_sub hs ((mem_sub (by omega)).1 hx)) (most_le fit f _ k (by omega))
theorem most_small (fit : Nat → Bool) {s k : Nat} (hs : s < 1024) (hk : k ≤ 5) : (mostF fit s k).f ≤ 50 ∧ (mostF fit s k).b ≤ 5 := by
  have := most_le fit s s k hs
  unfold mostF
  omega
end Go.Ag
/- Layer 8: the hand that presses: the most that can be pressed of what is left. -/
namespace Go.Ag
open Go.Proofs
set_option maxRecDepth 100000

def mF (fit : Nat → Bool) (y : Ky) : Pd := mostF fit y.s y.k
/-- The hand, as it lies in memory. -/
structure Hd (fit : Nat → Bool) (N p q o m : Nat) (h : Heap) : Prop where
  bp : Heap.at h p = .blk [.map m]
  bq : Heap.at h q = .blk [.msl o 1 0 N N, .func (.func 103) [] [.ptr p 0, .ptr q 0]]
  bo : Heap.at h o = .blk ((List.range N).map fun s => .c (B (fit s)))
  bm : PMap (mF fit) (Heap.at h m)
  lp : p < h.n
  lq : q < h.n
  lo : o < h.n
  lm : m < h.n
  np : p ≠ m
  nq : q ≠ m
  no : o ≠ m
section
variable {fit : Nat → Bool} {N p q o m : Nat} {h h' : Heap}
theorem Hd.foot (H : Hd fit N p q o m h) (f : Foot (fun i => i = m) h h') (hm : PMap (mF fit) (Heap.at h' m)) : Hd fit N p q o m h' :=
  ⟨(f.keep p H.lp H.np).trans H.bp, (f.keep q H.lq H.nq).trans H.bq, (f.keep o H.lo H.no).trans H.bo, hm, Nat.lt_of_lt_of_le H.lp f.n, Nat.lt_of_lt_of_le H.lq f.n, Nat.lt_of_lt_of_le H.lo f.n, Nat.lt_of_lt_of_le H.lm f.n, H.np, H.nq, H.no⟩
theorem Hd.ext (H : Hd fit N p q o m h) (f : Foot none' h h') : Hd fit N p q o m h' :=
  H.foot (f.mono fun _ _ hi => hi.elim) (pMap_eq (f.keep m H.lm (fun x => x)) H.bm)
end
/-- What the rounds of the search keep. -/
structure Mid (fit : Nat → Bool) (N p q o m : Nat) (h : Heap) (s k b : Nat) (g : Heap) (pd : Pd) : Prop where
  H : Hd fit N p q o m h
  ft : Foot (fun i => i = m) h g
  bm : PMap (mF fit) (Heap.at g m)
  b0 : Heap.at g h.n = reB s k
  b1 : Heap.at g (h.n + 1) = pdB ⟨0, 0⟩
  b3 : Heap.at g (h.n + 3) = .blk [.c (I (lowN s : Nat))]
  b4 : Heap.at g b = pdB pd
  bn : b < g.n
  hb : h.n + 4 ≤ b
section
variable {fit : Nat → Bool} {N p q o m : Nat} {h g g' : Heap} {s k b : Nat} {pd : Pd}
theorem Mid.hd (M : Mid fit N p q o m h s k b g pd) : Hd fit N p q o m g := M.H.foot M.ft M.bm
/-- Also where only others are written, but for the map. -/
theorem Mid.keep' (M : Mid fit N p q o m h s k b g pd) (hn : g.n ≤ g'.n) (at' : ∀ i, i ≤ b → i ≠ m → Heap.at g' i = Heap.at g i) (hm' : PMap (mF fit) (Heap.at g' m)) : Mid fit N p q o m h s k b g' pd := by
  have hb := M.hb; have hbn := M.bn
  have lm := M.H.lm
  have fn := M.ft.n
  exact ⟨M.H, ⟨by omega, fun i hi hne => (at' i (by omega) hne).trans (M.ft.keep i hi hne)⟩, hm', (at' _ (by omega) (by omega)).trans M.b0, (at' _ (by omega) (by omega)).trans M.b1, (at' _ (by omega) (by omega)).trans M.b3, (at' _ (by omega) (by omega)).trans M.b4, by omega, hb⟩
theorem Mid.keep (M : Mid fit N p q o m h s k b g pd) {W : Nat → Prop} (f : Foot W g g') (hw : ∀ i, i ≤ b → ¬ W i) : Mid fit N p q o m h s k b g' pd := by
  have hb := M.hb; have hbn := M.bn
  have lm := M.H.lm
  exact M.keep' f.n (fun i hi _ => f.keep i (by omega) (hw i hi)) (pMap_eq (f.keep m (by omega) (hw m (by omega))) M.bm)
/-- The best one is put. -/
theorem Mid.put (M : Mid fit N p q o m h s k b g pd) (pd' : Pd) : Mid fit N p q o m h s k b (g.set .dead b (pdB pd')) pd' := by
  have hb := M.hb; have hbn := M.bn
  have lm := M.H.lm
  have fn := M.ft.n
  have at' : ∀ i, i ≠ b → Heap.at (g.set .dead b (pdB pd')) i = Heap.at g i := fun i hi => at_set_ne _ _ hi
  exact ⟨M.H, ⟨by rw [TMap.set_n]; omega, fun i hi hne => (at' i (by omega)).trans (M.ft.keep i hi hne)⟩, pMap_eq (at' m (by omega)) M.bm, (at' _ (by omega)).trans M.b0, (at' _ (by omega)).trans M.b1, (at' _ (by omega)).trans M.b3, at_set_self _ _ hbn, by rw [TMap.set_n]; exact hbn, hb⟩
end
theorem fits_read {fit : Nat → Bool} {N x : Nat} (hx : x < N) : readVar Tryz.prog 4 ((List.range N).map fun s => AV.c (B (fit s))) (0 + ((x : Nat) : Int).toNat * 1) = some (.c (B (fit x))) := by
  have e : ((List.range N).map fun s => AV.c (B (fit s))) = ((List.range N).map fun s => B (fit s)).map AV.c := by rw [List.map_map]; rfl
  rw [e]
  refine readVar_map ?_
  rw [Int.toNat_natCast, Nat.zero_add, Nat.mul_one]
  show ((List.range N).map fun s => B (fit s))[x]? = _
  rw [List.getElem?_map, List.getElem?_range hx]; rfl
theorem push1 {h : Heap} (b : AB) : Foot none' h (h.push .dead b) := (Foot.refl _ _).push _
set_option maxHeartbeats 8000000 in
theorem most_call {fit : Nat → Bool} {N p q o m : Nat} (hN : N ≤ 1024) : ∀ (f s k : Nat), s ≤ f → s < N → k ≤ 5 → ∀ h, Hd fit N p q o m h →
    ∃ e h', CallOk Tryz.prog 103 [.c (reV s k), .ptr p 0, .ptr q 0] h .no e h' .no ∧ (e = .ret (.c (pdV (mostF fit s k))) ∧ Foot (fun i => i = m) h h' ∧ PMap (mF fit) (Heap.at h' m)) := by
  intro f
  induction f with
  | zero =>
    intro s k hf hs hk h H
    obtain rfl : s = 0 := by omega
    rw [most_zero fit (.inl rfl)]
    refine call_then (hm := false) Tryz.func103 rfl ?_
    conv => whnf
    refine then_seq (hm := false) ?_
    conv => whnf
    generalize hG : TMap.push AB.dead (TMap.push AB.dead h _) _ = G
    have G0 : Heap.at G h.n = reB 0 k := by rw [← hG]; exact (at_push_lt _ _ (Nat.lt_succ_self h.n)).trans (at_push_self _ _)
    have G1 : Heap.at G (h.n + 1) = pdB ⟨0, 0⟩ := by rw [← hG]; exact at_push_self _ _
    have Gn : G.n = h.n + 2 := by rw [← hG]; rfl
    have GF : Foot none' h G := by rw [← hG]; exact ((Foot.refl _ _).push _).push _
    clear hG
    have hmn := H.lm
    have hend : Foot (fun i => i = m) h (G.set .dead (h.n + 1) (pdB ⟨0, 0⟩)) ∧ PMap (mF fit) (Heap.at (G.set .dead (h.n + 1) (pdB ⟨0, 0⟩)) m) :=
      ⟨(Foot.set (k := h.n + 1) GF (.inr (by omega)) _).mono (fun _ _ hi => hi.elim), pMap_eq ((at_set_ne _ _ (by omega)).trans (GF.keep m H.lm (fun x => x))) H.bm⟩
    refine then_seq (hm := false) ?_
    conv => whnf
    refine ⟨_, G0, ?_⟩
    conv => whnf
    refine ⟨_, G1, ?_⟩
    conv => whnf
    refine ⟨_, at_set_self _ _ (i := h.n + 1) (by omega), ?_⟩
    conv => whnf
    exact ⟨rfl, hend.1, hend.2⟩
  | succ f ih =>
    intro s k hf hs hk h H
    refine call_then (hm := false) Tryz.func103 rfl ?_
    conv => whnf
    refine then_seq (hm := false) ?_
    conv => whnf
    generalize hG : TMap.push AB.dead (TMap.push AB.dead h _) _ = G
    have G0 : Heap.at G h.n = reB s k := by rw [← hG]; exact (at_push_lt _ _ (Nat.lt_succ_self h.n)).trans (at_push_self _ _)
    have G1 : Heap.at G (h.n + 1) = pdB ⟨0, 0⟩ := by rw [← hG]; exact at_push_self _ _
    have Gn : G.n = h.n + 2 := by rw [← hG]; rfl
    have GF : Foot none' h G := by rw [← hG]; exact ((Foot.refl _ _).push _).push _
    clear hG
    have K := H.ext GF
    have hmn := H.lm
    by_cases h0 : s = 0 ∨ k = 0
    · rw [most_zero fit h0]
      have hend : Foot (fun i => i = m) h (G.set .dead (h.n + 1) (pdB ⟨0, 0⟩)) ∧ PMap (mF fit) (Heap.at (G.set .dead (h.n + 1) (pdB ⟨0, 0⟩)) m) :=
        ⟨(Foot.set (k := h.n + 1) GF (.inr (by omega)) _).mono (fun _ _ hi => hi.elim), pMap_eq ((at_set_ne _ _ (by omega)).trans (GF.keep m H.lm (fun x => x))) H.bm⟩
      by_cases hs0 : s = 0
      · subst hs0
        refine then_seq (hm := false) ?_
        conv => whnf
        refine ⟨_, G0, ?_⟩
        conv => whnf
        refine ⟨_, G1, ?_⟩
        conv => whnf
        refine ⟨_, at_set_self _ _ (i := h.n + 1) (by omega), ?_⟩
        conv => whnf
        exact ⟨rfl, hend.1, hend.2⟩
      · obtain rfl : k = 0 := by omega
        refine then_seq (hm := false) ?_
        conv => whnf
        refine ⟨_, G0, ?_⟩
        conv => whnf
        rw [show (((s : Nat) : Int) == 0) = false by rw [beq_eq_false_iff_ne]; omega]
        conv => whnf
        refine ⟨_, G0, ?_⟩
        conv => whnf
        refine ⟨_, G1, ?_⟩
        conv => whnf
        refine ⟨_, at_set_self _ _ (i := h.n + 1) (by omega), ?_⟩
        conv => whnf
        exact ⟨rfl, hend.1, hend.2⟩
    have hs0 : s ≠ 0 := fun e => h0 (.inl e)
    have hk0 : k ≠ 0 := fun e => h0 (.inr e)
    refine then_seq (hm := false) ?_
    conv => whnf
    refine ⟨_, G0, ?_⟩
    conv => whnf
    rw [show (((s : Nat) : Int) == 0) = false by rw [beq_eq_false_iff_ne]; omega]
    conv => whnf
    refine ⟨_, G0, ?_⟩
    conv => whnf
    rw [show (((k : Nat) : Int) == 0) = false by rw [beq_eq_false_iff_ne]; omega]
    conv => whnf
    refine then_seq (hm := false) ?_
    conv => whnf
    refine ⟨_, K.bp, ?_⟩
    conv => whnf
    refine ⟨_, G0, ?_⟩
    conv => whnf
    obtain ⟨ok, pd, hlk, hpd⟩ := p_lookup (rd := Heap.at G) K.bm ⟨s, k⟩
    refine ⟨_, hlk, ?_⟩
    conv => whnf
    refine ⟨_, at_push_self _ _, ?_⟩
    conv => whnf
    generalize hA : TMap.set AB.dead (TMap.push AB.dead G _) _ _ = A
    have An : A.n = h.n + 3 := by rw [← hA]; exact (new_n _ _ _).trans (by omega)
    have A0 : Heap.at A h.n = reB s k := by rw [← hA]; exact (at_old _ _ _ (by omega)).trans G0
    have A1 : Heap.at A (h.n + 1) = pdB ⟨0, 0⟩ := by rw [← hA]; exact (at_old _ _ _ (by omega)).trans G1
    have A2 : Heap.at A G.n = pdB pd := by rw [← hA]; exact at_new _ _ _
    have AF : Foot none' h A := by rw [← hA]; exact Foot.set (GF.push _) (.inr (by omega)) _
    clear hA
    rw [Gn] at A2 ⊢
    have KA := H.ext AF
    cases ok
    case true =>
      rw [show mostF fit s k = pd from (hpd rfl).symm]
      conv => whnf
      refine ⟨_, A2, ?_⟩
      conv => whnf
      refine ⟨_, A1, ?_⟩
      conv => whnf
      refine ⟨_, at_set_self _ _ (i := h.n + 1) (by omega), ?_⟩
      conv => whnf
      have hend : Foot (fun i => i = m) h (A.set .dead (h.n + 1) (pdB pd)) ∧ PMap (mF fit) (Heap.at (A.set .dead (h.n + 1) (pdB pd)) m) :=
        ⟨(Foot.set (k := h.n + 1) AF (.inr (by omega)) _).mono (fun _ _ hi => hi.elim), pMap_eq ((at_set_ne _ _ (by omega)).trans (AF.keep m H.lm (fun x => x))) H.bm⟩
      exact ⟨rfl, hend.1, hend.2⟩
    clear hpd hlk A2
    have hs1 : s < 1024 := by omega
    have hlow : lowN s ≤ s := sub_le (low_sub hs1)
    have hdl := low_diff hs1 hs0
    conv => whnf
    refine then_seq (hm := false) ?_
    conv => whnf
    refine ⟨_, A0, ?_⟩
    conv => whnf
    refine ⟨_, A0, ?_⟩
    conv => whnf
    refine ⟨((lowN s : Nat) : Int), (by rw [show IntKind.i64.wrap (0 - (s : Int)) = -(s : Int) by rw [wrap_eq (by omega) (by omega)]; omega]; exact neg_and hs1), ?_⟩
    conv => whnf
    refine ⟨_, at_push_self _ _, ?_⟩
    conv => whnf
    generalize hB : TMap.set AB.dead (TMap.push AB.dead A _) _ _ = D
    have Dn : D.n = h.n + 4 := by rw [← hB]; exact (new_n _ _ _).trans (by omega)
    have D0 : Heap.at D h.n = reB s k := by rw [← hB]; exact (at_old _ _ _ (by omega)).trans A0
    have D1 : Heap.at D (h.n + 1) = pdB ⟨0, 0⟩ := by rw [← hB]; exact (at_old _ _ _ (by omega)).trans A1
    have D3 : Heap.at D A.n = .blk [.c (I (lowN s : Nat))] := by rw [← hB]; exact at_new _ _ _
    have DF : Foot none' h D := by rw [← hB]; exact Foot.set (AF.push _) (.inr (by omega)) _
    clear hB
    rw [An] at D3 ⊢
    have KD := H.ext DF
    refine then_seq (hm := false) ?_
    conv => whnf
    refine ⟨_, D0, ?_⟩
    conv => whnf
    refine ⟨_, D3, ?_⟩
    conv => whnf
    refine ⟨_, andNot_nat (a := s) (b := lowN s) (by omega) (by omega), ?_⟩
    conv => whnf
    obtain ⟨e1, B1, hc1, rfl, f1, m1⟩ := ih (diffN s (lowN s)) k (by omega) (by omega) hk D KD
    have b1n := f1.n
    refine then_seq (hm := false) ?_
    conv => whnf
    refine ⟨_, KD.bq, ?_⟩
    conv => whnf
    refine ⟨_, D0, ?_⟩
    conv => whnf
    refine .inl _ B1 .no hc1 ?_
    conv => whnf
    refine ⟨_, at_push_self _ _, ?_⟩
    conv => whnf
    generalize hB : TMap.set AB.dead (TMap.push AB.dead B1 _) _ _ = C
    have Cn : C.n = B1.n + 1 := by rw [← hB]; exact new_n _ _ _
    have C0 : Heap.at C h.n = reB s k := by rw [← hB]; exact (at_old _ _ _ (by omega)).trans ((f1.keep h.n (by omega) (by omega)).trans D0)
    have C1 : Heap.at C (h.n + 1) = pdB ⟨0, 0⟩ := by rw [← hB]; exact (at_old _ _ _ (by omega)).trans ((f1.keep (h.n + 1) (by omega) (by omega)).trans D1)
    have C3 : Heap.at C (h.n + 3) = .blk [.c (I (lowN s : Nat))] := by rw [← hB]; exact (at_old _ _ _ (by omega)).trans ((f1.keep (h.n + 3) (by omega) (by omega)).trans D3)
    have C4 : Heap.at C B1.n = pdB (mostF fit (diffN s (lowN s)) k) := by rw [← hB]; exact at_new _ _ _
    have CF1 : Foot (fun i => i = m) D C := by rw [← hB]; exact Foot.set (f1.push _) (.inr (by omega)) _
    have KC : Hd fit N p q o m C := KD.foot CF1 (pMap_eq (by rw [← hB]; exact at_old _ _ _ (by omega)) m1)
    have CF : Foot (fun i => i = m) h C := (DF.mono fun _ _ hi => hi.elim).trans CF1
    clear hB hc1 m1
    obtain ⟨b, hb⟩ : ∃ b, b = B1.n := ⟨_, rfl⟩
    have hbn : h.n + 4 ≤ b := by omega
    rw [← hb] at C4 Cn ⊢
    have MC : Mid fit N p q o m h s k b C (mostF fit (diffN s (lowN s)) k) := ⟨H, CF, KC.bm, C0, C1, C3, C4, by omega, hbn⟩
    clear C0 C1 C3 C4 KC CF CF1 f1 b1n hb KD DF D3 D1 D0 KA AF A0 A1 K GF G0 G1
    have hall : ∀ x ∈ subL (diffN s (lowN s)), Sub (lowN s ||| x) s := fun x hx => or_sub hs1 ((mem_sub (by omega)).1 hx)
    have hstep := most_step fit hs1 h0
    refine then_via (hm := false) (fun st => ∃ (g : Heap), Mid fit N p q o m h s k b g (mostF fit s k) ∧ b + 1 < g.n ∧ Heap.at g (b + 1) = .coll true ∧ Has st 74 [(1, .ptr p 0), (3, .ptr h.n 0), (4, .ptr (h.n + 1) 0), (9, .ptr b 0)] [.coll (b + 1)] none g) ?_ ?_
    · skip
      conv => whnf
      refine .ret (setsOf_ret _) rfl ?_
      conv => whnf
      refine range_nA (hm := false) (b + 1) Cn (ps := [49]) rfl rfl (sets_iter (r := diffN s (lowN s)) (by omega))
        (I := fun _ ys g => ∃ done rest, ys = chs rest ∧ subL (diffN s (lowN s)) = done ++ rest ∧ Mid fit N p q o m h s k b g (done.foldl (stepR fit (fun t => mostF fit t (k - 1)) s (lowN s)) (mostF fit (diffN s (lowN s)) k)))
        (E := fun _ _ _ => False) (X := fun _ _ _ => False) ?_ ?_ ?_ ?_ ?_ ?_ ?_ ?_ ?_ ?_ ?_ ?_
      · rintro W ys g g' ⟨done, rest, x1, x2, M⟩ hn hw ff
        exact ⟨done, rest, x1, x2, M.keep ff (fun i hi hx => by rcases hx with x | x | x; (have := hw i x; omega); omega; omega)⟩
      · rintro _ _ _ _ hx
        exact hx.elim
      · rintro _ _ _ _ hx
        exact hx.elim
      · rintro W W' ys g ⟨done, rest, x1, x2, M⟩ hw
        exact ⟨done, rest, x1, x2, M⟩
      · rintro _ _ _ _ hx _
        exact hx
      · rintro _ _ _ _ hx _
        exact hx
      · intros; trivial
      · exact ⟨[], _, rfl, rfl, MC⟩
      · rintro W y ys g hn hw ⟨done, rest, x1, x2, M⟩
        cases rest with
        | nil => cases x1
        | cons x rest =>
        obtain ⟨rfl, rfl⟩ := List.cons.inj x1
        refine ⟨rfl, ?_⟩
        conv => whnf
        refine ⟨Foot.refl _ _, fun gb fb hbn' => ?_⟩
        have M0 := M.keep fb (fun i hi => by omega)
        have hsx := hall x (by rw [x2]; simp)
        have hxs := sub_le hsx
        have hx10 : x < 1024 := by have := (mem_sub (r := diffN s (lowN s)) (x := x) (by omega)).1 (by rw [x2]; simp); have := sub_le this; omega
        conv => whnf
        refine ⟨_, M0.b3, ?_⟩
        conv => whnf
        refine ⟨_, or_nat (a := lowN s) (b := x) (by omega) (by omega), ?_⟩
        conv => whnf
        refine ⟨_, M0.hd.bq, ?_⟩
        conv => whnf
        refine ⟨⟨rfl, by omega, by omega⟩, ?_⟩
        conv => whnf
        refine ⟨_, M0.hd.bo, ?_⟩
        conv => whnf
        refine look_read (fits_read (by omega)) ?_
        conv => whnf
        cases hfit : fit (lowN s ||| x)
        case false =>
          conv => whnf
          refine ⟨Foot.refl _ _, done ++ [x], rest, rfl, by rw [x2]; simp, ?_⟩
          rw [List.foldl_append, List.foldl_cons, List.foldl_nil, show stepR fit (fun t => mostF fit t (k - 1)) s (lowN s) (done.foldl (stepR fit (fun t => mostF fit t (k - 1)) s (lowN s)) (mostF fit (diffN s (lowN s)) k)) x = done.foldl (stepR fit (fun t => mostF fit t (k - 1)) s (lowN s)) (mostF fit (diffN s (lowN s)) k) by unfold stepR; rw [hfit]; rfl]
          exact M0
        have hdl2 := diff_lt hsx (or_ne hs1 hs0)
        obtain ⟨e2, B2, hc2, rfl, f2, m2⟩ := ih (diffN s (lowN s ||| x)) (k - 1) (by omega) (by omega) (by omega) gb M0.hd
        have b2n := f2.n
        have M2 := M0.keep' b2n (fun i hi hne => f2.keep i (by have := M0.bn; omega) hne) m2
        have hms := most_small fit (s := diffN s (lowN s ||| x)) (k := k - 1) (by omega) (by omega)
        obtain ⟨best, hbest⟩ : ∃ best, best = done.foldl (stepR fit (fun t => mostF fit t (k - 1)) s (lowN s)) (mostF fit (diffN s (lowN s)) k) := ⟨_, rfl⟩
        have hfold : (done ++ [x]).foldl (stepR fit (fun t => mostF fit t (k - 1)) s (lowN s)) (mostF fit (diffN s (lowN s)) k) = if ((mostF fit (diffN s (lowN s ||| x)) (k - 1)).more (lowN s ||| x)).better best then (mostF fit (diffN s (lowN s ||| x)) (k - 1)).more (lowN s ||| x) else best := by
          rw [List.foldl_append, List.foldl_cons, List.foldl_nil, ← hbest]
          unfold stepR; rw [hfit, if_pos rfl]
        rw [← hbest] at M2
        obtain ⟨z, hz⟩ : ∃ z, z = lowN s ||| x := ⟨_, rfl⟩
        rw [← hz] at hc2 hms hfold hsx hxs hdl2 ⊢
        obtain ⟨pz, hpz⟩ : ∃ pz, pz = mostF fit (diffN s z) (k - 1) := ⟨_, rfl⟩
        rw [← hpz] at hc2 hms hfold
        have hgb := M0.bn
        conv => whnf
        refine mixedA_by (hm := false) 8 12 (by kernel_rfl) (by kernel_rfl) ?_
        conv => whnf
        refine ⟨_, M0.hd.bq, ?_⟩
        conv => whnf
        refine ⟨_, M0.b0, ?_⟩
        conv => whnf
        refine .ret _ _ (without_ret (s := s) (x := z) (k := k) (by omega) (by omega) (by omega) (by omega)) rfl ?_
        conv => whnf
        refine .heavy _ B2 (.inl hc2) ?_
        conv => whnf
        refine .ret _ _ (with_ret (p := pz) (x := z) (by omega) (by omega) (by omega)) rfl ?_
        conv => whnf
        refine ⟨_, at_push_self _ _, ?_⟩
        conv => whnf
        refine ⟨by show B2.n < B2.n + 1; omega, ?_⟩
        conv => whnf
        refine ⟨by kernel_rfl, heaps_nil (by kernel_rfl), by kernel_rfl, ⟨_, B2, [I 0, I 0], rfl, rfl, ⟨⟨_, 92, rfl, rfl, rfl, rfl, by kernel_rfl⟩, rfl, rfl, rfl, by simp⟩⟩, ?_⟩
        generalize hT : TMap.set AB.dead (TMap.push AB.dead B2 _) _ _ = T
        have Tn : T.n = B2.n + 1 := by rw [← hT]; exact new_n _ _ _
        have T2 : Heap.at T B2.n = pdB (pz.more z) := by rw [← hT]; exact at_new _ _ _
        have TF : Foot none' B2 T := by rw [← hT]; exact Foot.set (push1 _) (.inr (by omega)) _
        clear hT
        have MT := M2.keep TF (fun i _ hi => hi.elim)
        have hapm : ∀ i, i < gb.n → i = m → apart W (b + 1) i := by
          rintro i _ rfl (x | x | x)
          · have := (hw i x).1; omega
          · omega
          · omega
        have hapb : apart W (b + 1) b := by
          rintro (x | x | x)
          · have := (hw b x).1; omega
          · omega
          · omega
        conv => whnf
        refine ⟨_, T2, ?_⟩
        conv => whnf
        refine ⟨_, MT.b4, ?_⟩
        conv => whnf
        refine .ret (better_ret (pz.more z) best) rfl ?_
        conv => whnf
        cases hbt : (pz.more z).better best
        · rw [hbt, if_neg (by simp)] at hfold
          conv => whnf
          exact ⟨(f2.mono hapm).trans (TF.mono fun _ _ hi => hi.elim), done ++ [x], rest, rfl, by rw [x2]; simp, by rw [hfold]; exact MT⟩
        · rw [hbt, if_pos rfl] at hfold
          conv => whnf
          refine ⟨_, T2, ?_⟩
          conv => whnf
          refine ⟨_, MT.b4, ?_⟩
          conv => whnf
          exact ⟨Foot.set (k := b) ((f2.mono hapm).trans (TF.mono fun _ _ hi => hi.elim)) (.inl hapb) _, done ++ [x], rest, rfl, by rw [x2]; simp, by rw [hfold]; exact MT.put _⟩
      · rintro g hn hc ⟨done, rest, x1, x2, M⟩
        have : rest = [] := by cases rest with | nil => rfl | cons a l => cases x1
        subst this
        rw [List.append_nil] at x2
        rw [← x2, ← hstep] at M
        conv => whnf
        exact ⟨g, M, by omega, hc, rfl, ⟨rfl, rfl, rfl, rfl, trivial⟩, rfl, rfl, rfl, rfl⟩
      · rintro e g _ _ hx
        exact hx.elim
      · rintro v g _ _ hx
        exact hx.elim
    rintro st ⟨g, M, hgn, hc, hs2⟩
    refine hs2.then ?_
    have hkey : mostF fit s k = mF fit ⟨s, k⟩ := rfl
    obtain ⟨bb, hup, hbb⟩ := p_update (rd := Heap.at g) M.bm ⟨s, k⟩
    refine then_seq (hm := false) ?_
    conv => whnf
    refine ⟨_, M.hd.bp, ?_⟩
    conv => whnf
    refine ⟨_, M.b0, ?_⟩
    conv => whnf
    refine ⟨_, M.b4, ?_⟩
    conv => whnf
    refine ⟨_, hup, ?_⟩
    conv => whnf
    generalize hG : Heap.upd g _ = G
    have Gn : G.n = g.n := by rw [← hG]; exact TMap.set_n _ _ _ _
    have Gm : PMap (mF fit) (Heap.at G m) := pMap_eq (by rw [← hG]; exact at_set_self _ _ M.hd.lm) hbb
    have Ga : ∀ i, i ≠ m → Heap.at G i = Heap.at g i := fun i hi => by rw [← hG]; exact at_set_ne _ _ hi
    clear hG
    have MG := M.keep' (g' := G) (by omega) (fun i _ hi => Ga i hi) Gm
    have hbn2 := MG.bn
    refine then_seq (hm := false) ?_
    conv => whnf
    refine ⟨_, MG.b4, ?_⟩
    conv => whnf
    refine ⟨_, MG.b1, ?_⟩
    conv => whnf
    refine then_end (hm := false) ?_
    conv => whnf
    have hlm := H.lm
    refine ⟨_, (at_set_ne _ _ (i := b + 1) (k := h.n + 1) (by omega)).trans ((Ga (b + 1) (by omega)).trans hc), ?_⟩
    conv => whnf
    refine ⟨_, (at_set_ne _ _ (i := h.n + 1) (k := b + 1) (by omega)).trans (at_set_self _ _ (i := h.n + 1) (show h.n + 1 < G.n by omega)), ?_⟩
    conv => whnf
    refine ⟨rfl, Foot.set (k := b + 1) (Foot.set (k := h.n + 1) MG.ft (.inr (by omega)) _) (.inr (by omega)) _, pMap_eq ((at_set_ne _ _ (i := m) (k := b + 1) (by omega)).trans (at_set_ne _ _ (i := m) (k := h.n + 1) (by omega))) Gm⟩
end Go.Ag
/- Layer 8: a hand is made. -/
namespace Go.Ag
open Go.Proofs
set_option maxRecDepth 100000

set_option maxRecDepth 1000000 in
theorem sub_all : ∀ n : Nat, n ≤ 10 → subL (2 ^ n - 1) = List.range (2 ^ n) := by decide +kernel
theorem U95 : Tryz.prog.underlying 95 = some (.slice 4) := by kernel_rfl
theorem S4 : slicePart Tryz.prog 4 = some 1 := by kernel_rfl
def rowX (d : Pn) (x : Nat) : List CV := [B (fitsP d x)]
theorem rowX_all (d : Pn) (l : List Nat) : ∀ r ∈ l.map (rowX d), r.length = 1 := by
  intro r hr; obtain ⟨x, _, rfl⟩ := List.mem_map.1 hr; rfl
/-- What the rounds keep in which all sets are weighed. -/
structure HO (d : Pn) (C : List CV) (h : Heap) (out : AV) (done : List Nat) (W : Nat → Prop) (g : Heap) : Prop where
  b0 : Heap.at g h.n = .blk (C.map .c)
  b1 : Heap.at g (h.n + 1) = .blk [.c nilC, .lit .nilFunc]
  b2 : Heap.at g (h.n + 2) = .blk [out, .lit .nilFunc]
  gn : h.n + 3 ≤ g.n
  rs : RowsL 1 g out (done.map (rowX d))
  ow : ∀ k, outId out = some k → h.n + 5 ≤ k ∧ ¬ W k
  ft : Foot none' h g
section
variable {d : Pn} {C : List CV} {h : Heap} {out : AV} {done : List Nat} {W : Nat → Prop} {g g' : Heap}
theorem HO.ext (e : HO d C h out done W g) {V : Nat → Prop} (f : Foot V g g') (hv : ∀ i, i < h.n + 3 → ¬ V i) (ho : ∀ k, outId out = some k → ¬ V k) : HO d C h out done W g' := by
  have n3 := e.gn; have fn := f.n; have hn := e.ft.n
  exact ⟨(f.keep _ (by omega) (hv _ (by omega))).trans e.b0, (f.keep _ (by omega) (hv _ (by omega))).trans e.b1, (f.keep _ (by omega) (hv _ (by omega))).trans e.b2, by omega, e.rs.ext fn (fun i hi h1 => f.keep i hi (ho i h1)), e.ow, ⟨by omega, fun i hi hx => (f.keep i (by omega) (hv i (by omega))).trans (e.ft.keep i hi hx)⟩⟩
theorem HO.less (e : HO d C h out done W g) {W' : Nat → Prop} (hw : ∀ i, W' i → W i) : HO d C h out done W' g := ⟨e.b0, e.b1, e.b2, e.gn, e.rs, fun k hk => ⟨(e.ow k hk).1, fun x => (e.ow k hk).2 (hw k x)⟩, e.ft⟩
end
set_option maxHeartbeats 8000000 in
theorem hand_call {v : PV} {d : Pn} (hv : v.IsL d.pr) (hd : d.Good) {C : List CV} (hC : Pile v d C) (h : Heap) :
    ∃ e h', CallOk Tryz.prog 66 [.c (.agg C)] h .no e h' .no ∧ ∃ p q o m, e = .ret (.agg [.msl o 1 0 (2 ^ d.n) (2 ^ d.n), .func (.func 103) [] [.ptr p 0, .ptr q 0]]) ∧ Foot none' h h' ∧ Hd (fitsP d) (2 ^ d.n) p q o m h' ∧ h.n ≤ p ∧ h.n ≤ q ∧ h.n ≤ o ∧ h.n ≤ m := by
  have hCc := hC.ce
  have n10 := hd.n10
  have p10 := pow10 n10
  have hsub := sub_all d.n n10
  refine call_then (hm := false) Tryz.func66 rfl ?_
  conv => whnf
  refine then_seq (hm := false) ?_
  conv => whnf
  rw [box_agg (C := C)]; rotate_left; rfl; rfl; exact hCc
  conv => whnf
  refine forceL_intro ?_
  conv => whnf
  refine then_seq (hm := false) ?_
  conv => whnf
  generalize hG : TMap.push AB.dead (TMap.push AB.dead (TMap.push AB.dead h _) _) _ = G
  have Gn : G.n = h.n + 3 := by rw [← hG]; rfl
  have G0 : Heap.at G h.n = .blk (C.map .c) := by rw [← hG]; exact (at_push_lt _ _ (by simp only [push_n]; omega)).trans ((at_push_lt _ _ (by simp only [push_n]; omega)).trans (at_push_self _ _))
  have G1 : Heap.at G (h.n + 1) = .blk [.c nilC, .lit .nilFunc] := by rw [← hG]; exact (at_push_lt _ _ (by simp only [push_n]; omega)).trans (at_push_self _ _)
  have G2 : Heap.at G (h.n + 2) = .blk [nilA, .lit .nilFunc] := by rw [← hG]; exact at_push_self _ _
  have GF : Foot none' h G := by rw [← hG]; exact (((Foot.refl _ _).push _).push _).push _
  clear hG
  refine then_via (hm := false) (fun st => ∃ (g : Heap) (o : Nat), HO d C h (.msl o 1 0 (2 ^ d.n) (2 ^ d.n)) (List.range (2 ^ d.n)) none' g ∧ h.n + 4 ≤ g.n ∧ Heap.at g (h.n + 3) = .coll true ∧ Has st 23 [(2, .ptr (h.n + 1) 0), (3, .ptr (h.n + 2) 0)] [.coll (h.n + 3)] none g) ?_ ?_
  · skip
    conv => whnf
    refine ⟨_, G0, ?_⟩
    conv => whnf
    refine look_read (hC.rd3) ?_
    conv => whnf
    refine .ret (setsOf_ret _) rfl ?_
    conv => whnf
    refine range_nA (hm := false) (h.n + 3) Gn (ps := [10]) rfl rfl (sets_iter (r := 2 ^ d.n - 1) (by omega))
      (I := fun W ys g => ∃ done rest out, ys = chs rest ∧ subL (2 ^ d.n - 1) = done ++ rest ∧ HO d C h out done W g)
      (E := fun _ _ _ => False) (X := fun _ _ _ => False) ?_ ?_ ?_ ?_ ?_ ?_ ?_ ?_ ?_ ?_ ?_ ?_
    · rintro W ys g g' ⟨done, rest, out, x1, x2, M⟩ hn hw ff
      refine ⟨done, rest, out, x1, x2, ?_⟩
      have M' := M.ext ff (fun i hi hx => by rcases hx with x | x | x; (have := hw i x; omega); omega; omega) (fun k hk hx => by have := M.ow k hk; rcases hx with x | x | x; exact this.2 x; omega; omega)
      refine ⟨M'.b0, M'.b1, M'.b2, M'.gn, M'.rs, fun k hk => ⟨(M.ow k hk).1, fun x => ?_⟩, M'.ft⟩
      have := M.rs.lt k hk
      rcases x with x | x
      · exact (M.ow k hk).2 x
      · omega
    · rintro _ _ _ _ hx
      exact hx.elim
    · rintro _ _ _ _ hx
      exact hx.elim
    · rintro W W' ys g ⟨done, rest, out, x1, x2, M⟩ hw
      exact ⟨done, rest, out, x1, x2, M.less hw⟩
    · rintro _ _ _ _ hx _
      exact hx
    · rintro _ _ _ _ hx _
      exact hx
    · intros; trivial
    · exact ⟨[], _, nilA, rfl, rfl, ⟨G0, G1, G2, by omega, .inl ⟨rfl, rfl⟩, (fun k hk => by cases hk), GF⟩⟩
    · rintro W y ys g hn hw ⟨done, rest, out, x1, x2, M⟩
      cases rest with
      | nil => cases x1
      | cons x rest =>
      obtain ⟨rfl, rfl⟩ := List.cons.inj x1
      refine ⟨rfl, ?_⟩
      conv => whnf
      refine ⟨Foot.refl _ _, fun gb fb hbn' => ?_⟩
      have M0 := M.ext fb (fun i hi => by omega) (fun k hk => by have := (M.ow k hk).1; omega)
      have hx10 : x < 2 ^ d.n := by have := List.mem_range.1 (hsub ▸ (show x ∈ subL (2 ^ d.n - 1) by rw [x2]; simp)); exact this
      have hfx := fits_ret hv hd hC (s := x) (by omega)
      have hdl : done.length ≤ 1024 := by
        have := congrArg List.length x2
        rw [hsub, List.length_range, List.length_append, List.length_cons] at this
        omega
      have hlim : (done.map (rowX d)).length + 1 ≤ limit := by rw [List.length_map]; unfold limit; omega
      have hgn := M0.gn
      have hlo := M0.rs.lt
      have how := M0.ow
      rcases M0.rs.shape with rfl | ⟨o, z, rfl⟩
      all_goals
        conv => whnf
        refine draw_by (hm := false) (by kernel_rfl) (by kernel_rfl) ?_
        conv => whnf
        refine ⟨_, M0.b2, ?_⟩
        conv => whnf
        refine ⟨_, M0.b0, ?_⟩
        conv => whnf
        refine look_read (hC.rd) ?_
        conv => whnf
        refine .pure _ _ rfl (hfx) ?_
        conv => whnf
        obtain ⟨r1, hr1, hR1, hold1, hn1', hfresh1, hupd1, hre1, hup1, bf1, hval1, hnn1⟩ := rows_append2 (P := Tryz.prog) (row := rowX d x) (t := 95) (u := 95) M0.rs U95 U95 rfl S4 rfl (rowX_all d _) rfl hlim
        obtain ⟨H1, hH1⟩ : ∃ H1, H1 = after (gb.push .dead (.blk ((rowX d x).map .c))) r1 := ⟨_, rfl⟩
        rw [← hH1] at hR1 hold1 hn1' hnn1
        obtain ⟨rv1, rreads1, rupds1, rfresh1⟩ := r1
        obtain ⟨fb1, bf1⟩ := bf1
        simp only at hval1 hre1 hup1 bf1
        subst bf1
        subst hval1
        subst hre1
        subst hup1
        refine dgot (H := H1) (got_app rfl hr1) hupd1 hH1.symm ?_
        conv => whnf
        have e2 := (hold1 (h.n + 2) (by omega) (fun e => by have := (how (h.n + 2) e).1; omega)).trans M0.b2
        refine ⟨_, e2, ?_⟩
        conv => whnf
        refine ⟨by show h.n + 2 < H1.n; omega, ?_⟩
        conv => whnf
        refine ⟨?_, ?_⟩
        · first
            | (obtain ⟨π, z0, z1, z2, z3⟩ : ∃ π : Nat → Nat, π (h.n + 2) = 0 ∧ π h.n = 1 ∧ π gb.n = 2 ∧ π (gb.n + 1) = 3 := ⟨fun x => if x = h.n + 2 then 0 else if x = h.n then 1 else if x = gb.n then 2 else 3, by dsimp only; repeat (first | rw [if_pos rfl] | rw [if_neg (by omega)]), by dsimp only; repeat (first | rw [if_pos rfl] | rw [if_neg (by omega)]), by dsimp only; repeat (first | rw [if_pos rfl] | rw [if_neg (by omega)]), by dsimp only; repeat (first | rw [if_pos rfl] | rw [if_neg (by omega)])⟩
               exact pairs_via π [⟨0, _, _, [], []⟩, ⟨1, _, _, [π (h.n + 2)], []⟩, ⟨2, _, _, [π h.n], []⟩, ⟨3, _, _, [], []⟩, ⟨4, _, _, [], []⟩, ⟨5, _, _, [], [π gb.n]⟩, ⟨6, _, _, [π gb.n], [π (gb.n + 1)]⟩, ⟨7, _, _, [], []⟩, ⟨8, _, _, [π (h.n + 2)], [π (h.n + 2)]⟩] rfl (by rw [z0, z1, z2, z3]; kernel_rfl))
            | (have j1 := hlo o rfl
               have j2 := (how o rfl).1
               obtain ⟨π, z0, z1, z2, z3, z4⟩ : ∃ π : Nat → Nat, π (h.n + 2) = 0 ∧ π h.n = 1 ∧ π gb.n = 2 ∧ π (gb.n + 1) = 3 ∧ π o = 4 := ⟨fun x => if x = h.n + 2 then 0 else if x = h.n then 1 else if x = gb.n then 2 else if x = gb.n + 1 then 3 else 4, by dsimp only; repeat (first | rw [if_pos rfl] | rw [if_neg (by omega)]), by dsimp only; repeat (first | rw [if_pos rfl] | rw [if_neg (by omega)]), by dsimp only; repeat (first | rw [if_pos rfl] | rw [if_neg (by omega)]), by dsimp only; repeat (first | rw [if_pos rfl] | rw [if_neg (by omega)]), by dsimp only; repeat (first | rw [if_pos rfl] | rw [if_neg (by omega)])⟩
               exact pairs_via π [⟨0, _, _, [], []⟩, ⟨1, _, _, [π (h.n + 2)], []⟩, ⟨2, _, _, [π h.n], []⟩, ⟨3, _, _, [], []⟩, ⟨4, _, _, [], []⟩, ⟨5, _, _, [], [π gb.n]⟩, ⟨6, _, _, [π o, π gb.n], [π o, π (gb.n + 1)]⟩, ⟨7, _, _, [], []⟩, ⟨8, _, _, [π (h.n + 2)], [π (h.n + 2)]⟩] rfl (by rw [z0, z1, z2, z3, z4]; kernel_rfl))
        conv => whnf
        have hfr := hfresh1 (gb.n + 1) rfl
        have hW : ∀ i, W i → h.n + 5 ≤ i ∧ i < gb.n := fun i hi => ⟨(hw i hi).1, by have := (hw i hi).2; omega⟩
        have low : ∀ i, i < h.n + 3 → Heap.at H1 i = Heap.at gb i := fun i hi => hold1 i (by omega) (fun e => by have := (how i e).1; omega)
        have hres : HO d C h (.msl (gb.n + 1) 1 0 ((done.map (rowX d)).length + 1) ((done.map (rowX d)).length + 1)) (done ++ [x]) W (H1.set .dead (h.n + 2) (.blk [.msl (gb.n + 1) 1 0 ((done.map (rowX d)).length + 1) ((done.map (rowX d)).length + 1), .lit .nilFunc])) := by
          refine ⟨(at_set_ne _ _ (by omega)).trans ((low _ (by omega)).trans M0.b0), (at_set_ne _ _ (by omega)).trans ((low _ (by omega)).trans M0.b1), at_set_self _ _ (by omega), by rw [TMap.set_n]; omega, ?_, ?_, ?_⟩
          · rw [List.map_append]
            exact RowsL.set hR1 (fun e => by have := Option.some.inj e; omega) _
          · intro k hk
            have hk := Option.some.inj hk
            exact ⟨by omega, fun x => by have := (hW k x).2; omega⟩
          · have hn := M0.ft.n
            exact ⟨by rw [TMap.set_n]; omega, fun i hi hx => (at_set_ne _ _ (by omega)).trans ((low i (by omega)).trans (M0.ft.keep i hi hx))⟩
        have hne : ∀ i, i < gb.n → (W i ∨ i = h.n + 3 ∨ i = h.n + 4) → outId _ ≠ some i := fun i _ hWi e => by
          have q := how i e
          rcases hWi with x | x | x
          · exact q.2 x
          · omega
          · omega
        have hfoot : Foot (apart W (h.n + 3)) gb (H1.set .dead (h.n + 2) (.blk [.msl (gb.n + 1) 1 0 ((done.map (rowX d)).length + 1) ((done.map (rowX d)).length + 1), .lit .nilFunc])) := by
          refine ⟨by rw [TMap.set_n]; omega, fun i hi hna => ?_⟩
          have hWi : W i ∨ i = h.n + 3 ∨ i = h.n + 4 := Classical.byContradiction fun hh => hna (fun x => hh x)
          refine (at_set_ne _ _ ?_).trans (hold1 i hi (hne i hi hWi))
          rcases hWi with x | x | x
          · have := (hW i x).1; omega
          · omega
          · omega
        exact ⟨hfoot, done ++ [x], rest, _, rfl, by rw [x2]; simp, hres⟩
    · rintro g hn hc ⟨done, rest, out, x1, x2, M⟩
      have : rest = [] := by cases rest with | nil => rfl | cons a l => cases x1
      subst this
      rw [List.append_nil, hsub] at x2
      subst x2
      rcases M.rs with ⟨_, hx⟩ | ⟨o, rfl, _⟩
      · exfalso
        have := congrArg List.length hx
        simp at this
      conv => whnf
      rw [List.length_map, List.length_range] at M
      exact ⟨g, o, M, by omega, hc, rfl, ⟨rfl, rfl, trivial⟩, rfl, rfl, rfl, rfl⟩
    · rintro e g _ _ hx
      exact hx.elim
    · rintro v g _ _ hx
      exact hx.elim
  rintro st ⟨g, o, M, hgn, hc, hs2⟩
  refine hs2.then ?_
  have M2 := M.gn
  have MF := M.ft.n
  rcases M.rs with ⟨hx, _⟩ | ⟨o', ho', hob, hol, _⟩
  · cases hx
  have hoe : o = o' := by simp only [AV.msl.injEq] at ho'; exact ho'.1
  rw [← hoe] at hob hol
  have hoW := (M.ow o rfl).1
  refine then_seq (hm := false) ?_
  conv => whnf
  refine ⟨_, at_push_self _ _, ?_⟩
  conv => whnf
  generalize hG : TMap.set AB.dead _ _ _ = A
  have hA : A = ((g.push .dead (.map [] [] [] 0)).push .dead (.blk [.lit (.map none)])).set .dead (g.n + 1) (.blk [.map g.n]) := hG.symm
  have An : A.n = g.n + 2 := by rw [hA, TMap.set_n]; rfl
  have Ag : ∀ i, i < g.n → Heap.at A i = Heap.at g i := fun i hi => by rw [hA]; exact (at_set_ne _ _ (by omega)).trans ((at_push_lt _ _ (by rw [push_n]; omega)).trans (at_push_lt _ _ hi))
  have Am : Heap.at A g.n = .map [] [] [] 0 := by rw [hA]; exact (at_set_ne _ _ (by omega)).trans ((at_push_lt _ _ (by rw [push_n]; omega)).trans (at_push_self _ _))
  have Ap : Heap.at A (g.n + 1) = .blk [.map g.n] := by rw [hA]; exact at_set_self _ _ (by simp only [push_n]; omega)
  clear hG hA
  have hpn : (TMap.push AB.dead g (AB.map [] [] [] 0)).n = g.n + 1 := push_n _ _
  rw [hpn]
  refine then_seq (hm := false) ?_
  conv => whnf
  refine ⟨_, (Ag (h.n + 2) (by omega)).trans M.b2, ?_⟩
  conv => whnf
  generalize hG : TMap.set AB.dead A _ _ = D
  have Dn : D.n = g.n + 2 := by rw [← hG, TMap.set_n]; exact An
  have Dq : Heap.at D (h.n + 2) = .blk [.msl o 1 0 (2 ^ d.n) (2 ^ d.n), .func (.func 103) [] [.ptr (g.n + 1) 0, .ptr (h.n + 2) 0]] := by rw [← hG]; exact at_set_self _ _ (by omega)
  have Da : ∀ i, i ≠ h.n + 2 → Heap.at D i = Heap.at A i := fun i hi => by rw [← hG]; exact at_set_ne _ _ hi
  clear hG
  refine then_seq (hm := false) ?_
  conv => whnf
  refine ⟨_, Dq, ?_⟩
  conv => whnf
  refine ⟨_, (Da (h.n + 1) (by omega)).trans ((Ag (h.n + 1) (by omega)).trans M.b1), ?_⟩
  conv => whnf
  generalize hG : TMap.set AB.dead D _ _ = L
  have Ln : L.n = g.n + 2 := by rw [← hG, TMap.set_n]; exact Dn
  have Lt : Heap.at L (h.n + 1) = .blk [.msl o 1 0 (2 ^ d.n) (2 ^ d.n), .func (.func 103) [] [.ptr (g.n + 1) 0, .ptr (h.n + 2) 0]] := by rw [← hG]; exact at_set_self _ _ (by omega)
  have La : ∀ i, i ≠ h.n + 1 → Heap.at L i = Heap.at D i := fun i hi => by rw [← hG]; exact at_set_ne _ _ hi
  clear hG
  refine then_end (hm := false) ?_
  conv => whnf
  refine ⟨_, (La (h.n + 3) (by omega)).trans ((Da (h.n + 3) (by omega)).trans ((Ag (h.n + 3) (by omega)).trans hc)), ?_⟩
  conv => whnf
  refine ⟨_, (at_set_ne _ _ (i := h.n + 1) (k := h.n + 3) (by omega)).trans Lt, ?_⟩
  conv => whnf
  have Za : ∀ x i, i ≠ h.n + 3 → i ≠ h.n + 1 → i ≠ h.n + 2 → Heap.at (L.set .dead (h.n + 3) x) i = Heap.at A i := fun x i h1 h2 h3 => (at_set_ne _ _ h1).trans ((La i h2).trans (Da i h3))
  have hob' : Heap.at g o = .blk ((List.range (2 ^ d.n)).map fun s => .c (B (fitsP d s))) := by
    rw [hob]
    congr 1
    have : ∀ l : List Nat, (l.map (rowX d)).flatten = l.map fun s => B (fitsP d s) := by
      intro l
      induction l with
      | nil => rfl
      | cons a l ih => rw [List.map_cons, List.flatten_cons, ih]; rfl
    rw [this, List.map_map]; rfl
  have key : ∀ x, Foot none' h (L.set .dead (h.n + 3) x) ∧ Hd (fitsP d) (2 ^ d.n) (g.n + 1) (h.n + 2) o g.n (L.set .dead (h.n + 3) x) := fun x =>
    ⟨⟨by rw [TMap.set_n]; omega, fun i hi hx => (Za _ i (by omega) (by omega) (by omega)).trans ((Ag i (by omega)).trans (M.ft.keep i hi hx))⟩,
     ⟨(Za _ _ (by omega) (by omega) (by omega)).trans Ap, (at_set_ne _ _ (by omega)).trans ((La _ (by omega)).trans Dq), (Za _ _ (by omega) (by omega) (by omega)).trans ((Ag o hol).trans hob'), pMap_eq ((Za _ _ (by omega) (by omega) (by omega)).trans Am) (pMap_nil _), by rw [TMap.set_n]; omega, by rw [TMap.set_n]; omega, by rw [TMap.set_n]; omega, by rw [TMap.set_n]; omega, by omega, by omega, by omega⟩⟩
  exact ⟨g.n + 1, h.n + 2, o, g.n, rfl, (key _).1, (key _).2, by omega, by omega, by omega, by omega⟩
end Go.Ag
/- Layer 8: Most. -/
namespace Go.Ag
open Go.Proofs
set_option maxRecDepth 100000

/-- The most fleeces that can be pressed, and the fewest bales. -/
def mostP (d : Pn) : Pd := mostF (fitsP d) (2 ^ d.n - 1) d.bales
set_option maxHeartbeats 2000000 in
theorem most_clos {v : PV} {d : Pn} (hv : v.IsL d.pr) (hd : d.Good) {C : List CV} (hC : Pile v d C) : Ret Tryz.prog 65 [.agg C] (pdV (mostP d)) := by
  have hCc := hC.ce
  have p10 := pow10 hd.n10
  refine close_val ?_
  refine call_then (hm := false) Tryz.func65 rfl ?_
  conv => whnf
  refine then_seq (hm := false) ?_
  conv => whnf
  rw [box_agg (C := C)]; rotate_left; rfl; rfl; exact hCc
  conv => whnf
  refine forceL_intro ?_
  conv => whnf
  generalize hG : TMap.push AB.dead (TMap.push AB.dead TMap.nil _) _ = G
  have Gn : G.n = 2 := by rw [← hG]; rfl
  have G0 : Heap.at G 0 = .blk (C.map .c) := by rw [← hG]; exact (at_push_lt _ _ (by show 0 < 1; omega)).trans (at_push_self _ _)
  have G1 : Heap.at G 1 = pdB ⟨0, 0⟩ := by rw [← hG]; exact at_push_self (TMap.push AB.dead TMap.nil _) _
  clear hG
  obtain ⟨e1, H1, hc1, p, q, o, m, rfl, f1, hd1, lp, lq, lo, lm⟩ := hand_call hv hd hC G
  have n1 := f1.n
  obtain ⟨e2, H2, hc2, rfl, f2, m2⟩ := most_call (fit := fitsP d) (N := 2 ^ d.n) (by omega) (2 ^ d.n) (2 ^ d.n - 1) d.bales (by omega) (by omega) hd.b5 H1 hd1
  have n2 := f2.n
  rw [show mostF (fitsP d) (2 ^ d.n - 1) d.bales = mostP d from rfl] at hc2
  refine then_seq (hm := false) ?_
  refine mixed_by (hm := false) (by kernel_rfl) (by kernel_rfl) ?_
  conv => whnf
  refine ⟨_, G0, ?_⟩
  conv => whnf
  refine look_read (hC.rd) ?_
  conv => whnf
  refine .heavy _ H1 (.inl hc1) ?_
  conv => whnf
  refine ⟨_, (f1.keep 0 (by omega) (fun x => x)).trans G0, ?_⟩
  conv => whnf
  refine look_read (hC.rd78) ?_
  conv => whnf
  refine .heavy _ H2 (.inl hc2) ?_
  conv => whnf
  refine ⟨_, (f2.keep 1 (by omega) (by omega)).trans ((f1.keep 1 (by omega) (fun x => x)).trans G1), ?_⟩
  conv => whnf
  refine ⟨by show 1 < H2.n; omega, ?_⟩
  conv => whnf
  refine ⟨by kernel_rfl, heaps_eq (l' := [(0, G, H1)]) (by kernel_rfl) (heaps_cons (f1.keep 0 (by omega) (fun x => x)) (by simp [HeapsOk])), ?_⟩
  conv => whnf
  refine then_end (hm := false) ?_
  conv => whnf
  refine ⟨_, at_set_self _ _ (i := 1) (by omega), ?_⟩
  conv => whnf
  rfl
/-! Most. -/
def c65 : CV := .func (.func 65) [] []
def zP : Pd := ⟨0, 0⟩
theorem caughtP_no (id : Nat) (h : Heap) : CallOk Tryz.prog 136 [.ptr id 0] h .no (.ret (.c (.tuple []))) h .no := by
  suffices H : ∃ e h' p', CallOk Tryz.prog 136 [.ptr id 0] h .no e h' p' ∧ (e = .ret (.c (.tuple [])) ∧ h' = h ∧ p' = .no) by
    obtain ⟨e, h', p', h1, rfl, rfl, rfl⟩ := H
    exact h1
  refine call_byP (hm := false) Tryz.func136 rfl ?_
  conv => whnf
  exact ⟨rfl, rfl, rfl⟩
theorem caughtP_live {id : Nat} {h : Heap} {c c0 : Int} (hb : Heap.at h id = .blk [.c (I c0)]) : CallOk Tryz.prog 136 [.ptr id 0] h (.live (errV c)) (.ret (.c (.tuple []))) (h.set .dead id (.blk [.c (I c)])) .taken := by
  suffices H : ∃ e h' p', CallOk Tryz.prog 136 [.ptr id 0] h (.live (errV c)) e h' p' ∧ (e = .ret (.c (.tuple [])) ∧ h' = h.set .dead id (.blk [.c (I c)]) ∧ p' = .taken) by
    obtain ⟨e, h', p', h1, rfl, rfl, rfl⟩ := H
    exact h1
  refine call_byP (hm := false) Tryz.func136 rfl ?_
  conv => whnf
  refine ⟨_, hb, ?_⟩
  conv => whnf
  exact ⟨rfl, rfl, rfl⟩
set_option maxHeartbeats 1000000 in
theorem ansP_ok {a b : CV} {x : Pd} (h : Ret Tryz.prog 125 [a, b] (pdV x)) : Ret Tryz.prog 124 [.func (.func 125) [] [a, b]] (.tuple [pdV x, I 0]) := by
  refine close_val ?_
  refine call_by (hm := true) Tryz.func124 rfl ?_
  conv => whnf
  refine .ret (h) rfl ?_
  conv => whnf
  refine .mk _ _ _ (caughtP_no _ _) ?_
  conv => whnf
  rfl
set_option maxHeartbeats 1000000 in
theorem ansP_no {a b : CV} {e : Int} (h : Falls Tryz.prog 125 [a, b] (eC e)) : Ret Tryz.prog 124 [.func (.func 125) [] [a, b]] (.tuple [pdV zP, I e]) := by
  refine close_val ?_
  refine call_by (hm := true) Tryz.func124 rfl ?_
  conv => whnf
  refine CallW.falls h rfl ?_
  conv => whnf
  refine .mk _ _ _ (caughtP_live (c := e) (c0 := 10) rfl) ?_
  conv => whnf
  rfl
set_option maxHeartbeats 1000000 in
theorem in65_ok {v : PV} {d : Pn} (hv : v.IsL d.pr) (hd : d.Good) (hc : canP d = true)  : Ret Tryz.prog 125 (cs79 v d.pr c65) (pdV (mostP d)) := by
  obtain ⟨C, hC⟩ := pile_ex v d
  have hp := pileOf_ret hv hd hC
  have hsu := sure_ok hv hd hC hc
  have hw := most_clos hv hd hC
  generalize mostP d = W at *
  refine ret_then (hm := true) Tryz.func125 rfl ?_
  conv => whnf
  refine then_seq (hm := true) ?_
  conv => whnf
  refine then_seq (hm := true) ?_
  refine draw_by (hm := true) (by kernel_rfl) (by kernel_rfl) ?_
  conv => whnf
  refine ⟨_, rfl, ?_⟩
  conv => whnf
  refine ⟨_, rfl, ?_⟩
  conv => whnf
  refine .pure _ _ rfl (hp) ?_
  conv => whnf
  refine .pure _ _ rfl (hsu) ?_
  conv => whnf
  refine .pure _ _ rfl (hw) ?_
  conv => whnf
  refine ⟨(show 0 < 1 by decide), ?_⟩
  conv => whnf
  refine ⟨by kernel_rfl, ?_⟩
  conv => whnf
  refine then_end (hm := true) ?_
  conv => whnf
  exact .val
set_option maxHeartbeats 1000000 in
theorem in65_no {v : PV} {d : Pn} (hv : v.IsL d.pr) (hd : d.Good) (hc : canP d = false)  : Falls Tryz.prog 125 (cs79 v d.pr c65) (eC 10) := by
  obtain ⟨C, hC⟩ := pile_ex v d
  have hp := pileOf_ret hv hd hC
  have hsu := sure_falls hv hd hC hc
  refine close_pan ?_
  refine call_then (hm := true) Tryz.func125 rfl ?_
  conv => whnf
  refine then_seq (hm := true) ?_
  conv => whnf
  refine then_seq (hm := true) ?_
  refine mixed_by (hm := true) (by kernel_rfl) (by kernel_rfl) ?_
  conv => whnf
  refine ⟨_, rfl, ?_⟩
  conv => whnf
  refine ⟨_, rfl, ?_⟩
  conv => whnf
  refine .ret _ _ (hp) rfl ?_
  conv => whnf
  obtain ⟨e1, H1, hc1, rfl, f1⟩ := sure_no hv hd hC hc (TMap.push .dead TMap.nil (.blk [.lit (.int .i64 0), .lit (.int .i64 0)]))
  refine .heavy _ H1 (.inl hc1) ?_
  conv => whnf
  refine mOps_list (l' := []) (by kernel_rfl) ?_
  conv => whnf
  refine ⟨by kernel_rfl, heaps_nil (by kernel_rfl), ?_⟩
  intro ds
  conv => whnf
  rfl
set_option maxHeartbeats 1000000 in
theorem of65_bad {v : PV} {c : Pr} (hv : v.Is c) (hc : okPr c = false) (s : Int) : Ret Tryz.prog 101 [v.cv c, I s, c65] (.tuple [pdV zP, I 1]) := by
  have hval := valid_ret hv
  rw [hc] at hval
  refine ret_by (hm := true) Tryz.func101 rfl ?_
  conv => whnf
  refine .ret (hval) rfl ?_
  conv => whnf
  exact .val
set_option maxHeartbeats 1000000 in
theorem of65_out {v : PV} {c : Pr} (hv : v.Is c) (hc : okPr c = true) {s : Int} (hs : setB s c.fl.length = false) : Ret Tryz.prog 101 [v.cv c, I s, c65] (.tuple [pdV zP, I 2]) := by
  have hval := valid_ret hv
  rw [hc] at hval
  have h10 : c.fl.length ≤ 10 := by unfold okPr at hc; rw [Bool.and_eq_true] at hc; exact okFs_len hc.1
  have hset := isSet_ret s c.fl.length h10
  rw [hs, ← hv.fn] at hset
  refine ret_by (hm := true) Tryz.func101 rfl ?_
  conv => whnf
  refine .ret (hval) rfl ?_
  conv => whnf
  refine .ret (hset) rfl ?_
  conv => whnf
  exact .val
set_option maxHeartbeats 1000000 in
theorem of65_in {v : PV} {c : Pr} (hv : v.Is c) (hc : okPr c = true) {s : Int} (hs : setB s c.fl.length = true) {x : Pd} {e : Int} (h : Ret Tryz.prog 124 [.func (.func 125) [] (cs79 v c (c65))] (.tuple [pdV x, I e])) : Ret Tryz.prog 101 [v.cv c, I s, c65] (.tuple [pdV x, I e]) := by
  have hval := valid_ret hv
  rw [hc] at hval
  have h10 : c.fl.length ≤ 10 := by unfold okPr at hc; rw [Bool.and_eq_true] at hc; exact okFs_len hc.1
  have hset := isSet_ret s c.fl.length h10
  rw [hs, ← hv.fn] at hset
  refine ret_by (hm := true) Tryz.func101 rfl ?_
  conv => whnf
  refine .ret (hval) rfl ?_
  conv => whnf
  refine .ret (hset) rfl ?_
  conv => whnf
  refine .snapped 100 [.func (.func 125) [] (cs79 v c (c65))] [1, 0] _ _ rfl h rfl ?_
  conv => whnf
  exact .val
theorem most_of {v : PV} {c : Pr} {x : Pd} {e : Int} (h : Ret Tryz.prog 101 [v.cv c, I 0, c65] (.tuple [pdV x, I e])) : Ret Tryz.prog 64 [v.cv c, c65] (.tuple [pdV x, I e]) := by
  refine ret_by (hm := true) Tryz.func64 rfl ?_
  conv => whnf
  refine .ret (h) rfl ?_
  conv => whnf
  exact .val
theorem mostX_of {v : PV} {c : Pr} {x : Pd} {e : Int} (h : Ret Tryz.prog 64 [v.cv c, c65] (.tuple [pdV x, I e])) : Ret Tryz.prog 21 [v.cv c] (.tuple [I (x.f : Nat), I (x.b : Nat), I e]) := by
  refine ret_by (hm := true) Tryz.func21 rfl ?_
  conv => whnf
  refine .ret (h) rfl ?_
  conv => whnf
  refine draw_by (hm := true) (by kernel_rfl) (by kernel_rfl) ?_
  conv => whnf
  refine ⟨by kernel_rfl, ?_⟩
  conv => whnf
  exact .val
theorem set0 (n : Nat) : setB 0 n = true := setB_iff.2 ⟨0, rfl, by have := Nat.one_le_two_pow (n := n); omega⟩
def pOf (d : Pn) : Pd := if canP d then mostP d else zP
theorem mostX_bad {v : PV} {c : Pr} (hv : v.Is c) (hc : okPr c = false) : Ret Tryz.prog 21 [v.cv c] (.tuple [I 0, I 0, I 1]) := mostX_of (most_of (of65_bad hv hc 0))
theorem mostX_ret {v : PV} {d : Pn} (hv : v.Is d.pr) (hd : d.Good) (hok : okPr d.pr = true) : Ret Tryz.prog 21 [v.cv d.pr] (.tuple [I ((pOf d).f : Nat), I ((pOf d).b : Nat), I (eOf d)]) := by
  unfold pOf eOf
  cases hc : canP d
  · exact mostX_of (most_of (of65_in hv hok (set0 _) (ansP_no (in65_no hv.toIsL hd hc))))
  · exact mostX_of (most_of (of65_in hv hok (set0 _) (ansP_ok (in65_ok hv.toIsL hd hc))))
end Go.Ag
/- Layer 8: no pressing is better than the one that is found (no program here). -/
namespace Go.Ag
set_option maxRecDepth 100000

/-- A list of sets that all fit, none with a fleece of another one. -/
def okL (fit : Nat → Bool) : Nat → Nat → List Nat → Prop
  | _, _, [] => True
  | s, k, x :: l => 1 ≤ k ∧ Sub x s ∧ fit x = true ∧ okL fit (diffN s x) (k - 1) l
def valL : List Nat → Pd
  | [] => ⟨0, 0⟩
  | x :: l => (valL l).more x
/-- At least as good. -/
def Pd.ge (p o : Pd) : Prop := o.f < p.f ∨ (o.f = p.f ∧ p.b ≤ o.b)
theorem better_iff {p o : Pd} : p.better o = true ↔ ¬ o.ge p := by
  unfold Pd.better Pd.ge
  simp only [Bool.or_eq_true, Bool.and_eq_true, decide_eq_true_eq]
  omega
theorem ge_refl (p : Pd) : p.ge p := .inr ⟨rfl, Nat.le_refl _⟩
theorem Pd.ge.trans {a b c : Pd} (h : a.ge b) (k : b.ge c) : a.ge c := by unfold Pd.ge at *; omega
theorem Pd.ge.anti {a b : Pd} (h : a.ge b) (k : b.ge a) : a = b := by
  cases a; cases b
  unfold Pd.ge at h k
  simp only [Pd.mk.injEq]
  dsimp only at h k
  omega
theorem Pd.ge.more {a b : Pd} (h : a.ge b) (x : Nat) : (a.more x).ge (b.more x) := by
  unfold Pd.ge Pd.more at *
  dsimp only
  omega
theorem ge_tot (a b : Pd) : a.ge b ∨ b.ge a := by unfold Pd.ge; omega
theorem diff_comm (s x y : Nat) : diffN (diffN s x) y = diffN (diffN s y) x := Nat.eq_of_testBit_eq fun i => by
  rw [diffN_bit, diffN_bit, diffN_bit, diffN_bit]
  cases s.testBit i <;> cases x.testBit i <;> cases y.testBit i <;> rfl
theorem sub_diff {x s y : Nat} : Sub x (diffN s y) ↔ Sub x s ∧ x &&& y = 0 := by
  constructor
  · intro h
    refine ⟨fun i hi => ?_, and_zero.2 fun i hi => ?_⟩
    · have := h i hi; rw [diffN_bit, Bool.and_eq_true] at this; exact this.1
    · have := h i hi; rw [diffN_bit, Bool.and_eq_true] at this; simpa using this.2
  · rintro ⟨h1, h2⟩ i hi
    rw [diffN_bit, h1 i hi, and_zero.1 h2 i hi]; rfl
theorem okL_mono {fit : Nat → Bool} : ∀ {l : List Nat} {s t k j : Nat}, okL fit s k l → Sub s t → k ≤ j → okL fit t j l
  | [], _, _, _, _, _, _, _ => trivial
  | x :: l, s, t, k, j, ⟨h1, h2, h3, h4⟩, hs, hk => ⟨by omega, fun i hi => hs i (h2 i hi), h3, okL_mono h4 (fun i hi => by rw [diffN_bit, Bool.and_eq_true] at hi ⊢; exact ⟨hs i hi.1, hi.2⟩) (by omega)⟩
theorem okL_swap {fit : Nat → Bool} {s k x y : Nat} {l : List Nat} (h : okL fit s k (x :: y :: l)) : okL fit s k (y :: x :: l) := by
  obtain ⟨h1, h2, h3, h4, h5, h6, h7⟩ := h
  obtain ⟨a, b⟩ := sub_diff.1 h5
  exact ⟨h1, a, h6, h4, sub_diff.2 ⟨h2, by rw [Nat.and_comm]; exact b⟩, h3, by rw [diff_comm]; exact h7⟩
theorem okL_perm {fit : Nat → Bool} {l l' : List Nat} (hp : l.Perm l') : ∀ {s k : Nat}, okL fit s k l → okL fit s k l' := by
  induction hp with
  | nil => intro _ _ h; exact h
  | cons x _ ih => intro s k ⟨h1, h2, h3, h4⟩; exact ⟨h1, h2, h3, ih h4⟩
  | swap x y l => intro s k h; exact okL_swap h
  | trans _ _ ih1 ih2 => intro s k h; exact ih2 (ih1 h)
theorem val_perm {l l' : List Nat} (hp : l.Perm l') : valL l = valL l' := by
  induction hp with
  | nil => rfl
  | cons x _ ih => show (valL _).more x = (valL _).more x; rw [ih]
  | swap x y l =>
    show ((valL l).more x).more y = ((valL l).more y).more x
    show Pd.mk ((valL l).f + popN x + popN y) ((valL l).b + 1 + 1) = Pd.mk ((valL l).f + popN y + popN x) ((valL l).b + 1 + 1)
    congr 1
    omega
  | trans _ _ ih1 ih2 => exact ih1.trans ih2
theorem fold_ge {fit : Nat → Bool} {rec : Nat → Pd} {s nx : Nat} : ∀ (l : List Nat) (b : Pd), (l.foldl (stepR fit rec s nx) b).ge b
  | [], b => ge_refl b
  | x :: l, b => by
    rw [List.foldl_cons]
    refine (fold_ge l _).trans ?_
    unfold stepR
    split
    · split
      · rename_i h
        rw [better_iff] at h
        exact (ge_tot _ _).resolve_right h
      · exact ge_refl b
    · exact ge_refl b
theorem fold_ge_mem {fit : Nat → Bool} {rec : Nat → Pd} {s nx x : Nat} : ∀ {l : List Nat} {b : Pd}, x ∈ l → fit (nx ||| x) = true → (l.foldl (stepR fit rec s nx) b).ge ((rec (diffN s (nx ||| x))).more (nx ||| x))
  | y :: l, b, h, hf => by
    rw [List.foldl_cons]
    rcases List.mem_cons.1 h with rfl | h
    · refine (fold_ge l _).trans ?_
      unfold stepR
      rw [hf, if_pos rfl]
      split
      · exact ge_refl _
      · rename_i h
        rw [better_iff, Classical.not_not] at h
        exact h
    · exact fold_ge_mem h hf
  | [], _, h, _ => by cases h
theorem fold_mem {fit : Nat → Bool} {rec : Nat → Pd} {s nx : Nat} : ∀ (l : List Nat) (b : Pd), l.foldl (stepR fit rec s nx) b = b ∨ ∃ x ∈ l, fit (nx ||| x) = true ∧ l.foldl (stepR fit rec s nx) b = (rec (diffN s (nx ||| x))).more (nx ||| x)
  | [], b => .inl rfl
  | x :: l, b => by
    rw [List.foldl_cons]
    rcases fold_mem (fit := fit) (rec := rec) (s := s) (nx := nx) l (stepR fit rec s nx b x) with h | ⟨y, hy, h1, h2⟩
    · rw [h]
      unfold stepR
      split
      · rename_i hf
        split
        · exact .inr ⟨x, by simp, hf, rfl⟩
        · exact .inl rfl
      · exact .inl rfl
    · exact .inr ⟨y, by simp [hy], h1, h2⟩
theorem or_diff {s x : Nat} (h : Sub (lowN s) x) : lowN s ||| diffN x (lowN s) = x := Nat.eq_of_testBit_eq fun i => by
  rw [Nat.testBit_or, diffN_bit]
  cases hl : (lowN s).testBit i
  · simp
  · rw [h i hl]; rfl
/-- The first number is one alone. -/
theorem low_tab2 : ∀ s : Nat, s < 1024 → ((List.range 10).all fun i => lowN s == 0 || lowN s == 2 ^ i || !(lowN s).testBit i) = true := by decide +kernel
theorem low_one {s : Nat} (hs : s < 1024) {x : Nat} (h : ¬ lowN s &&& x = 0) : Sub (lowN s) x := by
  by_cases h0 : lowN s = 0
  · rw [h0]; intro i hi; rw [Nat.zero_testBit] at hi; cases hi
  intro i hi
  have hl : lowN s < 2 ^ 10 := (low_sub hs).lt (n := 10) (by omega)
  have e : ∀ j, (lowN s).testBit j = true → lowN s = 2 ^ j := by
    intro j hj
    have := List.all_eq_true.1 (low_tab2 s hs) j (List.mem_range.2 (bit_lt hl hj))
    simp only [Bool.or_eq_true, beq_iff_eq, Bool.not_eq_true'] at this
    rcases this with (h | h) | h
    · exact absurd h h0
    · exact h
    · rw [hj] at h; cases h
  have e1 := e i hi
  cases hx : x.testBit i
  · exfalso
    apply h
    refine and_zero.2 fun j hj => ?_
    rw [e1, two_bit, decide_eq_true_eq] at hj
    rw [← hj]; exact hx
  · rfl
theorem most_ge (fit : Nat → Bool) (h0 : fit 0 = false) : ∀ (n : Nat) {s k : Nat} {l : List Nat}, s ≤ n → s < 1024 → okL fit s k l → (mostF fit s k).ge (valL l) ∧ ((mostF fit s k).f = 0 → (mostF fit s k).b = 0) := by
  intro n
  induction n with
  | zero =>
    intro s k l hn hs hl
    obtain rfl : s = 0 := by omega
    rw [most_zero fit (.inl rfl)]
    cases l with
    | nil => exact ⟨ge_refl _, fun _ => rfl⟩
    | cons x l =>
      exfalso
      obtain ⟨_, h2, h3, _⟩ := hl
      have : x = 0 := bits_zero fun i => by
        cases hx : x.testBit i
        · rfl
        · have := h2 i hx; rw [Nat.zero_testBit] at this; cases this
      rw [this, h0] at h3; cases h3
  | succ n ih =>
    intro s k l hn hs hl
    by_cases hz : s = 0 ∨ k = 0
    · rw [most_zero fit hz]
      refine ⟨?_, fun _ => rfl⟩
      cases l with
      | nil => exact ge_refl _
      | cons x l =>
        exfalso
        obtain ⟨h1, h2, h3, _⟩ := hl
        rcases hz with rfl | rfl
        · have : x = 0 := bits_zero fun i => by
            cases hx : x.testBit i
            · rfl
            · have := h2 i hx; rw [Nat.zero_testBit] at this; cases this
          rw [this, h0] at h3; cases h3
        · omega
    · have hs0 : s ≠ 0 := fun e => hz (.inl e)
      have hlow := low_diff hs hs0
      have hstep := most_step fit hs hz
      obtain ⟨i1, i2⟩ := ih (s := diffN s (lowN s)) (k := k) (l := []) (by omega) (by omega) trivial
      have hcand : ∀ x, Sub x s → fit x = true → ¬ lowN s &&& x = 0 → (mostF fit s k).ge ((mostF fit (diffN s x) (k - 1)).more x) := by
        intro x hx hf hlx
        have hsub := low_one hs hlx
        have hm : diffN x (lowN s) ∈ subL (diffN s (lowN s)) := (mem_sub (by omega)).2 fun i hi => by
          rw [diffN_bit, Bool.and_eq_true] at hi ⊢
          exact ⟨hx i hi.1, hi.2⟩
        have := fold_ge_mem (fit := fit) (rec := fun t => mostF fit t (k - 1)) (s := s) (nx := lowN s) (b := mostF fit (diffN s (lowN s)) k) hm (by rw [or_diff hsub]; exact hf)
        rw [← hstep, or_diff hsub] at this
        exact this
      refine ⟨?_, ?_⟩
      · by_cases hex : ∃ x ∈ l, ¬ lowN s &&& x = 0
        · obtain ⟨x, hx, hlx⟩ := hex
          obtain ⟨l1, l2, rfl⟩ := List.append_of_mem hx
          have hp : (l1 ++ x :: l2).Perm (x :: (l1 ++ l2)) := List.perm_middle
          obtain ⟨k1, k2, k3, k4⟩ := okL_perm hp hl
          rw [val_perm hp]
          have hxne : x ≠ 0 := fun e => by rw [e, h0] at k3; cases k3
          have hd := diff_lt k2 hxne
          exact (hcand x k2 k3 hlx).trans (((ih (by omega) (by omega) k4).1).more x)
        · have hl2 : okL fit (diffN s (lowN s)) k l := by
            have key : ∀ (l : List Nat) (t j : Nat), okL fit t j l → (∀ x ∈ l, lowN s &&& x = 0) → okL fit (diffN t (lowN s)) j l := by
              intro l
              induction l with
              | nil => intro t j _ _; trivial
              | cons y l ihl =>
                intro t j ⟨q1, q2, q3, q4⟩ hall
                refine ⟨q1, sub_diff.2 ⟨q2, by rw [Nat.and_comm]; exact hall y (by simp)⟩, q3, ?_⟩
                rw [diff_comm]
                exact ihl _ _ q4 fun x hx => hall x (by simp [hx])
            exact key l s k hl fun x hx => Decidable.not_not.1 fun hh => hex ⟨x, hx, hh⟩
          have h1 := (ih (s := diffN s (lowN s)) (by omega) (by omega) hl2).1
          rw [hstep]
          exact (fold_ge _ _).trans h1
      · intro hf0
        rcases fold_mem (fit := fit) (rec := fun t => mostF fit t (k - 1)) (s := s) (nx := lowN s) (subL (diffN s (lowN s))) (mostF fit (diffN s (lowN s)) k) with h | ⟨x, hx, h1, h2⟩
        · rw [← hstep] at h
          rw [h] at hf0 ⊢
          exact i2 hf0
        · exfalso
          rw [← hstep] at h2
          have hsx := or_sub hs ((mem_sub (by omega)).1 hx)
          have hne := or_ne (x := x) hs hs0
          have hp : 1 ≤ popN (lowN s ||| x) := by
            have hlt : lowN s ||| x < 2 ^ 10 := hsx.lt (n := 10) (by omega)
            unfold popN
            rw [Nat.one_le_iff_ne_zero]
            intro hc
            rw [List.countP_eq_zero] at hc
            exact hne (bits_zero fun i => by
              cases hb : (lowN s ||| x).testBit i
              · rfl
              · exact absurd hb (hc i (List.mem_range.2 (bit_lt hlt hb))))
          rw [h2] at hf0
          unfold Pd.more at hf0
          dsimp only at hf0
          omega
/-- It is that of a pressing. -/
theorem most_ex (fit : Nat → Bool) : ∀ (n : Nat) {s k : Nat}, s ≤ n → s < 1024 → ∃ l, okL fit s k l ∧ valL l = mostF fit s k := by
  intro n
  induction n with
  | zero =>
    intro s k hn hs
    obtain rfl : s = 0 := by omega
    exact ⟨[], trivial, (most_zero fit (.inl rfl)).symm⟩
  | succ n ih =>
    intro s k hn hs
    by_cases hz : s = 0 ∨ k = 0
    · exact ⟨[], trivial, (most_zero fit hz).symm⟩
    · have hs0 : s ≠ 0 := fun e => hz (.inl e)
      have hk0 : k ≠ 0 := fun e => hz (.inr e)
      have hlow := low_diff hs hs0
      rw [most_step fit hs hz]
      rcases fold_mem (fit := fit) (rec := fun t => mostF fit t (k - 1)) (s := s) (nx := lowN s) (subL (diffN s (lowN s))) (mostF fit (diffN s (lowN s)) k) with h | ⟨x, hx, h1, h2⟩
      · rw [h]
        obtain ⟨l, l1, l2⟩ := ih (s := diffN s (lowN s)) (k := k) (by omega) (by omega)
        exact ⟨l, okL_mono l1 (fun i hi => by rw [diffN_bit, Bool.and_eq_true] at hi; exact hi.1) (Nat.le_refl _), l2⟩
      · rw [h2]
        have hsx := or_sub hs ((mem_sub (by omega)).1 hx)
        have hd := diff_lt hsx (or_ne hs hs0)
        obtain ⟨l, l1, l2⟩ := ih (s := diffN s (lowN s ||| x)) (k := k - 1) (by omega) (by omega)
        exact ⟨(lowN s ||| x) :: l, ⟨by omega, hsx, h1, l1⟩, by show (valL l).more _ = _; rw [l2]⟩
/-! The first of the best pressings. -/
def pickB (fit : Nat → Bool) (s k x : Nat) : Bool := fit x && decide ((mostF fit (diffN s x) (k - 1)).more x = mostF fit s k)
theorem most_pick (fit : Nat → Bool) (h0 : fit 0 = false) {s k : Nat} (hs : s < 1024) (hne : mostF fit s k ≠ ⟨0, 0⟩) : ∃ x ∈ subL s, pickB fit s k x = true := by
  obtain ⟨l, l1, l2⟩ := most_ex fit s (k := k) (Nat.le_refl _) hs
  cases l with
  | nil => exact absurd l2.symm hne
  | cons x l =>
    obtain ⟨a1, a2, a3, a4⟩ := l1
    refine ⟨x, (mem_sub hs).2 a2, ?_⟩
    unfold pickB
    rw [a3, Bool.true_and, decide_eq_true_eq]
    have hxne : x ≠ 0 := fun e => by rw [e, h0] at a3; cases a3
    have hd := diff_lt a2 hxne
    have g1 := (most_ge fit h0 (diffN s x) (Nat.le_refl _) (by omega) a4).1
    obtain ⟨m, m1, m2⟩ := most_ex fit (diffN s x) (k := k - 1) (Nat.le_refl _) (by omega)
    have g2 := (most_ge fit h0 s (l := x :: m) (Nat.le_refl _) hs ⟨a1, a2, a3, m1⟩).1
    have g3 : (mostF fit s k).ge ((mostF fit (diffN s x) (k - 1)).more x) := by rw [← m2]; exact g2
    have g4 : ((mostF fit (diffN s x) (k - 1)).more x).ge (mostF fit s k) := by rw [← l2]; exact g1.more x
    exact g4.anti g3
def planR (fit : Nat → Bool) : Nat → Nat → List Nat
  | 0, _ => []
  | k + 1, s => if mostF fit s (k + 1) = ⟨0, 0⟩ then [] else match (subL s).find? (pickB fit s (k + 1)) with
    | some x => x :: planR fit k (diffN s x)
    | none => []
end Go.Ag
/- Layer 8: structs and truth values that are compared. -/
namespace Go.Ag
open Go.Proofs
set_option maxRecDepth 100000

theorem eq_bool (a b : Bool) : pureRun Tryz.prog (Op.equal 4 (.bool a) (.bool b)) = some (a == b) := by
  cases a <;> cases b <;> kernel_rfl
theorem bool_neq {o : Oper} {x y : Operand} {t2 : TypeId} {σ : Operand → AV} {a b : Bool} (ho : o.op = .binOp .neq 4 x y t2) (hx : σ x = .c (B a)) (hy : σ y = .c (B b)) (rd : Nat → AB) (n : Nat) :
    aop Tryz.prog o σ rd n = some (.simple { val := .c (B (a != b)) }) := by
  have vx : (σ x).toVal = some (.bool a) := by rw [hx]; rfl
  have vy : (σ y).toVal = some (.bool b) := by rw [hy]; rfl
  unfold aop
  rw [ho]
  simp only [abinOp, vx, vy, litBin]
  unfold pureOp
  have hv : (allVals σ o.op.operands.toList && notSelect o.op) = true := by
    rw [ho]; simp [Op.operands, allVals, vx, vy, notSelect]
  rw [if_pos hv]
  have hr : pureRun Tryz.prog (execOp (fun x => ((σ x).toVal).getD Go.undef) o) = some (.value (.bool (a != b))) := by
    unfold execOp
    rw [ho]
    simp only [vx, vy, Option.getD_some, eqGuard, binOp, pureRun_bind, pureRun_ite]
    simp [eq_bool, pureRun_pure, bne]
  rw [hr]
  rfl
theorem bool_eql {o : Oper} {x y : Operand} {t2 : TypeId} {σ : Operand → AV} {a b : Bool} (ho : o.op = .binOp .eql 4 x y t2) (hx : σ x = .c (B a)) (hy : σ y = .c (B b)) (rd : Nat → AB) (n : Nat) :
    aop Tryz.prog o σ rd n = some (.simple { val := .c (B (a == b)) }) := by
  have vx : (σ x).toVal = some (.bool a) := by rw [hx]; rfl
  have vy : (σ y).toVal = some (.bool b) := by rw [hy]; rfl
  unfold aop
  rw [ho]
  simp only [abinOp, vx, vy, litBin]
  unfold pureOp
  have hv : (allVals σ o.op.operands.toList && notSelect o.op) = true := by
    rw [ho]; simp [Op.operands, allVals, vx, vy, notSelect]
  rw [if_pos hv]
  have hr : pureRun Tryz.prog (execOp (fun x => ((σ x).toVal).getD Go.undef) o) = some (.value (.bool (a == b))) := by
    unfold execOp
    rw [ho]
    simp only [vx, vy, Option.getD_some, eqGuard, binOp, pureRun_bind, pureRun_ite]
    simp [eq_bool, pureRun_pure, bne]
  rw [hr]
  rfl
theorem us92 : pureRun Tryz.prog (underlying 92) = some (.struct #[⟨"fleeces", 3, 0, false, "", "shearworks/press", 0⟩, ⟨"bales", 3, 1, false, "", "shearworks/press", 8⟩]) := by kernel_rfl
theorem sh92 : Tryz.prog.stoodInHeld 92 = false := by kernel_rfl
theorem eg92 : Tryz.prog.eqGuardType Tryz.prog.depth 92 = false := by kernel_rfl
theorem eq_pd (a b a' b' : Int) : pureRun Tryz.prog (Op.equal 92 (.agg #[.int .i64 a, .int .i64 b]) (.agg #[.int .i64 a', .int .i64 b'])) = some (decide (a = a') && decide (b = b')) := by
  show pureRun Tryz.prog (Op.equalIn (9998 + 1 + 1) 92 _ _) = _
  rw [Op.equalIn.eq_def]
  simp only [pureRun_bind, us92, Option.bind_some, pp0, pureRun_ite, sh92, Bool.false_eq_true, if_false]
  simp [pureRun_bind, pureRun_ite, partT ag3, eq_intT u3, pureRun_pure]
  by_cases h1 : a = a'
  · by_cases h2 : b = b'
    · simp [pureRun_bind, pureRun_ite, partT ag3, eq_intT u3, pureRun_pure, h1, h2]
    · simp [pureRun_bind, pureRun_ite, partT ag3, eq_intT u3, pureRun_pure, h1, h2]
  · simp [pureRun_pure, h1]
theorem pd_eql {o : Oper} {x y : Operand} {t2 : TypeId} {σ : Operand → AV} {a b c e : Int} (ho : o.op = .binOp .eql 92 x y t2) (hx : σ x = .c (.agg [I a, I b])) (hy : σ y = .c (.agg [I c, I e])) (rd : Nat → AB) (n : Nat) :
    aop Tryz.prog o σ rd n = some (.simple { val := .c (B (decide (a = c) && decide (b = e))) }) := by
  have vx : (σ x).toVal = some (.agg #[.int .i64 a, .int .i64 b]) := by rw [hx]; rfl
  have vy : (σ y).toVal = some (.agg #[.int .i64 c, .int .i64 e]) := by rw [hy]; rfl
  unfold aop
  rw [ho]
  simp only [abinOp, vx, vy, litBin]
  unfold pureOp
  have hv : (allVals σ o.op.operands.toList && notSelect o.op) = true := by
    rw [ho]; simp [Op.operands, allVals, vx, vy, notSelect]
  rw [if_pos hv]
  have hr : pureRun Tryz.prog (execOp (fun x => ((σ x).toVal).getD Go.undef) o) = some (.value (.bool (decide (a = c) && decide (b = e)))) := by
    unfold execOp
    rw [ho]
    simp only [vx, vy, Option.getD_some, eqGuard, binOp, pureRun_bind, pp0, Option.bind_some, pureRun_ite, eg92]
    simp [eq_pd, pureRun_pure]
  rw [hr]
  rfl
theorem pd_neq {o : Oper} {x y : Operand} {t2 : TypeId} {σ : Operand → AV} {a b c e : Int} (ho : o.op = .binOp .neq 92 x y t2) (hx : σ x = .c (.agg [I a, I b])) (hy : σ y = .c (.agg [I c, I e])) (rd : Nat → AB) (n : Nat) :
    aop Tryz.prog o σ rd n = some (.simple { val := .c (B (!(decide (a = c) && decide (b = e)))) }) := by
  have vx : (σ x).toVal = some (.agg #[.int .i64 a, .int .i64 b]) := by rw [hx]; rfl
  have vy : (σ y).toVal = some (.agg #[.int .i64 c, .int .i64 e]) := by rw [hy]; rfl
  unfold aop
  rw [ho]
  simp only [abinOp, vx, vy, litBin]
  unfold pureOp
  have hv : (allVals σ o.op.operands.toList && notSelect o.op) = true := by
    rw [ho]; simp [Op.operands, allVals, vx, vy, notSelect]
  rw [if_pos hv]
  have hr : pureRun Tryz.prog (execOp (fun x => ((σ x).toVal).getD Go.undef) o) = some (.value (.bool (!(decide (a = c) && decide (b = e))))) := by
    unfold execOp
    rw [ho]
    simp only [vx, vy, Option.getD_some, eqGuard, binOp, pureRun_bind, pp0, Option.bind_some, pureRun_ite, eg92]
    simp [eq_pd, pureRun_pure]
  rw [hr]
  rfl
theorem us29 : pureRun Tryz.prog (underlying 29) = some (.struct #[⟨"Lo", 3, 0, false, "", "", 0⟩, ⟨"Hi", 3, 1, false, "", "", 8⟩]) := by kernel_rfl
theorem sh29 : Tryz.prog.stoodInHeld 29 = false := by kernel_rfl
theorem eg29 : Tryz.prog.eqGuardType Tryz.prog.depth 29 = false := by kernel_rfl
theorem eq_span (a b a' b' : Int) : pureRun Tryz.prog (Op.equal 29 (.agg #[.int .i64 a, .int .i64 b]) (.agg #[.int .i64 a', .int .i64 b'])) = some (decide (a = a') && decide (b = b')) := by
  show pureRun Tryz.prog (Op.equalIn (9998 + 1 + 1) 29 _ _) = _
  rw [Op.equalIn.eq_def]
  simp only [pureRun_bind, us29, Option.bind_some, pp0, pureRun_ite, sh29, Bool.false_eq_true, if_false]
  simp [pureRun_bind, pureRun_ite, partT ag3, eq_intT u3, pureRun_pure]
  by_cases h1 : a = a'
  · by_cases h2 : b = b'
    · simp [pureRun_bind, pureRun_ite, partT ag3, eq_intT u3, pureRun_pure, h1, h2]
    · simp [pureRun_bind, pureRun_ite, partT ag3, eq_intT u3, pureRun_pure, h1, h2]
  · simp [pureRun_pure, h1]
theorem span_eql {o : Oper} {x y : Operand} {t2 : TypeId} {σ : Operand → AV} {a b c e : Int} (ho : o.op = .binOp .eql 29 x y t2) (hx : σ x = .c (.agg [I a, I b])) (hy : σ y = .c (.agg [I c, I e])) (rd : Nat → AB) (n : Nat) :
    aop Tryz.prog o σ rd n = some (.simple { val := .c (B (decide (a = c) && decide (b = e))) }) := by
  have vx : (σ x).toVal = some (.agg #[.int .i64 a, .int .i64 b]) := by rw [hx]; rfl
  have vy : (σ y).toVal = some (.agg #[.int .i64 c, .int .i64 e]) := by rw [hy]; rfl
  unfold aop
  rw [ho]
  simp only [abinOp, vx, vy, litBin]
  unfold pureOp
  have hv : (allVals σ o.op.operands.toList && notSelect o.op) = true := by
    rw [ho]; simp [Op.operands, allVals, vx, vy, notSelect]
  rw [if_pos hv]
  have hr : pureRun Tryz.prog (execOp (fun x => ((σ x).toVal).getD Go.undef) o) = some (.value (.bool (decide (a = c) && decide (b = e)))) := by
    unfold execOp
    rw [ho]
    simp only [vx, vy, Option.getD_some, eqGuard, binOp, pureRun_bind, pp0, Option.bind_some, pureRun_ite, eg29]
    simp [eq_span, pureRun_pure]
  rw [hr]
  rfl
theorem span_neq {o : Oper} {x y : Operand} {t2 : TypeId} {σ : Operand → AV} {a b c e : Int} (ho : o.op = .binOp .neq 29 x y t2) (hx : σ x = .c (.agg [I a, I b])) (hy : σ y = .c (.agg [I c, I e])) (rd : Nat → AB) (n : Nat) :
    aop Tryz.prog o σ rd n = some (.simple { val := .c (B (!(decide (a = c) && decide (b = e)))) }) := by
  have vx : (σ x).toVal = some (.agg #[.int .i64 a, .int .i64 b]) := by rw [hx]; rfl
  have vy : (σ y).toVal = some (.agg #[.int .i64 c, .int .i64 e]) := by rw [hy]; rfl
  unfold aop
  rw [ho]
  simp only [abinOp, vx, vy, litBin]
  unfold pureOp
  have hv : (allVals σ o.op.operands.toList && notSelect o.op) = true := by
    rw [ho]; simp [Op.operands, allVals, vx, vy, notSelect]
  rw [if_pos hv]
  have hr : pureRun Tryz.prog (execOp (fun x => ((σ x).toVal).getD Go.undef) o) = some (.value (.bool (!(decide (a = c) && decide (b = e))))) := by
    unfold execOp
    rw [ho]
    simp only [vx, vy, Option.getD_some, eqGuard, binOp, pureRun_bind, pp0, Option.bind_some, pureRun_ite, eg29]
    simp [eq_span, pureRun_pure]
  rw [hr]
  rfl
theorem pd_dec (p o : Pd) : (decide (((p.f : Nat) : Int) = ((o.f : Nat) : Int)) && decide (((p.b : Nat) : Int) = ((o.b : Nat) : Int))) = decide (p = o) := by
  cases p; cases o
  rw [Bool.eq_iff_iff]
  simp only [Bool.and_eq_true, decide_eq_true_eq, Pd.mk.injEq]
  omega
end Go.Ag
/- Layer 8: Plan. -/
namespace Go.Ag
open Go.Proofs
set_option maxRecDepth 100000

theorem defW_colls {P : Program} {mode : Option AV} {K : Option AV → Heap → Prop} : ∀ (l : List Nat) (h : Heap), l.Nodup → (∀ i ∈ l, i < h.n ∧ Heap.at h i = .coll true) → (∀ h', Foot (fun i => i ∈ l) h h' → K mode h') → defW false P (l.map .coll) mode h K
  | [], h, _, _, k => k h (Foot.refl _ _)
  | d :: l, h, hn, hc, k => by
    rw [List.nodup_cons] at hn
    obtain ⟨h1, h2⟩ := hc d (by simp)
    refine ⟨.coll true, h2, ?_⟩
    simp only [hSet_eq]
    refine defW_colls l _ hn.2 (fun i hi => ?_) (fun h' f => k h' ?_)
    · have := hc i (List.mem_cons_of_mem _ hi)
      refine ⟨by rw [TMap.set_n]; exact this.1, ?_⟩
      rw [at_set_ne _ _ (by rintro rfl; exact hn.1 hi)]; exact this.2
    · exact Foot.trans (Foot.set (Foot.refl _ _) (.inl (by simp)) _) (f.mono fun i _ hi => List.mem_cons_of_mem _ hi)
/-- Ranges that are over. -/
structure Colls (b : Nat) (l : List Nat) (h : Heap) : Prop where
  nd : l.Nodup
  at' : ∀ i ∈ l, b ≤ i ∧ i < h.n ∧ Heap.at h i = .coll true
theorem Colls.nil (b : Nat) (h : Heap) : Colls b [] h := ⟨List.nodup_nil, by simp⟩
theorem Colls.ext {b : Nat} {l : List Nat} {h h' : Heap} (k : Colls b l h) (hn : h.n ≤ h'.n) (he : ∀ i, b ≤ i → i < h.n → Heap.at h i = .coll true → Heap.at h' i = Heap.at h i) : Colls b l h' :=
  ⟨k.nd, fun i hi => by obtain ⟨a, c, d⟩ := k.at' i hi; exact ⟨a, by omega, (he i a c d).trans d⟩⟩
theorem Colls.foot {b : Nat} {l : List Nat} {h h' : Heap} {W : Nat → Prop} (k : Colls b l h) (f : Foot W h h') (hw : ∀ i, b ≤ i → i < h.n → Heap.at h i = .coll true → ¬ W i) : Colls b l h' := k.ext f.n fun i a c d => f.keep i c (hw i a c d)
theorem Colls.cons {b : Nat} {l : List Nat} {h h' : Heap} (k : Colls b l h) (f : Foot (fun i => i < b ∨ h.n ≤ i) h h') {n : Nat} (h1 : h.n ≤ n) (h0 : b ≤ n) (h2 : n < h'.n) (hc : Heap.at h' n = .coll true) : Colls b (n :: l) h' := by
  refine ⟨List.nodup_cons.2 ⟨fun hi => by have := (k.at' n hi).2.1; omega, k.nd⟩, fun i hi => ?_⟩
  rcases List.mem_cons.1 hi with rfl | hi
  · exact ⟨h0, h2, hc⟩
  · obtain ⟨a, c, d⟩ := k.at' i hi
    exact ⟨a, by have := f.n; omega, (f.keep i c (by omega)).trans d⟩
theorem Colls.run {P : Program} {b : Nat} {l : List Nat} {h : Heap} {mode : Option AV} {K : Option AV → Heap → Prop} (k : Colls b l h) (hk : ∀ h', Foot (fun i => b ≤ i) h h' → K mode h') : defW false P (l.map .coll) mode h K :=
  defW_colls l h k.nd (fun i hi => (k.at' i hi).2) fun h' f => hk h' (f.mono fun i _ hi => (k.at' i hi).1)

theorem then_scope {P : Program} {c : Code} {s : ASt} {K : AExit → ASt → Prop} (h : Then P c s K) : Then P (.scope c) s K := by
  obtain ⟨e, s', h1, h2⟩ := h.1
  exact ⟨⟨e, s', ok_scope h1, h2⟩⟩
theorem U38 : Tryz.prog.underlying 38 = some (.slice 3) := by kernel_rfl
theorem S3 : slicePart Tryz.prog 3 = some 1 := by kernel_rfl
theorem fits_zero {d : Pn} (hd : d.Good) (hc : canP d = true) : fitsP d 0 = false := by
  unfold fitsP holdsW
  rw [weigh_zero hd hc]
  have := hd.lt.1
  rw [show decide ((⟨d.low, d.top⟩ : Wt).lo ≤ (⟨0, 0⟩ : Wt).lo) = false from decide_eq_false (by show ¬ d.low ≤ 0; omega), Bool.false_and, Bool.and_false]
/-- What the search for the next bale keeps. -/
structure LP (fit : Nat → Bool) (N p q o m t : Nat) (out : AV) (bs : List Nat) (s k : Nat) (l : List Nat) (g : Heap) : Prop where
  hd : Hd fit N p q o m g
  b1 : Heap.at g 1 = .blk [out]
  rs : RowsL 1 g out (bs.map row1)
  ow : ∀ x, outId out = some x → t + 2 ≤ x
  bt : Heap.at g t = .blk [.msl o 1 0 N N, .func (.func 103) [] [.ptr p 0, .ptr q 0]]
  bl : Heap.at g (t + 1) = reB s k
  gn : t + 2 ≤ g.n
  cl : Colls (t + 2) l g
section
variable {fit : Nat → Bool} {N p q o m t : Nat} {out : AV} {bs : List Nat} {s k : Nat} {l : List Nat} {g g' : Heap}
/-- Also where only others, and the map, are written. -/
theorem LP.keep (e : LP fit N p q o m t out bs s k l g) (hm : p < t ∧ q < t ∧ o < t ∧ m < t ∧ 2 ≤ t) (h1m : m ≠ 1) {W : Nat → Prop} (f : Foot W g g') (hw : ∀ i, i < t + 2 → i ≠ m → ¬ W i) (hmap : PMap (mF fit) (Heap.at g' m)) (ho : ∀ x, outId out = some x → ¬ W x) (hc : ∀ x ∈ l, ¬ W x) : LP fit N p q o m t out bs s k l g' := by
  obtain ⟨m1, m2, m3, m4, m5⟩ := hm
  have gn := e.gn; have fn := f.n
  have at' : ∀ i, i < t + 2 → i ≠ m → Heap.at g' i = Heap.at g i := fun i hi hne => f.keep i (by omega) (hw i hi hne)
  exact ⟨⟨(at' p (by omega) e.hd.np).trans e.hd.bp, (at' q (by omega) e.hd.nq).trans e.hd.bq, (at' o (by omega) e.hd.no).trans e.hd.bo, hmap, by omega, by omega, by omega, by omega, e.hd.np, e.hd.nq, e.hd.no⟩, (at' 1 (by omega) (by omega)).trans e.b1, e.rs.ext fn (fun i hi hi2 => f.keep i hi (ho i hi2)), e.ow, (at' t (by omega) (by omega)).trans e.bt, (at' (t + 1) (by omega) (by omega)).trans e.bl, by omega, ⟨e.cl.nd, fun x hx => by
    obtain ⟨a, b, c⟩ := e.cl.at' x hx
    exact ⟨a, by omega, (f.keep x b (hc x hx)).trans c⟩⟩⟩
theorem LP.call (e : LP fit N p q o m t out bs s k l g) (hm : p < t ∧ q < t ∧ o < t ∧ m < t ∧ 2 ≤ t) (h1m : m ≠ 1) (f : Foot (fun i => i = m) g g') (hmap : PMap (mF fit) (Heap.at g' m)) : LP fit N p q o m t out bs s k l g' :=
  e.keep hm h1m f (fun i _ hne h => hne h) hmap (fun x hx h => by have := e.ow x hx; have := hm.2.2.2.1; omega) (fun x hx h => by have := (e.cl.at' x hx).1; have := hm.2.2.2.1; omega)
end
def planL (d : Pn) : List Nat := planR (fitsP d) d.bales (2 ^ d.n - 1)
theorem planR_len (fit : Nat → Bool) : ∀ (k s : Nat), (planR fit k s).length ≤ k
  | 0, _ => Nat.le_refl _
  | k + 1, s => by
    unfold planR
    split
    · exact Nat.zero_le _
    · split
      · exact Nat.succ_le_succ (planR_len fit k _)
      · exact Nat.zero_le _
theorem planR_step {fit : Nat → Bool} {k s x : Nat} (hk : k ≠ 0) (hm : ¬ mostF fit s k = ⟨0, 0⟩) (hx : (subL s).find? (pickB fit s k) = some x) : planR fit k s = x :: planR fit (k - 1) (diffN s x) := by
  cases k with
  | zero => exact absurd rfl hk
  | succ k => rw [planR, if_neg hm, hx]; rfl
theorem find_at {p : Nat → Bool} {done rest : List Nat} {x : Nat} (h : ∀ y ∈ done, p y = false) (hx : p x = true) : (done ++ x :: rest).find? p = some x := by
  induction done with
  | nil => exact List.find?_cons_of_pos hx
  | cons a l ih => rw [List.cons_append, List.find?_cons_of_neg (by rw [h a (by simp)]; simp)]; exact ih fun y hy => h y (List.mem_cons_of_mem _ hy)
set_option maxHeartbeats 8000000 in
theorem plan_ret {v : PV} {d : Pn} (hv : v.IsL d.pr) (hd : d.Good) {C : List CV} (hC : Pile v d C) (hcan : canP d = true) : Ret Tryz.prog 69 [.agg C] (nsC (planL d)) := by
  have hCc := hC.ce
  have p10 := pow10 hd.n10
  refine ret_then' (hm := false) Tryz.func69 rfl ?_
  conv => whnf
  refine then_seq (hm := false) ?_
  conv => whnf
  rw [box_agg (C := C)]; rotate_left; rfl; rfl; exact hCc
  conv => whnf
  refine forceL_intro ?_
  conv => whnf
  refine then_scope ?_
  refine then_seq (hm := false) ?_
  conv => whnf
  generalize hG : TMap.push AB.dead (TMap.push AB.dead TMap.nil _) _ = G
  have Gn : G.n = 2 := by rw [← hG]; rfl
  have G0 : Heap.at G 0 = .blk (C.map .c) := by rw [← hG]; exact (at_push_lt _ _ (by show 0 < 1; omega)).trans (at_push_self _ _)
  have G1 : Heap.at G 1 = .blk [.c nilC] := by rw [← hG]; exact at_push_self (TMap.push AB.dead TMap.nil _) _
  clear hG
  obtain ⟨e1, H1, hc1, p, q, o, m, rfl, f1, hd1, lp, lq, lo, lm⟩ := hand_call hv hd hC G
  have n1 := f1.n
  have h10 := (f1.keep 0 (by omega) (fun x => x)).trans G0
  have h11 := (f1.keep 1 (by omega) (fun x => x)).trans G1
  refine then_via (hm := false) (fun st => ∃ g t, Hd (fitsP d) (2 ^ d.n) p q o m g ∧ 2 ≤ t ∧ t + 2 = g.n ∧ p < t ∧ q < t ∧ o < t ∧ m < t ∧ Heap.at g 1 = .blk [.c nilC] ∧ Heap.at g t = .blk [.msl o 1 0 (2 ^ d.n) (2 ^ d.n), .func (.func 103) [] [.ptr p 0, .ptr q 0]] ∧ Heap.at g (t + 1) = reB (2 ^ d.n - 1) d.bales ∧ Has st 49 [(3, .ptr 1 0), (4, .ptr t 0), (5, .ptr (t + 1) 0)] [] none g) ?_ ?_
  · skip
    obtain ⟨X2, hX2⟩ : ∃ X2, X2 = H1.push .dead (.blk [.c nilC, .lit .nilFunc]) := ⟨_, rfl⟩
    have X2n : X2.n = H1.n + 1 := by rw [hX2]; rfl
    obtain ⟨X3, hX3⟩ : ∃ X3, X3 = X2.push .dead (.blk [.c (I 0), .c (I 0)]) := ⟨_, rfl⟩
    have X3n : X3.n = H1.n + 2 := by rw [hX3, push_n, X2n]
    obtain ⟨X4, hX4⟩ : ∃ X4, X4 = X3.set .dead H1.n (.blk [.msl o 1 0 (2 ^ d.n) (2 ^ d.n), .func (.func 103) [] [.ptr p 0, .ptr q 0]]) := ⟨_, rfl⟩
    have X4n : X4.n = H1.n + 2 := by rw [hX4, TMap.set_n, X3n]
    refine mixedM_by (hm := false) 4 2 [4, 5] (by kernel_rfl) (by kernel_rfl) (by kernel_rfl) ?_
    conv => whnf
    refine ⟨_, G0, ?_⟩
    conv => whnf
    refine look_read (hC.rd) ?_
    conv => whnf
    refine .heavy _ H1 (.inl hc1) ?_
    conv => whnf
    refine ⟨_, h10, ?_⟩
    conv => whnf
    refine look_read (hC.rd78) ?_
    conv => whnf
    refine ⟨_, (at_push_lt _ _ (by rw [push_n]; omega)).trans (at_push_self _ _), ?_⟩
    conv => whnf
    refine ⟨by show H1.n < H1.n + 1 + 1; omega, ?_⟩
    conv => whnf
    refine ⟨_, (at_set_ne _ _ (i := H1.n + 1) (k := H1.n) (by omega)).trans (at_push_self _ _), ?_⟩
    conv => whnf
    refine ⟨by show H1.n + 1 < TMap.n _; rw [TMap.set_n]; show H1.n + 1 < H1.n + 1 + 1; omega, ?_⟩
    conv => whnf
    refine ⟨by kernel_rfl, ?_, by kernel_rfl, by kernel_rfl, ⟨[⟨4, 4, [nilC, .lit .nilFunc]⟩, ⟨5, 5, [I 0, I 0]⟩], rfl, ⟨rfl, trivial, H1, ⟨⟨_, 98, rfl, rfl, rfl, rfl, by kernel_rfl⟩, rfl, rfl, rfl, ?_⟩⟩, ⟨rfl, trivial, _, ⟨⟨_, 78, rfl, rfl, rfl, rfl, by kernel_rfl⟩, rfl, rfl, rfl, ?_⟩⟩, trivial⟩, ?_⟩
    · exact heaps_eq (l' := [(0, G, H1), (0, H1, X2), (0, X2, X3), (0, X3, X4)]) (by rw [hX4, hX3, hX2]; kernel_rfl) (heaps_cons (f1.keep 0 (by omega) (fun x => x)) (heaps_cons (by rw [hX2]; exact at_push_lt _ _ (by omega)) (heaps_cons (by rw [hX3]; exact at_push_lt _ _ (by omega)) (heaps_cons (by rw [hX4]; exact at_set_ne _ _ (by omega)) (by simp [HeapsOk])))))
    · simp
    · simp
    obtain ⟨X5, hX5⟩ : ∃ X5, X5 = X4.set .dead (H1.n + 1) (reB (2 ^ d.n - 1) d.bales) := ⟨_, rfl⟩
    have X5n : X5.n = H1.n + 2 := by rw [hX5, TMap.set_n, X4n]
    have old : ∀ i, i < H1.n → Heap.at X5 i = Heap.at H1 i := fun i hi => by
      rw [hX5, hX4, hX3, hX2]
      exact (at_set_ne _ _ (by omega)).trans ((at_set_ne _ _ (by omega)).trans ((at_push_lt _ _ (by rw [push_n]; omega)).trans (at_push_lt _ _ hi)))
    have hdX : Hd (fitsP d) (2 ^ d.n) p q o m X5 := hd1.ext ⟨by omega, fun i hi _ => old i hi⟩
    have x1 : Heap.at X5 1 = .blk [.c nilC] := (old 1 (by omega)).trans h11
    have xt : Heap.at X5 H1.n = .blk [.msl o 1 0 (2 ^ d.n) (2 ^ d.n), .func (.func 103) [] [.ptr p 0, .ptr q 0]] := by rw [hX5, hX4]; exact (at_set_ne _ _ (by omega)).trans (at_set_self _ _ (by omega))
    have xl : Heap.at X5 (H1.n + 1) = reB (2 ^ d.n - 1) d.bales := by rw [hX5]; exact at_set_self _ _ (by omega)
    have hp1 := hd1.lp; have hq1 := hd1.lq; have ho1 := hd1.lo; have hm1 := hd1.lm
    have hres : ∃ g t, Hd (fitsP d) (2 ^ d.n) p q o m g ∧ 2 ≤ t ∧ t + 2 = g.n ∧ p < t ∧ q < t ∧ o < t ∧ m < t ∧ Heap.at g 1 = .blk [.c nilC] ∧ Heap.at g t = .blk [.msl o 1 0 (2 ^ d.n) (2 ^ d.n), .func (.func 103) [] [.ptr p 0, .ptr q 0]] ∧ Heap.at g (t + 1) = reB (2 ^ d.n - 1) d.bales ∧ g = X5 ∧ t = H1.n :=
      ⟨X5, H1.n, hdX, by omega, by omega, hp1, hq1, ho1, hm1, x1, xt, xl, rfl, rfl⟩
    obtain ⟨g, t, r1, r2, r3, r4, r5, r6, r7, r8, r9, r10, r11, r12⟩ := hres
    refine ⟨g, t, r1, r2, r3, r4, r5, r6, r7, r8, r9, r10, ?_⟩
    rw [r11, r12, hX5, hX4, hX3, hX2]
    exact ⟨rfl, ⟨rfl, rfl, rfl, trivial⟩, rfl, rfl, rfl, rfl⟩
  clear hc1 f1 hd1 h10 h11 n1 lp lq lo lm G1 G0 Gn
  rintro st ⟨g, t, hdg, t2, tn, pt, qt, ot, mt, g1, gt, gl, hs1⟩
  refine hs1.then ?_
  refine then_seq (hm := false) ?_
  conv => whnf
  have hmm : p < t ∧ q < t ∧ o < t ∧ m < t ∧ 2 ≤ t := ⟨pt, qt, ot, mt, t2⟩
  have h1m : m ≠ 1 := fun e => by
    have := hdg.bm
    rw [e, g1] at this
    obtain ⟨_, _, _, _, hb, _⟩ := this
    cases hb
  have h0 : fitsP d 0 = false := fits_zero hd hcan
  have L0 : LP (fitsP d) (2 ^ d.n) p q o m t nilA [] (2 ^ d.n - 1) d.bales [] g := ⟨hdg, g1, .inl ⟨rfl, rfl⟩, (fun x hx => by cases hx), gt, gl, by omega, Colls.nil _ _⟩
  have hb5 := hd.b5
  refine then_via (hm := false) (fun st => ∃ (g : Heap) (out : AV) (l : List Nat) (s k : Nat), LP (fitsP d) (2 ^ d.n) p q o m t out (planL d) s k l g ∧ Has st 49 [(3, .ptr 1 0)] (l.map .coll) none g) ?_ ?_
  · skip
    conv => whnf
    refine loop_by (I := fun z st => ∃ (g : Heap) (out : AV) (bs l : List Nat) (s k : Nat), z = k ∧ s < 2 ^ d.n ∧ k ≤ 5 ∧ planL d = bs ++ planR (fitsP d) k s ∧ LP (fitsP d) (2 ^ d.n) p q o m t out bs s k l g ∧ Has st 49 [(3, .ptr 1 0), (4, .ptr t 0), (5, .ptr (t + 1) 0)] (l.map .coll) none g) ?_ (k := d.bales)
      ⟨g, nilA, [], [], 2 ^ d.n - 1, d.bales, rfl, by omega, hb5, rfl, L0, rfl, ⟨rfl, rfl, rfl, trivial⟩, rfl, rfl, rfl, rfl⟩
    clear L0 hdg g1 gt gl hs1 tn
    rintro z st ⟨g, out, bs, l, s, k, rfl, hs, hk, hpl, L, hs1⟩
    refine (hs1.then ?_).1
    obtain ⟨e2, G2, hc2, rfl, f2, m2⟩ := most_call (fit := fitsP d) (N := 2 ^ d.n) (by omega) (2 ^ d.n) s z (by omega) hs hk g L.hd
    have L2 := L.call hmm h1m f2 m2
    have f2n := f2.n
    refine then_seq (hm := false) ?_
    conv => whnf
    refine ⟨_, L.bt, ?_⟩
    conv => whnf
    refine ⟨_, L.bl, ?_⟩
    conv => whnf
    refine .inl _ G2 .no hc2 ?_
    conv => whnf
    refine ⟨_, pd_neq rfl rfl rfl _ _, ?_⟩
    conv => whnf
    have hdec := pd_dec (mostF (fitsP d) s z) ⟨0, 0⟩
    rw [show (!(decide (((mostF (fitsP d) s z).f : Int) = 0) && decide (((mostF (fitsP d) s z).b : Int) = 0))) = !decide (mostF (fitsP d) s z = ⟨0, 0⟩) from congrArg _ hdec]
    clear hdec
    cases hz0 : decide (mostF (fitsP d) s z = ⟨0, 0⟩)
    case true =>
      have hz0 := of_decide_eq_true hz0
      have hnil : planR (fitsP d) z s = [] := by
        cases z with
        | zero => rfl
        | succ z => unfold planR; rw [if_pos hz0]
      rw [hnil, List.append_nil] at hpl
      subst hpl
      conv => whnf
      exact ⟨G2, out, l, s, z, L2, rfl, ⟨rfl, trivial⟩, rfl, rfl, rfl, rfl⟩
    have hz0 := of_decide_eq_false hz0
    have hs1' : s < 1024 := by omega
    have hzpos : z ≠ 0 := fun e => hz0 (most_zero _ (.inr e))
    obtain ⟨xp, hxp1, hxp2⟩ := most_pick (fitsP d) h0 hs1' hz0
    clear hc2 f2 m2 f2n L
    conv => whnf
    refine then_end (hm := false) ?_
    conv => whnf
    refine ⟨_, L2.bl, ?_⟩
    conv => whnf
    refine .ret (setsOf_ret _) rfl ?_
    conv => whnf
    have hoN : ∀ x, outId out = some x → x < G2.n := fun x hx => L2.rs.lt x hx
    have hlN : ∀ x ∈ l, x < G2.n := fun x hx => (L2.cl.at' x hx).2.1
    have hNt := L2.gn
    have hbl : bs.length ≤ 5 := by
      have h1 := congrArg List.length hpl
      rw [List.length_append] at h1
      have h2 := planR_len (fitsP d) d.bales (2 ^ d.n - 1)
      unfold planL at h1
      omega
    have keepI : ∀ {W : Nat → Prop} {out' : AV} {bs' : List Nat} {s' k' : Nat} {g g' : Heap}, LP (fitsP d) (2 ^ d.n) p q o m t out' bs' s' k' l g → G2.n ≤ g.n → (∀ i, W i → G2.n + 2 ≤ i) → (∀ x, outId out' = some x → x ≠ G2.n ∧ x ≠ G2.n + 1 ∧ ¬ W x) → Foot (fun i => W i ∨ i = G2.n ∨ i = G2.n + 1) g g' → LP (fitsP d) (2 ^ d.n) p q o m t out' bs' s' k' l g' := by
      intro W out' bs' s' k' g g' L hn hw ho ff
      refine L.keep hmm h1m ff (fun i hi _ hx => ?_) (pMap_eq (ff.keep m (by omega) (fun hx => ?_)) L.hd.bm) (fun x hx hy => ?_) (fun x hx hy => ?_)
      · rcases hx with x | x | x
        · have := hw i x; omega
        · omega
        · omega
      · rcases hx with x | x | x
        · have := hw m x; omega
        · omega
        · omega
      · obtain ⟨a, b, c⟩ := ho x hx
        rcases hy with y | y | y
        · exact c y
        · exact a y
        · exact b y
      · have hx' := hlN x hx
        rcases hy with y | y | y
        · have := hw x y; omega
        · omega
        · omega
    refine range_nA (hm := false) G2.n rfl (ps := [20]) rfl rfl (sets_iter (r := s) (by omega))
      (I := fun W ys g => ∃ done rest, ys = chs rest ∧ subL s = done ++ rest ∧ (∀ y ∈ done, pickB (fitsP d) s z y = false) ∧ LP (fitsP d) (2 ^ d.n) p q o m t out bs s z l g)
      (E := fun W e g => e = .exit 1 ∧ ∃ x out', (subL s).find? (pickB (fitsP d) s z) = some x ∧ x ∈ subL s ∧ LP (fitsP d) (2 ^ d.n) p q o m t out' (bs ++ [x]) (diffN s x) (z - 1) l g ∧ (∀ k, outId out' = some k → k ≠ G2.n ∧ k ≠ G2.n + 1 ∧ ¬ W k)) (X := fun _ _ _ => False) ?_ ?_ ?_ ?_ ?_ ?_ ?_ ?_ ?_ ?_ ?_ ?_
    · rintro W ys g g' ⟨done, rest, x1, x2, x3, M⟩ hn hw ff
      exact ⟨done, rest, x1, x2, x3, keepI M hn hw (fun x hx => by have := hoN x hx; exact ⟨by omega, by omega, fun y => by have := hw x y; omega⟩) ff⟩
    · rintro W e g g' ⟨rfl, x, out', x1, x2, M, x3⟩ hn hw ff
      refine ⟨rfl, x, out', x1, x2, keepI M hn hw x3 ff, fun k hk => ⟨(x3 k hk).1, (x3 k hk).2.1, fun y => ?_⟩⟩
      have := M.rs.lt k hk
      rcases y with y | y
      · exact (x3 k hk).2.2 y
      · omega
    · rintro _ _ _ _ hx
      exact hx.elim
    · rintro W W' ys g ⟨done, rest, x1, x2, x3, M⟩ hw
      exact ⟨done, rest, x1, x2, x3, M⟩
    · rintro W W' e g ⟨rfl, x, out', x1, x2, M, x3⟩ hw
      exact ⟨rfl, x, out', x1, x2, M, fun k hk => ⟨(x3 k hk).1, (x3 k hk).2.1, fun y => (x3 k hk).2.2 (hw k y)⟩⟩
    · rintro _ _ _ _ hx _
      exact hx
    · intros; trivial
    · exact ⟨[], _, rfl, rfl, (fun y hy => by cases hy), L2⟩
    · rintro W y ys g hn hw ⟨done, rest, x1, x2, x3, M⟩
      cases rest with
      | nil => cases x1
      | cons x rest =>
      obtain ⟨rfl, rfl⟩ := List.cons.inj x1
      refine ⟨rfl, ?_⟩
      conv => whnf
      refine ⟨Foot.refl _ _, fun gb fb hbn' => ?_⟩
      have M0 := keepI M (by omega) (fun i hi => (hw i hi).1) (fun x hx => by have := hoN x hx; exact ⟨by omega, by omega, fun y => by have := (hw x y).1; omega⟩) (fb.mono fun i _ hi => .inr (.inr hi))
      have hxm : x ∈ subL s := by rw [x2]; simp
      have hsx := (mem_sub hs1').1 hxm
      have hxs := sub_le hsx
      conv => whnf
      refine mixed_by (hm := false) (by kernel_rfl) (by kernel_rfl) ?_
      conv => whnf
      refine ⟨_, M0.bt, ?_⟩
      conv => whnf
      refine ⟨⟨rfl, by omega, by omega⟩, ?_⟩
      conv => whnf
      refine ⟨_, M0.hd.bo, ?_⟩
      conv => whnf
      refine look_read (fits_read (by omega)) ?_
      conv => whnf
      cases hfit : fitsP d x
      case false =>
        conv => whnf
        refine ⟨by kernel_rfl, heaps_nil (by kernel_rfl), ?_⟩
        conv => whnf
        exact ⟨Foot.refl _ _, done ++ [x], rest, rfl, by rw [x2]; simp, (fun y hy => by
          rcases List.mem_append.1 hy with hy | hy
          · exact x3 y hy
          · obtain rfl := List.mem_singleton.1 hy
            unfold pickB; rw [hfit]; rfl), M0⟩
      have hxne : x ≠ 0 := fun e => by rw [e, h0] at hfit; cases hfit
      have hdl := diff_lt hsx hxne
      obtain ⟨e3, B3, hc3, rfl, f3, m3⟩ := most_call (fit := fitsP d) (N := 2 ^ d.n) (by omega) (2 ^ d.n) (diffN s x) (z - 1) (by omega) (by omega) (by omega) gb M0.hd
      have M3 := M0.call hmm h1m f3 m3
      have f3n := f3.n
      obtain ⟨e4, B4, hc4, rfl, f4, m4⟩ := most_call (fit := fitsP d) (N := 2 ^ d.n) (by omega) (2 ^ d.n) s z (by omega) hs hk B3 M3.hd
      have M4 := M3.call hmm h1m f4 m4
      have f4n := f4.n
      have hms := most_small (fitsP d) (s := diffN s x) (k := z - 1) (by omega) (by omega)
      conv => whnf
      refine ⟨_, M0.bt, ?_⟩
      conv => whnf
      refine ⟨_, M0.bl, ?_⟩
      conv => whnf
      refine .ret _ _ (without_ret (s := s) (x := x) (k := z) (by omega) (by omega) (by omega) (by omega)) rfl ?_
      conv => whnf
      refine .heavy _ B3 (.inl hc3) ?_
      conv => whnf
      refine .ret _ _ (with_ret (p := mostF (fitsP d) (diffN s x) (z - 1)) (x := x) (by omega) (by omega) (by omega)) rfl ?_
      conv => whnf
      refine ⟨_, M3.bt, ?_⟩
      conv => whnf
      refine ⟨_, M3.bl, ?_⟩
      conv => whnf
      refine .heavy _ B4 (.inl hc4) ?_
      conv => whnf
      rw [pd_eql (a := (((mostF (fitsP d) (diffN s x) (z - 1)).more x).f : Nat)) (b := (((mostF (fitsP d) (diffN s x) (z - 1)).more x).b : Nat)) (c := ((mostF (fitsP d) s z).f : Nat)) (e := ((mostF (fitsP d) s z).b : Nat))]
      rotate_left
      rfl
      rfl
      rfl
      rw [pd_dec]
      have hpk : decide ((mostF (fitsP d) (diffN s x) (z - 1)).more x = mostF (fitsP d) s z) = pickB (fitsP d) s z x := by unfold pickB; rw [hfit]; rfl
      rw [hpk]
      conv => whnf
      refine ⟨by kernel_rfl, ?_, ?_⟩
      · exact heaps_eq (l' := [(t, gb, B3), (t + 1, gb, B3)]) (by kernel_rfl) (heaps_cons (f3.keep t (by omega) (by omega)) (heaps_cons (f3.keep (t + 1) (by omega) (by omega)) (by simp [HeapsOk])))
      have F34 : Foot (fun i => i = m) gb B4 := f3.trans f4
      have hbn4 : gb.n ≤ B4.n := F34.n
      have hapm : ∀ i, i = m → apart W G2.n i := by
        rintro i rfl (x | x | x)
        · have := (hw i x).1; omega
        · omega
        · omega
      cases hp : pickB (fitsP d) s z x
      · conv => whnf
        exact ⟨F34.mono fun i _ hi => hapm i hi, done ++ [x], rest, rfl, by rw [x2]; simp, (fun y hy => by
          rcases List.mem_append.1 hy with hy | hy
          · exact x3 y hy
          · obtain rfl := List.mem_singleton.1 hy
            exact hp), M4⟩
      have hfnd : (subL s).find? (pickB (fitsP d) s z) = some x := by rw [x2]; exact find_at x3 hp
      clear hc3 hc4 m3 m4 M3 f3 f4 M M0 fb hpk
      have hlim : (bs.map row1).length + 1 ≤ limit := by rw [List.length_map]; unfold limit; omega
      have hgn := M4.gn
      have hlo := M4.rs.lt
      have how := M4.ow
      have hb1 := M4.b1
      have hbt := M4.bl
      have hLn : ∀ i, i ∈ l → t + 2 ≤ i ∧ i < G2.n := fun i hi => ⟨(M4.cl.at' i hi).1, hlN i hi⟩
      obtain ⟨lk, hlk⟩ : ∃ lk, lk = (bs.map row1).length := ⟨_, rfl⟩
      rcases M4.rs.shape with rfl | ⟨o', z', rfl⟩
      all_goals
        conv => whnf
        refine draw_by (hm := false) (by kernel_rfl) (by kernel_rfl) ?_
        conv => whnf
        refine ⟨_, hb1, ?_⟩
        conv => whnf
        obtain ⟨r1, hr1, hR1, hold1, hn1', hfresh1, hupd1, hre1, hup1, bf1, hval1, hnn1⟩ := rows_append2 (P := Tryz.prog) (row := row1 x) (t := 38) (u := 38) M4.rs U38 U38 rfl S3 rfl (row1_all _) rfl hlim
        obtain ⟨H1, hH1⟩ : ∃ H1, H1 = after (B4.push .dead (.blk ((row1 x).map .c))) r1 := ⟨_, rfl⟩
        rw [← hH1] at hR1 hold1 hn1' hnn1
        obtain ⟨rv1, rreads1, rupds1, rfresh1⟩ := r1
        obtain ⟨fb1, bf1⟩ := bf1
        simp only at hval1 hre1 hup1 bf1
        subst bf1
        subst hval1
        subst hre1
        subst hup1
        refine dgot (H := H1) (got_app rfl hr1) hupd1 hH1.symm ?_
        conv => whnf
        have e1 := (hold1 (t + 1) (by omega) (fun e => by have := how (t + 1) e; omega)).trans hbt
        have e0 := (hold1 1 (by omega) (fun e => by have := how 1 e; omega)).trans hb1
        refine ⟨_, e1, ?_⟩
        conv => whnf
        refine .pure _ _ rfl (without_ret (s := s) (x := x) (k := z) (by omega) (by omega) (by omega) (by omega)) ?_
        conv => whnf
        refine ⟨_, e0, ?_⟩
        conv => whnf
        refine ⟨by show 1 < H1.n; omega, ?_⟩
        conv => whnf
        refine ⟨_, (at_set_ne _ _ (i := t + 1) (k := 1) (by omega)).trans e1, ?_⟩
        conv => whnf
        refine ⟨(show t + 1 < H1.n by omega), ?_⟩
        conv => whnf
        refine ⟨?_, ?_⟩
        · first
            | (obtain ⟨π, z0, z1, z2, z3⟩ : ∃ π : Nat → Nat, π 1 = 0 ∧ π (t + 1) = 1 ∧ π B4.n = 2 ∧ π (B4.n + 1) = 3 := ⟨fun x => if x = 1 then 0 else if x = t + 1 then 1 else if x = B4.n then 2 else 3, by dsimp only; repeat (first | rw [if_pos rfl] | rw [if_neg (by omega)]), by dsimp only; repeat (first | rw [if_pos rfl] | rw [if_neg (by omega)]), by dsimp only; repeat (first | rw [if_pos rfl] | rw [if_neg (by omega)]), by dsimp only; repeat (first | rw [if_pos rfl] | rw [if_neg (by omega)])⟩
               exact pairs_via π [⟨0, _, _, [π 1], []⟩, ⟨1, _, _, [], []⟩, ⟨2, _, _, [], [π B4.n]⟩, ⟨3, _, _, [π B4.n], [π (B4.n + 1)]⟩, ⟨4, _, _, [π (t + 1)], []⟩, ⟨5, _, _, [], []⟩, ⟨6, _, _, [], []⟩, ⟨7, _, _, [π 1], [π 1]⟩, ⟨8, _, _, [π (t + 1)], [π (t + 1)]⟩] rfl (by rw [z0, z1, z2, z3]; kernel_rfl))
            | (have j1 := hlo o' rfl
               have j2 := how o' rfl
               obtain ⟨π, z0, z1, z2, z3, z4⟩ : ∃ π : Nat → Nat, π 1 = 0 ∧ π (t + 1) = 1 ∧ π B4.n = 2 ∧ π (B4.n + 1) = 3 ∧ π o' = 4 := ⟨fun x => if x = 1 then 0 else if x = t + 1 then 1 else if x = B4.n then 2 else if x = B4.n + 1 then 3 else 4, by dsimp only; repeat (first | rw [if_pos rfl] | rw [if_neg (by omega)]), by dsimp only; repeat (first | rw [if_pos rfl] | rw [if_neg (by omega)]), by dsimp only; repeat (first | rw [if_pos rfl] | rw [if_neg (by omega)]), by dsimp only; repeat (first | rw [if_pos rfl] | rw [if_neg (by omega)]), by dsimp only; repeat (first | rw [if_pos rfl] | rw [if_neg (by omega)])⟩
               exact pairs_via π [⟨0, _, _, [π 1], []⟩, ⟨1, _, _, [], []⟩, ⟨2, _, _, [], [π B4.n]⟩, ⟨3, _, _, [π o', π B4.n], [π o', π (B4.n + 1)]⟩, ⟨4, _, _, [π (t + 1)], []⟩, ⟨5, _, _, [], []⟩, ⟨6, _, _, [], []⟩, ⟨7, _, _, [π 1], [π 1]⟩, ⟨8, _, _, [π (t + 1)], [π (t + 1)]⟩] rfl (by rw [z0, z1, z2, z3, z4]; kernel_rfl))
        conv => whnf
        have hres : Foot (apart W G2.n) gb ((H1.set .dead 1 (.blk [.msl (B4.n + 1) 1 0 ((bs.map row1).length + 1) ((bs.map row1).length + 1)])).set .dead (t + 1) (reB (diffN s x) (z - 1))) ∧ LP (fitsP d) (2 ^ d.n) p q o m t (.msl (B4.n + 1) 1 0 ((bs.map row1).length + 1) ((bs.map row1).length + 1)) (bs ++ [x]) (diffN s x) (z - 1) l ((H1.set .dead 1 (.blk [.msl (B4.n + 1) 1 0 ((bs.map row1).length + 1) ((bs.map row1).length + 1)])).set .dead (t + 1) (reB (diffN s x) (z - 1))) := by
          have at2 : ∀ i, i ≠ 1 → i ≠ t + 1 → Heap.at ((H1.set .dead 1 (.blk [.msl (B4.n + 1) 1 0 ((bs.map row1).length + 1) ((bs.map row1).length + 1)])).set .dead (t + 1) (reB (diffN s x) (z - 1))) i = Heap.at H1 i := fun i h1 h2 => (at_set_ne _ _ h2).trans (at_set_ne _ _ h1)
          have hgrow : ∀ i, outId _ = some i → i < G2.n := fun i hi => hoN i hi
          have hfr := M4.hd.lp; have hfq := M4.hd.lq; have hfo := M4.hd.lo; have hfm := M4.hd.lm
          have low : ∀ i, i < t + 1 → i ≠ 1 → Heap.at ((H1.set .dead 1 (.blk [.msl (B4.n + 1) 1 0 ((bs.map row1).length + 1) ((bs.map row1).length + 1)])).set .dead (t + 1) (reB (diffN s x) (z - 1))) i = Heap.at B4 i := fun i hi h1 => (at2 i h1 (by omega)).trans (hold1 i (by omega) (fun e => by have := how i e; omega))
          have p1 : p ≠ 1 := fun e => by have := M4.hd.bp; rw [e, hb1] at this; simp at this
          have q1 : q ≠ 1 := fun e => by have := M4.hd.bq; rw [e, hb1] at this; simp at this
          have o1 : o ≠ 1 := fun e => by
            have := M4.hd.bo
            rw [e, hb1] at this
            have h2 := (AB.blk.inj this).trans (by rw [show 2 ^ d.n = (2 ^ d.n - 1) + 1 by omega, List.range_succ_eq_map])
            have h3 := (List.cons.inj h2).1
            cases h3
          refine ⟨⟨by rw [TMap.set_n, TMap.set_n]; omega, fun i hi hna => ?_⟩, ?_⟩
          · have hWi : W i ∨ i = G2.n ∨ i = G2.n + 1 := Classical.byContradiction fun hh => hna (fun x => hh x)
            have hi2 : G2.n ≤ i := by
              rcases hWi with x | x | x
              · have := (hw i x).1; omega
              · omega
              · omega
            exact (at2 i (by omega) (by omega)).trans ((hold1 i (by omega) (fun e => by have := hgrow i e; omega)).trans (F34.keep i hi (by omega)))
          · refine ⟨⟨(low p (by omega) p1).trans M4.hd.bp, (low q (by omega) q1).trans M4.hd.bq, (low o (by omega) o1).trans M4.hd.bo, pMap_eq (low m (by omega) h1m) M4.hd.bm, by rw [TMap.set_n, TMap.set_n]; omega, by rw [TMap.set_n, TMap.set_n]; omega, by rw [TMap.set_n, TMap.set_n]; omega, by rw [TMap.set_n, TMap.set_n]; omega, M4.hd.np, M4.hd.nq, M4.hd.no⟩, (at_set_ne _ _ (by omega)).trans (at_set_self _ _ (by omega)), ?_, ?_, (low t (by omega) (by omega)).trans M4.bt, at_set_self _ _ (by rw [TMap.set_n]; omega), by rw [TMap.set_n, TMap.set_n]; omega, ⟨M4.cl.nd, fun i hi => ?_⟩⟩
            · rw [List.map_append]
              exact RowsL.set (RowsL.set hR1 (fun e => by have := Option.some.inj e; omega) _) (fun e => by have := Option.some.inj e; omega) _
            · intro k hk
              have hk := Option.some.inj hk
              omega
            · obtain ⟨a, b, c⟩ := M4.cl.at' i hi
              refine ⟨a, by rw [TMap.set_n, TMap.set_n]; omega, (at2 i (by omega) (by omega)).trans ((hold1 i b (fun e => ?_)).trans c)⟩
              rcases M4.rs with ⟨he, _⟩ | ⟨o2, he, hb, _⟩
              · rw [he] at e; cases e
              · rw [he] at e
                obtain rfl := Option.some.inj e
                rw [hb] at c; cases c
        exact ⟨hres.1, rfl, x, _, hfnd, hxm, hres.2, fun k hk => by
          have hk := Option.some.inj hk
          exact ⟨by omega, by omega, fun y => by have := (hw k y).2; omega⟩⟩
    · rintro g hn hc ⟨done, rest, x1, x2, x3, M⟩
      have : rest = [] := by cases rest with | nil => rfl | cons a l => cases x1
      subst this
      rw [List.append_nil] at x2
      exfalso
      have := x3 xp (x2 ▸ hxp1)
      rw [hxp2] at this
      cases this
    · rintro e g hn hc ⟨rfl, x, out', x1, x2, M, x3⟩ _
      conv => whnf
      have hxne : x ≠ 0 := fun e => by have := List.find?_some x1; rw [e] at this; unfold pickB at this; rw [h0] at this; cases this
      have hdl := diff_lt ((mem_sub hs1').1 x2) hxne
      exact ⟨z - 1, by omega, g, out', bs ++ [x], G2.n :: l, diffN s x, z - 1, rfl, by omega, by omega, by rw [hpl, planR_step hzpos hz0 x1]; simp, ⟨M.hd, M.b1, M.rs, M.ow, M.bt, M.bl, M.gn, ⟨List.nodup_cons.2 ⟨fun hi => by have := hlN _ hi; omega, M.cl.nd⟩, fun i hi => by
        rcases List.mem_cons.1 hi with rfl | hi
        · exact ⟨hNt, by omega, hc⟩
        · exact M.cl.at' i hi⟩⟩, rfl, ⟨rfl, rfl, rfl, trivial⟩, rfl, rfl, rfl, rfl⟩
    · rintro v g _ _ hx
      exact hx.elim
  · rintro st ⟨g, out, l, s, k, L, hs1⟩
    refine hs1.then ?_
    have hout : ∀ x, outId out = some x → x ∉ l := fun x hx hm' => by
      have := (L.cl.at' x hm').2.2
      rcases L.rs with ⟨rfl, _⟩ | ⟨o', rfl, hb, _⟩
      · cases hx
      · obtain rfl := Option.some.inj hx
        rw [hb] at this; cases this
    have hend : ∀ h', Foot (fun i => i ∈ l) g h' → ∃ v', RetW v' out h' ∧ v'.Le (nsC (planL d)) := fun h' f => by
      have R := L.rs.ext f.n (fun i hi ho => f.keep i hi (hout i ho))
      rw [show nsC (planL d) = .sl ((planL d).map row1).flatten 0 ((planL d).map row1).length by rw [List.length_map]; rfl]
      exact RowsL.ends R
    have hco : ∀ i ∈ l, i < g.n ∧ Heap.at g i = .coll true := fun i hi => (L.cl.at' i hi).2
    have hb1 := L.b1
    rcases L.rs.shape with rfl | ⟨o', n', rfl⟩
    all_goals
      refine then_seq (hm := false) ?_
      conv => whnf
      refine ⟨_, hb1, ?_⟩
      conv => whnf
      refine then_end (hm := false) ?_
      conv => whnf
      refine defW_colls l g L.cl.nd hco fun h' f => ?_
      exact hend h' f
end Go.Ag
/- Layer 8: Plan. -/
namespace Go.Ag
open Go.Proofs
set_option maxRecDepth 100000

def c69 : CV := .func (.func 69) [] []
theorem caughtN_no (id : Nat) (h : Heap) : CallOk Tryz.prog 137 [.ptr id 0] h .no (.ret (.c (.tuple []))) h .no := by
  suffices H : ∃ e h' p', CallOk Tryz.prog 137 [.ptr id 0] h .no e h' p' ∧ (e = .ret (.c (.tuple [])) ∧ h' = h ∧ p' = .no) by
    obtain ⟨e, h', p', h1, rfl, rfl, rfl⟩ := H
    exact h1
  refine call_byP (hm := false) Tryz.func137 rfl ?_
  conv => whnf
  exact ⟨rfl, rfl, rfl⟩
theorem caughtN_live {id : Nat} {h : Heap} {c c0 : Int} (hb : Heap.at h id = .blk [.c (I c0)]) : CallOk Tryz.prog 137 [.ptr id 0] h (.live (errV c)) (.ret (.c (.tuple []))) (h.set .dead id (.blk [.c (I c)])) .taken := by
  suffices H : ∃ e h' p', CallOk Tryz.prog 137 [.ptr id 0] h (.live (errV c)) e h' p' ∧ (e = .ret (.c (.tuple [])) ∧ h' = h.set .dead id (.blk [.c (I c)]) ∧ p' = .taken) by
    obtain ⟨e, h', p', h1, rfl, rfl, rfl⟩ := H
    exact h1
  refine call_byP (hm := false) Tryz.func137 rfl ?_
  conv => whnf
  refine ⟨_, hb, ?_⟩
  conv => whnf
  exact ⟨rfl, rfl, rfl⟩
set_option maxHeartbeats 1000000 in
theorem ansN_ok {a b : CV} {x : List Nat} (h : Ret Tryz.prog 128 [a, b] (nsC x)) : Ret Tryz.prog 127 [.func (.func 128) [] [a, b]] (.tuple [nsC x, I 0]) := by
  refine close_val ?_
  refine call_by (hm := true) Tryz.func127 rfl ?_
  conv => whnf
  refine .ret (h) rfl ?_
  conv => whnf
  refine .mk _ _ _ (caughtN_no _ _) ?_
  conv => whnf
  rfl
set_option maxHeartbeats 1000000 in
theorem ansN_no {a b : CV} {e : Int} (h : Falls Tryz.prog 128 [a, b] (eC e)) : Ret Tryz.prog 127 [.func (.func 128) [] [a, b]] (.tuple [nilC, I e]) := by
  refine close_val ?_
  refine call_by (hm := true) Tryz.func127 rfl ?_
  conv => whnf
  refine CallW.falls h rfl ?_
  conv => whnf
  refine .mk _ _ _ (caughtN_live (c := e) (c0 := 10) rfl) ?_
  conv => whnf
  rfl
set_option maxHeartbeats 1000000 in
theorem in69_ok {v : PV} {d : Pn} (hv : v.IsL d.pr) (hd : d.Good) (hc : canP d = true)  : Ret Tryz.prog 128 (cs79 v d.pr c69) (nsC (planL d)) := by
  obtain ⟨C, hC⟩ := pile_ex v d
  have hp := pileOf_ret hv hd hC
  have hsu := sure_ok hv hd hC hc
  have hw := plan_ret hv hd hC hc
  generalize nsC (planL d) = W at *
  refine ret_then (hm := true) Tryz.func128 rfl ?_
  conv => whnf
  refine then_seq (hm := true) ?_
  conv => whnf
  refine then_seq (hm := true) ?_
  refine draw_by (hm := true) (by kernel_rfl) (by kernel_rfl) ?_
  conv => whnf
  refine ⟨_, rfl, ?_⟩
  conv => whnf
  refine ⟨_, rfl, ?_⟩
  conv => whnf
  refine .pure _ _ rfl (hp) ?_
  conv => whnf
  refine .pure _ _ rfl (hsu) ?_
  conv => whnf
  refine .pure _ _ rfl (hw) ?_
  conv => whnf
  refine ⟨by kernel_rfl, ?_⟩
  conv => whnf
  refine then_end (hm := true) ?_
  conv => whnf
  exact .val
set_option maxHeartbeats 1000000 in
theorem in69_no {v : PV} {d : Pn} (hv : v.IsL d.pr) (hd : d.Good) (hc : canP d = false)  : Falls Tryz.prog 128 (cs79 v d.pr c69) (eC 10) := by
  obtain ⟨C, hC⟩ := pile_ex v d
  have hp := pileOf_ret hv hd hC
  have hsu := sure_falls hv hd hC hc
  refine close_pan ?_
  refine call_then (hm := true) Tryz.func128 rfl ?_
  conv => whnf
  refine then_seq (hm := true) ?_
  conv => whnf
  refine then_seq (hm := true) ?_
  refine mixed_by (hm := true) (by kernel_rfl) (by kernel_rfl) ?_
  conv => whnf
  refine ⟨_, rfl, ?_⟩
  conv => whnf
  refine ⟨_, rfl, ?_⟩
  conv => whnf
  refine .ret _ _ (hp) rfl ?_
  conv => whnf
  obtain ⟨e1, H1, hc1, rfl, f1⟩ := sure_no hv hd hC hc (TMap.nil)
  refine .heavy _ H1 (.inl hc1) ?_
  conv => whnf
  refine mOps_list (l' := []) (by kernel_rfl) ?_
  conv => whnf
  refine ⟨by kernel_rfl, heaps_nil (by kernel_rfl), ?_⟩
  intro ds
  conv => whnf
  rfl
set_option maxHeartbeats 1000000 in
theorem of69_bad {v : PV} {c : Pr} (hv : v.Is c) (hc : okPr c = false) (s : Int) : Ret Tryz.prog 110 [v.cv c, I s, c69] (.tuple [nilC, I 1]) := by
  have hval := valid_ret hv
  rw [hc] at hval
  refine ret_by (hm := true) Tryz.func110 rfl ?_
  conv => whnf
  refine .ret (hval) rfl ?_
  conv => whnf
  exact .val
set_option maxHeartbeats 1000000 in
theorem of69_out {v : PV} {c : Pr} (hv : v.Is c) (hc : okPr c = true) {s : Int} (hs : setB s c.fl.length = false) : Ret Tryz.prog 110 [v.cv c, I s, c69] (.tuple [nilC, I 2]) := by
  have hval := valid_ret hv
  rw [hc] at hval
  have h10 : c.fl.length ≤ 10 := by unfold okPr at hc; rw [Bool.and_eq_true] at hc; exact okFs_len hc.1
  have hset := isSet_ret s c.fl.length h10
  rw [hs, ← hv.fn] at hset
  refine ret_by (hm := true) Tryz.func110 rfl ?_
  conv => whnf
  refine .ret (hval) rfl ?_
  conv => whnf
  refine .ret (hset) rfl ?_
  conv => whnf
  exact .val
set_option maxHeartbeats 1000000 in
theorem of69_in {v : PV} {c : Pr} (hv : v.Is c) (hc : okPr c = true) {s : Int} (hs : setB s c.fl.length = true) {x : CV} {e : Int} (h : Ret Tryz.prog 127 [.func (.func 128) [] (cs79 v c (c69))] (.tuple [x, I e])) : Ret Tryz.prog 110 [v.cv c, I s, c69] (.tuple [x, I e]) := by
  have hval := valid_ret hv
  rw [hc] at hval
  have h10 : c.fl.length ≤ 10 := by unfold okPr at hc; rw [Bool.and_eq_true] at hc; exact okFs_len hc.1
  have hset := isSet_ret s c.fl.length h10
  rw [hs, ← hv.fn] at hset
  refine ret_by (hm := true) Tryz.func110 rfl ?_
  conv => whnf
  refine .ret (hval) rfl ?_
  conv => whnf
  refine .ret (hset) rfl ?_
  conv => whnf
  refine .snapped 100 [.func (.func 128) [] (cs79 v c (c69))] [1, 0] _ _ rfl h rfl ?_
  conv => whnf
  exact .val
theorem plan_of {v : PV} {c : Pr} {x : CV} {e : Int} (h : Ret Tryz.prog 110 [v.cv c, I 0, c69] (.tuple [x, I e])) : Ret Tryz.prog 68 [v.cv c, c69] (.tuple [x, I e]) := by
  refine ret_by (hm := true) Tryz.func68 rfl ?_
  conv => whnf
  refine .ret (h) rfl ?_
  conv => whnf
  exact .val
theorem planX_of {v : PV} {c : Pr} {x : CV} {e : Int} (h : Ret Tryz.prog 68 [v.cv c, c69] (.tuple [x, I e])) : Ret Tryz.prog 23 [v.cv c] (.tuple [x, I e]) := by
  refine ret_by (hm := true) Tryz.func23 rfl ?_
  conv => whnf
  refine .ret (h) rfl ?_
  conv => whnf
  exact .val
def lOf (d : Pn) : CV := if canP d then nsC (planL d) else nilC
theorem planX_bad {v : PV} {c : Pr} (hv : v.Is c) (hc : okPr c = false) : Ret Tryz.prog 23 [v.cv c] (.tuple [nilC, I 1]) := planX_of (plan_of (of69_bad hv hc 0))
theorem planX_ret {v : PV} {d : Pn} (hv : v.Is d.pr) (hd : d.Good) (hok : okPr d.pr = true) : Ret Tryz.prog 23 [v.cv d.pr] (.tuple [lOf d, I (eOf d)]) := by
  unfold lOf eOf
  cases hc : canP d
  · exact planX_of (plan_of (of69_in hv hok (set0 _) (ansN_no (in69_no hv.toIsL hd hc))))
  · exact planX_of (plan_of (of69_in hv hok (set0 _) (ansN_ok (in69_ok hv.toIsL hd hc))))
end Go.Ag
/- Layer 8: Wait's fleeces. -/
namespace Go.Ag
open Go.Proofs
set_option maxRecDepth 100000

def orF (a : Nat) (l : List Nat) : Nat := l.foldl (fun a b => a ||| b) a
theorem orF_lt {l : List Nat} : ∀ {a : Nat}, a < 1024 → (∀ x ∈ l, x < 1024) → orF a l < 1024 := by
  induction l with
  | nil => intro a h _; exact h
  | cons b l ih => intro a h hl; exact ih (Nat.or_lt_two_pow (n := 10) h (hl b (by simp))) fun x hx => hl x (List.mem_cons_of_mem _ hx)
theorem planR_le (fit : Nat → Bool) : ∀ (k s : Nat), s < 1024 → ∀ x ∈ planR fit k s, Sub x s
  | 0, s, _, x, hx => by cases hx
  | k + 1, s, hs, x, hx => by
    unfold planR at hx
    split at hx
    · cases hx
    · split at hx
      · rename_i y hy
        have hys := (mem_sub hs).1 (List.mem_of_find?_eq_some hy)
        rcases List.mem_cons.1 hx with rfl | hx
        · exact hys
        · have hd : Sub (diffN s y) s := fun i hi => by rw [diffN_bit, Bool.and_eq_true] at hi; exact hi.1
          have := planR_le fit k (diffN s y) (by have := sub_le hd; omega) x hx
          exact fun i hi => hd i (this i hi)
      · cases hx
theorem planL_lt {d : Pn} (hd : d.Good) : ∀ x ∈ planL d, x < 1024 := fun x hx => by
  have p10 := pow10 hd.n10
  have := sub_le (planR_le _ _ _ (by omega) x hx)
  omega
set_option maxHeartbeats 1000000 in
theorem joined_ret (L : List Nat) (hl : ∀ l ∈ L, l < 1024) (hlen : L.length ≤ 1000) : Ret Tryz.prog 112 [nsC L] (I (orF 0 L)) := by
  refine ret_by (hm := false) Tryz.func112 rfl ?_
  conv => whnf
  refine loop_by (I := fun z st => ∃ (q a : Nat) (h : Heap), q ≤ L.length ∧ z = L.length - q ∧ a < 1024 ∧ orF 0 L = orF a (L.drop q) ∧
      Has st 17 [(3, .c (I (a : Nat))), (6, .c (nsC L)), (7, .c (I L.length)), (8, .c (I q))] [] none h) ?_ (k := L.length)
    ⟨0, 0, _, Nat.zero_le _, rfl, by omega, rfl, rfl, ⟨rfl, rfl, rfl, rfl, trivial⟩, rfl, rfl, rfl, rfl⟩
  rintro z st ⟨q, a, h, hq, rfl, ha, hi, hs1⟩
  refine hs1.run (hm := false) ?_
  conv => whnf
  cases hcq : decide ((q : Int) < (L.length : Int))
  case false =>
    have : q = L.length := by simp at hcq; omega
    subst this
    rw [List.drop_length] at hi
    rw [hi]
    conv => whnf
    exact .val
  have hq : q < L.length := by simp at hcq; omega
  obtain ⟨b, hb⟩ := get_some hq
  have hb1 := hl b (List.mem_of_getElem? hb)
  rw [drop_get hb] at hi
  conv => whnf
  refine ⟨⟨by omega, by omega⟩, ?_⟩
  conv => whnf
  refine ⟨_, ns_get hb, ?_⟩
  conv => whnf
  refine ⟨_, or_nat (a := a) (b := b) (by omega) (by omega), ?_⟩
  conv => whnf
  refine ⟨((q + 1 : Nat) : Int), by rw [wrap_eq (by omega) (by omega)]; omega, ?_⟩
  conv => whnf
  exact ⟨L.length - (q + 1), by omega, q + 1, a ||| b, _, by omega, rfl, Nat.or_lt_two_pow (n := 10) ha hb1, hi, rfl, ⟨rfl, rfl, rfl, rfl, trivial⟩, rfl, rfl, rfl, rfl⟩
/-- How many fleeces of a line wait, where these are in bales. -/
def waitN (d : Pn) (b l : Nat) : Nat := popN (diffN (lineN d l) b)
def waitC (d : Pn) (b : Nat) : Nat → List CV
  | 0 => [I 0, I 0, I 0]
  | 1 => [I (waitN d b 0 : Nat), I 0, I 0]
  | 2 => [I (waitN d b 0 : Nat), I (waitN d b 1 : Nat), I 0]
  | _ => [I (waitN d b 0 : Nat), I (waitN d b 1 : Nat), I (waitN d b 2 : Nat)]
theorem line_lt10 {d : Pn} (hd : d.Good) (l : Nat) : lineN d l < 1024 := by
  have h := bitsN_lt (fun i => d.ln i == l) d.n
  rw [show bitsN (fun i => d.ln i == l) d.n = lineN d l from rfl] at h
  have := pow10 hd.n10
  omega
theorem diff_le (s b : Nat) : diffN s b ≤ s := sub_le fun i hi => by rw [diffN_bit, Bool.and_eq_true] at hi; exact hi.1
def waitV (d : Pn) : CV := .agg (waitC d (orF 0 (planL d)) 3)
set_option maxHeartbeats 4000000 in
theorem waiting_ret {v : PV} {d : Pn} (hv : v.IsL d.pr) (hd : d.Good) {C : List CV} (hC : Pile v d C) (hcan : canP d = true) : Ret Tryz.prog 71 [.agg C] (waitV d) := by
  have hCc := hC.ce
  have hp := plan_ret hv hd hC hcan
  have hj := joined_ret (planL d) (planL_lt hd) (by have := planR_len (fitsP d) d.bales (2 ^ d.n - 1); have := hd.b5; unfold planL; omega)
  have hb := orF_lt (a := 0) (by omega) (planL_lt hd)
  unfold waitV
  generalize hbe : orF 0 (planL d) = b at *
  refine ret_then (hm := false) Tryz.func71 rfl ?_
  conv => whnf
  refine then_seq (hm := false) ?_
  conv => whnf
  rw [box_agg (C := C)]; rotate_left; rfl; rfl; exact hCc
  conv => whnf
  refine forceL_intro ?_
  conv => whnf
  generalize hG : TMap.push AB.dead (TMap.push AB.dead TMap.nil _) _ = G
  have Gn : G.n = 2 := by rw [← hG]; rfl
  have G0 : Heap.at G 0 = .blk (C.map .c) := by rw [← hG]; exact (at_push_lt _ _ (by show 0 < 1; omega)).trans (at_push_self _ _)
  have G1 : Heap.at G 1 = .blk ((waitC d b 0).map .c) := by rw [← hG]; exact at_push_self (TMap.push AB.dead TMap.nil _) _
  clear hG
  refine then_seq (hm := false) ?_
  conv => whnf
  refine ⟨_, G0, ?_⟩
  conv => whnf
  refine look_read (hC.rd) ?_
  conv => whnf
  refine .ret (hp) rfl ?_
  conv => whnf
  refine .ret (hj) rfl ?_
  conv => whnf
  refine then_via (hm := false) (fun st => ∃ h : Heap, h.n = 2 ∧ Heap.at h 1 = .blk ((waitC d b 3).map .c) ∧ Has st 23 [(2, .ptr 1 0)] [] none h) ?_ ?_
  rotate_left
  · rintro st ⟨h, hn, h1, hs1⟩
    refine hs1.then ?_
    refine then_end (hm := false) ?_
    conv => whnf
    refine ⟨_, h1, ?_⟩
    conv => whnf
    refine ⟨_, h1, ?_⟩
    conv => whnf
    refine ⟨_, at_set_self _ _ (i := 1) (by omega), ?_⟩
    conv => whnf
    exact .val
  conv => whnf
  refine ⟨_, G0, ?_⟩
  conv => whnf
  refine look_read (hC.rd74) ?_
  conv => whnf
  refine loop_by (I := fun z st => ∃ (q : Nat) (h : Heap), q ≤ 3 ∧ z = 3 - q ∧ h.n = 2 ∧ Heap.at h 1 = .blk ((waitC d b q).map .c) ∧
      Has st 23 [(2, .ptr 1 0), (3, .c (I (b : Nat))), (10, .c (.agg (lcells d))), (11, .c (I q))] [] none h) ?_ (k := 3)
    ⟨0, G, by omega, rfl, Gn, G1, rfl, ⟨rfl, rfl, rfl, rfl, trivial⟩, rfl, rfl, rfl, rfl⟩
  clear G1 G0 Gn G
  rintro z st ⟨q, h, hq, rfl, hn, h1, hs1⟩
  have w0 := line_lt10 hd 0; have w1 := line_lt10 hd 1; have w2 := line_lt10 hd 2
  have d0 := diff_le (lineN d 0) b; have d1 := diff_le (lineN d 1) b; have d2 := diff_le (lineN d 2) b
  obtain rfl | rfl | rfl | rfl : q = 0 ∨ q = 1 ∨ q = 2 ∨ q = 3 := by omega
  · refine hs1.run (hm := false) ?_
    conv => whnf
    refine ⟨_, andNot_nat (a := lineN d 0) (b := b) (by omega) (by omega), ?_⟩
    conv => whnf
    refine .ret (size_ret (n := diffN (lineN d 0) b) (by omega)) rfl ?_
    conv => whnf
    refine ⟨⟨by decide, by omega, by omega⟩, ?_⟩
    conv => whnf
    refine ⟨_, h1, ?_⟩
    conv => whnf
    refine ⟨((1 : Nat) : Int), by rw [wrap_eq (by omega) (by omega)]; omega, ?_⟩
    conv => whnf
    exact ⟨2, by omega, 1, h.set .dead 1 (.blk ((waitC d b 1).map .c)), by omega, rfl, hn, at_set_self _ _ (by omega), rfl, ⟨rfl, rfl, rfl, rfl, trivial⟩, rfl, rfl, rfl, rfl⟩
  · refine hs1.run (hm := false) ?_
    conv => whnf
    refine ⟨_, andNot_nat (a := lineN d 1) (b := b) (by omega) (by omega), ?_⟩
    conv => whnf
    refine .ret (size_ret (n := diffN (lineN d 1) b) (by omega)) rfl ?_
    conv => whnf
    refine ⟨⟨by decide, by omega, by omega⟩, ?_⟩
    conv => whnf
    refine ⟨_, h1, ?_⟩
    conv => whnf
    refine ⟨((2 : Nat) : Int), by rw [wrap_eq (by omega) (by omega)]; omega, ?_⟩
    conv => whnf
    exact ⟨1, by omega, 2, h.set .dead 1 (.blk ((waitC d b 2).map .c)), by omega, rfl, hn, at_set_self _ _ (by omega), rfl, ⟨rfl, rfl, rfl, rfl, trivial⟩, rfl, rfl, rfl, rfl⟩
  · refine hs1.run (hm := false) ?_
    conv => whnf
    refine ⟨_, andNot_nat (a := lineN d 2) (b := b) (by omega) (by omega), ?_⟩
    conv => whnf
    refine .ret (size_ret (n := diffN (lineN d 2) b) (by omega)) rfl ?_
    conv => whnf
    refine ⟨⟨by decide, by omega, by omega⟩, ?_⟩
    conv => whnf
    refine ⟨_, h1, ?_⟩
    conv => whnf
    refine ⟨((3 : Nat) : Int), by rw [wrap_eq (by omega) (by omega)]; omega, ?_⟩
    conv => whnf
    exact ⟨0, by omega, 3, h.set .dead 1 (.blk ((waitC d b 3).map .c)), by omega, rfl, hn, at_set_self _ _ (by omega), rfl, ⟨rfl, rfl, rfl, rfl, trivial⟩, rfl, rfl, rfl, rfl⟩
  · refine hs1.run (hm := false) ?_
    conv => whnf
    exact ⟨h, hn, h1, rfl, ⟨rfl, trivial⟩, rfl, rfl, rfl, rfl⟩
end Go.Ag
/- Layer 8: Wait. -/
namespace Go.Ag
open Go.Proofs
set_option maxRecDepth 100000

def c71 : CV := .func (.func 71) [] []
def zT : CV := .agg [I 0, I 0, I 0]
def waitOf (a b c : Nat) : CV := .agg [I (a : Nat), I (b : Nat), I (c : Nat)]
theorem caughtT_no (id : Nat) (h : Heap) : CallOk Tryz.prog 138 [.ptr id 0] h .no (.ret (.c (.tuple []))) h .no := by
  suffices H : ∃ e h' p', CallOk Tryz.prog 138 [.ptr id 0] h .no e h' p' ∧ (e = .ret (.c (.tuple [])) ∧ h' = h ∧ p' = .no) by
    obtain ⟨e, h', p', h1, rfl, rfl, rfl⟩ := H
    exact h1
  refine call_byP (hm := false) Tryz.func138 rfl ?_
  conv => whnf
  exact ⟨rfl, rfl, rfl⟩
theorem caughtT_live {id : Nat} {h : Heap} {c c0 : Int} (hb : Heap.at h id = .blk [.c (I c0)]) : CallOk Tryz.prog 138 [.ptr id 0] h (.live (errV c)) (.ret (.c (.tuple []))) (h.set .dead id (.blk [.c (I c)])) .taken := by
  suffices H : ∃ e h' p', CallOk Tryz.prog 138 [.ptr id 0] h (.live (errV c)) e h' p' ∧ (e = .ret (.c (.tuple [])) ∧ h' = h.set .dead id (.blk [.c (I c)]) ∧ p' = .taken) by
    obtain ⟨e, h', p', h1, rfl, rfl, rfl⟩ := H
    exact h1
  refine call_byP (hm := false) Tryz.func138 rfl ?_
  conv => whnf
  refine ⟨_, hb, ?_⟩
  conv => whnf
  exact ⟨rfl, rfl, rfl⟩
set_option maxHeartbeats 1000000 in
theorem ansT_ok {a b : CV} {x y z : Nat} (h : Ret Tryz.prog 130 [a, b] (waitOf x y z)) : Ret Tryz.prog 129 [.func (.func 130) [] [a, b]] (.tuple [waitOf x y z, I 0]) := by
  refine close_val ?_
  refine call_by (hm := true) Tryz.func129 rfl ?_
  conv => whnf
  refine .ret (h) rfl ?_
  conv => whnf
  refine .mk _ _ _ (caughtT_no _ _) ?_
  conv => whnf
  rfl
set_option maxHeartbeats 1000000 in
theorem ansT_no {a b : CV} {e : Int} (h : Falls Tryz.prog 130 [a, b] (eC e)) : Ret Tryz.prog 129 [.func (.func 130) [] [a, b]] (.tuple [zT, I e]) := by
  refine close_val ?_
  refine call_by (hm := true) Tryz.func129 rfl ?_
  conv => whnf
  refine CallW.falls h rfl ?_
  conv => whnf
  refine .mk _ _ _ (caughtT_live (c := e) (c0 := 10) rfl) ?_
  conv => whnf
  rfl
set_option maxHeartbeats 1000000 in
theorem in71_ok {v : PV} {d : Pn} (hv : v.IsL d.pr) (hd : d.Good) (hc : canP d = true)  : Ret Tryz.prog 130 (cs79 v d.pr c71) (waitV d) := by
  obtain ⟨C, hC⟩ := pile_ex v d
  have hp := pileOf_ret hv hd hC
  have hsu := sure_ok hv hd hC hc
  have hw := waiting_ret hv hd hC hc
  refine ret_then (hm := true) Tryz.func130 rfl ?_
  conv => whnf
  refine then_seq (hm := true) ?_
  conv => whnf
  refine then_seq (hm := true) ?_
  refine draw_by (hm := true) (by kernel_rfl) (by kernel_rfl) ?_
  conv => whnf
  refine ⟨_, rfl, ?_⟩
  conv => whnf
  refine ⟨_, rfl, ?_⟩
  conv => whnf
  refine .pure _ _ rfl (hp) ?_
  conv => whnf
  refine .pure _ _ rfl (hsu) ?_
  conv => whnf
  refine .pure _ _ rfl (hw) ?_
  conv => whnf
  refine ⟨(show 0 < 1 by decide), ?_⟩
  conv => whnf
  refine ⟨by kernel_rfl, ?_⟩
  conv => whnf
  refine then_end (hm := true) ?_
  conv => whnf
  exact .val
set_option maxHeartbeats 1000000 in
theorem in71_no {v : PV} {d : Pn} (hv : v.IsL d.pr) (hd : d.Good) (hc : canP d = false)  : Falls Tryz.prog 130 (cs79 v d.pr c71) (eC 10) := by
  obtain ⟨C, hC⟩ := pile_ex v d
  have hp := pileOf_ret hv hd hC
  have hsu := sure_falls hv hd hC hc
  refine close_pan ?_
  refine call_then (hm := true) Tryz.func130 rfl ?_
  conv => whnf
  refine then_seq (hm := true) ?_
  conv => whnf
  refine then_seq (hm := true) ?_
  refine mixed_by (hm := true) (by kernel_rfl) (by kernel_rfl) ?_
  conv => whnf
  refine ⟨_, rfl, ?_⟩
  conv => whnf
  refine ⟨_, rfl, ?_⟩
  conv => whnf
  refine .ret _ _ (hp) rfl ?_
  conv => whnf
  obtain ⟨e1, H1, hc1, rfl, f1⟩ := sure_no hv hd hC hc (TMap.push .dead TMap.nil (.blk [.lit (.int .i64 0), .lit (.int .i64 0), .lit (.int .i64 0)]))
  refine .heavy _ H1 (.inl hc1) ?_
  conv => whnf
  refine mOps_list (l' := []) (by kernel_rfl) ?_
  conv => whnf
  refine ⟨by kernel_rfl, heaps_nil (by kernel_rfl), ?_⟩
  intro ds
  conv => whnf
  rfl
set_option maxHeartbeats 1000000 in
theorem of71_bad {v : PV} {c : Pr} (hv : v.Is c) (hc : okPr c = false) (s : Int) : Ret Tryz.prog 111 [v.cv c, I s, c71] (.tuple [zT, I 1]) := by
  have hval := valid_ret hv
  rw [hc] at hval
  refine ret_by (hm := true) Tryz.func111 rfl ?_
  conv => whnf
  refine .ret (hval) rfl ?_
  conv => whnf
  exact .val
set_option maxHeartbeats 1000000 in
theorem of71_out {v : PV} {c : Pr} (hv : v.Is c) (hc : okPr c = true) {s : Int} (hs : setB s c.fl.length = false) : Ret Tryz.prog 111 [v.cv c, I s, c71] (.tuple [zT, I 2]) := by
  have hval := valid_ret hv
  rw [hc] at hval
  have h10 : c.fl.length ≤ 10 := by unfold okPr at hc; rw [Bool.and_eq_true] at hc; exact okFs_len hc.1
  have hset := isSet_ret s c.fl.length h10
  rw [hs, ← hv.fn] at hset
  refine ret_by (hm := true) Tryz.func111 rfl ?_
  conv => whnf
  refine .ret (hval) rfl ?_
  conv => whnf
  refine .ret (hset) rfl ?_
  conv => whnf
  exact .val
set_option maxHeartbeats 1000000 in
theorem of71_in {v : PV} {c : Pr} (hv : v.Is c) (hc : okPr c = true) {s : Int} (hs : setB s c.fl.length = true) {x y z : Nat} {e : Int} (h : Ret Tryz.prog 129 [.func (.func 130) [] (cs79 v c (c71))] (.tuple [waitOf x y z, I e])) : Ret Tryz.prog 111 [v.cv c, I s, c71] (.tuple [waitOf x y z, I e]) := by
  have hval := valid_ret hv
  rw [hc] at hval
  have h10 : c.fl.length ≤ 10 := by unfold okPr at hc; rw [Bool.and_eq_true] at hc; exact okFs_len hc.1
  have hset := isSet_ret s c.fl.length h10
  rw [hs, ← hv.fn] at hset
  refine ret_by (hm := true) Tryz.func111 rfl ?_
  conv => whnf
  refine .ret (hval) rfl ?_
  conv => whnf
  refine .ret (hset) rfl ?_
  conv => whnf
  refine .snapped 100 [.func (.func 130) [] (cs79 v c (c71))] [1, 0] _ _ rfl h rfl ?_
  conv => whnf
  exact .val
theorem wait_of {v : PV} {c : Pr} {x y z : Nat} {e : Int} (h : Ret Tryz.prog 111 [v.cv c, I 0, c71] (.tuple [waitOf x y z, I e])) : Ret Tryz.prog 70 [v.cv c, c71] (.tuple [waitOf x y z, I e]) := by
  refine ret_by (hm := true) Tryz.func70 rfl ?_
  conv => whnf
  refine .ret (h) rfl ?_
  conv => whnf
  exact .val
theorem waitX_of {v : PV} {c : Pr} {x y z : Nat} {e : Int} (h : Ret Tryz.prog 70 [v.cv c, c71] (.tuple [waitOf x y z, I e])) : Ret Tryz.prog 25 [v.cv c] (.tuple [waitOf x y z, I e]) := by
  refine ret_by (hm := true) Tryz.func25 rfl ?_
  conv => whnf
  refine .ret (h) rfl ?_
  conv => whnf
  exact .val
def wtOf (d : Pn) (l : Nat) : Nat := if canP d then waitN d (orF 0 (planL d)) l else 0
theorem waitX_bad {v : PV} {c : Pr} (hv : v.Is c) (hc : okPr c = false) : Ret Tryz.prog 25 [v.cv c] (.tuple [waitOf 0 0 0, I 1]) := waitX_of (wait_of (of71_bad hv hc 0))
theorem waitX_ret {v : PV} {d : Pn} (hv : v.Is d.pr) (hd : d.Good) (hok : okPr d.pr = true) : Ret Tryz.prog 25 [v.cv d.pr] (.tuple [waitOf (wtOf d 0) (wtOf d 1) (wtOf d 2), I (eOf d)]) := by
  unfold wtOf eOf
  cases hc : canP d
  · exact waitX_of (wait_of (of71_in hv hok (set0 _) (ansT_no (in71_no hv.toIsL hd hc))))
  · exact waitX_of (wait_of (of71_in hv hok (set0 _) (ansT_ok (in71_ok hv.toIsL hd hc))))
end Go.Ag
