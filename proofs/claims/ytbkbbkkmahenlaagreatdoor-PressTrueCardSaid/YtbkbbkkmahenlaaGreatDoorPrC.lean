/- All subsets of a set below 1024, one after the other; how many fleeces a set has, up to 511. No conditions. -/
import Derived.Test.YtbkbbkkmahenlaaGreatDoorPrA
import Derived.Test.YtbkbbkkmahenlaaGreatDoorPrB
/- Layer 8: the sets of some of a set, the least one first (no program here). -/
namespace Go.Ag
set_option maxRecDepth 100000

/-- All subsets, in order, of the first k numbers. -/
def sbL (s : Nat) : Nat → List Nat
  | 0 => [0]
  | k + 1 => if s.testBit k then sbL s k ++ (sbL s k).map (2 ^ k + ·) else sbL s k
theorem sb_lt {s : Nat} : ∀ {k x : Nat}, x ∈ sbL s k → x < 2 ^ k
  | 0, x, h => by simp [sbL] at h; omega
  | k + 1, x, h => by
    unfold sbL at h
    have e : 2 ^ (k + 1) = 2 ^ k + 2 ^ k := by rw [Nat.pow_succ]; omega
    split at h
    · rcases List.mem_append.1 h with h | h
      · have := sb_lt h; omega
      · obtain ⟨y, hy, rfl⟩ := List.mem_map.1 h
        have := sb_lt hy; omega
    · have := sb_lt h; omega
theorem mem_sb {s : Nat} : ∀ {k x : Nat}, x ∈ sbL s k ↔ x < 2 ^ k ∧ ∀ i, i < k → x.testBit i = true → s.testBit i = true
  | 0, x => by simp [sbL]; 
  | k + 1, x => by
    have e : 2 ^ (k + 1) = 2 ^ k + 2 ^ k := by rw [Nat.pow_succ]; omega
    have low : ∀ x, x < 2 ^ k → x.testBit k = false := fun x h => Nat.testBit_lt_two_pow h
    unfold sbL
    constructor
    · intro h
      split at h
      · rename_i hk
        rcases List.mem_append.1 h with h | h
        · obtain ⟨h1, h2⟩ := mem_sb.1 h
          refine ⟨by omega, fun i hi hx => ?_⟩
          rcases Nat.lt_or_ge i k with hik | hik
          · exact h2 i hik hx
          · obtain rfl : i = k := by omega
            exact hk
        · obtain ⟨y, hy, rfl⟩ := List.mem_map.1 h
          obtain ⟨h1, h2⟩ := mem_sb.1 hy
          refine ⟨by omega, fun i hi hx => ?_⟩
          rcases Nat.lt_or_ge i k with hik | hik
          · rw [Nat.testBit_two_pow_add_gt hik] at hx
            exact h2 i hik hx
          · obtain rfl : i = k := by omega
            exact hk
      · obtain ⟨h1, h2⟩ := mem_sb.1 h
        refine ⟨by omega, fun i hi hx => ?_⟩
        rcases Nat.lt_or_ge i k with hik | hik
        · exact h2 i hik hx
        · obtain rfl : i = k := by omega
          rw [low x h1] at hx; cases hx
    · rintro ⟨h1, h2⟩
      rcases Nat.lt_or_ge x (2 ^ k) with hx | hx
      · have hm : x ∈ sbL s k := mem_sb.2 ⟨hx, fun i hi => h2 i (by omega)⟩
        split
        · exact List.mem_append_left _ hm
        · exact hm
      · obtain ⟨y, rfl⟩ : ∃ y, x = 2 ^ k + y := ⟨x - 2 ^ k, by omega⟩
        have hb : (2 ^ k + y).testBit k = true := by rw [Nat.testBit_two_pow_add_eq, low y (by omega)]; rfl
        rw [if_pos (h2 k (by omega) hb)]
        refine List.mem_append_right _ (List.mem_map.2 ⟨y, mem_sb.2 ⟨by omega, fun i hi hy => h2 i (by omega) ?_⟩, rfl⟩)
        rw [Nat.testBit_two_pow_add_gt hi]; exact hy
theorem sb_sorted (s : Nat) : ∀ k, (sbL s k).Pairwise (· < ·)
  | 0 => by simp [sbL]
  | k + 1 => by
    unfold sbL
    split
    · refine List.pairwise_append.2 ⟨sb_sorted s k, ?_, fun a ha b hb => ?_⟩
      · rw [List.pairwise_map]
        exact (sb_sorted s k).imp fun h => by omega
      · obtain ⟨y, _, rfl⟩ := List.mem_map.1 hb
        have := sb_lt ha; omega
    · exact sb_sorted s k
/-- The next one, as it is counted. -/
def nxtS (t r : Nat) : Nat := ((t + (2 ^ 64 - r)) % 2 ^ 64) &&& r
def chainB (r : Nat) : List Nat → Bool
  | [] => false
  | [x] => x == r
  | x :: y :: l => (x != r && y == nxtS x r) && chainB r (y :: l)
end Go.Ag
/- Layer 8: how sets are counted on, one by one (numbers from 0 on). -/
namespace Go.Ag
set_option maxRecDepth 1000000
theorem chainT0 : ((List.range 256).all fun n => chainB (0 + n) (sbL (0 + n) 10)) = true := by decide +kernel
end Go.Ag
/- Layer 8: how sets are counted on, one by one (numbers from 256 on). -/
namespace Go.Ag
set_option maxRecDepth 1000000
theorem chainT1 : ((List.range 256).all fun n => chainB (256 + n) (sbL (256 + n) 10)) = true := by decide +kernel
end Go.Ag
/- Layer 8: how sets are counted on, one by one (numbers from 512 on). -/
namespace Go.Ag
set_option maxRecDepth 1000000
theorem chainT2 : ((List.range 256).all fun n => chainB (512 + n) (sbL (512 + n) 10)) = true := by decide +kernel
end Go.Ag
/- Layer 8: how sets are counted on, one by one (numbers from 768 on). -/
namespace Go.Ag
set_option maxRecDepth 1000000
theorem chainT3 : ((List.range 256).all fun n => chainB (768 + n) (sbL (768 + n) 10)) = true := by decide +kernel
end Go.Ag
/- Layer 8: the sets of some of a set, one by one. -/
namespace Go.Ag
open Go.Proofs
set_option maxRecDepth 100000

def subL (r : Nat) : List Nat := sbL r 10
theorem chain_at {b n : Nat} (h : ((List.range 256).all fun n => chainB (b + n) (sbL (b + n) 10)) = true) (h1 : b ≤ n) (h2 : n < b + 256) : chainB n (subL n) = true := by
  have := List.all_eq_true.1 h (n - b) (List.mem_range.2 (by omega))
  rw [show b + (n - b) = n by omega] at this
  exact this
theorem chain_all {r : Nat} (h : r < 1024) : chainB r (subL r) = true := by
  by_cases h0 : r < 256
  · exact chain_at chainT0 (by omega) (by omega)
  by_cases h1 : r < 512
  · exact chain_at chainT1 (by omega) (by omega)
  by_cases h2 : r < 768
  · exact chain_at chainT2 (by omega) (by omega)
  exact chain_at chainT3 (by omega) (by omega)
theorem mem_sub {r x : Nat} (hr : r < 1024) : x ∈ subL r ↔ Sub x r := by
  unfold subL
  rw [mem_sb]
  constructor
  · rintro ⟨h1, h2⟩ i hi
    exact h2 i (bit_lt h1 hi) hi
  · intro h
    exact ⟨h.lt (n := 10) (by omega), fun i _ hi => h i hi⟩
theorem sub_le {r x : Nat} (h : Sub x r) : x ≤ r := by
  have e : x = r &&& x := Nat.eq_of_testBit_eq fun i => by
    rw [Nat.testBit_and]
    cases hx : x.testBit i
    · simp
    · rw [h i hx]; rfl
  rw [e]; exact Nat.and_le_left
theorem sub_head {r : Nat} (hr : r < 1024) : ∃ l, subL r = 0 :: l := by
  have h0 : 0 ∈ subL r := (mem_sub hr).2 fun i hi => by rw [Nat.zero_testBit] at hi; cases hi
  have hs := sb_sorted r 10
  unfold subL at h0 ⊢
  cases hL : sbL r 10 with
  | nil => rw [hL] at h0; cases h0
  | cons a l =>
    rw [hL] at h0 hs
    rcases List.mem_cons.1 h0 with h | h
    · exact ⟨l, by rw [← h]⟩
    · have := (List.pairwise_cons.1 hs).1 0 h; omega
theorem sub_len {r : Nat} : ∀ k, (sbL r k).length ≤ 2 ^ k
  | 0 => by simp [sbL]
  | k + 1 => by
    have := sub_len (r := r) k
    have e : 2 ^ (k + 1) = 2 ^ k + 2 ^ k := by rw [Nat.pow_succ]; omega
    unfold sbL
    split
    · rw [List.length_append, List.length_map]; omega
    · omega
theorem nxt_eq {t r : Nat} (ht : t ≤ r) (hr : r < 1024) : IntKind.i64.wrap ((BitVec.ofInt 64 ((t : Int) - (r : Int)) &&& BitVec.ofInt 64 (r : Int)).toNat : Int) = ((nxtS t r : Nat) : Int) := by
  have e : (BitVec.ofInt 64 ((t : Int) - (r : Int)) &&& BitVec.ofInt 64 (r : Int)).toNat = nxtS t r := by
    rw [BitVec.toNat_and, BitVec.toNat_ofInt, BitVec.toNat_ofInt]
    unfold nxtS
    have h1 : (((t : Int) - r) % ((2 ^ 64 : Nat) : Int)).toNat = (t + (2 ^ 64 - r)) % 2 ^ 64 := by
      have : ((2 ^ 64 : Nat) : Int) = 18446744073709551616 := by decide
      rw [this]
      have : (2 : Nat) ^ 64 = 18446744073709551616 := by decide
      rw [this]
      omega
    have h2 : ((r : Int) % ((2 ^ 64 : Nat) : Int)).toNat = r := by
      have : ((2 ^ 64 : Nat) : Int) = 18446744073709551616 := by decide
      rw [this]; omega
    rw [h1, h2]
  rw [e]
  have : nxtS t r ≤ r := Nat.and_le_right
  exact wrap_nat (by omega)
def chs (l : List Nat) : List (List CV) := l.map fun s => [I (s : Nat)]
def sets0 (r : Nat) : CV := .func (.func 126) [] [.cptr [I (r : Nat)] 0]
theorem setsOf_ret (r : Nat) : Ret Tryz.prog 102 [I r] (sets0 r) := by
  refine ret_by (hm := true) Tryz.func102 rfl ?_
  conv => whnf
  exact ⟨10, [0], rfl⟩
set_option maxHeartbeats 4000000 in
theorem sets_iter {r : Nat} (hr : r < 1024) : IterA Tryz.prog (fun _ => True) (.c (sets0 r)) (chs (subL r)) := by
  have hch := chain_all hr
  have hall : ∀ x ∈ subL r, x ≤ r := fun x hx => sub_le ((mem_sub hr).1 hx)
  have hlen := sub_len (r := r) 10
  rw [show sbL r 10 = subL r from rfl] at hlen
  obtain ⟨l0, hl0⟩ := sub_head hr
  rw [hl0] at hch hall hlen ⊢
  refine ⟨126, [], [.c (.cptr [I (r : Nat)] 0)], fun args => by kernel_rfl, fun id n0 J D X R _ hid h0 hn0 hJ => ?_⟩
  refine call_by (hm := false) Tryz.func126 rfl ?_
  conv => whnf
  refine loop_by (I := fun z s => ∃ (t : Nat) (l : List Nat) (h : Heap), z = (t :: l).length ∧ (∀ x ∈ t :: l, x ≤ r) ∧ chainB r (t :: l) = true ∧ n0 ≤ h.n ∧ J none' (chs (t :: l)) h ∧
    Has s 17 [(0, .yield id), (1, .c (.cptr [I (r : Nat)] 0)), (3, .c (I t))] [] none h) ?_ (k := (0 :: l0).length)
    ⟨0, l0, _, rfl, hall, hch, hn0, hJ, rfl, ⟨rfl, rfl, rfl, trivial⟩, rfl, rfl, rfl, rfl⟩
  rintro z s ⟨t, l, h, rfl, hle, hc, hn, hJ, hs⟩
  refine hs.run (hm := false) ?_
  conv => whnf
  have ht := hle t (by simp)
  have hJ2 : J none' ([I (t : Nat)] :: chs l) h := hJ
  refine .mk ((R.round _ _ _ _ hJ2 hn (fun i hi => hi.elim)).mono ?_ ?_)
  · rintro y h' ⟨hf, hk⟩
    have n' := hf.n
    cases y
    · conv => whnf
      exact ⟨by show n0 ≤ h'.n; omega, .inr hk⟩
    · conv => whnf
      refine ⟨_, rfl, ?_⟩
      conv => whnf
      cases l with
      | nil =>
        have htr : t = r := by simpa [chainB] using hc
        subst htr
        rw [show (((t : Nat) : Int) != ((t : Nat) : Int)) = false by simp]
        conv => whnf
        exact ⟨by show n0 ≤ h'.n; omega, .inl hk⟩
      | cons y l =>
        simp only [chainB, Bool.and_eq_true, bne_iff_ne, ne_eq, beq_iff_eq] at hc
        obtain ⟨⟨hne, hy⟩, hc⟩ := hc
        rw [show (((t : Nat) : Int) != ((r : Nat) : Int)) = true by rw [bne_iff_ne]; omega]
        conv => whnf
        refine ⟨_, rfl, ?_⟩
        conv => whnf
        refine ⟨(t : Int) - (r : Int), by rw [wrap_eq (by omega) (by omega)], ?_⟩
        conv => whnf
        refine ⟨_, rfl, ?_⟩
        conv => whnf
        refine ⟨_, nxt_eq ht hr, ?_⟩
        conv => whnf
        rw [← hy]
        exact ⟨(y :: l).length, by simp, y, l, h', rfl, (fun x hx => hle x (List.mem_cons_of_mem _ hx)), hc, by omega, hk, rfl, ⟨rfl, rfl, rfl, trivial⟩, rfl, rfl, rfl, rfl⟩
  · rintro v' h' ⟨hx, hn', hf⟩
    exact ⟨hn', hx⟩
end Go.Ag
/- Layer 8: how many there are in a set; what can be pressed of what is left (as numbers). -/
namespace Go.Ag
open Go.Proofs
set_option maxRecDepth 100000

/-- How many there are in a set. -/
def popN (n : Nat) : Nat := (List.range 10).countP fun i => n.testBit i
def sizE (n : Nat) : Known := ⟨113, [I n], I (popN n)⟩
/-- How many fleeces are pressed, and into how many bales. -/
structure Pd where
  f : Nat
  b : Nat
  deriving DecidableEq
def Pd.more (p : Pd) (bale : Nat) : Pd := ⟨p.f + popN bale, p.b + 1⟩
def Pd.better (p o : Pd) : Bool := decide (p.f > o.f) || (decide (p.f = o.f) && decide (p.b < o.b))
/-- The first number of a set, as a set. -/
def lowN (s : Nat) : Nat := s &&& (2 ^ 64 - s)
/-- One set more is looked at. -/
def stepR (fit : Nat → Bool) (rec : Nat → Pd) (s nx : Nat) (best : Pd) (x : Nat) : Pd :=
  if fit (nx ||| x) then (if ((rec (diffN s (nx ||| x))).more (nx ||| x)).better best then (rec (diffN s (nx ||| x))).more (nx ||| x) else best) else best
/-- The most that can be pressed of what is left. -/
def mostR (fit : Nat → Bool) : Nat → Nat → Nat → Pd
  | 0, _, _ => ⟨0, 0⟩
  | f + 1, s, k => if s = 0 ∨ k = 0 then ⟨0, 0⟩ else
    (subL (diffN s (lowN s))).foldl (stepR fit (fun t => mostR fit f t (k - 1)) s (lowN s)) (mostR fit f (diffN s (lowN s)) k)
end Go.Ag
/- Layer 8: how many there are in a set, one by one (from 0 on). -/
namespace Go.Ag
open Go.Proofs
set_option maxRecDepth 1000000
theorem sizA0 : ((List.range 64).all fun n => tells cfg0 2000 (sizE (0 + n))) = true := by kernel_rfl
theorem sizB0 : ((List.range 64).all fun n => tells cfg0 2000 (sizE (64 + n))) = true := by kernel_rfl
end Go.Ag
/- Layer 8: how many there are in a set, one by one (from 128 on). -/
namespace Go.Ag
open Go.Proofs
set_option maxRecDepth 1000000
theorem sizA1 : ((List.range 64).all fun n => tells cfg0 2000 (sizE (128 + n))) = true := by kernel_rfl
theorem sizB1 : ((List.range 64).all fun n => tells cfg0 2000 (sizE (192 + n))) = true := by kernel_rfl
end Go.Ag
/- Layer 8: how many there are in a set, one by one (from 256 on). -/
namespace Go.Ag
open Go.Proofs
set_option maxRecDepth 1000000
theorem sizA2 : ((List.range 64).all fun n => tells cfg0 2000 (sizE (256 + n))) = true := by kernel_rfl
theorem sizB2 : ((List.range 64).all fun n => tells cfg0 2000 (sizE (320 + n))) = true := by kernel_rfl
end Go.Ag
/- Layer 8: how many there are in a set, one by one (from 384 on). -/
namespace Go.Ag
open Go.Proofs
set_option maxRecDepth 1000000
theorem sizA3 : ((List.range 64).all fun n => tells cfg0 2000 (sizE (384 + n))) = true := by kernel_rfl
theorem sizB3 : ((List.range 64).all fun n => tells cfg0 2000 (sizE (448 + n))) = true := by kernel_rfl
end Go.Ag
