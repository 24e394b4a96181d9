/- Contracts of functions of layer 5: sets by size, bounds, what is told, what is known. No conditions. -/
import Derived.Test.YtnmiompeofbagaaTyA
/- Layer 5: how many calls a set has. -/
namespace Go.Ag
open Go.Proofs
set_option maxRecDepth 100000

/-- How many there are in a set. -/
def popB (n : Nat) : Nat := (List.range 8).countP fun i => n.testBit i
theorem mix : Try.prog.follows .mixedOrders = true := by kernel_rfl
noncomputable def cfg0 : Cfg := { P := Try.prog, pure := fun _ => true, con := fun _ _ => none }
theorem con0 : ConOk cfg0 := fun f args e h => by cases h
def onesE (n c : Nat) : Known := ⟨77, [.lit (.int .u64 n)], I c⟩
theorem onesA0 : ((List.range 16).all fun n => tells cfg0 2000 (onesE (0 + n) (popB (0 + n)))) = true := by kernel_rfl
theorem onesA1 : ((List.range 16).all fun n => tells cfg0 2000 (onesE (16 + n) (popB (16 + n)))) = true := by kernel_rfl
theorem onesA2 : ((List.range 16).all fun n => tells cfg0 2000 (onesE (32 + n) (popB (32 + n)))) = true := by kernel_rfl
theorem onesA3 : ((List.range 16).all fun n => tells cfg0 2000 (onesE (48 + n) (popB (48 + n)))) = true := by kernel_rfl
theorem onesA4 : ((List.range 16).all fun n => tells cfg0 2000 (onesE (64 + n) (popB (64 + n)))) = true := by kernel_rfl
theorem onesA5 : ((List.range 16).all fun n => tells cfg0 2000 (onesE (80 + n) (popB (80 + n)))) = true := by kernel_rfl
theorem onesA6 : ((List.range 16).all fun n => tells cfg0 2000 (onesE (96 + n) (popB (96 + n)))) = true := by kernel_rfl
theorem onesA7 : ((List.range 16).all fun n => tells cfg0 2000 (onesE (112 + n) (popB (112 + n)))) = true := by kernel_rfl
theorem onesA8 : ((List.range 16).all fun n => tells cfg0 2000 (onesE (128 + n) (popB (128 + n)))) = true := by kernel_rfl
theorem onesA9 : ((List.range 16).all fun n => tells cfg0 2000 (onesE (144 + n) (popB (144 + n)))) = true := by kernel_rfl
theorem onesA10 : ((List.range 16).all fun n => tells cfg0 2000 (onesE (160 + n) (popB (160 + n)))) = true := by kernel_rfl
theorem onesA11 : ((List.range 16).all fun n => tells cfg0 2000 (onesE (176 + n) (popB (176 + n)))) = true := by kernel_rfl
theorem onesA12 : ((List.range 16).all fun n => tells cfg0 2000 (onesE (192 + n) (popB (192 + n)))) = true := by kernel_rfl
theorem onesA13 : ((List.range 16).all fun n => tells cfg0 2000 (onesE (208 + n) (popB (208 + n)))) = true := by kernel_rfl
theorem onesA14 : ((List.range 16).all fun n => tells cfg0 2000 (onesE (224 + n) (popB (224 + n)))) = true := by kernel_rfl
theorem onesA15 : ((List.range 16).all fun n => tells cfg0 2000 (onesE (240 + n) (popB (240 + n)))) = true := by kernel_rfl
theorem ones_at {b n : Nat} (h : ((List.range 16).all fun n => tells cfg0 2000 (onesE (b + n) (popB (b + n)))) = true) (h1 : b ≤ n) (h2 : n < b + 16) : (onesE n (popB n)).ok Try.prog := by
  have := List.all_eq_true.1 h (n - b) (List.mem_range.2 (by omega))
  rw [show b + (n - b) = n by omega] at this
  exact tells_ok (C := cfg0) mix con0 this
theorem ones_ret {n : Nat} (h : n < 256) : Ret Try.prog 77 [.lit (.int .u64 n)] (I (popB n)) := by
  by_cases h0 : n < 16
  · exact ones_at onesA0 (by omega) (by omega)
  by_cases h1 : n < 32
  · exact ones_at onesA1 (by omega) (by omega)
  by_cases h2 : n < 48
  · exact ones_at onesA2 (by omega) (by omega)
  by_cases h3 : n < 64
  · exact ones_at onesA3 (by omega) (by omega)
  by_cases h4 : n < 80
  · exact ones_at onesA4 (by omega) (by omega)
  by_cases h5 : n < 96
  · exact ones_at onesA5 (by omega) (by omega)
  by_cases h6 : n < 112
  · exact ones_at onesA6 (by omega) (by omega)
  by_cases h7 : n < 128
  · exact ones_at onesA7 (by omega) (by omega)
  by_cases h8 : n < 144
  · exact ones_at onesA8 (by omega) (by omega)
  by_cases h9 : n < 160
  · exact ones_at onesA9 (by omega) (by omega)
  by_cases h10 : n < 176
  · exact ones_at onesA10 (by omega) (by omega)
  by_cases h11 : n < 192
  · exact ones_at onesA11 (by omega) (by omega)
  by_cases h12 : n < 208
  · exact ones_at onesA12 (by omega) (by omega)
  by_cases h13 : n < 224
  · exact ones_at onesA13 (by omega) (by omega)
  by_cases h14 : n < 240
  · exact ones_at onesA14 (by omega) (by omega)
  exact ones_at onesA15 (by omega) (by omega)
theorem wrap_u64 {j : Nat} (h : j < 2 ^ 63) : IntKind.u64.wrap ((j : Nat) : Int) = ((j : Nat) : Int) := by
  have e : (2 : Int) ^ IntKind.u64.bits = 18446744073709551616 := by decide
  unfold IntKind.wrap
  rw [e]
  have : IntKind.u64.signed = false := rfl
  simp only [this, Bool.false_and, Bool.false_eq_true, if_false]
  omega
theorem ones_conv {n : Nat} (h : n < 256) : Ret Try.prog 77 [CV.ofVal (Value.int .u64 (IntKind.u64.wrap (n : Int)))] (I (popB n)) := by
  rw [wrap_u64 (by omega)]; exact ones_ret h
theorem many_ret {n : Nat} (h : n < 256) : Ret Try.prog 44 [chV n] (I (popB n)) := by
  refine ret_by (hm := true) Try.func44 rfl ?_
  conv => whnf
  refine .ret (ones_conv h) rfl ?_
  conv => whnf
  exact .val
end Go.Ag
/- Layer 5: sets by their size. -/
namespace Go.Ag
open Go.Proofs
set_option maxRecDepth 100000

def setsOf (m k j : Nat) : List Nat := (List.range' j (2 ^ m - j)).filter fun s => popB s == k
def sizesFrom (m k : Nat) : List Nat := (List.range' k (m + 1 - k)).flatMap fun k => setsOf m k 0
def bySize (m : Nat) : List Nat := sizesFrom m 0
def chs (l : List Nat) : List (List CV) := l.map fun s => [chV s]
theorem chs_nil : chs [] = [] := rfl
def bySizeC (m : Nat) : CV := .func (.func 100) [] [.cptr [I m] 0]
theorem sizes_cons {m k : Nat} (h : k ≤ m) : sizesFrom m k = setsOf m k 0 ++ sizesFrom m (k + 1) := by
  unfold sizesFrom
  rw [show m + 1 - k = (m + 1 - (k + 1)) + 1 by omega, List.range'_succ, List.flatMap_cons]
theorem sizes_nil {m k : Nat} (h : m < k) : sizesFrom m k = [] := by
  unfold sizesFrom
  rw [show m + 1 - k = 0 by omega]; rfl
theorem setsOf_cons {m k j : Nat} (h : j < 2 ^ m) : setsOf m k j = if popB j == k then j :: setsOf m k (j + 1) else setsOf m k (j + 1) := by
  unfold setsOf
  rw [show 2 ^ m - j = (2 ^ m - (j + 1)) + 1 by omega, List.range'_succ, List.filter_cons]
theorem setsOf_nil {m k j : Nat} (h : 2 ^ m ≤ j) : setsOf m k j = [] := by
  unfold setsOf
  rw [show 2 ^ m - j = 0 by omega]; rfl
theorem popB_le (n : Nat) : popB n ≤ 8 := by
  unfold popB
  exact Nat.le_trans List.countP_le_length (by simp)
theorem mem_bySize {m s : Nat} : s ∈ bySize m ↔ s < 2 ^ m ∧ popB s ≤ m := by
  unfold bySize sizesFrom setsOf
  simp only [List.mem_flatMap, List.mem_filter, List.mem_range', beq_iff_eq]
  constructor
  · rintro ⟨k, ⟨i, h1, rfl⟩, ⟨j, h2, rfl⟩, h3⟩; omega
  · rintro ⟨h1, h2⟩; exact ⟨popB s, ⟨popB s, by omega, by omega⟩, ⟨s, by omega, by omega⟩, rfl⟩

theorem bySize_ret (m : Nat) : Ret Try.prog 75 [I m] (bySizeC m) := by
  refine ret_by (hm := true) Try.func75 rfl ?_
  conv => whnf
  exact ⟨10, [0], rfl⟩

set_option maxHeartbeats 2000000 in
theorem bySize_iter {m : Nat} (hm8 : m ≤ 8) : IterA Try.prog (fun _ => True) (.c (bySizeC m)) (chs (bySize m)) := by
  have h32 : 1 ≤ 2 ^ m ∧ 2 ^ m ≤ 256 := ⟨Nat.one_le_two_pow, Nat.pow_le_pow_right (n := 2) (by omega) hm8⟩
  refine ⟨100, [], [.c (.cptr [I m] 0)], fun args => by kernel_rfl, fun id n0 J D X R _ hid h0 hn0 hJ => ?_⟩
  refine call_by (hm := false) Try.func100 rfl ?_
  conv => whnf
  refine ⟨_, rfl, ?_⟩
  conv => whnf
  refine ⟨((m + 1 : Nat) : Int), by rw [wrap_eq (by omega) (by omega)]; omega, ?_⟩
  conv => whnf
  refine loop_by (I := fun q s => ∃ (k : Nat) (h : Heap), k ≤ m + 1 ∧ q = m + 1 - k ∧ n0 ≤ h.n ∧ J none' (chs (sizesFrom m k)) h ∧
    Has s 30 [(0, .yield id), (1, .c (.cptr [I m] 0)), (7, .c (I ((m + 1 : Nat) : Int))), (8, .c (I k))] [] none h) ?_ (k := m + 1)
    ⟨0, _, Nat.zero_le _, rfl, hn0, hJ, rfl, ⟨rfl, rfl, rfl, rfl, trivial⟩, rfl, rfl, rfl, rfl⟩
  rintro q s ⟨k, h, hk, rfl, hn, hJ, hs⟩
  refine hs.run (hm := false) ?_
  conv => whnf
  cases hc : decide ((k : Int) < ((m + 1 : Nat) : Int))
  · have hkm : m < k := by simp at hc; omega
    rw [sizes_nil hkm, chs_nil] at hJ
    conv => whnf
    exact ⟨hn, .inl hJ⟩
  have hkm : k ≤ m := by simp at hc; omega
  rw [sizes_cons hkm] at hJ
  conv => whnf
  refine ⟨_, rfl, ?_⟩
  conv => whnf
  refine ⟨by omega, _, shl_nat 1 m (by omega) (by omega), ?_⟩
  conv => whnf
  rw [Nat.one_mul]
  refine loop_by (I := fun q s => ∃ (j : Nat) (h : Heap), j ≤ 2 ^ m ∧ q = 2 ^ m - j ∧ n0 ≤ h.n ∧ J none' (chs (setsOf m k j ++ sizesFrom m (k + 1))) h ∧
    Has s 30 [(0, .yield id), (1, .c (.cptr [I m] 0)), (3, .c (I k)), (7, .c (I ((m + 1 : Nat) : Int))), (8, .c (I k)), (12, .c (I ((2 ^ m : Nat) : Int))), (13, .c (I j))] [] none h) ?_ (k := 2 ^ m)
    ⟨0, _, Nat.zero_le _, rfl, hn, hJ, rfl, ⟨rfl, rfl, rfl, rfl, rfl, rfl, rfl, trivial⟩, rfl, rfl, rfl, rfl⟩
  rintro q s ⟨j, h1, hj, rfl, hn1, hJ1, hs1⟩
  refine hs1.run (hm := false) ?_
  conv => whnf
  cases hc1 : decide ((j : Int) < ((2 ^ m : Nat) : Int))
  · have hj2 : 2 ^ m ≤ j := by simp at hc1; exact_mod_cast hc1
    rw [setsOf_nil hj2, List.nil_append] at hJ1
    conv => whnf
    refine ⟨((k + 1 : Nat) : Int), by rw [wrap_eq (by omega) (by omega)]; omega, ?_⟩
    conv => whnf
    exact ⟨m + 1 - (k + 1), by omega, k + 1, h1, by omega, rfl, hn1, hJ1, rfl, ⟨rfl, rfl, rfl, rfl, trivial⟩, rfl, rfl, rfl, rfl⟩
  have hj2 : j < 2 ^ m := by have := of_decide_eq_true hc1; exact_mod_cast this
  rw [setsOf_cons hj2] at hJ1
  conv => whnf
  refine ⟨_, at_push_self _ _, ?_⟩
  conv => whnf
  refine ⟨_, at_new _ _ _, ?_⟩
  conv => whnf
  refine .ret (many_ret (n := j) (by omega)) rfl ?_
  conv => whnf
  have f1 : Foot none' h1 ((h1.push .dead (.blk [AV.lit (.int .i64 0)])).set .dead h1.n (.blk [.c (I j)])) := Foot.set ((Foot.refl _ _).push _) (.inr (Nat.le_refl _)) _
  have n2 : ((h1.push .dead (.blk [AV.lit (.int .i64 0)])).set .dead h1.n (.blk [.c (I j)])).n = h1.n + 1 := new_n _ _ _
  cases hp : ((popB j : Int) == (k : Int))
  · have hp' : (popB j == k) = false := by
      have := beq_eq_false_iff_ne.1 hp
      exact beq_eq_false_iff_ne.2 (by omega)
    rw [hp'] at hJ1
    conv => whnf
    refine ⟨((j + 1 : Nat) : Int), by rw [wrap_eq (by omega) (by omega)]; omega, ?_⟩
    conv => whnf
    exact ⟨2 ^ m - (j + 1), by omega, j + 1, _, by omega, rfl, by rw [n2]; omega, R.mono _ _ _ _ (R.stable _ _ _ _ hJ1 hn1 f1) (fun i hi => hi.elim), rfl, ⟨rfl, rfl, rfl, rfl, rfl, rfl, rfl, trivial⟩, rfl, rfl, rfl, rfl⟩
  · have hp' : (popB j == k) = true := by
      have := beq_iff_eq.1 hp
      exact beq_iff_eq.2 (by omega)
    rw [hp'] at hJ1
    have hJ2 : J none' ([chV j] :: chs (setsOf m k (j + 1) ++ sizesFrom m (k + 1))) ((h1.push .dead (.blk [AV.lit (.int .i64 0)])).set .dead h1.n (.blk [.c (I j)])) := R.mono _ _ _ _ (R.stable _ _ _ _ hJ1 hn1 f1) (fun i hi => hi.elim)
    conv => whnf
    refine ⟨_, at_new _ _ _, ?_⟩
    conv => whnf
    refine .mk ((R.round _ _ _ _ hJ2 (by omega) (fun i hi => hi.elim)).mono ?_ ?_)
    · rintro b h' ⟨hf, hk⟩
      have n' := hf.n
      have n3 : n0 ≤ h'.n := by omega
      cases b
      · conv => whnf
        exact ⟨n3, .inr hk⟩
      · conv => whnf
        refine ⟨((j + 1 : Nat) : Int), by rw [wrap_eq (by omega) (by omega)]; omega, ?_⟩
        conv => whnf
        exact ⟨2 ^ m - (j + 1), by omega, j + 1, h', by omega, rfl, n3, hk, rfl, ⟨rfl, rfl, rfl, rfl, rfl, rfl, rfl, trivial⟩, rfl, rfl, rfl, rfl⟩
    · rintro v h' ⟨hx, hn', hf⟩
      exact ⟨hn', hx⟩
end Go.Ag
/- Layer 5: the bounds of a tally, one after the other. -/
namespace Go.Ag
open Go.Proofs
set_option maxRecDepth 100000

def prs (l : List Pr) : List CV := l.map prC
def boundsC (v : TV) (s : Nat) : CV := .func (.func 104) [] [.cptr v.cells 0, .cptr [I s] 0]
theorem bounds_ret (v : TV) (s : Nat) : Ret Try.prog 80 [v.cv, chV s] (boundsC v s) := by
  refine ret_by (hm := true) Try.func80 rfl ?_
  conv => whnf
  exact ⟨20, [0, 1], rfl⟩

def strsFrom (t : Td) (k : Nat) : List Pr := (List.range' k (t.n.toNat + 1 - k)).map (strayedP t)
def twoFrom (t : Td) (k : Nat) : List Pr := (List.range' k (t.n.toNat - k)).flatMap fun k => [portP k 0 t.most, penP k 0 300]
theorem prs_parts (t : Td) (s : Nat) : prsOf t s = strsFrom t 0 ++ (twoFrom t 0 ++ callsP t.n s 0 t.calls) := by
  unfold prsOf strsFrom twoFrom
  rw [List.range_eq_range', List.range_eq_range']; rfl
theorem strs_cons {t : Td} {k : Nat} (h : k ≤ t.n.toNat) : strsFrom t k = strayedP t k :: strsFrom t (k + 1) := by
  unfold strsFrom
  rw [show t.n.toNat + 1 - k = (t.n.toNat + 1 - (k + 1)) + 1 by omega, List.range'_succ, List.map_cons]
theorem strs_nil {t : Td} {k : Nat} (h : t.n.toNat < k) : strsFrom t k = [] := by
  unfold strsFrom
  rw [show t.n.toNat + 1 - k = 0 by omega]; rfl
theorem two_cons {t : Td} {k : Nat} (h : k < t.n.toNat) : twoFrom t k = portP k 0 t.most :: penP k 0 300 :: twoFrom t (k + 1) := by
  unfold twoFrom
  rw [show t.n.toNat - k = (t.n.toNat - (k + 1)) + 1 by omega, List.range'_succ, List.flatMap_cons]; rfl
theorem two_nil {t : Td} {k : Nat} (h : t.n.toNat ≤ k) : twoFrom t k = [] := by
  unfold twoFrom
  rw [show t.n.toNat - k = 0 by omega]; rfl

set_option maxHeartbeats 2000000 in
theorem bounds_iter {v : TV} {t : Td} (hv : v.Is t) (hd : validX t = true) {s : Nat} (hs : s < 2 ^ 62) : IterC Try.prog (boundsC v s) (prs (prsOf t s)) := by
  have h5 := valid_numsX hd
  have e1 := hv.n; have e2 := hv.most; have e3 := hv.cn
  have hN : v.n = ((t.n.toNat : Nat) : Int) := by omega
  refine ⟨104, [], [.cptr v.cells 0, .cptr [I s] 0], rfl, by kernel_rfl, fun id n0 J D X R hid h0 hn0 hJ => ?_⟩
  rw [prs_parts] at hJ
  refine call_by (hm := false) Try.func104 rfl ?_
  conv => whnf
  refine ⟨_, rfl, ?_⟩
  conv => whnf
  refine ⟨((t.n.toNat + 1 : Nat) : Int), by rw [wrap_eq (by omega) (by omega)]; omega, ?_⟩
  conv => whnf
  refine loop_by (I := fun q st => ∃ (k : Nat) (h : Heap), k ≤ t.n.toNat + 1 ∧ q = t.n.toNat + 1 - k ∧ n0 ≤ h.n ∧ J (prs (strsFrom t k ++ (twoFrom t 0 ++ callsP t.n s 0 t.calls))) h ∧
    Has st 69 [(0, .yield id), (1, .c (.cptr v.cells 0)), (2, .c (.cptr [I s] 0)), (11, .c (I ((t.n.toNat + 1 : Nat) : Int))), (12, .c (I k))] [] none h) ?_ (k := t.n.toNat + 1)
    ⟨0, _, Nat.zero_le _, rfl, hn0, hJ, rfl, ⟨rfl, rfl, rfl, rfl, rfl, trivial⟩, rfl, rfl, rfl, rfl⟩
  rintro q st ⟨k, h, hk, rfl, hn, hJ, hs1⟩
  refine hs1.run (hm := false) ?_
  conv => whnf
  cases hc : decide ((k : Int) < ((t.n.toNat + 1 : Nat) : Int))
  case true =>
    have hk : k ≤ t.n.toNat := by have := of_decide_eq_true hc; omega
    rw [strs_cons hk] at hJ
    conv => whnf
    refine ⟨_, rfl, ?_⟩
    conv => whnf
    refine .ret (strayed_ret hv hd (k := k) (by omega)) rfl ?_
    conv => whnf
    refine .mk ((R.round _ _ _ hJ hn).mono ?_ ?_)
    · rintro b h' ⟨hf, hk2⟩
      have n' := hf.n
      have n3 : n0 ≤ h'.n := by omega
      cases b
      · conv => whnf
        exact ⟨n3, .inr hk2⟩
      · conv => whnf
        refine ⟨((k + 1 : Nat) : Int), by rw [wrap_eq (by omega) (by omega)]; omega, ?_⟩
        conv => whnf
        exact ⟨t.n.toNat + 1 - (k + 1), by omega, k + 1, h', by omega, rfl, n3, hk2, rfl, ⟨rfl, rfl, rfl, rfl, rfl, trivial⟩, rfl, rfl, rfl, rfl⟩
    · rintro x h' ⟨hx, hn', hf⟩
      exact ⟨hn', hx⟩
  have hk2 : t.n.toNat < k := by have := of_decide_eq_false hc; omega
  rw [strs_nil hk2, List.nil_append] at hJ
  conv => whnf
  refine ⟨_, rfl, ?_⟩
  conv => whnf
  refine loop_by (I := fun q st => ∃ (k : Nat) (h : Heap), k ≤ t.n.toNat ∧ q = t.n.toNat - k ∧ n0 ≤ h.n ∧ J (prs (twoFrom t k ++ callsP t.n s 0 t.calls)) h ∧
    Has st 69 [(0, .yield id), (1, .c (.cptr v.cells 0)), (2, .c (.cptr [I s] 0)), (23, .c (I v.n)), (24, .c (I k))] [] none h) ?_ (k := t.n.toNat)
    ⟨0, _, Nat.zero_le _, rfl, hn, hJ, rfl, ⟨rfl, rfl, rfl, rfl, rfl, trivial⟩, rfl, rfl, rfl, rfl⟩
  clear hJ hn hs1 hk hc hk2
  rintro q st ⟨k, h, hk, rfl, hn, hJ, hs1⟩
  refine hs1.run (hm := false) ?_
  conv => whnf
  cases hc : decide ((k : Int) < v.n)
  case true =>
    have hk : k < t.n.toNat := by have := of_decide_eq_true hc; omega
    rw [two_cons hk] at hJ
    conv => whnf
    refine .ret (only_ret _) rfl ?_
    conv => whnf
    have f1 : ∀ x y, Foot (fun i => n0 ≤ i) h ((h.push .dead x).set .dead h.n y) := fun x y => Foot.set ((Foot.refl _ _).push _) (.inl hn) _
    refine ⟨_, at_push_self _ _, ?_⟩
    conv => whnf
    refine ⟨_, at_new _ _ _, ?_⟩
    conv => whnf
    refine ⟨_, rfl, ?_⟩
    conv => whnf
    refine .ret (port_ret k 0 v.most (by omega) (by omega)) rfl ?_
    conv => whnf
    have hJ2 := fun x y => R.stable _ _ _ hJ hn (f1 x y)
    have n2 : ∀ x y, n0 ≤ ((h.push .dead x).set .dead h.n y).n := fun x y => by rw [new_n]; omega
    rw [← e2] at hJ2
    refine .mk ((R.round _ _ _ (hJ2 _ _) (n2 _ _)).mono ?_ ?_)
    · rintro b h' ⟨hf, hk2⟩
      have n' := hf.n
      have n3 : n0 ≤ h'.n := Nat.le_trans (n2 _ _) n'
      cases b
      · conv => whnf
        exact ⟨n3, .inr hk2⟩
      · conv => whnf
        refine ⟨_, (hf.keep h.n (by rw [new_n]; omega) (by omega)).trans (at_new _ _ _), ?_⟩
        conv => whnf
        refine .ret (pen_ret k 0 300 (by omega) (by omega)) rfl ?_
        conv => whnf
        refine .mk ((R.round _ _ _ hk2 n3).mono ?_ ?_)
        · rintro b h2 ⟨hf2, hk3⟩
          have n4 : n0 ≤ h2.n := Nat.le_trans n3 hf2.n
          cases b
          · conv => whnf
            exact ⟨n4, .inr hk3⟩
          · conv => whnf
            refine ⟨((k + 1 : Nat) : Int), by rw [wrap_eq (by omega) (by omega)]; omega, ?_⟩
            conv => whnf
            exact ⟨t.n.toNat - (k + 1), by omega, k + 1, h2, by omega, rfl, n4, hk3, rfl, ⟨rfl, rfl, rfl, rfl, rfl, trivial⟩, rfl, rfl, rfl, rfl⟩
        · rintro x h2 ⟨hx, hn', hf2⟩
          exact ⟨hn', hx⟩
    · rintro x h' ⟨hx, hn', hf⟩
      exact ⟨hn', hx⟩
  have hk2 : t.n.toNat = k := by have := of_decide_eq_false hc; omega
  rw [two_nil (by omega), List.nil_append] at hJ
  conv => whnf
  refine ⟨_, rfl, ?_⟩
  conv => whnf
  refine loop_by (I := fun q st => ∃ (k : Nat) (h : Heap), k ≤ t.calls.length ∧ q = t.calls.length - k ∧ n0 ≤ h.n ∧ J (prs (callsP t.n s k (t.calls.drop k))) h ∧
    Has st 69 [(0, .yield id), (1, .c (.cptr v.cells 0)), (2, .c (.cptr [I s] 0)), (50, .c (.sl v.cc v.co v.cn)), (51, .c (I v.cn)), (52, .c (I k))] [] none h) ?_ (k := t.calls.length)
    ⟨0, _, Nat.zero_le _, rfl, hn, hJ, rfl, ⟨rfl, rfl, rfl, rfl, rfl, rfl, trivial⟩, rfl, rfl, rfl, rfl⟩
  clear hJ hn hs1 hk hc hk2
  rintro q st ⟨k, h, hk, rfl, hn, hJ, hs1⟩
  refine hs1.run (hm := false) ?_
  conv => whnf
  cases hc : decide ((k : Int) < (v.cn : Int))
  case false =>
    have hk2 : t.calls.length = k := by have := of_decide_eq_false hc; omega
    rw [List.drop_of_length_le (by omega)] at hJ
    conv => whnf
    exact ⟨hn, .inl hJ⟩
  have hk2 : k < t.calls.length := by have := of_decide_eq_true hc; omega
  obtain ⟨c, hcall⟩ := get_some hk2
  rw [drop_get hcall, callsP] at hJ
  have hok := valid_call hd (List.mem_of_getElem? hcall)
  conv => whnf
  refine ⟨⟨by omega, by omega⟩, ?_⟩
  conv => whnf
  refine ⟨_, hv.call hcall, ?_⟩
  conv => whnf
  refine ⟨_, at_push_self _ _, ?_⟩
  conv => whnf
  refine ⟨_, rfl, ?_⟩
  conv => whnf
  refine .ret (has_ret s k (by omega) (by omega)) rfl ?_
  conv => whnf
  have f1 : ∀ x y, Foot (fun i => n0 ≤ i) h ((h.push .dead x).set .dead h.n y) := fun x y => Foot.set ((Foot.refl _ _).push _) (.inl hn) _
  have hJ2 := fun x y => R.stable _ _ _ hJ hn (f1 x y)
  have n2 : ∀ x y, n0 ≤ ((h.push .dead x).set .dead h.n y).n := fun x y => by rw [new_n]; omega
  cases hb : s.testBit k
  · rw [hb] at hJ2
    conv => whnf
    refine ⟨((k + 1 : Nat) : Int), by rw [wrap_eq (by omega) (by omega)]; omega, ?_⟩
    conv => whnf
    exact ⟨t.calls.length - (k + 1), by omega, k + 1, _, by omega, rfl, n2 _ _, hJ2 _ _, rfl, ⟨rfl, rfl, rfl, rfl, rfl, rfl, trivial⟩, rfl, rfl, rfl, rfl⟩
  rw [hb] at hJ2
  conv => whnf
  refine ⟨_, rfl, ?_⟩
  conv => whnf
  refine ⟨_, at_new _ _ _, ?_⟩
  conv => whnf
  have hcl := called_ret hN ⟨by omega, by omega⟩ (c := c) (by rw [show ((t.n.toNat : Nat) : Int) = t.n by omega]; exact hok)
  rw [show ((t.n.toNat : Nat) : Int) = t.n by omega] at hcl
  refine .ret hcl rfl ?_
  conv => whnf
  refine .mk ((R.round _ _ _ (hJ2 _ _) (n2 _ _)).mono ?_ ?_)
  · rintro b h' ⟨hf, hk3⟩
    have n3 : n0 ≤ h'.n := Nat.le_trans (n2 _ _) hf.n
    cases b
    · conv => whnf
      exact ⟨n3, .inr hk3⟩
    · conv => whnf
      refine ⟨((k + 1 : Nat) : Int), by rw [wrap_eq (by omega) (by omega)]; omega, ?_⟩
      conv => whnf
      exact ⟨t.calls.length - (k + 1), by omega, k + 1, h', by omega, rfl, n3, hk3, rfl, ⟨rfl, rfl, rfl, rfl, rfl, rfl, trivial⟩, rfl, rfl, rfl, rfl⟩
  · rintro x h' ⟨hx, hn', hf⟩
    exact ⟨hn', hx⟩
end Go.Ag
/- Layer 5: whether bounds exclude what is known, or say more. -/
namespace Go.Ag
open Go.Proofs
set_option maxRecDepth 100000

def anyIdx (b0 b1 : Bool) : Int := match b0, b1 with
  | true, _ => 0
  | false, true => 1
  | false, false => -1
theorem index_ret {fn : FuncId} (hfn : fn = 82 ∨ fn = 83) {C : List CV} {p : Pr} {b0 b1 : Bool} (h0 : Ret Try.prog fn [.agg C, bdV p.f p.t p.hi] (B b0)) (h1 : Ret Try.prog fn [.agg C, bdV p.t p.f (-p.lo)] (B b1)) :
    Ret Try.prog 108 [prC p, .func (.func fn) [.agg C] []] (I (anyIdx b0 b1)) := by
  have r0 : readVarC Try.prog 129 (prCells p) (0 + (0 : Int).toNat * 3) = some (bdV p.f p.t p.hi) := rfl
  have r1 : readVarC Try.prog 129 (prCells p) (0 + (1 : Int).toNat * 3) = some (bdV p.t p.f (-p.lo)) := rfl
  rcases hfn with rfl | rfl
  all_goals
    refine ret_by (hm := true) Try.func108 rfl ?_
    conv => whnf
    refine loop_by (I := fun n st => ∃ (q : Nat), q ≤ 2 ∧ n = 2 - q ∧ (1 ≤ q → b0 = false) ∧ (2 ≤ q → b1 = false) ∧ Has st 19 [(0, .c (prC p)), (1, .c (.func (.func _) [.agg C] [])), (6, .c (prC p)), (7, .c (I 2)), (8, .c (I q))] [] none TMap.nil) ?_ (k := 2)
      ⟨0, Nat.zero_le _, rfl, fun h => by omega, fun h => by omega, rfl, ⟨rfl, rfl, rfl, rfl, rfl, trivial⟩, rfl, rfl, rfl, rfl⟩
    rintro n st ⟨q, hq, rfl, k0, k1, hs1⟩
    refine hs1.run (hm := true) ?_
    conv => whnf
    cases hc : decide ((q : Int) < 2)
    case false =>
      have : q = 2 := by have := of_decide_eq_false hc; omega
      subst this
      rw [k0 (by omega), k1 (by omega)]
      conv => whnf
      exact .val
    have hq2 : q = 0 ∨ q = 1 := by have := of_decide_eq_true hc; omega
    rcases hq2 with rfl | rfl
    · conv => whnf
      refine ⟨⟨by omega, by omega⟩, ?_⟩
      conv => whnf
      refine ⟨_, r0, ?_⟩
      conv => whnf
      refine .ret h0 rfl ?_
      conv => whnf
      cases hb : b0
      · conv => whnf
        refine ⟨((1 : Nat) : Int), by rw [wrap_eq (by omega) (by omega)]; omega, ?_⟩
        conv => whnf
        exact ⟨1, by omega, 1, by omega, rfl, fun _ => rfl, fun h => by omega, rfl, ⟨rfl, rfl, rfl, rfl, rfl, trivial⟩, rfl, rfl, rfl, rfl⟩
      · conv => whnf
        exact .val
    · conv => whnf
      refine ⟨⟨by omega, by omega⟩, ?_⟩
      conv => whnf
      refine ⟨_, r1, ?_⟩
      conv => whnf
      refine .ret h1 rfl ?_
      conv => whnf
      cases hb : b1
      · conv => whnf
        refine ⟨((2 : Nat) : Int), by rw [wrap_eq (by omega) (by omega)]; omega, ?_⟩
        conv => whnf
        exact ⟨0, by omega, 2, by omega, rfl, fun _ => k0 (by omega), fun _ => rfl, rfl, ⟨rfl, rfl, rfl, rfl, rfl, trivial⟩, rfl, rfl, rfl, rfl⟩
      · rw [k0 (by omega)]
        conv => whnf
        exact .val
theorem contains_ret {fn : FuncId} (hfn : fn = 82 ∨ fn = 83) {C : List CV} {p : Pr} {b0 b1 : Bool} (h0 : Ret Try.prog fn [.agg C, bdV p.f p.t p.hi] (B b0)) (h1 : Ret Try.prog fn [.agg C, bdV p.t p.f (-p.lo)] (B b1)) :
    Ret Try.prog 81 [prC p, .func (.func fn) [.agg C] []] (B (b0 || b1)) := by
  have hi := index_ret hfn h0 h1
  have e : decide (anyIdx b0 b1 ≥ 0) = (b0 || b1) := by cases b0 <;> cases b1 <;> rfl
  rw [← e]
  refine ret_by (hm := true) Try.func81 rfl ?_
  conv => whnf
  refine .ret hi rfl ?_
  conv => whnf
  exact .val
/-- Two bounds exclude what is known; they say more. -/
def exclB (d : M) (p : Pr) : Bool := decide (d p.t p.f + p.hi < 0) || decide (d p.f p.t + -p.lo < 0)
def missB (d : M) (p : Pr) : Bool := decide (p.hi < d p.f p.t) || decide (-p.lo < d p.t p.f)
theorem excl_ret {d : M} {C : List CV} (hC : C = matC d) (hd : Nar12 d) {p : Pr} (hp : p.good) : Ret Try.prog 81 [prC p, .func (.func 82) [.agg C] []] (B (exclB d p)) := by
  have hle := hp.le; have hf := hp.f; have ht := hp.t; have hlo := hp.lo; have hhi := hp.hi
  exact contains_ret (.inl rfl) (excludes_ret hC hd hf ht (by omega)) (excludes_ret hC hd ht hf (by omega))
theorem miss_ret {d : M} {C : List CV} (hC : C = matC d) {p : Pr} (hp : p.good) : Ret Try.prog 81 [prC p, .func (.func 83) [.agg C] []] (B (missB d p)) :=
  contains_ret (.inr rfl) (misses_ret hC hp.f hp.t) (misses_ret hC hp.t hp.f)
theorem step_eq (d : M) (p : Pr) : stepM d p = if exclB d p then none else if missB d p then some (putM (putM d p.f p.t p.hi) p.t p.f (-p.lo)) else some d := by
  unfold stepM exclB missB
  by_cases h1 : d p.t p.f + p.hi < 0 <;> by_cases h2 : d p.f p.t + -p.lo < 0 <;> by_cases h3 : p.hi < d p.f p.t <;> by_cases h4 : -p.lo < d p.t p.f <;>
    simp only [h1, h2, h3, h4, or_true, true_or, or_false, decide_true, decide_false, Bool.or_true, Bool.true_or, Bool.or_false, if_true, if_false, Bool.false_eq_true]
theorem excl_no {d : M} {p : Pr} (h : exclB d p = false) : 0 ≤ d p.t p.f + p.hi ∧ 0 ≤ d p.f p.t + -p.lo := by
  unfold exclB at h
  simp only [Bool.or_eq_false_iff, decide_eq_false_iff_not] at h
  omega

/-! Nothing is known. -/
theorem unknown_ok : (⟨79, [], matV unkM⟩ : Known).ok Try.prog := tells_ok (C := cfg0) mix con0 (n := 20000) (by kernel_rfl)
theorem unknown_ret : Ret Try.prog 79 [] (matV unkM) := unknown_ok
end Go.Ag
/- Layer 5: what is known is kept in a map. -/
namespace Go.Ag
open Go.Proofs
set_option maxRecDepth 100000

def zC : List CV := List.replicate 144 (I 0) ++ [B false]
theorem zero86 : elemZero Try.prog 86 = some (.c (.agg zC)) := by kernel_rfl
theorem zc86 : zeroCells Try.prog 86 = some (zC.map AV.c) := by kernel_rfl
theorem u86 : Try.prog.underlying 86 = some (.struct #[⟨"differ", 84, 0, false, "", "shearworks/tally", 0⟩, ⟨"can", 4, 144, false, "", "shearworks/tally", 1152⟩]) := by kernel_rfl
theorem mt73 : mapType Try.prog 73 = some (69, 86) := by kernel_rfl
theorem u69 : pureRun Try.prog (underlying 69) = some (.struct #[⟨"calls", 3, 0, false, "", "shearworks/tally", 0⟩]) := by kernel_rfl
theorem st69 : Try.prog.stoodInHeld 69 = false := by kernel_rfl
theorem pl86 : fieldPlaces Try.prog #[⟨"differ", 84, 0, false, "", "shearworks/tally", 0⟩, ⟨"can", 4, 144, false, "", "shearworks/tally", 1152⟩] = some [(0, 144), (144, 1)] := by kernel_rfl

/-- What is told, as cells. -/
def toldC : Option M → List CV
  | some d => matC d ++ [B true]
  | none => zC
theorem zC_len : zC.length = 145 := rfl
theorem toldC_len (o : Option M) : (toldC o).length = 145 := by
  cases o with
  | none => rfl
  | some d => simp [toldC, matC_len]
theorem zC_cellish : (zC.map AV.c).all AV.cellish = true := by rfl
theorem toldC_cellish (o : Option M) : ((toldC o).map AV.c).all AV.cellish = true := by
  cases o with
  | none => exact zC_cellish
  | some d => simp only [toldC, List.map_append, List.all_append, matC_cellish d, Bool.true_and]; rfl
def canB (o : Option M) : Bool := o.isSome
theorem told_can (o : Option M) : (toldC o)[144]? = some (B (canB o)) := by
  cases o with
  | none => rfl
  | some d =>
    simp only [toldC]
    rw [List.getElem?_append_right (by rw [matC_len]; omega), matC_len]; rfl
theorem sl_take {α : Type} {a b : List α} {n : Nat} (h : a.length = n) : sliceOf (a ++ b) 0 n = some a := by
  simp only [sliceOf, List.drop_zero]
  rw [List.take_append_of_le_length (by omega), List.take_of_length_le (by omega), if_pos h]
theorem sl_all {α : Type} {a : List α} {n : Nat} (h : a.length = n) : sliceOf a 0 n = some a := by
  have := sl_take (b := []) h
  rwa [List.append_nil] at this
theorem read86 {C : List CV} (h : C.length = 145) : readVarC Try.prog 86 C 0 = some (.agg C) := by
  show (sliceOf C 0 145).map CV.agg = _
  rw [sl_all h]; rfl
theorem read84t {C b : List CV} (h : C.length = 144) : readVarC Try.prog 84 (C ++ b) 0 = some (.agg C) := by
  show (sliceOf (C ++ b) 0 144).map CV.agg = _
  rw [sl_take h]; rfl
theorem readcan (o : Option M) : readVarC Try.prog 4 (toldC o) 144 = some (B (canB o)) := told_can o
theorem put_head {a b c : List AV} (h : a.length = c.length) : putAt (a ++ b) 0 c = some (c ++ b) := by
  simp only [putAt, Nat.zero_add]
  rw [if_pos (by rw [List.length_append]; omega), ← h]
  simp
theorem sz145 {C : List CV} (h : C.length = 145) (hc : (C.map AV.c).all AV.cellish = true) : (AV.c (.agg C)).cells.length = 145 ∧ (AV.c (.agg C)).cells.all AV.cellish = true := ⟨by show (C.map AV.c).length = 145; rw [List.length_map, h], hc⟩
theorem build86 {C : List CV} (h : C.length = 144) (hc : (C.map AV.c).all AV.cellish = true) (b : Bool) : abuild Try.prog 86 [(0, .c (.agg C)), (1, .lit (.bool b))] = some (.c (.agg (C ++ [B b]))) := by
  unfold abuild
  simp only [zc86, u86, pl86]
  have e1 : (AV.c (.agg C)).cells = C.map AV.c := rfl
  have e2 : (AV.lit (.bool b)).cells = [AV.lit (.bool b)] := rfl
  have z : zC.map AV.c = List.replicate 144 (AV.c (I 0)) ++ [AV.c (B false)] := by
    unfold zC; rw [List.map_append, List.map_replicate]; rfl
  have p1 : putAt (List.replicate 144 (AV.c (I 0)) ++ [AV.c (B false)]) 0 (C.map AV.c) = some (C.map AV.c ++ [AV.c (B false)]) := put_head (by simp [h])
  have p2 : putAt (C.map AV.c ++ [AV.c (B false)]) 144 [AV.lit (.bool b)] = some (C.map AV.c ++ [AV.lit (.bool b)]) := by
    rw [put_one (by simp [h]), List.set_append_right _ _ (by simp [h])]
    simp [h]
  have h144 : (C.map AV.c).length = 144 := by rw [List.length_map, h]
  have c2 : [AV.lit (.bool b)].length = 1 ∧ [AV.lit (.bool b)].all AV.cellish = true := ⟨rfl, rfl⟩
  simp only [afill, List.getElem?_cons_zero, List.getElem?_cons_succ, Option.bind_some, e1, h144, hc, and_self, if_true, z, p1, e2, c2, p2, Option.map_some]
  have : C.map AV.c ++ [AV.lit (.bool b)] = (C ++ [B b]).map AV.c := by rw [List.map_append]; rfl
  rw [this]
  have hall : ∀ l : List CV, allC (l.map AV.c) = some l := by
    intro l
    induction l with
    | nil => rfl
    | cons a l ih => simp [allC, ih]
  unfold mkAgg
  rw [hall]

theorem aop_build86 {o : Oper} {x y : Operand} {σ : Operand → AV} {rd : Nat → AB} {n : Nat} {C : List CV} {b : Bool} (ho : o.op = .build 86 #[(0, x), (1, y)]) (hx : σ x = .c (.agg C)) (hy : σ y = .lit (.bool b)) (h : C.length = 144) (hc : (C.map AV.c).all AV.cellish = true) :
    aop Try.prog o σ rd n = some (.simple { val := .c (.agg (C ++ [B b])) }) := by
  unfold aop
  rw [ho]
  have e : partsOf σ #[(0, x), (1, y)] = [(0, σ x), (1, σ y)] := rfl
  simp only [e, hx, hy, build86 h hc, Option.bind_some, val]
/-! Keys. -/
theorem pureRun_ite {α : Type} (P : Program) (c : Prop) [Decidable c] (x y : Sem α) : pureRun P (if c then x else y) = if c then pureRun P x else pureRun P y := by by_cases h : c <;> simp [h]
theorem u3 : pureRun Try.prog (underlying 3) = some (.int .i64) := by kernel_rfl
theorem eq_int (d : Nat) (a b : Int) : pureRun Try.prog (Op.equalIn (d + 1) 3 (.int .i64 a) (.int .i64 b)) = some (a == b) := by
  unfold Op.equalIn
  rw [pureRun_bind, u3]
  simp
  rfl
theorem pp0 : pureRun Try.prog program = some Try.prog := by kernel_rfl
theorem part3 (v : Array Value) (i : Nat) (x : Value) (h : v[i]? = some x) : pureRun Try.prog (part 3 v i) = some x := by
  have ha : pureRun Try.prog (isAgg 3) = some false := by kernel_rfl
  unfold part
  rw [pureRun_bind, ha]
  simp only [Option.bind_some, Bool.false_eq_true, if_false, h]
  rfl
def kV (s : Nat) : Value := .agg #[.int .i64 s]
theorem kV_inj {k l : Nat} (h : kV k = kV l) : k = l := by simp [kV] at h; omega
theorem kV_val (s : Nat) : (AV.c (chV s)).toVal = some (kV s) := rfl
theorem key_ok (k : Nat) (e : Bool) : pureRun Try.prog (Instr.checkKey e 10000 69 (kV k)) = some () := by kernel_rfl
theorem eq_key' (d : Nat) (k l : Nat) : pureRun Try.prog (Op.equalIn (d + 1 + 1) 69 (kV k) (kV l)) = some (decide (k = l)) := by
  rw [Op.equalIn.eq_def]
  simp only [pureRun_bind, u69, Option.bind_some, pp0, pureRun_ite, st69, Bool.false_eq_true, if_false, kV]
  simp [pureRun_bind, pureRun_ite, part3, eq_int, pureRun_pure]
  by_cases h : k = l
  · simp [pureRun_pure, h]
  · have h' : ¬ (k : Int) = (l : Int) := by omega
    simp [pureRun_pure, h, h']
theorem key_eq (k l : Nat) : pureRun Try.prog (Op.equal 69 (kV k) (kV l)) = some (decide (k = l)) := eq_key' 9998 k l
theorem find_key (k : Nat) : ∀ (ks : List Nat) (i : Nat), ∃ r, pureRun Try.prog (Instr.findAsking 69 (kV k) (ks.map fun l => { key := kV l, val := Go.undef, born := 0 }) i) = some r ∧
    match r with
    | none => k ∉ ks
    | some (j, _) => i ≤ j ∧ ks[j - i]? = some k
  | [], i => ⟨none, rfl, by simp⟩
  | l :: ks, i => by
    simp only [List.map_cons, Instr.findAsking, pureRun_bind, key_eq, Option.bind_some, pureRun_ite]
    by_cases h : k = l
    · subst h
      exact ⟨some (i, Go.undef), by simp [pureRun_pure], Nat.le_refl _, by simp⟩
    · obtain ⟨r, h1, h2⟩ := find_key k ks (i + 1)
      refine ⟨r, by simp [h, h1], ?_⟩
      cases r with
      | none => simp only at h2 ⊢; simp [h, h2]
      | some p =>
        simp only at h2 ⊢
        refine ⟨by omega, ?_⟩
        rw [show p.1 - i = (p.1 - (i + 1)) + 1 by omega, List.getElem?_cons_succ]
        exact h2.2
theorem key_index (k : Nat) (ks : List Nat) (e : Bool) : ∃ r, keyIndex Try.prog 69 (ks.map kV) e (kV k) = some r ∧ match r with
    | none => k ∉ ks
    | some j => ks[j]? = some k := by
  obtain ⟨r, h1, h2⟩ := find_key k ks 0
  have hn : pureRun Try.prog (Instr.findKey 69 (kV k) ((ks.map kV).map fun l => { key := l, val := Go.undef, born := 0 })) = some r := by
    simp only [Instr.findKey, pureRun_bind, u69, Option.bind_some, List.map_map, Function.comp_def]
    cases ks with
    | nil => exact h1
    | cons l ks => exact h1
  refine ⟨r.map (·.1), ?_, ?_⟩
  · simp only [keyIndex, key_ok, hn]
  · cases r with
    | none => exact h2
    | some p => simpa using h2.2

/-- A map that holds what is known with some sets. -/
def KMap (t : Td) (b : AB) : Prop := ∃ (ks : List Nat) (vals : List AV) (borns : List Nat) (clock : Nat), b = .map (ks.map kV) vals borns clock ∧ vals.length = ks.length ∧ ∀ (i : Nat) (k : Nat), ks[i]? = some k → vals[i]? = some (.c (.agg (toldC (lookF t k))))
theorem kMap_eq {t : Td} {b b' : AB} (e : b = b') (h : KMap t b') : KMap t b := e ▸ h
theorem kMap_nil (t : Td) : KMap t (.map [] [] [] 0) := ⟨[], [], [], 0, rfl, rfl, by simp⟩
theorem k_lookup {t : Td} {rd : Nat → AB} {m : Nat} (h : KMap t (rd m)) (s : Nat) :
    ∃ (C : List CV) (ok : Bool), alookup Try.prog rd 73 (.map m) (.c (chV s)) true = some { val := .c (.tuple [.agg C, B ok]), reads := [m] } ∧ C.length = 145 ∧ (C.map AV.c).all AV.cellish = true ∧ (ok = true → C = toldC (lookF t s)) := by
  obtain ⟨ks, vals, borns, clock, hb, hl, hv⟩ := h
  obtain ⟨r, h1, h2⟩ := key_index s ks (ks.map kV).isEmpty
  unfold alookup
  simp only [mt73, kV_val, mapOf, hb, h1]
  cases r with
  | none =>
    refine ⟨zC, false, ?_, zC_len, zC_cellish, fun h => by cases h⟩
    simp only [zero86]; rfl
  | some j =>
    have := hv j s h2
    refine ⟨toldC (lookF t s), true, ?_, toldC_len _, toldC_cellish _, fun _ => rfl⟩
    simp only [this]; rfl
theorem k_update {t : Td} {rd : Nat → AB} {m : Nat} (h : KMap t (rd m)) (s : Nat) {C : List CV} (hC : C = toldC (lookF t s)) : ∃ b, amapUpdate Try.prog rd 73 (.map m) (.c (chV s)) (.c (.agg C)) = some { val := .undef, reads := [m], upds := [(m, b)] } ∧ KMap t b := by
  subst hC
  obtain ⟨ks, vals, borns, clock, hb, hl, hv⟩ := h
  obtain ⟨r, h1, h2⟩ := key_index s ks false
  unfold amapUpdate
  simp only [mt73, kV_val, hb, h1]
  cases r with
  | none =>
    refine ⟨_, rfl, ks ++ [s], vals ++ [.c (.agg (toldC (lookF t s)))], borns ++ [clock], clock + 1, by simp, by simp [hl], ?_⟩
    intro i l hi
    by_cases hlt : i < ks.length
    · rw [List.getElem?_append_left hlt] at hi
      rw [List.getElem?_append_left (by omega)]
      exact hv i l hi
    · rw [List.getElem?_append_right (by omega)] at hi
      rw [List.getElem?_append_right (by omega), hl]
      have : i - ks.length = 0 := by
        rcases Nat.eq_zero_or_pos (i - ks.length) with h | h
        · exact h
        · rw [List.getElem?_eq_none (by simp; omega)] at hi; cases hi
      rw [this] at hi ⊢
      simp at hi ⊢
      rw [hi]
  | some j =>
    have h2 : ks[j]? = some s := h2
    have hjl : j < ks.length := by
      rcases Nat.lt_or_ge j ks.length with h | h
      · exact h
      · rw [List.getElem?_eq_none h] at h2; cases h2
    have hj : (ks.map kV)[j]? = some (kV s) := by simp only [List.getElem?_map]; rw [show ks[j]? = some s from h2]; rfl
    have hs : Instr.sameBits 10000 (kV s) (kV s) = true := by
      have : ∀ n : Int, Instr.sameBits 9999 (.int .i64 n) (.int .i64 n) = true := fun n => by simp [Instr.sameBits]
      unfold kV
      rw [show (10000 : Nat) = 9999 + 1 from rfl]
      simp [Instr.sameBits]
    simp only [hj, hs, if_true]
    refine ⟨_, rfl, ks, vals.set j (.c (.agg (toldC (lookF t s)))), borns, clock, ?_, by simp [hl], ?_⟩
    · congr 1
      apply List.ext_getElem?
      intro i
      rw [List.getElem?_set]
      by_cases hij : j = i
      · subst hij; rw [hj]; simp [hjl]
      · simp [hij]
    · intro i l hi
      rw [List.getElem?_set]
      by_cases hij : j = i
      · subst hij
        rw [h2] at hi
        obtain rfl := Option.some.inj hi
        simp [hl, hjl]
      · simp [hij, hv i l hi]
end Go.Ag
/- Layer 5: what is known with some calls. -/
namespace Go.Ag
open Go.Proofs
set_option maxRecDepth 100000

def knL (v : TV) (m : Nat) : List AV := [.c (I v.n), .c (I v.most), .c (.sl v.sc v.so v.sn), .c (.sl v.cc v.co v.cn), .map m]
def knAV (v : TV) (m : Nat) : AV := .agg (knL v m)
def knBlk (v : TV) (m : Nat) : AB := .blk (knL v m)
theorem fold_app {l : List Pr} {p : Pr} : ∀ {d : M}, foldM d (l ++ [p]) = (foldM d l).bind fun d => stepM d p := by
  induction l with
  | nil =>
    intro d
    simp only [List.nil_append, foldM, Option.bind_some]
    cases stepM d p <;> rfl
  | cons q l ih =>
    intro d
    simp only [List.cons_append, foldM]
    cases stepM d q with
    | none => rfl
    | some d => exact ih
theorem fold_stop {l r : List Pr} : ∀ {d : M}, foldM d l = none → foldM d (l ++ r) = none := by
  induction l with
  | nil => intro d h; cases h
  | cons q l ih =>
    intro d h
    simp only [List.cons_append, foldM] at h ⊢
    cases hs : stepM d q with
    | none => rfl
    | some d => rw [hs] at h; exact ih h

/-- What stays while bounds are put. -/
structure Same (v : TV) (t : Td) (s m : Nat) (Z : List AV) (h h1 : Heap) : Prop where
  kn : Heap.at h1 h.n = knBlk v m
  s : Heap.at h1 (h.n + 1) = .blk [.c (I s)]
  z : Heap.at h1 (h.n + 2) = .blk Z
  foot : Foot (fun i => i = m) h h1
  map : KMap t (Heap.at h1 m)
theorem Same.keep {v : TV} {t : Td} {s m : Nat} {Z : List AV} {h h1 h2 : Heap} (k : Same v t s m Z h h1) (hm : m < h.n) (hn : h.n + 3 ≤ h1.n) (f : Foot (fun i => h.n + 3 ≤ i) h1 h2) : Same v t s m Z h h2 :=
  ⟨(f.keep _ (by omega) (by omega)).trans k.kn, (f.keep _ (by omega) (by omega)).trans k.s, (f.keep _ (by omega) (by omega)).trans k.z, k.foot.trans_up f (by omega), kMap_eq (f.keep _ (by omega) (by omega)) k.map⟩
def tldA (D : List CV) : List AV := D.map .c ++ [.c (B true)]
theorem tldA_eq (D : List CV) : tldA D = (D ++ [B true]).map .c := by unfold tldA; rw [List.map_append]; rfl
theorem read84a {D : List CV} (h : D.length = 144) : readVar Try.prog 84 (tldA D) 0 = some (.c (.agg D)) := by
  rw [tldA_eq]; exact readVar_map (read84t h)
theorem read86a {D : List CV} (h : D.length = 144) : readVar Try.prog 86 (tldA D) 0 = some (.c (.agg (D ++ [B true]))) := by
  rw [tldA_eq]; exact readVar_map (read86 (by rw [List.length_append, h]; rfl))
theorem put84a {D E : List CV} (h : D.length = 144) (h' : E.length = 144) : putAt (tldA D) 0 (E.map .c) = some (tldA E) := put_head (by rw [List.length_map, List.length_map, h, h'])

set_option maxHeartbeats 2000000 in
theorem look_ret {v : TV} {t : Td} (hv : v.Is t) (hd : validX t = true) {s : Nat} (hs : s < 2 ^ 62) {m : Nat} {h : Heap} (hm : m < h.n) (hI : KMap t (Heap.at h m)) :
    ∃ e h', CallOk Try.prog 51 [knAV v m, .c (chV s)] h .no e h' .no ∧ (e = .ret (.c (.agg (toldC (lookF t s)))) ∧ Foot (fun i => i = m) h h' ∧ KMap t (Heap.at h' m)) := by
  refine call_by (hm := false) Try.func51 rfl ?_
  conv => whnf
  generalize hH : TMap.push AB.dead (TMap.push AB.dead (TMap.push AB.dead h _) _) _ = H
  have h0n : H.n = h.n + 3 := by rw [← hH]; rfl
  have b0 : Heap.at H h.n = knBlk v m := by rw [← hH]; exact (at_push_lt _ _ (by simp only [push_n]; omega)).trans ((at_push_lt _ _ (by simp only [push_n]; omega)).trans (at_push_self _ _))
  have b1 : Heap.at H (h.n + 1) = .blk [.c (I s)] := by rw [← hH]; exact (at_push_lt _ _ (by simp only [push_n]; omega)).trans (at_push_self _ _)
  obtain ⟨Z4, b2, hZ4⟩ : ∃ Z : List AV, Heap.at H (h.n + 2) = .blk Z ∧ Z.length = 145 := ⟨_, by rw [← hH]; exact at_push_self _ _, rfl⟩
  have f0 : Foot (fun i => i = m) h H := by rw [← hH]; exact (((Foot.refl _ _).push _).push _).push _
  have i0 : KMap t (Heap.at H m) := kMap_eq (by rw [← hH]; exact (at_push_lt _ _ (by simp only [push_n]; omega)).trans ((at_push_lt _ _ (by simp only [push_n]; omega)).trans (at_push_lt _ _ hm))) hI
  clear hH
  refine ⟨_, b0, ?_⟩
  conv => whnf
  refine ⟨_, b1, ?_⟩
  conv => whnf
  obtain ⟨C, ok, hl, hCl, hCc, hCe⟩ := k_lookup i0 s
  refine ⟨_, hl, ?_⟩
  conv => whnf
  generalize hH1 : TMap.push AB.dead H _ = H1
  have h1n : H1.n = h.n + 4 := by rw [← hH1, push_n]; omega
  have c0 : Heap.at H1 h.n = knBlk v m := by rw [← hH1]; exact (at_push_lt _ _ (by omega)).trans b0
  have c1 : Heap.at H1 (h.n + 1) = .blk [.c (I s)] := by rw [← hH1]; exact (at_push_lt _ _ (by omega)).trans b1
  have c2 : Heap.at H1 (h.n + 2) = .blk Z4 := by rw [← hH1]; exact (at_push_lt _ _ (by omega)).trans b2
  obtain ⟨Z5, c3, hZ5⟩ : ∃ Z : List AV, Heap.at H1 H.n = .blk Z ∧ Z.length = 145 := ⟨_, by rw [← hH1]; exact at_push_self _ _, rfl⟩
  have f1 : Foot (fun i => i = m) h H1 := by rw [← hH1]; exact f0.push _
  have i1 : KMap t (Heap.at H1 m) := kMap_eq (by rw [← hH1]; exact at_push_lt _ _ (by omega)) i0
  clear hH1
  refine ⟨_, c3, ?_⟩
  conv => whnf
  refine store_in (sz145 hCl hCc) (put_all (by show Z5.length = (C.map AV.c).length; rw [hZ5, List.length_map, hCl])) ?_
  conv => whnf
  refine forceL_intro ?_
  conv => whnf
  generalize hH2 : TMap.set AB.dead H1 _ _ = H2
  have h2n : H2.n = h.n + 4 := by rw [← hH2, TMap.set_n]; exact h1n
  have d0 : Heap.at H2 h.n = knBlk v m := by rw [← hH2]; exact (at_set_ne _ _ (by omega)).trans c0
  have d1 : Heap.at H2 (h.n + 1) = .blk [.c (I s)] := by rw [← hH2]; exact (at_set_ne _ _ (by omega)).trans c1
  have d2 : Heap.at H2 (h.n + 2) = .blk Z4 := by rw [← hH2]; exact (at_set_ne _ _ (by omega)).trans c2
  have d3 : Heap.at H2 H.n = .blk (C.map .c) := by rw [← hH2]; exact at_set_self _ _ (by omega)
  have f2 : Foot (fun i => i = m) h H2 := by rw [← hH2]; exact Foot.set f1 (.inr (by omega)) _
  have i2 : KMap t (Heap.at H2 m) := kMap_eq (by rw [← hH2]; exact at_set_ne _ _ (by omega)) i1
  clear hH2
  cases hok : ok
  case true =>
    have hCe := hCe hok
    conv => whnf
    refine ⟨_, d3, ?_⟩
    conv => whnf
    refine look_read (readVar_map (read86 hCl)) ?_
    conv => whnf
    refine ⟨_, d2, ?_⟩
    conv => whnf
    refine store_in (sz145 hCl hCc) (put_all (by show Z4.length = (C.map AV.c).length; rw [hZ4, List.length_map, hCl])) ?_
    conv => whnf
    refine forceL_intro ?_
    conv => whnf
    refine ⟨_, at_set_self _ _ (i := h.n + 2) (by omega), ?_⟩
    conv => whnf
    refine look_read (readVar_map (read86 hCl)) ?_
    conv => whnf
    rw [← hCe]
    exact ⟨rfl, Foot.set (W := fun i => i = m) (k := h.n + 2) f2 (.inr (by omega)) _, kMap_eq (at_set_ne _ _ (i := m) (k := h.n + 2) (by omega)) i2⟩
  clear hCe
  conv => whnf
  obtain ⟨C0, hC0⟩ : ∃ C0, C0 = matC unkM := ⟨_, rfl⟩
  have hu : Ret Try.prog 79 [] (.agg C0) := by rw [hC0]; exact unknown_ret
  have l0 : C0.length = 144 := by rw [hC0, matC_len]
  have ce0 : (C0.map AV.c).all AV.cellish = true := by rw [hC0]; exact matC_cellish _
  refine .ret hu rfl ?_
  conv => whnf
  rw [aop_build86 (C := C0) (b := true)]; rotate_left; rfl; rfl; rfl; exact l0; exact ce0
  conv => whnf
  generalize hH3 : TMap.push AB.dead H2 _ = H3
  have h3n : H3.n = h.n + 5 := by rw [← hH3, push_n]; omega
  have g0 : Heap.at H3 h.n = knBlk v m := by rw [← hH3]; exact (at_push_lt _ _ (by omega)).trans d0
  have g1 : Heap.at H3 (h.n + 1) = .blk [.c (I s)] := by rw [← hH3]; exact (at_push_lt _ _ (by omega)).trans d1
  have g2 : Heap.at H3 (h.n + 2) = .blk Z4 := by rw [← hH3]; exact (at_push_lt _ _ (by omega)).trans d2
  obtain ⟨Z7, g4, hZ7⟩ : ∃ Z : List AV, Heap.at H3 H2.n = .blk Z ∧ Z.length = 145 := ⟨_, by rw [← hH3]; exact at_push_self _ _, rfl⟩
  have f3 : Foot (fun i => i = m) h H3 := by rw [← hH3]; exact f2.push _
  have i3 : KMap t (Heap.at H3 m) := kMap_eq (by rw [← hH3]; exact at_push_lt _ _ (by omega)) i2
  clear hH3
  have l1 : (C0 ++ [B true]).length = 145 := by rw [List.length_append, l0]; rfl
  have ce1 : ((C0 ++ [B true]).map AV.c).all AV.cellish = true := by rw [List.map_append, List.all_append, ce0]; rfl
  refine ⟨_, g4, ?_⟩
  conv => whnf
  refine store_in (sz145 l1 ce1) (put_all (by show Z7.length = ((C0 ++ [B true]).map AV.c).length; rw [hZ7, List.length_map, l1])) ?_
  conv => whnf
  refine forceL_intro ?_
  conv => whnf
  generalize hH4 : TMap.set AB.dead H3 _ _ = H4
  have h4n : H4.n = h.n + 5 := by rw [← hH4, TMap.set_n]; exact h3n
  have k4 : Heap.at H4 H2.n = .blk (tldA C0) := by
    rw [← hH4, tldA_eq]
    exact (at_set_self _ _ (by omega)).trans rfl
  have same4 : Same v t s m Z4 h H4 := by
    rw [← hH4]
    exact ⟨(at_set_ne _ _ (by omega)).trans g0, (at_set_ne _ _ (by omega)).trans g1, (at_set_ne _ _ (by omega)).trans g2, Foot.set f3 (.inr (by omega)) _, kMap_eq (at_set_ne _ _ (by omega)) i3⟩
  clear hH4
  refine ⟨_, same4.kn, ?_⟩
  conv => whnf
  refine ⟨_, same4.s, ?_⟩
  conv => whnf
  refine .ret (bounds_ret v s) rfl ?_
  conv => whnf
  refine range_n (hm := false) (h.n + 5) h4n rfl (bounds_iter hv hd hs)
    (I := fun ys h1 => ∃ done rest d D, ys = prs rest ∧ prsOf t s = done ++ rest ∧ foldM unkM done = some d ∧ Inv12 d ∧ D = matC d ∧ Heap.at h1 H2.n = .blk (tldA D) ∧ Same v t s m Z4 h h1)
    (E := fun e h1 => e = .exit 0 ∧ lookF t s = none ∧ Heap.at h1 H2.n = .blk (zC.map .c) ∧ Same v t s m Z4 h h1) (X := fun _ _ => False) ?_ ?_ ?_ ?_ ?_ ?_ ?_
  · rintro ys h1 h2 ⟨done, rest, d, D, x1, x2, x3, x4, x5, x6, x7⟩ hn ff
    exact ⟨done, rest, d, D, x1, x2, x3, x4, x5, (ff.keep _ (by omega) (by omega)).trans x6, x7.keep hm (by omega) (ff.mono fun i _ hi => by omega)⟩
  · rintro e h1 h2 ⟨x1, x2, x3, x4⟩ hn ff
    exact ⟨x1, x2, (ff.keep _ (by omega) (by omega)).trans x3, x4.keep hm (by omega) (ff.mono fun i _ hi => by omega)⟩
  · exact ⟨[], prsOf t s, unkM, C0, rfl, rfl, rfl, unkM_inv, hC0, k4, same4⟩
  · rintro y ys h1 hn ⟨done, rest, d, D, x1, x2, x3, x4, x5, x6, x7⟩
    cases rest with
    | nil => cases x1
    | cons p rest =>
    obtain ⟨rfl, rfl⟩ := List.cons.inj x1
    have hp : p.good := prs_good hd s p (by rw [x2]; simp)
    have hle := hp.le; have hf := hp.f; have ht := hp.t; have hlo := hp.lo; have hhi := hp.hi
    have lD : D.length = 144 := by rw [x5, matC_len]
    have hstep := fold_app (l := done) (p := p) (d := unkM)
    rw [x3, Option.bind_some, step_eq] at hstep
    conv => whnf
    refine ⟨rfl, fun hb fb hbn => ?_⟩
    have b4 := (fb.keep H2.n (by omega) (by omega)).trans x6
    have b7 : Same v t s m Z4 h hb := x7.keep hm (by omega) (fb.mono fun i _ hi => by omega)
    conv => whnf
    refine ⟨_, b4, ?_⟩
    conv => whnf
    refine look_read (read84a lD) ?_
    conv => whnf
    refine .ret (excl_ret x5 x4.nar hp) rfl ?_
    conv => whnf
    cases hx : exclB d p
    case true =>
      rw [hx] at hstep
      conv => whnf
      refine ⟨_, b4, ?_⟩
      conv => whnf
      refine look_put (vs := zC.map AV.c) (cs := zC.map AV.c) (put_all (by rw [tldA_eq, List.length_map, List.length_map, List.length_append, lD]; rfl)) ?_
      conv => whnf
      exact ⟨Foot.set (W := fun i => i < h.n + 5) (k := H2.n) (Foot.refl _ _) (.inl (by omega)) _, rfl, by unfold lookF; rw [x2, show done ++ p :: rest = (done ++ [p]) ++ rest by simp]; exact fold_stop hstep, at_set_self _ _ (i := H2.n) (by omega), b7.keep hm (by omega) (Foot.set (W := fun i => h.n + 3 ≤ i) (k := H2.n) (Foot.refl _ _) (.inl (by omega)) _)⟩
    rw [hx] at hstep
    obtain ⟨c1, c2⟩ := excl_no hx
    conv => whnf
    refine ⟨_, b4, ?_⟩
    conv => whnf
    refine look_read (read84a lD) ?_
    conv => whnf
    refine .ret (miss_ret x5 hp) rfl ?_
    conv => whnf
    cases hmi : missB d p
    case false =>
      rw [hmi] at hstep
      conv => whnf
      exact ⟨Foot.refl _ _, done ++ [p], rest, d, D, rfl, by rw [x2]; simp, hstep, x4, x5, b4, b7⟩
    rw [hmi] at hstep
    have hput := put_ret x5 x4 hp c1 c2
    have hi1 := put_inv x4 hf ht c1
    have hi2 : Inv12 (putM (putM d p.f p.t p.hi) p.t p.f (-p.lo)) := by
      refine put_inv hi1 ht hf ?_
      have e1 := x4.self p.f hf; have e2 := x4.self p.t ht
      simp only [putM]; omega
    obtain ⟨D2, hD2⟩ : ∃ D2, D2 = matC (putM (putM d p.f p.t p.hi) p.t p.f (-p.lo)) := ⟨_, rfl⟩
    have lD2 : D2.length = 144 := by rw [hD2, matC_len]
    have cD2 : (D2.map AV.c).all AV.cellish = true := by rw [hD2]; exact matC_cellish _
    rw [matV, ← hD2] at hput
    conv => whnf
    refine ⟨_, b4, ?_⟩
    conv => whnf
    refine look_read (read84a lD) ?_
    conv => whnf
    refine .ret hput rfl ?_
    conv => whnf
    refine ⟨_, b4, ?_⟩
    conv => whnf
    refine store_in (sz84 D2 lD2 cD2) (put84a lD lD2) ?_
    conv => whnf
    refine forceL_intro ?_
    conv => whnf
    exact ⟨Foot.set (W := fun i => i < h.n + 5) (k := H2.n) (Foot.refl _ _) (.inl (by omega)) _, done ++ [p], rest, _, D2, rfl, by rw [x2]; simp, hstep, hi2, hD2, at_set_self _ _ (i := H2.n) (by omega), b7.keep hm (by omega) (Foot.set (W := fun i => h.n + 3 ≤ i) (k := H2.n) (Foot.refl _ _) (.inl (by omega)) _)⟩
  · rintro h1 hn hc ⟨done, rest, d, D, x1, x2, x3, x4, x5, x6, x7⟩
    have : rest = [] := by cases rest with | nil => rfl | cons a l => cases x1
    subst this
    rw [List.append_nil] at x2
    have hlook : lookF t s = some d := by unfold lookF; rw [x2]; exact x3
    have lD : D.length = 144 := by rw [x5, matC_len]
    have hres : toldC (lookF t s) = D ++ [B true] := by rw [hlook, x5]; rfl
    have lR : (D ++ [B true]).length = 145 := by rw [List.length_append, lD]; rfl
    have cR : ((D ++ [B true]).map AV.c).all AV.cellish = true := by rw [← hres]; exact toldC_cellish _
    rw [hres]
    conv => whnf
    refine ⟨_, x7.kn, ?_⟩
    conv => whnf
    refine ⟨_, x7.s, ?_⟩
    conv => whnf
    refine ⟨_, x6, ?_⟩
    conv => whnf
    refine look_read (read86a lD) ?_
    conv => whnf
    obtain ⟨b, hu, hb⟩ := k_update x7.map s hres.symm
    refine ⟨_, hu, ?_⟩
    conv => whnf
    generalize hH5 : TMap.app AB.dead _ _ = H5
    have e5 : H5 = h1.set .dead m b := by rw [← hH5]; rfl
    have y0 : Heap.at H5 H2.n = .blk (tldA D) := by rw [e5]; exact (at_set_ne _ _ (by omega)).trans x6
    have y1 : Heap.at H5 (h.n + 2) = .blk Z4 := by rw [e5]; exact (at_set_ne _ _ (by omega)).trans x7.z
    have y2 : KMap t (Heap.at H5 m) := kMap_eq (by rw [e5]; exact at_set_self _ _ (by omega)) hb
    have y3 : Foot (fun i => i = m) h H5 := by rw [e5]; exact Foot.set x7.foot (.inl rfl) _
    have y4 : Heap.at H5 (h.n + 5) = .coll true := by rw [e5]; exact (at_set_ne _ _ (by omega)).trans hc
    have y5 : h.n + 5 < H5.n := by rw [e5, TMap.set_n]; omega
    clear hH5 e5
    refine ⟨_, y0, ?_⟩
    conv => whnf
    refine look_read (read86a lD) ?_
    conv => whnf
    refine ⟨_, y1, ?_⟩
    conv => whnf
    refine store_in (sz145 lR cR) (put_all (by show Z4.length = ((D ++ [B true]).map AV.c).length; rw [hZ4, List.length_map, lR])) ?_
    conv => whnf
    refine forceL_intro ?_
    conv => whnf
    refine ⟨.coll true, (at_set_ne _ _ (i := h.n + 5) (k := h.n + 2) (by omega)).trans y4, ?_⟩
    conv => whnf
    refine ⟨_, (at_set_ne _ _ (i := h.n + 2) (k := h.n + 5) (by omega)).trans (at_set_self _ _ (i := h.n + 2) (by omega)), ?_⟩
    conv => whnf
    refine look_read (readVar_map (read86 lR)) ?_
    conv => whnf
    exact ⟨rfl, Foot.set (W := fun i => i = m) (k := h.n + 5) (Foot.set (W := fun i => i = m) (k := h.n + 2) y3 (.inr (by omega)) _) (.inr (by omega)) _, kMap_eq ((at_set_ne _ _ (i := m) (k := h.n + 5) (by omega)).trans (at_set_ne _ _ (i := m) (k := h.n + 2) (by omega))) y2⟩
  · rintro e h1 hn hc ⟨rfl, x2, x3, x4⟩ _
    obtain ⟨R, hR⟩ : ∃ R, R = zC := ⟨_, rfl⟩
    have hres : toldC (lookF t s) = R := by rw [x2, hR]; rfl
    have lR : R.length = 145 := by rw [hR]; rfl
    have cR : (R.map AV.c).all AV.cellish = true := by rw [hR]; exact zC_cellish
    rw [← hR] at x3
    rw [hres]
    conv => whnf
    refine ⟨_, x4.kn, ?_⟩
    conv => whnf
    refine ⟨_, x4.s, ?_⟩
    conv => whnf
    refine ⟨_, x3, ?_⟩
    conv => whnf
    refine look_read (readVar_map (read86 lR)) ?_
    conv => whnf
    obtain ⟨b, hu, hb⟩ := k_update x4.map s hres.symm
    refine ⟨_, hu, ?_⟩
    conv => whnf
    generalize hH5 : TMap.app AB.dead _ _ = H5
    have e5 : H5 = h1.set .dead m b := by rw [← hH5]; rfl
    have y0 : Heap.at H5 H2.n = .blk (R.map .c) := by rw [e5]; exact (at_set_ne _ _ (by omega)).trans x3
    have y1 : Heap.at H5 (h.n + 2) = .blk Z4 := by rw [e5]; exact (at_set_ne _ _ (by omega)).trans x4.z
    have y2 : KMap t (Heap.at H5 m) := kMap_eq (by rw [e5]; exact at_set_self _ _ (by omega)) hb
    have y3 : Foot (fun i => i = m) h H5 := by rw [e5]; exact Foot.set x4.foot (.inl rfl) _
    have y4 : Heap.at H5 (h.n + 5) = .coll true := by rw [e5]; exact (at_set_ne _ _ (by omega)).trans hc
    have y5 : h.n + 5 < H5.n := by rw [e5, TMap.set_n]; omega
    clear hH5 e5
    refine ⟨_, y0, ?_⟩
    conv => whnf
    refine look_read (readVar_map (read86 lR)) ?_
    conv => whnf
    refine ⟨_, y1, ?_⟩
    conv => whnf
    refine store_in (sz145 lR cR) (put_all (by show Z4.length = (R.map AV.c).length; rw [hZ4, List.length_map, lR])) ?_
    conv => whnf
    refine forceL_intro ?_
    conv => whnf
    refine ⟨.coll true, (at_set_ne _ _ (i := h.n + 5) (k := h.n + 2) (by omega)).trans y4, ?_⟩
    conv => whnf
    refine ⟨_, (at_set_ne _ _ (i := h.n + 2) (k := h.n + 5) (by omega)).trans (at_set_self _ _ (i := h.n + 2) (by omega)), ?_⟩
    conv => whnf
    refine look_read (readVar_map (read86 lR)) ?_
    conv => whnf
    exact ⟨rfl, Foot.set (W := fun i => i = m) (k := h.n + 5) (Foot.set (W := fun i => i = m) (k := h.n + 2) y3 (.inr (by omega)) _) (.inr (by omega)) _, kMap_eq ((at_set_ne _ _ (i := m) (k := h.n + 5) (by omega)).trans (at_set_ne _ _ (i := m) (k := h.n + 2) (by omega))) y2⟩
  · rintro x h1 _ _ hx
    exact hx.elim
end Go.Ag
/- Layer 5: whether there is a truth without some calls. -/
namespace Go.Ag
open Go.Proofs
set_option maxRecDepth 100000

theorem know_ret (v : TV) (t : Td) (h : Heap) : ∃ e h', CallOk Try.prog 42 [.c v.cv] h .no e h' .no ∧ ∃ m, e = .ret (knAV v m) ∧ h.n ≤ m ∧ m < h'.n ∧ KMap t (Heap.at h' m) ∧ Foot none' h h' := by
  refine call_by (hm := false) Try.func42 rfl ?_
  conv => whnf
  refine ⟨v.blk, (at_push_lt _ _ (by rw [push_n]; omega)).trans (at_push_self _ _), ?_⟩
  conv => whnf
  refine ⟨_, (at_push_lt _ _ (i := h.n + 1) (by simp only [push_n]; omega)).trans (at_push_self _ _), ?_⟩
  conv => whnf
  refine ⟨_, at_set_self _ _ (i := h.n + 1) (by simp only [push_n]; omega), ?_⟩
  conv => whnf
  exact ⟨h.n + 2, rfl, by omega, by show h.n + 2 < _; rw [TMap.set_n]; simp only [push_n]; omega, kMap_eq ((at_set_ne _ _ (i := h.n + 2) (k := h.n + 1) (by omega)).trans (at_push_self _ _)) (kMap_nil t), Foot.set (W := none') (k := h.n + 1) (((Foot.refl _ _).push _).push _ |>.push _) (.inr (by omega)) _⟩
/-- The set of all calls. -/
def allN (t : Td) : Nat := 2 ^ t.calls.length - 1
theorem all_ret {v : TV} {t : Td} (hv : v.Is t) (hd : validX t = true) (m : Nat) (h : Heap) : ∃ e h', CallOk Try.prog 52 [knAV v m] h .no e h' .no ∧ (e = .ret (.c (chV (allN t))) ∧ Foot none' h h') := by
  have h5 := valid_numsX hd
  have e1 := hv.cn
  have h32 : 1 ≤ 2 ^ t.calls.length ∧ 2 ^ t.calls.length ≤ 512 := ⟨Nat.one_le_two_pow, Nat.pow_le_pow_right (n := 2) (by omega) h5.2.2.2.2.2⟩
  refine call_by (hm := false) Try.func52 rfl ?_
  conv => whnf
  refine ⟨knBlk v m, (at_push_lt _ _ (by rw [push_n]; omega)).trans (at_push_self _ _), ?_⟩
  conv => whnf
  refine ⟨by omega, _, shl_nat 1 v.cn (by omega) (by rw [e1]; omega), ?_⟩
  conv => whnf
  refine ⟨((allN t : Nat) : Int), by rw [wrap_eq (by rw [e1]; omega) (by rw [e1]; omega), e1]; unfold allN; omega, ?_⟩
  conv => whnf
  refine ⟨_, at_push_self _ _, ?_⟩
  conv => whnf
  refine ⟨_, at_set_self _ _ (i := h.n + 1) (by simp only [push_n]; omega), ?_⟩
  conv => whnf
  exact ⟨rfl, Foot.set (W := none') (k := h.n + 1) (((Foot.refl _ _).push _).push _) (.inr (by omega)) _⟩
theorem close_any {f : FuncId} {args : List CV} {e : AEnd} (hv : ∃ c, e.val = .c c ∧ e.setVal (.c c) = e) (H : ∃ e' h', CallOk Try.prog f (args.map .c) TMap.nil .no e' h' .no ∧ e' = e) : CallOk Try.prog f (args.map .c) TMap.nil .no e TMap.nil .no := by
  obtain ⟨e', h', hc, rfl⟩ := H
  obtain ⟨c, h1, h2⟩ := hv
  have := callOk_close hc (fuel := 1) (r := (c, [])) (by rw [h1]; rfl)
  rw [h2] at this
  exact this
def errV (e : Int) : AV := .c (.iface 28 (I e))
/-- Differences, or that there is no truth. -/
def sureEnd : Option M → AEnd
  | some d => .ret (.c (matV d))
  | none => .panic (errV 10)
theorem sureEnd_c (o : Option M) : ∃ c, (sureEnd o).val = .c c ∧ (sureEnd o).setVal (.c c) = sureEnd o := by
  cases o with
  | none => exact ⟨_, rfl, rfl⟩
  | some d => exact ⟨_, rfl, rfl⟩
theorem sure_ret (o : Option M) : CallOk Try.prog 90 ([.agg (toldC o)].map .c) TMap.nil .no (sureEnd o) TMap.nil .no := by
  refine close_any (sureEnd_c o) ?_
  obtain ⟨C, hC⟩ : ∃ C, C = toldC o := ⟨_, rfl⟩
  have lC : C.length = 145 := by rw [hC, toldC_len]
  have cC : (C.map AV.c).all AV.cellish = true := by rw [hC]; exact toldC_cellish o
  have r4 := readcan o
  rw [← hC] at r4 ⊢
  refine call_by (hm := false) Try.func90 rfl ?_
  conv => whnf
  rw [box_agg (C := C)]; rotate_left; rfl; rfl; exact cC
  conv => whnf
  refine forceL_intro ?_
  conv => whnf
  refine ⟨.blk (C.map .c), rfl, ?_⟩
  conv => whnf
  refine look_read (readVar_map r4) ?_
  conv => whnf
  cases o with
  | none =>
    conv => whnf
    rfl
  | some d =>
    obtain ⟨D, hD⟩ : ∃ D, D = matC d := ⟨_, rfl⟩
    have lD : D.length = 144 := by rw [hD, matC_len]
    have cD : (D.map AV.c).all AV.cellish = true := by rw [hD]; exact matC_cellish _
    have hr : readVarC Try.prog 84 C 0 = some (.agg D) := by
      rw [hC, toldC, ← hD]; exact read84t lD
    rw [sureEnd, matV, ← hD]
    conv => whnf
    refine ⟨.blk (C.map .c), rfl, ?_⟩
    conv => whnf
    refine look_read (readVar_map hr) ?_
    conv => whnf
    refine ⟨_, rfl, ?_⟩
    conv => whnf
    refine store_in (sz84 D lD cD) (put_all (vs := D.map AV.c) (by rw [List.length_map, lD]; rfl)) ?_
    conv => whnf
    refine forceL_intro ?_
    conv => whnf
    refine ⟨.blk (D.map .c), rfl, ?_⟩
    conv => whnf
    refine look_read (readVar_map (read84 lD)) ?_
    conv => whnf
    rfl
end Go.Ag
/- Layer 5: sets without which there is a truth. -/
namespace Go.Ag
open Go.Proofs
set_option maxRecDepth 100000

def canL (t : Td) (left : Nat) : Bool := canB (lookF t (diffN (allN t) left))
theorem allN_lt {t : Td} (hd : validT t = true) : allN t < 256 := by
  have h5 := valid_nums hd
  have h32 : 1 ≤ 2 ^ t.calls.length ∧ 2 ^ t.calls.length ≤ 256 := ⟨Nat.one_le_two_pow, Nat.pow_le_pow_right (n := 2) (by omega) h5.2.2.2.2.2⟩
  unfold allN; omega
theorem pow62 {n : Nat} (h : n < 256) : n < 2 ^ 62 ∧ n < 2 ^ 63 := by omega
theorem fd86 : fieldOf Try.prog 86 1 = some ⟨"can", 4, 144, false, "", "shearworks/tally", 1152⟩ := by kernel_rfl
theorem aop_can {o : Oper} {x : Operand} {σ : Operand → AV} {rd : Nat → AB} {n : Nat} {r : Option M} (ho : o.op = .field 86 x 1) (hx : σ x = .c (.agg (toldC r))) : aop Try.prog o σ rd n = some (.simple { val := .c (B (canB r)) }) := by
  unfold aop
  rw [ho]
  simp only [hx, afield, fd86, readVar_map (readcan r), Option.bind_some, val]
theorem possible_ret {v : TV} {t : Td} (hv : v.Is t) (hd : validT t = true) {s : Nat} (hs : s < 256) {m : Nat} {h : Heap} (hm : m < h.n) (hI : KMap t (Heap.at h m)) :
    ∃ e h', CallOk Try.prog 76 [knAV v m, .c (chV s)] h .no e h' .no ∧ (e = .ret (.c (B (canL t s))) ∧ Foot (fun i => i = m) h h' ∧ KMap t (Heap.at h' m)) := by
  have ha := allN_lt hd
  have hdl : diffN (allN t) s < 256 := diffN_lt (n := 8) ha
  refine call_by (hm := false) Try.func76 rfl ?_
  conv => whnf
  generalize hH : TMap.push AB.dead (TMap.push AB.dead h _) _ = H
  have h0n : H.n = h.n + 2 := by rw [← hH]; rfl
  have b0 : Heap.at H h.n = knBlk v m := by rw [← hH]; exact (at_push_lt _ _ (by simp only [push_n]; omega)).trans (at_push_self _ _)
  have b1 : Heap.at H (h.n + 1) = .blk [.c (I s)] := by rw [← hH]; exact at_push_self _ _
  have f0 : Foot (fun i => i = m) h H := by rw [← hH]; exact ((Foot.refl _ _).push _).push _
  have i0 : KMap t (Heap.at H m) := kMap_eq (by rw [← hH]; exact (at_push_lt _ _ (by simp only [push_n]; omega)).trans (at_push_lt _ _ hm)) hI
  clear hH
  refine mixed_by (hm := false) (by kernel_rfl) (by kernel_rfl) ?_
  conv => whnf
  refine ⟨_, b0, ?_⟩
  conv => whnf
  refine ⟨_, b0, ?_⟩
  conv => whnf
  obtain ⟨e1, h1, hc1, rfl, f1⟩ := all_ret hv (validT_X hd) m H
  refine .heavy _ h1 (.inl hc1) ?_
  conv => whnf
  have hn1 := f1.n
  refine ⟨_, (f1.keep (h.n + 1) (by omega) (fun x => x)).trans b1, ?_⟩
  conv => whnf
  refine .ret _ _ (without_ret (allN t) s (pow62 ha).2 (pow62 hs).2) rfl ?_
  conv => whnf
  obtain ⟨e2, h2, hc2, rfl, f2, i2⟩ := look_ret hv (validT_X hd) (s := diffN (allN t) s) (pow62 hdl).1 (m := m) (h := h1) (by omega) (kMap_eq (f1.keep m (by omega) (fun x => x)) i0)
  refine .heavy _ h2 (.inl hc2) ?_
  conv => whnf
  rw [aop_can (r := lookF t (diffN (allN t) s))]; rotate_left; rfl; rfl
  conv => whnf
  refine ⟨by kernel_rfl, ?_, ?_⟩
  · exact heaps_eq (l' := [(h.n, H, h1), (h.n + 1, H, h1)]) (by kernel_rfl) (heaps_cons (f1.keep _ (by omega) (fun x => x)) (heaps_cons (f1.keep _ (by omega) (fun x => x)) (by simp [HeapsOk])))
  conv => whnf
  exact ⟨rfl, (f0.trans (f1.mono fun i _ hi => hi.elim)).trans f2, i2⟩

theorem aop_can' {o : Oper} {x : Operand} {σ : Operand → AV} {rd : Nat → AB} {n : Nat} {C : List CV} {r : Option M} (hC : C = toldC r) (ho : o.op = .field 86 x 1) (hx : σ x = .c (.agg C)) : aop Try.prog o σ rd n = some (.simple { val := .c (B (canB r)) }) := by
  subst hC; exact aop_can ho hx
/-- Do these calls clash? -/
theorem suits_clash {v : TV} {t : Td} (hv : v.Is t) (hd : validT t = true) {s : Nat} (hs : s < 256) {m a : Nat} {h : Heap} (hm : m < h.n) (ha : Heap.at h a = knBlk v m) (han : a < h.n) (hI : KMap t (Heap.at h m)) :
    ∃ e h', CallOk Try.prog 85 [.c (chV s), .ptr a 0] h .no e h' .no ∧ (e = .ret (.c (B (!canB (lookF t s)))) ∧ Foot (fun i => i = m) h h' ∧ KMap t (Heap.at h' m)) := by
  refine call_by (hm := false) Try.func85 rfl ?_
  conv => whnf
  refine ⟨_, (at_push_lt _ _ han).trans ha, ?_⟩
  conv => whnf
  refine ⟨_, at_push_self _ _, ?_⟩
  conv => whnf
  have f0 : ∀ x, Foot (fun i => i = m) h (h.push .dead x) := fun x => (Foot.refl _ _).push _
  have i0 : ∀ x, KMap t (Heap.at (h.push .dead x) m) := fun x => kMap_eq (at_push_lt _ _ hm) hI
  obtain ⟨e2, h2, hc2, rfl, f2, i2⟩ := look_ret hv (validT_X hd) (s := s) (pow62 hs).1 (m := m) (h := h.push .dead (.blk [.c (I s)])) (by rw [push_n]; omega) (i0 _)
  refine .inl _ h2 .no hc2 ?_
  conv => whnf
  rw [aop_can (r := lookF t s)]; rotate_left; rfl; rfl
  cases hb : canB (lookF t s)
  · conv => whnf
    exact ⟨rfl, (f0 _).trans f2, i2⟩
  · conv => whnf
    exact ⟨rfl, (f0 _).trans f2, i2⟩
end Go.Ag
