/- Contracts of functions of layer 2: what is valid, the flow, its cuts. No conditions. -/
import Derived.Test.YthoappjepbaocaaAgE
import Derived.Test.YthoappjepbaocaaProg
/- Layer 2: small functions; sheep as data. -/
namespace Go.Ag
open Go.Proofs
set_option maxRecDepth 100000

theorem in_ret (n lo hi : Int) : Ret Try.prog 72 [I n, I lo, I hi] (B (inB n lo hi)) := by
  refine ret_by (hm := true) Try.func72 rfl ?_
  conv => whnf
  unfold inB
  cases h : decide (lo ≤ n)
  · conv => whnf
    exact .val
  · conv => whnf
    exact .val
theorem within_ret (n lo hi : Int) : Ret Try.prog 75 [I n, I lo, I hi] (B (inB n lo hi)) := by
  refine ret_by (hm := true) Try.func75 rfl ?_
  conv => whnf
  unfold inB
  cases h : decide (lo ≤ n)
  · conv => whnf
    exact .val
  · conv => whnf
    exact .val

def spanB (a b high : Int) : Bool := decide (0 ≤ a) && decide (a ≤ b) && decide (b ≤ high)
theorem span_ret (a b high : Int) : Ret Try.prog 73 [.agg [I a, I b], I high] (B (spanB a b high)) := by
  refine ret_by (hm := true) Try.func73 rfl ?_
  conv => whnf
  unfold spanB
  cases h1 : decide (0 ≤ a)
  · conv => whnf
    simp only [Bool.false_and]
    exact .val
  conv => whnf
  cases h2 : decide (a ≤ b)
  · conv => whnf
    simp only [Bool.false_and, Bool.and_false]
    exact .val
  conv => whnf
  simp only [Bool.true_and]
  exact .val
theorem spanWithin_ret (a b high : Int) : Ret Try.prog 95 [.agg [I a, I b], I 0, I high] (B (spanB a b high)) := by
  refine ret_by (hm := true) Try.func95 rfl ?_
  conv => whnf
  unfold spanB
  cases h1 : decide (0 ≤ a)
  · conv => whnf
    simp only [Bool.false_and]
    exact .val
  conv => whnf
  cases h2 : decide (a ≤ b)
  · conv => whnf
    simp only [Bool.false_and, Bool.and_false]
    exact .val
  conv => whnf
  simp only [Bool.true_and]
  exact .val

/-- A mob: how many are wet, from one bound to another, and how many are in no pen. -/
structure Mo where
  lo : Int
  hi : Int
  left : Int
structure Pn where
  fr : Nat → Int
  lo : Int
  hi : Int
structure Dr where
  mobs : List Mo
  pens : List Pn
  limit : Int
def rowMo (m : Mo) : List CV := [I m.lo, I m.hi, I m.left]
def row4 (f : Nat → Int) : List CV := [I (f 0), I (f 1), I (f 2), I (f 3)]
def rowPn (p : Pn) : List CV := [I (p.fr 0), I (p.fr 1), I (p.fr 2), I (p.fr 3), I p.lo, I p.hi]

structure DV where
  mc : List CV
  mo : Nat
  mn : Nat
  pc : List CV
  po : Nat
  pn : Nat
  lim : Int
def DV.cv (v : DV) : CV := .agg [.sl v.mc v.mo v.mn, .sl v.pc v.po v.pn, I v.lim]
def DV.blk (v : DV) : AB := .blk [.c (.sl v.mc v.mo v.mn), .c (.sl v.pc v.po v.pn), .c (I v.lim)]
structure DV.Is (v : DV) (d : Dr) : Prop where
  m : SlOf 3 (d.mobs.map rowMo) v.mc v.mo v.mn
  p : SlOf 6 (d.pens.map rowPn) v.pc v.po v.pn
  lim : v.lim = d.limit
  short : d.mobs.length ≤ 40 ∧ d.pens.length ≤ 40
theorem DV.Is.mn {v : DV} {d : Dr} (h : v.Is d) : v.mn = d.mobs.length := by rw [h.m.len]; simp
theorem DV.Is.pn {v : DV} {d : Dr} (h : v.Is d) : v.pn = d.pens.length := by rw [h.p.len]; simp
theorem DV.Is.mrow {v : DV} {d : Dr} (h : v.Is d) {j : Nat} {m : Mo} (hj : d.mobs[j]? = some m) : sliceOf v.mc (v.mo + j * 3) 3 = some (rowMo m) := h.m.row j _ (by simp [hj])
theorem DV.Is.prow {v : DV} {d : Dr} (h : v.Is d) {j : Nat} {p : Pn} (hj : d.pens[j]? = some p) : sliceOf v.pc (v.po + j * 6) 6 = some (rowPn p) := h.p.row j _ (by simp [hj])

theorem isPen_ret {v : DV} {d : Dr} (hv : v.Is d) (n : Int) : Ret Try.prog 51 [v.cv, I n] (B (inB n 0 (d.pens.length - 1))) := by
  have h1 := hv.pn; have h2 := hv.short
  refine ret_by (hm := true) Try.func51 rfl ?_
  conv => whnf
  refine ⟨(d.pens.length : Int) - 1, by rw [wrap_eq (by omega) (by omega)]; omega, ?_⟩
  conv => whnf
  refine .ret (within_ret _ _ _) rfl ?_
  conv => whnf
  exact .val
theorem isMob_ret {v : DV} {d : Dr} (hv : v.Is d) (n : Int) : Ret Try.prog 47 [v.cv, I n] (B (inB n 0 (d.mobs.length - 1))) := by
  have h1 := hv.mn; have h2 := hv.short
  refine ret_by (hm := true) Try.func47 rfl ?_
  conv => whnf
  refine ⟨(d.mobs.length : Int) - 1, by rw [wrap_eq (by omega) (by omega)]; omega, ?_⟩
  conv => whnf
  refine .ret (within_ret _ _ _) rfl ?_
  conv => whnf
  exact .val

theorem has_ret (s n : Nat) (hs : s < 2 ^ 63) (hn : n < 64) : Ret Try.prog 80 [I s, I n] (B (s.testBit n)) := by
  refine ret_by (hm := true) Try.func80 rfl ?_
  conv => whnf
  refine ⟨by omega, _, shr_nat s n hn, ?_⟩
  conv => whnf
  refine ⟨_, and_nat (b := 1) (Nat.lt_of_le_of_lt (Nat.shiftRight_le s n) hs) (by omega), ?_⟩
  conv => whnf
  rw [bit_nat]
  exact .val

theorem allOf_ret (n : Nat) (hn : n < 62) : Ret Try.prog 62 [I n] (I ((2 ^ n - 1 : Nat) : Int)) := by
  have h2 : 2 ^ n < 2 ^ 62 := Nat.pow_lt_pow_right (by omega) hn
  have h3 : 0 < 2 ^ n := Nat.two_pow_pos n
  refine ret_by (hm := true) Try.func62 rfl ?_
  conv => whnf
  refine ⟨by omega, _, shl_nat 1 n (by omega) (by omega), ?_⟩
  conv => whnf
  refine ⟨((2 ^ n - 1 : Nat) : Int), by rw [wrap_eq (by omega) (by omega)]; omega, ?_⟩
  conv => whnf
  exact .val
end Go.Ag
/- Layer 2: sums. -/
namespace Go.Ag
open Go.Proofs
set_option maxRecDepth 100000

def tame (x : Int) : Prop := -1000000000000 ≤ x ∧ x ≤ 1000000000000

theorem sum_ret {cells : List CV} {off n : Nat} {f : Nat → Int} (h : ∀ i, i < n → cells[off + i]? = some (I (f i))) (hb : ∀ i, i < n → tame (f i)) (hn : n ≤ 1000) : Ret Try.prog 81 [.sl cells off n] (I (sumTo f n)) := by
  refine ret_by (hm := true) Try.func81 rfl ?_
  conv => whnf
  refine loop_by (I := fun k s => ∃ j : Nat, j ≤ n ∧ k = n - j ∧ Has s 17 [(3, .c (I (sumTo f j))), (6, .c (.sl cells off n)), (7, .c (I n)), (8, .c (I j))] [] none TMap.nil) ?_ (k := n)
    ⟨0, Nat.zero_le _, rfl, rfl, ⟨rfl, rfl, rfl, rfl, trivial⟩, rfl, rfl, rfl, rfl⟩
  rintro k s ⟨j, hj, rfl, hs⟩
  refine hs.run (hm := true) ?_
  conv => whnf
  cases hc : decide ((j : Int) < (n : Int))
  case true =>
    have hj : j < n := by simpa using hc
    have b1 := sumTo_bound (b := 1000000000000) j (fun i hi => hb i (by omega))
    have b2 := hb j hj
    unfold tame at b2
    conv => whnf
    refine ⟨⟨by omega, by omega⟩, ?_⟩
    conv => whnf
    refine ⟨_, show readVarC Try.prog 3 cells (off + (j : Int).toNat * 1) = some (I (f j)) by rw [Int.toNat_natCast, Nat.mul_one]; exact h j hj, ?_⟩
    conv => whnf
    have e : (j : Int) * 1000000000000 ≤ 1000 * 1000000000000 := by omega
    refine ⟨sumTo f (j + 1), by rw [wrap_eq (by omega) (by omega)]; rfl, ?_⟩
    conv => whnf
    refine ⟨((j + 1 : Nat) : Int), by rw [wrap_eq (by omega) (by omega)]; omega, ?_⟩
    conv => whnf
    exact ⟨n - (j + 1), by omega, j + 1, by omega, rfl, rfl, ⟨rfl, rfl, rfl, rfl, trivial⟩, rfl, rfl, rfl, rfl⟩
  conv => whnf
  have : j = n := by simp at hc; omega
  subst this
  exact .val

theorem sum2_ret (a b : Int) (ha : tame a) (hb : tame b) : Ret Try.prog 81 [.sl [I a, I b] 0 2] (I (a + b)) := by
  have := sum_ret (cells := [I a, I b]) (off := 0) (n := 2) (f := fun i => if i = 0 then a else b) (by
    intro i hi
    have : i = 0 ∨ i = 1 := by omega
    rcases this with rfl | rfl <;> rfl) (by intro i _; show tame (if i = 0 then a else b); split <;> assumption) (by omega)
  have e : sumTo (fun i => if i = 0 then a else b) 2 = a + b := by simp [sumTo]
  rw [e] at this
  exact this

def sum4 (f : Nat → Int) : Int := sumTo f 4
theorem sum4_ret (f : Nat → Int) (hb : ∀ i, i < 4 → tame (f i)) : Ret Try.prog 81 [.sl (row4 f) 0 4] (I (sum4 f)) :=
  sum_ret (fun i hi => by
    have : i = 0 ∨ i = 1 ∨ i = 2 ∨ i = 3 := by omega
    rcases this with rfl | rfl | rfl | rfl <;> rfl) hb (by omega)

theorem all_ret (f : Nat → Int) (hb : ∀ i, i < 4 → tame (f i)) : Ret Try.prog 56 [.agg (row4 f)] (I (sum4 f)) := by
  refine ret_by (hm := true) Try.func56 rfl ?_
  conv => whnf
  refine ⟨_, rfl, ?_⟩
  conv => whnf
  refine .snapped 10 _ _ _ _ rfl (sum4_ret f hb) rfl ?_
  conv => whnf
  exact .val

/-- How many of a set. -/
def ofSet (f : Nat → Int) (s : Nat) : Nat → Int := fun i => if s.testBit i then f i else 0
def among (f : Nat → Int) (s : Nat) : Int := sum4 (ofSet f s)

def upTo (f : Nat → Int) (s j : Nat) : Nat → Int := fun i => if i < j ∧ s.testBit i = false then 0 else f i
theorem upTo_four {f : Nat → Int} {s : Nat} {i : Nat} (h : i < 4) : upTo f s 4 i = ofSet f s i := by
  unfold upTo ofSet
  cases s.testBit i <;> simp [h]
theorem row_upTo {f : Nat → Int} {s j : Nat} (hj : j < 4) (hb : s.testBit j = true) : (row4 (upTo f s (j + 1))).map AV.c = (row4 (upTo f s j)).map AV.c := by
  have e : ∀ i, upTo f s (j + 1) i = upTo f s j i := by
    intro i
    unfold upTo
    by_cases hi : i = j
    · subst hi; simp [hb]
    · have : (i < j + 1) ↔ (i < j) := by omega
      simp only [this]
  simp only [row4, e]

theorem row_clear {f : Nat → Int} {s j : Nat} (hj : j < 4) (hb : s.testBit j = false) : (row4 (upTo f s (j + 1))).map AV.c = ((row4 (upTo f s j)).map AV.c).set j (.c (I 0)) := by
  have e : ∀ i, upTo f s (j + 1) i = if i = j then 0 else upTo f s j i := by
    intro i
    unfold upTo
    by_cases hi : i = j
    · subst hi; simp [hb]
    · have : (i < j + 1) ↔ (i < j) := by omega
      simp only [this, hi, if_false]
  obtain rfl | rfl | rfl | rfl : j = 0 ∨ j = 1 ∨ j = 2 ∨ j = 3 := by omega
  all_goals simp [row4, e]

theorem among_ret (f : Nat → Int) (s : Nat) (hs : s < 2 ^ 63) (hb : ∀ i, i < 4 → tame (f i)) : Ret Try.prog 87 [.agg (row4 f), I s] (I (among f s)) := by
  refine ret_by (hm := false) Try.func87 rfl ?_
  conv => whnf
  refine loop_by (I := fun k st => ∃ (j : Nat) (h : Heap), j ≤ 4 ∧ k = 4 - j ∧ Heap.at h 0 = .blk ((row4 (upTo f s j)).map AV.c) ∧ h.n = 1 ∧ Has st 18 [(1, .c (I s)), (2, .ptr 0 0), (6, .c (I j))] [] none h) ?_ (k := 4)
    ⟨0, _, Nat.zero_le _, rfl, rfl, rfl, rfl, ⟨rfl, rfl, rfl, trivial⟩, rfl, rfl, rfl, rfl⟩
  rintro k st ⟨j, h, hj, rfl, h0, hn, hs1⟩
  refine hs1.run (hm := false) ?_
  conv => whnf
  cases hc : decide ((j : Int) < 4)
  case true =>
    have hj : j < 4 := by simp at hc; omega
    conv => whnf
    refine .ret (has_ret s j hs (by omega)) rfl ?_
    conv => whnf
    cases hbit : s.testBit j
    · have hr := row_clear (f := f) hj hbit
      obtain rfl | rfl | rfl | rfl : j = 0 ∨ j = 1 ∨ j = 2 ∨ j = 3 := by omega
      all_goals
        conv => whnf
        refine ⟨⟨by decide, by decide, by decide⟩, ?_⟩
        conv => whnf
        refine ⟨_, h0, ?_⟩
        conv => whnf
        refine ⟨_, wrap_eq (by decide) (by decide), ?_⟩
        conv => whnf
        refine ⟨_, by decide, _, _, by decide, rfl, ?_, ?_, rfl, ⟨rfl, rfl, rfl, trivial⟩, rfl, rfl, rfl, rfl⟩
        · rw [at_set_self _ _ (by omega)]
          exact congrArg AB.blk hr.symm
        · exact hn
    conv => whnf
    refine ⟨((j + 1 : Nat) : Int), by rw [wrap_eq (by omega) (by omega)]; omega, ?_⟩
    conv => whnf
    refine ⟨4 - (j + 1), by omega, j + 1, h, by omega, rfl, ?_, hn, rfl, ⟨rfl, rfl, rfl, trivial⟩, rfl, rfl, rfl, rfl⟩
    rw [row_upTo hj hbit]; exact h0
  have : j = 4 := by simp at hc; omega
  subst this
  have e : row4 (upTo f s 4) = row4 (ofSet f s) := by simp only [row4]; rw [upTo_four (by omega), upTo_four (by omega), upTo_four (by omega), upTo_four (by omega)]
  rw [e] at h0
  conv => whnf
  refine ⟨_, h0, ?_⟩
  conv => whnf
  refine .ret (all_ret (ofSet f s) fun i hi => ?_) rfl ?_
  · unfold ofSet; split
    · exact hb i hi
    · unfold tame; omega
  conv => whnf
  exact .val
end Go.Ag
/- Layer 2: what is valid. -/
namespace Go.Ag
open Go.Proofs
set_option maxRecDepth 100000

def allTo (p : Nat → Bool) : Nat → Bool
  | 0 => true
  | n + 1 => allTo p n && p n
theorem allTo_iff {p : Nat → Bool} : ∀ {n : Nat}, allTo p n = true ↔ ∀ i, i < n → p i = true
  | 0 => by simp [allTo]
  | n + 1 => by
    simp only [allTo, Bool.and_eq_true, allTo_iff]
    constructor
    · rintro ⟨h1, h2⟩ i hi
      by_cases h : i = n
      · subst h; exact h2
      · exact h1 i (by omega)
    · intro h
      exact ⟨fun i hi => h i (by omega), h n (by omega)⟩
theorem allTo_false {p : Nat → Bool} {n i : Nat} (hi : i < n) (h : p i = false) : allTo p n = false := by
  rw [← Bool.not_eq_true, allTo_iff]
  intro hh
  rw [hh i hi] at h; cases h
theorem allTo_succ {p : Nat → Bool} {j : Nat} (h : allTo p j = true) (hp : p j = true) : allTo p (j + 1) = true := by simp [allTo, h, hp]

instance : Inhabited Mo := ⟨⟨0, 0, 0⟩⟩
instance : Inhabited Pn := ⟨⟨fun _ => 0, 0, 0⟩⟩
def mobAt (d : Dr) (j : Nat) : Mo := d.mobs.getD j default
def penAt (d : Dr) (k : Nat) : Pn := d.pens.getD k default
theorem mobAt_get {d : Dr} {j : Nat} (h : j < d.mobs.length) : d.mobs[j]? = some (mobAt d j) := by simp [mobAt, h]
theorem penAt_get {d : Dr} {k : Nat} (h : k < d.pens.length) : d.pens[k]? = some (penAt d k) := by simp [penAt, h]

theorem rv53 (cells : List CV) (off : Nat) : readVarC Try.prog 53 cells off = (sliceOf cells off 6).map .agg := rfl
theorem rv56 (cells : List CV) (off : Nat) : readVarC Try.prog 56 cells off = (sliceOf cells off 3).map .agg := rfl
theorem rv3 (cells : List CV) (off : Nat) : readVarC Try.prog 3 cells off = cells[off]? := rfl
theorem rv29 (cells : List CV) (off : Nat) : readVarC Try.prog 29 cells off = (sliceOf cells off 2).map .agg := rfl
theorem DV.Is.pen {v : DV} {d : Dr} (h : v.Is d) {k : Nat} (hk : k < d.pens.length) : readVarC Try.prog 53 v.pc (v.po + (k : Int).toNat * 6) = some (.agg (rowPn (penAt d k))) := by
  rw [rv53, Int.toNat_natCast, h.prow (penAt_get hk)]; rfl
theorem DV.Is.mob {v : DV} {d : Dr} (h : v.Is d) {k : Nat} (hk : k < d.mobs.length) : readVarC Try.prog 56 v.mc (v.mo + (k : Int).toNat * 3) = some (.agg (rowMo (mobAt d k))) := by
  rw [rv56, Int.toNat_natCast, h.mrow (mobAt_get hk)]; rfl
theorem DV.Is.mcell {v : DV} {d : Dr} (h : v.Is d) {k : Nat} (hk : k < d.mobs.length) {i : Nat} {c : CV} (hi : i < 3) (hc : (rowMo (mobAt d k))[i]? = some c) : readVarC Try.prog 3 v.mc (v.mo + (k : Int).toNat * 3 + i) = some c := by
  rw [rv3, Int.toNat_natCast, sliceOf_get (h.mrow (mobAt_get hk)) hi]; exact hc
theorem DV.Is.pcell {v : DV} {d : Dr} (h : v.Is d) {k : Nat} (hk : k < d.pens.length) {i : Nat} {c : CV} (hi : i < 6) (hc : (rowPn (penAt d k))[i]? = some c) : readVarC Try.prog 3 v.pc (v.po + (k : Int).toNat * 6 + i) = some c := by
  rw [rv3, Int.toNat_natCast, sliceOf_get (h.prow (penAt_get hk)) hi]; exact hc

/-- The sheep of a mob. -/
def sheepF (d : Dr) (j : Nat) : Int := (mobAt d j).left + sumTo (fun k => (penAt d k).fr j) d.pens.length

theorem sheepOf_ret {v : DV} {d : Dr} (hv : v.Is d) {j : Nat} (hj : j < d.mobs.length) (hj4 : j < 4) (h1 : inB (mobAt d j).left 0 9 = true) (h2 : ∀ k, k < d.pens.length → inB ((penAt d k).fr j) 0 9 = true) : Ret Try.prog 96 [v.cv, I j] (I (sheepF d j)) := by
  have e1 := hv.pn; have e2 := hv.mn; have e3 := hv.short
  have b1 : 0 ≤ (mobAt d j).left ∧ (mobAt d j).left ≤ 9 := by simpa [inB] using h1
  have b2 : ∀ k, k < d.pens.length → 0 ≤ (penAt d k).fr j ∧ (penAt d k).fr j ≤ 9 := fun k hk => by simpa [inB] using h2 k hk
  have b3 : ∀ k, k ≤ d.pens.length → -(k * 9) ≤ sumTo (fun k => (penAt d k).fr j) k ∧ sumTo (fun k => (penAt d k).fr j) k ≤ k * 9 := fun k hk => sumTo_bound k fun i hi => by have := b2 i (by omega); omega
  refine ret_by (hm := false) Try.func96 rfl ?_
  conv => whnf
  refine ⟨_, rfl, ?_⟩
  conv => whnf
  refine ⟨⟨by omega, by omega⟩, ?_⟩
  conv => whnf
  refine ⟨_, hv.mcell hj (i := 2) (by omega) rfl, ?_⟩
  conv => whnf
  refine ⟨_, rfl, ?_⟩
  conv => whnf
  refine loop_by (I := fun k st => ∃ (q : Nat) (h : Heap), q ≤ d.pens.length ∧ k = d.pens.length - q ∧ Heap.at h 0 = v.blk ∧ 0 < h.n ∧ Has st 30 [(1, .c (I j)), (2, .ptr 0 0), (5, .c (I ((mobAt d j).left + sumTo (fun k => (penAt d k).fr j) q))), (15, .c (.sl v.pc v.po v.pn)), (16, .c (I v.pn)), (17, .c (I q))] [] none h) ?_ (k := d.pens.length)
    ⟨0, _, Nat.zero_le _, rfl, rfl, Nat.lt_succ_self 0, rfl, ⟨rfl, rfl, by simp [sumTo]; rfl, rfl, rfl, rfl, trivial⟩, rfl, rfl, rfl, rfl⟩
  rintro k st ⟨q, h, hq, rfl, h0, hn, hs1⟩
  refine hs1.run (hm := false) ?_
  conv => whnf
  cases hc : decide ((q : Int) < (v.pn : Int))
  case true =>
    have hq : q < d.pens.length := by simp at hc; omega
    have bq := b3 q (by omega)
    have bf := b2 q hq
    conv => whnf
    refine ⟨⟨by omega, by omega⟩, ?_⟩
    conv => whnf
    refine ⟨_, hv.pen hq, ?_⟩
    conv => whnf
    refine ⟨_, at_push_self _ _, ?_⟩
    conv => whnf
    obtain rfl | rfl | rfl | rfl : j = 0 ∨ j = 1 ∨ j = 2 ∨ j = 3 := by omega
    all_goals
      conv => whnf
      refine ⟨⟨by omega, by omega, by omega⟩, ?_⟩
      conv => whnf
      refine ⟨_, at_new _ _ _, ?_⟩
      conv => whnf
      refine CallW.msl (cs := [I _, I _]) (at_push_self _ _) (sum2_ret _ _ (by unfold tame; omega) (by unfold tame; omega)) rfl ?_
      conv => whnf
      refine ⟨((q + 1 : Nat) : Int), by rw [wrap_eq (by omega) (by omega)]; omega, ?_⟩
      conv => whnf
      refine ⟨d.pens.length - (q + 1), by omega, q + 1, _, by omega, rfl, ?_, ?_, rfl, ⟨rfl, rfl, by simp only [sumTo]; rw [← Int.add_assoc]; rfl, rfl, rfl, rfl, trivial⟩, rfl, rfl, rfl, rfl⟩
      · rw [at_push_lt _ _ (by rw [new_n]; omega), at_old _ _ _ hn]; exact h0
      · rw [push_n, new_n]; omega
  conv => whnf
  have : q = d.pens.length := by simp at hc; omega
  subst this
  exact .val
end Go.Ag
/- Layer 2: what is valid, in the reference. -/
namespace Go.Ag
open Go.Proofs
set_option maxRecDepth 100000

theorem DV.Is.from {v : DV} {d : Dr} (h : v.Is d) {k : Nat} (hk : k < d.pens.length) {j : Nat} (hj : j < 4) : readVarC Try.prog 3 v.pc (v.po + (k : Int).toNat * 6 + 0 + (j : Int).toNat * 1) = some (I ((penAt d k).fr j)) := by
  have e : v.po + (k : Int).toNat * 6 + 0 + (j : Int).toNat * 1 = v.po + (k : Int).toNat * 6 + j := by simp
  rw [e]
  refine h.pcell hk (by omega) ?_
  obtain rfl | rfl | rfl | rfl : j = 0 ∨ j = 1 ∨ j = 2 ∨ j = 3 := by omega
  all_goals rfl

theorem sliceOf_sub {α : Type} {l r : List α} {off n i m : Nat} (h : sliceOf l off n = some r) (hm : i + m ≤ n) : sliceOf l (off + i) m = some ((r.drop i).take m) := by
  simp only [sliceOf] at h ⊢
  split at h
  · rename_i hl
    simp only [Option.some.injEq] at h
    subst h
    have e : ((l.drop (off + i)).take m) = (((l.drop off).take n).drop i).take m := by
      rw [List.drop_take, List.drop_drop, List.take_take]
      congr 1
      omega
    rw [← e]
    have hl2 : ((l.drop (off + i)).take m).length = m := by
      simp only [List.length_take, List.length_drop] at hl ⊢
      omega
    rw [if_pos hl2]
  · cases h
theorem DV.Is.pspan {v : DV} {d : Dr} (h : v.Is d) {k : Nat} (hk : k < d.pens.length) : readVarC Try.prog 29 v.pc (v.po + (k : Int).toNat * 6 + 4) = some (.agg [I (penAt d k).lo, I (penAt d k).hi]) := by
  rw [rv29, Int.toNat_natCast, sliceOf_sub (h.prow (penAt_get hk)) (by omega)]; rfl
theorem DV.Is.mspan {v : DV} {d : Dr} (h : v.Is d) {k : Nat} (hk : k < d.mobs.length) : readVarC Try.prog 29 v.mc (v.mo + (k : Int).toNat * 3 + 0) = some (.agg [I (mobAt d k).lo, I (mobAt d k).hi]) := by
  rw [rv29, Int.toNat_natCast, sliceOf_sub (h.mrow (mobAt_get hk)) (by omega)]; rfl

theorem ofMob_ret {v : DV} {d : Dr} (hv : v.Is d) {j : Nat} (hj : j < d.mobs.length) (hj4 : j < 4) (h1 : inB (mobAt d j).left 0 9 = true) (h2 : ∀ k, k < d.pens.length → inB ((penAt d k).fr j) 0 9 = true) : Ret Try.prog 38 [v.cv, I j] (I (sheepF d j)) := by
  have e1 := hv.pn; have e2 := hv.mn; have e3 := hv.short
  have b1 : 0 ≤ (mobAt d j).left ∧ (mobAt d j).left ≤ 9 := by simpa [inB] using h1
  have b2 : ∀ k, k < d.pens.length → 0 ≤ (penAt d k).fr j ∧ (penAt d k).fr j ≤ 9 := fun k hk => by simpa [inB] using h2 k hk
  have b3 : ∀ k, k ≤ d.pens.length → -(k * 9) ≤ sumTo (fun k => (penAt d k).fr j) k ∧ sumTo (fun k => (penAt d k).fr j) k ≤ k * 9 := fun k hk => sumTo_bound k fun i hi => by have := b2 i (by omega); omega
  refine ret_by (hm := true) Try.func38 rfl ?_
  conv => whnf
  refine ⟨⟨by omega, by omega⟩, ?_⟩
  conv => whnf
  refine ⟨_, hv.mcell hj (i := 2) (by omega) rfl, ?_⟩
  conv => whnf
  refine loop_by (I := fun k st => ∃ (q : Nat), q ≤ d.pens.length ∧ k = d.pens.length - q ∧ Has st 31 [(1, .c (I j)), (2, .ptr 0 0), (5, .c (I ((mobAt d j).left + sumTo (fun k => (penAt d k).fr j) q))), (6, .c (I q))] [] none ⟨1, .node v.blk .leaf .leaf⟩) ?_ (k := d.pens.length)
    ⟨0, Nat.zero_le _, rfl, rfl, ⟨rfl, rfl, by simp [sumTo]; rfl, rfl, trivial⟩, rfl, rfl, rfl, rfl⟩
  rintro k st ⟨q, hq, rfl, hs1⟩
  refine hs1.run (hm := true) ?_
  conv => whnf
  cases hc : decide ((q : Int) < (v.pn : Int))
  case true =>
    have hq : q < d.pens.length := by simp at hc; omega
    have bq := b3 q (by omega)
    have bf := b2 q hq
    conv => whnf
    refine ⟨⟨by omega, by omega⟩, ?_⟩
    conv => whnf
    refine ⟨⟨by omega, by omega, by omega⟩, ?_⟩
    conv => whnf
    refine ⟨_, hv.from hq hj4, ?_⟩
    conv => whnf
    refine ⟨(mobAt d j).left + sumTo (fun k => (penAt d k).fr j) (q + 1), by rw [wrap_eq (by omega) (by omega)]; simp only [sumTo]; omega, ?_⟩
    conv => whnf
    refine ⟨((q + 1 : Nat) : Int), by rw [wrap_eq (by omega) (by omega)]; omega, ?_⟩
    conv => whnf
    exact ⟨d.pens.length - (q + 1), by omega, q + 1, by omega, rfl, rfl, ⟨rfl, rfl, rfl, rfl, trivial⟩, rfl, rfl, rfl, rfl⟩
  conv => whnf
  have : q = d.pens.length := by simp at hc; omega
  subst this
  exact .val

/-- The sheep of a pen. -/
def penSheep (d : Dr) (k : Nat) : Int := sumTo (penAt d k).fr d.mobs.length
theorem ofPen_ret {v : DV} {d : Dr} (hv : v.Is d) {k : Nat} (hk : k < d.pens.length) (hm4 : d.mobs.length ≤ 4) (h2 : ∀ j, j < d.mobs.length → inB ((penAt d k).fr j) 0 9 = true) : Ret Try.prog 33 [v.cv, I k] (I (penSheep d k)) := by
  have e1 := hv.pn; have e2 := hv.mn; have e3 := hv.short
  have b2 : ∀ j, j < d.mobs.length → 0 ≤ (penAt d k).fr j ∧ (penAt d k).fr j ≤ 9 := fun j hj => by simpa [inB] using h2 j hj
  have b3 : ∀ j, j ≤ d.mobs.length → -(j * 9) ≤ sumTo (penAt d k).fr j ∧ sumTo (penAt d k).fr j ≤ j * 9 := fun j hj => sumTo_bound j fun i hi => by have := b2 i (by omega); omega
  refine ret_by (hm := true) Try.func33 rfl ?_
  conv => whnf
  refine loop_by (I := fun n st => ∃ (q : Nat), q ≤ d.mobs.length ∧ n = d.mobs.length - q ∧ Has st 25 [(1, .c (I k)), (2, .ptr 0 0), (5, .c (I (sumTo (penAt d k).fr q))), (6, .c (I q))] [] none ⟨1, .node v.blk .leaf .leaf⟩) ?_ (k := d.mobs.length)
    ⟨0, Nat.zero_le _, rfl, rfl, ⟨rfl, rfl, rfl, rfl, trivial⟩, rfl, rfl, rfl, rfl⟩
  rintro n st ⟨q, hq, rfl, hs1⟩
  refine hs1.run (hm := true) ?_
  conv => whnf
  cases hc : decide ((q : Int) < (v.mn : Int))
  case true =>
    have hq : q < d.mobs.length := by simp at hc; omega
    have bq := b3 q (by omega)
    have bf := b2 q hq
    conv => whnf
    refine ⟨⟨by omega, by omega⟩, ?_⟩
    conv => whnf
    refine ⟨⟨by omega, by omega, by omega⟩, ?_⟩
    conv => whnf
    refine ⟨_, hv.from hk (by omega), ?_⟩
    conv => whnf
    refine ⟨sumTo (penAt d k).fr (q + 1), by rw [wrap_eq (by omega) (by omega)]; simp only [sumTo], ?_⟩
    conv => whnf
    refine ⟨((q + 1 : Nat) : Int), by rw [wrap_eq (by omega) (by omega)]; omega, ?_⟩
    conv => whnf
    exact ⟨d.mobs.length - (q + 1), by omega, q + 1, by omega, rfl, rfl, ⟨rfl, rfl, rfl, rfl, trivial⟩, rfl, rfl, rfl, rfl⟩
  conv => whnf
  have : q = d.mobs.length := by simp at hc; omega
  subst this
  exact .val

def fromOk (d : Dr) (k : Nat) : Bool := allTo (fun j => inB ((penAt d k).fr j) 0 9) d.mobs.length
def penOk (d : Dr) (k : Nat) : Bool := spanB (penAt d k).lo (penAt d k).hi 36 && fromOk d k
def mobOk (d : Dr) (j : Nat) : Bool := inB (mobAt d j).left 0 9 && (spanB (mobAt d j).lo (mobAt d j).hi 54 && !decide ((mobAt d j).lo > sheepF d j))
def sizesOk (d : Dr) : Bool := inB d.mobs.length 1 4 && inB d.pens.length 1 5 && inB d.limit 0 36
def validB (d : Dr) : Bool := sizesOk d && allTo (penOk d) d.pens.length && allTo (mobOk d) d.mobs.length

theorem dry_ret {v : DV} {d : Dr} (hv : v.Is d) : Ret Try.prog 35 [v.cv] (B (validB d)) := by
  have e1 := hv.pn; have e2 := hv.mn; have e3 := hv.short; have e4 := hv.lim
  refine ret_by (hm := true) Try.func35 rfl ?_
  conv => whnf
  refine .ret (in_ret _ _ _) rfl ?_
  conv => whnf
  have no1 : sizesOk d = false → validB d = false := fun h => by simp [validB, h]
  cases h1 : inB v.mn 1 4
  · conv => whnf
    rw [no1 (by simp [sizesOk, ← e2, h1])]
    exact .val
  conv => whnf
  refine .ret (in_ret _ _ _) rfl ?_
  conv => whnf
  cases h2 : inB v.pn 1 5
  · conv => whnf
    rw [no1 (by simp [sizesOk, ← e1, h2])]
    exact .val
  conv => whnf
  refine .ret (in_ret _ _ _) rfl ?_
  conv => whnf
  cases h3 : inB v.lim 0 36
  · conv => whnf
    rw [no1 (by simp [sizesOk, ← e4, h3])]
    exact .val
  conv => whnf
  have hsz : sizesOk d = true := by simp [sizesOk, ← e1, ← e2, ← e4, h1, h2, h3]
  have hm4 : d.mobs.length ≤ 4 := by simp [inB] at h1; omega
  -- the pens
  refine loop_by (I := fun n st => ∃ (q : Nat), q ≤ d.pens.length ∧ n = d.pens.length - q ∧ allTo (penOk d) q = true ∧ Has st 94 [(1, .ptr 0 0), (3, .c (I q))] [] none ⟨1, .node v.blk .leaf .leaf⟩) ?_ (k := d.pens.length)
    ⟨0, Nat.zero_le _, rfl, rfl, rfl, ⟨rfl, rfl, trivial⟩, rfl, rfl, rfl, rfl⟩
  rintro n st ⟨q, hq, rfl, hall, hs1⟩
  refine hs1.run (hm := true) ?_
  conv => whnf
  cases hc : decide ((q : Int) < (v.pn : Int))
  case true =>
    have hq : q < d.pens.length := by simp at hc; omega
    have no : penOk d q = false → validB d = false := fun h => by simp [validB, allTo_false hq h]
    conv => whnf
    refine ⟨⟨by omega, by omega⟩, ?_⟩
    conv => whnf
    refine ⟨_, hv.pspan hq, ?_⟩
    conv => whnf
    refine .ret (span_ret _ _ _) rfl ?_
    conv => whnf
    cases hb : spanB (penAt d q).lo (penAt d q).hi 36
    · conv => whnf
      rw [no (by simp [penOk, hb])]
      exact .val
    conv => whnf
    refine loop_by (I := fun n st => ∃ (i : Nat), i ≤ d.mobs.length ∧ n = d.mobs.length - i ∧ allTo (fun j => inB ((penAt d q).fr j) 0 9) i = true ∧ Has st 94 [(1, .ptr 0 0), (3, .c (I q)), (4, .c (I i))] [] none ⟨1, .node v.blk .leaf .leaf⟩) ?_ (k := d.mobs.length)
      ⟨0, Nat.zero_le _, rfl, rfl, rfl, ⟨rfl, rfl, rfl, trivial⟩, rfl, rfl, rfl, rfl⟩
    rintro n st ⟨i, hi, rfl, hall2, hs2⟩
    refine hs2.run (hm := true) ?_
    conv => whnf
    cases hc2 : decide ((i : Int) < (v.mn : Int))
    case true =>
      have hi : i < d.mobs.length := by simp at hc2; omega
      conv => whnf
      refine ⟨⟨by omega, by omega⟩, ?_⟩
      conv => whnf
      refine ⟨⟨by omega, by omega, by omega⟩, ?_⟩
      conv => whnf
      refine ⟨_, hv.from hq (by omega), ?_⟩
      conv => whnf
      refine .ret (in_ret _ _ _) rfl ?_
      conv => whnf
      cases hb2 : inB ((penAt d q).fr i) 0 9
      · conv => whnf
        rw [no (by simp [penOk, fromOk, allTo_false (p := fun j => inB ((penAt d q).fr j) 0 9) hi hb2])]
        exact .val
      conv => whnf
      refine ⟨((i + 1 : Nat) : Int), by rw [wrap_eq (by omega) (by omega)]; omega, ?_⟩
      conv => whnf
      exact ⟨d.mobs.length - (i + 1), by omega, i + 1, by omega, rfl, allTo_succ hall2 hb2, rfl, ⟨rfl, rfl, rfl, trivial⟩, rfl, rfl, rfl, rfl⟩
    have : i = d.mobs.length := by simp at hc2; omega
    subst this
    conv => whnf
    refine ⟨((q + 1 : Nat) : Int), by rw [wrap_eq (by omega) (by omega)]; omega, ?_⟩
    conv => whnf
    exact ⟨d.pens.length - (q + 1), by omega, q + 1, by omega, rfl, allTo_succ hall (by simp [penOk, hb, fromOk, hall2]), rfl, ⟨rfl, rfl, trivial⟩, rfl, rfl, rfl, rfl⟩
  have : q = d.pens.length := by simp at hc; omega
  subst this
  have hfr : ∀ k, k < d.pens.length → ∀ j, j < d.mobs.length → inB ((penAt d k).fr j) 0 9 = true := by
    intro k hk j hj
    have := allTo_iff.1 hall k hk
    simp only [penOk, Bool.and_eq_true] at this
    exact allTo_iff.1 this.2 j hj
  conv => whnf
  refine loop_by (I := fun n st => ∃ (q : Nat), q ≤ d.mobs.length ∧ n = d.mobs.length - q ∧ allTo (mobOk d) q = true ∧ Has st 94 [(1, .ptr 0 0), (5, .c (I q))] [] none ⟨1, .node v.blk .leaf .leaf⟩) ?_ (k := d.mobs.length)
    ⟨0, Nat.zero_le _, rfl, rfl, rfl, ⟨rfl, rfl, trivial⟩, rfl, rfl, rfl, rfl⟩
  rintro n st ⟨q, hq, rfl, hall3, hs3⟩
  refine hs3.run (hm := true) ?_
  conv => whnf
  cases hc3 : decide ((q : Int) < (v.mn : Int))
  case true =>
    have hq : q < d.mobs.length := by simp at hc3; omega
    have no : mobOk d q = false → validB d = false := fun h => by simp [validB, allTo_false hq h]
    conv => whnf
    refine draw_by (hm := true) (by kernel_rfl) (by kernel_rfl) ?_
    conv => whnf
    refine ⟨⟨by omega, by omega⟩, ?_⟩
    conv => whnf
    refine ⟨_, hv.mcell hq (i := 2) (by omega) rfl, ?_⟩
    conv => whnf
    refine .ret (in_ret _ _ _) rfl ?_
    conv => whnf
    cases hb1 : inB (mobAt d q).left 0 9
    · conv => whnf
      refine ⟨by kernel_rfl, ?_⟩
      conv => whnf
      rw [no (by simp [mobOk, hb1])]
      exact .val
    conv => whnf
    refine ⟨⟨by omega, by omega⟩, ?_⟩
    conv => whnf
    refine ⟨_, hv.mspan hq, ?_⟩
    conv => whnf
    refine .ret (span_ret _ _ _) rfl ?_
    conv => whnf
    cases hb2 : spanB (mobAt d q).lo (mobAt d q).hi 54
    · conv => whnf
      refine ⟨by kernel_rfl, ?_⟩
      conv => whnf
      rw [no (by simp [mobOk, hb1, hb2])]
      exact .val
    conv => whnf
    refine ⟨⟨by omega, by omega⟩, ?_⟩
    conv => whnf
    refine ⟨_, hv.mcell hq (i := 0) (by omega) rfl, ?_⟩
    conv => whnf
    refine .ret (ofMob_ret hv hq (by omega) hb1 (fun k hk => hfr k hk q hq)) rfl ?_
    conv => whnf
    cases hb3 : decide ((mobAt d q).lo > sheepF d q)
    · conv => whnf
      refine ⟨by kernel_rfl, ?_⟩
      conv => whnf
      refine ⟨((q + 1 : Nat) : Int), by rw [wrap_eq (by omega) (by omega)]; omega, ?_⟩
      conv => whnf
      exact ⟨d.mobs.length - (q + 1), by omega, q + 1, by omega, rfl, allTo_succ hall3 (by simp only [mobOk, hb1, hb2, hb3]; rfl), rfl, ⟨rfl, rfl, trivial⟩, rfl, rfl, rfl, rfl⟩
    · conv => whnf
      refine ⟨by kernel_rfl, ?_⟩
      conv => whnf
      rw [no (by simp only [mobOk, hb1, hb2, hb3]; rfl)]
      exact .val
  have : q = d.mobs.length := by simp at hc3; omega
  subst this
  have : validB d = true := by simp [validB, hsz, hall, hall3]
  rw [this]
  conv => whnf
  exact .val
end Go.Ag
/- Layer 2: what is valid, in the program. -/
namespace Go.Ag
open Go.Proofs
set_option maxRecDepth 100000

theorem arr51 {rd : Nat → AB} {id off n : Nat} {cells : List AV} (hb : rd id = .blk cells) (hc : off + 4 ≤ cells.length) (hn : n ≤ 4) : aarrSlice Try.prog rd 51 (.ptr id off) none (some (.c (I n))) none = some ⟨.msl id 1 (off + 0 * 1) (n - 0) (4 - 0), [id], [], none⟩ := by
  have h1 : Try.prog.underlying 51 = some (.array 4 3) := by kernel_rfl
  have h2 : slicePart Try.prog 3 = some 1 := by kernel_rfl
  have h3 : boundsOf 4 4 none (some (.c (I n))) none = some (0, n, 4) := by
    have h5 : (0 : Int) ≤ n ∧ (n : Int) ≤ (4 : Nat) := by omega
    unfold boundsOf boundOf
    simp only [asInt, h5, and_self, if_true, Int.toNat_natCast, Option.isSome_none, Bool.false_and, Bool.false_eq_true, if_false, Nat.le_refl, Nat.zero_le]
  simp only [aarrSlice, h1, h2, hb]
  rw [if_pos (by omega), h3]
  rfl

def cells6 (p : Pn) : List AV := [.c (I (p.fr 0)), .c (I (p.fr 1)), .c (I (p.fr 2)), .c (I (p.fr 3)), .c (I p.lo), .c (I p.hi)]

theorem validPens_ret {v : DV} {d : Dr} (hv : v.Is d) (hm4 : d.mobs.length ≤ 4) : Ret Try.prog 76 [v.cv] (B (allTo (penOk d) d.pens.length)) := by
  have e1 := hv.pn; have e2 := hv.mn; have e3 := hv.short
  refine ret_by (hm := false) Try.func76 rfl ?_
  conv => whnf
  refine ⟨_, rfl, ?_⟩
  conv => whnf
  refine loop_by (I := fun n st => ∃ (q : Nat) (h : Heap), q ≤ d.pens.length ∧ n = d.pens.length - q ∧ allTo (penOk d) q = true ∧ Heap.at h 0 = v.blk ∧ 0 < h.n ∧ Has st 33 [(1, .ptr 0 0), (8, .c (.sl v.pc v.po v.pn)), (9, .c (I v.pn)), (10, .c (I q))] [] none h) ?_ (k := d.pens.length)
    ⟨0, _, Nat.zero_le _, rfl, rfl, rfl, Nat.lt_succ_self 0, rfl, ⟨rfl, rfl, rfl, rfl, trivial⟩, rfl, rfl, rfl, rfl⟩
  rintro n st ⟨q, h, hq, rfl, hall, h0, hn, hs1⟩
  refine hs1.run (hm := false) ?_
  conv => whnf
  cases hc : decide ((q : Int) < (v.pn : Int))
  case true =>
    have hq : q < d.pens.length := by simp at hc; omega
    have no : penOk d q = false → allTo (penOk d) d.pens.length = false := fun h => allTo_false hq h
    conv => whnf
    refine ⟨⟨by omega, by omega⟩, ?_⟩
    conv => whnf
    refine ⟨_, hv.pen hq, ?_⟩
    conv => whnf
    refine ⟨_, at_push_self _ _, ?_⟩
    conv => whnf
    refine ⟨_, (at_old _ _ _ hn).trans h0, ?_⟩
    conv => whnf
    refine ⟨_, arr51 (at_new _ _ _) (by show 4 ≤ 6; omega) (n := v.mn) (by omega), ?_⟩
    conv => whnf
    have hB : Heap.at ((h.push .dead (.blk [AV.lit (.int .i64 0), AV.lit (.int .i64 0), AV.lit (.int .i64 0), AV.lit (.int .i64 0), AV.lit (.int .i64 0), AV.lit (.int .i64 0)])).set .dead h.n (.blk (cells6 (penAt d q)))) h.n = .blk (cells6 (penAt d q)) := at_new _ _ _
    have h0' : ∀ x y, Heap.at ((h.push .dead x).set .dead h.n y) 0 = v.blk := fun x y => (at_old _ _ _ hn).trans h0
    have nn : ∀ x y, ((h.push .dead x).set .dead h.n y).n = h.n + 1 := fun x y => new_n _ _ _
    refine loop_by (I := fun n st => ∃ (i : Nat) (h' : Heap), i ≤ d.mobs.length ∧ n = d.mobs.length - i ∧ allTo (fun j => inB ((penAt d q).fr j) 0 9) i = true ∧ Heap.at h' 0 = v.blk ∧ Heap.at h' h.n = .blk (cells6 (penAt d q)) ∧ h.n < h'.n ∧
      Has st 33 [(1, .ptr 0 0), (4, .ptr h.n 0), (8, .c (.sl v.pc v.po v.pn)), (9, .c (I v.pn)), (10, .c (I q)), (18, .msl h.n 1 0 v.mn 4), (19, .c (I v.mn)), (20, .c (I i))] [] none h') ?_ (k := d.mobs.length)
      ⟨0, _, Nat.zero_le _, rfl, rfl, h0' _ _, hB, by rw [nn]; omega, rfl, ⟨rfl, rfl, rfl, rfl, rfl, rfl, rfl, rfl, trivial⟩, rfl, rfl, rfl, rfl⟩
    rintro n st ⟨i, h', hi, rfl, hall2, k0, kB, kn, hs2⟩
    refine hs2.run (hm := false) ?_
    conv => whnf
    cases hc2 : decide ((i : Int) < (v.mn : Int))
    case true =>
      have hi : i < d.mobs.length := by simp at hc2; omega
      have hyes : allTo (fun j => inB ((penAt d q).fr j) 0 9) i = true → inB ((penAt d q).fr i) 0 9 = true → allTo (fun j => inB ((penAt d q).fr j) 0 9) (i + 1) = true := fun a b => allTo_succ a b
      have hno : inB ((penAt d q).fr i) 0 9 = false → allTo (penOk d) d.pens.length = false := fun hb2 => no (by simp [penOk, fromOk, allTo_false (p := fun j => inB ((penAt d q).fr j) 0 9) hi hb2])
      conv => whnf
      refine ⟨⟨rfl, by omega, by omega⟩, ?_⟩
      conv => whnf
      refine ⟨_, kB, ?_⟩
      conv => whnf
      obtain rfl | rfl | rfl | rfl : i = 0 ∨ i = 1 ∨ i = 2 ∨ i = 3 := by omega
      all_goals
        conv => whnf
        refine .ret (within_ret _ _ _) rfl ?_
        conv => whnf
        revert hyes hno
        generalize hg : inB ((penAt d q).fr _) 0 9 = b2
        intro hyes hno
        cases b2
        · conv => whnf
          rw [hno rfl]
          exact .val
        conv => whnf
        refine ⟨_, wrap_eq (by decide) (by decide), ?_⟩
        conv => whnf
        exact ⟨_, by omega, _, h', by omega, rfl, hyes hall2 rfl, k0, kB, kn, rfl, ⟨rfl, rfl, rfl, rfl, rfl, rfl, rfl, rfl, trivial⟩, rfl, rfl, rfl, rfl⟩
    have : i = d.mobs.length := by simp at hc2; omega
    subst this
    conv => whnf
    refine ⟨_, kB, ?_⟩
    conv => whnf
    refine .ret (spanWithin_ret _ _ _) rfl ?_
    conv => whnf
    cases hb : spanB (penAt d q).lo (penAt d q).hi 36
    · conv => whnf
      rw [no (by simp [penOk, hb])]
      exact .val
    conv => whnf
    refine ⟨((q + 1 : Nat) : Int), by rw [wrap_eq (by omega) (by omega)]; omega, ?_⟩
    conv => whnf
    exact ⟨d.pens.length - (q + 1), by omega, q + 1, h', by omega, rfl, allTo_succ hall (by simp [penOk, hb, fromOk, hall2]), k0, by omega, rfl, ⟨rfl, rfl, rfl, rfl, trivial⟩, rfl, rfl, rfl, rfl⟩
  have : q = d.pens.length := by simp at hc; omega
  subst this
  rw [hall]
  conv => whnf
  exact .val


theorem validMobs_ret {v : DV} {d : Dr} (hv : v.Is d) (hm4 : d.mobs.length ≤ 4) (hp : allTo (penOk d) d.pens.length = true) : Ret Try.prog 77 [v.cv] (B (allTo (mobOk d) d.mobs.length)) := by
  have e1 := hv.pn; have e2 := hv.mn; have e3 := hv.short
  have hfr : ∀ k, k < d.pens.length → ∀ j, j < d.mobs.length → inB ((penAt d k).fr j) 0 9 = true := by
    intro k hk j hj
    have := allTo_iff.1 hp k hk
    simp only [penOk, Bool.and_eq_true] at this
    exact allTo_iff.1 this.2 j hj
  refine ret_by (hm := false) Try.func77 rfl ?_
  conv => whnf
  refine ⟨_, rfl, ?_⟩
  conv => whnf
  refine loop_by (I := fun n st => ∃ (q : Nat) (h : Heap), q ≤ d.mobs.length ∧ n = d.mobs.length - q ∧ allTo (mobOk d) q = true ∧ Heap.at h 0 = v.blk ∧ 0 < h.n ∧ Has st 31 [(1, .ptr 0 0), (6, .c (.sl v.mc v.mo v.mn)), (7, .c (I v.mn)), (8, .c (I q))] [] none h) ?_ (k := d.mobs.length)
    ⟨0, _, Nat.zero_le _, rfl, rfl, rfl, Nat.lt_succ_self 0, rfl, ⟨rfl, rfl, rfl, rfl, trivial⟩, rfl, rfl, rfl, rfl⟩
  rintro n st ⟨q, h, hq, rfl, hall, h0, hn, hs1⟩
  refine hs1.run (hm := false) ?_
  conv => whnf
  cases hc : decide ((q : Int) < (v.mn : Int))
  case true =>
    have hq : q < d.mobs.length := by simp at hc; omega
    have no : mobOk d q = false → allTo (mobOk d) d.mobs.length = false := fun h => allTo_false hq h
    conv => whnf
    refine ⟨⟨by omega, by omega⟩, ?_⟩
    conv => whnf
    refine ⟨_, hv.mob hq, ?_⟩
    conv => whnf
    refine ⟨_, at_push_self _ _, ?_⟩
    conv => whnf
    refine ⟨_, at_new _ _ _, ?_⟩
    conv => whnf
    refine .ret (within_ret _ _ _) rfl ?_
    conv => whnf
    cases hb1 : inB (mobAt d q).left 0 9
    · conv => whnf
      rw [no (by simp [mobOk, hb1])]
      exact .val
    conv => whnf
    refine ⟨_, at_new _ _ _, ?_⟩
    conv => whnf
    refine .ret (spanWithin_ret _ _ _) rfl ?_
    conv => whnf
    cases hb2 : spanB (mobAt d q).lo (mobAt d q).hi 54
    · conv => whnf
      rw [no (by simp [mobOk, hb1, hb2])]
      exact .val
    conv => whnf
    refine draw_by (hm := false) (by kernel_rfl) (by kernel_rfl) ?_
    conv => whnf
    refine ⟨_, at_new _ _ _, ?_⟩
    conv => whnf
    refine ⟨_, (at_old _ _ _ hn).trans h0, ?_⟩
    conv => whnf
    refine .ret (sheepOf_ret hv hq (by omega) hb1 (fun k hk => hfr k hk q hq)) rfl ?_
    conv => whnf
    cases hb3 : decide ((mobAt d q).lo > sheepF d q)
    · refine ⟨by kernel_rfl, ?_⟩
      conv => whnf
      refine ⟨((q + 1 : Nat) : Int), by rw [wrap_eq (by omega) (by omega)]; omega, ?_⟩
      conv => whnf
      exact ⟨d.mobs.length - (q + 1), by omega, q + 1, _, by omega, rfl, allTo_succ hall (by simp only [mobOk, hb1, hb2, hb3]; rfl), (at_old _ _ _ hn).trans h0, by rw [new_n]; omega, rfl, ⟨rfl, rfl, rfl, rfl, trivial⟩, rfl, rfl, rfl, rfl⟩
    · refine ⟨by kernel_rfl, ?_⟩
      conv => whnf
      rw [no (by simp only [mobOk, hb1, hb2, hb3]; rfl)]
      exact .val
  have : q = d.mobs.length := by simp at hc; omega
  subst this
  rw [hall]
  conv => whnf
  exact .val


theorem valid_ret {v : DV} {d : Dr} (hv : v.Is d) : Ret Try.prog 46 [v.cv] (B (validB d)) := by
  have e1 := hv.pn; have e2 := hv.mn; have e3 := hv.short; have e4 := hv.lim
  refine ret_by (hm := true) Try.func46 rfl ?_
  conv => whnf
  refine .ret (within_ret _ _ _) rfl ?_
  conv => whnf
  have no1 : sizesOk d = false → validB d = false := fun h => by simp [validB, h]
  cases h1 : inB v.mn 1 4
  · conv => whnf
    rw [no1 (by simp [sizesOk, ← e2, h1])]
    exact .val
  conv => whnf
  refine .ret (within_ret _ _ _) rfl ?_
  conv => whnf
  cases h2 : inB v.pn 1 5
  · conv => whnf
    rw [no1 (by simp [sizesOk, ← e1, h2])]
    exact .val
  conv => whnf
  refine .ret (within_ret _ _ _) rfl ?_
  conv => whnf
  cases h3 : inB v.lim 0 36
  · conv => whnf
    rw [no1 (by simp [sizesOk, ← e4, h3])]
    exact .val
  have hsz : sizesOk d = true := by simp [sizesOk, ← e1, ← e2, ← e4, h1, h2, h3]
  have hm4 : d.mobs.length ≤ 4 := by simp [inB] at h1; omega
  conv => whnf
  refine .ret (validPens_ret hv hm4) rfl ?_
  conv => whnf
  cases h4 : allTo (penOk d) d.pens.length
  · conv => whnf
    rw [show validB d = false by simp [validB, h4]]
    exact .val
  conv => whnf
  refine .ret (validMobs_ret hv hm4 h4) rfl ?_
  conv => whnf
  rw [show validB d = allTo (mobOk d) d.mobs.length by simp [validB, hsz, h4]]
  exact .val
end Go.Ag
/- Layer 2: the flock. -/
namespace Go.Ag
open Go.Proofs
set_option maxRecDepth 100000

/-- A flock. -/
structure Fl where
  mobs : Nat
  least : Nat → Int
  most : Nat → Int
  left : Nat → Int
  pens : List Pn
def penCells (l : List Pn) : List CV := (l.map rowPn).flatten
def flCV (f : Fl) : CV := .agg [I f.mobs, I (f.least 0), I (f.least 1), I (f.least 2), I (f.least 3), I (f.most 0), I (f.most 1), I (f.most 2), I (f.most 3), I (f.left 0), I (f.left 1), I (f.left 2), I (f.left 3), .sl (penCells f.pens) 0 f.pens.length]
def flBlk (m : Int) (l1 l2 l3 : Nat → Int) (out : AV) : AB := .blk [.c (I m), .c (I (l1 0)), .c (I (l1 1)), .c (I (l1 2)), .c (I (l1 3)), .c (I (l2 0)), .c (I (l2 1)), .c (I (l2 2)), .c (I (l2 3)), .c (I (l3 0)), .c (I (l3 1)), .c (I (l3 2)), .c (I (l3 3)), out]

def cutF (n : Nat) (g : Nat → Int) : Nat → Int := fun i => if i < n then g i else 0
def cutPen (n : Nat) (p : Pn) : Pn := ⟨cutF n p.fr, p.lo, p.hi⟩
def flockF (d : Dr) : Fl := ⟨d.mobs.length, cutF d.mobs.length fun i => (mobAt d i).lo, cutF d.mobs.length fun i => (mobAt d i).hi, cutF d.mobs.length fun i => (mobAt d i).left, d.pens.map (cutPen d.mobs.length)⟩

theorem cutF_succ {g : Nat → Int} {n i : Nat} : cutF (n + 1) g i = if i = n then g n else cutF n g i := by
  unfold cutF
  by_cases h : i = n
  · subst h; simp
  · have : i < n + 1 ↔ i < n := by omega
    simp [this, h]

def zero14 : List AV := [AV.lit (.int .i64 0), AV.lit (.int .i64 0), AV.lit (.int .i64 0), AV.lit (.int .i64 0), AV.lit (.int .i64 0), AV.lit (.int .i64 0), AV.lit (.int .i64 0), AV.lit (.int .i64 0), AV.lit (.int .i64 0), AV.lit (.int .i64 0), AV.lit (.int .i64 0), AV.lit (.int .i64 0), AV.lit (.int .i64 0), AV.lit (.slice none 0 0)]
theorem snap_fl {H : Nat → AB} {o sz n : Nat} {cs : List CV} (hb : H o = .blk (cs.map .c)) (a0 a1 a2 a3 a4 a5 a6 a7 a8 a9 a10 a11 a12 : CV) :
    snap H (cs.length + 40) (.agg [.c a0, .c a1, .c a2, .c a3, .c a4, .c a5, .c a6, .c a7, .c a8, .c a9, .c a10, .c a11, .c a12, .msl o sz 0 n n]) = some (.agg [a0, a1, a2, a3, a4, a5, a6, a7, a8, a9, a10, a11, a12, .sl cs 0 n], [o]) := by
  simp only [snap, snaps, Option.bind_some, Option.map_some, hb]
  rw [snaps_map_c H cs _ (by omega)]
  rfl
def zero6 : List AV := [AV.lit (.int .i64 0), AV.lit (.int .i64 0), AV.lit (.int .i64 0), AV.lit (.int .i64 0), AV.lit (.int .i64 0), AV.lit (.int .i64 0)]
def fnd6 (p : Pn) : List AV := [.c (I 0), .c (I 0), .c (I 0), .c (I 0), .c (I p.lo), .c (I p.hi)]
theorem copy_pen {rd : Nat → AB} {ia ib n : Nat} {p : Pn} {lo hi : Int} (ha : rd ia = .blk (cells6 p)) (hb : rd ib = .blk [.c (I 0), .c (I 0), .c (I 0), .c (I 0), .c (I lo), .c (I hi)]) (hn : n ≤ 4) (h1 : lo = p.lo) (h2 : hi = p.hi) :
    acopy Try.prog rd 46 (.msl ib 1 (0 + 0 * 1) (4 - 0) (4 - 0)) (.msl ia 1 (0 + 0 * 1) (n - 0) (4 - 0)) = some { val := .int n, reads := [ib, ia], upds := [(ib, .blk (cells6 (cutPen n p)))] } := by
  have hu : Try.prog.underlying 46 = some (.slice 3) := by kernel_rfl
  have hs : slicePart Try.prog 3 = some 1 := by kernel_rfl
  subst h1 h2
  have hf : firstCells rd 1 (.msl ia 1 (0 + 0 * 1) (n - 0) (4 - 0)) = some ((cells6 p).take n, n, [ia]) := by
    simp only [firstCells, ha]
    obtain rfl | rfl | rfl | rfl | rfl : n = 0 ∨ n = 1 ∨ n = 2 ∨ n = 3 ∨ n = 4 := by omega
    all_goals rfl
  have hc : ((cells6 p).take n).all AV.cellish = true := by
    obtain rfl | rfl | rfl | rfl | rfl : n = 0 ∨ n = 1 ∨ n = 2 ∨ n = 3 ∨ n = 4 := by omega
    all_goals rfl
  unfold acopy
  simp only [hu, hs, hf, hc, and_self, if_true, hb]
  obtain rfl | rfl | rfl | rfl | rfl : n = 0 ∨ n = 1 ∨ n = 2 ∨ n = 3 ∨ n = 4 := by omega
  all_goals rfl

theorem arr76 {rd : Nat → AB} {id off : Nat} {cells : List AV} (hb : rd id = .blk cells) (hc : off + 4 ≤ cells.length) : aarrSlice Try.prog rd 76 (.ptr id off) none none none = some ⟨.msl id 1 (off + 0 * 1) (4 - 0) (4 - 0), [id], [], none⟩ := by
  have h1 : Try.prog.underlying 76 = some (.array 4 3) := by kernel_rfl
  have h2 : slicePart Try.prog 3 = some 1 := by kernel_rfl
  simp only [aarrSlice, h1, h2, hb]
  rw [if_pos (by omega)]
  rfl
theorem U77 : Try.prog.underlying 77 = some (.slice 108) := by kernel_rfl
theorem S108 : slicePart Try.prog 108 = some 6 := by kernel_rfl
set_option maxHeartbeats 4000000 in
theorem flockOf_ret {v : DV} {d : Dr} (hv : v.Is d) (hm4 : d.mobs.length ≤ 4) (hp : d.pens ≠ []) : Ret Try.prog 54 [v.cv] (flCV (flockF d)) := by
  have e1 := hv.pn; have e2 := hv.mn; have e3 := hv.short
  refine ret_by (hm := false) Try.func54 rfl ?_
  conv => whnf
  refine ⟨v.blk, by kernel_rfl, ?_⟩
  conv => whnf
  refine ⟨_, at_push_self _ _, ?_⟩
  conv => whnf
  refine ⟨v.blk, by kernel_rfl, ?_⟩
  conv => whnf
  refine loop_by (I := fun n st => ∃ (q : Nat) (h : Heap) (z : List AV), q ≤ d.mobs.length ∧ n = d.mobs.length - q ∧ Heap.at h 0 = v.blk ∧ Heap.at h 1 = .blk z ∧ z = zero14 ∧ Heap.at h 2 = flBlk d.mobs.length (cutF q fun i => (mobAt d i).lo) (cutF q fun i => (mobAt d i).hi) (cutF q fun i => (mobAt d i).left) nilA ∧ 2 < h.n ∧
    Has st 65 [(1, .ptr 0 0), (2, .ptr 1 0), (3, .ptr 2 0), (14, .c (.sl v.mc v.mo v.mn)), (15, .c (I v.mn)), (16, .c (I q))] [] none h) ?_ (k := d.mobs.length)
    ⟨0, _, _, Nat.zero_le _, rfl, rfl, rfl, rfl, by rw [← e2]; kernel_rfl, Nat.lt_succ_self _, rfl, ⟨rfl, rfl, rfl, rfl, rfl, rfl, trivial⟩, rfl, rfl, rfl, rfl⟩
  rintro n st ⟨q, h, z, hq, rfl, h0, h1, hz, h2, hn, hs1⟩
  refine hs1.run (hm := false) ?_
  conv => whnf
  cases hc : decide ((q : Int) < (v.mn : Int))
  case true =>
    have hq : q < d.mobs.length := by simp at hc; omega
    conv => whnf
    refine ⟨⟨by omega, by omega⟩, ?_⟩
    conv => whnf
    refine ⟨_, hv.mob hq, ?_⟩
    conv => whnf
    refine ⟨_, at_push_self _ _, ?_⟩
    conv => whnf
    refine draw_by (hm := false) (by kernel_rfl) (by kernel_rfl) ?_
    conv => whnf
    refine ⟨_, at_new _ _ _, ?_⟩
    conv => whnf
    refine ⟨_, at_new _ _ _, ?_⟩
    conv => whnf
    refine ⟨_, at_new _ _ _, ?_⟩
    conv => whnf
    have hin1 : 2 < h.n + 1 := by omega
    obtain ⟨k3, hk3⟩ : ∃ k, h.n = k + 3 := ⟨h.n - 3, by omega⟩
    obtain ⟨q1, hq1⟩ : ∃ q1, q1 = q + 1 := ⟨_, rfl⟩
    have eF : ∀ (g : Nat → Int) i, cutF q1 g i = if i = q then g q else cutF q g i := fun g i => by rw [hq1]; exact cutF_succ
    obtain rfl | rfl | rfl | rfl : q = 0 ∨ q = 1 ∨ q = 2 ∨ q = 3 := by omega
    all_goals
      conv => whnf
      refine ⟨⟨by decide, by decide, by decide⟩, ?_⟩
      conv => whnf
      refine ⟨_, (at_old _ _ _ hn).trans h2, ?_⟩
      conv => whnf
      refine ⟨hin1, ?_⟩
      conv => whnf
      refine ⟨⟨by decide, by decide, by decide⟩, ?_⟩
      conv => whnf
      refine ⟨_, at_set_self _ _ (hin1), ?_⟩
      conv => whnf
      refine ⟨hin1, ?_⟩
      conv => whnf
      refine ⟨⟨by decide, by decide, by decide⟩, ?_⟩
      conv => whnf
      refine ⟨_, at_set_self _ _ (hin1), ?_⟩
      conv => whnf
      refine ⟨hin1, ?_⟩
      conv => whnf
      refine ⟨by rw [hk3]; kernel_rfl, ?_⟩
      conv => whnf
      refine ⟨(q1 : Int), by rw [wrap_eq (by omega) (by omega)]; omega, ?_⟩
      conv => whnf
      refine ⟨d.mobs.length - q1, by omega, q1, _, z, by omega, rfl, ?_, ?_, hz, ?_, ?_, rfl, ⟨rfl, rfl, rfl, rfl, rfl, rfl, trivial⟩, rfl, rfl, rfl, rfl⟩
      · exact ((at_set_ne _ _ (by decide)).trans ((at_set_ne _ _ (by decide)).trans ((at_set_ne _ _ (by decide)).trans (at_old _ _ _ (by omega))))).trans h0
      · exact ((at_set_ne _ _ (by decide)).trans ((at_set_ne _ _ (by decide)).trans ((at_set_ne _ _ (by decide)).trans (at_old _ _ _ (by omega))))).trans h1
      · refine (at_set_self _ _ (hin1)).trans ?_
        simp [flBlk, eF]
      · exact hin1
  have hqm : q = d.mobs.length := by simp at hc; omega
  subst hqm
  conv => whnf
  refine ⟨_, h0, ?_⟩
  conv => whnf
  clear hs1 hc hq
  refine loop_by (I := fun n st => ∃ (q : Nat) (h : Heap) (z : List AV) (out : AV), q ≤ d.pens.length ∧ n = d.pens.length - q ∧ Heap.at h 0 = v.blk ∧ Heap.at h 1 = .blk z ∧ z = zero14 ∧ Heap.at h 2 = flBlk d.mobs.length (cutF d.mobs.length fun i => (mobAt d i).lo) (cutF d.mobs.length fun i => (mobAt d i).hi) (cutF d.mobs.length fun i => (mobAt d i).left) out ∧ 2 < h.n ∧
    RowsL 6 h out ((d.pens.take q).map fun p => rowPn (cutPen d.mobs.length p)) ∧ (∀ o, outId out = some o → 2 < o) ∧
    Has st 65 [(1, .ptr 0 0), (2, .ptr 1 0), (3, .ptr 2 0), (40, .c (.sl v.pc v.po v.pn)), (41, .c (I v.pn)), (42, .c (I q))] [] none h) ?_ (k := d.pens.length)
    ⟨0, h, z, nilA, Nat.zero_le _, rfl, h0, h1, hz, h2, hn, .inl ⟨rfl, rfl⟩, by simp [outId], rfl, ⟨rfl, rfl, rfl, rfl, rfl, rfl, trivial⟩, rfl, rfl, rfl, rfl⟩
  clear h0 h1 hz h2 hn
  rintro n st ⟨q, h, z, out, hq, rfl, h0, h1, hz, h2, hn, hR, hout, hs1⟩
  refine hs1.run (hm := false) ?_
  conv => whnf
  cases hc : decide ((q : Int) < (v.pn : Int))
  case true =>
    have hq : q < d.pens.length := by simp at hc; omega
    conv => whnf
    refine ⟨⟨by omega, by omega⟩, ?_⟩
    conv => whnf
    refine ⟨_, hv.pen hq, ?_⟩
    conv => whnf
    refine ⟨_, at_push_self _ _, ?_⟩
    conv => whnf
    refine ⟨_, at_new _ _ _, ?_⟩
    conv => whnf
    refine ⟨_, at_push_self _ _, ?_⟩
    conv => whnf
    refine draw_by (hm := false) (by kernel_rfl) (by kernel_rfl) ?_
    conv => whnf
    have l1 : ∀ {i : Nat} (a b c e : AB), i < h.n → Heap.at ((((h.push .dead a).set .dead h.n b).push .dead c).set .dead ((h.push .dead a).set .dead h.n b).n e) i = Heap.at h i := fun a b c e hi => (at_old _ _ _ (by rw [new_n]; omega)).trans (at_old _ _ _ hi)
    have l2 : ∀ (a b c e : AB), Heap.at ((((h.push .dead a).set .dead h.n b).push .dead c).set .dead ((h.push .dead a).set .dead h.n b).n e) h.n = b := fun a b c e => (at_old _ _ _ (by rw [new_n]; omega)).trans (at_new _ _ _)
    refine ⟨_, arr76 (at_new _ _ _) (by show 4 ≤ 6; omega), ?_⟩
    conv => whnf
    refine ⟨_, (l1 _ _ _ _ (by omega)).trans h0, ?_⟩
    conv => whnf
    refine ⟨_, arr51 (l2 _ _ _ _) (by show 4 ≤ 6; omega) (n := v.mn) (by omega), ?_⟩
    conv => whnf
    refine ⟨_, copy_pen (p := penAt d q) (l2 _ _ _ _) (at_new _ _ _) (n := v.mn) (by omega) rfl rfl, ?_⟩
    conv => whnf
    refine ⟨by simp [new_n, push_n], ?_⟩
    refine ⟨by
      cases h with
      | mk hN hT =>
        obtain ⟨k, rfl⟩ : ∃ k, hN = k + 3 := ⟨hN - 3, by have : 2 < hN := hn; omega⟩
        kernel_rfl, ?_⟩
    have l3 : ∀ {i : Nat} (a b c e f : AB), i < h.n → Heap.at (((((h.push .dead a).set .dead h.n b).push .dead c).set .dead ((h.push .dead a).set .dead h.n b).n e).set .dead ((h.push .dead a).set .dead h.n b).n f) i = Heap.at h i := fun a b c e f hi => (at_set_ne _ _ (by rw [new_n]; omega)).trans (l1 a b c e hi)
    have n3 : ∀ (a b c e f : AB), (((((h.push .dead a).set .dead h.n b).push .dead c).set .dead ((h.push .dead a).set .dead h.n b).n e).set .dead ((h.push .dead a).set .dead h.n b).n f).n = h.n + 2 := fun a b c e f => rfl
    have hrows : ((d.pens.take (q + 1)).map fun p => rowPn (cutPen d.mobs.length p)) = ((d.pens.take q).map fun p => rowPn (cutPen d.mobs.length p)) ++ [rowPn (cutPen d.mobs.length (penAt d q))] := by
      rw [List.take_add_one, penAt_get hq]; simp
    have hout2 : outId out ≠ some 2 := fun e => absurd (hout _ e) (by omega)
    have hlt := hR.lt
    have R3 := fun (a b c e f : AB) => hR.ext (h' := ((((h.push .dead a).set .dead h.n b).push .dead c).set .dead ((h.push .dead a).set .dead h.n b).n e).set .dead ((h.push .dead a).set .dead h.n b).n f) (by rw [n3]; omega) (fun i hi _ => l3 a b c e f hi)
    have hrl : ∀ r ∈ (d.pens.take q).map (fun p => rowPn (cutPen d.mobs.length p)), r.length = 6 := by intro r hr; simp only [List.mem_map] at hr; obtain ⟨p, _, rfl⟩ := hr; rfl
    have hlim : ((d.pens.take q).map (fun p => rowPn (cutPen d.mobs.length p))).length + 1 ≤ limit := by simp only [List.length_map, List.length_take]; unfold limit; omega
    rcases hR.shape with rfl | ⟨o, m, rfl⟩
    all_goals
      conv => whnf
      refine ⟨_, (l3 _ _ _ _ _ (by omega)).trans h2, ?_⟩
      conv => whnf
      refine ⟨_, at_set_self _ _ (by show h.n + 1 < h.n + 2; omega), ?_⟩
      conv => whnf
      obtain ⟨r, hr, hR', hold, hn', hfresh⟩ := rows_append (row := rowPn (cutPen v.mn (penAt d q))) (t := 77) (u := 77) (R3 (.blk zero6) (.blk (cells6 (penAt d q))) (.blk zero6) (.blk (fnd6 (penAt d q))) (.blk (cells6 (cutPen v.mn (penAt d q))))) U77 U77 rfl S108 rfl hrl rfl hlim
      obtain ⟨rv, rreads, rupds, rfresh⟩ := r
      have hne2 : outId rv ≠ some 2 := fun e => absurd (hfresh _ e) (by show ¬ h.n + 2 ≤ 2; omega)
      have h1' := (hold 1 (by show 1 < h.n + 2; omega) (fun e => absurd (hout _ e) (by omega))).trans ((l3 _ _ _ _ _ (by omega)).trans h1)
      have h0' := (hold 0 (by show 0 < h.n + 2; omega) (fun e => absurd (hout _ e) (by omega))).trans ((l3 _ _ _ _ _ (by omega)).trans h0)
      have h2' := (hold 2 (by show 2 < h.n + 2; omega) hout2).trans ((l3 _ _ _ _ _ (by omega)).trans h2)
      have hnn : h.n + 2 ≤ (after (TMap.push .dead (((((h.push .dead (.blk zero6)).set .dead h.n (.blk (cells6 (penAt d q)))).push .dead (.blk zero6)).set .dead ((h.push .dead (.blk zero6)).set .dead h.n (.blk (cells6 (penAt d q)))).n (.blk (fnd6 (penAt d q)))).set .dead ((h.push .dead (.blk zero6)).set .dead h.n (.blk (cells6 (penAt d q)))).n (.blk (cells6 (cutPen v.mn (penAt d q))))) (.blk ((rowPn (cutPen v.mn (penAt d q))).map .c))) ⟨rv, rreads, rupds, rfresh⟩).n := hn'
      have h2n := Nat.lt_of_lt_of_le (show 2 < h.n + 2 by omega) hnn
      have hR2 := hR'.set hne2 (flBlk d.mobs.length (cutF d.mobs.length fun i => (mobAt d i).lo) (cutF d.mobs.length fun i => (mobAt d i).hi) (cutF d.mobs.length fun i => (mobAt d i).left) rv)
      rcases hR' with ⟨_, hh⟩ | ⟨o', ho', hb', hlt', hne'⟩
      · exact absurd hh (by simp)
      simp only at ho'
      subst ho'
      refine ⟨_, hr, ?_⟩
      conv => whnf
      refine ⟨_, h2', ?_⟩
      conv => whnf
      refine ⟨((q + 1 : Nat) : Int), by rw [wrap_eq (by omega) (by omega)]; omega, ?_⟩
      conv => whnf
      refine ⟨d.pens.length - (q + 1), by omega, q + 1, _, z, _, by omega, rfl, ?_, ?_, hz, at_set_self _ _ h2n, ?_, ?_, ?_, rfl, ⟨rfl, rfl, rfl, rfl, rfl, rfl, trivial⟩, rfl, rfl, rfl, rfl⟩
      · exact (at_set_ne _ _ (by decide)).trans h0'
      · exact (at_set_ne _ _ (by decide)).trans h1'
      · exact h2n
      · rw [hrows, ← e2]; rw [← e2] at hR2; exact hR2
      · intro o ho; have := hfresh o ho; have : h.n + 2 ≤ o := this; omega
  have hqp : q = d.pens.length := by simp at hc; omega
  subst hqp
  rcases hR with ⟨_, hh⟩ | ⟨o, rfl, hb, hlt, hne⟩
  · exact absurd (by simpa using hh) hp
  subst hz
  have ho := hout o rfl
  have hlen : ((d.pens.take d.pens.length).map fun p => rowPn (cutPen d.mobs.length p)).length = (flockF d).pens.length := by simp [flockF]
  have hflat : ((d.pens.take d.pens.length).map fun p => rowPn (cutPen d.mobs.length p)).flatten = penCells (flockF d).pens := by simp [penCells, flockF, List.map_map, Function.comp_def]
  rw [hlen] at h2
  rw [hflat] at hb
  conv => whnf
  refine ⟨_, h2, ?_⟩
  conv => whnf
  refine ⟨_, h1, ?_⟩
  conv => whnf
  refine ⟨_, at_set_self _ _ (by omega), ?_⟩
  conv => whnf
  exact ⟨_, [o], snap_fl (H := Heap.at (h.set .dead 1 _)) (cs := penCells (flockF d).pens) ((at_set_ne _ _ (by omega)).trans hb) _ _ _ _ _ _ _ _ _ _ _ _ _⟩
end Go.Ag
/- Layer 2: cuts of the flow. -/
namespace Go.Ag
open Go.Proofs
set_option maxRecDepth 100000

theorem pen_sl : ∀ {l : List Pn} {k : Nat} {p : Pn}, l[k]? = some p → sliceOf (penCells l) (k * 6) 6 = some (rowPn p)
  | [], k, p, h => by simp at h
  | a :: l, 0, p, h => by
    simp only [List.getElem?_cons_zero, Option.some.injEq] at h
    subst h
    have e : (penCells (a :: l)) = rowPn a ++ penCells l := rfl
    simp only [sliceOf, Nat.zero_mul, List.drop_zero, e]
    have : List.take 6 (rowPn a ++ penCells l) = rowPn a := rfl
    rw [this]; rfl
  | a :: l, k + 1, p, h => by
    have ih := pen_sl (l := l) (k := k) (p := p) (by simpa using h)
    have e : (penCells (a :: l)) = rowPn a ++ penCells l := rfl
    have e2 : (k + 1) * 6 = k * 6 + 6 := by omega
    have e3 : List.drop (k * 6 + 6) (rowPn a ++ penCells l) = List.drop (k * 6) (penCells l) := by
      rw [Nat.add_comm, ← List.drop_drop]; rfl
    simp only [sliceOf, e, e2, e3] at ih ⊢
    exact ih
def penF (f : Fl) (k : Nat) : Pn := f.pens.getD k default
theorem penF_get {f : Fl} {k : Nat} (h : k < f.pens.length) : f.pens[k]? = some (penF f k) := by simp [penF, h]
theorem rv108 (cells : List CV) (off : Nat) : readVarC Try.prog 108 cells off = (sliceOf cells off 6).map .agg := rfl
theorem fl_pen {f : Fl} {k : Nat} (h : k < f.pens.length) : readVarC Try.prog 108 (penCells f.pens) (0 + (k : Int).toNat * 6) = some (.agg (rowPn (penF f k))) := by
  rw [rv108, Nat.zero_add, Int.toNat_natCast, pen_sl (penF_get h)]; rfl

def smallI (x : Int) : Prop := -10000 ≤ x ∧ x ≤ 10000
structure FlOk (f : Fl) : Prop where
  mobs : f.mobs ≤ 4
  least : ∀ i, smallI (f.least i)
  most : ∀ i, smallI (f.most i)
  left : ∀ i, smallI (f.left i)
  pens : f.pens.length ≤ 5
  fr : ∀ k i, smallI ((penF f k).fr i)
  lo : ∀ k, smallI (penF f k).lo
  hi : ∀ k, smallI (penF f k).hi
theorem smallI.tame {x : Int} (h : smallI x) : tame x := by unfold smallI at h; unfold Go.Ag.tame; omega
theorem among_bound {g : Nat → Int} (h : ∀ i, smallI (g i)) (s : Nat) : -40000 ≤ among g s ∧ among g s ≤ 40000 := by
  have h1 := fun i => h i
  have b := sumTo_bound (f := ofSet g s) (b := 10000) 4 (fun i _ => by unfold ofSet; have := h i; unfold smallI at this; split <;> omega)
  unfold among sum4
  omega

def flBlkC (f : Fl) : AB := flBlk f.mobs f.least f.most f.left (.c (.sl (penCells f.pens) 0 f.pens.length))

def othersOf (m s : Nat) : Nat := (2 ^ m - 1) - s
theorem others_eq {m s : Nat} (hm : m ≤ 4) (hs : s < 2 ^ m) : IntKind.i64.wrap ((BitVec.ofInt 64 ((2 ^ m - 1 : Nat) : Int) &&& ~~~BitVec.ofInt 64 (s : Int)).toNat : Int) = ((othersOf m s : Nat) : Int) := by
  have key : ∀ m : Nat, m < 5 → ∀ s : Nat, s < 2 ^ m → IntKind.i64.wrap ((BitVec.ofInt 64 ((2 ^ m - 1 : Nat) : Int) &&& ~~~BitVec.ofInt 64 (s : Int)).toNat : Int) = ((othersOf m s : Nat) : Int) := by decide
  exact key m (by omega) s hs

def needF (f : Fl) (s : Nat) : Int := sumTo (fun k => max 0 ((penF f k).lo - among (penF f k).fr (othersOf f.mobs s))) f.pens.length
def roomF (f : Fl) (s : Nat) : Int := among f.left s + sumTo (fun k => min (penF f k).hi (among (penF f k).fr s)) f.pens.length

theorem pow_small {m s : Nat} (hm : m ≤ 4) (hs : s < 2 ^ m) : s < 16 ∧ 2 ^ m ≤ 16 := by
  have : 2 ^ m ≤ 2 ^ 4 := Nat.pow_le_pow_right (by omega) hm
  omega

theorem need_ret {f : Fl} (hf : FlOk f) {s : Nat} (hs : s < 2 ^ f.mobs) : Ret Try.prog 88 [flCV f, I s] (I (needF f s)) := by
  have hm := hf.mobs; have hp := hf.pens
  have h16 := pow_small hm hs
  have ho : othersOf f.mobs s < 16 := by unfold othersOf; omega
  have bt : ∀ k, 0 ≤ max 0 ((penF f k).lo - among (penF f k).fr (othersOf f.mobs s)) ∧ max 0 ((penF f k).lo - among (penF f k).fr (othersOf f.mobs s)) ≤ 50000 := fun k => by
    have h1 := among_bound (hf.fr k) (othersOf f.mobs s)
    have h2 := hf.lo k
    unfold smallI at h2
    omega
  have bs : ∀ q, -(q * 50000) ≤ sumTo (fun k => max 0 ((penF f k).lo - among (penF f k).fr (othersOf f.mobs s))) q ∧ sumTo (fun k => max 0 ((penF f k).lo - among (penF f k).fr (othersOf f.mobs s))) q ≤ q * 50000 := fun q => sumTo_bound q fun i _ => by have := bt i; omega
  refine ret_by (hm := false) Try.func88 rfl ?_
  conv => whnf
  refine ⟨flBlkC f, rfl, ?_⟩
  conv => whnf
  refine .ret (allOf_ret f.mobs (by omega)) rfl ?_
  conv => whnf
  refine ⟨_, others_eq hm hs, ?_⟩
  conv => whnf
  refine ⟨flBlkC f, rfl, ?_⟩
  conv => whnf
  refine loop_by (I := fun n st => ∃ (q : Nat) (h : Heap), q ≤ f.pens.length ∧ n = f.pens.length - q ∧ 0 < h.n ∧
    Has st 34 [(5, .c (I (othersOf f.mobs s))), (6, .c (I (sumTo (fun k => max 0 ((penF f k).lo - among (penF f k).fr (othersOf f.mobs s))) q))), (15, .c (.sl (penCells f.pens) 0 f.pens.length)), (16, .c (I f.pens.length)), (17, .c (I q))] [] none h) ?_ (k := f.pens.length)
    ⟨0, _, Nat.zero_le _, rfl, Nat.lt_succ_self 0, rfl, ⟨rfl, rfl, rfl, rfl, rfl, trivial⟩, rfl, rfl, rfl, rfl⟩
  rintro n st ⟨q, h, hq, rfl, hn, hs1⟩
  refine hs1.run (hm := false) ?_
  conv => whnf
  cases hc : decide ((q : Int) < (f.pens.length : Int))
  case true =>
    have hq : q < f.pens.length := by simp at hc; omega
    have b1 := bt q; have b2 := bs q
    have b3 := among_bound (hf.fr q) (othersOf f.mobs s)
    have b4 := hf.lo q
    unfold smallI at b4
    conv => whnf
    refine ⟨⟨by omega, by omega⟩, ?_⟩
    conv => whnf
    refine ⟨_, fl_pen hq, ?_⟩
    conv => whnf
    refine ⟨_, at_push_self _ _, ?_⟩
    conv => whnf
    refine draw_by (hm := false) (by kernel_rfl) (by kernel_rfl) ?_
    conv => whnf
    refine ⟨_, at_new _ _ _, ?_⟩
    conv => whnf
    refine ⟨_, at_new _ _ _, ?_⟩
    conv => whnf
    refine .ret (among_ret (penF f q).fr (othersOf f.mobs s) (by omega) (fun i _ => (hf.fr q i).tame)) rfl ?_
    conv => whnf
    refine ⟨(penF f q).lo - among (penF f q).fr (othersOf f.mobs s), wrap_eq (by omega) (by omega), ?_⟩
    conv => whnf
    refine ⟨sumTo (fun k => max 0 ((penF f k).lo - among (penF f k).fr (othersOf f.mobs s))) (q + 1), by rw [wrap_eq (by omega) (by omega)]; rfl, ?_⟩
    conv => whnf
    refine ⟨by kernel_rfl, ?_⟩
    conv => whnf
    refine ⟨((q + 1 : Nat) : Int), by rw [wrap_eq (by omega) (by omega)]; omega, ?_⟩
    conv => whnf
    exact ⟨f.pens.length - (q + 1), by omega, q + 1, _, by omega, rfl, Nat.succ_pos _, rfl, ⟨rfl, rfl, rfl, rfl, rfl, trivial⟩, rfl, rfl, rfl, rfl⟩
  have : q = f.pens.length := by simp at hc; omega
  subst this
  conv => whnf
  exact .val

theorem room_ret {f : Fl} (hf : FlOk f) {s : Nat} (hs : s < 2 ^ f.mobs) : Ret Try.prog 89 [flCV f, I s] (I (roomF f s)) := by
  have hm := hf.mobs; have hp := hf.pens
  have h16 := pow_small hm hs
  have bt : ∀ k, -50000 ≤ min (penF f k).hi (among (penF f k).fr s) ∧ min (penF f k).hi (among (penF f k).fr s) ≤ 50000 := fun k => by
    have h1 := among_bound (hf.fr k) s
    have h2 := hf.hi k
    unfold smallI at h2
    omega
  have bl := among_bound hf.left s
  have bs : ∀ q, -(q * 50000) ≤ sumTo (fun k => min (penF f k).hi (among (penF f k).fr s)) q ∧ sumTo (fun k => min (penF f k).hi (among (penF f k).fr s)) q ≤ q * 50000 := fun q => sumTo_bound q fun i _ => by have := bt i; omega
  refine ret_by (hm := false) Try.func89 rfl ?_
  conv => whnf
  refine ⟨flBlkC f, rfl, ?_⟩
  conv => whnf
  refine .ret (among_ret f.left s (by omega) (fun i _ => (hf.left i).tame)) rfl ?_
  conv => whnf
  refine ⟨flBlkC f, rfl, ?_⟩
  conv => whnf
  refine loop_by (I := fun n st => ∃ (q : Nat) (h : Heap), q ≤ f.pens.length ∧ n = f.pens.length - q ∧ 0 < h.n ∧
    Has st 31 [(1, .c (I s)), (5, .c (I (among f.left s + sumTo (fun k => min (penF f k).hi (among (penF f k).fr s)) q))), (13, .c (.sl (penCells f.pens) 0 f.pens.length)), (14, .c (I f.pens.length)), (15, .c (I q))] [] none h) ?_ (k := f.pens.length)
    ⟨0, _, Nat.zero_le _, rfl, Nat.lt_succ_self 0, rfl, ⟨rfl, by simp [sumTo]; rfl, rfl, rfl, rfl, trivial⟩, rfl, rfl, rfl, rfl⟩
  rintro n st ⟨q, h, hq, rfl, hn, hs1⟩
  refine hs1.run (hm := false) ?_
  conv => whnf
  cases hc : decide ((q : Int) < (f.pens.length : Int))
  case true =>
    have hq : q < f.pens.length := by simp at hc; omega
    have b1 := bt q; have b2 := bs q
    have b3 := among_bound (hf.fr q) s
    have b4 := hf.hi q
    unfold smallI at b4
    conv => whnf
    refine ⟨⟨by omega, by omega⟩, ?_⟩
    conv => whnf
    refine ⟨_, fl_pen hq, ?_⟩
    conv => whnf
    refine ⟨_, at_push_self _ _, ?_⟩
    conv => whnf
    refine draw_by (hm := false) (by kernel_rfl) (by kernel_rfl) ?_
    conv => whnf
    refine ⟨_, at_new _ _ _, ?_⟩
    conv => whnf
    refine ⟨_, at_new _ _ _, ?_⟩
    conv => whnf
    refine .ret (among_ret (penF f q).fr s (by omega) (fun i _ => (hf.fr q i).tame)) rfl ?_
    conv => whnf
    refine ⟨among f.left s + sumTo (fun k => min (penF f k).hi (among (penF f k).fr s)) (q + 1), by rw [wrap_eq (by omega) (by omega)]; simp only [sumTo]; omega, ?_⟩
    conv => whnf
    refine ⟨by kernel_rfl, ?_⟩
    conv => whnf
    refine ⟨((q + 1 : Nat) : Int), by rw [wrap_eq (by omega) (by omega)]; omega, ?_⟩
    conv => whnf
    exact ⟨f.pens.length - (q + 1), by omega, q + 1, _, by omega, rfl, Nat.succ_pos _, rfl, ⟨rfl, rfl, rfl, rfl, rfl, trivial⟩, rfl, rfl, rfl, rfl⟩
  have : q = f.pens.length := by simp at hc; omega
  subst this
  conv => whnf
  exact .val
end Go.Ag
/- Layer 2: iterators. -/
namespace Go.Ag
open Go.Proofs
set_option maxRecDepth 100000

def upN (lo hi : Int) : Nat := (hi - lo + 1).toNat
/-- The integers from lo on, or down from hi, the last n - j of n. -/
def upL (lo : Int) (n j : Nat) : List CV := (List.range' j (n - j)).map fun i : Nat => I (lo + i)
def downL (hi : Int) (n j : Nat) : List CV := (List.range' j (n - j)).map fun i : Nat => I (hi - i)
theorem upL_cons {lo : Int} {n j : Nat} (h : j < n) : upL lo n j = I (lo + j) :: upL lo n (j + 1) := by
  unfold upL
  have : n - j = (n - (j + 1)) + 1 := by omega
  rw [this, List.range'_succ]; rfl
theorem upL_nil {lo : Int} {n j : Nat} (h : n ≤ j) : upL lo n j = [] := by
  unfold upL; rw [show n - j = 0 by omega]; rfl
theorem downL_cons {hi : Int} {n j : Nat} (h : j < n) : downL hi n j = I (hi - j) :: downL hi n (j + 1) := by
  unfold downL
  have : n - j = (n - (j + 1)) + 1 := by omega
  rw [this, List.range'_succ]; rfl
theorem downL_nil {hi : Int} {n j : Nat} (h : n ≤ j) : downL hi n j = [] := by
  unfold downL; rw [show n - j = 0 by omega]; rfl

def spanP (lo hi : Int) : CV := .cptr [I lo, I hi] 0
def upC (lo hi : Int) : CV := .func (.func 107) [] [spanP lo hi]
def downC (lo hi : Int) : CV := .func (.func 108) [] [spanP lo hi]

theorem up_iter {lo hi : Int} (h1 : tame lo) (h2 : tame hi) : IterC Try.prog (upC lo hi) (upL lo (upN lo hi) 0) := by
  refine ⟨107, [], [spanP lo hi], rfl, by kernel_rfl, fun id n0 J D X R hid h hn hJ => ?_⟩
  unfold tame at h1 h2
  refine call_by (hm := false) Try.func107 rfl ?_
  conv => whnf
  refine ⟨_, rfl, ?_⟩
  conv => whnf
  refine loop_by (I := fun k s => ∃ (j : Nat) (h : Heap), j ≤ upN lo hi ∧ k = upN lo hi - j ∧ n0 ≤ h.n ∧ J (upL lo (upN lo hi) j) h ∧ Has s 16 [(0, .yield id), (1, .c (spanP lo hi)), (3, .c (I (lo + j)))] [] none h) ?_ (k := upN lo hi)
    ⟨0, _, Nat.zero_le _, rfl, hn, hJ, rfl, ⟨rfl, rfl, by simp; rfl, trivial⟩, rfl, rfl, rfl, rfl⟩
  rintro k s ⟨j, h, hj, rfl, hn, hJ, hs⟩
  refine hs.run (hm := false) ?_
  conv => whnf
  refine ⟨_, rfl, ?_⟩
  conv => whnf
  cases hc : decide (lo + (j : Int) ≤ hi)
  case true =>
    have hj : j < upN lo hi := by unfold upN; simp at hc; omega
    rw [upL_cons hj] at hJ
    conv => whnf
    refine .mk ((R.round _ _ _ hJ hn).mono ?_ ?_)
    · rintro b h' ⟨hf, hk⟩
      have hn' : n0 ≤ h'.n := Nat.le_trans hn hf.n
      cases b
      · conv => whnf
        exact ⟨hn', .inr hk⟩
      · have : j < upN lo hi := hj
        simp at hc
        conv => whnf
        refine ⟨lo + ((j + 1 : Nat) : Int), by rw [wrap_eq (by omega) (by omega)]; omega, ?_⟩
        conv => whnf
        exact ⟨upN lo hi - (j + 1), by omega, j + 1, h', by omega, rfl, hn', hk, rfl, ⟨rfl, rfl, rfl, trivial⟩, rfl, rfl, rfl, rfl⟩
    · rintro v h' ⟨hx, hn', _⟩
      exact ⟨hn', hx⟩
  have hj : upN lo hi ≤ j := by unfold upN; simp at hc; omega
  rw [upL_nil hj] at hJ
  conv => whnf
  exact ⟨hn, .inl hJ⟩

theorem down_iter {lo hi : Int} (h1 : tame lo) (h2 : tame hi) : IterC Try.prog (downC lo hi) (downL hi (upN lo hi) 0) := by
  refine ⟨108, [], [spanP lo hi], rfl, by kernel_rfl, fun id n0 J D X R hid h hn hJ => ?_⟩
  unfold tame at h1 h2
  refine call_by (hm := false) Try.func108 rfl ?_
  conv => whnf
  refine ⟨_, rfl, ?_⟩
  conv => whnf
  refine loop_by (I := fun k s => ∃ (j : Nat) (h : Heap), j ≤ upN lo hi ∧ k = upN lo hi - j ∧ n0 ≤ h.n ∧ J (downL hi (upN lo hi) j) h ∧ Has s 16 [(0, .yield id), (1, .c (spanP lo hi)), (3, .c (I (hi - j)))] [] none h) ?_ (k := upN lo hi)
    ⟨0, _, Nat.zero_le _, rfl, hn, hJ, rfl, ⟨rfl, rfl, by simp; rfl, trivial⟩, rfl, rfl, rfl, rfl⟩
  rintro k s ⟨j, h, hj, rfl, hn, hJ, hs⟩
  refine hs.run (hm := false) ?_
  conv => whnf
  refine ⟨_, rfl, ?_⟩
  conv => whnf
  cases hc : decide (hi - (j : Int) ≥ lo)
  case true =>
    have hj : j < upN lo hi := by unfold upN; simp at hc; omega
    rw [downL_cons hj] at hJ
    conv => whnf
    refine .mk ((R.round _ _ _ hJ hn).mono ?_ ?_)
    · rintro b h' ⟨hf, hk⟩
      have hn' : n0 ≤ h'.n := Nat.le_trans hn hf.n
      cases b
      · conv => whnf
        exact ⟨hn', .inr hk⟩
      · simp at hc
        conv => whnf
        refine ⟨hi - ((j + 1 : Nat) : Int), by rw [wrap_eq (by omega) (by omega)]; omega, ?_⟩
        conv => whnf
        exact ⟨upN lo hi - (j + 1), by omega, j + 1, h', by omega, rfl, hn', hk, rfl, ⟨rfl, rfl, rfl, trivial⟩, rfl, rfl, rfl, rfl⟩
    · rintro v h' ⟨hx, hn', _⟩
      exact ⟨hn', hx⟩
  have hj : upN lo hi ≤ j := by unfold upN; simp at hc; omega
  rw [downL_nil hj] at hJ
  conv => whnf
  exact ⟨hn, .inl hJ⟩

theorem up_ret (lo hi : Int) : Ret Try.prog 99 [.agg [I lo, I hi]] (upC lo hi) := by
  refine ret_by (hm := true) Try.func99 rfl ?_
  conv => whnf
  exact ⟨10, [0], rfl⟩
theorem down_ret (lo hi : Int) : Ret Try.prog 100 [.agg [I lo, I hi]] (downC lo hi) := by
  refine ret_by (hm := true) Try.func100 rfl ?_
  conv => whnf
  exact ⟨10, [0], rfl⟩
theorem sets_ret (n : Nat) (hn : n < 62) : Ret Try.prog 86 [I n] (upC 0 ((2 ^ n - 1 : Nat) : Int)) := by
  refine ret_by (hm := true) Try.func86 rfl ?_
  conv => whnf
  refine .ret (allOf_ret n hn) rfl ?_
  conv => whnf
  refine .ret (up_ret _ _) rfl ?_
  conv => whnf
  exact .val
end Go.Ag
