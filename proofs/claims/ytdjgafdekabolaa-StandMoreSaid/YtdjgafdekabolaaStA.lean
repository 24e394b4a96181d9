/- Stands as data; contracts of functions of layer 4: what is valid, the day of a shearer, what is measured of it, all shearers, days in a map. No conditions. -/
import Derived.Test.YtdjgafdekabolaaAgE
import Derived.Test.YtdjgafdekabolaaProg
/- Layer 4: stands as data; the day of a shearer; what is returned. -/
namespace Go.Ag

/-- How long a sheep of each kind takes. -/
structure T3 where
  a : Int
  b : Int
  c : Int
  deriving DecidableEq
def T3.get (t : T3) : Nat → Int
  | 0 => t.a
  | 1 => t.b
  | _ => t.c
structure Ru where
  start : Int
  bell : Int
structure Lk where
  minute : Int
  lo : Int
  hi : Int
structure Sd where
  lo : T3
  hi : T3
  runs : List Ru
  sheep : List Int
  looks : List Lk

/-- A sheep that is shorn. -/
structure Sh where
  run : Nat
  done : Int

/-- The first run from one on whose bell has not rung. -/
def adv (runs : List Ru) (free : Int) : Nat → Nat → Nat
  | 0, r => r
  | f + 1, r => match runs[r]? with
    | some x => if x.bell ≤ free then adv runs free f (r + 1) else r
    | none => r
theorem adv_le (runs : List Ru) (free : Int) : ∀ f r, r ≤ runs.length → adv runs free f r ≤ runs.length
  | 0, r, h => h
  | f + 1, r, h => by
    unfold adv
    split
    · rename_i x hx
      have hr : r < runs.length := by
        rcases Nat.lt_or_ge r runs.length with h | h
        · exact h
        · rw [List.getElem?_eq_none h] at hx; cases hx
      split
      · exact adv_le runs free f (r + 1) hr
      · exact h
    · exact h
theorem adv_ge (runs : List Ru) (free : Int) : ∀ f r, r ≤ adv runs free f r
  | 0, r => Nat.le_refl r
  | f + 1, r => by
    unfold adv
    split
    · split
      · exact Nat.le_trans (Nat.le_succ r) (adv_ge runs free f (r + 1))
      · exact Nat.le_refl r
    · exact Nat.le_refl r
/-- The run in which the next sheep is begun. -/
def nextRun (runs : List Ru) (free : Int) (r : Nat) : Nat := adv runs free (runs.length - r) r

/-- The day from a sheep on. -/
def dayF (runs : List Ru) (t : T3) : List Int → Nat → Int → List Sh
  | [], _, _ => []
  | k :: ks, run, free => match runs[nextRun runs free run]? with
    | none => []
    | some x => ⟨nextRun runs free run, max free x.start + t.get k.toNat⟩ :: dayF runs t ks (nextRun runs free run) (max free x.start + t.get k.toNat)
def dayOf (s : Sd) (t : T3) : List Sh := dayF s.runs t s.sheep 0 0

/-- What can be measured of a day. -/
inductive Me where
  | doneAt (sheep : Nat)
  | doneBy (minute : Int)
  | begun (first last : Int)
  | past (first last : Int) (minute : Int)
def inRuns (a b : Int) (d : List Sh) : List Sh := d.filter fun x => inB x.run a b
def latest (minute : Int) (l : List Sh) : Int := l.foldl (fun m x => max m (x.done - minute)) 0
def Me.of (d : List Sh) : Me → Int
  | .doneAt k => match d[k]? with
    | some x => x.done
    | none => 1000
  | .doneBy n => (d.countP fun x => decide (x.done ≤ n) : Nat)
  | .begun a b => (inRuns a b d).length
  | .past a b n => latest n (inRuns a b d)

def agrees (d : List Sh) (l : Lk) : Bool := inB (Me.of d (.doneBy l.minute)) l.lo l.hi

/-- The numbers from one to another one. -/
def intsN (lo : Int) (n : Nat) : List Int := (List.range n).map fun i : Nat => lo + i
def ints (lo hi : Int) : List Int := intsN lo (hi + 1 - lo).toNat
theorem mem_intsN {lo x : Int} {n : Nat} : x ∈ intsN lo n ↔ lo ≤ x ∧ x < lo + n := by
  unfold intsN
  simp only [List.mem_map, List.mem_range]
  constructor
  · rintro ⟨i, h, rfl⟩; omega
  · rintro ⟨h1, h2⟩; exact ⟨(x - lo).toNat, by omega, by omega⟩
theorem mem_ints {lo hi x : Int} : x ∈ ints lo hi ↔ lo ≤ x ∧ x ≤ hi := by
  unfold ints; rw [mem_intsN]; omega
theorem ints_cons {lo hi : Int} (h : lo ≤ hi) : ints lo hi = lo :: ints (lo + 1) hi := by
  unfold ints intsN
  obtain ⟨n, hn⟩ : ∃ n, (hi + 1 - lo).toNat = n + 1 := ⟨(hi - lo).toNat, by omega⟩
  have h2 : (hi + 1 - (lo + 1)).toNat = n := by omega
  rw [hn, h2, List.range_succ_eq_map]
  simp only [List.map_cons, List.map_map, List.cons.injEq]
  refine ⟨by simp, ?_⟩
  apply List.map_congr_left
  intro a _
  simp; omega
theorem ints_nil {lo hi : Int} (h : hi < lo) : ints lo hi = [] := by
  unfold ints
  rw [show (hi + 1 - lo).toNat = 0 by omega]; rfl

/-- All shearers that there can be. -/
def combos (s : Sd) : List T3 := (ints s.lo.a s.hi.a).flatMap fun a => (ints s.lo.b s.hi.b).flatMap fun b => (ints s.lo.c s.hi.c).map fun c => ⟨a, b, c⟩
theorem mem_combos {s : Sd} {t : T3} : t ∈ combos s ↔ (s.lo.a ≤ t.a ∧ t.a ≤ s.hi.a) ∧ (s.lo.b ≤ t.b ∧ t.b ≤ s.hi.b) ∧ (s.lo.c ≤ t.c ∧ t.c ≤ s.hi.c) := by
  unfold combos
  simp only [List.mem_flatMap, List.mem_map, mem_ints]
  constructor
  · rintro ⟨a, h1, b, h2, c, h3, rfl⟩; exact ⟨h1, h2, h3⟩
  · rintro ⟨h1, h2, h3⟩; exact ⟨t.a, h1, t.b, h2, t.c, h3, rfl⟩

/-- With which looks are right. -/
def fits (s : Sd) (looks : List Lk) (t : T3) : Bool := looks.all (agrees (dayOf s t))
def truthsS (s : Sd) (looks : List Lk) : List T3 := (combos s).filter (fits s looks)

/-- The least span of some numbers. -/
def hullF : List Int → Option (Int × Int)
  | [] => none
  | a :: l => some (l.foldl min a, l.foldl max a)
theorem foldl_min : ∀ (l : List Int) (a : Int), l.foldl min a ≤ a ∧ (∀ x ∈ l, l.foldl min a ≤ x) ∧ (l.foldl min a = a ∨ l.foldl min a ∈ l)
  | [], a => ⟨Int.le_refl a, by simp, .inl rfl⟩
  | b :: l, a => by
    obtain ⟨h1, h2, h3⟩ := foldl_min l (min a b)
    simp only [List.foldl_cons, List.mem_cons]
    refine ⟨by omega, ?_, ?_⟩
    · rintro x (rfl | hx)
      · omega
      · exact h2 x hx
    · rcases h3 with h3 | h3
      · rw [h3]
        rcases Int.le_total a b with h | h
        · left; omega
        · right; left; omega
      · exact .inr (.inr h3)
theorem foldl_max : ∀ (l : List Int) (a : Int), a ≤ l.foldl max a ∧ (∀ x ∈ l, x ≤ l.foldl max a) ∧ (l.foldl max a = a ∨ l.foldl max a ∈ l)
  | [], a => ⟨Int.le_refl a, by simp, .inl rfl⟩
  | b :: l, a => by
    obtain ⟨h1, h2, h3⟩ := foldl_max l (max a b)
    simp only [List.foldl_cons, List.mem_cons]
    refine ⟨by omega, ?_, ?_⟩
    · rintro x (rfl | hx)
      · omega
      · exact h2 x hx
    · rcases h3 with h3 | h3
      · rw [h3]
        rcases Int.le_total a b with h | h
        · right; left; omega
        · left; omega
      · exact .inr (.inr h3)
theorem hull_some {l : List Int} {p : Int × Int} (h : hullF l = some p) : p.1 ∈ l ∧ p.2 ∈ l ∧ ∀ x ∈ l, p.1 ≤ x ∧ x ≤ p.2 := by
  cases l with
  | nil => cases h
  | cons a l =>
    simp only [hullF, Option.some.injEq] at h
    subst h
    obtain ⟨h1, h2, h3⟩ := foldl_min l a
    obtain ⟨k1, k2, k3⟩ := foldl_max l a
    simp only [List.mem_cons]
    refine ⟨h3, k3, ?_⟩
    rintro x (rfl | hx)
    · exact ⟨h1, k1⟩
    · exact ⟨h2 x hx, k2 x hx⟩
theorem hull_none {l : List Int} : hullF l = none ↔ l = [] := by
  cases l <;> simp [hullF]

/-- A span of what is asked, over all truths. -/
def spanS (s : Sd) (f : T3 → Int) : Option (Int × Int) := hullF ((truthsS s s.looks).map f)
end Go.Ag
/- Layer 4: small functions; stands as arguments. -/
namespace Go.Ag
open Go.Proofs
set_option maxRecDepth 100000

theorem within_ret (n lo hi : Int) : Ret Try.prog 50 [I n, I lo, I hi] (B (inB n lo hi)) := by
  refine ret_by (hm := true) Try.func50 rfl ?_
  conv => whnf
  unfold inB
  cases h : decide (lo ≤ n)
  · conv => whnf
    exact .val
  · conv => whnf
    exact .val

def spanB (a b low high : Int) : Bool := decide (low ≤ a) && decide (a ≤ b) && decide (b ≤ high)
theorem spanWithin_ret (a b low high : Int) : Ret Try.prog 116 [.agg [I a, I b], I low, I high] (B (spanB a b low high)) := by
  refine ret_by (hm := true) Try.func116 rfl ?_
  conv => whnf
  unfold spanB
  cases h1 : decide (low ≤ a)
  · conv => whnf
    simp only [Bool.false_and]
    exact .val
  conv => whnf
  cases h2 : decide (a ≤ b)
  · conv => whnf
    simp only [Bool.false_and, Bool.and_false]
    exact .val
  conv => whnf
  simp only [Bool.true_and]
  exact .val
theorem isKind_ret (n : Int) : Ret Try.prog 57 [I n] (B (inB n 0 2)) := by
  refine ret_by (hm := true) Try.func57 rfl ?_
  conv => whnf
  refine .ret (within_ret _ _ _) rfl ?_
  conv => whnf
  exact .val

def T3.cells (t : T3) : List CV := [I t.a, I t.b, I t.c]
def T3.cv (t : T3) : CV := .agg [I t.a, I t.b, I t.c]
def rowRu (r : Ru) : List CV := [I r.start, I r.bell]
def rowLk (l : Lk) : List CV := [I l.minute, I l.lo, I l.hi]
def rowK (k : Int) : List CV := [I k]

structure SV where
  lo : T3
  hi : T3
  rc : List CV
  ro : Nat
  rn : Nat
  kc : List CV
  ko : Nat
  kn : Nat
  lc : List CV
  lo' : Nat
  ln : Nat
def SV.cells (v : SV) : List CV := [I v.lo.a, I v.hi.a, I v.lo.b, I v.hi.b, I v.lo.c, I v.hi.c, .sl v.rc v.ro v.rn, .sl v.kc v.ko v.kn, .sl v.lc v.lo' v.ln]
def SV.cv (v : SV) : CV := .agg [I v.lo.a, I v.hi.a, I v.lo.b, I v.hi.b, I v.lo.c, I v.hi.c, .sl v.rc v.ro v.rn, .sl v.kc v.ko v.kn, .sl v.lc v.lo' v.ln]
def SV.blk (v : SV) : AB := .blk [.c (I v.lo.a), .c (I v.hi.a), .c (I v.lo.b), .c (I v.hi.b), .c (I v.lo.c), .c (I v.hi.c), .c (.sl v.rc v.ro v.rn), .c (.sl v.kc v.ko v.kn), .c (.sl v.lc v.lo' v.ln)]
structure SV.Is (v : SV) (s : Sd) : Prop where
  lo : v.lo = s.lo
  hi : v.hi = s.hi
  r : SlOf 2 (s.runs.map rowRu) v.rc v.ro v.rn
  k : SlOf 1 (s.sheep.map rowK) v.kc v.ko v.kn
  l : SlOf 3 (s.looks.map rowLk) v.lc v.lo' v.ln
  short : s.runs.length ≤ 40 ∧ s.sheep.length ≤ 40 ∧ s.looks.length ≤ 40
theorem SV.Is.rn {v : SV} {s : Sd} (h : v.Is s) : v.rn = s.runs.length := by rw [h.r.len]; simp
theorem SV.Is.kn {v : SV} {s : Sd} (h : v.Is s) : v.kn = s.sheep.length := by rw [h.k.len]; simp
theorem SV.Is.ln {v : SV} {s : Sd} (h : v.Is s) : v.ln = s.looks.length := by rw [h.l.len]; simp
theorem SV.Is.rrow {v : SV} {s : Sd} (h : v.Is s) {j : Nat} {m : Ru} (hj : s.runs[j]? = some m) : sliceOf v.rc (v.ro + j * 2) 2 = some (rowRu m) := h.r.row j _ (by simp [hj])
theorem SV.Is.krow {v : SV} {s : Sd} (h : v.Is s) {j : Nat} {m : Int} (hj : s.sheep[j]? = some m) : sliceOf v.kc (v.ko + j * 1) 1 = some (rowK m) := h.k.row j _ (by simp [hj])
theorem SV.Is.lrow {v : SV} {s : Sd} (h : v.Is s) {j : Nat} {m : Lk} (hj : s.looks[j]? = some m) : sliceOf v.lc (v.lo' + j * 3) 3 = some (rowLk m) := h.l.row j _ (by simp [hj])

/-! Loads of rows. -/
theorem rv50 (cells : List CV) (off : Nat) : readVarC Try.prog 50 cells off = (sliceOf cells off 2).map .agg := rfl
theorem rv58 (cells : List CV) (off : Nat) : readVarC Try.prog 58 cells off = (sliceOf cells off 3).map .agg := rfl
theorem rv182 (cells : List CV) (off : Nat) : readVarC Try.prog 182 cells off = (sliceOf cells off 2).map .agg := rfl
theorem rv3 (cells : List CV) (off : Nat) : readVarC Try.prog 3 cells off = cells[off]? := rfl
theorem SV.Is.run {v : SV} {s : Sd} (h : v.Is s) {k : Nat} {r : Ru} (hk : s.runs[k]? = some r) : readVarC Try.prog 50 v.rc (v.ro + (k : Int).toNat * 2) = some (.agg (rowRu r)) := by
  rw [Int.toNat_natCast, rv50, h.rrow hk]; rfl
theorem SV.Is.run0 {v : SV} {s : Sd} (h : v.Is s) {k : Nat} {r : Ru} (hk : s.runs[k]? = some r) : readVarC Try.prog 3 v.rc (v.ro + (k : Int).toNat * 2 + 0) = some (I r.start) := by
  rw [Int.toNat_natCast, rv3, sliceOf_get (h.rrow hk) (j := 0) (by omega)]; rfl
theorem SV.Is.run1 {v : SV} {s : Sd} (h : v.Is s) {k : Nat} {r : Ru} (hk : s.runs[k]? = some r) : readVarC Try.prog 3 v.rc (v.ro + (k : Int).toNat * 2 + 1) = some (I r.bell) := by
  rw [Int.toNat_natCast, rv3, sliceOf_get (h.rrow hk) (j := 1) (by omega)]; rfl
theorem SV.Is.look {v : SV} {s : Sd} (h : v.Is s) {k : Nat} {r : Lk} (hk : s.looks[k]? = some r) : readVarC Try.prog 58 v.lc (v.lo' + (k : Int).toNat * 3) = some (.agg (rowLk r)) := by
  rw [Int.toNat_natCast, rv58, h.lrow hk]; rfl
theorem SV.Is.kind {v : SV} {s : Sd} (h : v.Is s) {k : Nat} {r : Int} (hk : s.sheep[k]? = some r) : readVarC Try.prog 3 v.kc (v.ko + (k : Int).toNat * 1) = some (I r) := by
  rw [Int.toNat_natCast, rv3]; have := sliceOf_get (h.krow hk) (j := 0) (by omega); rw [Nat.add_zero] at this; rw [this]; rfl
theorem get_some {α : Type} {l : List α} {k : Nat} (h : k < l.length) : ∃ x, l[k]? = some x := ⟨l[k], List.getElem?_eq_getElem h⟩

theorem isRun_ret {v : SV} {s : Sd} (hv : v.Is s) (n : Int) : Ret Try.prog 65 [v.cv, I n] (B (inB n 0 (s.runs.length - 1))) := by
  have h1 := hv.rn; have h2 := hv.short
  refine ret_by (hm := true) Try.func65 rfl ?_
  conv => whnf
  refine ⟨(s.runs.length : Int) - 1, by rw [wrap_eq (by omega) (by omega)]; omega, ?_⟩
  conv => whnf
  refine .ret (within_ret _ _ _) rfl ?_
  conv => whnf
  exact .val

theorem of_ret (t : T3) (k : Nat) (hk : k ≤ 2) : Ret Try.prog 63 [t.cv, I k] (I (t.get k)) := by
  obtain rfl | rfl | rfl : k = 0 ∨ k = 1 ∨ k = 2 := by omega
  all_goals
    refine ret_by (hm := true) Try.func63 rfl ?_
    conv => whnf
    refine ⟨by decide, ?_⟩
    conv => whnf
    exact .val

theorem ends_ret (t : T3) (k : Nat) (hk : k ≤ 2) (n : Int) (h1 : -1000000000 ≤ n + t.get k ∧ n + t.get k ≤ 1000000000) : Ret Try.prog 102 [t.cv, I k, I n] (I (n + t.get k)) := by
  refine ret_by (hm := true) Try.func102 rfl ?_
  conv => whnf
  refine .ret (of_ret t k hk) rfl ?_
  conv => whnf
  refine ⟨n + t.get k, by rw [wrap_eq (by omega) (by omega)], ?_⟩
  conv => whnf
  exact .val

def T3.put (t : T3) (k : Nat) (n : Int) : T3 := match k with
  | 0 => ⟨n, t.b, t.c⟩
  | 1 => ⟨t.a, n, t.c⟩
  | _ => ⟨t.a, t.b, n⟩
theorem with_ret (t : T3) (k : Nat) (hk : k ≤ 2) (n : Int) : Ret Try.prog 121 [t.cv, I k, I n] (t.put k n).cv := by
  obtain rfl | rfl | rfl : k = 0 ∨ k = 1 ∨ k = 2 := by omega
  all_goals
    refine ret_by (hm := true) Try.func121 rfl ?_
    conv => whnf
    refine ⟨by decide, ?_⟩
    conv => whnf
    exact .val
end Go.Ag
/- Layer 4: what is valid, in the program. -/
namespace Go.Ag
open Go.Proofs
set_option maxRecDepth 100000

def minOk (a b : Int) : Bool := spanB a b 1 40 && decide (b - a ≤ 4)
def minsOk (s : Sd) : Bool := minOk s.lo.a s.hi.a && (minOk s.lo.b s.hi.b && minOk s.lo.c s.hi.c)
def runOk (b : Int) (r : Ru) : Bool := decide (b ≤ r.start) && (decide (r.start < r.bell) && decide (r.bell ≤ 600))
def runsOk : Int → List Ru → Bool
  | _, [] => true
  | b, r :: l => runOk b r && runsOk r.bell l
def lookOk (l : Lk) : Bool := inB l.minute 0 600 && spanB l.lo l.hi 0 16
def validB (s : Sd) : Bool := minsOk s && ((inB s.runs.length 1 4 && runsOk 0 s.runs) && ((decide (s.sheep.length ≤ 16) && s.sheep.all fun k => inB k 0 2) && (decide (s.looks.length ≤ 4) && s.looks.all lookOk)))

theorem wide_row {a b : Int} (h : spanB a b 1 40 = true) : IntKind.i64.wrap (b - a) = b - a := by
  simp only [spanB, Bool.and_eq_true, decide_eq_true_eq] at h
  exact wrap_eq (by omega) (by omega)
theorem gt_not (a b : Int) : (a > b : Bool) = !decide (a ≤ b) := by by_cases h : a ≤ b <;> simp [h] <;> omega

theorem validMinutes_ret {v : SV} {s : Sd} (hv : v.Is s) : Ret Try.prog 90 [v.cv] (B (minsOk s)) := by
  have e1 := hv.lo; have e2 := hv.hi
  obtain ⟨lo, hi, _, _, _, _, _, _, _, _, _⟩ := v
  simp only at e1 e2
  subst e1 e2
  refine ret_by (hm := true) Try.func90 rfl ?_
  conv => whnf
  refine loop_by (I := fun n st => ∃ (q : Nat) (h : Heap), q ≤ 3 ∧ n = 3 - q ∧ minsOk s = (if q = 0 then minsOk s else if q = 1 then (minOk s.lo.b s.hi.b && minOk s.lo.c s.hi.c) else if q = 2 then minOk s.lo.c s.hi.c else true) ∧ Heap.at h 0 = (SV.blk ⟨s.lo, s.hi, _, _, _, _, _, _, _, _, _⟩) ∧ 0 < h.n ∧ Has st 22 [(1, .ptr 0 0), (7, .c (I q)), (6, .c (.agg [I s.lo.a, I s.hi.a, I s.lo.b, I s.hi.b, I s.lo.c, I s.hi.c]))] [] none h) ?_ (k := 3)
    ⟨0, _, Nat.zero_le _, rfl, rfl, rfl, Nat.lt_succ_self 0, rfl, ⟨rfl, rfl, rfl, trivial⟩, rfl, rfl, rfl, rfl⟩
  rintro n st ⟨q, h, hq, rfl, hall, h0, hn, hs1⟩
  refine hs1.run (hm := false) ?_
  have key : ∀ (a b : Int) (rest : Bool), minsOk s = (minOk a b && rest) → spanB a b 1 40 = false → minsOk s = false := fun a b rest h1 h2 => by rw [h1]; simp [minOk, h2]
  have key2 : ∀ (a b : Int) (rest : Bool), minsOk s = (minOk a b && rest) → spanB a b 1 40 = true → decide (b - a > 4) = true → minsOk s = false := fun a b rest h1 h2 h3 => by
    have : ¬ (b - a ≤ 4) := by simp at h3; omega
    rw [h1]; simp [minOk, this]
  have key3 : ∀ (a b : Int) (rest : Bool), minsOk s = (minOk a b && rest) → spanB a b 1 40 = true → decide (b - a > 4) = false → minsOk s = rest := fun a b rest h1 h2 h3 => by
    have : (b - a ≤ 4) := by simp at h3; omega
    rw [h1]; simp [minOk, h2, this]
  obtain rfl | rfl | rfl | rfl : q = 0 ∨ q = 1 ∨ q = 2 ∨ q = 3 := by omega
  · have hm : minsOk s = (minOk s.lo.a s.hi.a && (minOk s.lo.b s.hi.b && minOk s.lo.c s.hi.c)) := rfl
    conv => whnf
    refine ⟨_, at_push_self _ _, ?_⟩
    conv => whnf
    refine ⟨_, at_new _ _ _, ?_⟩
    conv => whnf
    refine .ret (spanWithin_ret _ _ _ _) rfl ?_
    conv => whnf
    cases h1 : spanB s.lo.a s.hi.a 1 40
    · conv => whnf
      rw [key _ _ _ hm h1]
      exact .val
    conv => whnf
    refine ⟨_, at_new _ _ _, ?_⟩
    conv => whnf
    refine ⟨_, at_new _ _ _, ?_⟩
    conv => whnf
    refine ⟨_, wide_row h1, ?_⟩
    conv => whnf
    cases h2 : decide (s.hi.a - s.lo.a > 4)
    · conv => whnf
      refine ⟨_, wrap_eq (by decide) (by decide), ?_⟩
      conv => whnf
      exact ⟨2, by omega, 1, _, by omega, rfl, (key3 _ _ _ hm h1 h2).trans rfl, (at_old _ _ _ hn).trans h0, by rw [new_n]; omega, rfl, ⟨rfl, rfl, rfl, trivial⟩, rfl, rfl, rfl, rfl⟩
    · conv => whnf
      rw [key2 _ _ _ hm h1 h2]
      exact .val
  · have hm : minsOk s = (minOk s.lo.b s.hi.b && minOk s.lo.c s.hi.c) := hall
    conv => whnf
    refine ⟨_, at_push_self _ _, ?_⟩
    conv => whnf
    refine ⟨_, at_new _ _ _, ?_⟩
    conv => whnf
    refine .ret (spanWithin_ret _ _ _ _) rfl ?_
    conv => whnf
    cases h1 : spanB s.lo.b s.hi.b 1 40
    · conv => whnf
      rw [key _ _ _ hm h1]
      exact .val
    conv => whnf
    refine ⟨_, at_new _ _ _, ?_⟩
    conv => whnf
    refine ⟨_, at_new _ _ _, ?_⟩
    conv => whnf
    refine ⟨_, wide_row h1, ?_⟩
    conv => whnf
    cases h2 : decide (s.hi.b - s.lo.b > 4)
    · conv => whnf
      refine ⟨_, wrap_eq (by decide) (by decide), ?_⟩
      conv => whnf
      exact ⟨1, by omega, 2, _, by omega, rfl, (key3 _ _ _ hm h1 h2).trans rfl, (at_old _ _ _ hn).trans h0, by rw [new_n]; omega, rfl, ⟨rfl, rfl, rfl, trivial⟩, rfl, rfl, rfl, rfl⟩
    · conv => whnf
      rw [key2 _ _ _ hm h1 h2]
      exact .val
  · have hm : minsOk s = (minOk s.lo.c s.hi.c && true) := hall.trans (Bool.and_true _).symm
    conv => whnf
    refine ⟨_, at_push_self _ _, ?_⟩
    conv => whnf
    refine ⟨_, at_new _ _ _, ?_⟩
    conv => whnf
    refine .ret (spanWithin_ret _ _ _ _) rfl ?_
    conv => whnf
    cases h1 : spanB s.lo.c s.hi.c 1 40
    · conv => whnf
      rw [key _ _ _ hm h1]
      exact .val
    conv => whnf
    refine ⟨_, at_new _ _ _, ?_⟩
    conv => whnf
    refine ⟨_, at_new _ _ _, ?_⟩
    conv => whnf
    refine ⟨_, wide_row h1, ?_⟩
    conv => whnf
    cases h2 : decide (s.hi.c - s.lo.c > 4)
    · conv => whnf
      refine ⟨_, wrap_eq (by decide) (by decide), ?_⟩
      conv => whnf
      exact ⟨0, by omega, 3, _, by omega, rfl, (key3 _ _ _ hm h1 h2).trans rfl, (at_old _ _ _ hn).trans h0, by rw [new_n]; omega, rfl, ⟨rfl, rfl, rfl, trivial⟩, rfl, rfl, rfl, rfl⟩
    · conv => whnf
      rw [key2 _ _ _ hm h1 h2]
      exact .val
  · conv => whnf
    rw [hall]
    exact .val

theorem runsOk_step (b : Int) (r : Ru) (l : List Ru) : runsOk b (r :: l) = (runOk b r && runsOk r.bell l) := rfl
theorem drop_get {α : Type} {l : List α} {q : Nat} {x : α} (h : l[q]? = some x) : l.drop q = x :: l.drop (q + 1) := by
  have hq : q < l.length := by
    rcases Nat.lt_or_ge q l.length with h1 | h1
    · exact h1
    · rw [List.getElem?_eq_none h1] at h; cases h
  rw [List.drop_eq_getElem_cons hq]
  rw [List.getElem?_eq_getElem hq] at h
  rw [Option.some.inj h]

theorem validRuns_ret {v : SV} {s : Sd} (hv : v.Is s) : Ret Try.prog 91 [v.cv] (B (inB s.runs.length 1 4 && runsOk 0 s.runs)) := by
  have e1 := hv.rn; have e2 := hv.short
  rw [← e1]
  refine ret_by (hm := false) Try.func91 rfl ?_
  conv => whnf
  refine ⟨v.blk, rfl, ?_⟩
  conv => whnf
  refine .ret (within_ret _ _ _) rfl ?_
  conv => whnf
  cases hs : inB v.rn 1 4
  · conv => whnf
    exact .val
  conv => whnf
  refine ⟨v.blk, rfl, ?_⟩
  conv => whnf
  rw [Bool.true_and]
  refine loop_by (I := fun n st => ∃ (q : Nat) (h : Heap) (b : Int), q ≤ s.runs.length ∧ n = s.runs.length - q ∧ runsOk 0 s.runs = runsOk b (s.runs.drop q) ∧ Heap.at h 0 = v.blk ∧ 0 < h.n ∧ Has st 37 [(1, .ptr 0 0), (3, .c (I b)), (12, .c (.sl v.rc v.ro v.rn)), (13, .c (I v.rn)), (14, .c (I q))] [] none h) ?_ (k := s.runs.length)
    ⟨0, _, 0, Nat.zero_le _, rfl, rfl, rfl, Nat.lt_succ_self 0, rfl, ⟨rfl, rfl, rfl, rfl, rfl, trivial⟩, rfl, rfl, rfl, rfl⟩
  rintro n st ⟨q, h, b, hq, rfl, hall, h0, hn, hs1⟩
  refine hs1.run (hm := false) ?_
  conv => whnf
  cases hc : decide ((q : Int) < (v.rn : Int))
  case true =>
    have hq : q < s.runs.length := by simp at hc; omega
    obtain ⟨r, hr⟩ := get_some hq
    rw [drop_get hr, runsOk_step] at hall
    have no : runOk b r = false → runsOk 0 s.runs = false := fun h => by rw [hall, h]; rfl
    conv => whnf
    refine ⟨⟨by omega, by omega⟩, ?_⟩
    conv => whnf
    refine ⟨_, hv.run hr, ?_⟩
    conv => whnf
    refine ⟨_, at_push_self _ _, ?_⟩
    conv => whnf
    refine ⟨_, at_new _ _ _, ?_⟩
    conv => whnf
    cases h1 : decide (r.start < b)
    · conv => whnf
      refine ⟨_, at_new _ _ _, ?_⟩
      conv => whnf
      refine ⟨_, at_new _ _ _, ?_⟩
      conv => whnf
      cases h2 : decide (r.bell ≤ r.start)
      · conv => whnf
        refine ⟨_, at_new _ _ _, ?_⟩
        conv => whnf
        cases h3 : decide (r.bell > 600)
        · conv => whnf
          refine ⟨_, at_new _ _ _, ?_⟩
          conv => whnf
          refine ⟨((q + 1 : Nat) : Int), by rw [wrap_eq (by omega) (by omega)]; omega, ?_⟩
          conv => whnf
          have yes : runOk b r = true := by simp at h1 h2 h3; simp [runOk]; omega
          rw [yes] at hall
          exact ⟨s.runs.length - (q + 1), by omega, q + 1, _, r.bell, by omega, rfl, hall, (at_old _ _ _ hn).trans h0, by rw [new_n]; omega, rfl, ⟨rfl, rfl, rfl, rfl, rfl, trivial⟩, rfl, rfl, rfl, rfl⟩
        · conv => whnf
          rw [no (by simp at h3; simp [runOk]; omega)]
          exact .val
      · conv => whnf
        rw [no (by simp at h2; simp [runOk]; omega)]
        exact .val
    · conv => whnf
      rw [no (by simp at h1; simp [runOk]; omega)]
      exact .val
  have : q = s.runs.length := by simp at hc; omega
  subst this
  rw [List.drop_length] at hall
  rw [hall]
  conv => whnf
  exact .val

theorem kind0_ret (n : Int) : Ret Try.prog 117 [I n] (B (!inB n 0 2)) := by
  refine ret_by (hm := true) Try.func117 rfl ?_
  conv => whnf
  refine .ret (isKind_ret _) rfl ?_
  conv => whnf
  exact .val

/-- The number of the first sheep of no kind. -/
def idxF : List Int → Nat → Int
  | [], _ => -1
  | k :: l, q => if inB k 0 2 then idxF l (q + 1) else q
theorem idxF_ge : ∀ (l : List Int) (q : Nat), decide (idxF l q ≥ 0) = !(l.all fun k => inB k 0 2)
  | [], q => rfl
  | k :: l, q => by
    unfold idxF
    cases h : inB k 0 2
    · simp [h]
    · simp [h, idxF_ge l (q + 1)]
theorem index_ret {v : SV} {s : Sd} (hv : v.Is s) : Ret Try.prog 134 [.sl v.kc v.ko v.kn, .func (.func 117) [] []] (I (idxF s.sheep 0)) := by
  have e1 := hv.kn; have e2 := hv.short
  refine ret_by (hm := true) Try.func134 rfl ?_
  conv => whnf
  refine loop_by (I := fun n st => ∃ (q : Nat), q ≤ s.sheep.length ∧ n = s.sheep.length - q ∧ idxF s.sheep 0 = idxF (s.sheep.drop q) q ∧ Has st 19 [(0, .c (.sl v.kc v.ko v.kn)), (1, .c (.func (.func 117) [] [])), (7, .c (I v.kn)), (8, .c (I q))] [] none TMap.nil) ?_ (k := s.sheep.length)
    ⟨0, Nat.zero_le _, rfl, rfl, rfl, ⟨rfl, rfl, rfl, rfl, trivial⟩, rfl, rfl, rfl, rfl⟩
  rintro n st ⟨q, hq, rfl, hall, hs1⟩
  refine hs1.run (hm := true) ?_
  conv => whnf
  cases hc : decide ((q : Int) < (v.kn : Int))
  case true =>
    have hq : q < s.sheep.length := by simp at hc; omega
    obtain ⟨k, hk⟩ := get_some hq
    rw [drop_get hk, idxF] at hall
    conv => whnf
    refine ⟨⟨by omega, by omega⟩, ?_⟩
    conv => whnf
    refine ⟨_, hv.kind hk, ?_⟩
    conv => whnf
    refine .ret (kind0_ret _) rfl ?_
    conv => whnf
    cases hb : inB k 0 2
    · rw [hb] at hall
      rw [hall]
      conv => whnf
      exact .val
    · rw [hb] at hall
      conv => whnf
      refine ⟨((q + 1 : Nat) : Int), by rw [wrap_eq (by omega) (by omega)]; omega, ?_⟩
      conv => whnf
      exact ⟨s.sheep.length - (q + 1), by omega, q + 1, by omega, rfl, hall, rfl, ⟨rfl, rfl, rfl, rfl, trivial⟩, rfl, rfl, rfl, rfl⟩
  have : q = s.sheep.length := by simp at hc; omega
  subst this
  rw [List.drop_length] at hall
  rw [hall]
  conv => whnf
  exact .val
theorem contains_ret {v : SV} {s : Sd} (hv : v.Is s) : Ret Try.prog 118 [.sl v.kc v.ko v.kn, .func (.func 117) [] []] (B (!(s.sheep.all fun k => inB k 0 2))) := by
  rw [← idxF_ge s.sheep 0]
  refine ret_by (hm := true) Try.func118 rfl ?_
  conv => whnf
  refine .ret (index_ret hv) rfl ?_
  conv => whnf
  exact .val
theorem validSheep_ret {v : SV} {s : Sd} (hv : v.Is s) : Ret Try.prog 92 [v.cv] (B (decide (s.sheep.length ≤ 16) && s.sheep.all fun k => inB k 0 2)) := by
  have e1 := hv.kn; have e2 := hv.short
  have e3 : decide (s.sheep.length ≤ 16) = decide ((v.kn : Int) ≤ 16) := by rw [e1]; by_cases h : s.sheep.length ≤ 16 <;> simp [h] <;> omega
  rw [e3]
  refine ret_by (hm := true) Try.func92 rfl ?_
  conv => whnf
  cases h : decide ((v.kn : Int) ≤ 16)
  · conv => whnf
    exact .val
  · conv => whnf
    refine .ret (contains_ret hv) rfl ?_
    conv => whnf
    rw [Bool.true_and, Bool.not_not]
    exact .val

theorem validLooks_ret {v : SV} {s : Sd} (hv : v.Is s) : Ret Try.prog 93 [v.cv] (B (decide (s.looks.length ≤ 4) && s.looks.all lookOk)) := by
  have e1 := hv.ln; have e2 := hv.short
  have e3 : decide (s.looks.length ≤ 4) = !decide ((v.ln : Int) > 4) := by rw [e1]; by_cases h : s.looks.length ≤ 4 <;> simp [h] <;> omega
  rw [e3]
  refine ret_by (hm := false) Try.func93 rfl ?_
  conv => whnf
  refine ⟨v.blk, rfl, ?_⟩
  conv => whnf
  cases h : decide ((v.ln : Int) > 4)
  case true =>
    conv => whnf
    exact .val
  conv => whnf
  refine ⟨v.blk, rfl, ?_⟩
  conv => whnf
  rw [Bool.not_false, Bool.true_and]
  refine loop_by (I := fun n st => ∃ (q : Nat) (h : Heap), q ≤ s.looks.length ∧ n = s.looks.length - q ∧ s.looks.all lookOk = (s.looks.drop q).all lookOk ∧ Heap.at h 0 = v.blk ∧ 0 < h.n ∧ Has st 27 [(1, .ptr 0 0), (10, .c (.sl v.lc v.lo' v.ln)), (11, .c (I v.ln)), (12, .c (I q))] [] none h) ?_ (k := s.looks.length)
    ⟨0, _, Nat.zero_le _, rfl, rfl, rfl, Nat.lt_succ_self 0, rfl, ⟨rfl, rfl, rfl, rfl, trivial⟩, rfl, rfl, rfl, rfl⟩
  rintro n st ⟨q, h, hq, rfl, hall, h0, hn, hs1⟩
  refine hs1.run (hm := false) ?_
  conv => whnf
  cases hc : decide ((q : Int) < (v.ln : Int))
  case true =>
    have hq : q < s.looks.length := by simp at hc; omega
    obtain ⟨r, hr⟩ := get_some hq
    rw [drop_get hr, List.all_cons] at hall
    have no : lookOk r = false → s.looks.all lookOk = false := fun h => by rw [hall, h]; rfl
    conv => whnf
    refine ⟨⟨by omega, by omega⟩, ?_⟩
    conv => whnf
    refine ⟨_, hv.look hr, ?_⟩
    conv => whnf
    refine ⟨_, at_push_self _ _, ?_⟩
    conv => whnf
    refine ⟨_, at_new _ _ _, ?_⟩
    conv => whnf
    refine .ret (within_ret _ _ _) rfl ?_
    conv => whnf
    cases h1 : inB r.minute 0 600
    · conv => whnf
      rw [no (by simp [lookOk, h1])]
      exact .val
    · conv => whnf
      refine ⟨_, at_new _ _ _, ?_⟩
      conv => whnf
      refine .ret (spanWithin_ret _ _ _ _) rfl ?_
      conv => whnf
      cases h2 : spanB r.lo r.hi 0 16
      · conv => whnf
        rw [no (by simp [lookOk, h2])]
        exact .val
      · conv => whnf
        refine ⟨((q + 1 : Nat) : Int), by rw [wrap_eq (by omega) (by omega)]; omega, ?_⟩
        conv => whnf
        rw [show lookOk r = true by simp [lookOk, h1, h2], Bool.true_and] at hall
        exact ⟨s.looks.length - (q + 1), by omega, q + 1, _, by omega, rfl, hall, (at_old _ _ _ hn).trans h0, by rw [new_n]; omega, rfl, ⟨rfl, rfl, rfl, rfl, trivial⟩, rfl, rfl, rfl, rfl⟩
  have : q = s.looks.length := by simp at hc; omega
  subst this
  rw [List.drop_length] at hall
  rw [hall]
  conv => whnf
  exact .val

theorem valid_ret {v : SV} {s : Sd} (hv : v.Is s) : Ret Try.prog 49 [v.cv] (B (validB s)) := by
  refine ret_by (hm := true) Try.func49 rfl ?_
  conv => whnf
  refine .ret (validMinutes_ret hv) rfl ?_
  conv => whnf
  unfold validB
  cases h1 : minsOk s
  · conv => whnf
    exact .val
  conv => whnf
  refine .ret (validRuns_ret hv) rfl ?_
  conv => whnf
  cases h2 : (inB s.runs.length 1 4 && runsOk 0 s.runs)
  · conv => whnf
    exact .val
  conv => whnf
  refine .ret (validSheep_ret hv) rfl ?_
  conv => whnf
  cases h3 : (decide (s.sheep.length ≤ 16) && s.sheep.all fun k => inB k 0 2)
  · conv => whnf
    exact .val
  conv => whnf
  refine .ret (validLooks_ret hv) rfl ?_
  conv => whnf
  cases h4 : (decide (s.looks.length ≤ 4) && s.looks.all lookOk)
  · conv => whnf
    exact .val
  conv => whnf
  exact .val
end Go.Ag
/- Layer 4: the day of a shearer. -/
namespace Go.Ag
open Go.Proofs
set_option maxRecDepth 100000

theorem next_end {runs : List Ru} {free : Int} : nextRun runs free runs.length = runs.length := by
  unfold nextRun; rw [Nat.sub_self]; rfl
theorem next_step {runs : List Ru} {free : Int} {r : Nat} {x : Ru} (h : runs[r]? = some x) : nextRun runs free r = if x.bell ≤ free then nextRun runs free (r + 1) else r := by
  have hr : r < runs.length := by
    rcases Nat.lt_or_ge r runs.length with h1 | h1
    · exact h1
    · rw [List.getElem?_eq_none h1] at h; cases h
  unfold nextRun
  rw [show runs.length - r = (runs.length - (r + 1)) + 1 by omega, adv]
  simp only [h]
theorem next_le {runs : List Ru} {free : Int} {r : Nat} (h : r ≤ runs.length) : nextRun runs free r ≤ runs.length := adv_le _ _ _ _ h
theorem next_open {runs : List Ru} {free : Int} : ∀ (n r : Nat), n = runs.length - r → r ≤ runs.length → ∀ {x : Ru}, runs[nextRun runs free r]? = some x → free < x.bell := by
  intro n
  induction n with
  | zero =>
    intro r hn hr x hx
    have : r = runs.length := by omega
    subst this
    rw [next_end] at hx
    rw [List.getElem?_eq_none (Nat.le_refl _)] at hx; cases hx
  | succ n ih =>
    intro r hn hr x hx
    obtain ⟨y, hy⟩ := get_some (l := runs) (k := r) (by omega)
    rw [next_step hy] at hx
    split at hx
    · exact ih (r + 1) (by omega) (by omega) hx
    · rw [hy] at hx; cases hx; omega

def rowSh (x : Sh) : List CV := [I x.run, I x.done]
def daySl (d : List Sh) : CV := .sl (d.map rowSh).flatten 0 d.length
def endsC (t : T3) : CV := .func (.func 102) [t.cv] []

theorem runsOk_all : ∀ (b : Int) (l : List Ru), 0 ≤ b → runsOk b l = true → ∀ x ∈ l, 0 ≤ x.start ∧ x.start < x.bell ∧ x.bell ≤ 600
  | _, [], _, _ => by simp
  | b, r :: l, hb, h => by
    simp only [runsOk, runOk, Bool.and_eq_true, decide_eq_true_eq] at h
    intro x hx
    rcases List.mem_cons.1 hx with rfl | hx
    · omega
    · exact runsOk_all r.bell l (by omega) h.2 x hx

structure Good (s : Sd) (t : T3) : Prop where
  runs : ∀ x ∈ s.runs, 0 ≤ x.start ∧ x.start < x.bell ∧ x.bell ≤ 600
  kinds : ∀ k ∈ s.sheep, 0 ≤ k ∧ k ≤ 2
  few : s.sheep.length ≤ 40
  takes : ∀ k, 1 ≤ t.get k ∧ t.get k ≤ 40

theorem snap_msl {H : Nat → AB} {id sz off len cap : Nat} {cs : List CV} (hb : H id = .blk (cs.map .c)) : snap H (cs.length + 9) (.msl id sz off len cap) = some (.sl cs off len, [id]) := by
  simp only [snap, hb]
  rw [snaps_map_c H cs _ (by omega)]
  rfl
/-- Rows that are returned. -/
theorem RowsL.ends {sz : Nat} {h : Heap} {out : AV} {rows : List (List CV)} (hR : RowsL sz h out rows) : ∃ v', RetW v' out h ∧ v'.Le (.sl rows.flatten 0 rows.length) := by
  rcases hR with ⟨rfl, hd0⟩ | ⟨o, rfl, hb, hlt, hne'⟩
  · subst hd0
    exact ⟨nilC, .val, .nil _ _⟩
  · exact ⟨_, ⟨_, _, snap_msl hb⟩, .refl _⟩
theorem U143 : Try.prog.underlying 143 = some (.slice 182) := by kernel_rfl
theorem S182 : slicePart Try.prog 182 = some 2 := by kernel_rfl

set_option maxHeartbeats 1000000 in
theorem shear_ret {v : SV} {s : Sd} (hv : v.Is s) {t : T3} (hg : Good s t) : Ret Try.prog 101 [v.cv, endsC t] (daySl (dayOf s t)) := by
  have e1 := hv.rn; have e2 := hv.kn; have e3 := hv.short
  refine ret_le (hm := false) Try.func101 rfl ?_
  conv => whnf
  refine ⟨v.blk, rfl, ?_⟩
  conv => whnf
  refine loop_by (I := fun n st => ∃ (q run : Nat) (free : Int) (h : Heap) (out : AV) (done : List Sh), q ≤ s.sheep.length ∧ n = s.sheep.length - q ∧ run ≤ s.runs.length ∧ 0 ≤ free ∧ free ≤ 640 ∧ dayOf s t = done ++ dayF s.runs t (s.sheep.drop q) run free ∧ done.length = q ∧
    Heap.at h 0 = v.blk ∧ 0 < h.n ∧ RowsL 2 h out (done.map rowSh) ∧ (∀ o, outId out = some o → 0 < o) ∧
    Has st 58 [(1, .c (endsC t)), (2, .ptr 0 0), (5, out), (6, .c (I run)), (7, .c (I free)), (11, .c (.sl v.kc v.ko v.kn)), (12, .c (I v.kn)), (13, .c (I q))] [] none h) ?_ (k := s.sheep.length)
    ⟨0, 0, 0, _, nilA, [], Nat.zero_le _, rfl, Nat.zero_le _, by omega, by omega, rfl, rfl, rfl, Nat.lt_succ_self 0, .inl ⟨rfl, rfl⟩, by simp [outId], rfl, ⟨rfl, rfl, rfl, rfl, rfl, rfl, rfl, rfl, trivial⟩, rfl, rfl, rfl, rfl⟩
  rintro n st ⟨q, run, free, h, out, done, hq, rfl, hrun, hf0, hf1, hday, hdn, h0, hn, hR, hout, hs1⟩
  refine hs1.run (hm := false) ?_
  conv => whnf
  cases hc : decide ((q : Int) < (v.kn : Int))
  case true =>
    have hq : q < s.sheep.length := by simp at hc; omega
    obtain ⟨k, hk⟩ := get_some hq
    obtain ⟨kk, rfl⟩ : ∃ kk : Nat, k = kk := ⟨k.toNat, by have := (hg.kinds k (List.mem_of_getElem? hk)).1; omega⟩
    have hkk : kk ≤ 2 := by have := (hg.kinds _ (List.mem_of_getElem? hk)).2; omega
    have hfew := hg.few
    have htk := hg.takes kk
    rw [drop_get hk, dayF, Int.toNat_natCast] at hday
    conv => whnf
    refine ⟨⟨by omega, by omega⟩, ?_⟩
    conv => whnf
    refine ⟨_, hv.kind hk, ?_⟩
    conv => whnf
    refine loop_by (I := fun n st => ∃ (r : Nat), r ≤ s.runs.length ∧ n = s.runs.length - r ∧ nextRun s.runs free run = nextRun s.runs free r ∧
      Has st 58 [(1, .c (endsC t)), (2, .ptr 0 0), (5, out), (6, .c (I r)), (7, .c (I free)), (9, .c (I kk)), (11, .c (.sl v.kc v.ko v.kn)), (12, .c (I v.kn)), (13, .c (I q))] [] none h) ?_ (k := s.runs.length - run)
      ⟨run, hrun, rfl, rfl, rfl, ⟨rfl, rfl, rfl, rfl, rfl, rfl, rfl, rfl, rfl, trivial⟩, rfl, rfl, rfl, rfl⟩
    rintro n st ⟨r, hr, rfl, hnext, hs2⟩
    refine hs2.run (hm := false) ?_
    conv => whnf
    refine ⟨_, h0, ?_⟩
    conv => whnf
    have fin : ∀ (r : Nat), nextRun s.runs free run = r → True := fun _ _ => trivial
    cases hc2 : decide ((r : Int) < (v.rn : Int))
    case true =>
      have hr2 : r < s.runs.length := by simp at hc2; omega
      obtain ⟨x, hx⟩ := get_some hr2
      rw [next_step hx] at hnext
      conv => whnf
      refine ⟨_, h0, ?_⟩
      conv => whnf
      refine ⟨⟨by omega, by omega⟩, ?_⟩
      conv => whnf
      refine ⟨_, hv.run1 hx, ?_⟩
      conv => whnf
      cases hc3 : decide (free ≥ x.bell)
      case true =>
        rw [if_pos (by simpa using hc3)] at hnext
        conv => whnf
        refine ⟨((r + 1 : Nat) : Int), by rw [wrap_eq (by omega) (by omega)]; omega, ?_⟩
        conv => whnf
        exact ⟨s.runs.length - (r + 1), by omega, r + 1, by omega, rfl, hnext, rfl, ⟨rfl, rfl, rfl, rfl, rfl, rfl, rfl, rfl, rfl, trivial⟩, rfl, rfl, rfl, rfl⟩
      rw [if_neg (by simpa using hc3)] at hnext
      conv => whnf
      refine ⟨_, h0, ?_⟩
      conv => whnf
      have hne : ((r : Int) == (v.rn : Int)) = false := by simp; omega
      rw [hne]
      conv => whnf
      refine ⟨_, h0, ?_⟩
      conv => whnf
      refine ⟨⟨by omega, by omega⟩, ?_⟩
      conv => whnf
      refine ⟨_, hv.run0 hx, ?_⟩
      conv => whnf
      have hxr := hg.runs x (List.mem_of_getElem? hx)
      have hfb : free < x.bell := by simpa using hc3
      have hrl : ∀ r ∈ done.map rowSh, r.length = 2 := by intro r hr; simp only [List.mem_map] at hr; obtain ⟨p, _, rfl⟩ := hr; rfl
      have hlim : (done.map rowSh).length + 1 ≤ limit := by simp only [List.length_map]; unfold limit; omega
      rw [hnext, hx] at hday
      simp only at hday
      refine .ret (ends_ret t kk hkk _ (by omega)) rfl ?_
      conv => whnf
      rcases hR.shape with rfl | ⟨o, m, rfl⟩
      all_goals
        conv => whnf
        obtain ⟨rr, hrr, hR', hold, hn', hfresh⟩ := rows_append (row := rowSh ⟨r, max free x.start + t.get kk⟩) (t := 143) (u := 143) hR U143 U143 rfl S182 rfl hrl rfl hlim
        obtain ⟨rv, rreads, rupds, rfresh⟩ := rr
        have h0' := (hold 0 hn (fun e => absurd (hout _ e) (by omega))).trans h0
        rcases hR' with ⟨_, hh⟩ | ⟨o', ho', hb', hlt', hne'⟩
        · exact absurd hh (by simp)
        simp only at ho'
        subst ho'
        refine ⟨_, hrr, ?_⟩
        conv => whnf
        refine ⟨((q + 1 : Nat) : Int), by rw [wrap_eq (by omega) (by omega)]; omega, ?_⟩
        conv => whnf
        refine ⟨s.sheep.length - (q + 1), by omega, q + 1, r, max free x.start + t.get kk, _, _, done ++ [⟨r, max free x.start + t.get kk⟩], by omega, rfl, by omega, by omega, by omega, by rw [hday]; simp, by simp [hdn], h0', ?_, ?_, ?_, rfl, ⟨rfl, rfl, rfl, rfl, rfl, rfl, rfl, rfl, trivial⟩, rfl, rfl, rfl, rfl⟩
        · exact Nat.lt_of_lt_of_le hn hn'
        · rw [List.map_append]
          exact .inr ⟨o', rfl, hb', hlt', hne'⟩
        · intro o2 ho2
          have := hfresh o2 ho2
          omega
    have hrn : r = s.runs.length := by simp at hc2; omega
    subst hrn
    rw [hnext, next_end, List.getElem?_eq_none (Nat.le_refl _)] at hday
    simp only [List.append_nil] at hday
    conv => whnf
    refine ⟨_, h0, ?_⟩
    conv => whnf
    have hne : (((s.runs.length : Nat) : Int) == (v.rn : Int)) = true := by simp; omega
    rw [hne]
    have hend := hR.ends
    rw [List.length_map] at hend
    have hdd : daySl (dayOf s t) = .sl (done.map rowSh).flatten 0 done.length := by rw [hday]; rfl
    rw [hdd]
    rcases hR.shape with rfl | ⟨o, m, rfl⟩
    · conv => whnf
      exact hend
    · conv => whnf
      exact hend
  have hqq : q = s.sheep.length := by simp at hc; omega
  subst hqq
  rw [List.drop_length, dayF, List.append_nil] at hday
  have hend := hR.ends
  rw [List.length_map] at hend
  have hdd : daySl (dayOf s t) = .sl (done.map rowSh).flatten 0 done.length := by rw [hday]; rfl
  rw [hdd]
  rcases hR.shape with rfl | ⟨o, m, rfl⟩
  · conv => whnf
    exact hend
  · conv => whnf
    exact hend
end Go.Ag
/- Layer 4: what is measured of a day. -/
namespace Go.Ag
open Go.Proofs
set_option maxRecDepth 100000

theorem flat_sl {α : Type} {sz : Nat} : ∀ (rows : List (List α)) (_ : ∀ r ∈ rows, r.length = sz) (i : Nat) (r : List α), rows[i]? = some r → sliceOf rows.flatten (i * sz) sz = some r
  | [], _, i, r, h => by simp at h
  | a :: rows, hr, 0, r, h => by
    simp only [List.getElem?_cons_zero, Option.some.injEq] at h
    subst h
    have hl := hr a (by simp)
    simp [sliceOf, ← hl]
  | a :: rows, hr, i + 1, r, h => by
    have hl := hr a (by simp)
    have ih := flat_sl rows (fun r hr' => hr r (by simp [hr'])) i r (by simpa using h)
    have e2 : (i + 1) * sz = a.length + i * sz := by rw [Nat.add_mul, hl]; omega
    simp only [sliceOf, List.flatten_cons, e2, ← List.drop_drop, List.drop_left] at ih ⊢
    exact ih
theorem sl_flat {sz : Nat} {rows : List (List CV)} (h : ∀ r ∈ rows, r.length = sz) : SlOf sz rows rows.flatten 0 rows.length :=
  ⟨rfl, fun i r hr => by rw [Nat.zero_add]; exact flat_sl rows h i r hr⟩

def dayC (d : List Sh) : List CV := (d.map rowSh).flatten
theorem dayC_sl (d : List Sh) : SlOf 2 (d.map rowSh) (dayC d) 0 d.length := by
  have := sl_flat (sz := 2) (rows := d.map rowSh) (by intro r hr; simp only [List.mem_map] at hr; obtain ⟨p, _, rfl⟩ := hr; rfl)
  rw [List.length_map] at this
  exact this
theorem day_row {d : List Sh} {k : Nat} {x : Sh} (hk : d[k]? = some x) : readVarC Try.prog 182 (dayC d) (0 + (k : Int).toNat * 2) = some (.agg (rowSh x)) := by
  rw [Int.toNat_natCast, rv182, (dayC_sl d).row k (rowSh x) (by simp [hk])]; rfl
theorem day_done {d : List Sh} {k : Nat} {x : Sh} (hk : d[k]? = some x) : readVarC Try.prog 3 (dayC d) (0 + (k : Int).toNat * 2 + 1) = some (I x.done) := by
  rw [Int.toNat_natCast, rv3, sliceOf_get ((dayC_sl d).row k (rowSh x) (by simp [hk])) (j := 1) (by omega)]; rfl

def Me.cv : Me → CV
  | .doneAt k => .iface 90 (.agg [I k])
  | .doneBy n => .iface 98 (.agg [I n])
  | .begun a b => .iface 113 (.agg [I a, I b])
  | .past a b n => .iface 117 (.agg [I a, I b, I n])

theorem doneAt_ret (d : List Sh) (hd : d.length ≤ 40) (k : Nat) : Ret Try.prog 166 [.agg [I k], daySl d] (I (Me.of d (.doneAt k))) := by
  refine ret_by (hm := true) Try.func166 rfl ?_
  conv => whnf
  cases hc : decide ((k : Int) < (d.length : Int))
  · have : d[k]? = none := List.getElem?_eq_none (by simp at hc; omega)
    have e : Me.of d (.doneAt k) = 1000 := by simp only [Me.of, this]
    rw [e]
    conv => whnf
    exact .val
  · have hk : k < d.length := by simp at hc; omega
    obtain ⟨x, hx⟩ := get_some hk
    have e : Me.of d (.doneAt k) = x.done := by simp only [Me.of, hx]
    rw [e]
    conv => whnf
    refine ⟨⟨by omega, by omega⟩, ?_⟩
    conv => whnf
    refine ⟨_, day_done hx, ?_⟩
    conv => whnf
    exact .val

theorem doneBy_ret (d : List Sh) (hd : d.length ≤ 40) (m : Int) : Ret Try.prog 167 [.agg [I m], daySl d] (I (Me.of d (.doneBy m))) := by
  have e : Me.of d (.doneBy m) = ((d.countP fun x => decide (x.done ≤ m) : Nat) : Int) := rfl
  rw [e]
  refine ret_by (hm := false) Try.func167 rfl ?_
  conv => whnf
  refine loop_by (I := fun n st => ∃ (q : Nat) (c : Nat) (h : Heap), q ≤ d.length ∧ n = d.length - q ∧ c ≤ q ∧ (d.countP fun x => decide (x.done ≤ m)) = c + ((d.drop q).countP fun x => decide (x.done ≤ m)) ∧ Heap.at h 0 = .blk [.c (I m)] ∧ 0 < h.n ∧
    Has st 23 [(2, .ptr 0 0), (5, .c (I c)), (8, .c (daySl d)), (9, .c (I d.length)), (10, .c (I q))] [] none h) ?_ (k := d.length)
    ⟨0, 0, _, Nat.zero_le _, rfl, Nat.le_refl _, by simp, rfl, Nat.lt_succ_self 0, rfl, ⟨rfl, rfl, rfl, rfl, rfl, trivial⟩, rfl, rfl, rfl, rfl⟩
  rintro n st ⟨q, c, h, hq, rfl, hcq, hall, h0, hn, hs1⟩
  refine hs1.run (hm := false) ?_
  conv => whnf
  cases hc : decide ((q : Int) < (d.length : Int))
  case true =>
    have hq : q < d.length := by simp at hc; omega
    obtain ⟨x, hx⟩ := get_some hq
    rw [drop_get hx, List.countP_cons] at hall
    conv => whnf
    refine ⟨⟨by omega, by omega⟩, ?_⟩
    conv => whnf
    refine ⟨_, day_row hx, ?_⟩
    conv => whnf
    refine ⟨_, at_push_self _ _, ?_⟩
    conv => whnf
    refine ⟨_, at_new _ _ _, ?_⟩
    conv => whnf
    refine ⟨_, (at_old _ _ _ hn).trans h0, ?_⟩
    conv => whnf
    cases h1 : decide (x.done ≤ m)
    · rw [h1] at hall
      conv => whnf
      refine ⟨((q + 1 : Nat) : Int), by rw [wrap_eq (by omega) (by omega)]; omega, ?_⟩
      conv => whnf
      exact ⟨d.length - (q + 1), by omega, q + 1, c, _, by omega, rfl, by omega, by simpa using hall, (at_old _ _ _ hn).trans h0, by rw [new_n]; omega, rfl, ⟨rfl, rfl, rfl, rfl, rfl, trivial⟩, rfl, rfl, rfl, rfl⟩
    · rw [h1] at hall
      conv => whnf
      refine ⟨((c + 1 : Nat) : Int), by rw [wrap_eq (by omega) (by omega)]; omega, ?_⟩
      conv => whnf
      refine ⟨((q + 1 : Nat) : Int), by rw [wrap_eq (by omega) (by omega)]; omega, ?_⟩
      conv => whnf
      exact ⟨d.length - (q + 1), by omega, q + 1, c + 1, _, by omega, rfl, by omega, by simp at hall; omega, (at_old _ _ _ hn).trans h0, by rw [new_n]; omega, rfl, ⟨rfl, rfl, rfl, rfl, rfl, trivial⟩, rfl, rfl, rfl, rfl⟩
  have : q = d.length := by simp at hc; omega
  subst this
  rw [List.drop_length, List.countP_nil, Nat.add_zero] at hall
  rw [hall]
  conv => whnf
  exact .val

theorem inRuns_cons (a b : Int) (x : Sh) (l : List Sh) : inRuns a b (x :: l) = if inB x.run a b then x :: inRuns a b l else inRuns a b l := by
  unfold inRuns; rw [List.filter_cons]
theorem U142 : Try.prog.underlying 142 = some (.slice 182) := by kernel_rfl

theorem sheep_ret (d : List Sh) (hd : d.length ≤ 40) (a b : Int) : Ret Try.prog 169 [.agg [I a, I b], daySl d] (daySl (inRuns a b d)) := by
  refine ret_le (hm := false) Try.func169 rfl ?_
  conv => whnf
  refine loop_by (I := fun n st => ∃ (q : Nat) (h : Heap) (out : AV) (done : List Sh), q ≤ d.length ∧ n = d.length - q ∧ done.length ≤ q ∧ inRuns a b d = done ++ inRuns a b (d.drop q) ∧ Heap.at h 0 = .blk [.c (I a), .c (I b)] ∧ 0 < h.n ∧ RowsL 2 h out (done.map rowSh) ∧ (∀ o, outId out = some o → 0 < o) ∧
    Has st 27 [(2, .ptr 0 0), (5, out), (8, .c (daySl d)), (9, .c (I d.length)), (10, .c (I q))] [] none h) ?_ (k := d.length)
    ⟨0, _, nilA, [], Nat.zero_le _, rfl, Nat.le_refl _, rfl, rfl, Nat.lt_succ_self 0, .inl ⟨rfl, rfl⟩, by simp [outId], rfl, ⟨rfl, rfl, rfl, rfl, rfl, trivial⟩, rfl, rfl, rfl, rfl⟩
  rintro n st ⟨q, h, out, done, hq, rfl, hdq, hall, h0, hn, hR, hout, hs1⟩
  refine hs1.run (hm := false) ?_
  conv => whnf
  cases hc : decide ((q : Int) < (d.length : Int))
  case true =>
    have hq : q < d.length := by simp at hc; omega
    obtain ⟨x, hx⟩ := get_some hq
    rw [drop_get hx, inRuns_cons] at hall
    have hrl : ∀ r ∈ done.map rowSh, r.length = 2 := by intro r hr; simp only [List.mem_map] at hr; obtain ⟨p, _, rfl⟩ := hr; rfl
    have hlim : (done.map rowSh).length + 1 ≤ limit := by simp only [List.length_map]; unfold limit; omega
    conv => whnf
    refine ⟨⟨by omega, by omega⟩, ?_⟩
    conv => whnf
    refine ⟨_, day_row hx, ?_⟩
    conv => whnf
    refine ⟨_, at_push_self _ _, ?_⟩
    conv => whnf
    refine ⟨_, at_new _ _ _, ?_⟩
    conv => whnf
    refine ⟨_, (at_old _ _ _ hn).trans h0, ?_⟩
    conv => whnf
    refine ⟨_, (at_old _ _ _ hn).trans h0, ?_⟩
    conv => whnf
    refine .ret (within_ret _ _ _) rfl ?_
    conv => whnf
    cases h1 : inB x.run a b
    · rw [h1] at hall
      conv => whnf
      refine ⟨((q + 1 : Nat) : Int), by rw [wrap_eq (by omega) (by omega)]; omega, ?_⟩
      conv => whnf
      have hout' := hR.lt
      exact ⟨d.length - (q + 1), by omega, q + 1, _, out, done, by omega, rfl, by omega, by simpa using hall, (at_old _ _ _ hn).trans h0, by rw [new_n]; omega, hR.ext (by rw [new_n]; omega) (fun i hi _ => at_old _ _ _ hi), hout, rfl, ⟨rfl, rfl, rfl, rfl, rfl, trivial⟩, rfl, rfl, rfl, rfl⟩
    · rw [h1] at hall
      have R1 := fun (y z : AB) => hR.ext (h' := (h.push .dead y).set .dead h.n z) (by rw [new_n]; omega) (fun i hi _ => at_old _ _ _ hi)
      rcases hR.shape with rfl | ⟨o, m, rfl⟩
      all_goals
        conv => whnf
        refine ⟨_, at_new _ _ _, ?_⟩
        conv => whnf
        obtain ⟨rr, hrr, hR', hold, hn', hfresh⟩ := rows_append (row := rowSh x) (t := 142) (u := 142) (R1 (.blk [AV.lit (.int .i64 0), AV.lit (.int .i64 0)]) (.blk [.c (I x.run), .c (I x.done)])) U142 U142 rfl S182 rfl hrl rfl hlim
        obtain ⟨rv, rreads, rupds, rfresh⟩ := rr
        have h0' := (hold 0 (by rw [new_n]; omega) (fun e => absurd (hout _ e) (by omega))).trans ((at_old _ _ _ hn).trans h0)
        rcases hR' with ⟨_, hh⟩ | ⟨o', ho', hb', hlt', hne'⟩
        · exact absurd hh (by simp)
        simp only at ho'
        subst ho'
        refine ⟨_, hrr, ?_⟩
        conv => whnf
        refine ⟨((q + 1 : Nat) : Int), by rw [wrap_eq (by omega) (by omega)]; omega, ?_⟩
        conv => whnf
        refine ⟨d.length - (q + 1), by omega, q + 1, _, _, done ++ [x], by omega, rfl, by simp; omega, by rw [hall]; simp, h0', ?_, ?_, ?_, rfl, ⟨rfl, rfl, rfl, rfl, rfl, trivial⟩, rfl, rfl, rfl, rfl⟩
        · rw [new_n] at hn'
          exact Nat.lt_of_lt_of_le (by omega) hn'
        · rw [List.map_append]
          exact .inr ⟨o', rfl, hb', hlt', hne'⟩
        · intro o2 ho2
          have := hfresh o2 ho2
          rw [new_n] at this
          omega
  have hqq : q = d.length := by simp at hc; omega
  subst hqq
  have hnil : inRuns a b (d.drop d.length) = [] := by rw [List.drop_length]; rfl
  rw [hnil, List.append_nil] at hall
  have hend := hR.ends
  rw [List.length_map] at hend
  have hdd : daySl (inRuns a b d) = .sl (done.map rowSh).flatten 0 done.length := by rw [hall]; rfl
  rw [hdd]
  rcases hR.shape with rfl | ⟨o, m, rfl⟩
  · conv => whnf
    exact hend
  · conv => whnf
    exact hend

theorem inRuns_len (a b : Int) (d : List Sh) : (inRuns a b d).length ≤ d.length := List.length_filter_le _ _
theorem begun_ret (d : List Sh) (hd : d.length ≤ 40) (a b : Int) : Ret Try.prog 168 [.agg [I a, I b], daySl d] (I (Me.of d (.begun a b))) := by
  refine ret_by (hm := true) Try.func168 rfl ?_
  conv => whnf
  refine .ret (sheep_ret d hd a b) rfl ?_
  conv => whnf
  exact .val

theorem latest_snoc (m : Int) (l : List Sh) (x : Sh) : latest m (l ++ [x]) = max (latest m l) (x.done - m) := by
  unfold latest; rw [List.foldl_append]; rfl
theorem past_ret (d : List Sh) (hd : d.length ≤ 40) (hb : ∀ x ∈ d, 0 ≤ x.done ∧ x.done ≤ 100000) (a b m : Int) (hm : 0 ≤ m ∧ m ≤ 100000) : Ret Try.prog 170 [.agg [I a, I b, I m], daySl d] (I (Me.of d (.past a b m))) := by
  have hlen := inRuns_len a b d
  have hb2 : ∀ x ∈ inRuns a b d, 0 ≤ x.done ∧ x.done ≤ 100000 := fun x hx => hb x ((List.mem_filter.1 hx).1)
  have e : Me.of d (.past a b m) = latest m (inRuns a b d) := rfl
  rw [e]
  clear e
  refine ret_by (hm := false) Try.func170 rfl ?_
  conv => whnf
  refine ⟨_, rfl, ?_⟩
  conv => whnf
  refine .ret (sheep_ret d hd a b) rfl ?_
  conv => whnf
  generalize inRuns a b d = l at hlen hb2
  refine loop_by (I := fun n st => ∃ (q : Nat) (h : Heap), q ≤ l.length ∧ n = l.length - q ∧ Heap.at h 0 = .blk [.c (I a), .c (I b), .c (I m)] ∧ 0 < h.n ∧
    Has st 26 [(2, .ptr 0 0), (5, .c (I (latest m (l.take q)))), (11, .c (daySl l)), (12, .c (I l.length)), (13, .c (I q))] [] none h) ?_ (k := l.length)
    ⟨0, _, Nat.zero_le _, rfl, rfl, Nat.lt_succ_self 0, rfl, ⟨rfl, rfl, rfl, rfl, rfl, trivial⟩, rfl, rfl, rfl, rfl⟩
  rintro n st ⟨q, h, hq, rfl, h0, hn, hs1⟩
  refine hs1.run (hm := false) ?_
  conv => whnf
  cases hc : decide ((q : Int) < (l.length : Int))
  case true =>
    have hq : q < l.length := by simp at hc; omega
    obtain ⟨x, hx⟩ := get_some hq
    have hbx := hb2 x (List.mem_of_getElem? hx)
    have hnext : latest m (l.take (q + 1)) = max (latest m (l.take q)) (x.done - m) := by
      rw [List.take_add_one, hx]; exact latest_snoc _ _ _
    conv => whnf
    refine ⟨⟨by omega, by omega⟩, ?_⟩
    conv => whnf
    refine ⟨_, day_row hx, ?_⟩
    conv => whnf
    refine ⟨_, at_push_self _ _, ?_⟩
    conv => whnf
    refine ⟨_, at_new _ _ _, ?_⟩
    conv => whnf
    refine ⟨_, (at_old _ _ _ hn).trans h0, ?_⟩
    conv => whnf
    refine ⟨x.done - m, by rw [wrap_eq (by omega) (by omega)], ?_⟩
    conv => whnf
    refine ⟨((q + 1 : Nat) : Int), by rw [wrap_eq (by omega) (by omega)]; omega, ?_⟩
    conv => whnf
    exact ⟨l.length - (q + 1), by omega, q + 1, _, by omega, rfl, (at_old _ _ _ hn).trans h0, by rw [new_n]; omega, rfl, ⟨rfl, by rw [hnext]; rfl, rfl, rfl, rfl, trivial⟩, rfl, rfl, rfl, rfl⟩
  have : q = l.length := by simp at hc; omega
  subst this
  rw [List.take_length]
  conv => whnf
  exact .val

/-- Days that are not too long. -/
structure Tame (d : List Sh) : Prop where
  few : d.length ≤ 40
  done : ∀ x ∈ d, 0 ≤ x.done ∧ x.done ≤ 100000
/-- What may be asked. -/
def Me.ok : Me → Prop
  | .past _ _ m => 0 ≤ m ∧ m ≤ 100000
  | _ => True
theorem measured_ret {d : List Sh} (hd : Tame d) (m : Me) (hm : m.ok) : Ret Try.prog 97 [daySl d, m.cv] (I (m.of d)) := by
  cases m with
  | doneAt k =>
    refine ret_by (hm := true) Try.func97 rfl ?_
    conv => whnf
    refine .ret (doneAt_ret d hd.few k) rfl ?_
    conv => whnf
    exact .val
  | doneBy n =>
    refine ret_by (hm := true) Try.func97 rfl ?_
    conv => whnf
    refine .ret (doneBy_ret d hd.few n) rfl ?_
    conv => whnf
    exact .val
  | begun a b =>
    refine ret_by (hm := true) Try.func97 rfl ?_
    conv => whnf
    refine .ret (begun_ret d hd.few a b) rfl ?_
    conv => whnf
    exact .val
  | past a b n =>
    refine ret_by (hm := true) Try.func97 rfl ?_
    conv => whnf
    refine .ret (past_ret d hd.few hd.done a b n hm) rfl ?_
    conv => whnf
    exact .val

theorem agrees_ret {d : List Sh} (hd : Tame d) (l : Lk) : Ret Try.prog 123 [daySl d, .agg (rowLk l)] (B (agrees d l)) := by
  refine ret_by (hm := true) Try.func123 rfl ?_
  conv => whnf
  refine draw_by (hm := true) (by kernel_rfl) (by kernel_rfl) ?_
  conv => whnf
  refine .ret (measured_ret hd (.doneBy l.minute) trivial) rfl ?_
  conv => whnf
  refine .ret (within_ret _ _ _) rfl ?_
  conv => whnf
  refine ⟨by kernel_rfl, ?_⟩
  conv => whnf
  exact .val

theorem day_tame {s : Sd} {t : T3} (hg : Good s t) : Tame (dayOf s t) := by
  have main : ∀ (ks : List Int) (run : Nat) (free : Int), run ≤ s.runs.length → 0 ≤ free → (∀ k ∈ ks, 0 ≤ k ∧ k ≤ 2) → (dayF s.runs t ks run free).length ≤ ks.length ∧ ∀ x ∈ dayF s.runs t ks run free, 0 ≤ x.done ∧ x.done ≤ 640 := by
    intro ks
    induction ks with
    | nil => intro run free _ _ _; simp [dayF]
    | cons k ks ih =>
      intro run free hr hf hk
      unfold dayF
      split
      · simp
      · rename_i x hx
        have hxr := hg.runs x (List.mem_of_getElem? hx)
        have hfb := next_open _ _ rfl hr hx
        have htk := hg.takes k.toNat
        obtain ⟨h1, h2⟩ := ih (nextRun s.runs free run) (max free x.start + t.get k.toNat) (next_le hr) (by omega) (fun k hk' => hk k (List.mem_cons_of_mem _ hk'))
        refine ⟨by simp; omega, ?_⟩
        intro y hy
        rcases List.mem_cons.1 hy with rfl | hy
        · simp only; omega
        · exact h2 y hy
  have := main s.sheep 0 0 (Nat.zero_le _) (by omega) hg.kinds
  have hf := hg.few
  exact ⟨Nat.le_trans this.1 hf, fun x hx => by have := this.2 x hx; omega⟩
end Go.Ag
/- Layer 4: all shearers that there can be, one after the other. -/
namespace Go.Ag
open Go.Proofs
set_option maxRecDepth 100000

/-- The kinds from one on are chosen: so many are left. -/
def chooseL (lo hi : T3) : Nat → T3 → List T3
  | 0, t => [t]
  | d + 1, t => (ints (lo.get (2 - d)) (hi.get (2 - d))).flatMap fun n => chooseL lo hi d (t.put (2 - d) n)
theorem combos_choose (s : Sd) : combos s = chooseL s.lo s.hi 3 ⟨0, 0, 0⟩ := by
  simp [combos, chooseL, T3.get, T3.put, List.map_eq_flatMap]

def minC (lo hi : T3) : List CV := [I lo.a, I hi.a, I lo.b, I hi.b, I lo.c, I hi.c]
def minP (lo hi : T3) : CV := .cptr (minC lo hi) 0
def Narrow (lo hi : T3) : Prop := ∀ k, -1000 ≤ lo.get k ∧ hi.get k ≤ 1000
def ys3 (l : List T3) : List (List CV) := l.map fun t => [t.cv]

def chBlk (A C : Nat) (lo hi : T3) : AB := .blk [.func (.func 120) [] [.ptr A 0, .c (minP lo hi), .ptr C 0]]

set_option maxHeartbeats 1000000 in
theorem choose_ok {lo hi : T3} (hnar : Narrow lo hi) {id n0 A C : Nat} {J : (Nat → Prop) → List (List CV) → Heap → Prop} {D : (Nat → Prop) → Heap → Prop} {X : (Nat → Prop) → AV → Heap → Prop} (R : RoundsA Try.prog id n0 J D X) :
    ∀ (d : Nat), d ≤ 3 → ∀ (t : T3) (rest : List (List CV)) (W : Nat → Prop) (h : Heap), n0 ≤ h.n → (∀ i, W i → n0 ≤ i ∧ i < h.n) → W A → W C → Heap.at h A = .blk [.yield id] → Heap.at h C = chBlk A C lo hi → J W (ys3 (chooseL lo hi d t) ++ rest) h →
      ∃ e h', CallOk Try.prog 120 [.c (I ((3 - d : Nat) : Int)), .c t.cv, .ptr A 0, .c (minP lo hi), .ptr C 0] h .no e h' .no ∧ (n0 ≤ h'.n ∧ Foot (fun i => ¬ W i) h h' ∧ match e with
        | .ret v => (v = .c (B true) ∧ J W rest h') ∨ (v = .c (B false) ∧ D W h')
        | .panic v => X W v h') := by
  intro d
  induction d with
  | zero =>
    intro _ t rest W h hn hW wA wC hbA hbC hJ
    have hA := (hW A wA).2
    have hC := (hW C wC).2
    have hW1 : ∀ i, grow W h (h.push .dead (.blk [AV.c (I t.a), AV.c (I t.b), AV.c (I t.c)])) i → n0 ≤ i ∧ i < (h.push .dead (.blk [AV.c (I t.a), AV.c (I t.b), AV.c (I t.c)])).n := by
      rintro i (hi | hi)
      · have := hW i hi; rw [push_n]; omega
      · omega
    refine call_by (hm := false) Try.func120 rfl ?_
    conv => whnf
    refine ⟨_, (at_push_lt _ _ hA).trans hbA, ?_⟩
    conv => whnf
    refine ⟨_, at_push_self _ _, ?_⟩
    conv => whnf
    have hJ1 := R.stable _ _ _ (h.push .dead (.blk [AV.c (I t.a), AV.c (I t.b), AV.c (I t.c)])) hJ hn ((Foot.refl _ _).push _)
    refine .mk ((R.round _ [t.cv] rest _ hJ1 (by rw [push_n]; omega) hW1).mono ?_ ?_)
    · rintro b h' ⟨hf, hk⟩
      have hn' : n0 ≤ h'.n := Nat.le_trans (by rw [push_n]; omega) hf.n
      have hf' : Foot (fun i => ¬ W i) h h' := ((Foot.refl _ _).push _).trans (hf.mono fun i _ hi hw => hi (.inl hw))
      cases b
      · conv => whnf
        exact ⟨hn', hf', .inr ⟨rfl, R.dmono _ _ _ hk fun i hi => .inl hi⟩⟩
      · conv => whnf
        exact ⟨hn', hf', .inl ⟨rfl, R.mono _ _ _ _ hk fun i hi => .inl hi⟩⟩
    · rintro v h' ⟨hx, hn', hf⟩
      exact ⟨hn', ((Foot.refl _ _).push _).trans (hf.mono fun i _ hi hw => hi (.inl hw)), R.xmono _ _ _ _ hx fun i hi => .inl hi⟩
  | succ d ih =>
    intro hd t rest W h hn hW wA wC hbA hbC hJ
    have hA := (hW A wA).2
    have hC := (hW C wC).2
    have hnl := hnar (2 - d)
    have hd' : d = 0 ∨ d = 1 ∨ d = 2 := by omega
    have hsub : 3 - (d + 1) = 2 - d := by omega
    have hsub2 : ((3 - d : Nat) : Int) = ((2 - d : Nat) : Int) + 1 := by omega
    have ih := ih (by omega)
    rw [hsub]
    obtain ⟨k, hk⟩ : ∃ k, k = 2 - d := ⟨_, rfl⟩
    have hk2 : k ≤ 2 := by omega
    have hJ : J W (ys3 ((ints (lo.get k) (hi.get k)).flatMap fun n => chooseL lo hi d (t.put k n)) ++ rest) h := by rw [hk]; exact hJ
    rw [← hk] at hnl ⊢
    rw [hsub2, ← hk] at ih
    have hread0 : readVarC Try.prog 3 (minC lo hi) (0 + (k : Int).toNat * 2 + 0) = some (I (lo.get k)) := by
      obtain rfl | rfl | rfl : k = 0 ∨ k = 1 ∨ k = 2 := by omega
      all_goals rfl
    have hread1 : readVarC Try.prog 3 (minC lo hi) (0 + (k : Int).toNat * 2 + 1) = some (I (hi.get k)) := by
      obtain rfl | rfl | rfl : k = 0 ∨ k = 1 ∨ k = 2 := by omega
      all_goals rfl
    refine call_by (hm := false) Try.func120 rfl ?_
    conv => whnf
    have hne : ((k : Int) == 3) = false := by simp; omega
    rw [hne]
    conv => whnf
    refine ⟨⟨by decide, by omega, by omega⟩, ?_⟩
    conv => whnf
    refine ⟨_, hread0, ?_⟩
    conv => whnf
    refine loop_by (I := fun m st => ∃ (n : Int) (h' : Heap), lo.get k ≤ n ∧ m = (hi.get k + 1 - n).toNat ∧ n0 ≤ h'.n ∧ Heap.at h' A = .blk [.yield id] ∧ Heap.at h' C = chBlk A C lo hi ∧ Heap.at h' h.n = .blk [.c (I t.a), .c (I t.b), .c (I t.c)] ∧ h.n < h'.n ∧
      J (fun i => W i ∨ i = h.n) (ys3 ((ints n (hi.get k)).flatMap fun n => chooseL lo hi d (t.put k n)) ++ rest) h' ∧ Foot (fun i => ¬ W i) h h' ∧
      Has st 36 [(0, .c (I k)), (2, .ptr A 0), (3, .c (minP lo hi)), (4, .ptr C 0), (6, .ptr h.n 0), (8, .c (I n))] [] none h') ?_ (k := (hi.get k + 1 - lo.get k).toNat)
      ⟨lo.get k, _, by omega, rfl, by rw [push_n]; omega, (at_push_lt _ _ hA).trans hbA, (at_push_lt _ _ hC).trans hbC, at_push_self _ _, Nat.lt_succ_self _, R.mono _ _ _ _ (R.stable _ _ _ _ hJ hn ((Foot.refl _ _).push _)) (by rintro i (hi | rfl); exact .inl hi; exact .inr ⟨Nat.le_refl _, Nat.lt_succ_self _⟩), (Foot.refl _ _).push _, rfl, ⟨rfl, rfl, rfl, rfl, rfl, rfl, trivial⟩, rfl, rfl, rfl, rfl⟩
    rintro m st ⟨n, h', hlo, rfl, hn', kA, kC, kT, hT, kJ, kF, hs1⟩
    refine hs1.run (hm := false) ?_
    conv => whnf
    refine ⟨⟨by decide, by omega, by omega⟩, ?_⟩
    conv => whnf
    refine ⟨_, hread1, ?_⟩
    conv => whnf
    cases hc : decide (n ≤ hi.get k)
    · have : hi.get k < n := by simpa using hc
      rw [ints_nil this] at kJ
      conv => whnf
      exact ⟨hn', kF, .inl ⟨rfl, R.mono _ _ _ _ kJ fun i hi => .inl hi⟩⟩
    · have hle : n ≤ hi.get k := by simpa using hc
      rw [ints_cons hle, List.flatMap_cons, ys3, List.map_append, List.append_assoc] at kJ
      conv => whnf
      refine mixed_by (hm := false) (by kernel_rfl) (by kernel_rfl) ?_
      conv => whnf
      refine ⟨_, kC, ?_⟩
      conv => whnf
      refine ⟨(k : Int) + 1, by rw [wrap_eq (by omega) (by omega)], ?_⟩
      conv => whnf
      refine ⟨_, kT, ?_⟩
      conv => whnf
      refine .ret _ _ (with_ret t k hk2 n) rfl ?_
      conv => whnf
      obtain ⟨e, h2, hc2, hn2, f2, hend⟩ := ih (t.put k n) (ys3 ((ints (n + 1) (hi.get k)).flatMap fun n => chooseL lo hi d (t.put k n)) ++ rest) (fun i => W i ∨ i = h.n) h' hn' (by rintro i (hi | rfl); have := hW i hi; have := kF.n; omega; omega) (.inl wA) (.inl wC) kA kC kJ
      have f3 : Foot (fun i => ¬ W i) h' h2 := f2.mono fun i _ hi hw => hi (.inl hw)
      refine .heavy _ h2 (.inl hc2) ?_
      cases e with
      | panic v =>
        conv => whnf
        refine mOps_list (l' := []) (by kernel_rfl) ?_
        conv => whnf
        refine ⟨by kernel_rfl, heaps_nil (by kernel_rfl), ?_⟩
        intro ds
        exact ⟨hn2, kF.trans f3, R.xmono _ _ _ _ hend fun i hi => .inl hi⟩
      | ret v =>
        rcases hend with ⟨rfl, hJ2⟩ | ⟨rfl, hD2⟩
        · conv => whnf
          refine ⟨by kernel_rfl, heaps_nil (by kernel_rfl), ?_⟩
          conv => whnf
          refine ⟨n + 1, by rw [wrap_eq (by omega) (by omega)], ?_⟩
          conv => whnf
          have low : ∀ i, i < h'.n → (W i ∨ i = h.n) → Heap.at h2 i = Heap.at h' i := fun i hi h0 => f2.keep i hi (fun x => x h0)
          have hkn := kF.n
          exact ⟨_, by omega, n + 1, h2, by omega, rfl, hn2, (low A (by omega) (.inl wA)).trans kA, (low C (by omega) (.inl wC)).trans kC, (low h.n hT (.inr rfl)).trans kT, by have := f2.n; omega, hJ2, kF.trans f3, rfl, ⟨rfl, rfl, rfl, rfl, rfl, rfl, trivial⟩, rfl, rfl, rfl, rfl⟩
        · conv => whnf
          refine ⟨by kernel_rfl, heaps_nil (by kernel_rfl), ?_⟩
          conv => whnf
          exact ⟨hn2, kF.trans f3, .inr ⟨rfl, R.dmono _ _ _ hD2 fun i hi => .inl hi⟩⟩

/-- The shearers, as a function value. -/
def shearersC (lo hi : T3) : CV := .func (.func 119) [] [minP lo hi]
theorem shearers_ret (lo hi : T3) : Ret Try.prog 100 [.agg (minC lo hi)] (shearersC lo hi) := by
  refine ret_by (hm := true) Try.func100 rfl ?_
  conv => whnf
  refine ⟨10, [0], rfl⟩

theorem shearers_iter {lo hi : T3} (hnar : Narrow lo hi) : IterA Try.prog (fun _ => True) (.c (shearersC lo hi)) (ys3 (chooseL lo hi 3 ⟨0, 0, 0⟩)) := by
  refine ⟨119, [], [.c (minP lo hi)], fun args => by kernel_rfl, fun id n0 J D X R _ hid h hn hJ => ?_⟩
  refine call_by (hm := false) Try.func119 rfl ?_
  conv => whnf
  refine ⟨_, at_push_self _ _, ?_⟩
  conv => whnf
  refine ⟨chBlk h.n (h.n + 1) lo hi, at_new _ _ _, ?_⟩
  conv => whnf
  obtain ⟨H, hH⟩ : ∃ H : Heap, H = ((h.push .dead (.blk [.yield id])).push .dead (.blk [AV.lit Value.nilFunc])).set .dead (h.n + 1) (chBlk h.n (h.n + 1) lo hi) := ⟨_, rfl⟩
  have f0 : Foot none' h H := by rw [hH]; exact Foot.set (((Foot.refl _ _).push _).push _) (.inr (by omega)) _
  have bA : Heap.at H h.n = .blk [.yield id] := by rw [hH]; exact (at_old _ _ _ (by rw [push_n]; omega)).trans (at_push_self _ _)
  have bC : Heap.at H (h.n + 1) = chBlk h.n (h.n + 1) lo hi := by rw [hH]; exact at_new _ _ _
  have hHn : H.n = h.n + 2 := by rw [hH]; rfl
  obtain ⟨e, h2, hc2, hn2, f2, hend⟩ := choose_ok hnar R (A := h.n) (C := h.n + 1) 3 (Nat.le_refl _) ⟨0, 0, 0⟩ [] (grow none' h H) H (by omega) (by rintro i (hi | hi); exact hi.elim; omega) (.inr (by omega)) (.inr (by omega)) bA bC (by rw [List.append_nil]; exact R.stable _ _ _ _ hJ hn f0)
  rw [hH] at hc2
  cases e with
  | panic v =>
    refine .inl _ h2 .no hc2 ?_
    conv => whnf
    exact ⟨hn2, R.xmono _ _ _ _ hend fun i hi => hi.elim⟩
  | ret v =>
    rcases hend with ⟨rfl, hJ2⟩ | ⟨rfl, hD2⟩
    · refine .inl _ h2 .no hc2 ?_
      conv => whnf
      exact ⟨hn2, .inl (R.mono _ _ _ _ hJ2 fun i hi => hi.elim)⟩
    · refine .inl _ h2 .no hc2 ?_
      conv => whnf
      exact ⟨hn2, .inr (R.dmono _ _ _ hD2 fun i hi => hi.elim)⟩
end Go.Ag
/- Layer 4: the days that are kept in a map. -/
namespace Go.Ag
open Go.Proofs
set_option maxRecDepth 100000

theorem u3 : pureRun Try.prog (underlying 3) = some (.int .i64) := by kernel_rfl
theorem eq_int (d : Nat) (a b : Int) : pureRun Try.prog (Op.equalIn (d + 1) 3 (.int .i64 a) (.int .i64 b)) = some (a == b) := by
  unfold Op.equalIn
  rw [pureRun_bind, u3]
  simp
  rfl
theorem pureRun_ite {α : Type} (P : Program) (c : Prop) [Decidable c] (x y : Sem α) : pureRun P (if c then x else y) = if c then pureRun P x else pureRun P y := by by_cases h : c <;> simp [h]
def fld (n : String) (t o b : Nat) : Field := { name := n, type := t, offset := o, embedded := false, tag := "", pkgPath := "shearworks/stand", byteOffset := b }
theorem u102 : pureRun Try.prog (underlying 102) = some (.array 3 3) := by kernel_rfl
theorem u156 : pureRun Try.prog (underlying 156) = some (.struct #[fld "takes" 102 0 0]) := by kernel_rfl
theorem pp0 : pureRun Try.prog program = some Try.prog := by kernel_rfl
theorem st156 : Try.prog.stoodInHeld 156 = false := by kernel_rfl
theorem sz3 : pureRun Try.prog (sizeOf 3) = some 1 := by kernel_rfl
theorem part3 (v : Array Value) (i : Nat) (x : Value) (h : v[i]? = some x) : pureRun Try.prog (part 3 v i) = some x := by
  have ha : pureRun Try.prog (isAgg 3) = some false := by kernel_rfl
  unfold part
  rw [pureRun_bind, ha]
  simp only [Option.bind_some, Bool.false_eq_true, if_false, h]
  rfl
theorem eq_arr (d : Nat) (a b c a' b' c' : Int) : pureRun Try.prog (Op.equalIn (d + 1 + 1) 102 (.agg #[.int .i64 a, .int .i64 b, .int .i64 c]) (.agg #[.int .i64 a', .int .i64 b', .int .i64 c'])) = some (decide (a = a' ∧ b = b' ∧ c = c')) := by
  rw [Op.equalIn.eq_def]
  simp only [pureRun_bind, u102, Option.bind_some, sz3]
  simp [List.range', pureRun_bind, pureRun_ite, part3, eq_int, pureRun_pure]
  by_cases h1 : a = a'
  · by_cases h2 : b = b'
    · by_cases h3 : c = c'
      · simp [pureRun_bind, pureRun_ite, part3, eq_int, pureRun_pure, h1, h2, h3]
      · simp [pureRun_bind, pureRun_ite, part3, eq_int, pureRun_pure, h1, h2, h3]
    · simp [pureRun_bind, pureRun_ite, part3, eq_int, pureRun_pure, h1, h2]
  · simp [pureRun_pure, h1]

def T3.v (t : T3) : Value := .agg #[.int .i64 t.a, .int .i64 t.b, .int .i64 t.c]
theorem T3.toVal (t : T3) : (AV.c t.cv).toVal = some t.v := rfl
theorem T3.v_inj {k l : T3} (h : k.v = l.v) : k = l := by
  cases k; cases l; simp [T3.v] at h; simp [h]
theorem key_ok (k : T3) (e : Bool) : pureRun Try.prog (Instr.checkKey e 10000 156 k.v) = some () := by kernel_rfl
theorem part102 (a b c : Int) : pureRun Try.prog (part 102 #[.int .i64 a, .int .i64 b, .int .i64 c] 0) = some (.agg #[.int .i64 a, .int .i64 b, .int .i64 c]) := by kernel_rfl
theorem eq_key' (d : Nat) (k l : T3) : pureRun Try.prog (Op.equalIn (d + 1 + 1 + 1) 156 k.v l.v) = some (decide (k = l)) := by
  obtain ⟨a, b, c⟩ := k
  obtain ⟨a', b', c'⟩ := l
  rw [Op.equalIn.eq_def]
  simp only [pureRun_bind, u156, Option.bind_some, pp0, pureRun_ite, st156, Bool.false_eq_true, if_false, T3.v]
  simp [pureRun_bind, pureRun_ite, fld, part102, eq_arr, pureRun_pure]
  by_cases h : a = a' ∧ b = b' ∧ c = c'
  · simp [pureRun_pure, h]
  · simp only [not_and] at h
    by_cases h1 : a = a'
    · by_cases h2 : b = b'
      · simp [pureRun_pure, h1, h2, h h1 h2]
      · simp [pureRun_pure, h1, h2]
    · simp [pureRun_pure, h1]
theorem key_eq (k l : T3) : pureRun Try.prog (Op.equal 156 k.v l.v) = some (decide (k = l)) := eq_key' 9997 k l

theorem find_key (k : T3) : ∀ (ks : List T3) (i : Nat), ∃ r, pureRun Try.prog (Instr.findAsking 156 k.v (ks.map fun l => { key := l.v, val := Go.undef, born := 0 }) i) = some r ∧
    match r with
    | none => k ∉ ks
    | some (j, _) => i ≤ j ∧ ks[j - i]? = some k
  | [], i => ⟨none, rfl, by simp⟩
  | l :: ks, i => by
    simp only [List.map_cons, Instr.findAsking, pureRun_bind, key_eq, Option.bind_some, pureRun_ite]
    by_cases h : k = l
    · subst h
      exact ⟨some (i, Go.undef), by simp [pureRun_pure], Nat.le_refl _, by simp⟩
    · obtain ⟨r, h1, h2⟩ := find_key k ks (i + 1)
      refine ⟨r, by simp [h, h1], ?_⟩
      cases r with
      | none => simp only at h2 ⊢; simp [h, h2]
      | some p =>
        simp only at h2 ⊢
        refine ⟨by omega, ?_⟩
        rw [show p.1 - i = (p.1 - (i + 1)) + 1 by omega, List.getElem?_cons_succ]
        exact h2.2

theorem key_index (k : T3) (ks : List T3) (e : Bool) : ∃ r, keyIndex Try.prog 156 (ks.map T3.v) e k.v = some r ∧ match r with
    | none => k ∉ ks
    | some j => ks[j]? = some k := by
  obtain ⟨r, h1, h2⟩ := find_key k ks 0
  have hn : pureRun Try.prog (Instr.findKey 156 k.v ((ks.map T3.v).map fun l => { key := l, val := Go.undef, born := 0 })) = some r := by
    simp only [Instr.findKey, pureRun_bind, u156, Option.bind_some, List.map_map, Function.comp_def]
    cases ks with
    | nil => exact h1
    | cons l ks => exact h1
  refine ⟨r.map (·.1), ?_, ?_⟩
  · simp only [keyIndex, key_ok, hn]
  · cases r with
    | none => exact h2
    | some p => simpa using h2.2

/-- A map that holds the days of these shearers at least. -/
def DayMap (s : Sd) (done : List T3) (b : AB) : Prop := ∃ (ks : List T3) (vals : List AV) (borns : List Nat) (clock : Nat), b = .map (ks.map T3.v) vals borns clock ∧ vals.length = ks.length ∧ (∀ (i : Nat) (k : T3), ks[i]? = some k → vals[i]? = some (.c (daySl (dayOf s k)))) ∧ ∀ t ∈ done, t ∈ ks

theorem dayMap_eq {s : Sd} {done : List T3} {b b' : AB} (e : b = b') (h : DayMap s done b') : DayMap s done b := e ▸ h

theorem day_lookup {s : Sd} {done : List T3} {rd : Nat → AB} {m : Nat} (h : DayMap s done (rd m)) {k : T3} (hk : k ∈ done) :
    alookup Try.prog rd 104 (.map m) (.c k.cv) false = some { val := .c (daySl (dayOf s k)), reads := [m] } := by
  obtain ⟨ks, vals, borns, clock, hb, hl, hv, hd⟩ := h
  have hm : mapType Try.prog 104 = some (156, 143) := by kernel_rfl
  obtain ⟨r, h1, h2⟩ := key_index k ks (ks.map T3.v).isEmpty
  unfold alookup
  simp only [hm, T3.toVal, mapOf, hb, h1]
  cases r with
  | none => exact absurd (hd k hk) h2
  | some j =>
    have := hv j k h2
    simp only [this]; rfl

theorem day_update {s : Sd} {done : List T3} {rd : Nat → AB} {m : Nat} (h : DayMap s done (rd m)) (k : T3) : ∃ b, amapUpdate Try.prog rd 104 (.map m) (.c k.cv) (.c (daySl (dayOf s k))) = some { val := .undef, reads := [m], upds := [(m, b)] } ∧ DayMap s (done ++ [k]) b := by
  obtain ⟨ks, vals, borns, clock, hb, hl, hv, hd⟩ := h
  have hm : mapType Try.prog 104 = some (156, 143) := by kernel_rfl
  obtain ⟨r, h1, h2⟩ := key_index k ks false
  unfold amapUpdate
  simp only [hm, T3.toVal, hb, h1]
  cases r with
  | none =>
    refine ⟨_, rfl, ks ++ [k], vals ++ [.c (daySl (dayOf s k))], borns ++ [clock], clock + 1, by simp, by simp [hl], ?_, ?_⟩
    · intro i l hi
      by_cases hlt : i < ks.length
      · rw [List.getElem?_append_left hlt] at hi
        rw [List.getElem?_append_left (by omega)]
        exact hv i l hi
      · rw [List.getElem?_append_right (by omega)] at hi
        rw [List.getElem?_append_right (by omega), hl]
        have : i - ks.length = 0 := by
          rcases Nat.eq_zero_or_pos (i - ks.length) with h | h
          · exact h
          · rw [List.getElem?_eq_none (by simp; omega)] at hi; cases hi
        rw [this] at hi ⊢
        simp at hi ⊢
        rw [hi]
    · intro t ht
      rcases List.mem_append.1 ht with ht | ht
      · exact List.mem_append_left _ (hd t ht)
      · exact List.mem_append_right _ ht
  | some j =>
    have h2 : ks[j]? = some k := h2
    have hjl : j < ks.length := by
      rcases Nat.lt_or_ge j ks.length with h | h
      · exact h
      · rw [List.getElem?_eq_none h] at h2; cases h2
    have hj : (ks.map T3.v)[j]? = some k.v := by simp only [List.getElem?_map]; rw [show ks[j]? = some k from h2]; rfl
    have hs : Instr.sameBits 10000 k.v k.v = true := by
      have : ∀ n : Int, Instr.sameBits 9999 (.int .i64 n) (.int .i64 n) = true := fun n => by simp [Instr.sameBits]
      unfold T3.v
      rw [show (10000 : Nat) = 9999 + 1 from rfl]
      simp [Instr.sameBits]
    simp only [hj, hs, if_true]
    refine ⟨_, rfl, ks, vals.set j (.c (daySl (dayOf s k))), borns, clock, ?_, by simp [hl], ?_, ?_⟩
    · congr 1
      apply List.ext_getElem?
      intro i
      rw [List.getElem?_set]
      by_cases hij : j = i
      · subst hij; rw [hj]; simp [hjl]
      · simp [hij]
    · intro i l hi
      rw [List.getElem?_set]
      by_cases hij : j = i
      · subst hij
        rw [h2] at hi
        obtain rfl := Option.some.inj hi
        simp [hl, hjl]
      · simp [hij, hv i l hi]
    · intro t ht
      rcases List.mem_append.1 ht with ht | ht
      · exact hd t ht
      · rw [List.mem_singleton] at ht
        rw [ht]
        exact List.mem_of_getElem? h2
end Go.Ag
