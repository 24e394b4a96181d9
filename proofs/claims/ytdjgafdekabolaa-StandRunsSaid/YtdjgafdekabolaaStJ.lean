/- The reference of layer 4 returns what the program does: the law StandReads returns true for arguments that are not far too long. No conditions. -/
import Derived.Test.YtdjgafdekabolaaStI
/- Layer 4: the reference's small functions. -/
namespace Go.Ag
open Go.Proofs
set_option maxRecDepth 100000

def powE (n c : Nat) : Known := ⟨107, [I n], I c⟩
theorem pow0 : (powE 0 1).ok Try.prog := tells_ok (C := cfg0) mix con0 (n := 2000) (by kernel_rfl)
theorem pow1 : (powE 1 2).ok Try.prog := tells_ok (C := cfg0) mix con0 (n := 2000) (by kernel_rfl)
theorem pow2 : (powE 2 4).ok Try.prog := tells_ok (C := cfg0) mix con0 (n := 2000) (by kernel_rfl)
theorem pow3 : (powE 3 8).ok Try.prog := tells_ok (C := cfg0) mix con0 (n := 2000) (by kernel_rfl)
theorem pow4 : (powE 4 16).ok Try.prog := tells_ok (C := cfg0) mix con0 (n := 2000) (by kernel_rfl)
theorem power_ret {n : Nat} (h : n ≤ 4) : Ret Try.prog 107 [I n] (I ((2 ^ n : Nat) : Int)) := by
  match n, h with
  | 0, _ => exact pow0
  | 1, _ => exact pow1
  | 2, _ => exact pow2
  | 3, _ => exact pow3
  | 4, _ => exact pow4
  | n + 5, h => omega
theorem has_ret {set n : Nat} (hs : set < 65536) (hn : n ≤ 4) : Ret Try.prog 127 [I set, I n] (B (set.testBit n)) := by
  have hp : 1 ≤ 2 ^ n := Nat.one_le_two_pow
  have hq : set / 2 ^ n ≤ set := Nat.div_le_self _ _
  have hdiv : ((set : Int)).tdiv ((2 ^ n : Nat) : Int) = ((set / 2 ^ n : Nat) : Int) := by
    rw [Int.tdiv_eq_ediv_of_nonneg (by omega)]
    exact (Int.natCast_ediv _ _).symm
  have hbit : ((((set / 2 ^ n % 2 : Nat) : Int)) == 1) = set.testBit n := by
    rw [Nat.testBit_eq_decide_div_mod_eq]
    generalize set / 2 ^ n = q
    have : q % 2 = 0 ∨ q % 2 = 1 := by omega
    rcases this with h | h <;> rw [h] <;> rfl
  obtain ⟨q, hqd⟩ : ∃ q, q = set / 2 ^ n := ⟨_, rfl⟩
  rw [← hqd] at hq hdiv hbit
  refine ret_by (hm := true) Try.func127 rfl ?_
  conv => whnf
  refine .ret (power_ret hn) rfl ?_
  conv => whnf
  refine ⟨by omega, (q : Int), by rw [hdiv, wrap_eq (by omega) (by omega)], ?_⟩
  conv => whnf
  refine ⟨by omega, ((q % 2 : Nat) : Int), tmod_nat _ 2, ?_⟩
  conv => whnf
  rw [hbit]
  exact .val
theorem every_ret {v : SV} {s : Sd} (hv : v.Is s) (h4 : s.looks.length ≤ 4) : Ret Try.prog 73 [v.cv] (I ((2 ^ s.looks.length - 1 : Nat) : Int)) := by
  have e1 := hv.ln
  have hp : 1 ≤ 2 ^ s.looks.length := Nat.one_le_two_pow
  have hp2 : 2 ^ s.looks.length ≤ 2 ^ 4 := Nat.pow_le_pow_right (by omega) h4
  refine ret_by (hm := true) Try.func73 rfl ?_
  conv => whnf
  rw [e1]
  refine .ret (power_ret h4) rfl ?_
  conv => whnf
  refine ⟨((2 ^ s.looks.length - 1 : Nat) : Int), by rw [wrap_eq (by omega) (by omega)]; omega, ?_⟩
  conv => whnf
  exact .val
theorem sheepT_ret {v : SV} {s : Sd} (hv : v.Is s) (n : Int) : Ret Try.prog 53 [v.cv, I n] (B (inB n 0 (s.sheep.length - 1))) := by
  have e1 := hv.kn
  have e2 := hv.short
  refine ret_by (hm := true) Try.func53 rfl ?_
  conv => whnf
  rw [e1]
  refine ⟨(s.sheep.length : Int) - 1, by rw [wrap_eq (by omega) (by omega)], ?_⟩
  conv => whnf
  refine .ret (in_ret _ _ _) rfl ?_
  conv => whnf
  exact .val
theorem runT_ret {v : SV} {s : Sd} (hv : v.Is s) (n : Int) : Ret Try.prog 66 [v.cv, I n] (B (inB n 0 (s.runs.length - 1))) := by
  have e1 := hv.rn
  have e2 := hv.short
  refine ret_by (hm := true) Try.func66 rfl ?_
  conv => whnf
  rw [e1]
  refine ⟨(s.runs.length : Int) - 1, by rw [wrap_eq (by omega) (by omega)], ?_⟩
  conv => whnf
  refine .ret (in_ret _ _ _) rfl ?_
  conv => whnf
  exact .val
theorem minuteT_ret (n : Int) : Ret Try.prog 55 [I n] (B (inB n 0 999)) := by
  refine ret_by (hm := true) Try.func55 rfl ?_
  conv => whnf
  refine .ret (in_ret _ _ _) rfl ?_
  conv => whnf
  exact .val

/-- A day, as the reference has it. -/
def refC (D R : List Int) : CV := .agg [.sl (D.map I) 0 D.length, .sl (R.map I) 0 R.length]
def refBlk (D R : List Int) : AB := .blk [.c (.sl (D.map I) 0 D.length), .c (.sl (R.map I) 0 R.length)]

theorem count56_ret {D R : List Int} (hl : D.length ≤ 40) (m : Int) : Ret Try.prog 56 [refC D R, I m] (I (cntF D m)) := by
  have hcl := cntF_le (l := D) (m := m)
  refine ret_by (hm := false) Try.func56 rfl ?_
  conv => whnf
  refine loop_by (I := fun n st => ∃ j : Nat, ∃ h : Heap, j ≤ D.length ∧ n = D.length - j ∧ Heap.at h 0 = refBlk D R ∧ Has st 24 [(1, .c (I m)), (2, .ptr 0 0), (5, .c (I (cntF (D.take j) m))), (6, .c (I j))] [] none h) ?_ (k := D.length)
    ⟨0, _, Nat.zero_le _, rfl, at_push_self _ _, rfl, ⟨rfl, rfl, rfl, rfl, trivial⟩, rfl, rfl, rfl, rfl⟩
  rintro n st ⟨j, h, hj, rfl, h0, hs1⟩
  refine hs1.run (hm := false) ?_
  conv => whnf
  refine ⟨_, h0, ?_⟩
  conv => whnf
  cases hc : decide ((j : Int) < (D.length : Int))
  case true =>
    have hj2 : j < D.length := by simp at hc; omega
    obtain ⟨x, hx⟩ := get_some hj2
    have hct : cntF (D.take j) m ≤ j := Nat.le_trans cntF_le (by simp; omega)
    conv => whnf
    refine ⟨_, h0, ?_⟩
    conv => whnf
    refine ⟨⟨by omega, by omega⟩, ?_⟩
    conv => whnf
    refine ⟨_, read_ints hx, ?_⟩
    conv => whnf
    cases hc1 : decide (x ≤ m)
    case true =>
      have hxm : x ≤ m := by simpa using hc1
      conv => whnf
      refine ⟨((cntF (D.take (j + 1)) m : Nat) : Int), by rw [cntF_succ hx, if_pos hxm, wrap_eq (by omega) (by omega)]; omega, ?_⟩
      conv => whnf
      refine ⟨((j + 1 : Nat) : Int), by rw [wrap_eq (by omega) (by omega)]; omega, ?_⟩
      conv => whnf
      exact ⟨D.length - (j + 1), by omega, j + 1, h, hj2, rfl, h0, rfl, ⟨rfl, rfl, rfl, rfl, trivial⟩, rfl, rfl, rfl, rfl⟩
    have hxm : ¬ x ≤ m := by simpa using hc1
    conv => whnf
    refine ⟨((j + 1 : Nat) : Int), by rw [wrap_eq (by omega) (by omega)]; omega, ?_⟩
    conv => whnf
    have hce : cntF (D.take (j + 1)) m = cntF (D.take j) m := by rw [cntF_succ hx, if_neg hxm]; rfl
    exact ⟨D.length - (j + 1), by omega, j + 1, h, hj2, rfl, h0, rfl, ⟨rfl, rfl, by rw [hce]; rfl, rfl, trivial⟩, rfl, rfl, rfl, rfl⟩
  have hjl : j = D.length := by simp at hc; omega
  subst hjl
  conv => whnf
  rw [List.take_length]
  exact .val
end Go.Ag
/- Layer 4: the reference: the run of a minute, who is begun in a run, which looks are right. -/
namespace Go.Ag
open Go.Proofs
set_option maxRecDepth 100000

/-- The run of a minute. -/
def runAt (m : Int) : List Ru → Nat → Int
  | [], _ => -1
  | x :: l, i => if inB m x.start (x.bell - 1) = true then i else runAt m l (i + 1)
theorem runAt_cons (m : Int) (x : Ru) (l : List Ru) (i : Nat) : runAt m (x :: l) i = if inB m x.start (x.bell - 1) = true then (i : Int) else runAt m l (i + 1) := rfl
theorem running_ret {v : SV} {s : Sd} (hv : v.Is s) (hb : ∀ x ∈ s.runs, 0 ≤ x.bell ∧ x.bell ≤ 600) (m : Int) : Ret Try.prog 89 [v.cv, I m] (I (runAt m s.runs 0)) := by
  have e1 := hv.rn; have e2 := hv.short
  refine ret_by (hm := false) Try.func89 rfl ?_
  conv => whnf
  refine loop_by (I := fun n st => ∃ j : Nat, ∃ h : Heap, j ≤ s.runs.length ∧ n = s.runs.length - j ∧ Heap.at h 0 = v.blk ∧ runAt m s.runs 0 = runAt m (s.runs.drop j) j ∧ Has st 29 [(1, .c (I m)), (2, .ptr 0 0), (5, .c (I j))] [] none h) ?_ (k := s.runs.length)
    ⟨0, _, Nat.zero_le _, rfl, at_push_self _ _, rfl, rfl, ⟨rfl, rfl, rfl, trivial⟩, rfl, rfl, rfl, rfl⟩
  rintro n st ⟨j, h, hj, rfl, h0, hf, hs1⟩
  refine hs1.run (hm := false) ?_
  conv => whnf
  refine ⟨_, h0, ?_⟩
  conv => whnf
  cases hc : decide ((j : Int) < (v.rn : Int))
  case true =>
    have hj2 : j < s.runs.length := by simp at hc; omega
    obtain ⟨x, hx⟩ := get_some hj2
    have hxb := hb x (List.mem_of_getElem? hx)
    rw [drop_get hx, runAt_cons] at hf
    conv => whnf
    refine draw_by (hm := false) (by kernel_rfl) (by kernel_rfl) ?_
    conv => whnf
    refine ⟨_, h0, ?_⟩
    conv => whnf
    refine ⟨⟨by omega, by omega⟩, ?_⟩
    conv => whnf
    refine ⟨_, hv.run0 hx, ?_⟩
    conv => whnf
    refine ⟨_, h0, ?_⟩
    conv => whnf
    refine ⟨⟨by omega, by omega⟩, ?_⟩
    conv => whnf
    refine ⟨_, hv.run1 hx, ?_⟩
    conv => whnf
    refine ⟨x.bell - 1, by rw [wrap_eq (by omega) (by omega)], ?_⟩
    conv => whnf
    refine .pure _ _ rfl (in_ret _ _ _) ?_
    conv => whnf
    refine ⟨by kernel_rfl, ?_⟩
    cases hi : inB m x.start (x.bell - 1)
    · rw [hi, if_neg (by simp)] at hf
      conv => whnf
      refine ⟨((j + 1 : Nat) : Int), by rw [wrap_eq (by omega) (by omega)]; omega, ?_⟩
      conv => whnf
      exact ⟨s.runs.length - (j + 1), by omega, j + 1, h, hj2, rfl, h0, hf, rfl, ⟨rfl, rfl, rfl, trivial⟩, rfl, rfl, rfl, rfl⟩
    · rw [hi, if_pos rfl] at hf
      conv => whnf
      rw [hf]
      exact .val
  have hjl : j = s.runs.length := by simp at hc; omega
  rw [hjl, List.drop_length] at hf
  conv => whnf
  rw [hf]
  exact .val

/-- Those that are begun in a run, when they are done. -/
def ofR (r : Int) (P : List (Int × Int)) : List Int := (P.filter fun p => p.1 == r).map (·.2)
theorem ofR_step {r : Int} {P : List (Int × Int)} {i : Nat} {p : Int × Int} (h : P[i]? = some p) : ofR r (P.take (i + 1)) = ofR r (P.take i) ++ (if p.1 == r then [p.2] else []) := by
  unfold ofR
  rw [List.take_add_one, h, Option.toList_some, List.filter_append, List.map_append]
  congr 1
  rw [List.filter_cons]
  split <;> simp
theorem ofR_len (r : Int) (P : List (Int × Int)) : (ofR r P).length ≤ P.length := by
  unfold ofR; rw [List.length_map]; exact List.length_filter_le ..
def refP (P : List (Int × Int)) : CV := .agg [.sl ((P.map (·.2)).map I) 0 P.length, .sl ((P.map (·.1)).map I) 0 P.length]
def refPB (P : List (Int × Int)) : AB := .blk [.c (.sl ((P.map (·.2)).map I) 0 P.length), .c (.sl ((P.map (·.1)).map I) 0 P.length)]

set_option maxHeartbeats 2000000 in
theorem begun67_ret {P : List (Int × Int)} (hl : P.length ≤ 40) (r : Int) : Ret Try.prog 67 [refP P, I r] (.tuple [I (ofR r P).length, I (lastF (ofR r P))]) := by
  refine ret_by (hm := false) Try.func67 rfl ?_
  conv => whnf
  refine loop_by (I := fun n st => ∃ j : Nat, ∃ h : Heap, j ≤ P.length ∧ n = P.length - j ∧ Heap.at h 0 = refPB P ∧ Has st 32 [(1, .c (I r)), (2, .ptr 0 0), (6, .c (I (ofR r (P.take j)).length)), (7, .c (I (lastF (ofR r (P.take j))))), (8, .c (I j))] [] none h) ?_ (k := P.length)
    ⟨0, _, Nat.zero_le _, rfl, at_push_self _ _, rfl, ⟨rfl, rfl, rfl, rfl, rfl, trivial⟩, rfl, rfl, rfl, rfl⟩
  rintro n st ⟨j, h, hj, rfl, h0, hs1⟩
  refine hs1.run (hm := false) ?_
  conv => whnf
  refine ⟨_, h0, ?_⟩
  conv => whnf
  cases hc : decide ((j : Int) < (P.length : Int))
  case true =>
    have hj2 : j < P.length := by simp at hc; omega
    obtain ⟨p, hp⟩ := get_some hj2
    have hp1 : (P.map (·.1))[j]? = some p.1 := by rw [List.getElem?_map, hp]; rfl
    have hp2 : (P.map (·.2))[j]? = some p.2 := by rw [List.getElem?_map, hp]; rfl
    have hst := ofR_step (r := r) hp
    have hln := Nat.le_trans (ofR_len r (P.take j)) (List.length_take_le j _)
    conv => whnf
    refine ⟨_, h0, ?_⟩
    conv => whnf
    refine ⟨⟨by omega, by omega⟩, ?_⟩
    conv => whnf
    refine ⟨_, read_ints hp1, ?_⟩
    conv => whnf
    cases hc1 : (p.1 == r)
    · rw [hc1] at hst
      have hst : ofR r (P.take (j + 1)) = ofR r (P.take j) := by rw [hst]; simp
      conv => whnf
      refine ⟨((j + 1 : Nat) : Int), by rw [wrap_eq (by omega) (by omega)]; omega, ?_⟩
      conv => whnf
      exact ⟨P.length - (j + 1), by omega, j + 1, h, hj2, rfl, h0, rfl, by rw [hst]; exact ⟨rfl, rfl, rfl, rfl, rfl, trivial⟩, rfl, rfl, rfl, rfl⟩
    · rw [hc1] at hst
      have hst : ofR r (P.take (j + 1)) = ofR r (P.take j) ++ [p.2] := hst
      conv => whnf
      refine draw_by (hm := false) (by kernel_rfl) (by kernel_rfl) ?_
      conv => whnf
      refine ⟨(((ofR r (P.take j)).length + 1 : Nat) : Int), by rw [wrap_eq (by omega) (by omega)]; omega, ?_⟩
      conv => whnf
      refine ⟨_, h0, ?_⟩
      conv => whnf
      refine ⟨⟨by omega, by omega⟩, ?_⟩
      conv => whnf
      refine ⟨_, read_ints hp2, ?_⟩
      conv => whnf
      refine ⟨by kernel_rfl, ?_⟩
      conv => whnf
      refine ⟨((j + 1 : Nat) : Int), by rw [wrap_eq (by omega) (by omega)]; omega, ?_⟩
      conv => whnf
      exact ⟨P.length - (j + 1), by omega, j + 1, h, hj2, rfl, h0, rfl, by rw [hst, lastF_snoc, List.length_append]; exact ⟨rfl, rfl, rfl, rfl, rfl, trivial⟩, rfl, rfl, rfl, rfl⟩
  have hjl : j = P.length := by simp at hc; omega
  subst hjl
  conv => whnf
  rw [List.take_length]
  exact .val

/-- Is a sheep of a run done after a minute? -/
def lateF (P : List (Int × Int)) (m : Int) : Nat → Nat → Bool
  | 0, _ => false
  | n + 1, i => decide (lastF (ofR i P) > m) || lateF P m n (i + 1)
theorem lateF_succ (P : List (Int × Int)) (m : Int) (n i : Nat) : lateF P m (n + 1) i = (decide (lastF (ofR i P) > m) || lateF P m n (i + 1)) := rfl
theorem late69_ret {v : SV} {s : Sd} (hv : v.Is s) {P : List (Int × Int)} (hl : P.length ≤ 40) {r : Nat} {y : Ru} (hy : s.runs[r]? = some y) : Ret Try.prog 69 [v.cv, refP P, I r] (B (lateF P y.start r 0)) := by
  have e1 := hv.rn; have e2 := hv.short
  have hr : r < s.runs.length := (List.getElem?_eq_some_iff.1 hy).1
  refine ret_by (hm := false) Try.func69 rfl ?_
  conv => whnf
  refine loop_by (I := fun n st => ∃ j : Nat, ∃ h : Heap, j ≤ r ∧ n = r - j ∧ Heap.at h 0 = v.blk ∧ Heap.at h 1 = refPB P ∧ lateF P y.start r 0 = lateF P y.start (r - j) j ∧ Has st 29 [(2, .c (I r)), (3, .ptr 0 0), (4, .ptr 1 0), (7, .c (I j))] [] none h) ?_ (k := r)
    ⟨0, _, Nat.zero_le _, rfl, (at_push_lt _ _ (Nat.lt_succ_self 0)).trans (at_push_self _ _), at_push_self _ _, rfl, rfl, ⟨rfl, rfl, rfl, rfl, trivial⟩, rfl, rfl, rfl, rfl⟩
  rintro n st ⟨j, h, hj, rfl, h0, h1, hf, hs1⟩
  refine hs1.run (hm := false) ?_
  conv => whnf
  cases hc : decide ((j : Int) < (r : Int))
  case true =>
    have hj2 : j < r := by simpa using hc
    rw [show r - j = (r - (j + 1)) + 1 by omega, lateF_succ] at hf
    conv => whnf
    refine ⟨_, h1, ?_⟩
    conv => whnf
    refine .ret (begun67_ret hl j) rfl ?_
    conv => whnf
    refine ⟨_, h0, ?_⟩
    conv => whnf
    refine ⟨⟨by omega, by omega⟩, ?_⟩
    conv => whnf
    refine ⟨_, hv.run0 hy, ?_⟩
    conv => whnf
    cases hi : decide (lastF (ofR j P) > y.start)
    · rw [hi, Bool.false_or] at hf
      conv => whnf
      refine ⟨((j + 1 : Nat) : Int), by rw [wrap_eq (by omega) (by omega)]; omega, ?_⟩
      conv => whnf
      exact ⟨r - (j + 1), by omega, j + 1, h, hj2, rfl, h0, h1, hf, rfl, ⟨rfl, rfl, rfl, rfl, trivial⟩, rfl, rfl, rfl, rfl⟩
    · rw [hi, Bool.true_or] at hf
      conv => whnf
      rw [hf]
      exact .val
  have hjl : j = r := by simp at hc; omega
  rw [hjl, Nat.sub_self] at hf
  conv => whnf
  rw [hf]
  exact .val

/-- Are the looks of a set right? -/
def rightF (D : List Int) (set : Nat) : List Lk → Nat → Bool
  | [], _ => true
  | l :: L, i => (!(set.testBit i) || inB (cntF D l.minute) l.lo l.hi) && rightF D set L (i + 1)
theorem rightF_cons (D : List Int) (set : Nat) (l : Lk) (L : List Lk) (i : Nat) : rightF D set (l :: L) i = ((!(set.testBit i) || inB (cntF D l.minute) l.lo l.hi) && rightF D set L (i + 1)) := rfl
set_option maxHeartbeats 2000000 in
theorem right_ret {v : SV} {s : Sd} (hv : v.Is s) (h4 : s.looks.length ≤ 4) {D R : List Int} (hl : D.length ≤ 40) {set : Nat} (hs : set < 65536) : Ret Try.prog 106 [v.cv, refC D R, I set] (B (rightF D set s.looks 0)) := by
  have e1 := hv.ln; have e2 := hv.short
  have e1' : v.looks.n = s.looks.length := e1
  refine ret_by (hm := false) Try.func106 rfl ?_
  conv => whnf
  refine loop_by (I := fun n st => ∃ j : Nat, ∃ h : Heap, j ≤ s.looks.length ∧ n = s.looks.length - j ∧ Heap.at h 0 = v.blk ∧ Heap.at h 1 = refBlk D R ∧ 1 < h.n ∧ rightF D set s.looks 0 = rightF D set (s.looks.drop j) j ∧ Has st 38 [(2, .c (I set)), (3, .ptr 0 0), (4, .ptr 1 0), (7, .c (I j))] [] none h) ?_ (k := s.looks.length)
    ⟨0, _, Nat.zero_le _, rfl, (at_push_lt _ _ (Nat.lt_succ_self 0)).trans (at_push_self _ _), at_push_self _ _, by exact Nat.lt_succ_self 1, rfl, rfl, ⟨rfl, rfl, rfl, rfl, trivial⟩, rfl, rfl, rfl, rfl⟩
  rintro n st ⟨j, h, hj, rfl, h0, h1, hn, hf, hs1⟩
  refine hs1.run (hm := false) ?_
  conv => whnf
  refine ⟨_, h0, ?_⟩
  conv => whnf
  cases hc : decide ((j : Int) < (v.ln : Int))
  case true =>
    have hj2 : j < s.looks.length := by simp at hc; omega
    obtain ⟨l, hlk⟩ := get_some hj2
    rw [drop_get hlk, rightF_cons] at hf
    conv => whnf
    refine ⟨_, h0, ?_⟩
    conv => whnf
    refine ⟨⟨by omega, by omega⟩, ?_⟩
    conv => whnf
    refine ⟨_, hv.looks.look hlk, ?_⟩
    conv => whnf
    refine ⟨_, at_push_self _ _, ?_⟩
    conv => whnf
    have g0 : ∀ y z : AB, Heap.at ((h.push .dead y).set .dead h.n z) 0 = v.blk := fun y z => (at_old _ _ _ (by omega)).trans h0
    have g1 : ∀ y z : AB, Heap.at ((h.push .dead y).set .dead h.n z) 1 = refBlk D R := fun y z => (at_old _ _ _ hn).trans h1
    refine draw_by (hm := false) (by kernel_rfl) (by kernel_rfl) ?_
    conv => whnf
    refine .pure _ _ rfl (has_ret hs (by omega)) ?_
    conv => whnf
    cases hb : set.testBit j
    · rw [hb] at hf
      have hf : rightF D set s.looks 0 = rightF D set (s.looks.drop (j + 1)) (j + 1) := hf
      conv => whnf
      refine ⟨by kernel_rfl, ?_⟩
      conv => whnf
      refine ⟨((j + 1 : Nat) : Int), by rw [wrap_eq (by omega) (by omega)]; omega, ?_⟩
      conv => whnf
      exact ⟨s.looks.length - (j + 1), by omega, j + 1, _, hj2, rfl, g0 _ _, g1 _ _, by rw [new_n]; omega, hf, rfl, ⟨rfl, rfl, rfl, rfl, trivial⟩, rfl, rfl, rfl, rfl⟩
    · rw [hb, Bool.not_true, Bool.false_or] at hf
      conv => whnf
      refine ⟨_, g1 _ _, ?_⟩
      conv => whnf
      refine ⟨_, at_new _ _ _, ?_⟩
      conv => whnf
      refine .pure _ _ rfl (count56_ret hl _) ?_
      conv => whnf
      refine ⟨_, at_new _ _ _, ?_⟩
      conv => whnf
      refine ⟨_, at_new _ _ _, ?_⟩
      conv => whnf
      refine .pure _ _ rfl (in_ret _ _ _) ?_
      conv => whnf
      refine ⟨by kernel_rfl, ?_⟩
      cases hi : inB (cntF D l.minute) l.lo l.hi
      · rw [hi, Bool.false_and] at hf
        conv => whnf
        rw [hf]
        exact .val
      · rw [hi, Bool.true_and] at hf
        conv => whnf
        refine ⟨((j + 1 : Nat) : Int), by rw [wrap_eq (by omega) (by omega)]; omega, ?_⟩
        conv => whnf
        exact ⟨s.looks.length - (j + 1), by omega, j + 1, _, hj2, rfl, g0 _ _, g1 _ _, by rw [new_n]; omega, hf, rfl, ⟨rfl, rfl, rfl, rfl, trivial⟩, rfl, rfl, rfl, rfl⟩
  have hjl : j = s.looks.length := by simp at hc; omega
  rw [hjl, List.drop_length] at hf
  conv => whnf
  rw [hf]
  exact .val
end Go.Ag
/- Layer 4: the reference: the least span of some numbers; the day minute by minute. -/
namespace Go.Ag
open Go.Proofs
set_option maxRecDepth 100000

set_option maxHeartbeats 2000000 in
theorem hull_ret {L : List Int} {a : Int} {l : List Int} (hL : L = a :: l) (hl : l.length ≤ 1000) : Ret Try.prog 54 [.sl (L.map I) 0 L.length] (.agg [I (l.foldl min a), I (l.foldl max a)]) := by
  have hn0 : L.length = l.length + 1 := by rw [hL]; rfl
  have hx0 : readVarC Try.prog 3 (L.map I) (0 + (0 : Int).toNat * 1) = some (I a) := by rw [hL]; rfl
  refine ret_by (hm := false) Try.func54 rfl ?_
  conv => whnf
  refine draw_by (hm := false) (by kernel_rfl) (by kernel_rfl) ?_
  conv => whnf
  refine ⟨⟨by decide, by omega⟩, ?_⟩
  conv => whnf
  refine ⟨_, hx0, ?_⟩
  conv => whnf
  refine ⟨⟨by decide, by omega⟩, ?_⟩
  conv => whnf
  refine ⟨_, hx0, ?_⟩
  conv => whnf
  refine ⟨_, at_push_self _ _, ?_⟩
  conv => whnf
  refine ⟨Nat.lt_succ_self _, ?_⟩
  conv => whnf
  refine ⟨by kernel_rfl, ?_⟩
  conv => whnf
  refine loop_by (I := fun n st => ∃ j : Nat, ∃ h : Heap, j ≤ l.length + 1 ∧ n = l.length + 1 - j ∧ (∃ c, Heap.at h 0 = .blk c ∧ c.length = 2) ∧ Heap.at h 1 = .blk [.c (I ((l.take (j - 1)).foldl min a)), .c (I ((l.take (j - 1)).foldl max a))] ∧ 1 < h.n ∧
      Has st 34 [(0, .c (.sl (L.map I) 0 L.length)), (2, .ptr 0 0), (3, .ptr 1 0), (4, .c (I j))] [] none h) ?_ (k := l.length + 1)
    ⟨0, _, Nat.zero_le _, rfl, ?_, ?_, ?_, rfl, ⟨rfl, rfl, rfl, rfl, trivial⟩, rfl, rfl, rfl, rfl⟩
  · rintro n st ⟨j, h, hj, rfl, h0, h1, hn, hs1⟩
    refine hs1.run (hm := false) ?_
    conv => whnf
    cases hc : decide ((j : Int) < ((L.length : Nat) : Int))
    case true =>
      have hj2 : j < l.length + 1 := by simp at hc; omega
      obtain ⟨x, hxL⟩ := get_some (l := L) (k := j) (by omega)
      have hx : (a :: l)[j]? = some x := by rw [← hL]; exact hxL
      have hs : ∀ f : Int → Int → Int, f a a = a → (l.take (j + 1 - 1)).foldl f a = f ((l.take (j - 1)).foldl f a) x := by
        intro f hf
        cases j with
        | zero =>
          simp only [List.getElem?_cons_zero, Option.some.injEq] at hx
          subst hx
          simp [hf]
        | succ j =>
          rw [List.getElem?_cons_succ] at hx
          rw [Nat.add_sub_cancel, Nat.add_sub_cancel, List.take_add_one, hx, Option.toList_some, List.foldl_append]
          rfl
      conv => whnf
      refine draw_by (hm := false) (by kernel_rfl) (by kernel_rfl) ?_
      conv => whnf
      refine ⟨_, h1, ?_⟩
      conv => whnf
      refine ⟨⟨by omega, by omega⟩, ?_⟩
      conv => whnf
      refine ⟨_, read_ints hxL, ?_⟩
      conv => whnf
      refine ⟨_, h1, ?_⟩
      conv => whnf
      refine ⟨⟨by omega, by omega⟩, ?_⟩
      conv => whnf
      refine ⟨_, read_ints hxL, ?_⟩
      conv => whnf
      refine ⟨_, h1, ?_⟩
      conv => whnf
      refine ⟨hn, ?_⟩
      conv => whnf
      refine ⟨by kernel_rfl, ?_⟩
      conv => whnf
      refine ⟨((j + 1 : Nat) : Int), by rw [wrap_eq (by omega) (by omega)]; omega, ?_⟩
      conv => whnf
      obtain ⟨c, h0, hc2⟩ := h0
      exact ⟨l.length + 1 - (j + 1), by omega, j + 1, _, hj2, rfl, ⟨c, (at_set_ne _ _ (by decide)).trans h0, hc2⟩, by rw [hs min (Int.min_self _), hs max (Int.max_self _)]; exact at_set_self _ _ hn, by rw [TMap.set_n]; exact hn, rfl, ⟨rfl, rfl, rfl, rfl, trivial⟩, rfl, rfl, rfl, rfl⟩
    have hjl : j = l.length + 1 := by simp at hc; omega
    subst hjl
    obtain ⟨c, h0, hc2⟩ := h0
    obtain ⟨c0, c1, rfl⟩ : ∃ c0 c1, c = [c0, c1] := by
      match c, hc2 with
      | [c0, c1], _ => exact ⟨c0, c1, rfl⟩
    rw [Nat.add_sub_cancel, List.take_length] at h1
    conv => whnf
    refine ⟨_, h1, ?_⟩
    conv => whnf
    refine ⟨_, h0, ?_⟩
    conv => whnf
    refine ⟨_, at_set_self _ _ (by omega), ?_⟩
    conv => whnf
    exact .val
  · exact ⟨_, rfl, rfl⟩
  · rfl
  · exact Nat.lt_succ_self 1
end Go.Ag
/- Layer 4: the day minute by minute is the day. -/
namespace Go.Ag
open Go.Proofs
set_option maxRecDepth 100000

theorem runAt_ge (m : Int) : ∀ (l : List Ru) (i : Nat), 0 ≤ runAt m l i → ∃ q x, runAt m l i = ((i + q : Nat) : Int) ∧ l[q]? = some x ∧ x.start ≤ m ∧ m < x.bell
  | [], i, h => by simp [runAt] at h
  | x :: l, i, h => by
    rw [runAt_cons] at h ⊢
    by_cases hi : inB m x.start (x.bell - 1) = true
    · rw [if_pos hi]
      simp only [inB, Bool.and_eq_true, decide_eq_true_eq] at hi
      exact ⟨0, x, rfl, rfl, by omega, by omega⟩
    · rw [if_neg hi] at h ⊢
      obtain ⟨q, y, h1, h2, h3, h4⟩ := runAt_ge m l (i + 1) h
      exact ⟨q + 1, y, by rw [h1]; congr 1; omega, by simpa using h2, h3, h4⟩
theorem runAt_lt (m : Int) : ∀ (l : List Ru) (i : Nat), runAt m l i < 0 → ∀ x ∈ l, ¬ (x.start ≤ m ∧ m < x.bell)
  | [], i, h => by simp
  | x :: l, i, h => by
    rw [runAt_cons] at h
    by_cases hi : inB m x.start (x.bell - 1) = true
    · rw [if_pos hi] at h; omega
    · rw [if_neg hi] at h
      intro y hy
      rcases List.mem_cons.1 hy with rfl | hy
      · simp only [inB, Bool.and_eq_true, decide_eq_true_eq] at hi
        omega
      · exact runAt_lt m l (i + 1) h y hy
theorem runAt_low (m : Int) : ∀ (l : List Ru) (i : Nat), -1 ≤ runAt m l i ∧ runAt m l i ≤ i + l.length
  | [], i => by simp [runAt]
  | x :: l, i => by
    rw [runAt_cons]
    have := runAt_low m l (i + 1)
    rw [List.length_cons]
    split <;> omega

/-- What is so at a minute. -/
structure Going (s : Sd) (t : T3) (now busy : Int) (k : Nat) : Prop where
  le : k ≤ s.sheep.length
  b0 : 0 ≤ busy
  b1 : busy ≤ 640
  len : k ≤ (dayOf s t).length
  rest : ∃ run, run ≤ s.runs.length ∧ (dayOf s t).drop k = dayF s.runs t (s.sheep.drop k) run busy ∧ ∀ i x, i < run → s.runs[i]? = some x → x.bell ≤ busy
  none : k < s.sheep.length → ∀ m, busy ≤ m → m < now → runAt m s.runs 0 < 0
theorem Going.start (s : Sd) (t : T3) : Going s t 0 0 0 :=
  ⟨Nat.zero_le _, Int.le_refl _, by omega, Nat.zero_le _, ⟨0, Nat.zero_le _, rfl, fun i x h => absurd h (by omega)⟩, fun _ m h1 h2 => absurd h1 (by omega)⟩
theorem Going.wait {s : Sd} {t : T3} {now busy : Int} {k : Nat} (g : Going s t now busy k) (h : runAt now s.runs 0 < 0 ∨ now < busy ∨ k = s.sheep.length) : Going s t (now + 1) busy k := by
  refine ⟨g.le, g.b0, g.b1, g.len, g.rest, fun hk m h1 h2 => ?_⟩
  by_cases he : m = now
  · subst he
    rcases h with h | h | h
    · exact h
    · omega
    · omega
  · exact g.none hk m h1 (by omega)
theorem Going.begin' {s : Sd} {t : T3} (hd : validB s = true) (hg : Good s t) {now busy : Int} {k : Nat} (g : Going s t now busy k) (hr : 0 ≤ runAt now s.runs 0) (hb : busy ≤ now) (hk : k < s.sheep.length) {kind : Int} (hkind : s.sheep[k]? = some kind) :
    (dayOf s t)[k]? = some ⟨(runAt now s.runs 0).toNat, now + t.get kind.toNat⟩ ∧ now ≤ 600 ∧ Going s t (now + 1) (now + t.get kind.toNat) (k + 1) := by
  have ho := valid_order hd
  obtain ⟨q, x, e1, hq, h1, h2⟩ := runAt_ge now s.runs 0 hr
  rw [Nat.zero_add] at e1
  have hqx := valid_run hd hq
  have hql : q < s.runs.length := (List.getElem?_eq_some_iff.1 hq).1
  have htk := hg.takes kind.toNat
  obtain ⟨run, hrl, hday, hpast⟩ := g.rest
  have hrq : run ≤ q := by
    rcases Nat.lt_or_ge q run with h | h
    · have := hpast q x h hq; omega
    · exact h
  have hn1 : nextRun s.runs busy run ≤ q := next_least _ run q rfl hrq (by omega) (fun y hy => by rw [hq] at hy; cases hy; omega)
  have busyAt : ∀ (i : Nat) (y : Ru) (m : Int), s.runs[i]? = some y → y.start ≤ m → m < y.bell → busy ≤ m → m < now → False := fun i y m hy h3 h4 h5 h6 =>
    runAt_lt m s.runs 0 (g.none hk m h5 h6) y (List.mem_of_getElem? hy) ⟨h3, h4⟩
  have hn : nextRun s.runs busy run = q := by
    rcases Nat.lt_or_ge (nextRun s.runs busy run) q with h | h
    · obtain ⟨y, hy⟩ := get_some (l := s.runs) (k := nextRun s.runs busy run) (by omega)
      have h3 := next_open _ _ rfl hrl hy
      have h4 := runs_apart 0 s.runs ho _ _ y x h hy hq
      have hyv := valid_run hd hy
      exact (busyAt _ y (max busy y.start) hy (by omega) (by omega) (by omega) (by omega)).elim
    · omega
  have hmax : max busy x.start = now := by
    rcases Int.lt_or_le (max busy x.start) now with h | h
    · exact (busyAt q x (max busy x.start) hq (by omega) (by omega) (by omega) h).elim
    · omega
  rw [drop_get hkind, dayF_some (by rw [hn]; exact hq), hn, hmax] at hday
  have hat : (dayOf s t)[k]? = some ⟨q, now + t.get kind.toNat⟩ := by
    have := congrArg (fun l => l[0]?) hday
    simpa [List.getElem?_drop] using this
  have hlen : k < (dayOf s t).length := (List.getElem?_eq_some_iff.1 hat).1
  refine ⟨by rw [e1]; exact hat, by omega, hk, by omega, by omega, hlen, ⟨q, by omega, ?_, fun i y hi hy => ?_⟩, fun _ m h3 h4 => by omega⟩
  · rw [drop_get hat] at hday
    exact (List.cons.inj hday).2
  · have := runs_apart 0 s.runs ho i q y x hi hy hq
    omega
theorem Going.done {s : Sd} {t : T3} (hd : validB s = true) {busy : Int} {k : Nat} (g : Going s t 601 busy k) : (dayOf s t).length = k := by
  obtain ⟨run, hrl, hday, hpast⟩ := g.rest
  have hnil : (dayOf s t).drop k = [] := by
    rw [hday]
    cases hk : s.sheep.drop k with
    | nil => rfl
    | cons kind ks =>
      have hkl : k < s.sheep.length := by
        rcases Nat.lt_or_ge k s.sheep.length with h | h
        · exact h
        · rw [List.drop_eq_nil_of_le h] at hk; cases hk
      cases hx : s.runs[nextRun s.runs busy run]? with
      | none => exact dayF_none hx
      | some x =>
        have h3 := next_open _ _ rfl hrl hx
        have hyv := valid_run hd hx
        have hb0 := g.b0
        exact (runAt_lt (max busy x.start) s.runs 0 (g.none hkl _ (by omega) (by omega)) x (List.mem_of_getElem? hx) ⟨by omega, by omega⟩).elim
  have h1 := g.len
  rw [List.drop_eq_nil_iff] at hnil
  omega
end Go.Ag
/- Layer 4: the day minute by minute, in code. -/
namespace Go.Ag
open Go.Proofs
set_option maxRecDepth 100000

def pairOf (x : Sh) : Int × Int := ((x.run : Int), x.done)
/-- Each sheep's run and when it is done, as the reference has it. -/
def refL (s : Sd) (t : T3) : List (Int × Int) := (dayOf s t).map pairOf ++ List.replicate (s.sheep.length - (dayOf s t).length) (-1, 1000)
def two (a b : AV) : AB := .blk [a, b]
/-- Where the two lists are. -/
structure GoH (H0 : Heap) (P : List (Int × Int)) (da ra : AV) (h : Heap) : Prop where
  rd : RowsL 1 h da ((P.map (·.2)).map row1)
  rr : RowsL 1 h ra ((P.map (·.1)).map row1)
  od : ∀ o, outId da = some o → H0.n + 2 < o
  or' : ∀ o, outId ra = some o → H0.n + 2 < o ∧ outId da ≠ some o
theorem GoH.shapes {H0 : Heap} {P : List (Int × Int)} {da ra : AV} {h : Heap} (g : GoH H0 P da ra h) : (da = nilA ∧ ra = nilA ∧ P = []) ∨ ∃ o m o2 m2, da = .msl o 1 0 m m ∧ ra = .msl o2 1 0 m2 m2 := by
  rcases g.rd with ⟨rfl, h1⟩ | ⟨o, rfl, _, _, h1⟩
  · have hp : P = [] := by simpa using h1
    subst hp
    rcases g.rr with ⟨rfl, h2⟩ | ⟨o2, rfl, _, _, h2⟩
    · exact .inl ⟨rfl, rfl, rfl⟩
    · exact absurd rfl h2
  · rcases g.rr with ⟨rfl, h2⟩ | ⟨o2, rfl, _, _, h2⟩
    · have hp : P = [] := by simpa using h2
      subst hp
      exact absurd rfl h1
    · exact .inr ⟨_, _, _, _, rfl, rfl⟩

set_option maxHeartbeats 4000000 in
theorem goes_ret {v : SV} {s : Sd} (hv : v.Is s) (hd : validB s = true) {t : T3} (hg : Good s t) {H0 : Heap} {o : Nat} (ho : o < H0.n) (hT : Heap.at H0 o = t3Blk t) :
    ∃ e h', CallOk Try.prog 45 [.c v.cv, .msl o 1 0 3 3] H0 .no e h' .no ∧ ∃ da ra, GoH H0 (refL s t) da ra h' ∧ Foot none' H0 h' ∧ e = .ret (mkAgg [da, ra]) := by
  have e1 := hv.kn; have e2 := hv.short; have e3 := hv.rn
  have hruns : ∀ x ∈ s.runs, 0 ≤ x.bell ∧ x.bell ≤ 600 := fun x hx => by have := hg.runs x hx; omega
  have h16 := sheep_le hd
  refine call_by (hm := false) Try.func45 rfl ?_
  conv => whnf
  refine loop_by (I := fun n st => ∃ (now : Nat) (busy : Int) (k : Nat) (h : Heap) (da ra : AV), now ≤ 601 ∧ n = 601 - now ∧ Going s t now busy k ∧ Heap.at h H0.n = v.blk ∧ (∃ c, Heap.at h (H0.n + 1) = .blk c ∧ c.length = 2) ∧ Heap.at h (H0.n + 2) = two da ra ∧ H0.n + 2 < h.n ∧ (∀ i, i < H0.n → Heap.at h i = Heap.at H0 i) ∧
      GoH H0 (((dayOf s t).take k).map pairOf) da ra h ∧
      Has st 74 [(1, .msl o 1 0 3 3), (2, .ptr H0.n 0), (4, .ptr (H0.n + 1) 0), (5, .ptr (H0.n + 2) 0), (6, .c (I busy)), (7, .c (I now))] [] none h) ?_ (k := 601)
    ⟨0, 0, 0, _, nilA, nilA, by omega, rfl, Going.start s t, ?_, ?_, ?_, ?_, ?_, ⟨.inl ⟨rfl, rfl⟩, .inl ⟨rfl, rfl⟩, (fun o ho => by cases ho), (fun o ho => by cases ho)⟩, rfl, ⟨rfl, rfl, rfl, rfl, rfl, rfl, trivial⟩, rfl, rfl, rfl, rfl⟩
  · rintro n st ⟨now, busy, k, h, da, ra, hnow, rfl, G, h0, h1, h2, hn, hold0, P, hs1⟩
    refine hs1.run (hm := false) ?_
    conv => whnf
    cases hc : decide ((now : Int) ≤ 600)
    case true =>
      have hnow2 : now ≤ 600 := by simp at hc; omega
      obtain ⟨rn, hrn⟩ : ∃ rn, rn = runAt now s.runs 0 := ⟨_, rfl⟩
      have hrun := running_ret hv hruns now
      rw [← hrn] at hrun
      have hlow := runAt_low now s.runs 0
      rw [← hrn] at hlow
      have hk := G.le
      have hkd := G.len
      have hPl : (((dayOf s t).take k).map pairOf).length = k := by rw [List.length_map, List.length_take]; omega
      have wait : rn < 0 ∨ (now : Int) < busy ∨ k = s.sheep.length → Going s t ((now + 1 : Nat) : Int) busy k := fun h => by
        have := G.wait (by rw [← hrn]; exact h)
        rw [Int.natCast_succ]; exact this
      rcases P.shapes with ⟨rfl, rfl, hP⟩ | ⟨i1, m1, i2, m2, rfl, rfl⟩
      · have hk0 : k = 0 := by rw [hP] at hPl; exact hPl.symm
        conv => whnf
        refine ⟨_, h0, ?_⟩
        conv => whnf
        refine .ret hrun rfl ?_
        conv => whnf
        refine ⟨_, h2, ?_⟩
        conv => whnf
        cases c1 : decide (rn ≥ 0)
        · conv => whnf
          refine ⟨((now + 1 : Nat) : Int), by rw [wrap_eq (by omega) (by omega)]; omega, ?_⟩
          conv => whnf
          exact ⟨601 - (now + 1), by omega, now + 1, busy, k, h, _, _, by omega, rfl, wait (.inl (by simp at c1; omega)), h0, h1, h2, hn, hold0, P, rfl, ⟨rfl, rfl, rfl, rfl, rfl, rfl, trivial⟩, rfl, rfl, rfl, rfl⟩
        conv => whnf
        cases c2 : decide ((now : Int) ≥ busy)
        · conv => whnf
          refine ⟨((now + 1 : Nat) : Int), by rw [wrap_eq (by omega) (by omega)]; omega, ?_⟩
          conv => whnf
          exact ⟨601 - (now + 1), by omega, now + 1, busy, k, h, _, _, by omega, rfl, wait (.inr (.inl (by simp at c2; omega))), h0, h1, h2, hn, hold0, P, rfl, ⟨rfl, rfl, rfl, rfl, rfl, rfl, trivial⟩, rfl, rfl, rfl, rfl⟩
        conv => whnf
        refine ⟨_, h0, ?_⟩
        conv => whnf
        cases c3 : decide ((0 : Int) < (v.kn : Int))
        · conv => whnf
          refine ⟨((now + 1 : Nat) : Int), by rw [wrap_eq (by omega) (by omega)]; omega, ?_⟩
          conv => whnf
          exact ⟨601 - (now + 1), by omega, now + 1, busy, k, h, _, _, by omega, rfl, wait (.inr (.inr (by simp at c3; omega))), h0, h1, h2, hn, hold0, P, rfl, ⟨rfl, rfl, rfl, rfl, rfl, rfl, trivial⟩, rfl, rfl, rfl, rfl⟩
        have hkl : k < s.sheep.length := by simp at c3; omega
        obtain ⟨kind, hkind⟩ := get_some hkl
        have hkb := hg.kinds kind (List.mem_of_getElem? hkind)
        obtain ⟨kk, rfl⟩ : ∃ kk : Nat, kind = kk := ⟨kind.toNat, by omega⟩
        have hk2 : kk ≤ 2 := by omega
        have htk := hg.takes kk
        have hr0 : 0 ≤ rn := by simp at c1; omega
        obtain ⟨hat, hn600, G'⟩ := G.begin' hd hg (by rw [← hrn]; exact hr0) (by simp at c2; omega) hkl hkind
        rw [Int.toNat_natCast, ← hrn] at hat
        rw [Int.toNat_natCast] at G'
        have hP2 : ((dayOf s t).take (k + 1)).map pairOf = ((dayOf s t).take k).map pairOf ++ [(rn, (now : Int) + t.get kk)] := by
          rw [List.take_add_one, hat, Option.toList_some, List.map_append]
          congr 1
          show [(((rn.toNat : Nat) : Int), (now : Int) + t.get kk)] = _
          rw [show ((rn.toNat : Nat) : Int) = rn by omega]
        conv => whnf
        refine ⟨_, h0, ?_⟩
        conv => whnf
        refine ⟨⟨by omega, by omega⟩, ?_⟩
        conv => whnf
        refine ⟨_, hv.kind (k := 0) (by rw [← hk0]; exact hkind), ?_⟩
        conv => whnf
        refine ⟨⟨rfl, by omega, by omega⟩, ?_⟩
        conv => whnf
        refine ⟨_, (hold0 o ho).trans hT, look_read (read_takes t hk2) ?_⟩
        conv => whnf
        refine ⟨(now : Int) + t.get kk, by rw [wrap_eq (by omega) (by omega)], ?_⟩
        conv => whnf
        refine draw_by (hm := false) (by kernel_rfl) (by kernel_rfl) ?_
        conv => whnf
        refine ⟨_, h2, ?_⟩
        conv => whnf
        have hlim1 : ((((((dayOf s t).take k).map pairOf)).map (·.2)).map row1).length + 1 ≤ limit := by rw [List.length_map, List.length_map, hPl]; unfold limit; omega
        have hlim2 : ((((((dayOf s t).take k).map pairOf)).map (·.1)).map row1).length + 1 ≤ limit := by rw [List.length_map, List.length_map, hPl]; unfold limit; omega
        obtain ⟨r1, hr1, hR1, hold1, hn1, hfresh1⟩ := rows_append (row := row1 ((now : Int) + t.get kk)) (t := 26) (u := 26) P.rd U26 U26 rfl S3 rfl row1_len rfl hlim1
        rw [atF_eq] at hr1
        have hx1 := append_first (P := Try.prog) (rd := Heap.at (h.push .dead (.blk ((row1 ((now : Int) + t.get kk)).map .c)))) (fresh := h.n + 1) (ts := #[26, 26]) rfl rfl U26 U26 rfl S3 (first_own (id := h.n) (sz := 1) (len := 1) (cap := 1) (by rw [at_push, if_pos rfl]) rfl) rfl (by decide) (by decide)
        obtain rfl := Option.some.inj (hr1.symm.trans hx1)
        have hRr := P.rr.ext hn1 (fun i hi ho => absurd ho (by simp [outId]))
        obtain ⟨r2, hr2, hR2, hold2, hn2, hfresh2⟩ := rows_append (row := row1 rn) (t := 26) (u := 26) hRr U26 U26 rfl S3 rfl row1_len rfl hlim2
        rw [atF_eq] at hr2
        refine ⟨_, got_app rfl hx1, ?_⟩
        conv => whnf
        refine ⟨rfl, ?_⟩
        conv => whnf
        refine ⟨_, (hold1 (H0.n + 2) (by omega) (fun e => by simp [outId] at e)).trans h2, ?_⟩
        conv => whnf
        obtain rfl := Option.some.inj (hr2.symm.trans (append_first rfl rfl U26 U26 rfl S3 (first_own (sz := 1) (len := 1) (cap := 1) (by rw [at_push, if_pos rfl]) rfl) rfl (by decide) (by decide)))
        refine ⟨_, got_app rfl hr2, ?_⟩
        conv => whnf
        refine ⟨rfl, ?_⟩
        conv => whnf
        have hC := (hold2 (H0.n + 2) (show H0.n + 2 < h.n + 2 by omega) (fun e => by simp [outId] at e)).trans ((hold1 (H0.n + 2) (by omega) (fun e => by simp [outId] at e)).trans h2)
        refine ⟨_, hC, ?_⟩
        conv => whnf
        refine ⟨(show H0.n + 2 < h.n + 4 by omega), ?_⟩
        conv => whnf
        refine ⟨_, at_set_self _ _ (show H0.n + 2 < h.n + 4 by omega), ?_⟩
        conv => whnf
        refine ⟨(show H0.n + 2 < h.n + 4 by omega), ?_⟩
        conv => whnf
        obtain ⟨π, pC, p1, p2, p3, p4⟩ : ∃ π : Nat → Nat, π (H0.n + 2) = 0 ∧ π h.n = 1 ∧ π (h.n + 1) = 2 ∧ π (h.n + 2) = 3 ∧ π (h.n + 3) = 4 :=
          ⟨fun x => if x = H0.n + 2 then 0 else if x = h.n then 1 else if x = h.n + 1 then 2 else if x = h.n + 2 then 3 else 4, by dsimp only; rw [if_pos rfl], by dsimp only; rw [if_neg (by omega), if_pos rfl], by dsimp only; rw [if_neg (by omega), if_neg (by omega), if_pos rfl],
            by dsimp only; rw [if_neg (by omega), if_neg (by omega), if_neg (by omega), if_pos rfl], by dsimp only; rw [if_neg (by omega), if_neg (by omega), if_neg (by omega), if_neg (by omega)]⟩
        refine ⟨pairs_via π [⟨0, _, _, [], []⟩, ⟨1, _, _, [π (H0.n + 2)], []⟩, ⟨2, _, _, [], []⟩, ⟨3, _, _, [], [π h.n]⟩, ⟨4, _, _, [π h.n], [π (h.n + 1)]⟩, ⟨5, _, _, [], []⟩, ⟨6, _, _, [π (H0.n + 2)], []⟩, ⟨7, _, _, [], []⟩, ⟨8, _, _, [], [π (h.n + 2)]⟩, ⟨9, _, _, [π (h.n + 2)], [π (h.n + 3)]⟩, ⟨10, _, _, [], []⟩, ⟨11, _, _, [π (H0.n + 2)], [π (H0.n + 2)]⟩, ⟨12, _, _, [], []⟩, ⟨13, _, _, [π (H0.n + 2)], [π (H0.n + 2)]⟩] rfl (by rw [pC, p1, p2, p3, p4]; kernel_rfl), ?_⟩
        conv => whnf
        refine ⟨((now + 1 : Nat) : Int), by rw [wrap_eq (by omega) (by omega)]; omega, ?_⟩
        conv => whnf
        have keep : ∀ i, i < h.n → i ≠ H0.n + 2 → ∀ x y : AB, Heap.at (((after _ _).set .dead (H0.n + 2) x).set .dead (H0.n + 2) y) i = Heap.at h i := fun i hi hne x y => (at_set_ne _ _ hne).trans ((at_set_ne _ _ hne).trans ((hold2 i (show i < h.n + 2 by omega) (fun e => by simp [outId] at e)).trans (hold1 i hi (fun e => by simp [outId] at e))))
        have hR1' := hR1.ext hn2 (fun i hi ho => hold2 i hi (fun e => by simp [outId] at e))
        obtain ⟨c, h1, hcl⟩ := h1
        have q1 : ∀ o', outId (AV.msl (h.n + 1) 1 0 1 1) = some o' → o' = h.n + 1 := fun o' e => by simp [outId] at e; omega
        refine ⟨601 - (now + 1), by omega, now + 1, (now : Int) + t.get kk, k + 1, _, _, _, by omega, rfl, by rw [Int.natCast_succ]; exact G', (keep H0.n (by omega) (by omega) _ _).trans h0, ⟨c, (keep (H0.n + 1) (by omega) (by omega) _ _).trans h1, hcl⟩, at_set_self _ _ (show H0.n + 2 < h.n + 4 by omega), (show H0.n + 2 < h.n + 4 by omega), fun i hi => (keep i (by omega) (by omega) _ _).trans (hold0 i hi),
          ⟨?_, ?_, fun o' ho' => ?_, fun o' ho' => ⟨?_, ?_⟩⟩, rfl, ⟨rfl, rfl, rfl, rfl, rfl, rfl, trivial⟩, rfl, rfl, rfl, rfl⟩
        · rw [hP2, List.map_append, List.map_append]
          exact (hR1'.set (fun e => by simp [outId] at e; omega) _).set (fun e => by simp [outId] at e; omega) _
        · rw [hP2, List.map_append, List.map_append]
          exact (hR2.set (fun e => by have e2 : h.n + 2 ≤ H0.n + 2 := hfresh2 _ e; omega) _).set (fun e => by have e2 : h.n + 2 ≤ H0.n + 2 := hfresh2 _ e; omega) _
        · have := hfresh1 o' ho'; omega
        · have e2 : h.n + 2 ≤ o' := hfresh2 o' ho'; omega
        · have e2 : h.n + 2 ≤ o' := hfresh2 o' ho'
          intro e
          have e' : some (h.n + 1) = some o' := e
          rw [Option.some.injEq] at e'
          omega
      · obtain ⟨hm1, hb1⟩ := P.rd.ints
        obtain ⟨hm2, hb2⟩ := P.rr.ints
        rw [List.length_map, hPl] at hm1 hm2
        have hl1 := P.rd.lt _ rfl
        have hl2 := P.rr.lt _ rfl
        have ho1 := P.od _ rfl
        have ho2 := (P.or' _ rfl).1
        have ho12 : i1 ≠ i2 := fun e => (P.or' _ rfl).2 (by rw [e]; rfl)
        conv => whnf
        refine ⟨_, h0, ?_⟩
        conv => whnf
        refine .ret hrun rfl ?_
        conv => whnf
        refine ⟨_, h2, ?_⟩
        conv => whnf
        cases c1 : decide (rn ≥ 0)
        · conv => whnf
          refine ⟨((now + 1 : Nat) : Int), by rw [wrap_eq (by omega) (by omega)]; omega, ?_⟩
          conv => whnf
          exact ⟨601 - (now + 1), by omega, now + 1, busy, k, h, _, _, by omega, rfl, wait (.inl (by simp at c1; omega)), h0, h1, h2, hn, hold0, P, rfl, ⟨rfl, rfl, rfl, rfl, rfl, rfl, trivial⟩, rfl, rfl, rfl, rfl⟩
        conv => whnf
        cases c2 : decide ((now : Int) ≥ busy)
        · conv => whnf
          refine ⟨((now + 1 : Nat) : Int), by rw [wrap_eq (by omega) (by omega)]; omega, ?_⟩
          conv => whnf
          exact ⟨601 - (now + 1), by omega, now + 1, busy, k, h, _, _, by omega, rfl, wait (.inr (.inl (by simp at c2; omega))), h0, h1, h2, hn, hold0, P, rfl, ⟨rfl, rfl, rfl, rfl, rfl, rfl, trivial⟩, rfl, rfl, rfl, rfl⟩
        conv => whnf
        refine ⟨_, h0, ?_⟩
        conv => whnf
        cases c3 : decide ((m1 : Int) < (v.kn : Int))
        · conv => whnf
          refine ⟨((now + 1 : Nat) : Int), by rw [wrap_eq (by omega) (by omega)]; omega, ?_⟩
          conv => whnf
          exact ⟨601 - (now + 1), by omega, now + 1, busy, k, h, _, _, by omega, rfl, wait (.inr (.inr (by simp at c3; omega))), h0, h1, h2, hn, hold0, P, rfl, ⟨rfl, rfl, rfl, rfl, rfl, rfl, trivial⟩, rfl, rfl, rfl, rfl⟩
        have hkl : k < s.sheep.length := by simp at c3; omega
        obtain ⟨kind, hkind⟩ := get_some hkl
        have hkb := hg.kinds kind (List.mem_of_getElem? hkind)
        obtain ⟨kk, rfl⟩ : ∃ kk : Nat, kind = kk := ⟨kind.toNat, by omega⟩
        have hk2 : kk ≤ 2 := by omega
        have htk := hg.takes kk
        have hr0 : 0 ≤ rn := by simp at c1; omega
        obtain ⟨hat, hn600, G'⟩ := G.begin' hd hg (by rw [← hrn]; exact hr0) (by simp at c2; omega) hkl hkind
        rw [Int.toNat_natCast, ← hrn] at hat
        rw [Int.toNat_natCast] at G'
        have hP2 : ((dayOf s t).take (k + 1)).map pairOf = ((dayOf s t).take k).map pairOf ++ [(rn, (now : Int) + t.get kk)] := by
          rw [List.take_add_one, hat, Option.toList_some, List.map_append]
          congr 1
          show [(((rn.toNat : Nat) : Int), (now : Int) + t.get kk)] = _
          rw [show ((rn.toNat : Nat) : Int) = rn by omega]
        conv => whnf
        refine ⟨_, h0, ?_⟩
        conv => whnf
        refine ⟨⟨by omega, by omega⟩, ?_⟩
        conv => whnf
        refine ⟨_, hv.kind (by rw [hm1]; exact hkind), ?_⟩
        conv => whnf
        refine ⟨⟨rfl, by omega, by omega⟩, ?_⟩
        conv => whnf
        refine ⟨_, (hold0 o ho).trans hT, look_read (read_takes t hk2) ?_⟩
        conv => whnf
        refine ⟨(now : Int) + t.get kk, by rw [wrap_eq (by omega) (by omega)], ?_⟩
        conv => whnf
        refine draw_by (hm := false) (by kernel_rfl) (by kernel_rfl) ?_
        conv => whnf
        refine ⟨_, h2, ?_⟩
        conv => whnf
        have hlim1 : ((((((dayOf s t).take k).map pairOf)).map (·.2)).map row1).length + 1 ≤ limit := by rw [List.length_map, List.length_map, hPl]; unfold limit; omega
        have hlim2 : ((((((dayOf s t).take k).map pairOf)).map (·.1)).map row1).length + 1 ≤ limit := by rw [List.length_map, List.length_map, hPl]; unfold limit; omega
        obtain ⟨r1, hr1, hR1, hold1, hn1, hfresh1⟩ := rows_append (row := row1 ((now : Int) + t.get kk)) (t := 26) (u := 26) P.rd U26 U26 rfl S3 rfl row1_len rfl hlim1
        rw [atF_eq] at hr1
        have hx1 := append_grow (P := Try.prog) (rd := Heap.at (h.push .dead (.blk ((row1 ((now : Int) + t.get kk)).map .c)))) (fresh := h.n + 1) (ts := #[26, 26]) (id := i1) (len := m1) rfl rfl U26 U26 rfl S3 (first_own (id := h.n) (sz := 1) (len := 1) (cap := 1) (by rw [at_push, if_pos rfl]) rfl) rfl (by decide) (by rw [hm1]; unfold limit; omega) (by rw [at_push, if_neg (by omega)]; exact hb1) (by rw [List.length_map, List.length_map, List.length_map, hPl, hm1, Nat.mul_one])
        obtain rfl := Option.some.inj (hr1.symm.trans hx1)
        have hRr := P.rr.ext hn1 (fun i hi ho => hold1 i hi (P.or' i ho).2)
        obtain ⟨r2, hr2, hR2, hold2, hn2, hfresh2⟩ := rows_append (row := row1 rn) (t := 26) (u := 26) hRr U26 U26 rfl S3 rfl row1_len rfl hlim2
        rw [atF_eq] at hr2
        refine ⟨_, got_app rfl hx1, ?_⟩
        conv => whnf
        refine ⟨by rw [List.all_cons, List.all_nil, Bool.and_true]; exact decide_eq_true (show i1 < h.n + 1 by omega), ?_⟩
        conv => whnf
        refine ⟨_, (hold1 (H0.n + 2) (by omega) (fun e => by simp [outId] at e; omega)).trans h2, ?_⟩
        conv => whnf
        obtain rfl := Option.some.inj (hr2.symm.trans (append_grow (id := i2) (len := m2) rfl rfl U26 U26 rfl S3 (first_own (sz := 1) (len := 1) (cap := 1) (by rw [at_push, if_pos rfl]) rfl) rfl (by decide) (by rw [hm2]; unfold limit; omega) (by rw [at_push, if_neg (fun e => by have e' : i2 = h.n + 2 := e; omega)]; exact (hold1 i2 hl2 (fun e => by simp [outId] at e; omega)).trans hb2) (by rw [List.length_map, List.length_map, List.length_map, hPl, hm2, Nat.mul_one])))
        refine ⟨_, got_app rfl hr2, ?_⟩
        conv => whnf
        refine ⟨by rw [List.all_cons, List.all_nil, Bool.and_true]; exact decide_eq_true (show i2 < h.n + 2 + 1 by omega), ?_⟩
        conv => whnf
        have hC := (hold2 (H0.n + 2) (show H0.n + 2 < h.n + 2 by omega) (fun e => by simp [outId] at e; omega)).trans ((hold1 (H0.n + 2) (by omega) (fun e => by simp [outId] at e; omega)).trans h2)
        refine ⟨_, hC, ?_⟩
        conv => whnf
        refine ⟨(show H0.n + 2 < h.n + 4 by omega), ?_⟩
        conv => whnf
        refine ⟨_, at_set_self _ _ (show H0.n + 2 < h.n + 4 by omega), ?_⟩
        conv => whnf
        refine ⟨(show H0.n + 2 < h.n + 4 by omega), ?_⟩
        conv => whnf
        obtain ⟨π, pC, p1, p2, p3, p4, p5, p6⟩ : ∃ π : Nat → Nat, π (H0.n + 2) = 0 ∧ π h.n = 1 ∧ π (h.n + 1) = 2 ∧ π (h.n + 2) = 3 ∧ π (h.n + 3) = 4 ∧ π i1 = 5 ∧ π i2 = 6 :=
          ⟨fun x => if x = H0.n + 2 then 0 else if x = h.n then 1 else if x = h.n + 1 then 2 else if x = h.n + 2 then 3 else if x = h.n + 3 then 4 else if x = i1 then 5 else 6, by dsimp only; rw [if_pos rfl], by dsimp only; rw [if_neg (by omega), if_pos rfl], by dsimp only; rw [if_neg (by omega), if_neg (by omega), if_pos rfl],
            by dsimp only; rw [if_neg (by omega), if_neg (by omega), if_neg (by omega), if_pos rfl], by dsimp only; rw [if_neg (by omega), if_neg (by omega), if_neg (by omega), if_neg (by omega), if_pos rfl],
            by dsimp only; rw [if_neg (by omega), if_neg (by omega), if_neg (by omega), if_neg (by omega), if_neg (by omega), if_pos rfl], by dsimp only; rw [if_neg (by omega), if_neg (by omega), if_neg (by omega), if_neg (by omega), if_neg (by omega), if_neg (by omega)]⟩
        refine ⟨pairs_via π [⟨0, _, _, [], []⟩, ⟨1, _, _, [π (H0.n + 2)], []⟩, ⟨2, _, _, [], []⟩, ⟨3, _, _, [], [π h.n]⟩, ⟨4, _, _, [π i1, π h.n], [π i1, π (h.n + 1)]⟩, ⟨5, _, _, [], []⟩, ⟨6, _, _, [π (H0.n + 2)], []⟩, ⟨7, _, _, [], []⟩, ⟨8, _, _, [], [π (h.n + 2)]⟩, ⟨9, _, _, [π i2, π (h.n + 2)], [π i2, π (h.n + 3)]⟩, ⟨10, _, _, [], []⟩, ⟨11, _, _, [π (H0.n + 2)], [π (H0.n + 2)]⟩, ⟨12, _, _, [], []⟩, ⟨13, _, _, [π (H0.n + 2)], [π (H0.n + 2)]⟩] rfl (by rw [pC, p1, p2, p3, p4, p5, p6]; kernel_rfl), ?_⟩
        conv => whnf
        refine ⟨((now + 1 : Nat) : Int), by rw [wrap_eq (by omega) (by omega)]; omega, ?_⟩
        conv => whnf
        have keep : ∀ i, i < h.n → i ≠ H0.n + 2 → i ≠ i1 → i ≠ i2 → ∀ x y : AB, Heap.at (((after _ _).set .dead (H0.n + 2) x).set .dead (H0.n + 2) y) i = Heap.at h i := fun i hi hne n1 n2 x y => (at_set_ne _ _ hne).trans ((at_set_ne _ _ hne).trans ((hold2 i (show i < h.n + 2 by omega) (fun e => by simp [outId] at e; omega)).trans (hold1 i hi (fun e => by simp [outId] at e; omega))))
        have hR1' := hR1.ext hn2 (fun i hi ho => hold2 i hi (fun e => by simp [outId] at e ho; omega))
        obtain ⟨c, h1, hcl⟩ := h1
        have q1 : ∀ o', outId (AV.msl (h.n + 1) 1 0 1 1) = some o' → o' = h.n + 1 := fun o' e => by simp [outId] at e; omega
        refine ⟨601 - (now + 1), by omega, now + 1, (now : Int) + t.get kk, k + 1, _, _, _, by omega, rfl, by rw [Int.natCast_succ]; exact G', (keep H0.n (by omega) (by omega) (by omega) (by omega) _ _).trans h0, ⟨c, (keep (H0.n + 1) (by omega) (by omega) (by omega) (by omega) _ _).trans h1, hcl⟩, at_set_self _ _ (show H0.n + 2 < h.n + 4 by omega), (show H0.n + 2 < h.n + 4 by omega), fun i hi => (keep i (by omega) (by omega) (by omega) (by omega) _ _).trans (hold0 i hi),
          ⟨?_, ?_, fun o' ho' => ?_, fun o' ho' => ⟨?_, ?_⟩⟩, rfl, ⟨rfl, rfl, rfl, rfl, rfl, rfl, trivial⟩, rfl, rfl, rfl, rfl⟩
        · rw [hP2, List.map_append, List.map_append]
          exact (hR1'.set (fun e => by simp [outId] at e; omega) _).set (fun e => by simp [outId] at e; omega) _
        · rw [hP2, List.map_append, List.map_append]
          exact (hR2.set (fun e => by have e2 : h.n + 2 ≤ H0.n + 2 := hfresh2 _ e; omega) _).set (fun e => by have e2 : h.n + 2 ≤ H0.n + 2 := hfresh2 _ e; omega) _
        · have := hfresh1 o' ho'; omega
        · have e2 : h.n + 2 ≤ o' := hfresh2 o' ho'; omega
        · have e2 : h.n + 2 ≤ o' := hfresh2 o' ho'
          intro e
          have e' : some (h.n + 1) = some o' := e
          rw [Option.some.injEq] at e'
          omega
    have hn6 : now = 601 := by simp at hc; omega
    subst hn6
    have hdl := G.done hd
    subst hdl
    rw [List.take_length] at P
    conv => whnf
    refine loop_by (I := fun n st => ∃ (j : Nat) (h : Heap) (da ra : AV), (dayOf s t).length + j ≤ s.sheep.length ∧ n = s.sheep.length - ((dayOf s t).length + j) ∧ Heap.at h H0.n = v.blk ∧ (∃ c, Heap.at h (H0.n + 1) = .blk c ∧ c.length = 2) ∧ Heap.at h (H0.n + 2) = two da ra ∧ H0.n + 2 < h.n ∧ (∀ i, i < H0.n → Heap.at h i = Heap.at H0 i) ∧
        GoH H0 ((dayOf s t).map pairOf ++ List.replicate j (-1, 1000)) da ra h ∧
        Has st 74 [(2, .ptr H0.n 0), (4, .ptr (H0.n + 1) 0), (5, .ptr (H0.n + 2) 0)] [] none h) ?_ (k := s.sheep.length - (dayOf s t).length)
      ⟨0, h, da, ra, G.le, rfl, h0, h1, h2, hn, hold0, by rw [List.replicate_zero, List.append_nil]; exact P, rfl, ⟨rfl, rfl, rfl, trivial⟩, rfl, rfl, rfl, rfl⟩
    clear hs1 P h0 h1 h2 hn hold0 hc hnow
    rintro n st ⟨j, h, da, ra, hj, rfl, h0, h1, h2, hn, hold0, P, hs1⟩
    refine hs1.run (hm := false) ?_
    have hPl : ((dayOf s t).map pairOf ++ List.replicate j ((-1 : Int), (1000 : Int))).length = (dayOf s t).length + j := by rw [List.length_append, List.length_map, List.length_replicate]
    obtain ⟨Q, hQ⟩ : ∃ Q, Q = (dayOf s t).map pairOf ++ List.replicate j ((-1 : Int), (1000 : Int)) := ⟨_, rfl⟩
    rw [← hQ] at P hPl
    rcases P.shapes with ⟨rfl, rfl, hP⟩ | ⟨i1, m1, i2, m2, rfl, rfl⟩
    · rw [hP] at hPl
      have hPl : 0 = (dayOf s t).length + j := hPl
      have hPn := hPl
      conv => whnf
      refine ⟨_, h2, ?_⟩
      conv => whnf
      refine ⟨_, h0, ?_⟩
      conv => whnf
      cases c3 : decide ((0 : Int) < (v.kn : Int))
      · have hje : j = s.sheep.length - (dayOf s t).length := by simp at c3; omega
        subst hje
        obtain ⟨c, h1, hcl⟩ := h1
        obtain ⟨c0, c1, rfl⟩ : ∃ c0 c1, c = [c0, c1] := by
          match c, hcl with
          | [c0, c1], _ => exact ⟨c0, c1, rfl⟩
        conv => whnf
        refine ⟨_, h2, ?_⟩
        conv => whnf
        refine ⟨_, h1, ?_⟩
        conv => whnf
        refine ⟨_, at_set_self _ _ (by omega), ?_⟩
        conv => whnf
        exact ⟨_, _, by unfold refL; rw [← hQ]; exact ⟨P.rd.set (fun e => by have := P.od _ e; omega) _, P.rr.set (fun e => by have := (P.or' _ e).1; omega) _, P.od, P.or'⟩, ⟨by show H0.n ≤ h.n; omega, fun i hi _ => (at_set_ne _ _ (by omega)).trans (hold0 i hi)⟩, rfl⟩
      have hjl : (dayOf s t).length + j < s.sheep.length := by simp at c3; omega
      have hPl : Q.length = 0 := by rw [hP]; rfl
      have hP2 : (dayOf s t).map pairOf ++ List.replicate (j + 1) ((-1 : Int), (1000 : Int)) = Q ++ [((-1 : Int), (1000 : Int))] := by rw [hQ, List.replicate_succ', List.append_assoc]
      conv => whnf
      refine draw_by (hm := false) (by kernel_rfl) (by kernel_rfl) ?_
      conv => whnf
      refine ⟨_, h2, ?_⟩
      conv => whnf
      have hlim1 : ((Q.map (·.2)).map row1).length + 1 ≤ limit := by rw [List.length_map, List.length_map, hPl]; unfold limit; omega
      have hlim2 : ((Q.map (·.1)).map row1).length + 1 ≤ limit := by rw [List.length_map, List.length_map, hPl]; unfold limit; omega
      obtain ⟨r1, hr1, hR1, hold1, hn1, hfresh1⟩ := rows_append (row := row1 1000) (t := 26) (u := 26) P.rd U26 U26 rfl S3 rfl row1_len rfl hlim1
      rw [atF_eq] at hr1
      have hx1 := append_first (P := Try.prog) (rd := Heap.at (h.push .dead (.blk ((row1 1000).map .c)))) (fresh := h.n + 1) (ts := #[26, 26]) rfl rfl U26 U26 rfl S3 (first_own (id := h.n) (sz := 1) (len := 1) (cap := 1) (by rw [at_push, if_pos rfl]) rfl) rfl (by decide) (by decide)
      obtain rfl := Option.some.inj (hr1.symm.trans hx1)
      have hRr := P.rr.ext hn1 (fun i hi ho => absurd ho (by simp [outId]))
      obtain ⟨r2, hr2, hR2, hold2, hn2, hfresh2⟩ := rows_append (row := row1 (-1)) (t := 26) (u := 26) hRr U26 U26 rfl S3 rfl row1_len rfl hlim2
      rw [atF_eq] at hr2
      refine ⟨_, got_app rfl hx1, ?_⟩
      conv => whnf
      refine ⟨rfl, ?_⟩
      conv => whnf
      refine ⟨_, (hold1 (H0.n + 2) (by omega) (fun e => by simp [outId] at e)).trans h2, ?_⟩
      conv => whnf
      obtain rfl := Option.some.inj (hr2.symm.trans (append_first rfl rfl U26 U26 rfl S3 (first_own (sz := 1) (len := 1) (cap := 1) (by rw [at_push, if_pos rfl]) rfl) rfl (by decide) (by decide)))
      refine ⟨_, got_app rfl hr2, ?_⟩
      conv => whnf
      refine ⟨rfl, ?_⟩
      conv => whnf
      have hC := (hold2 (H0.n + 2) (show H0.n + 2 < h.n + 2 by omega) (fun e => by simp [outId] at e)).trans ((hold1 (H0.n + 2) (by omega) (fun e => by simp [outId] at e)).trans h2)
      refine ⟨_, hC, ?_⟩
      conv => whnf
      refine ⟨(show H0.n + 2 < h.n + 4 by omega), ?_⟩
      conv => whnf
      refine ⟨_, at_set_self _ _ (show H0.n + 2 < h.n + 4 by omega), ?_⟩
      conv => whnf
      refine ⟨(show H0.n + 2 < h.n + 4 by omega), ?_⟩
      conv => whnf
      obtain ⟨π, pC, p1, p2, p3, p4⟩ : ∃ π : Nat → Nat, π (H0.n + 2) = 0 ∧ π h.n = 1 ∧ π (h.n + 1) = 2 ∧ π (h.n + 2) = 3 ∧ π (h.n + 3) = 4 :=
        ⟨fun x => if x = H0.n + 2 then 0 else if x = h.n then 1 else if x = h.n + 1 then 2 else if x = h.n + 2 then 3 else 4, by dsimp only; rw [if_pos rfl], by dsimp only; rw [if_neg (by omega), if_pos rfl], by dsimp only; rw [if_neg (by omega), if_neg (by omega), if_pos rfl],
          by dsimp only; rw [if_neg (by omega), if_neg (by omega), if_neg (by omega), if_pos rfl], by dsimp only; rw [if_neg (by omega), if_neg (by omega), if_neg (by omega), if_neg (by omega)]⟩
      refine ⟨pairs_via π [⟨0, _, _, [], []⟩, ⟨1, _, _, [π (H0.n + 2)], []⟩, ⟨2, _, _, [], [π h.n]⟩, ⟨3, _, _, [π h.n], [π (h.n + 1)]⟩, ⟨4, _, _, [], []⟩, ⟨5, _, _, [π (H0.n + 2)], []⟩, ⟨6, _, _, [], [π (h.n + 2)]⟩, ⟨7, _, _, [π (h.n + 2)], [π (h.n + 3)]⟩, ⟨8, _, _, [], []⟩, ⟨9, _, _, [π (H0.n + 2)], [π (H0.n + 2)]⟩, ⟨10, _, _, [], []⟩, ⟨11, _, _, [π (H0.n + 2)], [π (H0.n + 2)]⟩] rfl (by rw [pC, p1, p2, p3, p4]; kernel_rfl), ?_⟩
      conv => whnf
      have keep : ∀ i, i < h.n → i ≠ H0.n + 2 → ∀ x y : AB, Heap.at (((after _ _).set .dead (H0.n + 2) x).set .dead (H0.n + 2) y) i = Heap.at h i := fun i hi hne x y => (at_set_ne _ _ hne).trans ((at_set_ne _ _ hne).trans ((hold2 i (show i < h.n + 2 by omega) (fun e => by simp [outId] at e)).trans (hold1 i hi (fun e => by simp [outId] at e))))
      have hR1' := hR1.ext hn2 (fun i hi ho => hold2 i hi (fun e => by simp [outId] at e))
      obtain ⟨c, h1, hcl⟩ := h1
      have q1 : ∀ o', outId (AV.msl (h.n + 1) 1 0 1 1) = some o' → o' = h.n + 1 := fun o' e => by simp [outId] at e; omega
      refine ⟨s.sheep.length - ((dayOf s t).length + (j + 1)), by omega, j + 1, _, _, _, by omega, rfl, (keep H0.n (by omega) (by omega) _ _).trans h0, ⟨c, (keep (H0.n + 1) (by omega) (by omega) _ _).trans h1, hcl⟩, at_set_self _ _ (show H0.n + 2 < h.n + 4 by omega), (show H0.n + 2 < h.n + 4 by omega), fun i hi => (keep i (by omega) (by omega) _ _).trans (hold0 i hi),
        ⟨?_, ?_, fun o' ho' => ?_, fun o' ho' => ⟨?_, ?_⟩⟩, rfl, ⟨rfl, rfl, rfl, trivial⟩, rfl, rfl, rfl, rfl⟩
      · rw [hP2, List.map_append, List.map_append]
        exact (hR1'.set (fun e => by simp [outId] at e; omega) _).set (fun e => by simp [outId] at e; omega) _
      · rw [hP2, List.map_append, List.map_append]
        exact (hR2.set (fun e => by have e2 : h.n + 2 ≤ H0.n + 2 := hfresh2 _ e; omega) _).set (fun e => by have e2 : h.n + 2 ≤ H0.n + 2 := hfresh2 _ e; omega) _
      · have := hfresh1 o' ho'; omega
      · have e2 : h.n + 2 ≤ o' := hfresh2 o' ho'; omega
      · have e2 : h.n + 2 ≤ o' := hfresh2 o' ho'
        intro e
        have e' : some (h.n + 1) = some o' := e
        rw [Option.some.injEq] at e'
        omega
    · obtain ⟨hm1, hb1⟩ := P.rd.ints
      obtain ⟨hm2, hb2⟩ := P.rr.ints
      rw [List.length_map, hPl] at hm1 hm2
      have hl1 := P.rd.lt _ rfl
      have hl2 := P.rr.lt _ rfl
      have ho1 := P.od _ rfl
      have ho2 := (P.or' _ rfl).1
      have ho12 : i1 ≠ i2 := fun e => (P.or' _ rfl).2 (by rw [e]; rfl)
      conv => whnf
      refine ⟨_, h2, ?_⟩
      conv => whnf
      refine ⟨_, h0, ?_⟩
      conv => whnf
      cases c3 : decide ((m1 : Int) < (v.kn : Int))
      · have hje : j = s.sheep.length - (dayOf s t).length := by simp at c3; omega
        subst hje
        obtain ⟨c, h1, hcl⟩ := h1
        obtain ⟨c0, c1, rfl⟩ : ∃ c0 c1, c = [c0, c1] := by
          match c, hcl with
          | [c0, c1], _ => exact ⟨c0, c1, rfl⟩
        conv => whnf
        refine ⟨_, h2, ?_⟩
        conv => whnf
        refine ⟨_, h1, ?_⟩
        conv => whnf
        refine ⟨_, at_set_self _ _ (by omega), ?_⟩
        conv => whnf
        exact ⟨_, _, by unfold refL; rw [← hQ]; exact ⟨P.rd.set (fun e => by have := P.od _ e; omega) _, P.rr.set (fun e => by have := (P.or' _ e).1; omega) _, P.od, P.or'⟩, ⟨by show H0.n ≤ h.n; omega, fun i hi _ => (at_set_ne _ _ (by omega)).trans (hold0 i hi)⟩, rfl⟩
      have hjl : (dayOf s t).length + j < s.sheep.length := by simp at c3; omega
      have hP2 : (dayOf s t).map pairOf ++ List.replicate (j + 1) ((-1 : Int), (1000 : Int)) = Q ++ [((-1 : Int), (1000 : Int))] := by rw [hQ, List.replicate_succ', List.append_assoc]
      conv => whnf
      refine draw_by (hm := false) (by kernel_rfl) (by kernel_rfl) ?_
      conv => whnf
      refine ⟨_, h2, ?_⟩
      conv => whnf
      have hlim1 : ((Q.map (·.2)).map row1).length + 1 ≤ limit := by rw [List.length_map, List.length_map, hPl]; unfold limit; omega
      have hlim2 : ((Q.map (·.1)).map row1).length + 1 ≤ limit := by rw [List.length_map, List.length_map, hPl]; unfold limit; omega
      obtain ⟨r1, hr1, hR1, hold1, hn1, hfresh1⟩ := rows_append (row := row1 1000) (t := 26) (u := 26) P.rd U26 U26 rfl S3 rfl row1_len rfl hlim1
      rw [atF_eq] at hr1
      have hx1 := append_grow (P := Try.prog) (rd := Heap.at (h.push .dead (.blk ((row1 1000).map .c)))) (fresh := h.n + 1) (ts := #[26, 26]) (id := i1) (len := m1) rfl rfl U26 U26 rfl S3 (first_own (id := h.n) (sz := 1) (len := 1) (cap := 1) (by rw [at_push, if_pos rfl]) rfl) rfl (by decide) (by rw [hm1]; unfold limit; omega) (by rw [at_push, if_neg (by omega)]; exact hb1) (by rw [List.length_map, List.length_map, List.length_map, hPl, hm1, Nat.mul_one])
      obtain rfl := Option.some.inj (hr1.symm.trans hx1)
      have hRr := P.rr.ext hn1 (fun i hi ho => hold1 i hi (P.or' i ho).2)
      obtain ⟨r2, hr2, hR2, hold2, hn2, hfresh2⟩ := rows_append (row := row1 (-1)) (t := 26) (u := 26) hRr U26 U26 rfl S3 rfl row1_len rfl hlim2
      rw [atF_eq] at hr2
      refine ⟨_, got_app rfl hx1, ?_⟩
      conv => whnf
      refine ⟨by rw [List.all_cons, List.all_nil, Bool.and_true]; exact decide_eq_true (show i1 < h.n + 1 by omega), ?_⟩
      conv => whnf
      refine ⟨_, (hold1 (H0.n + 2) (by omega) (fun e => by simp [outId] at e; omega)).trans h2, ?_⟩
      conv => whnf
      obtain rfl := Option.some.inj (hr2.symm.trans (append_grow (id := i2) (len := m2) rfl rfl U26 U26 rfl S3 (first_own (sz := 1) (len := 1) (cap := 1) (by rw [at_push, if_pos rfl]) rfl) rfl (by decide) (by rw [hm2]; unfold limit; omega) (by rw [at_push, if_neg (fun e => by have e' : i2 = h.n + 2 := e; omega)]; exact (hold1 i2 hl2 (fun e => by simp [outId] at e; omega)).trans hb2) (by rw [List.length_map, List.length_map, List.length_map, hPl, hm2, Nat.mul_one])))
      refine ⟨_, got_app rfl hr2, ?_⟩
      conv => whnf
      refine ⟨by rw [List.all_cons, List.all_nil, Bool.and_true]; exact decide_eq_true (show i2 < h.n + 2 + 1 by omega), ?_⟩
      conv => whnf
      have hC := (hold2 (H0.n + 2) (show H0.n + 2 < h.n + 2 by omega) (fun e => by simp [outId] at e; omega)).trans ((hold1 (H0.n + 2) (by omega) (fun e => by simp [outId] at e; omega)).trans h2)
      refine ⟨_, hC, ?_⟩
      conv => whnf
      refine ⟨(show H0.n + 2 < h.n + 4 by omega), ?_⟩
      conv => whnf
      refine ⟨_, at_set_self _ _ (show H0.n + 2 < h.n + 4 by omega), ?_⟩
      conv => whnf
      refine ⟨(show H0.n + 2 < h.n + 4 by omega), ?_⟩
      conv => whnf
      obtain ⟨π, pC, p1, p2, p3, p4, p5, p6⟩ : ∃ π : Nat → Nat, π (H0.n + 2) = 0 ∧ π h.n = 1 ∧ π (h.n + 1) = 2 ∧ π (h.n + 2) = 3 ∧ π (h.n + 3) = 4 ∧ π i1 = 5 ∧ π i2 = 6 :=
        ⟨fun x => if x = H0.n + 2 then 0 else if x = h.n then 1 else if x = h.n + 1 then 2 else if x = h.n + 2 then 3 else if x = h.n + 3 then 4 else if x = i1 then 5 else 6, by dsimp only; rw [if_pos rfl], by dsimp only; rw [if_neg (by omega), if_pos rfl], by dsimp only; rw [if_neg (by omega), if_neg (by omega), if_pos rfl],
          by dsimp only; rw [if_neg (by omega), if_neg (by omega), if_neg (by omega), if_pos rfl], by dsimp only; rw [if_neg (by omega), if_neg (by omega), if_neg (by omega), if_neg (by omega), if_pos rfl],
          by dsimp only; rw [if_neg (by omega), if_neg (by omega), if_neg (by omega), if_neg (by omega), if_neg (by omega), if_pos rfl], by dsimp only; rw [if_neg (by omega), if_neg (by omega), if_neg (by omega), if_neg (by omega), if_neg (by omega), if_neg (by omega)]⟩
      refine ⟨pairs_via π [⟨0, _, _, [], []⟩, ⟨1, _, _, [π (H0.n + 2)], []⟩, ⟨2, _, _, [], [π h.n]⟩, ⟨3, _, _, [π i1, π h.n], [π i1, π (h.n + 1)]⟩, ⟨4, _, _, [], []⟩, ⟨5, _, _, [π (H0.n + 2)], []⟩, ⟨6, _, _, [], [π (h.n + 2)]⟩, ⟨7, _, _, [π i2, π (h.n + 2)], [π i2, π (h.n + 3)]⟩, ⟨8, _, _, [], []⟩, ⟨9, _, _, [π (H0.n + 2)], [π (H0.n + 2)]⟩, ⟨10, _, _, [], []⟩, ⟨11, _, _, [π (H0.n + 2)], [π (H0.n + 2)]⟩] rfl (by rw [pC, p1, p2, p3, p4, p5, p6]; kernel_rfl), ?_⟩
      conv => whnf
      have keep : ∀ i, i < h.n → i ≠ H0.n + 2 → i ≠ i1 → i ≠ i2 → ∀ x y : AB, Heap.at (((after _ _).set .dead (H0.n + 2) x).set .dead (H0.n + 2) y) i = Heap.at h i := fun i hi hne n1 n2 x y => (at_set_ne _ _ hne).trans ((at_set_ne _ _ hne).trans ((hold2 i (show i < h.n + 2 by omega) (fun e => by simp [outId] at e; omega)).trans (hold1 i hi (fun e => by simp [outId] at e; omega))))
      have hR1' := hR1.ext hn2 (fun i hi ho => hold2 i hi (fun e => by simp [outId] at e ho; omega))
      obtain ⟨c, h1, hcl⟩ := h1
      have q1 : ∀ o', outId (AV.msl (h.n + 1) 1 0 1 1) = some o' → o' = h.n + 1 := fun o' e => by simp [outId] at e; omega
      refine ⟨s.sheep.length - ((dayOf s t).length + (j + 1)), by omega, j + 1, _, _, _, by omega, rfl, (keep H0.n (by omega) (by omega) (by omega) (by omega) _ _).trans h0, ⟨c, (keep (H0.n + 1) (by omega) (by omega) (by omega) (by omega) _ _).trans h1, hcl⟩, at_set_self _ _ (show H0.n + 2 < h.n + 4 by omega), (show H0.n + 2 < h.n + 4 by omega), fun i hi => (keep i (by omega) (by omega) (by omega) (by omega) _ _).trans (hold0 i hi),
        ⟨?_, ?_, fun o' ho' => ?_, fun o' ho' => ⟨?_, ?_⟩⟩, rfl, ⟨rfl, rfl, rfl, trivial⟩, rfl, rfl, rfl, rfl⟩
      · rw [hP2, List.map_append, List.map_append]
        exact (hR1'.set (fun e => by simp [outId] at e; omega) _).set (fun e => by simp [outId] at e; omega) _
      · rw [hP2, List.map_append, List.map_append]
        exact (hR2.set (fun e => by have e2 : h.n + 2 ≤ H0.n + 2 := hfresh2 _ e; omega) _).set (fun e => by have e2 : h.n + 2 ≤ H0.n + 2 := hfresh2 _ e; omega) _
      · have := hfresh1 o' ho'; omega
      · have e2 : h.n + 2 ≤ o' := hfresh2 o' ho'; omega
      · have e2 : h.n + 2 ≤ o' := hfresh2 o' ho'
        intro e
        have e' : some (h.n + 1) = some o' := e
        rw [Option.some.injEq] at e'
        omega
  · exact (at_push_lt _ _ (show H0.n < H0.n + 2 by omega)).trans ((at_push_lt _ _ (show H0.n < H0.n + 1 by omega)).trans (at_push_self _ _))
  · exact ⟨_, (at_push_lt _ _ (show H0.n + 1 < H0.n + 2 by omega)).trans (at_push_self (H0.push .dead v.blk) _), rfl⟩
  · exact at_push_self ((H0.push .dead v.blk).push .dead (.blk [AV.lit (.slice none 0 0), AV.lit (.slice none 0 0)])) _
  · show H0.n + 2 < H0.n + 3; omega
  · intro i hi
    exact (at_push_lt _ _ (show i < H0.n + 2 by omega)).trans ((at_push_lt _ _ (show i < H0.n + 1 by omega)).trans (at_push_lt _ _ hi))
end Go.Ag
/- Slices of one's own whose cells are slices of one's own. -/
namespace Go.Ag
open Go.Proofs
set_option maxRecDepth 100000

theorem snap_up (H : Nat → AB) : ∀ n : Nat, (∀ v r, snap H n v = some r → snap H (n + 1) v = some r) ∧ (∀ l r, snaps H n l = some r → snaps H (n + 1) l = some r) := by
  intro n
  induction n with
  | zero => exact ⟨fun v r h => by simp [snap] at h, fun l r h => by simp [snaps] at h⟩
  | succ n ih =>
    obtain ⟨i1, i2⟩ := ih
    constructor
    · intro v r h
      cases v with
      | c u => simp only [snap] at h ⊢; exact h
      | ptr id off =>
        rw [snap] at h ⊢
        cases hb : H id <;> rw [hb] at h <;> first | (simp at h; done) | skip
        simp only [Option.map_eq_some_iff] at h ⊢
        obtain ⟨x, h1, h2⟩ := h
        exact ⟨x, i2 _ _ h1, h2⟩
      | msl id sz off len cap =>
        rw [snap] at h ⊢
        cases hb : H id <;> rw [hb] at h <;> first | (simp at h; done) | skip
        simp only [Option.map_eq_some_iff] at h ⊢
        obtain ⟨x, h1, h2⟩ := h
        exact ⟨x, i2 _ _ h1, h2⟩
      | map id =>
        rw [snap] at h ⊢
        cases hb : H id <;> rw [hb] at h <;> first | (simp at h; done) | skip
        simp only [Option.map_eq_some_iff] at h ⊢
        obtain ⟨x, h1, h2⟩ := h
        exact ⟨x, i2 _ _ h1, h2⟩
      | yield id => simp [snap] at h
      | func fn a b =>
        rw [snap] at h ⊢
        simp only [Option.bind_eq_some_iff, Option.map_eq_some_iff] at h ⊢
        obtain ⟨x, h1, y, h2, h3⟩ := h
        exact ⟨x, i2 _ _ h1, y, i2 _ _ h2, h3⟩
      | iface t v =>
        rw [snap] at h ⊢
        simp only [Option.map_eq_some_iff] at h ⊢
        obtain ⟨x, h1, h2⟩ := h
        exact ⟨x, i1 _ _ h1, h2⟩
      | agg cs =>
        rw [snap] at h ⊢
        simp only [Option.map_eq_some_iff] at h ⊢
        obtain ⟨x, h1, h2⟩ := h
        exact ⟨x, i2 _ _ h1, h2⟩
      | tuple cs =>
        rw [snap] at h ⊢
        simp only [Option.map_eq_some_iff] at h ⊢
        obtain ⟨x, h1, h2⟩ := h
        exact ⟨x, i2 _ _ h1, h2⟩
    · intro l r h
      cases l with
      | nil => rw [snaps] at h ⊢; exact h
      | cons v l =>
        rw [snaps] at h ⊢
        simp only [Option.bind_eq_some_iff, Option.map_eq_some_iff] at h ⊢
        obtain ⟨x, h1, y, h2, h3⟩ := h
        exact ⟨x, i1 _ _ h1, y, i2 _ _ h2, h3⟩
theorem snap_le {H : Nat → AB} {n m : Nat} (h : n ≤ m) : (∀ v r, snap H n v = some r → snap H m v = some r) ∧ (∀ l r, snaps H n l = some r → snaps H m l = some r) := by
  induction h with
  | refl => exact ⟨fun _ _ h => h, fun _ _ h => h⟩
  | step _ ih => exact ⟨fun v r h => (snap_up H _).1 v r (ih.1 v r h), fun l r h => (snap_up H _).2 l r (ih.2 l r h)⟩
theorem snap_ext {H H' : Nat → AB} : ∀ n : Nat, (∀ v r, snap H n v = some r → (∀ i ∈ r.2, H' i = H i) → snap H' n v = some r) ∧ (∀ l r, snaps H n l = some r → (∀ i ∈ r.2, H' i = H i) → snaps H' n l = some r) := by
  intro n
  induction n with
  | zero => exact ⟨fun v r h => by simp [snap] at h, fun l r h => by simp [snaps] at h⟩
  | succ n ih =>
    obtain ⟨i1, i2⟩ := ih
    constructor
    · intro v r h he
      cases v with
      | c u => simp only [snap] at h ⊢; exact h
      | ptr id off =>
        rw [snap] at h ⊢
        cases hb : H id <;> rw [hb] at h <;> first | (simp at h; done) | skip
        simp only [Option.map_eq_some_iff] at h
        obtain ⟨x, h1, rfl⟩ := h
        rw [he id (by simp), hb]
        simp only [Option.map_eq_some_iff]
        exact ⟨x, i2 _ _ h1 (fun i hi => he i (by simp [hi])), rfl⟩
      | msl id sz off len cap =>
        rw [snap] at h ⊢
        cases hb : H id <;> rw [hb] at h <;> first | (simp at h; done) | skip
        simp only [Option.map_eq_some_iff] at h
        obtain ⟨x, h1, rfl⟩ := h
        rw [he id (by simp), hb]
        simp only [Option.map_eq_some_iff]
        exact ⟨x, i2 _ _ h1 (fun i hi => he i (by simp [hi])), rfl⟩
      | map id =>
        rw [snap] at h ⊢
        cases hb : H id <;> rw [hb] at h <;> first | (simp at h; done) | skip
        simp only [Option.map_eq_some_iff] at h
        obtain ⟨x, h1, rfl⟩ := h
        rw [he id (by simp), hb]
        simp only [Option.map_eq_some_iff]
        exact ⟨x, i2 _ _ h1 (fun i hi => he i (by simp [hi])), rfl⟩
      | yield id => simp [snap] at h
      | func fn a b =>
        rw [snap] at h ⊢
        simp only [Option.bind_eq_some_iff, Option.map_eq_some_iff] at h ⊢
        obtain ⟨x, h1, y, h2, rfl⟩ := h
        exact ⟨x, i2 _ _ h1 (fun i hi => he i (by simp [hi])), y, i2 _ _ h2 (fun i hi => he i (by simp [hi])), rfl⟩
      | iface t v =>
        rw [snap] at h ⊢
        simp only [Option.map_eq_some_iff] at h ⊢
        obtain ⟨x, h1, rfl⟩ := h
        exact ⟨x, i1 _ _ h1 he, rfl⟩
      | agg cs =>
        rw [snap] at h ⊢
        simp only [Option.map_eq_some_iff] at h ⊢
        obtain ⟨x, h1, rfl⟩ := h
        exact ⟨x, i2 _ _ h1 he, rfl⟩
      | tuple cs =>
        rw [snap] at h ⊢
        simp only [Option.map_eq_some_iff] at h ⊢
        obtain ⟨x, h1, rfl⟩ := h
        exact ⟨x, i2 _ _ h1 he, rfl⟩
    · intro l r h he
      cases l with
      | nil => rw [snaps] at h ⊢; exact h
      | cons v l =>
        rw [snaps] at h ⊢
        simp only [Option.bind_eq_some_iff, Option.map_eq_some_iff] at h ⊢
        obtain ⟨x, h1, y, h2, rfl⟩ := h
        exact ⟨x, i1 _ _ h1 (fun i hi => he i (by simp [hi])), y, i2 _ _ h2 (fun i hi => he i (by simp [hi])), rfl⟩
theorem snaps_app {H : Nat → AB} : ∀ (n : Nat) (a b : List AV) (x y : List CV × List Nat) (m : Nat), snaps H n a = some x → snaps H m b = some y → snaps H (n + m) (a ++ b) = some (x.1 ++ y.1, x.2 ++ y.2)
  | 0, a, b, x, y, m, h, _ => by simp [snaps] at h
  | n + 1, [], b, x, y, m, h, k => by
    rw [snaps] at h
    simp only [Option.some.injEq] at h
    subst h
    exact (snap_le (by omega)).2 _ _ k
  | n + 1, v :: a, b, x, y, m, h, k => by
    rw [snaps] at h
    simp only [Option.bind_eq_some_iff, Option.map_eq_some_iff] at h
    obtain ⟨c, h1, l, h2, rfl⟩ := h
    have ih := snaps_app n a b l y m h2 k
    rw [show n + 1 + m = (n + m) + 1 by omega, List.cons_append, snaps, (snap_le (show n ≤ n + m by omega)).1 _ _ h1, Option.bind_some, ih, Option.map_some]
    simp

/-- Cells that stand for closed ones, by blocks of their own. -/
def Holds' (h : Heap) (xs : List AV) (cs : List CV) (W : Nat → Prop) : Prop := ∃ fuel ids, snaps (Heap.at h) fuel xs = some (cs, ids) ∧ ∀ i ∈ ids, i < h.n ∧ W i
theorem Holds'.ext {h h' : Heap} {xs : List AV} {cs : List CV} {W : Nat → Prop} (H : Holds' h xs cs W) (hn : h.n ≤ h'.n) (he : ∀ i, i < h.n → W i → Heap.at h' i = Heap.at h i) : Holds' h' xs cs W := by
  obtain ⟨f, ids, h1, h2⟩ := H
  exact ⟨f, ids, (snap_ext f).2 _ _ h1 (fun i hi => he i (h2 i hi).1 (h2 i hi).2), fun i hi => ⟨Nat.lt_of_lt_of_le (h2 i hi).1 hn, (h2 i hi).2⟩⟩
theorem Holds'.mono {h : Heap} {xs : List AV} {cs : List CV} {W W' : Nat → Prop} (H : Holds' h xs cs W) (hw : ∀ i, i < h.n → W i → W' i) : Holds' h xs cs W' := by
  obtain ⟨f, ids, h1, h2⟩ := H
  exact ⟨f, ids, h1, fun i hi => ⟨(h2 i hi).1, hw i (h2 i hi).1 (h2 i hi).2⟩⟩
theorem Holds'.app {h : Heap} {xs ys : List AV} {cs ds : List CV} {W : Nat → Prop} (H : Holds' h xs cs W) (K : Holds' h ys ds W) : Holds' h (xs ++ ys) (cs ++ ds) W := by
  obtain ⟨f, ids, h1, h2⟩ := H
  obtain ⟨g, jds, k1, k2⟩ := K
  exact ⟨f + g, ids ++ jds, snaps_app f xs ys (cs, ids) (ds, jds) g h1 k1, fun i hi => (List.mem_append.1 hi).elim (h2 i) (k2 i)⟩
theorem Holds'.nil (h : Heap) (W : Nat → Prop) : Holds' h [] [] W := ⟨1, [], rfl, by simp⟩
theorem Holds'.closed (h : Heap) (cs : List CV) (W : Nat → Prop) : Holds' h (cs.map .c) cs W := ⟨cs.length + 2, [], snaps_map_c _ cs _ (by omega), by simp⟩
theorem Holds'.rows {h : Heap} {sz : Nat} {a : AV} {rows : List (List CV)} (R : RowsL sz h a rows) (hne : a ≠ nilA) {W : Nat → Prop} (hW : ∀ o, outId a = some o → W o) : Holds' h [a] [.sl rows.flatten 0 rows.length] W := by
  rcases R with ⟨rfl, _⟩ | ⟨o, rfl, hb, ho, _⟩
  · exact absurd rfl hne
  · refine ⟨rows.flatten.length + 4, [o], ?_, fun i hi => ?_⟩
    · rw [snaps, snap, hb]
      dsimp only
      rw [snaps_map_c _ _ _ (by omega)]
      rfl
    · simp only [List.mem_singleton] at hi
      subst hi
      exact ⟨ho, hW _ rfl⟩

/-- Rows whose cells stand for closed ones. -/
def RowsS (sz : Nat) (h : Heap) (out : AV) (rows : List (List CV)) : Prop :=
  (out = nilA ∧ rows = []) ∨ ∃ o cells, out = .msl o sz 0 rows.length rows.length ∧ Heap.at h o = .blk cells ∧ cells.length = rows.length * sz ∧ Holds' h cells rows.flatten (fun i => i ≠ o) ∧ o < h.n ∧ rows ≠ []
theorem RowsS.ext {sz : Nat} {h h' : Heap} {out : AV} {rows : List (List CV)} (R : RowsS sz h out rows) (hn : h.n ≤ h'.n) (he : ∀ i, i < h.n → Heap.at h' i = Heap.at h i) : RowsS sz h' out rows := by
  rcases R with h1 | ⟨o, cells, h1, h2, h3, h4, h5, h6⟩
  · exact .inl h1
  · exact .inr ⟨o, cells, h1, (he o h5).trans h2, h3, h4.ext hn (fun i hi _ => he i hi), Nat.lt_of_lt_of_le h5 hn, h6⟩
theorem RowsS.shape {sz : Nat} {h : Heap} {out : AV} {rows : List (List CV)} (R : RowsS sz h out rows) : out = nilA ∨ ∃ o n, out = .msl o sz 0 n n := by
  rcases R with ⟨rfl, _⟩ | ⟨o, _, rfl, _⟩
  · exact .inl rfl
  · exact .inr ⟨o, _, rfl⟩
theorem RowsS.lt {sz : Nat} {h : Heap} {out : AV} {rows : List (List CV)} (R : RowsS sz h out rows) : ∀ o, outId out = some o → o < h.n := by
  rcases R with ⟨rfl, _⟩ | ⟨o, _, rfl, _, _, _, h3, _⟩
  · intro o ho; cases ho
  · intro o' ho; cases ho; exact h3
theorem rowsS_append {P : Program} {sz : Nat} {h : Heap} {out : AV} {rows : List (List CV)} {row : List CV} {xs : List AV} {t u elem : TypeId} {du : TypeDesc} (R : RowsS sz h out rows) (ht : P.underlying t = some (.slice elem)) (hu : P.underlying u = some du)
    (hdu : isSliceOrString du = true) (hs : slicePart P elem = some sz) (hxs : xs.length = sz) (hx : Holds' h xs row (fun i => outId out ≠ some i)) (hc : xs.all AV.cellish = true) (hlim : rows.length + 1 ≤ limit) :
    ∃ r, aappend P (atF (h.push .dead (.blk xs))) (h.n + 1) #[t, u] out (.msl h.n sz 0 1 1) = some r ∧ RowsS sz (after (h.push .dead (.blk xs)) r) r.val (rows ++ [row]) ∧
      (∀ i, i < h.n → outId out ≠ some i → Heap.at (after (h.push .dead (.blk xs)) r) i = Heap.at h i) ∧ h.n ≤ (after (h.push .dead (.blk xs)) r).n ∧ (∀ o, outId r.val = some o → h.n ≤ o) := by
  have hf : firstCells (Heap.at (h.push .dead (.blk xs))) sz (.msl h.n sz 0 1 1) = some (xs, 1, [h.n]) := first_own (by rw [at_push, if_pos rfl]) (by simp [hxs])
  rw [atF_eq]
  rcases R with ⟨rfl, rfl⟩ | ⟨o, cells, rfl, h2, h3, h4, h5, h6⟩
  · refine ⟨_, append_first rfl rfl ht hu hdu hs hf hc (by decide) (by decide), ?_⟩
    have keep : ∀ i, i < h.n → Heap.at ((h.push .dead (.blk xs)).push .dead (.blk xs)) i = Heap.at h i := fun i hi => by rw [at_push, if_neg (by rw [push_n]; omega), at_push, if_neg (by omega)]
    refine ⟨.inr ⟨h.n + 1, xs, rfl, ?_, by simp [hxs], ?_, ?_, by simp⟩, fun i hi _ => keep i hi, ?_, fun o ho => by simp [outId] at ho; omega⟩
    · show Heap.at ((h.push .dead (.blk xs)).push .dead (.blk xs)) (h.n + 1) = _
      rw [at_push, if_pos (by rw [push_n])]
    · have := (hx.mono (W' := fun i => i < h.n) (fun i hi _ => hi)).ext (h' := (h.push .dead (.blk xs)).push .dead (.blk xs)) (by rw [push_n, push_n]; omega) (fun i hi _ => keep i hi)
      have e : ([] ++ [row] : List (List CV)).flatten = row := by simp
      rw [e]
      exact this.mono fun i _ hi => by omega
    · show h.n + 1 < h.n + 1 + 1; omega
    · show h.n ≤ h.n + 1 + 1; omega
  · refine ⟨_, append_grow rfl rfl ht hu hdu hs hf hc (by decide) hlim (by rw [at_push, if_neg (by omega)]; exact h2) h3, ?_⟩
    have keep : ∀ i, i < h.n → i ≠ o → Heap.at (((h.push .dead (.blk xs)).set .dead o .dead).push .dead (.blk (cells ++ xs))) i = Heap.at h i := fun i hi hne => by
      rw [at_push, if_neg (by rw [TMap.set_n, push_n]; omega), at_set, if_neg (fun x => hne x.1), at_push, if_neg (by omega)]
    refine ⟨.inr ⟨h.n + 1, cells ++ xs, by simp, ?_, ?_, ?_, ?_, by simp⟩, fun i hi hne => keep i hi (fun e => hne (by rw [e]; rfl)), ?_, fun o ho => by simp [outId] at ho; omega⟩
    · show Heap.at (((h.push .dead (.blk xs)).set .dead o .dead).push .dead (.blk (cells ++ xs))) (h.n + 1) = _
      rw [at_push, if_pos (by rw [TMap.set_n, push_n])]
    · rw [List.length_append, List.length_append, h3, hxs, List.length_singleton, Nat.add_mul, Nat.one_mul]
    · have k1 := (h4.mono (W' := fun i => i < h.n ∧ i ≠ o) (fun i hi hne => ⟨hi, hne⟩)).ext (h' := ((h.push .dead (.blk xs)).set .dead o .dead).push .dead (.blk (cells ++ xs))) (by rw [push_n, TMap.set_n, push_n]; omega) (fun i hi hw => keep i hi hw.2)
      have k2 := (hx.mono (W' := fun i => i < h.n ∧ i ≠ o) (fun i hi hne => ⟨hi, fun e => hne (by rw [e]; rfl)⟩)).ext (h' := ((h.push .dead (.blk xs)).set .dead o .dead).push .dead (.blk (cells ++ xs))) (by rw [push_n, TMap.set_n, push_n]; omega) (fun i hi hw => keep i hi hw.2)
      have e : (rows ++ [row]).flatten = rows.flatten ++ row := by simp
      rw [e]
      exact (k1.app k2).mono fun i _ hi => by omega
    · show h.n + 1 < h.n + 1 + 1; omega
    · show h.n ≤ h.n + 1 + 1; omega
/-- What is returned of rows, as a closed value. -/
theorem RowsS.ret {sz : Nat} {h : Heap} {o n m : Nat} {rows : List (List CV)} (R : RowsS sz h (.msl o sz 0 n m) rows) : RetW (.sl rows.flatten 0 rows.length) (.msl o sz 0 n m) h := by
  rcases R with ⟨h1, _⟩ | ⟨o', cells, h1, h2, _, ⟨f, ids, h4, _⟩, _, _⟩
  · cases h1
  · simp only [AV.msl.injEq] at h1
    obtain ⟨rfl, _, _, rfl, rfl⟩ := h1
    refine ⟨f + 1, o :: ids, ?_⟩
    rw [snap, h2]
    dsimp only
    rw [h4]
    rfl
end Go.Ag
/- Layer 4: the reference's truths. -/
namespace Go.Ag
open Go.Proofs
set_option maxRecDepth 100000

def slC : List Int → CV
  | [] => nilC
  | x :: l => .sl ((x :: l).map I) 0 (x :: l).length
theorem slC_le (l : List Int) : (slC l).Le (.sl (l.map I) 0 l.length) := by
  cases l with
  | nil => exact .nil _ _
  | cons x l => exact .refl _
theorem slC_ne {l : List Int} (h : l ≠ []) : slC l = .sl (l.map I) 0 l.length := by
  cases l with
  | nil => exact absurd rfl h
  | cons x l => rfl
theorem holds_ints {h : Heap} {a : AV} {l : List Int} (R : RowsL 1 h a (l.map row1)) {W : Nat → Prop} (hW : ∀ o, outId a = some o → W o) : Holds' h [a] [slC l] W := by
  rcases R with ⟨rfl, h1⟩ | ⟨o, rfl, hb, ho, h2⟩
  · have : l = [] := by simpa using h1
    subst this
    exact Holds'.closed h [nilC] W
  · have hne : l ≠ [] := fun e => h2 (by rw [e]; rfl)
    have := Holds'.rows (h := h) (.inr ⟨o, rfl, hb, ho, h2⟩) (by intro e; cases e) (W := W) hW
    rw [flat_row1, List.length_map] at this
    rw [slC_ne hne, List.length_map]
    exact this

theorem callR {h : Heap} {da ra : AV} {D R : List Int} (RD : RowsL 1 h da (D.map row1)) (RR : RowsL 1 h ra (R.map row1)) (hl : D.length = R.length) {f : FuncId} {a0 a2 r : CV} (hr : Ret Try.prog f [a0, refC D R, a2] r) (hp : r.plain = true) {K : AEnd → Heap → Prop} (k : K (.ret (.c r)) h) :
    CallW Try.prog f [.c a0, mkAgg [da, ra], .c a2] h K := by
  rcases shapes_two RD RR (by rw [List.length_map, List.length_map]; exact hl) with ⟨rfl, rfl⟩ | ⟨o, m, o2, m2, rfl, rfl⟩
  · obtain rfl := RD.nils
    obtain rfl := RR.nils
    have hr' : Ret Try.prog f [a0, .agg [nilC, nilC], a2] r := hr.args ⟨.refl _, .agg ⟨.nil _ _, .nil _ _, trivial⟩, .refl _, trivial⟩
    exact .ret hr' rfl k
  · obtain ⟨h1, b1⟩ := RD.ints
    obtain ⟨h2, b2⟩ := RR.ints
    have hkl : killed r [o, o2] = [] := by unfold killed; rw [if_pos hp]
    refine .snapped (D.length + R.length + 40) [a0, refC D R, a2] [o, o2] _ r ?_ hr rfl (by rw [hkl]; exact k)
    show snaps (Heap.at h) (D.length + R.length + 36 + 4) [.c a0, .agg [.msl o 1 0 m m, .msl o2 1 0 m2 m2], .c a2] = _
    simp only [snaps, snap, b1, b2, Option.bind_some, Option.map_some]
    rw [snaps_map_c _ _ _ (by rw [List.length_map]; omega), snaps_map_c _ _ _ (by rw [List.length_map]; omega)]
    rw [h1, h2]
    rfl

/-- All truths by the looks of a set. -/
def doneR (s : Sd) (t : T3) : List Int := (refL s t).map (·.2)
def runR (s : Sd) (t : T3) : List Int := (refL s t).map (·.1)
def okR (s : Sd) (set : Nat) (t : T3) : Bool := rightF (doneR s t) set s.looks 0
def truthsR (s : Sd) (set : Nat) : List T3 := (combos s).filter (okR s set)
def rowTr (s : Sd) (t : T3) : List CV := [.sl [I t.a, I t.b, I t.c] 0 3, slC (doneR s t), slC (runR s t)]
def trC (s : Sd) (L : List T3) : CV := .sl (L.map (rowTr s)).flatten 0 L.length
theorem refL_len {s : Sd} {t : T3} (h : (dayOf s t).length ≤ s.sheep.length) : (refL s t).length = s.sheep.length := by
  unfold refL; rw [List.length_append, List.length_map, List.length_replicate]; omega

def tC (s : Sd) (a b : Int) (c : Int) : List T3 := (ints c s.hi.c).map fun c => ⟨a, b, c⟩
def tB (s : Sd) (a : Int) (b : Int) : List T3 := (ints b s.hi.b).flatMap fun b => tC s a b s.lo.c
def tA (s : Sd) (a : Int) : List T3 := (ints a s.hi.a).flatMap fun a => tB s a s.lo.b
theorem combos_tA (s : Sd) : combos s = tA s s.lo.a := rfl
theorem tA_cons {s : Sd} {a : Int} (h : a ≤ s.hi.a) : tA s a = tB s a s.lo.b ++ tA s (a + 1) := by unfold tA; rw [ints_cons h, List.flatMap_cons]
theorem tB_cons {s : Sd} {a b : Int} (h : b ≤ s.hi.b) : tB s a b = tC s a b s.lo.c ++ tB s a (b + 1) := by unfold tB; rw [ints_cons h, List.flatMap_cons]
theorem tC_cons {s : Sd} {a b c : Int} (h : c ≤ s.hi.c) : tC s a b c = ⟨a, b, c⟩ :: tC s a b (c + 1) := by unfold tC; rw [ints_cons h, List.map_cons]
theorem tA_nil {s : Sd} {a : Int} (h : ¬ a ≤ s.hi.a) : tA s a = [] := by unfold tA; rw [ints_nil (by omega)]; rfl
theorem tB_nil {s : Sd} {a b : Int} (h : ¬ b ≤ s.hi.b) : tB s a b = [] := by unfold tB; rw [ints_nil (by omega)]; rfl
theorem tC_nil {s : Sd} {a b c : Int} (h : ¬ c ≤ s.hi.c) : tC s a b c = [] := by unfold tC; rw [ints_nil (by omega)]; rfl
theorem U91 : Try.prog.underlying 91 = some (.slice 95) := by kernel_rfl
theorem S95 : slicePart Try.prog 95 = some 3 := by kernel_rfl
theorem rowTr_len {s : Sd} {L : List T3} : (L.map (rowTr s)).length = L.length := List.length_map ..

end Go.Ag
/- Layer 4: the reference's truths, in code. -/
namespace Go.Ag
open Go.Proofs
set_option maxRecDepth 100000

set_option maxHeartbeats 8000000 in
theorem truths72_ret {v : SV} {s : Sd} (hv : v.Is s) (hd : validB s = true) {set : Nat} (hset : set < 65536) : Ret Try.prog 72 [v.cv, I set] (trC s (truthsR s set)) := by
  have e1 := hv.ln; have e2 := hv.short; have e4 := hv.lo; have e5 := hv.hi
  have h4 := valid_looks hd
  have hcl := combos_len hd
  have hnar : 1 ≤ s.lo.a ∧ s.hi.a ≤ 40 ∧ 1 ≤ s.lo.b ∧ s.hi.b ≤ 40 ∧ 1 ≤ s.lo.c ∧ s.hi.c ≤ 40 ∧ s.lo.a ≤ 40 ∧ s.lo.b ≤ 40 ∧ s.lo.c ≤ 40 := by
    have hm := hd
    simp only [validB, minsOk, minOk, spanB, Bool.and_eq_true, decide_eq_true_eq] at hm
    omega
  have hTL : (truthsR s set).length ≤ 125 := Nat.le_trans (List.length_filter_le ..) hcl
  refine ret_le (hm := false) Try.func72 rfl ?_
  conv => whnf
  refine ⟨⟨by decide, by decide, by decide⟩, ?_⟩
  conv => whnf
  refine ⟨v.blk, at_push_self _ _, ?_⟩
  conv => whnf
  refine loop_op (I := fun n st => ∃ (a : Int) (h : Heap) (out : AV) (acc : List T3), s.lo.a ≤ a ∧ a ≤ 41 ∧ n = (s.hi.a + 1 - a).toNat ∧ Heap.at h 0 = v.blk ∧ 0 < h.n ∧ truthsR s set = acc ++ (tA s a).filter (okR s set) ∧ RowsS 3 h out (acc.map (rowTr s)) ∧ (∀ o, outId out = some o → 0 < o) ∧
      Has st 65 [(1, .c (I set)), (2, .ptr 0 0), (5, out), (6, .c (I a))] [] none h) ?_ (k := (s.hi.a + 1 - s.lo.a).toNat)
    ⟨v.lo.a, _, nilA, [], by rw [e4]; exact Int.le_refl _, by rw [e4]; omega, by rw [e4], at_push_self _ _, Nat.lt_succ_self 0, by rw [e4, List.nil_append, ← combos_tA]; rfl, .inl ⟨rfl, rfl⟩, (fun o ho => by cases ho), rfl, ⟨rfl, rfl, rfl, rfl, trivial⟩, rfl, rfl, rfl, rfl⟩
  rintro n st ⟨a, h, out, acc, ha, ha2, rfl, h0, hn, hacc, hR, ho, hs1⟩ K1 hK1
  refine hs1.run (hm := false) ?_
  conv => whnf
  refine ⟨⟨by decide, by decide, by decide⟩, ?_⟩
  conv => whnf
  refine ⟨_, h0, ?_⟩
  conv => whnf
  cases hc : decide (a ≤ v.hi.a)
  case false =>
    subst hK1
    rw [e5] at hc
    rw [tA_nil (by simpa using hc), List.filter_nil, List.append_nil] at hacc
    rw [← hacc] at hR
    rcases hR.shape with rfl | ⟨o, m, rfl⟩
    · conv => whnf
      have : truthsR s set = [] := by
        rcases hR with ⟨_, h1⟩ | ⟨o, _, h1, _⟩
        · simpa using h1
        · cases h1
      rw [this]
      exact ⟨_, .val, .nil _ _⟩
    · conv => whnf
      have := hR.ret
      rw [List.length_map] at this
      exact ⟨_, this, .refl _⟩
  have hah : a ≤ s.hi.a := by rw [e5] at hc; simpa using hc
  conv => whnf
  refine ⟨⟨by decide, by decide, by decide⟩, ?_⟩
  conv => whnf
  refine ⟨_, h0, ?_⟩
  conv => whnf
  rw [tA_cons hah, List.filter_append] at hacc
  obtain ⟨RA, hRA⟩ : ∃ RA, RA = (tA s (a + 1)).filter (okR s set) := ⟨_, rfl⟩
  rw [← hRA] at hacc
  refine loop_op (I := fun n st => ∃ (b : Int) (h : Heap) (out : AV) (acc : List T3), s.lo.b ≤ b ∧ b ≤ 41 ∧ n = (s.hi.b + 1 - b).toNat ∧ Heap.at h 0 = v.blk ∧ 0 < h.n ∧ truthsR s set = acc ++ ((tB s a b).filter (okR s set) ++ RA) ∧ RowsS 3 h out (acc.map (rowTr s)) ∧ (∀ o, outId out = some o → 0 < o) ∧
      Has st 65 [(1, .c (I set)), (2, .ptr 0 0), (5, out), (6, .c (I a)), (7, .c (I b))] [] none h) ?_ (k := (s.hi.b + 1 - s.lo.b).toNat)
    ⟨v.lo.b, h, out, acc, by rw [e4]; exact Int.le_refl _, by rw [e4]; omega, by rw [e4], h0, hn, by rw [e4]; exact hacc, hR, ho, rfl, ⟨rfl, rfl, rfl, rfl, rfl, trivial⟩, rfl, rfl, rfl, rfl⟩
  clear hs1 h0 hn hacc hR ho hc acc out h
  rintro n st ⟨b, h, out, acc, hb, hb2, rfl, h0, hn, hacc, hR, ho, hs1⟩ K2 hK2
  refine hs1.run (hm := false) ?_
  conv => whnf
  refine ⟨⟨by decide, by decide, by decide⟩, ?_⟩
  conv => whnf
  refine ⟨_, h0, ?_⟩
  conv => whnf
  cases hc : decide (b ≤ v.hi.b)
  case false =>
    subst hK2
    rw [e5] at hc
    rw [tB_nil (by simpa using hc), List.filter_nil, List.nil_append, hRA] at hacc
    conv => whnf
    refine ⟨a + 1, by rw [wrap_eq (by omega) (by omega)], ?_⟩
    conv => whnf
    exact ⟨(s.hi.a + 1 - (a + 1)).toNat, by omega, a + 1, h, out, acc, by omega, by omega, rfl, h0, hn, hacc, hR, ho, rfl, ⟨rfl, rfl, rfl, rfl, trivial⟩, rfl, rfl, rfl, rfl⟩
  have hbh : b ≤ s.hi.b := by rw [e5] at hc; simpa using hc
  conv => whnf
  refine ⟨⟨by decide, by decide, by decide⟩, ?_⟩
  conv => whnf
  refine ⟨_, h0, ?_⟩
  conv => whnf
  rw [tB_cons hbh, List.filter_append, List.append_assoc] at hacc
  obtain ⟨RB, hRB⟩ : ∃ RB, RB = (tB s a (b + 1)).filter (okR s set) ++ RA := ⟨_, rfl⟩
  rw [← hRB] at hacc
  refine loop_op (I := fun n st => ∃ (c : Int) (h : Heap) (out : AV) (acc : List T3), s.lo.c ≤ c ∧ c ≤ 41 ∧ n = (s.hi.c + 1 - c).toNat ∧ Heap.at h 0 = v.blk ∧ 0 < h.n ∧ truthsR s set = acc ++ ((tC s a b c).filter (okR s set) ++ RB) ∧ RowsS 3 h out (acc.map (rowTr s)) ∧ (∀ o, outId out = some o → 0 < o) ∧
      Has st 65 [(1, .c (I set)), (2, .ptr 0 0), (5, out), (6, .c (I a)), (7, .c (I b)), (8, .c (I c))] [] none h) ?_ (k := (s.hi.c + 1 - s.lo.c).toNat)
    ⟨v.lo.c, h, out, acc, by rw [e4]; exact Int.le_refl _, by rw [e4]; omega, by rw [e4], h0, hn, by rw [e4]; exact hacc, hR, ho, rfl, ⟨rfl, rfl, rfl, rfl, rfl, rfl, trivial⟩, rfl, rfl, rfl, rfl⟩
  clear hs1 h0 hn hacc hR ho hc acc out h
  rintro n st ⟨c, h, out, acc, hcl', hc2, rfl, h0, hn, hacc, hR, ho, hs1⟩ K3 hK3
  refine hs1.run (hm := false) ?_
  conv => whnf
  refine ⟨⟨by decide, by decide, by decide⟩, ?_⟩
  conv => whnf
  refine ⟨_, h0, ?_⟩
  conv => whnf
  cases hc : decide (c ≤ v.hi.c)
  case false =>
    subst hK3
    rw [e5] at hc
    rw [tC_nil (by simpa using hc), List.filter_nil, List.nil_append, hRB] at hacc
    conv => whnf
    refine ⟨b + 1, by rw [wrap_eq (by omega) (by omega)], ?_⟩
    conv => whnf
    exact ⟨(s.hi.b + 1 - (b + 1)).toNat, by omega, b + 1, h, out, acc, by omega, by omega, rfl, h0, hn, hacc, hR, ho, rfl, ⟨rfl, rfl, rfl, rfl, rfl, trivial⟩, rfl, rfl, rfl, rfl⟩
  have hch : c ≤ s.hi.c := by rw [e5] at hc; simpa using hc
  rw [tC_cons hch, List.filter_cons] at hacc
  obtain ⟨t, ht⟩ : ∃ t : T3, t = ⟨a, b, c⟩ := ⟨_, rfl⟩
  rw [← ht] at hacc
  have htc : t ∈ combos s := by rw [mem_combos, ht]; exact ⟨⟨ha, hah⟩, ⟨hb, hbh⟩, ⟨hcl', hch⟩⟩
  have hg := valid_good hd htc
  have hdl : (dayOf s t).length ≤ s.sheep.length := day_len _ _ _
  have hrl := refL_len hdl
  obtain ⟨e, h2, cg, da, ra, GH, FG, rfl⟩ := goes_ret hv hd hg (H0 := h.push .dead (t3Blk t)) (o := h.n) (by rw [push_n]; omega) (at_push_self _ _)
  have gn : h.n + 1 ≤ h2.n := by have := FG.n; rw [push_n] at this; exact this
  have g0 : Heap.at h2 0 = v.blk := (FG.keep 0 (by rw [push_n]; omega) (fun x => x)).trans ((at_push_lt _ _ hn).trans h0)
  have gT : Heap.at h2 h.n = t3Blk t := (FG.keep h.n (by rw [push_n]; omega) (fun x => x)).trans (at_push_self _ _)
  have gk : ∀ i, i < h.n → Heap.at h2 i = Heap.at h i := fun i hi => (FG.keep i (by rw [push_n]; omega) (fun x => x)).trans (at_push_lt _ _ hi)
  have hR2 : RowsS 3 h2 out (acc.map (rowTr s)) := hR.ext (by omega) gk
  have od := GH.od
  have orr := GH.or'
  rw [push_n] at od orr
  have hok : okR s set t = rightF (doneR s t) set s.looks 0 := rfl
  have haccl : acc.length ≤ 125 := by have := congrArg List.length hacc; rw [List.length_append] at this; omega
  have hxl : ((acc.map (rowTr s))).length + 1 ≤ limit := by rw [List.length_map]; unfold limit; omega
  have hra : ∀ h' : Heap, h2.n ≤ h'.n → (∀ i, i < h2.n → Heap.at h' i = Heap.at h2 i) → RowsL 1 h' da ((doneR s t).map row1) ∧ RowsL 1 h' ra ((runR s t).map row1) := fun h' k1 k2 => ⟨GH.rd.ext k1 (fun i hi _ => k2 i hi), GH.rr.ext k1 (fun i hi _ => k2 i hi)⟩
  have hgs := GH.shapes
  have holt := hR.lt
  have hhold : ∀ h' : Heap, h2.n ≤ h'.n → (∀ i, i < h2.n → Heap.at h' i = Heap.at h2 i) → Holds' h' [.msl h.n 1 0 3 3, da, ra] (rowTr s t) (fun i => outId out ≠ some i) := by
    intro h' k1 k2
    obtain ⟨r1, r2⟩ := hra h' k1 k2
    have w1 := Holds'.rows (h := h') (a := .msl h.n 1 0 3 3) (rows := [t.a, t.b, t.c].map row1) (.inr ⟨h.n, rfl, (k2 h.n (by omega)).trans gT, by omega, by simp⟩) (by intro e; cases e) (W := fun i => outId out ≠ some i) (fun o he => by cases he; intro e; have := holt _ e; omega)
    have w2 := holds_ints r1 (W := fun i => outId out ≠ some i) (fun o he => by have := od o he; intro e; have := holt _ e; omega)
    have w3 := holds_ints r2 (W := fun i => outId out ≠ some i) (fun o he => by have := (orr o he).1; intro e; have := holt _ e; omega)
    exact w1.app (w2.app w3)
  have hap := fun (h' : Heap) (k1 : h2.n ≤ h'.n) (k2 : ∀ i, i < h2.n → Heap.at h' i = Heap.at h2 i) (hc : [AV.msl h.n 1 0 3 3, da, ra].all AV.cellish = true) => rowsS_append (P := Try.prog) (row := rowTr s t) (t := 91) (u := 91) (hR2.ext (h' := h') k1 k2) U91 U91 rfl S95 rfl (hhold h' k1 k2) hc hxl
  clear GH FG hhold
  conv => whnf
  refine ⟨_, (at_push_lt _ _ hn).trans h0, ?_⟩
  conv => whnf
  rcases hgs with ⟨rfl, rfl, _⟩ | ⟨i1, m1, i2, m2, rfl, rfl⟩
  all_goals
    subst ht
    refine .inl _ h2 .no cg ?_
    conv => whnf
    clear cg
    refine ⟨_, at_push_self _ _, ?_⟩
    conv => whnf
    refine ⟨_, (at_old _ _ _ (by omega)).trans g0, ?_⟩
    conv => whnf
    refine ⟨_, at_new _ _ _, ?_⟩
    conv => whnf
    have kB : ∀ (x y : AB) (i : Nat), i < h2.n → Heap.at ((h2.push .dead x).set .dead h2.n y) i = Heap.at h2 i := fun x y i hi => at_old _ _ _ hi
    have nB : ∀ (x y : AB), ((h2.push .dead x).set .dead h2.n y).n = h2.n + 1 := fun x y => by rw [new_n]
    have RR := fun (x y : AB) => hra ((h2.push .dead x).set .dead h2.n y) (by rw [nB]; omega) (kB x y)
    refine callR (RR _ _).1 (RR _ _).2 (by unfold doneR runR; rw [List.length_map, List.length_map]) (right_ret hv h4 (D := doneR s _) (R := runR s _) (by unfold doneR; rw [List.length_map, hrl]; omega) hset) rfl ?_
    conv => whnf
    rw [← hok]
    have hR3 := fun (x y : AB) => hR2.ext (h' := (h2.push .dead x).set .dead h2.n y) (by rw [nB]; omega) (kB x y)
    cases ho2 : okR s set ⟨a, b, c⟩
    · rw [ho2, if_neg (by simp)] at hacc
      conv => whnf
      refine ⟨c + 1, by rw [wrap_eq (by omega) (by omega)], ?_⟩
      conv => whnf
      exact ⟨(s.hi.c + 1 - (c + 1)).toNat, by omega, c + 1, _, out, acc, by omega, by omega, rfl, (kB _ _ 0 (by omega)).trans g0, by rw [nB]; omega, hacc, hR3 _ _, ho, rfl, ⟨rfl, rfl, rfl, rfl, rfl, rfl, trivial⟩, rfl, rfl, rfl, rfl⟩
    rw [ho2, if_pos rfl] at hacc
    rcases (hR3 (.blk []) (.blk [])).shape with rfl | ⟨o, m, rfl⟩
    all_goals
      obtain ⟨rr, hrr, hR', hold, hn', hfresh⟩ := hap ((h2.push .dead (.blk [AV.lit (.slice none 0 0), AV.lit (.slice none 0 0)])).set .dead h2.n (two _ _)) (by rw [nB]; omega) (kB _ _) rfl
      obtain ⟨rv, rreads, rupds, rfresh⟩ := rr
      have hold0 := (hold 0 (by rw [nB]; omega) (fun e => absurd (ho _ e) (by omega))).trans ((kB _ _ 0 (by omega)).trans g0)
      rw [nB] at hn' hfresh
      rcases hR' with ⟨_, hh⟩ | ⟨o', cells', ho', hb', hcl'', hH', hlt', hne'⟩
      · exact absurd hh (by simp)
      simp only at ho'
      subst ho'
      conv => whnf
      refine ⟨_, at_new _ _ _, ?_⟩
      conv => whnf
      refine ⟨_, hrr, ?_⟩
      conv => whnf
      refine ⟨c + 1, by rw [wrap_eq (by omega) (by omega)], ?_⟩
      conv => whnf
      have hRn : RowsS 3 _ (.msl o' 3 0 _ _) _ := .inr ⟨o', cells', rfl, hb', hcl'', hH', hlt', hne'⟩
      exact ⟨(s.hi.c + 1 - (c + 1)).toNat, by omega, c + 1, _, _, acc ++ [⟨a, b, c⟩], by omega, by omega, rfl, hold0, by exact Nat.lt_of_lt_of_le (by omega) hn', by rw [hacc]; simp, by rw [List.map_append]; exact hRn, fun o2 he => by have := hfresh o2 he; omega, rfl, ⟨rfl, rfl, rfl, rfl, rfl, rfl, trivial⟩, rfl, rfl, rfl, rfl⟩
end Go.Ag
/- Layer 4: the reference's truths are the truths. -/
namespace Go.Ag
open Go.Proofs
set_option maxRecDepth 100000

theorem rightF_sel (D : List Int) (set : Nat) : ∀ (L : List Lk) (i : Nat), rightF D set L i = (sel set L i).all fun l => inB (cntF D l.minute) l.lo l.hi
  | [], i => rfl
  | l :: L, i => by
    rw [rightF_cons, rightF_sel D set L (i + 1), sel]
    cases set.testBit i
    · simp
    · simp
theorem doneR_cnt {s : Sd} {t : T3} {m : Int} (hm : m < 1000) : (cntF (doneR s t) m : Int) = Me.of (dayOf s t) (.doneBy m) := by
  have e : doneR s t = (dayOf s t).map (·.done) ++ List.replicate (s.sheep.length - (dayOf s t).length) 1000 := by
    unfold doneR refL
    rw [List.map_append, List.map_map, List.map_replicate]
    rfl
  rw [e]
  unfold cntF
  rw [List.filter_append, List.length_append]
  have h1 : (List.replicate (s.sheep.length - (dayOf s t).length) (1000 : Int)).filter (fun x => decide (x ≤ m)) = [] := by
    rw [List.filter_eq_nil_iff]
    intro x hx
    rw [List.eq_of_mem_replicate hx]
    simp; omega
  rw [h1, List.filter_map, List.length_map]
  simp only [Me.of, List.countP_eq_length_filter, List.length_nil, Nat.add_zero]
  rfl
theorem okR_fits {s : Sd} (hd : validB s = true) (set : Nat) (t : T3) : okR s set t = fits s (onlyL s.looks set) t := by
  unfold okR fits onlyL
  rw [rightF_sel]
  rw [Bool.eq_iff_iff, List.all_eq_true, List.all_eq_true]
  have key : ∀ l ∈ sel set s.looks 0, inB (cntF (doneR s t) l.minute) l.lo l.hi = agrees (dayOf s t) l := fun l hl => by
    have := look_of hd (sel_mem set _ _ l hl)
    unfold agrees
    rw [doneR_cnt (by omega)]
  exact ⟨fun h l hl => by rw [← key l hl]; exact h l hl, fun h l hl => by rw [key l hl]; exact h l hl⟩
theorem truthsR_eq {s : Sd} (hd : validB s = true) (set : Nat) : truthsR s set = truthsS s (onlyL s.looks set) := by
  unfold truthsR truthsS
  congr 1
  funext t
  exact okR_fits hd set t
theorem sel_full (set : Nat) : ∀ (L : List Lk) (i : Nat), (∀ j, j < L.length → set.testBit (i + j) = true) → sel set L i = L
  | [], i, _ => rfl
  | l :: L, i, h => by
    have h0 := h 0 (by simp)
    rw [Nat.add_zero] at h0
    rw [sel, if_pos h0, sel_full set L (i + 1) fun j hj => by have := h (j + 1) (by simpa using hj); rw [show i + 1 + j = i + (j + 1) by omega]; exact this]
theorem onlyL_full (L : List Lk) : onlyL L (2 ^ L.length - 1) = L := by
  refine sel_full _ L 0 fun j hj => ?_
  rw [Nat.zero_add, Nat.testBit_two_pow_sub_one]
  simpa using hj
theorem truthsR_all {s : Sd} (hd : validB s = true) : truthsR s (2 ^ s.looks.length - 1) = truths s := by
  rw [truthsR_eq hd, onlyL_full]; rfl

/-- All truths, or why there are none. -/
def toldRV (s : Sd) (ok : Bool) : CV :=
  if validB s = false then .tuple [nilC, I 1] else if ok = false then .tuple [nilC, I 2] else if truths s = [] then .tuple [nilC, I 10] else .tuple [trC s (truths s), I 0]
theorem told52_ret {v : SV} {s : Sd} (hv : v.Is s) (ok : Bool) : Ret Try.prog 52 [v.cv, B ok] (toldRV s ok) := by
  unfold toldRV
  refine ret_by (hm := true) Try.func52 rfl ?_
  conv => whnf
  refine .ret (ref_ret hv) rfl ?_
  conv => whnf
  cases hd : validB s
  · conv => whnf
    exact .val
  cases ok
  · conv => whnf
    exact .val
  have h4 := valid_looks hd
  have hp : 2 ^ s.looks.length ≤ 2 ^ 4 := Nat.pow_le_pow_right (by omega) h4
  have hT := truths72_ret hv hd (set := 2 ^ s.looks.length - 1) (by omega)
  rw [truthsR_all hd] at hT
  rw [if_neg (by simp), if_neg (by simp)]
  conv => whnf
  refine draw_by (hm := true) (by kernel_rfl) (by kernel_rfl) ?_
  conv => whnf
  refine .pure _ _ rfl (every_ret hv h4) ?_
  conv => whnf
  refine .pure _ _ rfl hT ?_
  conv => whnf
  refine ⟨by kernel_rfl, ?_⟩
  conv => whnf
  cases hz : (((truths s).length : Int) == 0)
  · have hne : truths s ≠ [] := fun e => by rw [e] at hz; simp at hz
    rw [if_neg hne]
    conv => whnf
    exact .val
  · have he : truths s = [] := List.length_eq_zero_iff.1 (by simpa using hz)
    rw [if_pos he]
    conv => whnf
    exact .val
end Go.Ag
/- Layer 4: what the reference returns of its truths. -/
namespace Go.Ag
open Go.Proofs
set_option maxRecDepth 100000

theorem rvC26 (cells : List CV) (off : Nat) : readVarC Try.prog 26 cells off = cells[off]? := rfl
theorem rvC82 (cells : List CV) (off : Nat) : readVarC Try.prog 82 cells off = (sliceOf cells off 2).map .agg := rfl
theorem tr_get (s : Sd) : ∀ (L : List T3) (i k : Nat), k < 3 → (L.map (rowTr s)).flatten[i * 3 + k]? = L[i]?.bind fun t => (rowTr s t)[k]?
  | [], i, k, _ => by simp
  | t :: L, 0, k, hk => by
    rw [List.map_cons, List.flatten_cons, List.getElem?_append_left (by show 0 * 3 + k < 3; omega)]
    simp
  | t :: L, i + 1, k, hk => by
    rw [List.map_cons, List.flatten_cons, List.getElem?_append_right (by show 3 ≤ (i + 1) * 3 + k; omega), show (i + 1) * 3 + k - (rowTr s t).length = i * 3 + k by show (i + 1) * 3 + k - 3 = _; omega, tr_get s L i k hk]
    simp
theorem tr_takes {s : Sd} {L : List T3} {i : Nat} {t : T3} (h : L[i]? = some t) : readVarC Try.prog 26 (L.map (rowTr s)).flatten (0 + (i : Int).toNat * 3 + 0) = some (.sl [I t.a, I t.b, I t.c] 0 3) := by
  rw [rvC26, show 0 + (i : Int).toNat * 3 + 0 = i * 3 + 0 by omega, tr_get s L i 0 (by omega), h]; rfl
theorem tr_done {s : Sd} {L : List T3} {i : Nat} {t : T3} (h : L[i]? = some t) : readVarC Try.prog 26 (L.map (rowTr s)).flatten (0 + (i : Int).toNat * 3 + 1 + 0) = some (slC (doneR s t)) := by
  rw [rvC26, show 0 + (i : Int).toNat * 3 + 1 + 0 = i * 3 + 1 by omega, tr_get s L i 1 (by omega), h]; rfl
theorem tr_day {s : Sd} {L : List T3} {i : Nat} {t : T3} (h : L[i]? = some t) : readVarC Try.prog 82 (L.map (rowTr s)).flatten (0 + (i : Int).toNat * 3 + 1) = some (.agg [slC (doneR s t), slC (runR s t)]) := by
  have h1 := tr_get s L i 1 (by omega)
  have h2 := tr_get s L i 2 (by omega)
  rw [h] at h1 h2
  have h1 : (L.map (rowTr s)).flatten[i * 3 + 1]? = some (slC (doneR s t)) := h1
  have h2 : (L.map (rowTr s)).flatten[i * 3 + 1 + 1]? = some (slC (runR s t)) := h2
  rw [rvC82, show 0 + (i : Int).toNat * 3 + 1 = i * 3 + 1 by omega]
  generalize (L.map (rowTr s)).flatten = F at h1 h2
  have e1 := drop_get h1
  have e2 := drop_get h2
  unfold sliceOf
  rw [e1, e2]
  rfl

theorem spanS_of {s : Sd} {f : T3 → Int} {L : List T3} (h : truths s = L) : spanS s f = hullF (L.map f) := by rw [← h]; rfl

theorem refL_done (s : Sd) (t : T3) : doneR s t = (dayOf s t).map (·.done) ++ List.replicate (s.sheep.length - (dayOf s t).length) 1000 := by
  unfold doneR refL
  rw [List.map_append, List.map_map, List.map_replicate]
  rfl
theorem doneR_len {s : Sd} {t : T3} : (doneR s t).length = s.sheep.length := by
  unfold doneR; rw [List.length_map]; exact refL_len (day_len _ _ _)
theorem doneR_at {s : Sd} {t : T3} {i : Nat} (hi : i < s.sheep.length) : (doneR s t)[i]? = some (Me.of (dayOf s t) (.doneAt i)) := by
  have hdl : (dayOf s t).length ≤ s.sheep.length := day_len _ _ _
  rw [refL_done]
  cases hx : (dayOf s t)[i]? with
  | some x =>
    have hi2 : i < (dayOf s t).length := (List.getElem?_eq_some_iff.1 hx).1
    rw [List.getElem?_append_left (by rw [List.length_map]; exact hi2), List.getElem?_map, hx]
    simp only [Me.of, hx, Option.map_some]
  | none =>
    have hi2 : (dayOf s t).length ≤ i := List.getElem?_eq_none_iff.1 hx
    rw [List.getElem?_append_right (by rw [List.length_map]; exact hi2), List.getElem?_replicate, if_pos (by rw [List.length_map]; omega)]
    simp only [Me.of, hx]
theorem doneR_ne {s : Sd} {t : T3} (h : 0 < s.sheep.length) : doneR s t ≠ [] := fun e => by
  have := doneR_len (s := s) (t := t)
  rw [e] at this
  simp at this
  omega
theorem refP_le {s : Sd} {t : T3} : (CV.agg [slC (doneR s t), slC (runR s t)]).Le (refP (refL s t)) := by
  refine .agg ⟨?_, ?_, trivial⟩
  · have := slC_le (doneR s t)
    rw [show (doneR s t).length = (refL s t).length by unfold doneR; rw [List.length_map]] at this
    exact this
  · have := slC_le (runR s t)
    rw [show (runR s t).length = (refL s t).length by unfold runR; rw [List.length_map]] at this
    exact this
theorem refC_le {s : Sd} {t : T3} : (CV.agg [slC (doneR s t), slC (runR s t)]).Le (refC (doneR s t) (runR s t)) := .agg ⟨slC_le _, slC_le _, trivial⟩

theorem ofR_day {s : Sd} {t : T3} (k : Nat) : ofR k (refL s t) = (inRuns k k (dayOf s t)).map (·.done) := by
  unfold ofR refL inRuns
  rw [List.filter_append, List.map_append]
  have h1 : (List.replicate (s.sheep.length - (dayOf s t).length) ((-1 : Int), (1000 : Int))).filter (fun p => p.1 == (k : Int)) = [] := by
    rw [List.filter_eq_nil_iff]
    intro x hx
    rw [List.eq_of_mem_replicate hx]
    simp <;> omega
  rw [h1, List.map_nil, List.append_nil, List.filter_map, List.map_map]
  have h2 : ((fun p : Int × Int => p.1 == (k : Int)) ∘ pairOf) = fun x : Sh => inB x.run k k := by
    funext x
    simp only [Function.comp_apply, pairOf, inB]
    rw [Bool.eq_iff_iff]
    simp <;> omega
  rw [h2]
  rfl
theorem refL_le {s : Sd} {t : T3} : (refL s t).length = s.sheep.length := refL_len (day_len _ _ _)

set_option maxHeartbeats 4000000 in
theorem ref15_ret {v : SV} {s : Sd} (hv : v.Is s) (n : Int) : Ret Try.prog 15 [v.cv, I n] (spV (spR s (inB n 0 (s.sheep.length - 1)) (spanM s (.doneAt n.toNat)))) := by
  have e1 := hv.kn; have e2 := hv.short; have e3 := hv.rn
  have hT := told52_ret hv (inB n 0 (s.sheep.length - 1))
  unfold toldRV at hT
  unfold spR
  refine ret_by (hm := false) Try.func15 rfl ?_
  conv => whnf
  refine draw_by (hm := false) (by kernel_rfl) (by kernel_rfl) ?_
  conv => whnf
  refine ⟨v.blk, rfl, ?_⟩
  conv => whnf
  refine ⟨v.blk, rfl, ?_⟩
  conv => whnf
  refine .pure _ _ rfl (sheepT_ret hv n) ?_
  conv => whnf
  cases hd : validB s
  · rw [hd, if_pos rfl] at hT
    rw [if_pos rfl]
    refine .pure _ _ rfl hT ?_
    conv => whnf
    refine ⟨by kernel_rfl, ?_⟩
    conv => whnf
    refine ⟨_, rfl, ?_⟩
    conv => whnf
    refine ⟨_, rfl, ?_⟩
    conv => whnf
    exact .val
  rw [hd, if_neg (by simp)] at hT
  rw [if_neg (by simp)]
  cases hok : inB n 0 (s.sheep.length - 1)
  · rw [hok, if_pos rfl] at hT
    rw [if_pos rfl]
    refine .pure _ _ rfl hT ?_
    conv => whnf
    refine ⟨by kernel_rfl, ?_⟩
    conv => whnf
    refine ⟨_, rfl, ?_⟩
    conv => whnf
    refine ⟨_, rfl, ?_⟩
    conv => whnf
    exact .val
  rw [hok, if_neg (by simp)] at hT
  rw [if_neg (by simp)]
  obtain ⟨k, hkn, hk⟩ := inB_nat hok
  rw [show n.toNat = k by omega]
  obtain ⟨f, hf⟩ : ∃ f : T3 → Int, f = fun t => Me.of (dayOf s t) (.doneAt k) := ⟨_, rfl⟩
  obtain ⟨L, hL⟩ : ∃ L, truths s = L := ⟨_, rfl⟩
  rw [hL] at hT
  have hsp : spanM s (.doneAt k) = hullF (L.map f) := by rw [hf]; exact spanS_of hL
  rw [hsp]
  by_cases hne : L = []
  · rw [if_pos hne] at hT
    rw [hne]
    refine .pure _ _ rfl hT ?_
    conv => whnf
    refine ⟨by kernel_rfl, ?_⟩
    conv => whnf
    refine ⟨_, rfl, ?_⟩
    conv => whnf
    refine ⟨_, rfl, ?_⟩
    conv => whnf
    exact .val
  rw [if_neg hne] at hT
  have hLl : L.length ≤ 125 := by rw [← hL]; exact Nat.le_trans (List.length_filter_le ..) (combos_len hd)
  have hLv : ∀ t ∈ L, Good s t := fun t ht => by rw [← hL] at ht; exact truth_good hd ht
  refine .pure _ _ rfl hT ?_
  conv => whnf
  refine ⟨by kernel_rfl, ?_⟩
  conv => whnf
  refine loop_op (I := fun m st => ∃ (i : Nat) (h : Heap) (out : AV), i ≤ L.length ∧ m = L.length - i ∧ Heap.at h 0 = v.blk ∧ (∃ c, Heap.at h 1 = .blk c ∧ c.length = 2) ∧ 1 < h.n ∧ RowsL 1 h out (((L.take i).map f).map row1) ∧ (∀ o, outId out = some o → 1 < o) ∧
      Has st 42 [(1, .c (I n)), (2, .ptr 0 0), (4, .ptr 1 0), (6, .c (trC s L)), (8, out), (9, .c (I i))] [] none h) ?_ (k := L.length)
    ⟨0, _, nilA, Nat.zero_le _, rfl, rfl, ⟨_, rfl, rfl⟩, (by exact Nat.lt_succ_self 1), .inl ⟨rfl, rfl⟩, (fun o ho => by cases ho), rfl, ⟨rfl, rfl, rfl, rfl, rfl, rfl, trivial⟩, rfl, rfl, rfl, rfl⟩
  rintro m st ⟨i, h, out, hi, rfl, h0, h1, hn, hR, ho, hs1⟩ K1 hK1
  refine hs1.run (hm := false) ?_
  conv => whnf
  cases hc : decide ((i : Int) < (L.length : Int))
  case true =>
    have hi2 : i < L.length := by simp at hc; omega
    obtain ⟨t, ht⟩ := get_some hi2
    have hgt := hLv t (List.mem_of_getElem? ht)
    have hlim : (((L.take i).map f).map row1).length + 1 ≤ limit := by rw [List.length_map, List.length_map, List.length_take]; unfold limit; omega
    have htk : ((L.take (i + 1)).map f).map row1 = ((L.take i).map f).map row1 ++ [row1 (f t)] := by rw [List.take_add_one, ht, Option.toList_some, List.map_append, List.map_append]; rfl
    obtain ⟨rr, hrr, hR', hold, hn', hfresh⟩ := rows_append (row := row1 (f t)) (t := 26) (u := 26) hR U26 U26 rfl S3 rfl row1_len rfl hlim
    obtain ⟨rv, rreads, rupds, rfresh⟩ := rr
    have hA0 := (hold 0 (by omega) (fun e => absurd (ho _ e) (by omega))).trans h0
    obtain ⟨c, h1, hc2⟩ := h1
    have hA1 := (hold 1 hn (fun e => absurd (ho _ e) (by omega))).trans h1
    rcases hR' with ⟨_, hh⟩ | ⟨o', ho', hb', hlt', hne'⟩
    · exact absurd hh (by simp)
    simp only at ho'
    subst ho'
    have hRn : RowsL 1 _ (.msl o' 1 0 _ _) _ := .inr ⟨o', rfl, hb', hlt', hne'⟩
    rcases hR.shape with rfl | ⟨o, k', rfl⟩
    all_goals
      have hft : (doneR s t)[k]? = some (f t) := by rw [hf]; exact doneR_at hk
      have hdl := doneR_len (s := s) (t := t)
      conv => whnf
      refine ⟨⟨by omega, by omega⟩, ?_⟩
      conv => whnf
      refine ⟨_, (tr_done ht).trans (congrArg some (slC_ne (doneR_ne (by omega)))), ?_⟩
      conv => whnf
      refine ⟨⟨by omega, by omega⟩, ?_⟩
      conv => whnf
      refine ⟨_, (by rw [hkn]; exact read_ints hft), ?_⟩
      conv => whnf
      refine ⟨_, hrr, ?_⟩
      conv => whnf
      refine ⟨((i + 1 : Nat) : Int), by rw [wrap_eq (by omega) (by omega)]; omega, ?_⟩
      conv => whnf
      exact ⟨L.length - (i + 1), by omega, i + 1, _, _, hi2, rfl, hA0, ⟨c, hA1, hc2⟩, Nat.lt_of_lt_of_le hn hn', by rw [htk]; exact hRn, fun o2 he => by have := hfresh o2 he; omega, rfl, ⟨rfl, rfl, rfl, rfl, rfl, rfl, trivial⟩, rfl, rfl, rfl, rfl⟩
  have hie : i = L.length := by simp at hc; omega
  subst hK1
  rw [hie, List.take_length] at hR
  obtain ⟨x, l, hxl⟩ : ∃ x l, L.map f = x :: l := by
    cases hm : L.map f with
    | nil => exact absurd (List.map_eq_nil_iff.1 hm) hne
    | cons x l => exact ⟨x, l, rfl⟩
  have hll : l.length ≤ 1000 := by have := congrArg List.length hxl; rw [List.length_map, List.length_cons] at this; omega
  rcases hR.shape with rfl | ⟨o, k', rfl⟩
  · have := hR.nils
    rw [this] at hxl
    cases hxl
  · obtain ⟨hk1, hk2⟩ := hR.ints
    obtain ⟨c, h1, hc2⟩ := h1
    obtain ⟨c0, c1, rfl⟩ : ∃ c0 c1, c = [c0, c1] := by
      match c, hc2 with
      | [c0, c1], _ => exact ⟨c0, c1, rfl⟩
    have hh := hull_ret (L := L.map f) hxl hll
    rw [← hk1] at hh
    rw [hxl]
    conv => whnf
    refine CallW.msl hk2 hh rfl ?_
    conv => whnf
    refine ⟨_, h1, ?_⟩
    conv => whnf
    refine ⟨_, at_set_self _ _ hn, ?_⟩
    conv => whnf
    exact .val

set_option maxHeartbeats 4000000 in
theorem ref17_ret {v : SV} {s : Sd} (hv : v.Is s) (n : Int) : Ret Try.prog 17 [v.cv, I n] (spV (spR s (inB n 0 999) (spanM s (.doneBy n)))) := by
  have e1 := hv.kn; have e2 := hv.short; have e3 := hv.rn
  have hT := told52_ret hv (inB n 0 999)
  unfold toldRV at hT
  unfold spR
  refine ret_by (hm := false) Try.func17 rfl ?_
  conv => whnf
  refine draw_by (hm := false) (by kernel_rfl) (by kernel_rfl) ?_
  conv => whnf
  refine ⟨v.blk, rfl, ?_⟩
  conv => whnf
  refine .pure _ _ rfl (minuteT_ret n) ?_
  conv => whnf
  cases hd : validB s
  · rw [hd, if_pos rfl] at hT
    rw [if_pos rfl]
    refine .pure _ _ rfl hT ?_
    conv => whnf
    refine ⟨by kernel_rfl, ?_⟩
    conv => whnf
    refine ⟨_, rfl, ?_⟩
    conv => whnf
    refine ⟨_, rfl, ?_⟩
    conv => whnf
    exact .val
  rw [hd, if_neg (by simp)] at hT
  rw [if_neg (by simp)]
  cases hok : inB n 0 999
  · rw [hok, if_pos rfl] at hT
    rw [if_pos rfl]
    refine .pure _ _ rfl hT ?_
    conv => whnf
    refine ⟨by kernel_rfl, ?_⟩
    conv => whnf
    refine ⟨_, rfl, ?_⟩
    conv => whnf
    refine ⟨_, rfl, ?_⟩
    conv => whnf
    exact .val
  rw [hok, if_neg (by simp)] at hT
  rw [if_neg (by simp)]
  have hn9 : n < 1000 := by simp only [inB, Bool.and_eq_true, decide_eq_true_eq] at hok; omega
  obtain ⟨f, hf⟩ : ∃ f : T3 → Int, f = fun t => Me.of (dayOf s t) (.doneBy n) := ⟨_, rfl⟩
  obtain ⟨L, hL⟩ : ∃ L, truths s = L := ⟨_, rfl⟩
  rw [hL] at hT
  have hsp : spanM s (.doneBy n) = hullF (L.map f) := by rw [hf]; exact spanS_of hL
  rw [hsp]
  by_cases hne : L = []
  · rw [if_pos hne] at hT
    rw [hne]
    refine .pure _ _ rfl hT ?_
    conv => whnf
    refine ⟨by kernel_rfl, ?_⟩
    conv => whnf
    refine ⟨_, rfl, ?_⟩
    conv => whnf
    refine ⟨_, rfl, ?_⟩
    conv => whnf
    exact .val
  rw [if_neg hne] at hT
  have hLl : L.length ≤ 125 := by rw [← hL]; exact Nat.le_trans (List.length_filter_le ..) (combos_len hd)
  have hLv : ∀ t ∈ L, Good s t := fun t ht => by rw [← hL] at ht; exact truth_good hd ht
  refine .pure _ _ rfl hT ?_
  conv => whnf
  refine ⟨by kernel_rfl, ?_⟩
  conv => whnf
  refine loop_op (I := fun m st => ∃ (i : Nat) (h : Heap) (out : AV), i ≤ L.length ∧ m = L.length - i ∧ Heap.at h 0 = v.blk ∧ (∃ c, Heap.at h 1 = .blk c ∧ c.length = 2) ∧ 1 < h.n ∧ RowsL 1 h out (((L.take i).map f).map row1) ∧ (∀ o, outId out = some o → 1 < o) ∧
      Has st 39 [(1, .c (I n)), (2, .ptr 0 0), (4, .ptr 1 0), (6, .c (trC s L)), (8, out), (9, .c (I i))] [] none h) ?_ (k := L.length)
    ⟨0, _, nilA, Nat.zero_le _, rfl, rfl, ⟨_, rfl, rfl⟩, (by exact Nat.lt_succ_self 1), .inl ⟨rfl, rfl⟩, (fun o ho => by cases ho), rfl, ⟨rfl, rfl, rfl, rfl, rfl, rfl, trivial⟩, rfl, rfl, rfl, rfl⟩
  rintro m st ⟨i, h, out, hi, rfl, h0, h1, hn, hR, ho, hs1⟩ K1 hK1
  refine hs1.run (hm := false) ?_
  conv => whnf
  cases hc : decide ((i : Int) < (L.length : Int))
  case true =>
    have hi2 : i < L.length := by simp at hc; omega
    obtain ⟨t, ht⟩ := get_some hi2
    have hgt := hLv t (List.mem_of_getElem? ht)
    have hlim : (((L.take i).map f).map row1).length + 1 ≤ limit := by rw [List.length_map, List.length_map, List.length_take]; unfold limit; omega
    have htk : ((L.take (i + 1)).map f).map row1 = ((L.take i).map f).map row1 ++ [row1 (f t)] := by rw [List.take_add_one, ht, Option.toList_some, List.map_append, List.map_append]; rfl
    obtain ⟨rr, hrr, hR', hold, hn', hfresh⟩ := rows_append (row := row1 (f t)) (t := 26) (u := 26) hR U26 U26 rfl S3 rfl row1_len rfl hlim
    obtain ⟨rv, rreads, rupds, rfresh⟩ := rr
    have hA0 := (hold 0 (by omega) (fun e => absurd (ho _ e) (by omega))).trans h0
    obtain ⟨c, h1, hc2⟩ := h1
    have hA1 := (hold 1 hn (fun e => absurd (ho _ e) (by omega))).trans h1
    rcases hR' with ⟨_, hh⟩ | ⟨o', ho', hb', hlt', hne'⟩
    · exact absurd hh (by simp)
    simp only at ho'
    subst ho'
    have hRn : RowsL 1 _ (.msl o' 1 0 _ _) _ := .inr ⟨o', rfl, hb', hlt', hne'⟩
    rcases hR.shape with rfl | ⟨o, k', rfl⟩
    all_goals
      have hdl := doneR_len (s := s) (t := t)
      have hq := (count56_ret (D := doneR s t) (R := runR s t) (by omega) n).args (args' := [.agg [slC (doneR s t), slC (runR s t)], I n]) ⟨refC_le, .refl _, trivial⟩
      rw [doneR_cnt hn9, show Me.of (dayOf s t) (.doneBy n) = f t by rw [hf]] at hq
      conv => whnf
      refine ⟨⟨by omega, by omega⟩, ?_⟩
      conv => whnf
      refine ⟨_, tr_day ht, ?_⟩
      conv => whnf
      refine .ret hq rfl ?_
      conv => whnf
      refine ⟨_, hrr, ?_⟩
      conv => whnf
      refine ⟨((i + 1 : Nat) : Int), by rw [wrap_eq (by omega) (by omega)]; omega, ?_⟩
      conv => whnf
      exact ⟨L.length - (i + 1), by omega, i + 1, _, _, hi2, rfl, hA0, ⟨c, hA1, hc2⟩, Nat.lt_of_lt_of_le hn hn', by rw [htk]; exact hRn, fun o2 he => by have := hfresh o2 he; omega, rfl, ⟨rfl, rfl, rfl, rfl, rfl, rfl, trivial⟩, rfl, rfl, rfl, rfl⟩
  have hie : i = L.length := by simp at hc; omega
  subst hK1
  rw [hie, List.take_length] at hR
  obtain ⟨x, l, hxl⟩ : ∃ x l, L.map f = x :: l := by
    cases hm : L.map f with
    | nil => exact absurd (List.map_eq_nil_iff.1 hm) hne
    | cons x l => exact ⟨x, l, rfl⟩
  have hll : l.length ≤ 1000 := by have := congrArg List.length hxl; rw [List.length_map, List.length_cons] at this; omega
  rcases hR.shape with rfl | ⟨o, k', rfl⟩
  · have := hR.nils
    rw [this] at hxl
    cases hxl
  · obtain ⟨hk1, hk2⟩ := hR.ints
    obtain ⟨c, h1, hc2⟩ := h1
    obtain ⟨c0, c1, rfl⟩ : ∃ c0 c1, c = [c0, c1] := by
      match c, hc2 with
      | [c0, c1], _ => exact ⟨c0, c1, rfl⟩
    have hh := hull_ret (L := L.map f) hxl hll
    rw [← hk1] at hh
    rw [hxl]
    conv => whnf
    refine CallW.msl hk2 hh rfl ?_
    conv => whnf
    refine ⟨_, h1, ?_⟩
    conv => whnf
    refine ⟨_, at_set_self _ _ hn, ?_⟩
    conv => whnf
    exact .val

set_option maxHeartbeats 4000000 in
theorem ref19_ret {v : SV} {s : Sd} (hv : v.Is s) (n : Int) : Ret Try.prog 19 [v.cv, I n] (spV (spR s (inB n 0 2) (spanT s n.toNat))) := by
  have e1 := hv.kn; have e2 := hv.short; have e3 := hv.rn
  have hT := told52_ret hv (inB n 0 2)
  unfold toldRV at hT
  unfold spR
  refine ret_by (hm := false) Try.func19 rfl ?_
  conv => whnf
  refine draw_by (hm := false) (by kernel_rfl) (by kernel_rfl) ?_
  conv => whnf
  refine ⟨v.blk, rfl, ?_⟩
  conv => whnf
  refine .pure _ _ rfl (kind_ret n) ?_
  conv => whnf
  cases hd : validB s
  · rw [hd, if_pos rfl] at hT
    rw [if_pos rfl]
    refine .pure _ _ rfl hT ?_
    conv => whnf
    refine ⟨by kernel_rfl, ?_⟩
    conv => whnf
    refine ⟨_, rfl, ?_⟩
    conv => whnf
    refine ⟨_, rfl, ?_⟩
    conv => whnf
    exact .val
  rw [hd, if_neg (by simp)] at hT
  rw [if_neg (by simp)]
  cases hok : inB n 0 2
  · rw [hok, if_pos rfl] at hT
    rw [if_pos rfl]
    refine .pure _ _ rfl hT ?_
    conv => whnf
    refine ⟨by kernel_rfl, ?_⟩
    conv => whnf
    refine ⟨_, rfl, ?_⟩
    conv => whnf
    refine ⟨_, rfl, ?_⟩
    conv => whnf
    exact .val
  rw [hok, if_neg (by simp)] at hT
  rw [if_neg (by simp)]
  obtain ⟨k, hkn, hk⟩ := inB_nat (k := 3) hok
  rw [show n.toNat = k by omega]
  obtain ⟨f, hf⟩ : ∃ f : T3 → Int, f = fun t => t.get k := ⟨_, rfl⟩
  obtain ⟨L, hL⟩ : ∃ L, truths s = L := ⟨_, rfl⟩
  rw [hL] at hT
  have hsp : spanT s k = hullF (L.map f) := by rw [hf]; exact spanS_of hL
  rw [hsp]
  by_cases hne : L = []
  · rw [if_pos hne] at hT
    rw [hne]
    refine .pure _ _ rfl hT ?_
    conv => whnf
    refine ⟨by kernel_rfl, ?_⟩
    conv => whnf
    refine ⟨_, rfl, ?_⟩
    conv => whnf
    refine ⟨_, rfl, ?_⟩
    conv => whnf
    exact .val
  rw [if_neg hne] at hT
  have hLl : L.length ≤ 125 := by rw [← hL]; exact Nat.le_trans (List.length_filter_le ..) (combos_len hd)
  have hLv : ∀ t ∈ L, Good s t := fun t ht => by rw [← hL] at ht; exact truth_good hd ht
  refine .pure _ _ rfl hT ?_
  conv => whnf
  refine ⟨by kernel_rfl, ?_⟩
  conv => whnf
  refine loop_op (I := fun m st => ∃ (i : Nat) (h : Heap) (out : AV), i ≤ L.length ∧ m = L.length - i ∧ Heap.at h 0 = v.blk ∧ (∃ c, Heap.at h 1 = .blk c ∧ c.length = 2) ∧ 1 < h.n ∧ RowsL 1 h out (((L.take i).map f).map row1) ∧ (∀ o, outId out = some o → 1 < o) ∧
      Has st 40 [(1, .c (I n)), (2, .ptr 0 0), (4, .ptr 1 0), (6, .c (trC s L)), (8, out), (9, .c (I i))] [] none h) ?_ (k := L.length)
    ⟨0, _, nilA, Nat.zero_le _, rfl, rfl, ⟨_, rfl, rfl⟩, (by exact Nat.lt_succ_self 1), .inl ⟨rfl, rfl⟩, (fun o ho => by cases ho), rfl, ⟨rfl, rfl, rfl, rfl, rfl, rfl, trivial⟩, rfl, rfl, rfl, rfl⟩
  rintro m st ⟨i, h, out, hi, rfl, h0, h1, hn, hR, ho, hs1⟩ K1 hK1
  refine hs1.run (hm := false) ?_
  conv => whnf
  cases hc : decide ((i : Int) < (L.length : Int))
  case true =>
    have hi2 : i < L.length := by simp at hc; omega
    obtain ⟨t, ht⟩ := get_some hi2
    have hgt := hLv t (List.mem_of_getElem? ht)
    have hlim : (((L.take i).map f).map row1).length + 1 ≤ limit := by rw [List.length_map, List.length_map, List.length_take]; unfold limit; omega
    have htk : ((L.take (i + 1)).map f).map row1 = ((L.take i).map f).map row1 ++ [row1 (f t)] := by rw [List.take_add_one, ht, Option.toList_some, List.map_append, List.map_append]; rfl
    obtain ⟨rr, hrr, hR', hold, hn', hfresh⟩ := rows_append (row := row1 (f t)) (t := 26) (u := 26) hR U26 U26 rfl S3 rfl row1_len rfl hlim
    obtain ⟨rv, rreads, rupds, rfresh⟩ := rr
    have hA0 := (hold 0 (by omega) (fun e => absurd (ho _ e) (by omega))).trans h0
    obtain ⟨c, h1, hc2⟩ := h1
    have hA1 := (hold 1 hn (fun e => absurd (ho _ e) (by omega))).trans h1
    rcases hR' with ⟨_, hh⟩ | ⟨o', ho', hb', hlt', hne'⟩
    · exact absurd hh (by simp)
    simp only at ho'
    subst ho'
    have hRn : RowsL 1 _ (.msl o' 1 0 _ _) _ := .inr ⟨o', rfl, hb', hlt', hne'⟩
    rcases hR.shape with rfl | ⟨o, k', rfl⟩
    all_goals
      have hval : readVarC Try.prog 3 [I t.a, I t.b, I t.c] (0 + n.toNat * 1) = some (I (f t)) := by
        rw [show n.toNat = k by omega, hf]
        obtain rfl | rfl | rfl : k = 0 ∨ k = 1 ∨ k = 2 := by omega
        all_goals rfl
      conv => whnf
      refine ⟨⟨by omega, by omega⟩, ?_⟩
      conv => whnf
      refine ⟨_, tr_takes ht, ?_⟩
      conv => whnf
      refine ⟨⟨by omega, by omega⟩, ?_⟩
      conv => whnf
      refine ⟨_, hval, ?_⟩
      conv => whnf
      refine ⟨_, hrr, ?_⟩
      conv => whnf
      refine ⟨((i + 1 : Nat) : Int), by rw [wrap_eq (by omega) (by omega)]; omega, ?_⟩
      conv => whnf
      exact ⟨L.length - (i + 1), by omega, i + 1, _, _, hi2, rfl, hA0, ⟨c, hA1, hc2⟩, Nat.lt_of_lt_of_le hn hn', by rw [htk]; exact hRn, fun o2 he => by have := hfresh o2 he; omega, rfl, ⟨rfl, rfl, rfl, rfl, rfl, rfl, trivial⟩, rfl, rfl, rfl, rfl⟩
  have hie : i = L.length := by simp at hc; omega
  subst hK1
  rw [hie, List.take_length] at hR
  obtain ⟨x, l, hxl⟩ : ∃ x l, L.map f = x :: l := by
    cases hm : L.map f with
    | nil => exact absurd (List.map_eq_nil_iff.1 hm) hne
    | cons x l => exact ⟨x, l, rfl⟩
  have hll : l.length ≤ 1000 := by have := congrArg List.length hxl; rw [List.length_map, List.length_cons] at this; omega
  rcases hR.shape with rfl | ⟨o, k', rfl⟩
  · have := hR.nils
    rw [this] at hxl
    cases hxl
  · obtain ⟨hk1, hk2⟩ := hR.ints
    obtain ⟨c, h1, hc2⟩ := h1
    obtain ⟨c0, c1, rfl⟩ : ∃ c0 c1, c = [c0, c1] := by
      match c, hc2 with
      | [c0, c1], _ => exact ⟨c0, c1, rfl⟩
    have hh := hull_ret (L := L.map f) hxl hll
    rw [← hk1] at hh
    rw [hxl]
    conv => whnf
    refine CallW.msl hk2 hh rfl ?_
    conv => whnf
    refine ⟨_, h1, ?_⟩
    conv => whnf
    refine ⟨_, at_set_self _ _ hn, ?_⟩
    conv => whnf
    exact .val

set_option maxHeartbeats 4000000 in
theorem ref21_ret {v : SV} {s : Sd} (hv : v.Is s) (n : Int) : Ret Try.prog 21 [v.cv, I n] (spV (spR s (inB n 0 (s.runs.length - 1)) (spanM s (.begun n n)))) := by
  have e1 := hv.kn; have e2 := hv.short; have e3 := hv.rn
  have hT := told52_ret hv (inB n 0 (s.runs.length - 1))
  unfold toldRV at hT
  unfold spR
  refine ret_by (hm := false) Try.func21 rfl ?_
  conv => whnf
  refine draw_by (hm := false) (by kernel_rfl) (by kernel_rfl) ?_
  conv => whnf
  refine ⟨v.blk, rfl, ?_⟩
  conv => whnf
  refine ⟨v.blk, rfl, ?_⟩
  conv => whnf
  refine .pure _ _ rfl (runT_ret hv n) ?_
  conv => whnf
  cases hd : validB s
  · rw [hd, if_pos rfl] at hT
    rw [if_pos rfl]
    refine .pure _ _ rfl hT ?_
    conv => whnf
    refine ⟨by kernel_rfl, ?_⟩
    conv => whnf
    refine ⟨_, rfl, ?_⟩
    conv => whnf
    refine ⟨_, rfl, ?_⟩
    conv => whnf
    exact .val
  rw [hd, if_neg (by simp)] at hT
  rw [if_neg (by simp)]
  cases hok : inB n 0 (s.runs.length - 1)
  · rw [hok, if_pos rfl] at hT
    rw [if_pos rfl]
    refine .pure _ _ rfl hT ?_
    conv => whnf
    refine ⟨by kernel_rfl, ?_⟩
    conv => whnf
    refine ⟨_, rfl, ?_⟩
    conv => whnf
    refine ⟨_, rfl, ?_⟩
    conv => whnf
    exact .val
  rw [hok, if_neg (by simp)] at hT
  rw [if_neg (by simp)]
  obtain ⟨k, hkn, hk⟩ := inB_nat hok
  obtain ⟨f, hf⟩ : ∃ f : T3 → Int, f = fun t => Me.of (dayOf s t) (.begun n n) := ⟨_, rfl⟩
  obtain ⟨L, hL⟩ : ∃ L, truths s = L := ⟨_, rfl⟩
  rw [hL] at hT
  have hsp : spanM s (.begun n n) = hullF (L.map f) := by rw [hf]; exact spanS_of hL
  rw [hsp]
  by_cases hne : L = []
  · rw [if_pos hne] at hT
    rw [hne]
    refine .pure _ _ rfl hT ?_
    conv => whnf
    refine ⟨by kernel_rfl, ?_⟩
    conv => whnf
    refine ⟨_, rfl, ?_⟩
    conv => whnf
    refine ⟨_, rfl, ?_⟩
    conv => whnf
    exact .val
  rw [if_neg hne] at hT
  have hLl : L.length ≤ 125 := by rw [← hL]; exact Nat.le_trans (List.length_filter_le ..) (combos_len hd)
  have hLv : ∀ t ∈ L, Good s t := fun t ht => by rw [← hL] at ht; exact truth_good hd ht
  refine .pure _ _ rfl hT ?_
  conv => whnf
  refine ⟨by kernel_rfl, ?_⟩
  conv => whnf
  refine loop_op (I := fun m st => ∃ (i : Nat) (h : Heap) (out : AV), i ≤ L.length ∧ m = L.length - i ∧ Heap.at h 0 = v.blk ∧ (∃ c, Heap.at h 1 = .blk c ∧ c.length = 2) ∧ 1 < h.n ∧ RowsL 1 h out (((L.take i).map f).map row1) ∧ (∀ o, outId out = some o → 1 < o) ∧
      Has st 46 [(1, .c (I n)), (2, .ptr 0 0), (4, .ptr 1 0), (6, .c (trC s L)), (8, out), (9, .c (I i))] [] none h) ?_ (k := L.length)
    ⟨0, _, nilA, Nat.zero_le _, rfl, rfl, ⟨_, rfl, rfl⟩, (by exact Nat.lt_succ_self 1), .inl ⟨rfl, rfl⟩, (fun o ho => by cases ho), rfl, ⟨rfl, rfl, rfl, rfl, rfl, rfl, trivial⟩, rfl, rfl, rfl, rfl⟩
  rintro m st ⟨i, h, out, hi, rfl, h0, h1, hn, hR, ho, hs1⟩ K1 hK1
  refine hs1.run (hm := false) ?_
  conv => whnf
  cases hc : decide ((i : Int) < (L.length : Int))
  case true =>
    have hi2 : i < L.length := by simp at hc; omega
    obtain ⟨t, ht⟩ := get_some hi2
    have hgt := hLv t (List.mem_of_getElem? ht)
    have hlim : (((L.take i).map f).map row1).length + 1 ≤ limit := by rw [List.length_map, List.length_map, List.length_take]; unfold limit; omega
    have htk : ((L.take (i + 1)).map f).map row1 = ((L.take i).map f).map row1 ++ [row1 (f t)] := by rw [List.take_add_one, ht, Option.toList_some, List.map_append, List.map_append]; rfl
    obtain ⟨rr, hrr, hR', hold, hn', hfresh⟩ := rows_append (row := row1 (f t)) (t := 26) (u := 26) hR U26 U26 rfl S3 rfl row1_len rfl hlim
    obtain ⟨rv, rreads, rupds, rfresh⟩ := rr
    have hA0 := (hold 0 (by omega) (fun e => absurd (ho _ e) (by omega))).trans h0
    obtain ⟨c, h1, hc2⟩ := h1
    have hA1 := (hold 1 hn (fun e => absurd (ho _ e) (by omega))).trans h1
    rcases hR' with ⟨_, hh⟩ | ⟨o', ho', hb', hlt', hne'⟩
    · exact absurd hh (by simp)
    simp only at ho'
    subst ho'
    have hRn : RowsL 1 _ (.msl o' 1 0 _ _) _ := .inr ⟨o', rfl, hb', hlt', hne'⟩
    rcases hR.shape with rfl | ⟨o, k', rfl⟩
    all_goals
      have hq := (begun67_ret (P := refL s t) (by rw [refL_le]; omega) n).args (args' := [.agg [slC (doneR s t), slC (runR s t)], I n]) ⟨refP_le, .refl _, trivial⟩
      have hlen : ((ofR n (refL s t)).length : Int) = f t := by rw [hkn, ofR_day, List.length_map, hf, hkn]; rfl
      rw [hlen] at hq
      conv => whnf
      refine ⟨⟨by omega, by omega⟩, ?_⟩
      conv => whnf
      refine ⟨_, tr_day ht, ?_⟩
      conv => whnf
      refine .ret hq rfl ?_
      conv => whnf
      refine ⟨_, hrr, ?_⟩
      conv => whnf
      refine ⟨((i + 1 : Nat) : Int), by rw [wrap_eq (by omega) (by omega)]; omega, ?_⟩
      conv => whnf
      exact ⟨L.length - (i + 1), by omega, i + 1, _, _, hi2, rfl, hA0, ⟨c, hA1, hc2⟩, Nat.lt_of_lt_of_le hn hn', by rw [htk]; exact hRn, fun o2 he => by have := hfresh o2 he; omega, rfl, ⟨rfl, rfl, rfl, rfl, rfl, rfl, trivial⟩, rfl, rfl, rfl, rfl⟩
  have hie : i = L.length := by simp at hc; omega
  subst hK1
  rw [hie, List.take_length] at hR
  obtain ⟨x, l, hxl⟩ : ∃ x l, L.map f = x :: l := by
    cases hm : L.map f with
    | nil => exact absurd (List.map_eq_nil_iff.1 hm) hne
    | cons x l => exact ⟨x, l, rfl⟩
  have hll : l.length ≤ 1000 := by have := congrArg List.length hxl; rw [List.length_map, List.length_cons] at this; omega
  rcases hR.shape with rfl | ⟨o, k', rfl⟩
  · have := hR.nils
    rw [this] at hxl
    cases hxl
  · obtain ⟨hk1, hk2⟩ := hR.ints
    obtain ⟨c, h1, hc2⟩ := h1
    obtain ⟨c0, c1, rfl⟩ : ∃ c0 c1, c = [c0, c1] := by
      match c, hc2 with
      | [c0, c1], _ => exact ⟨c0, c1, rfl⟩
    have hh := hull_ret (L := L.map f) hxl hll
    rw [← hk1] at hh
    rw [hxl]
    conv => whnf
    refine CallW.msl hk2 hh rfl ?_
    conv => whnf
    refine ⟨_, h1, ?_⟩
    conv => whnf
    refine ⟨_, at_set_self _ _ hn, ?_⟩
    conv => whnf
    exact .val

set_option maxHeartbeats 4000000 in
theorem ref23_ret {v : SV} {s : Sd} (hv : v.Is s) (n : Int) : Ret Try.prog 23 [v.cv, I n] (spV (spR s (inB n 0 (s.runs.length - 1)) (spanM s (.past n n (bellOf s n.toNat))))) := by
  have e1 := hv.kn; have e2 := hv.short; have e3 := hv.rn
  have hT := told52_ret hv (inB n 0 (s.runs.length - 1))
  unfold toldRV at hT
  unfold spR
  refine ret_by (hm := false) Try.func23 rfl ?_
  conv => whnf
  refine draw_by (hm := false) (by kernel_rfl) (by kernel_rfl) ?_
  conv => whnf
  refine ⟨v.blk, rfl, ?_⟩
  conv => whnf
  refine ⟨v.blk, rfl, ?_⟩
  conv => whnf
  refine .pure _ _ rfl (runT_ret hv n) ?_
  conv => whnf
  cases hd : validB s
  · rw [hd, if_pos rfl] at hT
    rw [if_pos rfl]
    refine .pure _ _ rfl hT ?_
    conv => whnf
    refine ⟨by kernel_rfl, ?_⟩
    conv => whnf
    refine ⟨_, rfl, ?_⟩
    conv => whnf
    refine ⟨_, rfl, ?_⟩
    conv => whnf
    exact .val
  rw [hd, if_neg (by simp)] at hT
  rw [if_neg (by simp)]
  cases hok : inB n 0 (s.runs.length - 1)
  · rw [hok, if_pos rfl] at hT
    rw [if_pos rfl]
    refine .pure _ _ rfl hT ?_
    conv => whnf
    refine ⟨by kernel_rfl, ?_⟩
    conv => whnf
    refine ⟨_, rfl, ?_⟩
    conv => whnf
    refine ⟨_, rfl, ?_⟩
    conv => whnf
    exact .val
  rw [hok, if_neg (by simp)] at hT
  rw [if_neg (by simp)]
  obtain ⟨k, hkn, hk⟩ := inB_nat hok
  obtain ⟨y, hy⟩ := get_some hk
  have hbell : bellOf s n.toNat = y.bell := by rw [show n.toNat = k by omega]; unfold bellOf; rw [hy]
  rw [hbell]
  have hyv := valid_run hd hy
  obtain ⟨f, hf⟩ : ∃ f : T3 → Int, f = fun t => Me.of (dayOf s t) (.past n n y.bell) := ⟨_, rfl⟩
  obtain ⟨L, hL⟩ : ∃ L, truths s = L := ⟨_, rfl⟩
  rw [hL] at hT
  have hsp : spanM s (.past n n y.bell) = hullF (L.map f) := by rw [hf]; exact spanS_of hL
  rw [hsp]
  by_cases hne : L = []
  · rw [if_pos hne] at hT
    rw [hne]
    refine .pure _ _ rfl hT ?_
    conv => whnf
    refine ⟨by kernel_rfl, ?_⟩
    conv => whnf
    refine ⟨_, rfl, ?_⟩
    conv => whnf
    refine ⟨_, rfl, ?_⟩
    conv => whnf
    exact .val
  rw [if_neg hne] at hT
  have hLl : L.length ≤ 125 := by rw [← hL]; exact Nat.le_trans (List.length_filter_le ..) (combos_len hd)
  have hLv : ∀ t ∈ L, Good s t := fun t ht => by rw [← hL] at ht; exact truth_good hd ht
  refine .pure _ _ rfl hT ?_
  conv => whnf
  refine ⟨by kernel_rfl, ?_⟩
  conv => whnf
  refine loop_op (I := fun m st => ∃ (i : Nat) (h : Heap) (out : AV), i ≤ L.length ∧ m = L.length - i ∧ Heap.at h 0 = v.blk ∧ (∃ c, Heap.at h 1 = .blk c ∧ c.length = 2) ∧ 1 < h.n ∧ RowsL 1 h out (((L.take i).map f).map row1) ∧ (∀ o, outId out = some o → 1 < o) ∧
      Has st 54 [(1, .c (I n)), (2, .ptr 0 0), (4, .ptr 1 0), (6, .c (trC s L)), (8, out), (9, .c (I i))] [] none h) ?_ (k := L.length)
    ⟨0, _, nilA, Nat.zero_le _, rfl, rfl, ⟨_, rfl, rfl⟩, (by exact Nat.lt_succ_self 1), .inl ⟨rfl, rfl⟩, (fun o ho => by cases ho), rfl, ⟨rfl, rfl, rfl, rfl, rfl, rfl, trivial⟩, rfl, rfl, rfl, rfl⟩
  rintro m st ⟨i, h, out, hi, rfl, h0, h1, hn, hR, ho, hs1⟩ K1 hK1
  refine hs1.run (hm := false) ?_
  conv => whnf
  cases hc : decide ((i : Int) < (L.length : Int))
  case true =>
    have hi2 : i < L.length := by simp at hc; omega
    obtain ⟨t, ht⟩ := get_some hi2
    have hgt := hLv t (List.mem_of_getElem? ht)
    have hlim : (((L.take i).map f).map row1).length + 1 ≤ limit := by rw [List.length_map, List.length_map, List.length_take]; unfold limit; omega
    have htk : ((L.take (i + 1)).map f).map row1 = ((L.take i).map f).map row1 ++ [row1 (f t)] := by rw [List.take_add_one, ht, Option.toList_some, List.map_append, List.map_append]; rfl
    obtain ⟨rr, hrr, hR', hold, hn', hfresh⟩ := rows_append (row := row1 (f t)) (t := 26) (u := 26) hR U26 U26 rfl S3 rfl row1_len rfl hlim
    obtain ⟨rv, rreads, rupds, rfresh⟩ := rr
    have hA0 := (hold 0 (by omega) (fun e => absurd (ho _ e) (by omega))).trans h0
    obtain ⟨c, h1, hc2⟩ := h1
    have hA1 := (hold 1 hn (fun e => absurd (ho _ e) (by omega))).trans h1
    rcases hR' with ⟨_, hh⟩ | ⟨o', ho', hb', hlt', hne'⟩
    · exact absurd hh (by simp)
    simp only at ho'
    subst ho'
    have hRn : RowsL 1 _ (.msl o' 1 0 _ _) _ := .inr ⟨o', rfl, hb', hlt', hne'⟩
    rcases hR.shape with rfl | ⟨o, k', rfl⟩
    all_goals
      have hq := (begun67_ret (P := refL s t) (by rw [refL_le]; omega) n).args (args' := [.agg [slC (doneR s t), slC (runR s t)], I n]) ⟨refP_le, .refl _, trivial⟩
      have hof : ofR n (refL s t) = (inRuns n n (dayOf s t)).map (·.done) := by rw [hkn, ofR_day]
      have hft : f t = max 0 (lastF (ofR n (refL s t)) - y.bell) := by
        rw [hf, hof]
        exact latest_top (run_top (day_inc fun k => (hgt.takes k).1) n n) (by omega)
      have hlb : 0 ≤ lastF (ofR n (refL s t)) ∧ lastF (ofR n (refL s t)) ≤ 1000 := by
        rcases last_mem (ofR n (refL s t)) with h | h
        · omega
        · rw [hof] at h
          obtain ⟨x, hx, he⟩ := List.mem_map.1 h
          have := day_done6 hgt x (List.mem_filter.1 hx).1
          rw [hof]
          omega
      generalize lastF (ofR n (refL s t)) = ls at hq hft hlb
      conv => whnf
      refine ⟨⟨by omega, by omega⟩, ?_⟩
      conv => whnf
      refine ⟨_, tr_day ht, ?_⟩
      conv => whnf
      refine .ret hq rfl ?_
      conv => whnf
      refine ⟨_, h0, ?_⟩
      conv => whnf
      refine ⟨⟨by omega, by omega⟩, ?_⟩
      conv => whnf
      refine ⟨_, (by rw [hkn]; exact hv.run1 hy), ?_⟩
      conv => whnf
      refine ⟨ls - y.bell, by rw [wrap_eq (by omega) (by omega)], ?_⟩
      conv => whnf
      rw [← hft]
      refine ⟨_, hrr, ?_⟩
      conv => whnf
      refine ⟨((i + 1 : Nat) : Int), by rw [wrap_eq (by omega) (by omega)]; omega, ?_⟩
      conv => whnf
      exact ⟨L.length - (i + 1), by omega, i + 1, _, _, hi2, rfl, hA0, ⟨c, hA1, hc2⟩, Nat.lt_of_lt_of_le hn hn', by rw [htk]; exact hRn, fun o2 he => by have := hfresh o2 he; omega, rfl, ⟨rfl, rfl, rfl, rfl, rfl, rfl, trivial⟩, rfl, rfl, rfl, rfl⟩
  have hie : i = L.length := by simp at hc; omega
  subst hK1
  rw [hie, List.take_length] at hR
  obtain ⟨x, l, hxl⟩ : ∃ x l, L.map f = x :: l := by
    cases hm : L.map f with
    | nil => exact absurd (List.map_eq_nil_iff.1 hm) hne
    | cons x l => exact ⟨x, l, rfl⟩
  have hll : l.length ≤ 1000 := by have := congrArg List.length hxl; rw [List.length_map, List.length_cons] at this; omega
  rcases hR.shape with rfl | ⟨o, k', rfl⟩
  · have := hR.nils
    rw [this] at hxl
    cases hxl
  · obtain ⟨hk1, hk2⟩ := hR.ints
    obtain ⟨c, h1, hc2⟩ := h1
    obtain ⟨c0, c1, rfl⟩ : ∃ c0 c1, c = [c0, c1] := by
      match c, hc2 with
      | [c0, c1], _ => exact ⟨c0, c1, rfl⟩
    have hh := hull_ret (L := L.map f) hxl hll
    rw [← hk1] at hh
    rw [hxl]
    conv => whnf
    refine CallW.msl hk2 hh rfl ?_
    conv => whnf
    refine ⟨_, h1, ?_⟩
    conv => whnf
    refine ⟨_, at_set_self _ _ hn, ?_⟩
    conv => whnf
    exact .val
end Go.Ag
/- Layer 4: what is returned is the reference's: when a sheep is done, how many are, how long kinds take: the law. -/
namespace Go.Ag
open Go.Proofs
set_option maxRecDepth 100000

theorem sp_ex (r : (Int × Int) × Int) : ∃ a b e : Int, spV r = .tuple [.agg [I a, I b], I e] := ⟨r.1.1, r.1.2, r.2, rfl⟩
theorem and_self_dec (a b : Int) : (decide (a = a) && decide (b = b)) = true := by simp

set_option maxHeartbeats 4000000 in
theorem readsLaw_ret {v : SV} {s : Sd} (hv : v.Is s) (hA : Ret Try.prog 13 [] (B true)) (n m k : Int) : Ret Try.prog 3 [v.cv, I n, I m, I k] (B true) := by
  have a1 := done_ret hv n
  have a2 := ref15_ret hv n
  have b1 := count_ret hv m
  have b2 := ref17_ret hv m
  have c1 := takes_ret hv k
  have c2 := ref19_ret hv k
  obtain ⟨x1, y1, z1, h1⟩ := sp_ex (spR s (inB n 0 (s.sheep.length - 1)) (spanM s (.doneAt n.toNat)))
  obtain ⟨x2, y2, z2, h2⟩ := sp_ex (spR s (inB m 0 999) (spanM s (.doneBy m)))
  obtain ⟨x3, y3, z3, h3⟩ := sp_ex (spR s (inB k 0 2) (spanT s k.toNat))
  rw [h1] at a1 a2
  rw [h2] at b1 b2
  rw [h3] at c1 c2
  refine ret_by (hm := true) Try.func3 rfl ?_
  conv => whnf
  refine .ret (far_ret hv) rfl ?_
  conv => whnf
  refine .ret a1 rfl ?_
  conv => whnf
  refine .ret a2 rfl ?_
  conv => whnf
  refine .ret b1 rfl ?_
  conv => whnf
  refine .ret b2 rfl ?_
  conv => whnf
  refine .ret c1 rfl ?_
  conv => whnf
  refine .ret c2 rfl ?_
  conv => whnf
  refine ⟨_, span_eql rfl rfl rfl _ _, ?_⟩
  conv => whnf
  rw [and_self_dec]
  conv => whnf
  rw [show (z1 == z1) = true by simp]
  conv => whnf
  refine ⟨_, span_eql rfl rfl rfl _ _, ?_⟩
  conv => whnf
  rw [and_self_dec]
  conv => whnf
  rw [show (z2 == z2) = true by simp]
  conv => whnf
  refine ⟨_, span_eql rfl rfl rfl _ _, ?_⟩
  conv => whnf
  rw [and_self_dec]
  conv => whnf
  rw [show (z3 == z3) = true by simp]
  conv => whnf
  refine .ret hA rfl ?_
  conv => whnf
  exact .val
end Go.Ag
