/- Contracts of functions of layer 2: findings that are left out, all sheep, copies. No conditions. -/
import Derived.Test.YthoappjepbaocaaDrD
/- Layer 2: pens that are not to be trusted. -/
namespace Go.Ag
open Go.Proofs
set_option maxRecDepth 100000

theorem pen_cells_len (l : List Pn) : (penCells l).length = l.length * 6 := by
  induction l with
  | nil => rfl
  | cons p l ih =>
    have : penCells (p :: l) = rowPn p ++ penCells l := rfl
    rw [this, List.length_append, ih, List.length_cons, Nat.add_mul]
    simp [rowPn]; omega
theorem pen_cells_ints (l : List Pn) : ∀ c ∈ penCells l, ∃ z, c = I z := by
  induction l with
  | nil => intro c hc; cases hc
  | cons p l ih =>
    intro c hc
    have : penCells (p :: l) = rowPn p ++ penCells l := rfl
    rw [this] at hc
    rcases List.mem_append.1 hc with hc | hc
    · simp only [rowPn, List.mem_cons, List.not_mem_nil, or_false] at hc
      rcases hc with rfl | rfl | rfl | rfl | rfl | rfl <;> exact ⟨_, rfl⟩
    · exact ih c hc
theorem copy_all {rd : Nat → AB} {id cap : Nat} {l : List Pn} {cells : List AV} (hb : rd id = .blk cells) (hl : cells.length = l.length * 6) :
    acopy Try.prog rd 77 (.msl id 6 0 l.length cap) (.c (.sl (penCells l) 0 l.length)) = some { val := .int l.length, reads := [id], upds := [(id, .blk ((penCells l).map .c))] } := by
  have hf : firstCells rd 6 (.c (.sl (penCells l) 0 l.length)) = some ((penCells l).map .c, l.length, []) := by
    have : sliceOf (penCells l) 0 (l.length * 6) = some (penCells l) := by
      unfold sliceOf
      rw [List.drop_zero, ← pen_cells_len, List.take_length]
      simp
    simp only [firstCells, this, Option.map_some]
  have hc : ((penCells l).map AV.c).all AV.cellish = true := by
    rw [List.all_eq_true]
    intro c hc
    obtain ⟨c0, h0, rfl⟩ := List.mem_map.1 hc
    obtain ⟨z, rfl⟩ := pen_cells_ints l c0 h0
    rfl
  have ht : ((penCells l).map AV.c).take (Nat.min l.length l.length * 6) = (penCells l).map AV.c := by
    have : Nat.min l.length l.length = l.length := Nat.min_self _
    rw [this]
    refine List.take_of_length_le ?_
    rw [List.length_map, pen_cells_len]
    exact Nat.le_refl _
  have hp : putAt cells 0 ((penCells l).map AV.c) = some ((penCells l).map AV.c) := by
    unfold putAt
    rw [List.length_map, pen_cells_len, if_pos (by omega)]
    simp only [List.take_zero, List.nil_append]
    rw [List.drop_eq_nil_of_le (by omega), List.append_nil]
  have hm : Nat.min l.length l.length = l.length := Nat.min_self _
  rw [hm] at ht
  unfold acopy
  simp only [U77, S108, hf, hc, and_self, if_true, hb, ht, hp, hm, Option.map_some]

def tkP (s q i : Nat) (p : Pn) : Pn := if i < q ∧ s.testBit i = false then ⟨p.fr, 0, sum4 p.fr⟩ else p
def tkFrom (s q : Nat) : Nat → List Pn → List Pn
  | _, [] => []
  | i, p :: l => tkP s q i p :: tkFrom s q (i + 1) l
def takingF (f : Fl) (s : Nat) : Fl := { f with pens := tkFrom s f.pens.length 0 f.pens }

set_option maxHeartbeats 4000000 in
theorem taking_ret {f : Fl} (hf : FlOk f) (hne : f.pens ≠ []) {s : Nat} (hs : s < 2 ^ 63) : Ret Try.prog 85 [flCV f, I s] (flCV (takingF f s)) := by
  have h5 := hf.pens
  obtain ⟨m, l1, l2, l3, ps⟩ := f
  simp only at h5 hne
  rcases ps with _ | ⟨p0, _ | ⟨p1, _ | ⟨p2, _ | ⟨p3, _ | ⟨p4, _ | ⟨p5, ps⟩⟩⟩⟩⟩⟩
  · exact absurd rfl hne
  · refine ret_by (hm := false) Try.func85 rfl ?_
    conv => whnf
    refine ⟨_, rfl, ?_⟩
    conv => whnf
    refine ⟨_, rfl, ?_⟩
    conv => whnf
    refine ⟨_, copy_all (l := [p0]) (at_push_self _ _) (by rfl), ?_⟩
    conv => whnf
    refine loop_by (I := fun n st => ∃ (q : Nat) (h : Heap), q ≤ 1 ∧ n = 1 - q ∧ 3 ≤ h.n ∧ Heap.at h 0 = flBlkC ⟨m, l1, l2, l3, [p0]⟩ ∧ Heap.at h 1 = .blk zero14 ∧ Heap.at h 2 = .blk ((penCells (tkFrom s q 0 [p0])).map .c) ∧
      Has st 39 [(1, .c (I s)), (2, .ptr 0 0), (4, .ptr 1 0), (5, .msl 2 6 0 1 1), (16, .msl 2 6 0 1 1), (17, .c (I 1)), (18, .c (I q))] [] none h) ?_ (k := 1)
      ⟨0, _, Nat.zero_le _, rfl, Nat.le_refl _, rfl, rfl, (at_set_self _ _ (show 2 < 3 by decide)).trans rfl, rfl, ⟨rfl, rfl, rfl, rfl, rfl, rfl, rfl, trivial⟩, rfl, rfl, rfl, rfl⟩
    rintro n st ⟨q, h, hq, rfl, hn, h0, h1, h2, hs1⟩
    obtain rfl | rfl : q = 0 ∨ q = 1 := by omega
    · refine hs1.run (hm := false) ?_
      conv => whnf
      refine ⟨⟨by decide, by decide⟩, ?_⟩
      conv => whnf
      refine ⟨_, h2, ?_⟩
      conv => whnf
      refine ⟨_, at_push_self _ _, ?_⟩
      conv => whnf
      refine .ret (has_ret s 0 hs (by omega)) rfl ?_
      conv => whnf
      cases hb : s.testBit 0
      · conv => whnf
        refine ⟨_, at_new _ _ _, ?_⟩
        conv => whnf
        refine .ret (all_ret p0.fr (fun i _ => (hf.fr 0 i).tame)) rfl ?_
        conv => whnf
        refine ⟨⟨by decide, by decide⟩, ?_⟩
        conv => whnf
        refine ⟨_, (at_old _ _ _ (by omega)).trans h2, ?_⟩
        conv => whnf
        refine ⟨((0 + 1 : Nat) : Int), by rw [wrap_eq (by omega) (by omega)]; omega, ?_⟩
        conv => whnf
        exact ⟨1 - (0 + 1), by omega, 0 + 1, _, by omega, rfl, Nat.le_trans hn (Nat.le_succ _), (at_set_ne _ _ (i := 0) (k := 2) (by omega)).trans ((at_old _ _ _ (by omega)).trans h0), (at_set_ne _ _ (i := 1) (k := 2) (by omega)).trans ((at_old _ _ _ (by omega)).trans h1), (at_set_self _ _ (show 2 < h.n + 1 by omega)).trans (by simp [tkFrom, tkP, penCells, rowPn, hb] <;> rfl), rfl, ⟨rfl, rfl, rfl, rfl, rfl, rfl, rfl, trivial⟩, rfl, rfl, rfl, rfl⟩
      · conv => whnf
        refine ⟨((0 + 1 : Nat) : Int), by rw [wrap_eq (by omega) (by omega)]; omega, ?_⟩
        conv => whnf
        exact ⟨1 - (0 + 1), by omega, 0 + 1, _, by omega, rfl, Nat.le_trans hn (Nat.le_succ _), (at_old _ _ _ (by omega)).trans h0, (at_old _ _ _ (by omega)).trans h1, ((at_old _ _ _ (by omega)).trans h2).trans (by simp [tkFrom, tkP, penCells, rowPn, hb] <;> rfl), rfl, ⟨rfl, rfl, rfl, rfl, rfl, rfl, rfl, trivial⟩, rfl, rfl, rfl, rfl⟩
    · refine hs1.run (hm := false) ?_
      conv => whnf
      refine ⟨_, h0, ?_⟩
      conv => whnf
      refine ⟨_, at_set_self _ _ (by omega), ?_⟩
      conv => whnf
      refine ⟨_, (at_set_ne _ _ (i := 1) (k := 0) (by omega)).trans h1, ?_⟩
      conv => whnf
      refine ⟨_, at_set_self _ _ (show 1 < h.n by omega), ?_⟩
      conv => whnf
      exact ⟨_, [2], snap_fl (cs := penCells (tkFrom s 1 0 [p0])) ((at_set_ne _ _ (i := 2) (k := 1) (by omega)).trans ((at_set_ne _ _ (i := 2) (k := 0) (by omega)).trans h2)) _ _ _ _ _ _ _ _ _ _ _ _ _⟩
  · refine ret_by (hm := false) Try.func85 rfl ?_
    conv => whnf
    refine ⟨_, rfl, ?_⟩
    conv => whnf
    refine ⟨_, rfl, ?_⟩
    conv => whnf
    refine ⟨_, copy_all (l := [p0, p1]) (at_push_self _ _) (by rfl), ?_⟩
    conv => whnf
    refine loop_by (I := fun n st => ∃ (q : Nat) (h : Heap), q ≤ 2 ∧ n = 2 - q ∧ 3 ≤ h.n ∧ Heap.at h 0 = flBlkC ⟨m, l1, l2, l3, [p0, p1]⟩ ∧ Heap.at h 1 = .blk zero14 ∧ Heap.at h 2 = .blk ((penCells (tkFrom s q 0 [p0, p1])).map .c) ∧
      Has st 39 [(1, .c (I s)), (2, .ptr 0 0), (4, .ptr 1 0), (5, .msl 2 6 0 2 2), (16, .msl 2 6 0 2 2), (17, .c (I 2)), (18, .c (I q))] [] none h) ?_ (k := 2)
      ⟨0, _, Nat.zero_le _, rfl, Nat.le_refl _, rfl, rfl, (at_set_self _ _ (show 2 < 3 by decide)).trans rfl, rfl, ⟨rfl, rfl, rfl, rfl, rfl, rfl, rfl, trivial⟩, rfl, rfl, rfl, rfl⟩
    rintro n st ⟨q, h, hq, rfl, hn, h0, h1, h2, hs1⟩
    obtain rfl | rfl | rfl : q = 0 ∨ q = 1 ∨ q = 2 := by omega
    · refine hs1.run (hm := false) ?_
      conv => whnf
      refine ⟨⟨by decide, by decide⟩, ?_⟩
      conv => whnf
      refine ⟨_, h2, ?_⟩
      conv => whnf
      refine ⟨_, at_push_self _ _, ?_⟩
      conv => whnf
      refine .ret (has_ret s 0 hs (by omega)) rfl ?_
      conv => whnf
      cases hb : s.testBit 0
      · conv => whnf
        refine ⟨_, at_new _ _ _, ?_⟩
        conv => whnf
        refine .ret (all_ret p0.fr (fun i _ => (hf.fr 0 i).tame)) rfl ?_
        conv => whnf
        refine ⟨⟨by decide, by decide⟩, ?_⟩
        conv => whnf
        refine ⟨_, (at_old _ _ _ (by omega)).trans h2, ?_⟩
        conv => whnf
        refine ⟨((0 + 1 : Nat) : Int), by rw [wrap_eq (by omega) (by omega)]; omega, ?_⟩
        conv => whnf
        exact ⟨2 - (0 + 1), by omega, 0 + 1, _, by omega, rfl, Nat.le_trans hn (Nat.le_succ _), (at_set_ne _ _ (i := 0) (k := 2) (by omega)).trans ((at_old _ _ _ (by omega)).trans h0), (at_set_ne _ _ (i := 1) (k := 2) (by omega)).trans ((at_old _ _ _ (by omega)).trans h1), (at_set_self _ _ (show 2 < h.n + 1 by omega)).trans (by simp [tkFrom, tkP, penCells, rowPn, hb] <;> rfl), rfl, ⟨rfl, rfl, rfl, rfl, rfl, rfl, rfl, trivial⟩, rfl, rfl, rfl, rfl⟩
      · conv => whnf
        refine ⟨((0 + 1 : Nat) : Int), by rw [wrap_eq (by omega) (by omega)]; omega, ?_⟩
        conv => whnf
        exact ⟨2 - (0 + 1), by omega, 0 + 1, _, by omega, rfl, Nat.le_trans hn (Nat.le_succ _), (at_old _ _ _ (by omega)).trans h0, (at_old _ _ _ (by omega)).trans h1, ((at_old _ _ _ (by omega)).trans h2).trans (by simp [tkFrom, tkP, penCells, rowPn, hb] <;> rfl), rfl, ⟨rfl, rfl, rfl, rfl, rfl, rfl, rfl, trivial⟩, rfl, rfl, rfl, rfl⟩
    · refine hs1.run (hm := false) ?_
      conv => whnf
      refine ⟨⟨by decide, by decide⟩, ?_⟩
      conv => whnf
      refine ⟨_, h2, ?_⟩
      conv => whnf
      refine ⟨_, at_push_self _ _, ?_⟩
      conv => whnf
      refine .ret (has_ret s 1 hs (by omega)) rfl ?_
      conv => whnf
      cases hb : s.testBit 1
      · conv => whnf
        refine ⟨_, at_new _ _ _, ?_⟩
        conv => whnf
        refine .ret (all_ret p1.fr (fun i _ => (hf.fr 1 i).tame)) rfl ?_
        conv => whnf
        refine ⟨⟨by decide, by decide⟩, ?_⟩
        conv => whnf
        refine ⟨_, (at_old _ _ _ (by omega)).trans h2, ?_⟩
        conv => whnf
        refine ⟨((1 + 1 : Nat) : Int), by rw [wrap_eq (by omega) (by omega)]; omega, ?_⟩
        conv => whnf
        exact ⟨2 - (1 + 1), by omega, 1 + 1, _, by omega, rfl, Nat.le_trans hn (Nat.le_succ _), (at_set_ne _ _ (i := 0) (k := 2) (by omega)).trans ((at_old _ _ _ (by omega)).trans h0), (at_set_ne _ _ (i := 1) (k := 2) (by omega)).trans ((at_old _ _ _ (by omega)).trans h1), (at_set_self _ _ (show 2 < h.n + 1 by omega)).trans (by simp [tkFrom, tkP, penCells, rowPn, hb] <;> rfl), rfl, ⟨rfl, rfl, rfl, rfl, rfl, rfl, rfl, trivial⟩, rfl, rfl, rfl, rfl⟩
      · conv => whnf
        refine ⟨((1 + 1 : Nat) : Int), by rw [wrap_eq (by omega) (by omega)]; omega, ?_⟩
        conv => whnf
        exact ⟨2 - (1 + 1), by omega, 1 + 1, _, by omega, rfl, Nat.le_trans hn (Nat.le_succ _), (at_old _ _ _ (by omega)).trans h0, (at_old _ _ _ (by omega)).trans h1, ((at_old _ _ _ (by omega)).trans h2).trans (by simp [tkFrom, tkP, penCells, rowPn, hb] <;> rfl), rfl, ⟨rfl, rfl, rfl, rfl, rfl, rfl, rfl, trivial⟩, rfl, rfl, rfl, rfl⟩
    · refine hs1.run (hm := false) ?_
      conv => whnf
      refine ⟨_, h0, ?_⟩
      conv => whnf
      refine ⟨_, at_set_self _ _ (by omega), ?_⟩
      conv => whnf
      refine ⟨_, (at_set_ne _ _ (i := 1) (k := 0) (by omega)).trans h1, ?_⟩
      conv => whnf
      refine ⟨_, at_set_self _ _ (show 1 < h.n by omega), ?_⟩
      conv => whnf
      exact ⟨_, [2], snap_fl (cs := penCells (tkFrom s 2 0 [p0, p1])) ((at_set_ne _ _ (i := 2) (k := 1) (by omega)).trans ((at_set_ne _ _ (i := 2) (k := 0) (by omega)).trans h2)) _ _ _ _ _ _ _ _ _ _ _ _ _⟩
  · refine ret_by (hm := false) Try.func85 rfl ?_
    conv => whnf
    refine ⟨_, rfl, ?_⟩
    conv => whnf
    refine ⟨_, rfl, ?_⟩
    conv => whnf
    refine ⟨_, copy_all (l := [p0, p1, p2]) (at_push_self _ _) (by rfl), ?_⟩
    conv => whnf
    refine loop_by (I := fun n st => ∃ (q : Nat) (h : Heap), q ≤ 3 ∧ n = 3 - q ∧ 3 ≤ h.n ∧ Heap.at h 0 = flBlkC ⟨m, l1, l2, l3, [p0, p1, p2]⟩ ∧ Heap.at h 1 = .blk zero14 ∧ Heap.at h 2 = .blk ((penCells (tkFrom s q 0 [p0, p1, p2])).map .c) ∧
      Has st 39 [(1, .c (I s)), (2, .ptr 0 0), (4, .ptr 1 0), (5, .msl 2 6 0 3 3), (16, .msl 2 6 0 3 3), (17, .c (I 3)), (18, .c (I q))] [] none h) ?_ (k := 3)
      ⟨0, _, Nat.zero_le _, rfl, Nat.le_refl _, rfl, rfl, (at_set_self _ _ (show 2 < 3 by decide)).trans rfl, rfl, ⟨rfl, rfl, rfl, rfl, rfl, rfl, rfl, trivial⟩, rfl, rfl, rfl, rfl⟩
    rintro n st ⟨q, h, hq, rfl, hn, h0, h1, h2, hs1⟩
    obtain rfl | rfl | rfl | rfl : q = 0 ∨ q = 1 ∨ q = 2 ∨ q = 3 := by omega
    · refine hs1.run (hm := false) ?_
      conv => whnf
      refine ⟨⟨by decide, by decide⟩, ?_⟩
      conv => whnf
      refine ⟨_, h2, ?_⟩
      conv => whnf
      refine ⟨_, at_push_self _ _, ?_⟩
      conv => whnf
      refine .ret (has_ret s 0 hs (by omega)) rfl ?_
      conv => whnf
      cases hb : s.testBit 0
      · conv => whnf
        refine ⟨_, at_new _ _ _, ?_⟩
        conv => whnf
        refine .ret (all_ret p0.fr (fun i _ => (hf.fr 0 i).tame)) rfl ?_
        conv => whnf
        refine ⟨⟨by decide, by decide⟩, ?_⟩
        conv => whnf
        refine ⟨_, (at_old _ _ _ (by omega)).trans h2, ?_⟩
        conv => whnf
        refine ⟨((0 + 1 : Nat) : Int), by rw [wrap_eq (by omega) (by omega)]; omega, ?_⟩
        conv => whnf
        exact ⟨3 - (0 + 1), by omega, 0 + 1, _, by omega, rfl, Nat.le_trans hn (Nat.le_succ _), (at_set_ne _ _ (i := 0) (k := 2) (by omega)).trans ((at_old _ _ _ (by omega)).trans h0), (at_set_ne _ _ (i := 1) (k := 2) (by omega)).trans ((at_old _ _ _ (by omega)).trans h1), (at_set_self _ _ (show 2 < h.n + 1 by omega)).trans (by simp [tkFrom, tkP, penCells, rowPn, hb] <;> rfl), rfl, ⟨rfl, rfl, rfl, rfl, rfl, rfl, rfl, trivial⟩, rfl, rfl, rfl, rfl⟩
      · conv => whnf
        refine ⟨((0 + 1 : Nat) : Int), by rw [wrap_eq (by omega) (by omega)]; omega, ?_⟩
        conv => whnf
        exact ⟨3 - (0 + 1), by omega, 0 + 1, _, by omega, rfl, Nat.le_trans hn (Nat.le_succ _), (at_old _ _ _ (by omega)).trans h0, (at_old _ _ _ (by omega)).trans h1, ((at_old _ _ _ (by omega)).trans h2).trans (by simp [tkFrom, tkP, penCells, rowPn, hb] <;> rfl), rfl, ⟨rfl, rfl, rfl, rfl, rfl, rfl, rfl, trivial⟩, rfl, rfl, rfl, rfl⟩
    · refine hs1.run (hm := false) ?_
      conv => whnf
      refine ⟨⟨by decide, by decide⟩, ?_⟩
      conv => whnf
      refine ⟨_, h2, ?_⟩
      conv => whnf
      refine ⟨_, at_push_self _ _, ?_⟩
      conv => whnf
      refine .ret (has_ret s 1 hs (by omega)) rfl ?_
      conv => whnf
      cases hb : s.testBit 1
      · conv => whnf
        refine ⟨_, at_new _ _ _, ?_⟩
        conv => whnf
        refine .ret (all_ret p1.fr (fun i _ => (hf.fr 1 i).tame)) rfl ?_
        conv => whnf
        refine ⟨⟨by decide, by decide⟩, ?_⟩
        conv => whnf
        refine ⟨_, (at_old _ _ _ (by omega)).trans h2, ?_⟩
        conv => whnf
        refine ⟨((1 + 1 : Nat) : Int), by rw [wrap_eq (by omega) (by omega)]; omega, ?_⟩
        conv => whnf
        exact ⟨3 - (1 + 1), by omega, 1 + 1, _, by omega, rfl, Nat.le_trans hn (Nat.le_succ _), (at_set_ne _ _ (i := 0) (k := 2) (by omega)).trans ((at_old _ _ _ (by omega)).trans h0), (at_set_ne _ _ (i := 1) (k := 2) (by omega)).trans ((at_old _ _ _ (by omega)).trans h1), (at_set_self _ _ (show 2 < h.n + 1 by omega)).trans (by simp [tkFrom, tkP, penCells, rowPn, hb] <;> rfl), rfl, ⟨rfl, rfl, rfl, rfl, rfl, rfl, rfl, trivial⟩, rfl, rfl, rfl, rfl⟩
      · conv => whnf
        refine ⟨((1 + 1 : Nat) : Int), by rw [wrap_eq (by omega) (by omega)]; omega, ?_⟩
        conv => whnf
        exact ⟨3 - (1 + 1), by omega, 1 + 1, _, by omega, rfl, Nat.le_trans hn (Nat.le_succ _), (at_old _ _ _ (by omega)).trans h0, (at_old _ _ _ (by omega)).trans h1, ((at_old _ _ _ (by omega)).trans h2).trans (by simp [tkFrom, tkP, penCells, rowPn, hb] <;> rfl), rfl, ⟨rfl, rfl, rfl, rfl, rfl, rfl, rfl, trivial⟩, rfl, rfl, rfl, rfl⟩
    · refine hs1.run (hm := false) ?_
      conv => whnf
      refine ⟨⟨by decide, by decide⟩, ?_⟩
      conv => whnf
      refine ⟨_, h2, ?_⟩
      conv => whnf
      refine ⟨_, at_push_self _ _, ?_⟩
      conv => whnf
      refine .ret (has_ret s 2 hs (by omega)) rfl ?_
      conv => whnf
      cases hb : s.testBit 2
      · conv => whnf
        refine ⟨_, at_new _ _ _, ?_⟩
        conv => whnf
        refine .ret (all_ret p2.fr (fun i _ => (hf.fr 2 i).tame)) rfl ?_
        conv => whnf
        refine ⟨⟨by decide, by decide⟩, ?_⟩
        conv => whnf
        refine ⟨_, (at_old _ _ _ (by omega)).trans h2, ?_⟩
        conv => whnf
        refine ⟨((2 + 1 : Nat) : Int), by rw [wrap_eq (by omega) (by omega)]; omega, ?_⟩
        conv => whnf
        exact ⟨3 - (2 + 1), by omega, 2 + 1, _, by omega, rfl, Nat.le_trans hn (Nat.le_succ _), (at_set_ne _ _ (i := 0) (k := 2) (by omega)).trans ((at_old _ _ _ (by omega)).trans h0), (at_set_ne _ _ (i := 1) (k := 2) (by omega)).trans ((at_old _ _ _ (by omega)).trans h1), (at_set_self _ _ (show 2 < h.n + 1 by omega)).trans (by simp [tkFrom, tkP, penCells, rowPn, hb] <;> rfl), rfl, ⟨rfl, rfl, rfl, rfl, rfl, rfl, rfl, trivial⟩, rfl, rfl, rfl, rfl⟩
      · conv => whnf
        refine ⟨((2 + 1 : Nat) : Int), by rw [wrap_eq (by omega) (by omega)]; omega, ?_⟩
        conv => whnf
        exact ⟨3 - (2 + 1), by omega, 2 + 1, _, by omega, rfl, Nat.le_trans hn (Nat.le_succ _), (at_old _ _ _ (by omega)).trans h0, (at_old _ _ _ (by omega)).trans h1, ((at_old _ _ _ (by omega)).trans h2).trans (by simp [tkFrom, tkP, penCells, rowPn, hb] <;> rfl), rfl, ⟨rfl, rfl, rfl, rfl, rfl, rfl, rfl, trivial⟩, rfl, rfl, rfl, rfl⟩
    · refine hs1.run (hm := false) ?_
      conv => whnf
      refine ⟨_, h0, ?_⟩
      conv => whnf
      refine ⟨_, at_set_self _ _ (by omega), ?_⟩
      conv => whnf
      refine ⟨_, (at_set_ne _ _ (i := 1) (k := 0) (by omega)).trans h1, ?_⟩
      conv => whnf
      refine ⟨_, at_set_self _ _ (show 1 < h.n by omega), ?_⟩
      conv => whnf
      exact ⟨_, [2], snap_fl (cs := penCells (tkFrom s 3 0 [p0, p1, p2])) ((at_set_ne _ _ (i := 2) (k := 1) (by omega)).trans ((at_set_ne _ _ (i := 2) (k := 0) (by omega)).trans h2)) _ _ _ _ _ _ _ _ _ _ _ _ _⟩
  · refine ret_by (hm := false) Try.func85 rfl ?_
    conv => whnf
    refine ⟨_, rfl, ?_⟩
    conv => whnf
    refine ⟨_, rfl, ?_⟩
    conv => whnf
    refine ⟨_, copy_all (l := [p0, p1, p2, p3]) (at_push_self _ _) (by rfl), ?_⟩
    conv => whnf
    refine loop_by (I := fun n st => ∃ (q : Nat) (h : Heap), q ≤ 4 ∧ n = 4 - q ∧ 3 ≤ h.n ∧ Heap.at h 0 = flBlkC ⟨m, l1, l2, l3, [p0, p1, p2, p3]⟩ ∧ Heap.at h 1 = .blk zero14 ∧ Heap.at h 2 = .blk ((penCells (tkFrom s q 0 [p0, p1, p2, p3])).map .c) ∧
      Has st 39 [(1, .c (I s)), (2, .ptr 0 0), (4, .ptr 1 0), (5, .msl 2 6 0 4 4), (16, .msl 2 6 0 4 4), (17, .c (I 4)), (18, .c (I q))] [] none h) ?_ (k := 4)
      ⟨0, _, Nat.zero_le _, rfl, Nat.le_refl _, rfl, rfl, (at_set_self _ _ (show 2 < 3 by decide)).trans rfl, rfl, ⟨rfl, rfl, rfl, rfl, rfl, rfl, rfl, trivial⟩, rfl, rfl, rfl, rfl⟩
    rintro n st ⟨q, h, hq, rfl, hn, h0, h1, h2, hs1⟩
    obtain rfl | rfl | rfl | rfl | rfl : q = 0 ∨ q = 1 ∨ q = 2 ∨ q = 3 ∨ q = 4 := by omega
    · refine hs1.run (hm := false) ?_
      conv => whnf
      refine ⟨⟨by decide, by decide⟩, ?_⟩
      conv => whnf
      refine ⟨_, h2, ?_⟩
      conv => whnf
      refine ⟨_, at_push_self _ _, ?_⟩
      conv => whnf
      refine .ret (has_ret s 0 hs (by omega)) rfl ?_
      conv => whnf
      cases hb : s.testBit 0
      · conv => whnf
        refine ⟨_, at_new _ _ _, ?_⟩
        conv => whnf
        refine .ret (all_ret p0.fr (fun i _ => (hf.fr 0 i).tame)) rfl ?_
        conv => whnf
        refine ⟨⟨by decide, by decide⟩, ?_⟩
        conv => whnf
        refine ⟨_, (at_old _ _ _ (by omega)).trans h2, ?_⟩
        conv => whnf
        refine ⟨((0 + 1 : Nat) : Int), by rw [wrap_eq (by omega) (by omega)]; omega, ?_⟩
        conv => whnf
        exact ⟨4 - (0 + 1), by omega, 0 + 1, _, by omega, rfl, Nat.le_trans hn (Nat.le_succ _), (at_set_ne _ _ (i := 0) (k := 2) (by omega)).trans ((at_old _ _ _ (by omega)).trans h0), (at_set_ne _ _ (i := 1) (k := 2) (by omega)).trans ((at_old _ _ _ (by omega)).trans h1), (at_set_self _ _ (show 2 < h.n + 1 by omega)).trans (by simp [tkFrom, tkP, penCells, rowPn, hb] <;> rfl), rfl, ⟨rfl, rfl, rfl, rfl, rfl, rfl, rfl, trivial⟩, rfl, rfl, rfl, rfl⟩
      · conv => whnf
        refine ⟨((0 + 1 : Nat) : Int), by rw [wrap_eq (by omega) (by omega)]; omega, ?_⟩
        conv => whnf
        exact ⟨4 - (0 + 1), by omega, 0 + 1, _, by omega, rfl, Nat.le_trans hn (Nat.le_succ _), (at_old _ _ _ (by omega)).trans h0, (at_old _ _ _ (by omega)).trans h1, ((at_old _ _ _ (by omega)).trans h2).trans (by simp [tkFrom, tkP, penCells, rowPn, hb] <;> rfl), rfl, ⟨rfl, rfl, rfl, rfl, rfl, rfl, rfl, trivial⟩, rfl, rfl, rfl, rfl⟩
    · refine hs1.run (hm := false) ?_
      conv => whnf
      refine ⟨⟨by decide, by decide⟩, ?_⟩
      conv => whnf
      refine ⟨_, h2, ?_⟩
      conv => whnf
      refine ⟨_, at_push_self _ _, ?_⟩
      conv => whnf
      refine .ret (has_ret s 1 hs (by omega)) rfl ?_
      conv => whnf
      cases hb : s.testBit 1
      · conv => whnf
        refine ⟨_, at_new _ _ _, ?_⟩
        conv => whnf
        refine .ret (all_ret p1.fr (fun i _ => (hf.fr 1 i).tame)) rfl ?_
        conv => whnf
        refine ⟨⟨by decide, by decide⟩, ?_⟩
        conv => whnf
        refine ⟨_, (at_old _ _ _ (by omega)).trans h2, ?_⟩
        conv => whnf
        refine ⟨((1 + 1 : Nat) : Int), by rw [wrap_eq (by omega) (by omega)]; omega, ?_⟩
        conv => whnf
        exact ⟨4 - (1 + 1), by omega, 1 + 1, _, by omega, rfl, Nat.le_trans hn (Nat.le_succ _), (at_set_ne _ _ (i := 0) (k := 2) (by omega)).trans ((at_old _ _ _ (by omega)).trans h0), (at_set_ne _ _ (i := 1) (k := 2) (by omega)).trans ((at_old _ _ _ (by omega)).trans h1), (at_set_self _ _ (show 2 < h.n + 1 by omega)).trans (by simp [tkFrom, tkP, penCells, rowPn, hb] <;> rfl), rfl, ⟨rfl, rfl, rfl, rfl, rfl, rfl, rfl, trivial⟩, rfl, rfl, rfl, rfl⟩
      · conv => whnf
        refine ⟨((1 + 1 : Nat) : Int), by rw [wrap_eq (by omega) (by omega)]; omega, ?_⟩
        conv => whnf
        exact ⟨4 - (1 + 1), by omega, 1 + 1, _, by omega, rfl, Nat.le_trans hn (Nat.le_succ _), (at_old _ _ _ (by omega)).trans h0, (at_old _ _ _ (by omega)).trans h1, ((at_old _ _ _ (by omega)).trans h2).trans (by simp [tkFrom, tkP, penCells, rowPn, hb] <;> rfl), rfl, ⟨rfl, rfl, rfl, rfl, rfl, rfl, rfl, trivial⟩, rfl, rfl, rfl, rfl⟩
    · refine hs1.run (hm := false) ?_
      conv => whnf
      refine ⟨⟨by decide, by decide⟩, ?_⟩
      conv => whnf
      refine ⟨_, h2, ?_⟩
      conv => whnf
      refine ⟨_, at_push_self _ _, ?_⟩
      conv => whnf
      refine .ret (has_ret s 2 hs (by omega)) rfl ?_
      conv => whnf
      cases hb : s.testBit 2
      · conv => whnf
        refine ⟨_, at_new _ _ _, ?_⟩
        conv => whnf
        refine .ret (all_ret p2.fr (fun i _ => (hf.fr 2 i).tame)) rfl ?_
        conv => whnf
        refine ⟨⟨by decide, by decide⟩, ?_⟩
        conv => whnf
        refine ⟨_, (at_old _ _ _ (by omega)).trans h2, ?_⟩
        conv => whnf
        refine ⟨((2 + 1 : Nat) : Int), by rw [wrap_eq (by omega) (by omega)]; omega, ?_⟩
        conv => whnf
        exact ⟨4 - (2 + 1), by omega, 2 + 1, _, by omega, rfl, Nat.le_trans hn (Nat.le_succ _), (at_set_ne _ _ (i := 0) (k := 2) (by omega)).trans ((at_old _ _ _ (by omega)).trans h0), (at_set_ne _ _ (i := 1) (k := 2) (by omega)).trans ((at_old _ _ _ (by omega)).trans h1), (at_set_self _ _ (show 2 < h.n + 1 by omega)).trans (by simp [tkFrom, tkP, penCells, rowPn, hb] <;> rfl), rfl, ⟨rfl, rfl, rfl, rfl, rfl, rfl, rfl, trivial⟩, rfl, rfl, rfl, rfl⟩
      · conv => whnf
        refine ⟨((2 + 1 : Nat) : Int), by rw [wrap_eq (by omega) (by omega)]; omega, ?_⟩
        conv => whnf
        exact ⟨4 - (2 + 1), by omega, 2 + 1, _, by omega, rfl, Nat.le_trans hn (Nat.le_succ _), (at_old _ _ _ (by omega)).trans h0, (at_old _ _ _ (by omega)).trans h1, ((at_old _ _ _ (by omega)).trans h2).trans (by simp [tkFrom, tkP, penCells, rowPn, hb] <;> rfl), rfl, ⟨rfl, rfl, rfl, rfl, rfl, rfl, rfl, trivial⟩, rfl, rfl, rfl, rfl⟩
    · refine hs1.run (hm := false) ?_
      conv => whnf
      refine ⟨⟨by decide, by decide⟩, ?_⟩
      conv => whnf
      refine ⟨_, h2, ?_⟩
      conv => whnf
      refine ⟨_, at_push_self _ _, ?_⟩
      conv => whnf
      refine .ret (has_ret s 3 hs (by omega)) rfl ?_
      conv => whnf
      cases hb : s.testBit 3
      · conv => whnf
        refine ⟨_, at_new _ _ _, ?_⟩
        conv => whnf
        refine .ret (all_ret p3.fr (fun i _ => (hf.fr 3 i).tame)) rfl ?_
        conv => whnf
        refine ⟨⟨by decide, by decide⟩, ?_⟩
        conv => whnf
        refine ⟨_, (at_old _ _ _ (by omega)).trans h2, ?_⟩
        conv => whnf
        refine ⟨((3 + 1 : Nat) : Int), by rw [wrap_eq (by omega) (by omega)]; omega, ?_⟩
        conv => whnf
        exact ⟨4 - (3 + 1), by omega, 3 + 1, _, by omega, rfl, Nat.le_trans hn (Nat.le_succ _), (at_set_ne _ _ (i := 0) (k := 2) (by omega)).trans ((at_old _ _ _ (by omega)).trans h0), (at_set_ne _ _ (i := 1) (k := 2) (by omega)).trans ((at_old _ _ _ (by omega)).trans h1), (at_set_self _ _ (show 2 < h.n + 1 by omega)).trans (by simp [tkFrom, tkP, penCells, rowPn, hb] <;> rfl), rfl, ⟨rfl, rfl, rfl, rfl, rfl, rfl, rfl, trivial⟩, rfl, rfl, rfl, rfl⟩
      · conv => whnf
        refine ⟨((3 + 1 : Nat) : Int), by rw [wrap_eq (by omega) (by omega)]; omega, ?_⟩
        conv => whnf
        exact ⟨4 - (3 + 1), by omega, 3 + 1, _, by omega, rfl, Nat.le_trans hn (Nat.le_succ _), (at_old _ _ _ (by omega)).trans h0, (at_old _ _ _ (by omega)).trans h1, ((at_old _ _ _ (by omega)).trans h2).trans (by simp [tkFrom, tkP, penCells, rowPn, hb] <;> rfl), rfl, ⟨rfl, rfl, rfl, rfl, rfl, rfl, rfl, trivial⟩, rfl, rfl, rfl, rfl⟩
    · refine hs1.run (hm := false) ?_
      conv => whnf
      refine ⟨_, h0, ?_⟩
      conv => whnf
      refine ⟨_, at_set_self _ _ (by omega), ?_⟩
      conv => whnf
      refine ⟨_, (at_set_ne _ _ (i := 1) (k := 0) (by omega)).trans h1, ?_⟩
      conv => whnf
      refine ⟨_, at_set_self _ _ (show 1 < h.n by omega), ?_⟩
      conv => whnf
      exact ⟨_, [2], snap_fl (cs := penCells (tkFrom s 4 0 [p0, p1, p2, p3])) ((at_set_ne _ _ (i := 2) (k := 1) (by omega)).trans ((at_set_ne _ _ (i := 2) (k := 0) (by omega)).trans h2)) _ _ _ _ _ _ _ _ _ _ _ _ _⟩
  · refine ret_by (hm := false) Try.func85 rfl ?_
    conv => whnf
    refine ⟨_, rfl, ?_⟩
    conv => whnf
    refine ⟨_, rfl, ?_⟩
    conv => whnf
    refine ⟨_, copy_all (l := [p0, p1, p2, p3, p4]) (at_push_self _ _) (by rfl), ?_⟩
    conv => whnf
    refine loop_by (I := fun n st => ∃ (q : Nat) (h : Heap), q ≤ 5 ∧ n = 5 - q ∧ 3 ≤ h.n ∧ Heap.at h 0 = flBlkC ⟨m, l1, l2, l3, [p0, p1, p2, p3, p4]⟩ ∧ Heap.at h 1 = .blk zero14 ∧ Heap.at h 2 = .blk ((penCells (tkFrom s q 0 [p0, p1, p2, p3, p4])).map .c) ∧
      Has st 39 [(1, .c (I s)), (2, .ptr 0 0), (4, .ptr 1 0), (5, .msl 2 6 0 5 5), (16, .msl 2 6 0 5 5), (17, .c (I 5)), (18, .c (I q))] [] none h) ?_ (k := 5)
      ⟨0, _, Nat.zero_le _, rfl, Nat.le_refl _, rfl, rfl, (at_set_self _ _ (show 2 < 3 by decide)).trans rfl, rfl, ⟨rfl, rfl, rfl, rfl, rfl, rfl, rfl, trivial⟩, rfl, rfl, rfl, rfl⟩
    rintro n st ⟨q, h, hq, rfl, hn, h0, h1, h2, hs1⟩
    obtain rfl | rfl | rfl | rfl | rfl | rfl : q = 0 ∨ q = 1 ∨ q = 2 ∨ q = 3 ∨ q = 4 ∨ q = 5 := by omega
    · refine hs1.run (hm := false) ?_
      conv => whnf
      refine ⟨⟨by decide, by decide⟩, ?_⟩
      conv => whnf
      refine ⟨_, h2, ?_⟩
      conv => whnf
      refine ⟨_, at_push_self _ _, ?_⟩
      conv => whnf
      refine .ret (has_ret s 0 hs (by omega)) rfl ?_
      conv => whnf
      cases hb : s.testBit 0
      · conv => whnf
        refine ⟨_, at_new _ _ _, ?_⟩
        conv => whnf
        refine .ret (all_ret p0.fr (fun i _ => (hf.fr 0 i).tame)) rfl ?_
        conv => whnf
        refine ⟨⟨by decide, by decide⟩, ?_⟩
        conv => whnf
        refine ⟨_, (at_old _ _ _ (by omega)).trans h2, ?_⟩
        conv => whnf
        refine ⟨((0 + 1 : Nat) : Int), by rw [wrap_eq (by omega) (by omega)]; omega, ?_⟩
        conv => whnf
        exact ⟨5 - (0 + 1), by omega, 0 + 1, _, by omega, rfl, Nat.le_trans hn (Nat.le_succ _), (at_set_ne _ _ (i := 0) (k := 2) (by omega)).trans ((at_old _ _ _ (by omega)).trans h0), (at_set_ne _ _ (i := 1) (k := 2) (by omega)).trans ((at_old _ _ _ (by omega)).trans h1), (at_set_self _ _ (show 2 < h.n + 1 by omega)).trans (by simp [tkFrom, tkP, penCells, rowPn, hb] <;> rfl), rfl, ⟨rfl, rfl, rfl, rfl, rfl, rfl, rfl, trivial⟩, rfl, rfl, rfl, rfl⟩
      · conv => whnf
        refine ⟨((0 + 1 : Nat) : Int), by rw [wrap_eq (by omega) (by omega)]; omega, ?_⟩
        conv => whnf
        exact ⟨5 - (0 + 1), by omega, 0 + 1, _, by omega, rfl, Nat.le_trans hn (Nat.le_succ _), (at_old _ _ _ (by omega)).trans h0, (at_old _ _ _ (by omega)).trans h1, ((at_old _ _ _ (by omega)).trans h2).trans (by simp [tkFrom, tkP, penCells, rowPn, hb] <;> rfl), rfl, ⟨rfl, rfl, rfl, rfl, rfl, rfl, rfl, trivial⟩, rfl, rfl, rfl, rfl⟩
    · refine hs1.run (hm := false) ?_
      conv => whnf
      refine ⟨⟨by decide, by decide⟩, ?_⟩
      conv => whnf
      refine ⟨_, h2, ?_⟩
      conv => whnf
      refine ⟨_, at_push_self _ _, ?_⟩
      conv => whnf
      refine .ret (has_ret s 1 hs (by omega)) rfl ?_
      conv => whnf
      cases hb : s.testBit 1
      · conv => whnf
        refine ⟨_, at_new _ _ _, ?_⟩
        conv => whnf
        refine .ret (all_ret p1.fr (fun i _ => (hf.fr 1 i).tame)) rfl ?_
        conv => whnf
        refine ⟨⟨by decide, by decide⟩, ?_⟩
        conv => whnf
        refine ⟨_, (at_old _ _ _ (by omega)).trans h2, ?_⟩
        conv => whnf
        refine ⟨((1 + 1 : Nat) : Int), by rw [wrap_eq (by omega) (by omega)]; omega, ?_⟩
        conv => whnf
        exact ⟨5 - (1 + 1), by omega, 1 + 1, _, by omega, rfl, Nat.le_trans hn (Nat.le_succ _), (at_set_ne _ _ (i := 0) (k := 2) (by omega)).trans ((at_old _ _ _ (by omega)).trans h0), (at_set_ne _ _ (i := 1) (k := 2) (by omega)).trans ((at_old _ _ _ (by omega)).trans h1), (at_set_self _ _ (show 2 < h.n + 1 by omega)).trans (by simp [tkFrom, tkP, penCells, rowPn, hb] <;> rfl), rfl, ⟨rfl, rfl, rfl, rfl, rfl, rfl, rfl, trivial⟩, rfl, rfl, rfl, rfl⟩
      · conv => whnf
        refine ⟨((1 + 1 : Nat) : Int), by rw [wrap_eq (by omega) (by omega)]; omega, ?_⟩
        conv => whnf
        exact ⟨5 - (1 + 1), by omega, 1 + 1, _, by omega, rfl, Nat.le_trans hn (Nat.le_succ _), (at_old _ _ _ (by omega)).trans h0, (at_old _ _ _ (by omega)).trans h1, ((at_old _ _ _ (by omega)).trans h2).trans (by simp [tkFrom, tkP, penCells, rowPn, hb] <;> rfl), rfl, ⟨rfl, rfl, rfl, rfl, rfl, rfl, rfl, trivial⟩, rfl, rfl, rfl, rfl⟩
    · refine hs1.run (hm := false) ?_
      conv => whnf
      refine ⟨⟨by decide, by decide⟩, ?_⟩
      conv => whnf
      refine ⟨_, h2, ?_⟩
      conv => whnf
      refine ⟨_, at_push_self _ _, ?_⟩
      conv => whnf
      refine .ret (has_ret s 2 hs (by omega)) rfl ?_
      conv => whnf
      cases hb : s.testBit 2
      · conv => whnf
        refine ⟨_, at_new _ _ _, ?_⟩
        conv => whnf
        refine .ret (all_ret p2.fr (fun i _ => (hf.fr 2 i).tame)) rfl ?_
        conv => whnf
        refine ⟨⟨by decide, by decide⟩, ?_⟩
        conv => whnf
        refine ⟨_, (at_old _ _ _ (by omega)).trans h2, ?_⟩
        conv => whnf
        refine ⟨((2 + 1 : Nat) : Int), by rw [wrap_eq (by omega) (by omega)]; omega, ?_⟩
        conv => whnf
        exact ⟨5 - (2 + 1), by omega, 2 + 1, _, by omega, rfl, Nat.le_trans hn (Nat.le_succ _), (at_set_ne _ _ (i := 0) (k := 2) (by omega)).trans ((at_old _ _ _ (by omega)).trans h0), (at_set_ne _ _ (i := 1) (k := 2) (by omega)).trans ((at_old _ _ _ (by omega)).trans h1), (at_set_self _ _ (show 2 < h.n + 1 by omega)).trans (by simp [tkFrom, tkP, penCells, rowPn, hb] <;> rfl), rfl, ⟨rfl, rfl, rfl, rfl, rfl, rfl, rfl, trivial⟩, rfl, rfl, rfl, rfl⟩
      · conv => whnf
        refine ⟨((2 + 1 : Nat) : Int), by rw [wrap_eq (by omega) (by omega)]; omega, ?_⟩
        conv => whnf
        exact ⟨5 - (2 + 1), by omega, 2 + 1, _, by omega, rfl, Nat.le_trans hn (Nat.le_succ _), (at_old _ _ _ (by omega)).trans h0, (at_old _ _ _ (by omega)).trans h1, ((at_old _ _ _ (by omega)).trans h2).trans (by simp [tkFrom, tkP, penCells, rowPn, hb] <;> rfl), rfl, ⟨rfl, rfl, rfl, rfl, rfl, rfl, rfl, trivial⟩, rfl, rfl, rfl, rfl⟩
    · refine hs1.run (hm := false) ?_
      conv => whnf
      refine ⟨⟨by decide, by decide⟩, ?_⟩
      conv => whnf
      refine ⟨_, h2, ?_⟩
      conv => whnf
      refine ⟨_, at_push_self _ _, ?_⟩
      conv => whnf
      refine .ret (has_ret s 3 hs (by omega)) rfl ?_
      conv => whnf
      cases hb : s.testBit 3
      · conv => whnf
        refine ⟨_, at_new _ _ _, ?_⟩
        conv => whnf
        refine .ret (all_ret p3.fr (fun i _ => (hf.fr 3 i).tame)) rfl ?_
        conv => whnf
        refine ⟨⟨by decide, by decide⟩, ?_⟩
        conv => whnf
        refine ⟨_, (at_old _ _ _ (by omega)).trans h2, ?_⟩
        conv => whnf
        refine ⟨((3 + 1 : Nat) : Int), by rw [wrap_eq (by omega) (by omega)]; omega, ?_⟩
        conv => whnf
        exact ⟨5 - (3 + 1), by omega, 3 + 1, _, by omega, rfl, Nat.le_trans hn (Nat.le_succ _), (at_set_ne _ _ (i := 0) (k := 2) (by omega)).trans ((at_old _ _ _ (by omega)).trans h0), (at_set_ne _ _ (i := 1) (k := 2) (by omega)).trans ((at_old _ _ _ (by omega)).trans h1), (at_set_self _ _ (show 2 < h.n + 1 by omega)).trans (by simp [tkFrom, tkP, penCells, rowPn, hb] <;> rfl), rfl, ⟨rfl, rfl, rfl, rfl, rfl, rfl, rfl, trivial⟩, rfl, rfl, rfl, rfl⟩
      · conv => whnf
        refine ⟨((3 + 1 : Nat) : Int), by rw [wrap_eq (by omega) (by omega)]; omega, ?_⟩
        conv => whnf
        exact ⟨5 - (3 + 1), by omega, 3 + 1, _, by omega, rfl, Nat.le_trans hn (Nat.le_succ _), (at_old _ _ _ (by omega)).trans h0, (at_old _ _ _ (by omega)).trans h1, ((at_old _ _ _ (by omega)).trans h2).trans (by simp [tkFrom, tkP, penCells, rowPn, hb] <;> rfl), rfl, ⟨rfl, rfl, rfl, rfl, rfl, rfl, rfl, trivial⟩, rfl, rfl, rfl, rfl⟩
    · refine hs1.run (hm := false) ?_
      conv => whnf
      refine ⟨⟨by decide, by decide⟩, ?_⟩
      conv => whnf
      refine ⟨_, h2, ?_⟩
      conv => whnf
      refine ⟨_, at_push_self _ _, ?_⟩
      conv => whnf
      refine .ret (has_ret s 4 hs (by omega)) rfl ?_
      conv => whnf
      cases hb : s.testBit 4
      · conv => whnf
        refine ⟨_, at_new _ _ _, ?_⟩
        conv => whnf
        refine .ret (all_ret p4.fr (fun i _ => (hf.fr 4 i).tame)) rfl ?_
        conv => whnf
        refine ⟨⟨by decide, by decide⟩, ?_⟩
        conv => whnf
        refine ⟨_, (at_old _ _ _ (by omega)).trans h2, ?_⟩
        conv => whnf
        refine ⟨((4 + 1 : Nat) : Int), by rw [wrap_eq (by omega) (by omega)]; omega, ?_⟩
        conv => whnf
        exact ⟨5 - (4 + 1), by omega, 4 + 1, _, by omega, rfl, Nat.le_trans hn (Nat.le_succ _), (at_set_ne _ _ (i := 0) (k := 2) (by omega)).trans ((at_old _ _ _ (by omega)).trans h0), (at_set_ne _ _ (i := 1) (k := 2) (by omega)).trans ((at_old _ _ _ (by omega)).trans h1), (at_set_self _ _ (show 2 < h.n + 1 by omega)).trans (by simp [tkFrom, tkP, penCells, rowPn, hb] <;> rfl), rfl, ⟨rfl, rfl, rfl, rfl, rfl, rfl, rfl, trivial⟩, rfl, rfl, rfl, rfl⟩
      · conv => whnf
        refine ⟨((4 + 1 : Nat) : Int), by rw [wrap_eq (by omega) (by omega)]; omega, ?_⟩
        conv => whnf
        exact ⟨5 - (4 + 1), by omega, 4 + 1, _, by omega, rfl, Nat.le_trans hn (Nat.le_succ _), (at_old _ _ _ (by omega)).trans h0, (at_old _ _ _ (by omega)).trans h1, ((at_old _ _ _ (by omega)).trans h2).trans (by simp [tkFrom, tkP, penCells, rowPn, hb] <;> rfl), rfl, ⟨rfl, rfl, rfl, rfl, rfl, rfl, rfl, trivial⟩, rfl, rfl, rfl, rfl⟩
    · refine hs1.run (hm := false) ?_
      conv => whnf
      refine ⟨_, h0, ?_⟩
      conv => whnf
      refine ⟨_, at_set_self _ _ (by omega), ?_⟩
      conv => whnf
      refine ⟨_, (at_set_ne _ _ (i := 1) (k := 0) (by omega)).trans h1, ?_⟩
      conv => whnf
      refine ⟨_, at_set_self _ _ (show 1 < h.n by omega), ?_⟩
      conv => whnf
      exact ⟨_, [2], snap_fl (cs := penCells (tkFrom s 5 0 [p0, p1, p2, p3, p4])) ((at_set_ne _ _ (i := 2) (k := 1) (by omega)).trans ((at_set_ne _ _ (i := 2) (k := 0) (by omega)).trans h2)) _ _ _ _ _ _ _ _ _ _ _ _ _⟩
  · simp only [List.length_cons] at h5; omega
end Go.Ag
/- Layer 2: how many sheep of all are wet, and whether some pens agree. -/
namespace Go.Ag
open Go.Proofs
set_option maxRecDepth 100000

def allLo (f : Fl) : Nat → Int
  | 0 => 0
  | j + 1 => max (allLo f j) (among f.least j + needF f (othersOf f.mobs j))
def allHi (f : Fl) : Nat → Int
  | 0 => sum4 f.most
  | j + 1 => min (allHi f j) (among f.most j + roomF f (othersOf f.mobs j))
theorem need_bound {f : Fl} (hf : FlOk f) (s : Nat) : 0 ≤ needF f s ∧ needF f s ≤ 250000 := by
  have h5 := hf.pens
  have one : ∀ k, 0 ≤ max 0 ((penF f k).lo - among (penF f k).fr (othersOf f.mobs s)) ∧ max 0 ((penF f k).lo - among (penF f k).fr (othersOf f.mobs s)) ≤ 50000 := fun k => by
    have h1 := hf.lo k
    have h2 := among_bound (fun i => hf.fr k i) (othersOf f.mobs s)
    unfold smallI at h1
    omega
  have all : ∀ q, 0 ≤ sumTo (fun k => max 0 ((penF f k).lo - among (penF f k).fr (othersOf f.mobs s))) q ∧ sumTo (fun k => max 0 ((penF f k).lo - among (penF f k).fr (othersOf f.mobs s))) q ≤ q * 50000 := by
    intro q
    induction q with
    | zero => exact ⟨Int.le_refl 0, Int.le_refl 0⟩
    | succ q ih => have := one q; simp only [sumTo]; omega
  have := all f.pens.length
  unfold needF
  omega
theorem room_bound {f : Fl} (hf : FlOk f) (s : Nat) : -1000000 ≤ roomF f s ∧ roomF f s ≤ 1000000 := by
  have h5 := hf.pens
  have h0 := among_bound hf.left s
  have one : ∀ k, -40000 ≤ min (penF f k).hi (among (penF f k).fr s) ∧ min (penF f k).hi (among (penF f k).fr s) ≤ 40000 := fun k => by
    have h1 := hf.hi k
    have h2 := among_bound (fun i => hf.fr k i) s
    unfold smallI at h1
    omega
  have := sumTo_bound (f := fun k => min (penF f k).hi (among (penF f k).fr s)) (b := 40000) f.pens.length (fun i _ => by have := one i; omega)
  unfold roomF
  omega

set_option maxHeartbeats 2000000 in
theorem allFl_ret {f : Fl} (hf : FlOk f) : Ret Try.prog 63 [flCV f] (.agg [I (allLo f (2 ^ f.mobs)), I (allHi f (2 ^ f.mobs))]) := by
  have hm := hf.mobs
  have h16 : 2 ^ f.mobs ≤ 16 := (pow_small hm (Nat.two_pow_pos f.mobs)).2
  refine ret_by (hm := false) Try.func63 rfl ?_
  conv => whnf
  refine ⟨flBlkC f, rfl, ?_⟩
  conv => whnf
  refine .ret (all_ret f.most (fun i _ => (hf.most i).tame)) rfl ?_
  conv => whnf
  refine ⟨_, at_push_self _ _, ?_⟩
  conv => whnf
  refine ⟨flBlkC f, by kernel_rfl, ?_⟩
  conv => whnf
  refine .ret (sets_ret f.mobs (by omega)) rfl ?_
  conv => whnf
  refine range_n (hm := false) 3 rfl (it := upC 0 ((2 ^ f.mobs - 1 : Nat) : Int)) (ys := upL 0 (2 ^ f.mobs) 0) rfl ?_
    (I := fun ys h => Heap.at h 0 = flBlkC f ∧ Heap.at h 1 = .blk [AV.lit (.int .i64 0), AV.lit (.int .i64 0)] ∧ ∃ j, j ≤ 2 ^ f.mobs ∧ ys = upL 0 (2 ^ f.mobs) j ∧ Heap.at h 2 = .blk [.c (I (allLo f j)), .c (I (allHi f j))])
    (E := fun e h => False) (X := fun _ _ => False) ?_ ?_ ?_ ?_ ?_ ?_ ?_
  · have := up_iter (lo := 0) (hi := ((2 ^ f.mobs - 1 : Nat) : Int)) (by unfold tame; omega) (by unfold tame; omega)
    rw [upN_sets] at this
    exact this
  · rintro ys h h' ⟨h0, h1, j, hj, hys, h2⟩ hn ff
    exact ⟨(ff.below hn (show 0 < 3 by omega)).trans h0, (ff.below hn (show 1 < 3 by omega)).trans h1, j, hj, hys, (ff.below hn (show 2 < 3 by omega)).trans h2⟩
  · rintro e h h' hx hn ff
    exact hx.elim
  · exact ⟨by kernel_rfl, by kernel_rfl, 0, Nat.zero_le _, rfl, by kernel_rfl⟩
  · rintro y ys h hn ⟨h0, h1, j, hj, hys, h2⟩
    have hlt : j < 2 ^ f.mobs := Nat.lt_of_not_le fun hle => by rw [upL_nil hle] at hys; cases hys
    rw [upL_cons hlt] at hys
    obtain ⟨rfl, rfl⟩ := List.cons.inj hys
    rw [Int.zero_add]
    conv => whnf
    refine ⟨rfl, fun hb fb hbn => ?_⟩
    have h0b := (fb.keep 0 (by omega) (by omega)).trans h0
    have h1b := (fb.keep 1 (by omega) (by omega)).trans h1
    have h2b := (fb.keep 2 (by omega) (by omega)).trans h2
    conv => whnf
    refine ⟨flBlkC f, h0b, ?_⟩
    conv => whnf
    refine .ret (allOf_ret f.mobs (by omega)) rfl ?_
    conv => whnf
    refine ⟨_, others_eq hm hlt, ?_⟩
    conv => whnf
    have ho : othersOf f.mobs j < 2 ^ f.mobs := by unfold othersOf; have := Nat.two_pow_pos f.mobs; omega
    have bl := among_bound hf.least j
    have bm := among_bound hf.most j
    have bn := need_bound hf (othersOf f.mobs j)
    have br := room_bound hf (othersOf f.mobs j)
    refine draw_by (hm := false) (by kernel_rfl) (by kernel_rfl) ?_
    conv => whnf
    refine ⟨_, h2b, ?_⟩
    conv => whnf
    refine ⟨_, h0b, ?_⟩
    conv => whnf
    refine .ret (among_ret f.least j (by omega) (fun i _ => (hf.least i).tame)) rfl ?_
    conv => whnf
    refine ⟨_, h0b, ?_⟩
    conv => whnf
    refine .ret (need_ret hf ho) rfl ?_
    conv => whnf
    refine ⟨among f.least j + needF f (othersOf f.mobs j), wrap_eq (by omega) (by omega), ?_⟩
    conv => whnf
    refine ⟨_, h2b, ?_⟩
    conv => whnf
    refine ⟨(show 2 < hb.n by omega), ?_⟩
    conv => whnf
    refine ⟨by kernel_rfl, ?_⟩
    conv => whnf
    refine draw_by (hm := false) (by kernel_rfl) (by kernel_rfl) ?_
    conv => whnf
    refine ⟨_, at_set_self _ _ (show 2 < hb.n by omega), ?_⟩
    conv => whnf
    refine ⟨_, (at_set_ne _ _ (i := 0) (k := 2) (by omega)).trans h0b, ?_⟩
    conv => whnf
    refine .ret (among_ret f.most j (by omega) (fun i _ => (hf.most i).tame)) rfl ?_
    conv => whnf
    refine ⟨_, (at_set_ne _ _ (i := 0) (k := 2) (by omega)).trans h0b, ?_⟩
    conv => whnf
    refine .ret (room_ret hf ho) rfl ?_
    conv => whnf
    refine ⟨among f.most j + roomF f (othersOf f.mobs j), wrap_eq (by omega) (by omega), ?_⟩
    conv => whnf
    refine ⟨_, at_set_self _ _ (show 2 < hb.n by omega), ?_⟩
    conv => whnf
    refine ⟨(show 2 < hb.n by omega), ?_⟩
    conv => whnf
    refine ⟨by kernel_rfl, ?_⟩
    conv => whnf
    have keep : ∀ (a b : AB) i, i ≠ 2 → Heap.at ((hb.set .dead 2 a).set .dead 2 b) i = Heap.at hb i := fun a b i hi => (at_set_ne _ _ hi).trans (at_set_ne _ _ hi)
    have two : ∀ (a b : AB), Foot (fun i => i < 3) hb ((hb.set .dead 2 a).set .dead 2 b) := fun a b => Foot.set (k := 2) (Foot.set (k := 2) (Foot.refl _ _) (.inl (by decide)) a) (.inl (by decide)) b
    exact ⟨two _ _, (keep _ _ 0 (by decide)).trans h0b, (keep _ _ 1 (by decide)).trans h1b, j + 1, hlt, rfl, at_set_self _ _ (show 2 < hb.n by omega)⟩
  · rintro h hn hc ⟨h0, h1, j, hj, hys, h2⟩
    have : j = 2 ^ f.mobs := Nat.le_antisymm hj (Nat.le_of_not_lt fun hlt => by rw [upL_cons hlt] at hys; cases hys)
    subst this
    conv => whnf
    refine ⟨_, h2, ?_⟩
    conv => whnf
    refine ⟨_, h1, ?_⟩
    conv => whnf
    refine ⟨_, (at_set_ne _ _ (i := 3) (k := 1) (by omega)).trans hc, ?_⟩
    conv => whnf
    refine ⟨_, (at_set_ne _ _ (i := 1) (k := 3) (by omega)).trans (at_set_self _ _ (show 1 < h.n by omega)), ?_⟩
    conv => whnf
    exact .val
  · rintro e h hn hc hx _
    exact hx.elim
  · rintro v h _ _ hx
    exact hx.elim

/-- Whether some pens agree with what is known. -/
def specAgree (f : Fl) : K4 → Bool := fun key => possibleF (takingF f key.a.toNat)
theorem tk_get : ∀ (s q i : Nat) (l : List Pn) (k : Nat), (tkFrom s q i l)[k]? = (l[k]?).map (tkP s q (i + k))
  | _, _, _, [], k => by simp [tkFrom]
  | s, q, i, p :: l, 0 => by simp [tkFrom]
  | s, q, i, p :: l, k + 1 => by
    have := tk_get s q (i + 1) l k
    simp only [tkFrom, List.getElem?_cons_succ, this]
    congr 2
    omega
theorem tk_len : ∀ (s q i : Nat) (l : List Pn), (tkFrom s q i l).length = l.length
  | _, _, _, [] => rfl
  | s, q, i, _ :: l => by simp [tkFrom, tk_len s q (i + 1) l]
end Go.Ag
/- Layer 2: whether some pens agree; All. -/
namespace Go.Ag
open Go.Proofs
set_option maxRecDepth 100000

theorem taking_pen (f : Fl) (s k : Nat) : penF (takingF f s) k = penF f k ∨ penF (takingF f s) k = ⟨(penF f k).fr, 0, sum4 (penF f k).fr⟩ := by
  unfold penF takingF
  simp only [List.getD_eq_getElem?_getD, tk_get, Nat.zero_add]
  cases h : f.pens[k]? with
  | none => left; rfl
  | some p =>
    simp only [Option.map_some, Option.getD_some]
    unfold tkP
    split
    · right; rfl
    · left; rfl
theorem taking_ok {f : Fl} (hf : FlNear f) (s : Nat) : FlOk (takingF f s) := by
  have z0 : smallI 0 := by unfold smallI; omega
  have s4 : ∀ k, smallI (sum4 (penF f k).fr) := fun k => by
    have := sumTo_bound (f := (penF f k).fr) (b := 1000) 4 (fun i _ => by have := hf.fr k i; unfold nearI at this; omega)
    unfold sum4 smallI
    omega
  refine ⟨hf.ok.mobs, hf.ok.least, hf.ok.most, hf.ok.left, by show (tkFrom s f.pens.length 0 f.pens).length ≤ 5; rw [tk_len]; exact hf.ok.pens, fun k i => ?_, fun k => ?_, fun k => ?_⟩
  · rcases taking_pen f s k with h | h
    · rw [h]; exact hf.ok.fr k i
    · rw [h]; exact hf.ok.fr k i
  · rcases taking_pen f s k with h | h
    · rw [h]; exact hf.ok.lo k
    · rw [h]; exact z0
  · rcases taking_pen f s k with h | h
    · rw [h]; exact hf.ok.hi k
    · rw [h]; exact s4 k

theorem held_taking {f : Fl} (hf : FlOk f) (hne : f.pens ≠ []) {s : Nat} (hs : s < 2 ^ 63) {m a b : Nat} {h : Heap} (ha : Heap.at h a = knBlk f m) (hb : Heap.at h b = .blk [.c (I s)]) :
    ∃ h2, CallOk Try.prog 84 [.ptr a 0, .ptr b 0] h .no (.ret (.c (flCV (takingF f s)))) h2 .no ∧ Foot (fun _ => False) h h2 := by
  suffices H : ∃ e h2, CallOk Try.prog 84 [.ptr a 0, .ptr b 0] h .no e h2 .no ∧ (e = .ret (.c (flCV (takingF f s))) ∧ Foot (fun _ => False) h h2) by
    obtain ⟨e, h2, h3, rfl, h4⟩ := H
    exact ⟨h2, h3, h4⟩
  have lt : ∀ {i x}, Heap.at h i = .blk x → i < h.n := fun {i x} hx => Nat.lt_of_not_le fun hle => by
    unfold Heap.at at hx; rw [TMap.get_ge hle] at hx; cases hx
  have la := lt ha
  have lb := lt hb
  refine call_by (hm := false) Try.func84 rfl ?_
  conv => whnf
  refine ⟨_, (at_push_lt _ _ la).trans ha, ?_⟩
  conv => whnf
  refine ⟨_, (at_push_lt _ _ lb).trans hb, ?_⟩
  conv => whnf
  refine .ret (taking_ret hf hne hs) rfl ?_
  conv => whnf
  refine ⟨_, at_push_self _ _, ?_⟩
  conv => whnf
  refine ⟨_, at_new _ _ _, ?_⟩
  conv => whnf
  exact ⟨rfl, Foot.set ((Foot.refl _ _).push _) (.inr (Nat.le_refl _)) _⟩

set_option maxHeartbeats 1000000 in
theorem agree_ret {f : Fl} (hf : FlNear f) (hne : f.pens ≠ []) {s : Nat} (hs : s < 2 ^ 63) {m : Nat} {h : Heap} (hm : m < h.n) (hI : MapInv (specAgree f) (Heap.at h m)) :
    ∃ e h', CallOk Try.prog 61 [knAV f m, .c (I s)] h .no e h' .no ∧ (e = .ret (.c (B (possibleF (takingF f s)))) ∧ Foot (fun i => i = m) h h' ∧ MapInv (specAgree f) (Heap.at h' m)) := by
  refine call_by (hm := false) Try.func61 rfl ?_
  have a0 : ∀ a b c c', Heap.at ((((h.push .dead a).push .dead b).push .dead c).set .dead (h.n + 2) c') h.n = a := fun a b c c' => (at_set_ne _ _ (i := h.n) (k := h.n + 2) (by omega)).trans ((at_push_lt _ _ (by simp only [push_n]; omega)).trans ((at_push_lt _ _ (by simp only [push_n]; omega)).trans (at_push_self _ _)))
  have a1 : ∀ a b c c', Heap.at ((((h.push .dead a).push .dead b).push .dead c).set .dead (h.n + 2) c') (h.n + 1) = b := fun a b c c' => (at_set_ne _ _ (i := h.n + 1) (k := h.n + 2) (by omega)).trans ((at_push_lt _ _ (by simp only [push_n]; omega)).trans (at_push_self _ _))
  have am : ∀ a b c c', Heap.at ((((h.push .dead a).push .dead b).push .dead c).set .dead (h.n + 2) c') m = Heap.at h m := fun a b c c' => (at_set_ne _ _ (i := m) (k := h.n + 2) (by omega)).trans ((at_push_lt _ _ (by simp only [push_n]; omega)).trans ((at_push_lt _ _ (by simp only [push_n]; omega)).trans (at_push_lt _ _ hm)))
  have ft : ∀ a b c c', Foot (fun _ => False) h ((((h.push .dead a).push .dead b).push .dead c).set .dead (h.n + 2) c') := fun a b c c' => Foot.set (k := h.n + 2) ((((Foot.refl _ _).push _).push _).push _) (.inr (by omega)) _
  conv => whnf
  refine ⟨_, at_push_self _ _, ?_⟩
  conv => whnf
  refine ⟨knBlk f m, a0 _ _ _ _, ?_⟩
  conv => whnf
  refine ⟨_, a1 _ _ _ _, ?_⟩
  conv => whnf
  refine ⟨_, at_set_self _ _ (show h.n + 2 < h.n + 3 by omega), ?_⟩
  conv => whnf
  obtain ⟨e, h', hc, rfl, hf', hI'⟩ := known_possible (f := f) (fl := takingF f s) (m := m) (h := (((h.push .dead (knBlk f m)).push .dead (.blk [.c (I s)])).push .dead (.blk [AV.lit (.int .i64 0), AV.lit (.int .i64 0), AV.lit (.int .i64 0)])).set .dead (h.n + 2) (.blk [.c (I (-1)), .c (I (-1)), .c (I 0)])) (spec := specAgree f) (k := ⟨(s : Int), -1, -1, 0⟩) (g := 84) (cap := [.ptr h.n 0, .ptr (h.n + 1) 0]) (.inr rfl)
    (by show m < h.n + 3; omega) (mapInv_eq (am _ _ _ _) hI) (taking_ok hf s) rfl (fun h1 f1 => held_taking hf.ok hne hs ((f1.keep _ (by show h.n < h.n + 3; omega) (by simp)).trans (a0 _ _ _ _)) ((f1.keep _ (by show h.n + 1 < h.n + 3; omega) (by simp)).trans (a1 _ _ _ _)))
  refine .inl _ h' .no hc ?_
  conv => whnf
  exact ⟨rfl, ((ft _ _ _ _).mono (fun _ _ h => h.elim)).trans hf', hI'⟩

def allS (d : Dr) : Option (Int × Int) := if possibleF (takingF (flockF d) (2 ^ d.pens.length - 1)) then some (allLo (flockF d) (2 ^ d.mobs.length), allHi (flockF d) (2 ^ d.mobs.length)) else none
set_option maxHeartbeats 1000000 in
theorem find_all {v : DV} {d : Dr} (hv : v.Is d) (hd : validB d = true) : CallOk Try.prog 59 ([dP v].map .c) TMap.nil .no (endOf (allS d)) TMap.nil .no := by
  obtain ⟨s1, s2, s3, s4, _⟩ := valid_sizes hd
  have e1 := hv.pn
  have hp : d.pens ≠ [] := fun e => by rw [e] at s3; simp at s3
  have hf := flock_near hd
  have hpf : (flockF d).pens ≠ [] := fun e => hp (by simpa [flockF] using e)
  have hs63 : 2 ^ d.pens.length - 1 < 2 ^ 63 := by
    have : 2 ^ d.pens.length ≤ 2 ^ 5 := Nat.pow_le_pow_right (by omega) s4
    omega
  suffices H : ∃ e h', CallOk Try.prog 59 ([dP v].map .c) TMap.nil .no e h' .no ∧ e = endOf (allS d) by
    obtain ⟨e, h', hc, rfl⟩ := H
    have hval : ∃ c, (endOf (allS d)).val = .c c ∧ (endOf (allS d)).setVal (.c c) = endOf (allS d) := by
      cases allS d with
      | none => exact ⟨_, rfl, rfl⟩
      | some s => exact ⟨_, rfl, rfl⟩
    obtain ⟨c, h1, h2⟩ := hval
    have := callOk_close (args := [dP v]) hc (fuel := 1) (r := (c, [])) (by rw [h1]; rfl)
    rw [h2] at this
    exact this
  refine call_by (hm := false) Try.func59 rfl ?_
  conv => whnf
  refine ⟨_, rfl, ?_⟩
  conv => whnf
  obtain ⟨e1', h1, hc1, m, rfl, hm0, hm1, hI1, f1⟩ := know_ret hv s2 hp (specAgree (flockF d)) (TMap.push .dead TMap.nil (.blk [AV.lit (.int .i64 0), AV.lit (.int .i64 0)]))
  have hm0 : 1 ≤ m := hm0
  have hn1 : 1 ≤ h1.n := f1.n
  refine .inl _ h1 .no hc1 ?_
  conv => whnf
  refine ⟨_, at_push_self _ _, ?_⟩
  conv => whnf
  refine mixed_by (hm := false) (by kernel_rfl) (by kernel_rfl) ?_
  conv => whnf
  refine ⟨knBlk (flockF d) m, at_new _ _ _, ?_⟩
  conv => whnf
  refine ⟨_, rfl, ?_⟩
  conv => whnf
  refine .ret _ _ (allOf_ret v.pn (by omega)) rfl ?_
  conv => whnf
  rw [e1]
  obtain ⟨e2', h2, hc2, he2, f2, hI2⟩ := agree_ret hf hpf hs63 (m := m) (h := (h1.push .dead (.blk [AV.lit (.int .i64 0), AV.lit (.int .i64 0), AV.lit (.int .i64 0), AV.lit (.int .i64 0), AV.lit (.int .i64 0), AV.lit (.int .i64 0), AV.lit (.int .i64 0), AV.lit (.int .i64 0), AV.lit (.int .i64 0), AV.lit (.int .i64 0), AV.lit (.int .i64 0), AV.lit (.int .i64 0), AV.lit (.int .i64 0), AV.lit (.slice none 0 0), AV.lit (.map none)])).set .dead h1.n (knBlk (flockF d) m)) (by show m < h1.n + 1; omega) (mapInv_eq (at_old _ _ _ hm1) hI1)
  subst he2
  refine .heavy _ h2 (.inl hc2) ?_
  conv => whnf
  refine ⟨by kernel_rfl, heaps_nil (by kernel_rfl), ?_⟩
  conv => whnf
  cases hp1 : possibleF (takingF (flockF d) (2 ^ d.pens.length - 1))
  · have ha : allS d = none := by unfold allS; rw [hp1]; rfl
    rw [ha]
    conv => whnf
    rfl
  · have ha : allS d = some (allLo (flockF d) (2 ^ d.mobs.length), allHi (flockF d) (2 ^ d.mobs.length)) := by unfold allS; rw [hp1]; rfl
    rw [ha]
    have hn2 : h1.n + 1 ≤ h2.n := f2.n
    have g1 : Heap.at h2 h1.n = knBlk (flockF d) m := (f2.keep _ (by show h1.n < h1.n + 1; omega) (by omega)).trans (at_new _ _ _)
    have g0 : Heap.at h2 0 = .blk [AV.lit (.int .i64 0), AV.lit (.int .i64 0)] := (f2.keep 0 (by show 0 < h1.n + 1; omega) (by omega)).trans ((at_old _ _ _ (by omega)).trans ((f1.keep 0 (Nat.lt_succ_self 0) (by simp)).trans (at_push_self _ _)))
    conv => whnf
    refine ⟨_, g1, ?_⟩
    conv => whnf
    refine .ret (allFl_ret hf.ok) rfl ?_
    conv => whnf
    refine ⟨_, g0, ?_⟩
    conv => whnf
    refine ⟨_, at_set_self _ _ (i := 0) (by omega), ?_⟩
    conv => whnf
    rfl

theorem told_all_ret {v : DV} {d : Dr} (hv : v.Is d) (hd : validB d = true) : Ret Try.prog 58 [.func (.func 59) [] [dP v]] (toldV (allS d)) := by
  have hc := find_all hv hd
  refine ret_by (hm := true) Try.func58 rfl ?_
  conv => whnf
  cases hsp : allS d with
  | none =>
    rw [hsp] at hc
    refine .pure [dP v] _ rfl hc ⟨_, rfl⟩ ?_
    conv => whnf
    refine .mk _ _ _ (caught_live (c := 10) (c0 := 10) rfl) ?_
    conv => whnf
    exact .val
  | some s =>
    rw [hsp] at hc
    refine .pure [dP v] _ rfl hc ⟨_, rfl⟩ ?_
    conv => whnf
    refine .mk _ _ _ (caught_no _ _) ?_
    conv => whnf
    exact .val

/-- What All returns. -/
def allR (d : Dr) : (Int × Int) × Int := if validB d = false then ((0, 0), 1) else match allS d with
  | some s => (s, 0)
  | none => ((0, 0), 10)
theorem allOf2_ret {v : DV} {d : Dr} (hv : v.Is d) : Ret Try.prog 26 [v.cv] (.tuple [.agg [I (allR d).1.1, I (allR d).1.2], I (allR d).2]) := by
  refine ret_by (hm := true) Try.func26 rfl ?_
  conv => whnf
  refine .ret (valid_ret hv) rfl ?_
  conv => whnf
  unfold allR
  cases h1 : validB d
  · conv => whnf
    exact .val
  have hc := told_all_ret hv h1
  simp only [Bool.true_eq_false, if_false]
  conv => whnf
  cases hsp : allS d with
  | none =>
    rw [hsp] at hc
    refine .snapped 10 _ _ _ _ rfl hc rfl ?_
    conv => whnf
    exact .val
  | some s =>
    rw [hsp] at hc
    refine .snapped 10 _ _ _ _ rfl hc rfl ?_
    conv => whnf
    exact .val
end Go.Ag
/- Layer 2: a copy of a drove. -/
namespace Go.Ag
open Go.Proofs
set_option maxRecDepth 100000

theorem U22 : Try.prog.underlying 22 = some (.slice 56) := Try.underlying22
theorem U23 : Try.prog.underlying 23 = some (.slice 53) := Try.underlying23
theorem S56 : slicePart Try.prog 56 = some 3 := by kernel_rfl
theorem S53 : slicePart Try.prog 53 = some 6 := by kernel_rfl
/-- The whole of a slice's rows, as cells. -/
theorem SlOf.first {sz : Nat} {rows : List (List CV)} {cells : List CV} {off len : Nat} (h : SlOf sz rows cells off len) (hsz : ∀ r ∈ rows, r.length = sz) (rd : Nat → AB) : firstCells rd sz (.c (.sl cells off len)) = some (rows.flatten.map .c, rows.length, []) := by
  have key : ∀ (rows : List (List CV)) (off : Nat), (∀ r ∈ rows, r.length = sz) → (∀ i (r : List CV), rows[i]? = some r → sliceOf cells (off + i * sz) sz = some r) → sliceOf cells off (rows.length * sz) = some rows.flatten := by
    intro rows
    induction rows with
    | nil => intro off _ _; simp [sliceOf]
    | cons r rows ih =>
      intro off hs hr
      have h0 := hr 0 r rfl
      rw [Nat.zero_mul, Nat.add_zero] at h0
      have h1 := ih (off + sz) (fun r hr => hs r (by simp [hr])) (fun i r hir => by
        have := hr (i + 1) r (by simpa using hir)
        rw [Nat.add_mul, Nat.one_mul] at this
        rw [show off + sz + i * sz = off + (i * sz + sz) by omega]
        exact this)
      unfold sliceOf at h0 h1 ⊢
      dsimp only at h0 h1 ⊢
      split at h0
      · split at h1
        · simp only [Option.some.injEq] at h0 h1
          have e : List.take ((r :: rows).length * sz) (List.drop off cells) = (r :: rows).flatten := by
            rw [List.length_cons, Nat.add_mul, Nat.one_mul, Nat.add_comm, List.take_add, List.drop_drop, h0, h1, List.flatten_cons]
          rw [e, if_pos]
          rw [List.flatten_cons, List.length_append, ← h1]
          rename_i q1 q2
          rw [q2, hs r (by simp), List.length_cons, Nat.add_mul]
          omega
        · cases h1
      · cases h0
  have := key rows off hsz h.row
  simp only [firstCells]
  rw [h.len, this]
  rfl

/-! Ids that are told from a heap's size. -/
structure Sk where
  idx : Nat
  dst : Option Tmp
  looks : List Tmp
  reads : List Nat
  writes : List Nat
def DRec.sk (r : DRec) : Sk := ⟨r.idx, r.dst, r.looks, r.reads, r.writes⟩
def Sk.up (N : Nat) (r : Sk) : Sk := ⟨r.idx, r.dst, r.looks, r.reads.map (N + ·), r.writes.map (N + ·)⟩
def indepS (a b : Sk) : Bool :=
  (match a.dst with | some d => !b.looks.contains d && b.dst != some d | none => true) &&
  (match b.dst with | some d => !a.looks.contains d | none => true) &&
  a.writes.all (fun i => !b.reads.contains i && !b.writes.contains i) && b.writes.all (fun i => !a.reads.contains i)
def pairsS (ms : List Nat) : List Sk → Bool
  | [] => true
  | r :: l => l.all (fun x => (ms.getD x.idx 0).testBit r.idx || indepS r x) && pairsS ms l
theorem pairs_sk (ms : List Nat) : ∀ l : List DRec, pairsOk ms l = pairsS ms (l.map DRec.sk)
  | [] => rfl
  | r :: l => by
    simp only [pairsOk, List.map_cons, pairsS, pairs_sk ms l, List.all_map]
    rfl
theorem contains_up (N i : Nat) (l : List Nat) : (l.map (N + ·)).contains (N + i) = l.contains i := by
  induction l with
  | nil => rfl
  | cons a l ih =>
    have e : (N + i == N + a) = (i == a) := by rw [Bool.eq_iff_iff]; simp
    simp only [List.map_cons, List.contains_cons, ih, e]
theorem indep_up (N : Nat) (a b : Sk) : indepS (a.up N) (b.up N) = indepS a b := by
  simp only [indepS, Sk.up, List.all_map, Function.comp_def, contains_up]
theorem pairs_up (ms : List Nat) (N : Nat) : ∀ l : List Sk, pairsS ms (l.map (Sk.up N)) = pairsS ms l
  | [] => rfl
  | r :: l => by
    simp only [List.map_cons, pairsS, pairs_up ms N l, List.all_map, Function.comp_def, indep_up]
    rfl
theorem pairs_from {ms : List Nat} {l : List DRec} (N : Nat) (l0 : List Sk) (he : l.map DRec.sk = l0.map (Sk.up N)) (hb : pairsS ms l0 = true) : pairsOk ms l = true := by
  rw [pairs_sk, he, pairs_up, hb]

def cpH (v : DV) (d : Dr) (h : Heap) : Heap := (((((((h.push .dead (.blk [.c (.sl v.mc v.mo v.mn), .c (.sl v.pc v.po v.pn), .c (I v.lim)])).push .dead (.blk [AV.lit (.slice none 0 0), AV.lit (.slice none 0 0), AV.lit (.int .i64 0)])).push .dead (.blk [])).set .dead (h.n + 2) .dead).push .dead (.blk ([] ++ (d.mobs.map rowMo).flatten.map .c))).push .dead (.blk [])).set .dead (h.n + 4) .dead).push .dead (.blk ([] ++ (d.pens.map rowPn).flatten.map .c))
theorem cpH_n (v : DV) (d : Dr) (h : Heap) : (cpH v d h).n = h.n + 6 := rfl
theorem cpH_0 (v : DV) (d : Dr) (h : Heap) : Heap.at (cpH v d h) h.n = .blk [.c (.sl v.mc v.mo v.mn), .c (.sl v.pc v.po v.pn), .c (I v.lim)] := by
  have h2 : h.n ≠ h.n + 1 + 1 := by omega
  have h3 : h.n ≠ h.n + 1 + 1 + 1 := by omega
  have h4 : h.n ≠ h.n + 1 + 1 + 1 + 1 := by omega
  have h5 : h.n ≠ h.n + 1 + 1 + 1 + 1 + 1 := by omega
  unfold cpH
  simp [at_set, at_push, push_n, TMap.set_n, h2, h3, h4, h5]
theorem cpH_1 (v : DV) (d : Dr) (h : Heap) : Heap.at (cpH v d h) (h.n + 1) = .blk [AV.lit (.slice none 0 0), AV.lit (.slice none 0 0), AV.lit (.int .i64 0)] := by unfold cpH; simp [at_set, at_push, push_n, TMap.set_n]
theorem cpH_3 (v : DV) (d : Dr) (h : Heap) : Heap.at (cpH v d h) (h.n + 3) = .blk ((d.mobs.map rowMo).flatten.map .c) := by unfold cpH; simp [at_set, at_push, push_n, TMap.set_n]
theorem cpH_5 (v : DV) (d : Dr) (h : Heap) : Heap.at (cpH v d h) (h.n + 5) = .blk ((d.pens.map rowPn).flatten.map .c) := by unfold cpH; simp [at_set, at_push, push_n, TMap.set_n]
theorem cpH_lt (v : DV) (d : Dr) (h : Heap) {i : Nat} (hi : i < h.n) : Heap.at (cpH v d h) i = Heap.at h i := by
  have h0 : i ≠ h.n := by omega
  have h1 : i ≠ h.n + 1 := by omega
  have h2 : i ≠ h.n + 1 + 1 := by omega
  have h3 : i ≠ h.n + 1 + 1 + 1 := by omega
  have h4 : i ≠ h.n + 1 + 1 + 1 + 1 := by omega
  have h5 : i ≠ h.n + 1 + 1 + 1 + 1 + 1 := by omega
  have g2 : i ≠ h.n + 2 := by omega
  have g4 : i ≠ h.n + 4 := by omega
  unfold cpH
  simp [at_set, at_push, push_n, TMap.set_n, h0, h1, h2, h3, h4, h5, g2, g4]

theorem copied_ret {v : DV} {d : Dr} (hv : v.Is d) (hm : 1 ≤ d.mobs.length) (hp : 1 ≤ d.pens.length) (h : Heap) : ∃ e h', CallOk Try.prog 36 [.c v.cv] h .no e h' .no ∧ (e = .ret (.agg [.msl (h.n + 3) 3 0 d.mobs.length d.mobs.length, .msl (h.n + 5) 6 0 d.pens.length d.pens.length, .c (I v.lim)]) ∧
    Foot (fun _ => False) h h' ∧ Heap.at h' (h.n + 3) = .blk ((d.mobs.map rowMo).flatten.map .c) ∧ Heap.at h' (h.n + 5) = .blk ((d.pens.map rowPn).flatten.map .c) ∧ h'.n = h.n + 6) := by
  refine call_by (hm := false) Try.func36 rfl ?_
  conv => whnf
  refine draw_by (hm := false) (by kernel_rfl) (by kernel_rfl) ?_
  have fm : ∀ rd, firstCells rd 3 (.c (.sl v.mc v.mo v.mn)) = some (((d.mobs.map rowMo).flatten.map .c), (d.mobs.map rowMo).length, []) := fun rd => hv.m.first (by intro r hr; obtain ⟨x, _, rfl⟩ := List.mem_map.1 hr; rfl) rd
  have fp : ∀ rd, firstCells rd 6 (.c (.sl v.pc v.po v.pn)) = some (((d.pens.map rowPn).flatten.map .c), (d.pens.map rowPn).length, []) := fun rd => hv.p.first (by intro r hr; obtain ⟨x, _, rfl⟩ := List.mem_map.1 hr; rfl) rd
  have cm : ((d.mobs.map rowMo).flatten.map AV.c).all AV.cellish = true := by
    rw [List.all_eq_true]
    intro c hc
    obtain ⟨c0, h0, rfl⟩ := List.mem_map.1 hc
    obtain ⟨r, hr, hcr⟩ := List.mem_flatten.1 h0
    obtain ⟨x, _, rfl⟩ := List.mem_map.1 hr
    simp only [rowMo, List.mem_cons, List.not_mem_nil, or_false] at hcr
    rcases hcr with rfl | rfl | rfl <;> rfl
  have cp : ((d.pens.map rowPn).flatten.map AV.c).all AV.cellish = true := by
    rw [List.all_eq_true]
    intro c hc
    obtain ⟨c0, h0, rfl⟩ := List.mem_map.1 hc
    obtain ⟨z, rfl⟩ := pen_cells_ints d.pens c0 h0
    rfl
  have lim : limit = limit := rfl
  conv => whnf
  refine ⟨_, (at_push_lt _ _ (by simp only [push_n]; omega)).trans ((at_push_lt _ _ (by simp only [push_n]; omega)).trans (at_push_self _ _)), ?_⟩
  conv => whnf
  have lm : 0 + (d.mobs.map rowMo).length ≤ limit := by rw [List.length_map]; have := hv.short; unfold limit; omega
  have lp : 0 + (d.pens.map rowPn).length ≤ limit := by rw [List.length_map]; have := hv.short; unfold limit; omega
  refine ⟨_, append_grow (id := h.n + 2) (len := 0) (cells := []) rfl rfl U22 U22 rfl S56 (fm _) cm (by rw [List.length_map]; omega) lm (at_push_self _ _) rfl, ?_⟩
  conv => whnf
  refine ⟨by simp only [List.all_cons, List.all_nil, Bool.and_true, decide_eq_true_eq]; show h.n + 2 < h.n + 3; omega, ?_⟩
  conv => whnf
  have b0 : Heap.at ((((((h.push .dead (.blk [.c (.sl v.mc v.mo v.mn), .c (.sl v.pc v.po v.pn), .c (I v.lim)])).push .dead (.blk [AV.lit (.slice none 0 0), AV.lit (.slice none 0 0), AV.lit (.int .i64 0)])).push .dead (.blk [])).set .dead (h.n + 2) .dead).push .dead (.blk ([] ++ (d.mobs.map rowMo).flatten.map .c))).push .dead (.blk [])) h.n = .blk [.c (.sl v.mc v.mo v.mn), .c (.sl v.pc v.po v.pn), .c (I v.lim)] :=
    (at_push_lt _ _ (by show h.n < h.n + 4; omega)).trans ((at_push_lt _ _ (by show h.n < h.n + 3; omega)).trans ((at_set_ne _ _ (by omega)).trans ((at_push_lt _ _ (by show h.n < h.n + 2; omega)).trans ((at_push_lt _ _ (by show h.n < h.n + 1; omega)).trans (at_push_self _ _)))))
  refine ⟨_, b0, ?_⟩
  conv => whnf
  refine ⟨_, append_grow (id := h.n + 4) (len := 0) (cells := []) rfl rfl U23 U23 rfl S53 (fp _) cp (by rw [List.length_map]; omega) lp (at_push_self _ _) rfl, ?_⟩
  conv => whnf
  refine ⟨by simp only [List.all_cons, List.all_nil, Bool.and_true, decide_eq_true_eq]; show h.n + 4 < h.n + 5; omega, ?_⟩
  conv => whnf
  refine ⟨_, cpH_0 v d h, ?_⟩
  conv => whnf
  refine ⟨(show h.n < h.n + 6 by omega), ?_⟩
  conv => whnf
  refine ⟨_, at_set_self _ _ (show h.n < h.n + 6 by omega), ?_⟩
  conv => whnf
  refine ⟨(show h.n < h.n + 6 by omega), ?_⟩
  conv => whnf
  refine ⟨pairs_from h.n [⟨0, some 3, _, [], [2]⟩, ⟨1, some 4, _, [], []⟩, ⟨2, some 5, _, [0], []⟩, ⟨3, some 6, _, [2], [2, 3]⟩, ⟨4, some 7, _, [], [4]⟩, ⟨5, some 8, _, [], []⟩, ⟨6, some 9, _, [0], []⟩, ⟨7, some 10, _, [4], [4, 5]⟩, ⟨8, some 11, _, [], []⟩, ⟨9, none, _, [0], [0]⟩, ⟨10, some 12, _, [], []⟩, ⟨11, none, _, [0], [0]⟩] rfl (by kernel_rfl), ?_⟩
  conv => whnf
  refine ⟨_, at_set_self _ _ (show h.n < h.n + 6 by omega), ?_⟩
  conv => whnf
  refine ⟨_, (at_set_ne _ _ (i := h.n + 1) (k := h.n) (by omega)).trans ((at_set_ne _ _ (i := h.n + 1) (k := h.n) (by omega)).trans (cpH_1 v d h)), ?_⟩
  conv => whnf
  refine ⟨_, at_set_self _ _ (show h.n + 1 < h.n + 6 by omega), ?_⟩
  conv => whnf
  have keep : ∀ a b c i, i ≠ h.n → i ≠ h.n + 1 → Heap.at ((((cpH v d h).set .dead h.n a).set .dead h.n b).set .dead (h.n + 1) c) i = Heap.at (cpH v d h) i := fun a b c i h1 h2 => (at_set_ne _ _ h2).trans ((at_set_ne _ _ h1).trans (at_set_ne _ _ h1))
  have lm2 : 0 + (d.mobs.map rowMo).length = d.mobs.length := by simp
  have lp2 : 0 + (d.pens.map rowPn).length = d.pens.length := by simp
  refine ⟨?_, ⟨by show h.n ≤ h.n + 6; omega, fun i hi _ => (keep _ _ _ i (by omega) (by omega)).trans (cpH_lt v d h hi)⟩, (keep _ _ _ _ (by omega) (by omega)).trans (cpH_3 v d h), (keep _ _ _ _ (by omega) (by omega)).trans (cpH_5 v d h), rfl⟩
  show AEnd.ret (.agg [.msl (h.n + 3) 3 0 (0 + (d.mobs.map rowMo).length) (0 + (d.mobs.map rowMo).length), .msl (h.n + 5) 6 0 (0 + (d.pens.map rowPn).length) (0 + (d.pens.map rowPn).length), .c (I v.lim)]) = _
  rw [lm2, lp2]
end Go.Ag
/- Layer 2: how many bits are set. -/
namespace Go.Ag
open Go.Proofs
set_option maxRecDepth 100000

def pop (n : Nat) : Nat := n % 2 + n / 2 % 2 + n / 4 % 2 + n / 8 % 2 + n / 16 % 2
noncomputable def cfg0 : Cfg := { P := Try.prog, pure := fun _ => true, con := fun _ _ => none }
theorem con0 : ConOk cfg0 := fun f args e h => by cases h
theorem mix0 : Try.prog.follows .mixedOrders = true := by kernel_rfl
theorem U119 : Try.prog.underlying 119 = some (.int .u64) := by kernel_rfl
def onesE (n c : Nat) : Known := ⟨92, [.lit (.int .u64 n)], I c⟩
theorem ones0 : (onesE 0 (pop 0)).ok Try.prog := tells_ok (C := cfg0) mix0 con0 (n := 2000) (by kernel_rfl)
theorem ones1 : (onesE 1 (pop 1)).ok Try.prog := tells_ok (C := cfg0) mix0 con0 (n := 2000) (by kernel_rfl)
theorem ones2 : (onesE 2 (pop 2)).ok Try.prog := tells_ok (C := cfg0) mix0 con0 (n := 2000) (by kernel_rfl)
theorem ones3 : (onesE 3 (pop 3)).ok Try.prog := tells_ok (C := cfg0) mix0 con0 (n := 2000) (by kernel_rfl)
theorem ones4 : (onesE 4 (pop 4)).ok Try.prog := tells_ok (C := cfg0) mix0 con0 (n := 2000) (by kernel_rfl)
theorem ones5 : (onesE 5 (pop 5)).ok Try.prog := tells_ok (C := cfg0) mix0 con0 (n := 2000) (by kernel_rfl)
theorem ones6 : (onesE 6 (pop 6)).ok Try.prog := tells_ok (C := cfg0) mix0 con0 (n := 2000) (by kernel_rfl)
theorem ones7 : (onesE 7 (pop 7)).ok Try.prog := tells_ok (C := cfg0) mix0 con0 (n := 2000) (by kernel_rfl)
theorem ones8 : (onesE 8 (pop 8)).ok Try.prog := tells_ok (C := cfg0) mix0 con0 (n := 2000) (by kernel_rfl)
theorem ones9 : (onesE 9 (pop 9)).ok Try.prog := tells_ok (C := cfg0) mix0 con0 (n := 2000) (by kernel_rfl)
theorem ones10 : (onesE 10 (pop 10)).ok Try.prog := tells_ok (C := cfg0) mix0 con0 (n := 2000) (by kernel_rfl)
theorem ones11 : (onesE 11 (pop 11)).ok Try.prog := tells_ok (C := cfg0) mix0 con0 (n := 2000) (by kernel_rfl)
theorem ones12 : (onesE 12 (pop 12)).ok Try.prog := tells_ok (C := cfg0) mix0 con0 (n := 2000) (by kernel_rfl)
theorem ones13 : (onesE 13 (pop 13)).ok Try.prog := tells_ok (C := cfg0) mix0 con0 (n := 2000) (by kernel_rfl)
theorem ones14 : (onesE 14 (pop 14)).ok Try.prog := tells_ok (C := cfg0) mix0 con0 (n := 2000) (by kernel_rfl)
theorem ones15 : (onesE 15 (pop 15)).ok Try.prog := tells_ok (C := cfg0) mix0 con0 (n := 2000) (by kernel_rfl)
theorem ones16 : (onesE 16 (pop 16)).ok Try.prog := tells_ok (C := cfg0) mix0 con0 (n := 2000) (by kernel_rfl)
theorem ones17 : (onesE 17 (pop 17)).ok Try.prog := tells_ok (C := cfg0) mix0 con0 (n := 2000) (by kernel_rfl)
theorem ones18 : (onesE 18 (pop 18)).ok Try.prog := tells_ok (C := cfg0) mix0 con0 (n := 2000) (by kernel_rfl)
theorem ones19 : (onesE 19 (pop 19)).ok Try.prog := tells_ok (C := cfg0) mix0 con0 (n := 2000) (by kernel_rfl)
theorem ones20 : (onesE 20 (pop 20)).ok Try.prog := tells_ok (C := cfg0) mix0 con0 (n := 2000) (by kernel_rfl)
theorem ones21 : (onesE 21 (pop 21)).ok Try.prog := tells_ok (C := cfg0) mix0 con0 (n := 2000) (by kernel_rfl)
theorem ones22 : (onesE 22 (pop 22)).ok Try.prog := tells_ok (C := cfg0) mix0 con0 (n := 2000) (by kernel_rfl)
theorem ones23 : (onesE 23 (pop 23)).ok Try.prog := tells_ok (C := cfg0) mix0 con0 (n := 2000) (by kernel_rfl)
theorem ones24 : (onesE 24 (pop 24)).ok Try.prog := tells_ok (C := cfg0) mix0 con0 (n := 2000) (by kernel_rfl)
theorem ones25 : (onesE 25 (pop 25)).ok Try.prog := tells_ok (C := cfg0) mix0 con0 (n := 2000) (by kernel_rfl)
theorem ones26 : (onesE 26 (pop 26)).ok Try.prog := tells_ok (C := cfg0) mix0 con0 (n := 2000) (by kernel_rfl)
theorem ones27 : (onesE 27 (pop 27)).ok Try.prog := tells_ok (C := cfg0) mix0 con0 (n := 2000) (by kernel_rfl)
theorem ones28 : (onesE 28 (pop 28)).ok Try.prog := tells_ok (C := cfg0) mix0 con0 (n := 2000) (by kernel_rfl)
theorem ones29 : (onesE 29 (pop 29)).ok Try.prog := tells_ok (C := cfg0) mix0 con0 (n := 2000) (by kernel_rfl)
theorem ones30 : (onesE 30 (pop 30)).ok Try.prog := tells_ok (C := cfg0) mix0 con0 (n := 2000) (by kernel_rfl)
theorem ones31 : (onesE 31 (pop 31)).ok Try.prog := tells_ok (C := cfg0) mix0 con0 (n := 2000) (by kernel_rfl)
theorem ones_ret {n : Nat} (h : n < 32) : Ret Try.prog 92 [.lit (.int .u64 n)] (I (pop n)) := by
  obtain rfl | rfl | rfl | rfl | rfl | rfl | rfl | rfl | rfl | rfl | rfl | rfl | rfl | rfl | rfl | rfl | rfl | rfl | rfl | rfl | rfl | rfl | rfl | rfl | rfl | rfl | rfl | rfl | rfl | rfl | rfl | rfl : n = 0 ∨ n = 1 ∨ n = 2 ∨ n = 3 ∨ n = 4 ∨ n = 5 ∨ n = 6 ∨ n = 7 ∨ n = 8 ∨ n = 9 ∨ n = 10 ∨ n = 11 ∨ n = 12 ∨ n = 13 ∨ n = 14 ∨ n = 15 ∨ n = 16 ∨ n = 17 ∨ n = 18 ∨ n = 19 ∨ n = 20 ∨ n = 21 ∨ n = 22 ∨ n = 23 ∨ n = 24 ∨ n = 25 ∨ n = 26 ∨ n = 27 ∨ n = 28 ∨ n = 29 ∨ n = 30 ∨ n = 31 := by omega
  · exact ones0
  · exact ones1
  · exact ones2
  · exact ones3
  · exact ones4
  · exact ones5
  · exact ones6
  · exact ones7
  · exact ones8
  · exact ones9
  · exact ones10
  · exact ones11
  · exact ones12
  · exact ones13
  · exact ones14
  · exact ones15
  · exact ones16
  · exact ones17
  · exact ones18
  · exact ones19
  · exact ones20
  · exact ones21
  · exact ones22
  · exact ones23
  · exact ones24
  · exact ones25
  · exact ones26
  · exact ones27
  · exact ones28
  · exact ones29
  · exact ones30
  · exact ones31
end Go.Ag
