/- The law StandTrue returns true for arguments that are not far too long. No conditions. -/
import Derived.Test.YtdjgafdekabolaaStH
import Derived.ChangeSlices
import Derived.WideShapes
/- Layer 4: how many are begun in a run, and when the last of them is done: the law's way and the day's. -/
namespace Go.Ag
open Go.Proofs
set_option maxRecDepth 100000

/-- Begun in a run. -/
def inRun (y : Ru) (p : Int × Int) : Bool := decide (y.start ≤ p.1) && decide (p.1 < y.bell)
/-- Those that are begun in a run, when they are done. -/
def ofRun (y : Ru) (l : List (Int × Int)) : List Int := (l.filter (inRun y)).map (·.2)
def lastF (l : List Int) : Int := l.getLast?.getD 0
theorem ofRun_cons (y : Ru) (p : Int × Int) (l : List (Int × Int)) : ofRun y (p :: l) = (if inRun y p then [p.2] else []) ++ ofRun y l := by
  unfold ofRun
  rw [List.filter_cons]
  split <;> simp
theorem ofRun_append (y : Ru) (a b : List (Int × Int)) : ofRun y (a ++ b) = ofRun y a ++ ofRun y b := by
  unfold ofRun; rw [List.filter_append, List.map_append]
theorem lastF_snoc (l : List Int) (x : Int) : lastF (l ++ [x]) = x := by unfold lastF; simp

theorem inRuns_app (a b : Int) (x : Sh) (d : List Sh) : inRuns a b (x :: d) = (if inB x.run a b then [x] else []) ++ inRuns a b d := by
  unfold inRuns
  rw [List.filter_cons]
  split <;> simp

theorem lw_runs {runs : List Ru} {t : T3} (ho : runsOk 0 runs = true) (ht : ∀ k, 1 ≤ t.get k) {r : Nat} {y : Ru} (hy : runs[r]? = some y) : ∀ (m : Nat) (run : Nat) (ks : List Int) (free : Int), m = (runs.length - run) + ks.length → run ≤ runs.length →
    ofRun y (lw t (runs.drop run) ks free) = (inRuns r r (dayF runs t ks run free)).map (·.done) := by
  have hr := runsOk_all 0 runs (Int.le_refl _) ho
  intro m
  induction m using Nat.strongRecOn with
  | _ m ih =>
    intro run ks free hm hle
    cases ks with
    | nil => rw [lw_nil']; rfl
    | cons k ks =>
      by_cases hlt : run < runs.length
      · obtain ⟨x, hx⟩ := get_some hlt
        have hxr := hr x (List.mem_of_getElem? hx)
        rw [drop_get hx]
        by_cases hin : max free x.start < x.bell
        · rw [lw_in hin]
          have hn : nextRun runs free run = run := by rw [next_step hx, if_neg (by omega)]
          have hx' : runs[nextRun runs free run]? = some x := by rw [hn]; exact hx
          rw [dayF_some hx', hn, ofRun_cons, inRuns_app]
          have := ih _ (by rw [hm]; simp) run ks (max free x.start + t.get k.toNat) rfl hle
          rw [drop_get hx] at this
          rw [this, List.map_append]
          congr 1
          by_cases he : run = r
          · subst he
            rw [hx] at hy
            cases hy
            rw [if_pos (by simp only [inRun, Bool.and_eq_true, decide_eq_true_eq]; omega), if_pos (by simp only [inB, Bool.and_eq_true, decide_eq_true_eq]; omega)]
            rfl
          · have hf1 : inRun y (max free x.start, max free x.start + t.get k.toNat) = false := by
              rw [Bool.eq_false_iff]
              intro hc
              simp only [inRun, Bool.and_eq_true, decide_eq_true_eq] at hc
              rcases Nat.lt_or_ge run r with h1 | h1
              · have := runs_apart 0 runs ho run r x y h1 hx hy; omega
              · have := runs_apart 0 runs ho r run y x (by omega) hy hx; omega
            have hf2 : inB (run : Int) r r = false := by
              rw [Bool.eq_false_iff]
              intro hc
              simp only [inB, Bool.and_eq_true, decide_eq_true_eq] at hc
              omega
            rw [hf1, hf2]
            rfl
        · rw [lw_out hin]
          have hn : nextRun runs free run = nextRun runs free (run + 1) := by rw [next_step hx, if_pos (by omega)]
          have := ih _ (by rw [hm]; simp only [List.length_cons]; omega) (run + 1) (k :: ks) free rfl (by omega)
          rw [this]
          cases h1 : runs[nextRun runs free run]? with
          | none =>
            rw [dayF_none h1, dayF_none (by rw [← hn]; exact h1)]
          | some y =>
            rw [dayF_some h1, dayF_some (by rw [← hn]; exact h1), hn]
      · have he : run = runs.length := by omega
        subst he
        rw [List.drop_length, lw_nil]
        have h1 : runs[nextRun runs free runs.length]? = none := by rw [next_end]; exact List.getElem?_eq_none (Nat.le_refl _)
        rw [dayF_none h1]
        rfl

/-- One is done after the other. -/
theorem day_sorted {runs : List Ru} {t : T3} (ht : ∀ k, 1 ≤ t.get k) : ∀ (ks : List Int) (run : Nat) (free : Int), (∀ x ∈ dayF runs t ks run free, free ≤ x.done) ∧ (dayF runs t ks run free).Pairwise (fun a b => a.done ≤ b.done)
  | [], _, _ => by simp [dayF]
  | k :: ks, run, free => by
    cases h1 : runs[nextRun runs free run]? with
    | none => rw [dayF_none h1]; simp
    | some y =>
      rw [dayF_some h1]
      have htk := ht k.toNat
      obtain ⟨i1, i2⟩ := day_sorted ht ks (nextRun runs free run) (max free y.start + t.get k.toNat)
      refine ⟨fun x hx => ?_, ?_⟩
      · rcases List.mem_cons.1 hx with rfl | hx
        · dsimp only; omega
        · have := i1 x hx; omega
      · rw [List.pairwise_cons]
        exact ⟨fun x hx => i1 x hx, i2⟩

/-- The latest of some. -/
structure Top (d : List Sh) (p : Sh → Bool) (m : Int) : Prop where
  all : ∀ x ∈ d, p x = true → x.done ≤ m
  one : m = 0 ∨ ∃ x ∈ d, p x = true ∧ x.done = m
theorem last_top {l : List Int} (h : l.Pairwise (· ≤ ·)) : (∀ x ∈ l, x ≤ lastF l) ∧ (lastF l = 0 ∨ lastF l ∈ l) := by
  rcases List.eq_nil_or_concat l with rfl | ⟨a, b, rfl⟩
  · exact ⟨by simp, .inl rfl⟩
  · rw [List.concat_eq_append] at h ⊢
    rw [lastF_snoc]
    refine ⟨fun x hx => ?_, .inr (by simp)⟩
    rcases List.mem_append.1 hx with hx | hx
    · exact (List.pairwise_append.1 h).2.2 x hx b (by simp)
    · simp only [List.mem_singleton] at hx; omega
theorem run_top {d : List Sh} (hs : d.Pairwise (fun a b => a.done ≤ b.done)) (a b : Int) : Top d (fun x => inB x.run a b) (lastF ((inRuns a b d).map (·.done))) := by
  have hp : ((inRuns a b d).map (·.done)).Pairwise (· ≤ ·) := by
    rw [List.pairwise_map]
    exact List.Pairwise.sublist List.filter_sublist hs
  obtain ⟨h1, h2⟩ := last_top hp
  refine ⟨fun x hx hp => h1 _ (List.mem_map_of_mem (List.mem_filter.2 ⟨hx, hp⟩)), ?_⟩
  rcases h2 with h2 | h2
  · exact .inl h2
  · obtain ⟨x, hx, he⟩ := List.mem_map.1 h2
    obtain ⟨h3, h4⟩ := List.mem_filter.1 hx
    exact .inr ⟨x, h3, h4, he⟩
theorem latest_go (n : Int) : ∀ (l : List Sh) (a : Int), l.foldl (fun m x => max m (x.done - n)) a = (l.map fun x => x.done - n).foldl max a
  | [], a => rfl
  | x :: l, a => by rw [List.foldl_cons, latest_go n l, List.map_cons, List.foldl_cons]
/-- How late the latest is. -/
theorem latest_top {d : List Sh} {a b : Int} {m n : Int} (h : Top d (fun x => inB x.run a b) m) (hn : 0 ≤ n) : latest n (inRuns a b d) = max 0 (m - n) := by
  unfold latest
  rw [latest_go]
  obtain ⟨h1, h2, h3⟩ := foldl_max ((inRuns a b d).map fun x => x.done - n) 0
  generalize ((inRuns a b d).map fun x => x.done - n).foldl max 0 = q at h1 h2 h3
  have up : q ≤ max 0 (m - n) := by
    rcases h3 with h3 | h3
    · omega
    · obtain ⟨x, hx, he⟩ := List.mem_map.1 h3
      obtain ⟨h4, h5⟩ := List.mem_filter.1 hx
      have := h.all x h4 h5
      omega
  have low : max 0 (m - n) ≤ q := by
    rcases h.one with h4 | ⟨x, h4, h5, h6⟩
    · omega
    · have := h2 (x.done - n) (List.mem_map_of_mem (f := fun x => x.done - n) (List.mem_filter.2 ⟨h4, h5⟩))
      omega
  omega

/-- When the shearer is free, run by run. -/
def freeR (d : List Sh) : Nat → Int
  | 0 => 0
  | r + 1 => max (freeR d r) (lastF ((inRuns r r d).map (·.done)))
theorem free_top {d : List Sh} (hs : d.Pairwise (fun a b => a.done ≤ b.done)) (h0 : ∀ x ∈ d, 0 ≤ x.done) : ∀ r : Nat, 0 ≤ freeR d r ∧ Top d (fun x => inB x.run 0 ((r : Int) - 1)) (freeR d r)
  | 0 => ⟨Int.le_refl _, fun x _ hp => by simp only [inB, Bool.and_eq_true, decide_eq_true_eq] at hp; omega, .inl rfl⟩
  | r + 1 => by
    obtain ⟨i0, i1, i2⟩ := free_top hs h0 r
    obtain ⟨j1, j2⟩ := run_top hs r r
    unfold freeR
    generalize lastF ((inRuns r r d).map (·.done)) = l at j1 j2
    generalize freeR d r = f at i0 i1 i2
    simp only [inB, Bool.and_eq_true, decide_eq_true_eq] at i1 i2 j1 j2
    refine ⟨by omega, fun x hx hp => ?_, ?_⟩
    · simp only [inB, Bool.and_eq_true, decide_eq_true_eq] at hp
      by_cases he : x.run = r
      · have := j1 x hx ⟨by omega, by omega⟩; omega
      · have := i1 x hx ⟨by omega, by omega⟩; omega
    · simp only [inB, Bool.and_eq_true, decide_eq_true_eq]
      rcases Int.le_total l f with hl | hl
      · rw [Int.max_eq_left hl]
        rcases i2 with h | ⟨x, hx, hp, he⟩
        · exact .inl h
        · exact .inr ⟨x, hx, ⟨by omega, by omega⟩, he⟩
      · rw [Int.max_eq_right hl]
        rcases j2 with h | ⟨x, hx, hp, he⟩
        · exact .inl h
        · exact .inr ⟨x, hx, ⟨by omega, by omega⟩, he⟩

/-- Those that are not begun are begun in no run. -/
theorem ofRun_none {y : Ru} (hy : y.bell ≤ 600) (j : Nat) : ofRun y (List.replicate j ((1000 : Int), (1000 : Int))) = [] := by
  unfold ofRun
  rw [List.map_eq_nil_iff, List.filter_eq_nil_iff]
  intro x hx
  rw [List.eq_of_mem_replicate hx]
  simp only [inRun, Bool.and_eq_true, decide_eq_true_eq]
  omega
/-- All sheep, as the law has them. -/
def lwL (s : Sd) (t : T3) (j : Nat) : List (Int × Int) := lw t s.runs s.sheep 0 ++ List.replicate j ((1000 : Int), (1000 : Int))
theorem run_same {s : Sd} (hd : validB s = true) {t : T3} (ht : ∀ k, 1 ≤ t.get k) (j : Nat) {r : Nat} {y : Ru} (hy : s.runs[r]? = some y) : ofRun y (lwL s t j) = (inRuns r r (dayOf s t)).map (·.done) := by
  have ho := valid_order hd
  have hb := (runsOk_all 0 s.runs (Int.le_refl _) ho y (List.mem_of_getElem? hy)).2.2
  have h := lw_runs ho ht hy _ 0 s.sheep 0 rfl (Nat.zero_le _)
  rw [List.drop_zero] at h
  unfold lwL
  rw [ofRun_append, ofRun_none hb, List.append_nil, h]
  rfl
end Go.Ag
/- Layer 4: numbers that are drawn by remainders. -/
namespace Go.Ag
open Go.Proofs
set_option maxRecDepth 100000

/-- A slice of small numbers. -/
structure ByL (bc : List CV) (bo bn : Nat) : Prop where
  el : ∀ i, i < bn → ∃ w : Nat, w < 65536 ∧ bc[bo + i]? = some (.lit (.int .u16 w))
theorem rvC41 (cells : List CV) (off : Nat) : readVarC Try.prog 41 cells off = cells[off]? := rfl
def drawC (A Y : Nat) : AV := .func (.func 108) [] [.ptr A 0, .ptr Y 0]

theorem draws_ret (bc : List CV) (bo bn : Nat) (h : Heap) : ∃ e h', CallOk Try.prog 74 [.c (.sl bc bo bn)] h .no e h' .no ∧ (e = .ret (drawC (h.n + 1) h.n) ∧ Heap.at h' h.n = .blk [.c (.sl bc bo bn)] ∧ Heap.at h' (h.n + 1) = .blk [.c (I 0)] ∧ h'.n = h.n + 2 ∧ Foot none' h h') := by
  refine call_by (hm := false) Try.func74 rfl ?_
  conv => whnf
  refine ⟨_, at_push_self _ _, ?_⟩
  conv => whnf
  refine ⟨rfl, (at_old _ _ _ (by rw [push_n]; omega)).trans (at_push_self _ _), at_new _ _ _, by rw [new_n, push_n], ?_⟩
  exact Foot.set (((Foot.refl _ _).push _).push _) (.inr (by rw [push_n]; omega)) _

theorem tmod_nat (a b : Nat) : (a : Int).tmod (b : Int) = ((a % b : Nat) : Int) := by
  rw [Int.tmod_eq_emod_of_nonneg (by omega)]
  omega

set_option maxHeartbeats 2000000 in
theorem draw_ret {bc : List CV} {bo bn : Nat} (hb : ByL bc bo bn) {lo hi : Int} (h1 : 1 ≤ lo) (h2 : lo ≤ hi) (h3 : hi ≤ 40) {A Y : Nat} {a : Nat} (ha : a ≤ 2) {h : Heap} (hA : Heap.at h A = .blk [.c (I a)]) (hY : Heap.at h Y = .blk [.c (.sl bc bo bn)]) (lA : A < h.n) (lY : Y < h.n) (hAY : A ≠ Y) :
    ∃ e h', CallOk Try.prog 108 [.c (.agg [I lo, I hi]), .ptr A 0, .ptr Y 0] h .no e h' .no ∧ ((∃ z, lo ≤ z ∧ z ≤ hi ∧ e = .ret (.c (I z))) ∧ Heap.at h' A = .blk [.c (I ((a + 1 : Nat) : Int))] ∧ Foot (fun i => i = A) h h') := by
  refine call_by (hm := false) Try.func108 rfl ?_
  conv => whnf
  refine ⟨_, (at_push_lt _ _ lA).trans hA, ?_⟩
  conv => whnf
  refine ⟨((a + 1 : Nat) : Int), by rw [wrap_eq (by omega) (by omega)]; omega, ?_⟩
  conv => whnf
  refine ⟨_, (at_push_lt _ _ lA).trans hA, ?_⟩
  conv => whnf
  have k1 : Heap.at ((h.push .dead (.blk [.c (I lo), .c (I hi)])).set .dead A (.blk [.c (I ((a + 1 : Nat) : Int))])) A = .blk [.c (I ((a + 1 : Nat) : Int))] := at_set_self _ _ (by rw [push_n]; omega)
  have k2 : Heap.at ((h.push .dead (.blk [.c (I lo), .c (I hi)])).set .dead A (.blk [.c (I ((a + 1 : Nat) : Int))])) Y = .blk [.c (.sl bc bo bn)] := (at_set_ne _ _ (Ne.symm hAY)).trans ((at_push_lt _ _ lY).trans hY)
  have k3 : Heap.at ((h.push .dead (.blk [.c (I lo), .c (I hi)])).set .dead A (.blk [.c (I ((a + 1 : Nat) : Int))])) h.n = .blk [.c (I lo), .c (I hi)] := (at_set_ne _ _ (by omega)).trans (at_push_self _ _)
  have kF : Foot (fun i => i = A) h ((h.push .dead (.blk [.c (I lo), .c (I hi)])).set .dead A (.blk [.c (I ((a + 1 : Nat) : Int))])) := Foot.set (W := fun i => i = A) ((Foot.refl _ _).push _) (.inl rfl) _
  refine ⟨_, k2, ?_⟩
  conv => whnf
  cases hz : ((bn : Int) == 0)
  case true =>
    conv => whnf
    refine ⟨_, k3, ?_⟩
    conv => whnf
    exact ⟨⟨lo, Int.le_refl _, h2, rfl⟩, k1, kF⟩
  have hbn : bn ≠ 0 := by simp at hz; omega
  obtain ⟨w, hw, hwe⟩ := hb.el ((a + 1) % bn) (Nat.mod_lt _ (by omega))
  conv => whnf
  refine draw_by (hm := false) (by kernel_rfl) (by kernel_rfl) ?_
  conv => whnf
  refine ⟨_, k3, ?_⟩
  conv => whnf
  refine ⟨_, k2, ?_⟩
  conv => whnf
  refine ⟨_, k1, ?_⟩
  conv => whnf
  refine ⟨_, k2, ?_⟩
  conv => whnf
  refine dplain_val (rem_to (((a + 1) % bn : Nat) : Int) rfl rfl rfl (by omega) (tmod_nat _ _) _ _) ?_
  conv => whnf
  have hlt : (a + 1) % bn < bn := Nat.mod_lt _ (by omega)
  refine ⟨⟨by omega, by omega⟩, ?_⟩
  conv => whnf
  have hread : readVarC Try.prog 41 bc (bo + (((a + 1) % bn : Nat) : Int).toNat * 1) = some (.lit (.int .u16 w)) := by
    rw [rvC41, show bo + (((a + 1) % bn : Nat) : Int).toNat * 1 = bo + (a + 1) % bn by omega]; exact hwe
  refine ⟨_, hread, ?_⟩
  conv => whnf
  refine ⟨_, k1, ?_⟩
  conv => whnf
  refine ⟨((29 * (a + 1) : Nat) : Int), by rw [wrap_eq (by omega) (by omega)]; omega, ?_⟩
  conv => whnf
  refine ⟨((w + 29 * (a + 1) : Nat) : Int), by rw [wrap_u16 hw, wrap_eq (by omega) (by omega)]; omega, ?_⟩
  conv => whnf
  refine ⟨_, k3, ?_⟩
  conv => whnf
  refine ⟨_, k3, ?_⟩
  conv => whnf
  refine ⟨hi - lo, by rw [wrap_eq (by omega) (by omega)], ?_⟩
  conv => whnf
  obtain ⟨m, hm⟩ : ∃ m : Nat, hi - lo + 1 = m := ⟨(hi - lo + 1).toNat, by omega⟩
  refine ⟨(m : Int), by rw [wrap_eq (by omega) (by omega)]; omega, ?_⟩
  conv => whnf
  refine dplain_val (rem_to (((w + 29 * (a + 1)) % m : Nat) : Int) rfl rfl rfl (by omega) (tmod_nat _ _) _ _) ?_
  conv => whnf
  have hlm : (w + 29 * (a + 1)) % m < m := Nat.mod_lt _ (by omega)
  generalize (w + 29 * (a + 1)) % m = q at hlm
  refine ⟨lo + (q : Int), by rw [wrap_eq (by omega) (by omega)], ?_⟩
  conv => whnf
  refine ⟨by kernel_rfl, ?_⟩
  conv => whnf
  exact ⟨⟨_, by omega, by omega, rfl⟩, k1, kF⟩
end Go.Ag
/- Layer 4: a stand whose looks are right, and how long kinds truly take. -/
namespace Go.Ag
open Go.Proofs
set_option maxRecDepth 100000

/-! Ids that are told by what they stand for. -/
structure Sk where
  idx : Nat
  dst : Option Tmp
  looks : List Tmp
  reads : List Nat
  writes : List Nat
def DRec.sk (r : DRec) : Sk := ⟨r.idx, r.dst, r.looks, r.reads, r.writes⟩
def Sk.via (f : Nat → Nat) (r : Sk) : Sk := ⟨r.idx, r.dst, r.looks, r.reads.map f, r.writes.map f⟩
def indepS (a b : Sk) : Bool :=
  (match a.dst with | some d => !b.looks.contains d && b.dst != some d | none => true) &&
  (match b.dst with | some d => !a.looks.contains d | none => true) &&
  a.writes.all (fun i => !b.reads.contains i && !b.writes.contains i) && b.writes.all (fun i => !a.reads.contains i)
def pairsS (ms : List Nat) : List Sk → Bool
  | [] => true
  | r :: l => l.all (fun x => (ms.getD x.idx 0).testBit r.idx || indepS r x) && pairsS ms l
theorem pairs_sk (ms : List Nat) : ∀ l : List DRec, pairsOk ms l = pairsS ms (l.map DRec.sk)
  | [] => rfl
  | r :: l => by
    simp only [pairsOk, List.map_cons, pairsS, pairs_sk ms l, List.all_map]
    rfl
theorem contains_via {f : Nat → Nat} {i : Nat} {l : List Nat} (h : (l.map f).contains (f i) = false) : l.contains i = false := by
  rw [Bool.eq_false_iff] at h ⊢
  intro hc
  refine h ?_
  rw [List.contains_iff_mem] at hc ⊢
  exact List.mem_map_of_mem hc
theorem indep_via {f : Nat → Nat} {a b : Sk} (h : indepS (a.via f) (b.via f) = true) : indepS a b = true := by
  simp only [indepS, Sk.via, List.all_map, Bool.and_eq_true, List.all_eq_true, Function.comp_apply, Bool.not_eq_true'] at h ⊢
  obtain ⟨⟨h1, h2⟩, h3⟩ := h
  exact ⟨⟨h1, fun i hi => ⟨contains_via (h2 i hi).1, contains_via (h2 i hi).2⟩⟩, fun i hi => contains_via (h3 i hi)⟩
theorem pairs_via' {ms : List Nat} (f : Nat → Nat) : ∀ {l : List Sk}, pairsS ms (l.map (Sk.via f)) = true → pairsS ms l = true
  | [], _ => rfl
  | r :: l, h => by
    simp only [List.map_cons, pairsS, Bool.and_eq_true, List.all_map, List.all_eq_true, Function.comp_apply, Bool.or_eq_true] at h ⊢
    refine ⟨fun x hx => ?_, pairs_via' f h.2⟩
    rcases h.1 x hx with h1 | h1
    · exact .inl h1
    · exact .inr (indep_via h1)
/-- It is enough to look at what ids stand for. -/
theorem pairs_via {ms : List Nat} {l : List DRec} (f : Nat → Nat) (l0 : List Sk) (he : (l.map DRec.sk).map (Sk.via f) = l0) (hb : pairsS ms l0 = true) : pairsOk ms l = true := by
  rw [pairs_sk]
  refine pairs_via' f ?_
  rw [he]
  exact hb

def seenLo (n w : Int) : Int := max 0 (n - w / 2)
def seenHi (n w : Int) : Int := min 16 (n + w - w / 2)
theorem seen_num {n w : Int} (h1 : 0 ≤ n) (h2 : n ≤ 16) (h3 : 0 ≤ w) (h4 : w ≤ 4) : 0 ≤ seenLo n w ∧ seenLo n w ≤ n ∧ n ≤ seenHi n w ∧ seenHi n w ≤ 16 := by
  unfold seenLo seenHi; omega
/-- What is seen of a truth. -/
def seen (s : Sd) (t : T3) (l : Lk) : Lk := ⟨l.minute, seenLo (Me.of (dayOf s t) (.doneBy l.minute)) (min 4 (l.hi - l.lo)), seenHi (Me.of (dayOf s t) (.doneBy l.minute)) (min 4 (l.hi - l.lo))⟩
def seenD (s : Sd) (t : T3) : Sd := withL s (s.looks.map (seen s t))

theorem doneBy_le (s : Sd) (t : T3) (n : Int) : 0 ≤ Me.of (dayOf s t) (.doneBy n) ∧ Me.of (dayOf s t) (.doneBy n) ≤ s.sheep.length := by
  simp only [Me.of]
  have h1 := List.countP_le_length (p := fun x : Sh => decide (x.done ≤ n)) (l := dayOf s t)
  have h2 : (dayOf s t).length ≤ s.sheep.length := day_len s.sheep 0 0
  omega
theorem look_of {s : Sd} (hd : validB s = true) {l : Lk} (hl : l ∈ s.looks) : 0 ≤ l.minute ∧ l.minute ≤ 600 ∧ 0 ≤ l.lo ∧ l.lo ≤ l.hi ∧ l.hi ≤ 16 := by
  simp only [validB, Bool.and_eq_true] at hd
  have h := List.all_eq_true.1 hd.2.2.2.2 l hl
  simp only [lookOk, spanB, inB, Bool.and_eq_true, decide_eq_true_eq] at h
  omega
theorem sheep_le {s : Sd} (hd : validB s = true) : s.sheep.length ≤ 16 := by
  simp only [validB, Bool.and_eq_true, decide_eq_true_eq] at hd
  exact hd.2.2.1.1
theorem seen_ok {s : Sd} (hd : validB s = true) (t : T3) {l : Lk} (hl : l ∈ s.looks) : lookOk (seen s t l) = true ∧ (seen s t l).lo ≤ Me.of (dayOf s t) (.doneBy l.minute) ∧ Me.of (dayOf s t) (.doneBy l.minute) ≤ (seen s t l).hi := by
  have h1 := look_of hd hl
  have h2 := doneBy_le s t l.minute
  have h3 := sheep_le hd
  have h4 := seen_num h2.1 (by omega) (w := min 4 (l.hi - l.lo)) (by omega) (by omega)
  unfold seen lookOk
  simp only [spanB, inB, Bool.and_eq_true, decide_eq_true_eq]
  omega
theorem seen_valid {s : Sd} (hd : validB s = true) (t : T3) : validB (seenD s t) = true := by
  refine withL_valid hd (by rw [List.length_map]; exact valid_looks hd) ?_
  rw [List.all_map, List.all_eq_true]
  exact fun l hl => (seen_ok hd t hl).1
theorem seen_truth {s : Sd} (hd : validB s = true) {t : T3} (ht : t ∈ combos s) : t ∈ truths (seenD s t) := by
  rw [mem_truths]
  refine ⟨ht, ?_⟩
  unfold fits seenD withL
  dsimp only
  rw [List.all_map, List.all_eq_true]
  intro l hl
  have h := seen_ok hd t hl
  simp only [Function.comp_apply, agrees, inB, Bool.and_eq_true, decide_eq_true_eq]
  exact ⟨h.2.1, h.2.2⟩

theorem quo_to {P : Program} {o : Oper} {x y : Operand} {t t2 : TypeId} {σ : Operand → AV} {a b : Int} (z : Int) (ho : o.op = .binOp .quo t x y t2) (hx : σ x = .c (.lit (.int .i64 a))) (hy : σ y = .c (.lit (.int .i64 b))) (hb : b ≠ 0) (hz : IntKind.i64.wrap (a.tdiv b) = z) (rd : Nat → AB) (n : Nat) :
    aop P o σ rd n = some (.simple { val := .c (I z) }) := by
  rw [← hz]
  unfold aop
  rw [ho]
  simp only [abinOp, hx, hy, AV.toVal, CV.toVal, litBin, if_neg hb]
  rfl
theorem half (w : Int) (h0 : 0 ≤ w) (h1 : w ≤ 100) : IntKind.i64.wrap (w.tdiv 2) = w / 2 := by
  rw [Int.tdiv_eq_ediv_of_nonneg h0, wrap_eq (by omega) (by omega)]
theorem got_app {P : Program} {o : Oper} {s x : Operand} {t u : TypeId} {σ : Operand → AV} {H : Nat → AB} {n : Nat} {r : SOut} (ho : o.op = .call ⟨.builtin .append, #[s, x], #[t, u]⟩) (hr : aappend P H n #[t, u] (σ s) (σ x) = some r) :
    (match aop P o σ H n with | some (.simple r) => some r | _ => none) = some r := by
  unfold aop
  rw [ho]
  simp only [acall, hr, simp?, Option.map_some]
theorem mklook_ret (a b c : Int) : Ret Try.prog 48 [I a, I b, I c] (.agg [I a, I b, I c]) := by
  refine ret_by (hm := true) Try.func48 rfl ?_
  conv => whnf
  refine .ret (mkspan_ret _ _) rfl ?_
  conv => whnf
  exact .val
end Go.Ag
/- Layer 4: a stand whose looks are right, in code. -/
namespace Go.Ag
open Go.Proofs
set_option maxRecDepth 100000

def zero9 : AB := .blk [AV.lit (.int .i64 0), AV.lit (.int .i64 0), AV.lit (.int .i64 0), AV.lit (.int .i64 0), AV.lit (.int .i64 0), AV.lit (.int .i64 0), AV.lit (.slice none 0 0), AV.lit (.slice none 0 0), AV.lit (.slice none 0 0)]

/-- Where it is. -/
structure TruH (v : SV) (s : Sd) (t : T3) (H0 : Heap) (out : AV) (h : Heap) : Prop where
  n : H0.n ≤ h.n
  old : ∀ i, i < H0.n → Heap.at h i = Heap.at H0 i
  r : RowsL 3 h out ((seenD s t).looks.map rowLk)
  o : ∀ o, outId out = some o → H0.n ≤ o

theorem shapes_two {h : Heap} {a b : AV} {sz sz2 : Nat} {x y : List (List CV)} (A : RowsL sz h a x) (B : RowsL sz2 h b y) (hl : x.length = y.length) : (a = nilA ∧ b = nilA) ∨ ∃ o m o2 m2, a = .msl o sz 0 m m ∧ b = .msl o2 sz2 0 m2 m2 := by
  rcases A with ⟨rfl, rfl⟩ | ⟨o, rfl, _, _, h1⟩
  · rcases B with ⟨rfl, rfl⟩ | ⟨o2, rfl, _, _, h2⟩
    · exact .inl ⟨rfl, rfl⟩
    · exact absurd (List.length_eq_zero_iff.1 hl.symm) h2
  · rcases B with ⟨rfl, rfl⟩ | ⟨o2, rfl, _, _, h2⟩
    · exact absurd (List.length_eq_zero_iff.1 hl) h1
    · exact .inr ⟨_, _, _, _, rfl, rfl⟩

set_option maxHeartbeats 4000000 in
theorem truly_ret {v : SV} {s : Sd} (hv : v.Is s) (hd : validB s = true) {bc : List CV} {bo bn : Nat} (hb : ByL bc bo bn) (H0 : Heap) :
    ∃ e h', CallOk Try.prog 29 [.c v.cv, .c (.sl bc bo bn)] H0 .no e h' .no ∧ ∃ t out, t ∈ combos s ∧ TruH v s t H0 out h' ∧
      e = .ret (mkTuple [mkAgg [.c (I v.lo.a), .c (I v.hi.a), .c (I v.lo.b), .c (I v.hi.b), .c (I v.lo.c), .c (I v.hi.c), .c (.sl v.rc v.ro v.rn), .c (.sl v.kc v.ko v.kn), out], .c t.cv]) := by
  have e1 := hv.kn; have e2 := hv.short; have e3 := hv.rn
  refine call_by (hm := false) Try.func29 rfl ?_
  conv => whnf
  obtain ⟨e, h1, cd, rfl, dY, dA, dn, dF⟩ := draws_ret bc bo bn (((H0.push .dead v.blk).push .dead zero9).push .dead (t3Blk zeroT))
  have n3 : ((((H0.push .dead v.blk).push .dead zero9).push .dead (t3Blk zeroT)) : Heap).n = H0.n + 3 := rfl
  rw [n3] at dY dA dn
  have b0 : Heap.at h1 H0.n = v.blk := (dF.keep _ (by rw [n3]; omega) (fun x => x)).trans ((at_push_lt _ _ (by rw [push_n, push_n]; omega)).trans ((at_push_lt _ _ (by rw [push_n]; omega)).trans (at_push_self _ _)))
  have b1 : Heap.at h1 (H0.n + 1) = zero9 := (dF.keep _ (by rw [n3]; omega) (fun x => x)).trans ((at_push_lt _ _ (by rw [push_n, push_n]; omega)).trans (at_push_self _ _))
  have b2 : Heap.at h1 (H0.n + 2) = t3Blk zeroT := (dF.keep _ (by rw [n3]; omega) (fun x => x)).trans (at_push_self _ _)
  have bo' : ∀ i, i < H0.n → Heap.at h1 i = Heap.at H0 i := fun i hi => (dF.keep _ (by rw [n3]; omega) (fun x => x)).trans ((at_push_lt _ _ (by rw [push_n, push_n]; omega)).trans ((at_push_lt _ _ (by rw [push_n]; omega)).trans (at_push_lt _ _ hi)))
  clear n3
  refine .inl _ h1 .no cd ?_
  conv => whnf
  refine ⟨v.blk, b0, ?_⟩
  conv => whnf
  refine loop_by (I := fun n st => ∃ (j : Nat) (t : T3) (h : Heap), j ≤ 3 ∧ n = 3 - j ∧ (∀ k, k < j → s.lo.get k ≤ t.get k ∧ t.get k ≤ s.hi.get k) ∧ Heap.at h H0.n = v.blk ∧ Heap.at h (H0.n + 1) = zero9 ∧ Heap.at h (H0.n + 2) = t3Blk t ∧ Heap.at h (H0.n + 3) = .blk [.c (.sl bc bo bn)] ∧ Heap.at h (H0.n + 4) = .blk [.c (I j)] ∧ H0.n + 5 ≤ h.n ∧ (∀ i, i < H0.n → Heap.at h i = Heap.at H0 i) ∧
    Has st 79 [(2, .ptr H0.n 0), (4, .ptr (H0.n + 1) 0), (5, .ptr (H0.n + 2) 0), (6, drawC (H0.n + 4) (H0.n + 3)), (18, .c (.agg (minC v.lo v.hi))), (19, .c (I j))] [] none h) ?_ (k := 3)
    ⟨0, zeroT, h1, by omega, rfl, fun k hk => absurd hk (by omega), b0, b1, b2, dY, dA, by omega, bo', rfl, ⟨rfl, rfl, rfl, rfl, rfl, rfl, trivial⟩, rfl, rfl, rfl, rfl⟩
  clear b0 b1 b2 bo' dY dA dn dF cd
  rintro n st ⟨j, t, h, hj, rfl, ht, b0, b1, b2, dY, dA, dn, bo', hs1⟩
  refine hs1.run (hm := false) ?_
  by_cases hj3 : j < 3
  · have hgb : 1 ≤ v.lo.get j ∧ v.lo.get j ≤ v.hi.get j ∧ v.hi.get j ≤ 40 := by
      have hm := hd
      simp only [validB, minsOk, minOk, spanB, Bool.and_eq_true, decide_eq_true_eq] at hm
      rw [hv.lo, hv.hi]
      obtain rfl | rfl | rfl : j = 0 ∨ j = 1 ∨ j = 2 := by omega
      all_goals
        simp only [T3.get]
        omega
    have hG : ∀ y z : AB, Heap.at ((h.push .dead y).set .dead h.n z) (H0.n + 4) = .blk [.c (I j)] := fun y z => (at_old _ _ _ (by omega)).trans dA
    have hY : ∀ y z : AB, Heap.at ((h.push .dead y).set .dead h.n z) (H0.n + 3) = .blk [.c (.sl bc bo bn)] := fun y z => (at_old _ _ _ (by omega)).trans dY
    obtain ⟨e, h2, cd, ⟨z, z1, z2, rfl⟩, dA2, F2⟩ := draw_ret hb hgb.1 hgb.2.1 hgb.2.2 (a := j) (by omega) (hG (.blk [AV.lit (.int .i64 0), AV.lit (.int .i64 0)]) (.blk [.c (I (v.lo.get j)), .c (I (v.hi.get j))])) (hY _ _) (by rw [new_n]; omega) (by rw [new_n]; omega) (by omega)
    have up : ∀ i, i < h.n → i ≠ H0.n + 4 → Heap.at h2 i = Heap.at h i := fun i hi hne => (F2.keep i (by rw [new_n]; omega) hne).trans (at_old _ _ _ hi)
    have hn2 : H0.n + 5 ≤ h2.n := by have := F2.n; rw [new_n] at this; omega
    have ht2 : ∀ k, k < j + 1 → s.lo.get k ≤ (t.put j z).get k ∧ (t.put j z).get k ≤ s.hi.get k := by
      intro k hk
      rw [hv.lo] at z1
      rw [hv.hi] at z2
      by_cases he : k = j
      · subst he
        rw [get_put (by omega)]
        exact ⟨z1, z2⟩
      · have := ht k (by omega)
        have e : (t.put j z).get k = t.get k := by
          obtain rfl | rfl | rfl : j = 0 ∨ j = 1 ∨ j = 2 := by omega
          · omega
          · obtain rfl : k = 0 := by omega
            rfl
          · obtain rfl | rfl : k = 0 ∨ k = 1 := by omega
            · rfl
            · rfl
        rw [e]; exact this
    obtain rfl | rfl | rfl : j = 0 ∨ j = 1 ∨ j = 2 := by omega
    all_goals
      conv => whnf
      refine ⟨_, at_push_self _ _, ?_⟩
      conv => whnf
      refine ⟨_, at_new _ _ _, ?_⟩
      conv => whnf
      refine .inl _ h2 .no cd ?_
      conv => whnf
      refine ⟨⟨by decide, by decide⟩, ?_⟩
      conv => whnf
      refine ⟨_, (up _ (by omega) (by omega)).trans b2, ?_⟩
      conv => whnf
      refine ⟨_, rfl, ?_⟩
      conv => whnf
      exact ⟨_, by omega, _, t.put _ z, _, hj3, rfl, ht2, (at_set_ne _ _ (by omega)).trans ((up _ (by omega) (by omega)).trans b0), (at_set_ne _ _ (by omega)).trans ((up _ (by omega) (by omega)).trans b1), (at_set_self _ _ (by omega)).trans rfl, (at_set_ne _ _ (by omega)).trans ((up _ (by omega) (by omega)).trans dY), (at_set_ne _ _ (by omega)).trans dA2, by rw [TMap.set_n]; exact hn2,
        fun i hi => (at_set_ne _ _ (by omega)).trans ((up _ (by omega) (by omega)).trans (bo' i hi)), rfl, ⟨rfl, rfl, rfl, rfl, rfl, rfl, trivial⟩, rfl, rfl, rfl, rfl⟩
  obtain rfl : j = 3 := by omega
  have htc : t ∈ combos s := by
    rw [mem_combos]
    exact ⟨ht 0 (by omega), ht 1 (by omega), ht 2 (by omega)⟩
  have hg := valid_good hd htc
  conv => whnf
  refine ⟨v.blk, b0, ?_⟩
  conv => whnf
  refine ⟨t3Blk t, b2, ?_⟩
  conv => whnf
  obtain ⟨ea, h1, ca, da, dda, ja, hja, HA, rfl⟩ := day_ret hv (runsOk_all 0 s.runs (Int.le_refl _) (valid_order hd)) hg.kinds hg.takes h
  have hn1 := HA.n
  have o1 : ∀ i, i < h.n → Heap.at h1 i = Heap.at h i := HA.old
  have RD : RowsL 1 h1 dda ((doneL s t ja).map row1) := HA.rd
  have lD := doneL_len hja
  have kD := fun (m : Int) (hm : m < 1000) => doneL_cnt hd t ja hm
  have oD : ∀ o, outId dda = some o → H0.n + 5 ≤ o := fun o ho => by have := (HA.od o ho).1; omega
  generalize doneL s t ja = L at RD lD kD
  have c0 := (o1 H0.n (by omega)).trans b0
  have c1 := (o1 (H0.n + 1) (by omega)).trans b1
  have c2 := (o1 (H0.n + 2) (by omega)).trans b2
  have co : ∀ i, i < H0.n → Heap.at h1 i = Heap.at H0 i := fun i hi => (o1 i (by omega)).trans (bo' i hi)
  have hsh := shapes_two HA.rb HA.rd (by rw [List.length_map, List.length_map, List.length_map, List.length_map])
  clear HA hja
  rcases hsh with ⟨rfl, rfl⟩ | ⟨i1, m1, i2, m2, rfl, rfl⟩
  · refine .inl _ h1 .no ca ?_
    conv => whnf
    clear ca
    refine ⟨v.blk, c0, ?_⟩
    conv => whnf
    refine ⟨_, c1, ?_⟩
    conv => whnf
    refine ⟨v.blk, (at_set_self _ _ (by omega)).trans rfl, ?_⟩
    conv => whnf
    refine ⟨v.blk, (at_set_ne _ _ (by omega)).trans ((at_set_ne _ _ (by omega)).trans c0), ?_⟩
    conv => whnf
    refine loop_by (I := fun n st => ∃ (q : Nat) (h : Heap) (out : AV), q ≤ s.looks.length ∧ n = s.looks.length - q ∧ Heap.at h H0.n = v.blk ∧ Heap.at h (H0.n + 1) = lkBlk v out ∧ Heap.at h (H0.n + 2) = t3Blk t ∧ RowsL 1 h nilA (L.map row1) ∧
        RowsL 3 h out (((s.looks.take q).map (seen s t)).map rowLk) ∧ (∀ o, outId out = some o → H0.n + 5 ≤ o) ∧ (∀ o, outId nilA = some o → outId out ≠ some o) ∧ H0.n + 5 ≤ h.n ∧ (∀ i, i < H0.n → Heap.at h i = Heap.at H0 i) ∧
        Has st 79 [(2, .ptr H0.n 0), (4, .ptr (H0.n + 1) 0), (5, .ptr (H0.n + 2) 0), (10, nilA), (38, .c v.looks.cv), (39, .c (I v.ln)), (40, .c (I q))] [] none h) ?_ (k := s.looks.length)
      ⟨0, _, nilA, Nat.zero_le _, rfl, (at_set_ne _ _ (by omega)).trans ((at_set_ne _ _ (by omega)).trans c0), (at_set_self _ _ (by rw [TMap.set_n]; omega)).trans rfl, (at_set_ne _ _ (by omega)).trans ((at_set_ne _ _ (by omega)).trans c2),
        (RD.set (fun e => absurd (oD _ e) (by omega)) _).set (fun e => absurd (oD _ e) (by omega)) _, .inl ⟨rfl, rfl⟩, (fun o ho => by cases ho), (fun o _ ho => by cases ho), (by rw [TMap.set_n, TMap.set_n]; omega),
        fun i hi => (at_set_ne _ _ (by omega)).trans ((at_set_ne _ _ (by omega)).trans (co i hi)), rfl, ⟨rfl, rfl, rfl, rfl, rfl, rfl, rfl, trivial⟩, rfl, rfl, rfl, rfl⟩
    clear hs1 b0 b1 b2 dY dA dn bo' c0 c1 c2 co RD o1 hn1
    rintro n st ⟨q, h, out, hq, rfl, b0, b1, b2, RD, hR, oR, oRD, dn, bo', hs1⟩
    refine hs1.run (hm := false) ?_
    conv => whnf
    cases hc : decide ((q : Int) < (v.ln : Int))
    case true =>
      have e4 : v.looks.n = s.looks.length := hv.ln
      have e5 : v.ln = s.looks.length := hv.ln
      have hq : q < s.looks.length := by simp at hc; omega
      obtain ⟨r, hr⟩ := get_some hq
      have hlk := look_of hd (List.mem_of_getElem? hr)
      conv => whnf
      refine ⟨⟨by omega, by omega⟩, ?_⟩
      conv => whnf
      refine ⟨_, hv.looks.look hr, ?_⟩
      conv => whnf
      refine ⟨_, at_push_self _ _, ?_⟩
      conv => whnf
      refine ⟨_, at_new _ _ _, ?_⟩
      conv => whnf
      obtain ⟨h0, hh0⟩ : ∃ h0 : Heap, h0 = (h.push .dead (.blk [AV.lit (.int .i64 0), AV.lit (.int .i64 0), AV.lit (.int .i64 0)])).set .dead h.n (.blk [.c (I r.minute), .c (I r.lo), .c (I r.hi)]) := ⟨_, rfl⟩
      rw [← hh0]
      have g0 : ∀ i, i < h.n → Heap.at h0 i = Heap.at h i := fun i hi => by rw [hh0]; exact at_old _ _ _ hi
      have gB : Heap.at h0 h.n = .blk [.c (I r.minute), .c (I r.lo), .c (I r.hi)] := by rw [hh0]; exact at_new _ _ _
      have gn : h0.n = h.n + 1 := by rw [hh0, new_n]
      clear hh0
      obtain ⟨e, h3, cm, rfl, F3⟩ := many_ret (RD.ext (h' := h0) (by omega) fun i hi _ => g0 i hi) (by omega) r.minute
      refine .inl _ h3 .no cm ?_
      conv => whnf
      clear cm
      have kk := kD r.minute (by omega)
      have hdb := doneBy_le s t r.minute
      have hs16 := sheep_le hd
      have f3 : ∀ i, i < h.n → Heap.at h3 i = Heap.at h i := fun i hi => (F3.keep i (by omega) (fun x => x)).trans (g0 i hi)
      have fB : Heap.at h3 h.n = .blk [.c (I r.minute), .c (I r.lo), .c (I r.hi)] := (F3.keep _ (by omega) (fun x => x)).trans gB
      have fn : h.n + 1 ≤ h3.n := by have := F3.n; omega
      refine ⟨_, fB, ?_⟩
      conv => whnf
      refine ⟨_, fB, ?_⟩
      conv => whnf
      refine ⟨r.hi - r.lo, by rw [wrap_eq (by omega) (by omega)], ?_⟩
      conv => whnf
      rw [kk]
      obtain ⟨nn, hnn⟩ : ∃ nn, nn = Me.of (dayOf s t) (.doneBy r.minute) := ⟨_, rfl⟩
      obtain ⟨w, hw⟩ : ∃ w, w = min 4 (r.hi - r.lo) := ⟨_, rfl⟩
      have hsr : seen s t r = ⟨r.minute, seenLo nn w, seenHi nn w⟩ := by rw [hnn, hw]; rfl
      rw [← hnn] at hdb
      rw [← hnn, ← hw]
      have hlen : (((s.looks.take q).map (seen s t)).map rowLk).length = q := by rw [List.length_map, List.length_map, List.length_take]; omega
      have h4 := valid_looks hd
      have hR3 : RowsL 3 h3 out (((s.looks.take q).map (seen s t)).map rowLk) := hR.ext (by omega) fun i hi _ => f3 i hi
      obtain ⟨rr, hrr, hR', hold, hn', hfresh⟩ := rows_append (row := rowLk (seen s t r)) (t := 27) (u := 27) hR3 U27 U27 rfl S58 rfl rowLk_len rfl (by rw [hlen]; unfold limit; omega)
      rw [atF_eq] at hrr
      rw [hsr] at hrr hR' hold hn'
      rcases hR3 with ⟨rfl, hnil⟩ | ⟨o, rfl, hob, hol, hone⟩
      · refine draw_by (hm := false) (by kernel_rfl) (by kernel_rfl) ?_
        conv => whnf
        refine ⟨_, (f3 _ (by omega)).trans b1, ?_⟩
        conv => whnf
        refine ⟨_, fB, ?_⟩
        conv => whnf
        refine ⟨nn - w / 2, by rw [half w (by omega) (by omega), wrap_eq (by omega) (by omega)], ?_⟩
        conv => whnf
        refine ⟨nn + w, by rw [wrap_eq (by omega) (by omega)], ?_⟩
        conv => whnf
        refine ⟨nn + w - w / 2, by rw [half w (by omega) (by omega), wrap_eq (by omega) (by omega)], ?_⟩
        conv => whnf
        refine .pure _ _ rfl (mklook_ret _ _ _) ?_
        conv => whnf
        have hx := append_first (P := Try.prog) (rd := Heap.at (h3.push .dead (.blk ((rowLk ⟨r.minute, seenLo nn w, seenHi nn w⟩).map .c)))) (fresh := h3.n + 1) (ts := #[27, 27]) rfl rfl U27 U27 rfl S58 (first_own (sz := 3) (len := 1) (cap := 1) (by rw [at_push, if_pos rfl]) rfl) rfl (by decide) (by decide)
        obtain rfl := Option.some.inj (hrr.symm.trans hx)
        refine ⟨_, got_app rfl hx, ?_⟩
        conv => whnf
        refine ⟨rfl, ?_⟩
        conv => whnf
        obtain ⟨π, pA, pB, pF, pG, pO⟩ : ∃ π : Nat → Nat, π (H0.n + 1) = 0 ∧ π h.n = 1 ∧ π h3.n = 2 ∧ π (h3.n + 1) = 3 ∧ ∀ x, H0.n + 5 ≤ x → x < h.n → π x = 4 :=
          ⟨fun x => if x = H0.n + 1 then 0 else if x = h.n then 1 else if x = h3.n then 2 else if x = h3.n + 1 then 3 else 4, by dsimp only; rw [if_pos rfl], by dsimp only; rw [if_neg (by omega), if_pos rfl], by dsimp only; rw [if_neg (by omega), if_neg (by omega), if_pos rfl], by dsimp only; rw [if_neg (by omega), if_neg (by omega), if_neg (by omega), if_pos rfl], fun x h1 h2 => by dsimp only; rw [if_neg (by omega), if_neg (by omega), if_neg (by omega), if_neg (by omega)]⟩
        refine ⟨_, (hold (H0.n + 1) (by omega) (fun e => by simp [outId] at e)).trans ((f3 _ (by omega)).trans b1), ?_⟩
        conv => whnf
        refine ⟨(show H0.n + 1 < h3.n + 1 + 1 by omega), ?_⟩
        conv => whnf
        refine ⟨pairs_via π [⟨0, _, _, [], []⟩, ⟨1, _, _, [π (H0.n + 1)], []⟩, ⟨2, _, _, [], []⟩, ⟨3, _, _, [π h.n], []⟩, ⟨4, _, _, [], []⟩, ⟨5, _, _, [], []⟩, ⟨6, _, _, [], []⟩, ⟨7, _, _, [], []⟩, ⟨8, _, _, [], []⟩, ⟨9, _, _, [], []⟩, ⟨10, _, _, [], []⟩, ⟨11, _, _, [], []⟩, ⟨12, _, _, [], []⟩, ⟨13, _, _, [], []⟩, ⟨14, _, _, [], []⟩, ⟨15, _, _, [], []⟩, ⟨16, _, _, [], []⟩, ⟨17, _, _, [], [π h3.n]⟩, ⟨18, _, _, [π h3.n], [π (h3.n + 1)]⟩, ⟨19, _, _, [], []⟩, ⟨20, _, _, [π (H0.n + 1)], [π (H0.n + 1)]⟩] rfl (by rw [pA, pB, pF, pG]; kernel_rfl), ?_⟩
        conv => whnf
        refine ⟨((q + 1 : Nat) : Int), by rw [wrap_eq (by omega) (by omega)]; omega, ?_⟩
        conv => whnf
        have tk : ((s.looks.take (q + 1)).map (seen s t)).map rowLk = ((s.looks.take q).map (seen s t)).map rowLk ++ [rowLk ⟨r.minute, seenLo nn w, seenHi nn w⟩] := by
          rw [take_snoc' hr, List.map_append, List.map_append, ← hsr]; rfl
        have nD : outId nilA ≠ some (H0.n + 1) := fun e => absurd (oD _ e) (by omega)
        refine ⟨s.looks.length - (q + 1), by omega, q + 1, _, _, by omega, rfl, (at_set_ne _ _ (by omega)).trans ((hold H0.n (by omega) (fun e => by simp [outId] at e)).trans ((f3 _ (by omega)).trans b0)), (at_set_self _ _ (by show H0.n + 1 < h3.n + 1 + 1; omega)).trans rfl, (at_set_ne _ _ (by omega)).trans ((hold (H0.n + 2) (by omega) (fun e => by simp [outId] at e)).trans ((f3 _ (by omega)).trans b2)),
          ?_, by rw [tk]; exact hR'.set (fun e => absurd (hfresh _ e) (by omega)) _, fun o' ho' => ?_, ?_, ?_, fun i hi => (at_set_ne _ _ (by omega)).trans ((hold i (by omega) (fun e => by simp [outId] at e)).trans ((f3 _ (by omega)).trans (bo' i hi))), rfl, ⟨rfl, rfl, rfl, rfl, rfl, rfl, rfl, trivial⟩, rfl, rfl, rfl, rfl⟩
        · exact RD.ext (show h.n ≤ h3.n + 1 + 1 by omega) (fun i hi ho => (at_set_ne _ _ (fun (e : i = H0.n + 1) => nD (e ▸ ho))).trans ((hold i (by omega) (oRD i ho)).trans (f3 i hi)))
        · have := hfresh o' ho'; omega
        · intro o' ho' he
          have := RD.lt o' ho'
          have := hfresh o' he
          omega
        · show H0.n + 5 ≤ h3.n + 1 + 1; omega
      · refine draw_by (hm := false) (by kernel_rfl) (by kernel_rfl) ?_
        conv => whnf
        refine ⟨_, (f3 _ (by omega)).trans b1, ?_⟩
        conv => whnf
        refine ⟨_, fB, ?_⟩
        conv => whnf
        refine ⟨nn - w / 2, by rw [half w (by omega) (by omega), wrap_eq (by omega) (by omega)], ?_⟩
        conv => whnf
        refine ⟨nn + w, by rw [wrap_eq (by omega) (by omega)], ?_⟩
        conv => whnf
        refine ⟨nn + w - w / 2, by rw [half w (by omega) (by omega), wrap_eq (by omega) (by omega)], ?_⟩
        conv => whnf
        refine .pure _ _ rfl (mklook_ret _ _ _) ?_
        conv => whnf
        have hoh : o < h.n := hR.lt o rfl
        have hx := append_grow (P := Try.prog) (id := o) (len := (((s.looks.take q).map (seen s t)).map rowLk).length) (rd := Heap.at (h3.push .dead (.blk ((rowLk ⟨r.minute, seenLo nn w, seenHi nn w⟩).map .c)))) (fresh := h3.n + 1) (ts := #[27, 27]) rfl rfl U27 U27 rfl S58 (first_own (sz := 3) (len := 1) (cap := 1) (by rw [at_push, if_pos rfl]) rfl) rfl (by decide) (by rw [hlen]; unfold limit; omega) (by rw [at_push, if_neg (by omega)]; exact hob) (by rw [List.length_map, flat_len _ rowLk_len])
        obtain rfl := Option.some.inj (hrr.symm.trans hx)
        refine ⟨_, got_app rfl hx, ?_⟩
        conv => whnf
        refine ⟨by rw [List.all_cons, List.all_nil, Bool.and_true]; exact decide_eq_true (show o < h3.n + 1 by omega), ?_⟩
        conv => whnf
        obtain ⟨π, pA, pB, pF, pG, pO⟩ : ∃ π : Nat → Nat, π (H0.n + 1) = 0 ∧ π h.n = 1 ∧ π h3.n = 2 ∧ π (h3.n + 1) = 3 ∧ ∀ x, H0.n + 5 ≤ x → x < h.n → π x = 4 :=
          ⟨fun x => if x = H0.n + 1 then 0 else if x = h.n then 1 else if x = h3.n then 2 else if x = h3.n + 1 then 3 else 4, by dsimp only; rw [if_pos rfl], by dsimp only; rw [if_neg (by omega), if_pos rfl], by dsimp only; rw [if_neg (by omega), if_neg (by omega), if_pos rfl], by dsimp only; rw [if_neg (by omega), if_neg (by omega), if_neg (by omega), if_pos rfl], fun x h1 h2 => by dsimp only; rw [if_neg (by omega), if_neg (by omega), if_neg (by omega), if_neg (by omega)]⟩
        refine ⟨_, (hold (H0.n + 1) (by omega) (fun e => by simp [outId] at e; have := oR o rfl; omega)).trans ((f3 _ (by omega)).trans b1), ?_⟩
        conv => whnf
        refine ⟨(show H0.n + 1 < h3.n + 1 + 1 by omega), ?_⟩
        conv => whnf
        refine ⟨pairs_via π [⟨0, _, _, [], []⟩, ⟨1, _, _, [π (H0.n + 1)], []⟩, ⟨2, _, _, [], []⟩, ⟨3, _, _, [π h.n], []⟩, ⟨4, _, _, [], []⟩, ⟨5, _, _, [], []⟩, ⟨6, _, _, [], []⟩, ⟨7, _, _, [], []⟩, ⟨8, _, _, [], []⟩, ⟨9, _, _, [], []⟩, ⟨10, _, _, [], []⟩, ⟨11, _, _, [], []⟩, ⟨12, _, _, [], []⟩, ⟨13, _, _, [], []⟩, ⟨14, _, _, [], []⟩, ⟨15, _, _, [], []⟩, ⟨16, _, _, [], []⟩, ⟨17, _, _, [], [π h3.n]⟩, ⟨18, _, _, [π o, π h3.n], [π o, π (h3.n + 1)]⟩, ⟨19, _, _, [], []⟩, ⟨20, _, _, [π (H0.n + 1)], [π (H0.n + 1)]⟩] rfl (by rw [pA, pB, pF, pG, pO o (oR o rfl) hoh]; kernel_rfl), ?_⟩
        conv => whnf
        refine ⟨((q + 1 : Nat) : Int), by rw [wrap_eq (by omega) (by omega)]; omega, ?_⟩
        conv => whnf
        have tk : ((s.looks.take (q + 1)).map (seen s t)).map rowLk = ((s.looks.take q).map (seen s t)).map rowLk ++ [rowLk ⟨r.minute, seenLo nn w, seenHi nn w⟩] := by
          rw [take_snoc' hr, List.map_append, List.map_append, ← hsr]; rfl
        have nD : outId nilA ≠ some (H0.n + 1) := fun e => absurd (oD _ e) (by omega)
        refine ⟨s.looks.length - (q + 1), by omega, q + 1, _, _, by omega, rfl, (at_set_ne _ _ (by omega)).trans ((hold H0.n (by omega) (fun e => by simp [outId] at e; have := oR o rfl; omega)).trans ((f3 _ (by omega)).trans b0)), (at_set_self _ _ (by show H0.n + 1 < h3.n + 1 + 1; omega)).trans rfl, (at_set_ne _ _ (by omega)).trans ((hold (H0.n + 2) (by omega) (fun e => by simp [outId] at e; have := oR o rfl; omega)).trans ((f3 _ (by omega)).trans b2)),
          ?_, by rw [tk]; exact hR'.set (fun e => absurd (hfresh _ e) (by omega)) _, fun o' ho' => ?_, ?_, ?_, fun i hi => (at_set_ne _ _ (by omega)).trans ((hold i (by omega) (fun e => by simp [outId] at e; have := oR o rfl; omega)).trans ((f3 _ (by omega)).trans (bo' i hi))), rfl, ⟨rfl, rfl, rfl, rfl, rfl, rfl, rfl, trivial⟩, rfl, rfl, rfl, rfl⟩
        · exact RD.ext (show h.n ≤ h3.n + 1 + 1 by omega) (fun i hi ho => (at_set_ne _ _ (fun (e : i = H0.n + 1) => nD (e ▸ ho))).trans ((hold i (by omega) (oRD i ho)).trans (f3 i hi)))
        · have := hfresh o' ho'; omega
        · intro o' ho' he
          have := RD.lt o' ho'
          have := hfresh o' he
          omega
        · show H0.n + 5 ≤ h3.n + 1 + 1; omega
    have hqe : q = s.looks.length := by have := hv.ln; simp at hc; omega
    subst hqe
    rw [List.take_length] at hR
    have hR : RowsL 3 h out ((seenD s t).looks.map rowLk) := hR
    conv => whnf
    rcases hR.shape with rfl | ⟨o, m, rfl⟩
    all_goals
      refine draw_by (hm := false) (by kernel_rfl) (by kernel_rfl) ?_
      conv => whnf
      refine ⟨_, b1, ?_⟩
      conv => whnf
      refine ⟨_, b2, ?_⟩
      conv => whnf
      refine ⟨_, b1, ?_⟩
      conv => whnf
      refine ⟨by omega, ?_⟩
      conv => whnf
      refine ⟨_, (at_set_ne _ _ (by omega)).trans b2, ?_⟩
      conv => whnf
      refine ⟨by rw [TMap.set_n]; omega, ?_⟩
      conv => whnf
      obtain ⟨π, pA, pB⟩ : ∃ π : Nat → Nat, π (H0.n + 1) = 0 ∧ π (H0.n + 2) = 1 := ⟨fun x => if x = H0.n + 1 then 0 else 1, by dsimp only; rw [if_pos rfl], by dsimp only; rw [if_neg (by omega)]⟩
      refine ⟨pairs_via π [⟨0, _, _, [π (H0.n + 1)], []⟩, ⟨1, _, _, [π (H0.n + 2)], []⟩, ⟨2, _, _, [π (H0.n + 1)], [π (H0.n + 1)]⟩, ⟨3, _, _, [π (H0.n + 2)], [π (H0.n + 2)]⟩] rfl (by rw [pA, pB]; kernel_rfl), ?_⟩
      conv => whnf
      refine ⟨_, (at_set_ne _ _ (by omega)).trans (at_set_self _ _ (by omega)), ?_⟩
      conv => whnf
      refine ⟨_, at_set_self _ _ (by rw [TMap.set_n]; omega), ?_⟩
      conv => whnf
      exact ⟨t, _, htc, ⟨by show H0.n ≤ h.n; omega, fun i hi => (at_set_ne _ _ (by omega)).trans ((at_set_ne _ _ (by omega)).trans (bo' i hi)), (hR.set (fun e => by have := oR _ e; omega) _).set (fun e => by have := oR _ e; omega) _, fun o ho => by have := oR o ho; omega⟩, rfl⟩
  · refine .inl _ h1 .no ca ?_
    conv => whnf
    clear ca
    refine ⟨v.blk, c0, ?_⟩
    conv => whnf
    refine ⟨_, c1, ?_⟩
    conv => whnf
    refine ⟨v.blk, (at_set_self _ _ (by omega)).trans rfl, ?_⟩
    conv => whnf
    refine ⟨v.blk, (at_set_ne _ _ (by omega)).trans ((at_set_ne _ _ (by omega)).trans c0), ?_⟩
    conv => whnf
    refine loop_by (I := fun n st => ∃ (q : Nat) (h : Heap) (out : AV), q ≤ s.looks.length ∧ n = s.looks.length - q ∧ Heap.at h H0.n = v.blk ∧ Heap.at h (H0.n + 1) = lkBlk v out ∧ Heap.at h (H0.n + 2) = t3Blk t ∧ RowsL 1 h (.msl i2 1 0 m2 m2) (L.map row1) ∧
        RowsL 3 h out (((s.looks.take q).map (seen s t)).map rowLk) ∧ (∀ o, outId out = some o → H0.n + 5 ≤ o) ∧ (∀ o, outId (.msl i2 1 0 m2 m2) = some o → outId out ≠ some o) ∧ H0.n + 5 ≤ h.n ∧ (∀ i, i < H0.n → Heap.at h i = Heap.at H0 i) ∧
        Has st 79 [(2, .ptr H0.n 0), (4, .ptr (H0.n + 1) 0), (5, .ptr (H0.n + 2) 0), (10, (.msl i2 1 0 m2 m2)), (38, .c v.looks.cv), (39, .c (I v.ln)), (40, .c (I q))] [] none h) ?_ (k := s.looks.length)
      ⟨0, _, nilA, Nat.zero_le _, rfl, (at_set_ne _ _ (by omega)).trans ((at_set_ne _ _ (by omega)).trans c0), (at_set_self _ _ (by rw [TMap.set_n]; omega)).trans rfl, (at_set_ne _ _ (by omega)).trans ((at_set_ne _ _ (by omega)).trans c2),
        (RD.set (fun e => absurd (oD _ e) (by omega)) _).set (fun e => absurd (oD _ e) (by omega)) _, .inl ⟨rfl, rfl⟩, (fun o ho => by cases ho), (fun o _ ho => by cases ho), (by rw [TMap.set_n, TMap.set_n]; omega),
        fun i hi => (at_set_ne _ _ (by omega)).trans ((at_set_ne _ _ (by omega)).trans (co i hi)), rfl, ⟨rfl, rfl, rfl, rfl, rfl, rfl, rfl, trivial⟩, rfl, rfl, rfl, rfl⟩
    clear hs1 b0 b1 b2 dY dA dn bo' c0 c1 c2 co RD o1 hn1
    rintro n st ⟨q, h, out, hq, rfl, b0, b1, b2, RD, hR, oR, oRD, dn, bo', hs1⟩
    refine hs1.run (hm := false) ?_
    conv => whnf
    cases hc : decide ((q : Int) < (v.ln : Int))
    case true =>
      have e4 : v.looks.n = s.looks.length := hv.ln
      have e5 : v.ln = s.looks.length := hv.ln
      have hq : q < s.looks.length := by simp at hc; omega
      obtain ⟨r, hr⟩ := get_some hq
      have hlk := look_of hd (List.mem_of_getElem? hr)
      conv => whnf
      refine ⟨⟨by omega, by omega⟩, ?_⟩
      conv => whnf
      refine ⟨_, hv.looks.look hr, ?_⟩
      conv => whnf
      refine ⟨_, at_push_self _ _, ?_⟩
      conv => whnf
      refine ⟨_, at_new _ _ _, ?_⟩
      conv => whnf
      obtain ⟨h0, hh0⟩ : ∃ h0 : Heap, h0 = (h.push .dead (.blk [AV.lit (.int .i64 0), AV.lit (.int .i64 0), AV.lit (.int .i64 0)])).set .dead h.n (.blk [.c (I r.minute), .c (I r.lo), .c (I r.hi)]) := ⟨_, rfl⟩
      rw [← hh0]
      have g0 : ∀ i, i < h.n → Heap.at h0 i = Heap.at h i := fun i hi => by rw [hh0]; exact at_old _ _ _ hi
      have gB : Heap.at h0 h.n = .blk [.c (I r.minute), .c (I r.lo), .c (I r.hi)] := by rw [hh0]; exact at_new _ _ _
      have gn : h0.n = h.n + 1 := by rw [hh0, new_n]
      clear hh0
      obtain ⟨e, h3, cm, rfl, F3⟩ := many_ret (RD.ext (h' := h0) (by omega) fun i hi _ => g0 i hi) (by omega) r.minute
      refine .inl _ h3 .no cm ?_
      conv => whnf
      clear cm
      have kk := kD r.minute (by omega)
      have hdb := doneBy_le s t r.minute
      have hs16 := sheep_le hd
      have f3 : ∀ i, i < h.n → Heap.at h3 i = Heap.at h i := fun i hi => (F3.keep i (by omega) (fun x => x)).trans (g0 i hi)
      have fB : Heap.at h3 h.n = .blk [.c (I r.minute), .c (I r.lo), .c (I r.hi)] := (F3.keep _ (by omega) (fun x => x)).trans gB
      have fn : h.n + 1 ≤ h3.n := by have := F3.n; omega
      refine ⟨_, fB, ?_⟩
      conv => whnf
      refine ⟨_, fB, ?_⟩
      conv => whnf
      refine ⟨r.hi - r.lo, by rw [wrap_eq (by omega) (by omega)], ?_⟩
      conv => whnf
      rw [kk]
      obtain ⟨nn, hnn⟩ : ∃ nn, nn = Me.of (dayOf s t) (.doneBy r.minute) := ⟨_, rfl⟩
      obtain ⟨w, hw⟩ : ∃ w, w = min 4 (r.hi - r.lo) := ⟨_, rfl⟩
      have hsr : seen s t r = ⟨r.minute, seenLo nn w, seenHi nn w⟩ := by rw [hnn, hw]; rfl
      rw [← hnn] at hdb
      rw [← hnn, ← hw]
      have hlen : (((s.looks.take q).map (seen s t)).map rowLk).length = q := by rw [List.length_map, List.length_map, List.length_take]; omega
      have h4 := valid_looks hd
      have hR3 : RowsL 3 h3 out (((s.looks.take q).map (seen s t)).map rowLk) := hR.ext (by omega) fun i hi _ => f3 i hi
      obtain ⟨rr, hrr, hR', hold, hn', hfresh⟩ := rows_append (row := rowLk (seen s t r)) (t := 27) (u := 27) hR3 U27 U27 rfl S58 rfl rowLk_len rfl (by rw [hlen]; unfold limit; omega)
      rw [atF_eq] at hrr
      rw [hsr] at hrr hR' hold hn'
      rcases hR3 with ⟨rfl, hnil⟩ | ⟨o, rfl, hob, hol, hone⟩
      · refine draw_by (hm := false) (by kernel_rfl) (by kernel_rfl) ?_
        conv => whnf
        refine ⟨_, (f3 _ (by omega)).trans b1, ?_⟩
        conv => whnf
        refine ⟨_, fB, ?_⟩
        conv => whnf
        refine ⟨nn - w / 2, by rw [half w (by omega) (by omega), wrap_eq (by omega) (by omega)], ?_⟩
        conv => whnf
        refine ⟨nn + w, by rw [wrap_eq (by omega) (by omega)], ?_⟩
        conv => whnf
        refine ⟨nn + w - w / 2, by rw [half w (by omega) (by omega), wrap_eq (by omega) (by omega)], ?_⟩
        conv => whnf
        refine .pure _ _ rfl (mklook_ret _ _ _) ?_
        conv => whnf
        have hx := append_first (P := Try.prog) (rd := Heap.at (h3.push .dead (.blk ((rowLk ⟨r.minute, seenLo nn w, seenHi nn w⟩).map .c)))) (fresh := h3.n + 1) (ts := #[27, 27]) rfl rfl U27 U27 rfl S58 (first_own (sz := 3) (len := 1) (cap := 1) (by rw [at_push, if_pos rfl]) rfl) rfl (by decide) (by decide)
        obtain rfl := Option.some.inj (hrr.symm.trans hx)
        refine ⟨_, got_app rfl hx, ?_⟩
        conv => whnf
        refine ⟨rfl, ?_⟩
        conv => whnf
        obtain ⟨π, pA, pB, pF, pG, pO⟩ : ∃ π : Nat → Nat, π (H0.n + 1) = 0 ∧ π h.n = 1 ∧ π h3.n = 2 ∧ π (h3.n + 1) = 3 ∧ ∀ x, H0.n + 5 ≤ x → x < h.n → π x = 4 :=
          ⟨fun x => if x = H0.n + 1 then 0 else if x = h.n then 1 else if x = h3.n then 2 else if x = h3.n + 1 then 3 else 4, by dsimp only; rw [if_pos rfl], by dsimp only; rw [if_neg (by omega), if_pos rfl], by dsimp only; rw [if_neg (by omega), if_neg (by omega), if_pos rfl], by dsimp only; rw [if_neg (by omega), if_neg (by omega), if_neg (by omega), if_pos rfl], fun x h1 h2 => by dsimp only; rw [if_neg (by omega), if_neg (by omega), if_neg (by omega), if_neg (by omega)]⟩
        refine ⟨_, (hold (H0.n + 1) (by omega) (fun e => by simp [outId] at e)).trans ((f3 _ (by omega)).trans b1), ?_⟩
        conv => whnf
        refine ⟨(show H0.n + 1 < h3.n + 1 + 1 by omega), ?_⟩
        conv => whnf
        refine ⟨pairs_via π [⟨0, _, _, [], []⟩, ⟨1, _, _, [π (H0.n + 1)], []⟩, ⟨2, _, _, [], []⟩, ⟨3, _, _, [π h.n], []⟩, ⟨4, _, _, [], []⟩, ⟨5, _, _, [], []⟩, ⟨6, _, _, [], []⟩, ⟨7, _, _, [], []⟩, ⟨8, _, _, [], []⟩, ⟨9, _, _, [], []⟩, ⟨10, _, _, [], []⟩, ⟨11, _, _, [], []⟩, ⟨12, _, _, [], []⟩, ⟨13, _, _, [], []⟩, ⟨14, _, _, [], []⟩, ⟨15, _, _, [], []⟩, ⟨16, _, _, [], []⟩, ⟨17, _, _, [], [π h3.n]⟩, ⟨18, _, _, [π h3.n], [π (h3.n + 1)]⟩, ⟨19, _, _, [], []⟩, ⟨20, _, _, [π (H0.n + 1)], [π (H0.n + 1)]⟩] rfl (by rw [pA, pB, pF, pG]; kernel_rfl), ?_⟩
        conv => whnf
        refine ⟨((q + 1 : Nat) : Int), by rw [wrap_eq (by omega) (by omega)]; omega, ?_⟩
        conv => whnf
        have tk : ((s.looks.take (q + 1)).map (seen s t)).map rowLk = ((s.looks.take q).map (seen s t)).map rowLk ++ [rowLk ⟨r.minute, seenLo nn w, seenHi nn w⟩] := by
          rw [take_snoc' hr, List.map_append, List.map_append, ← hsr]; rfl
        have nD : outId (.msl i2 1 0 m2 m2) ≠ some (H0.n + 1) := fun e => absurd (oD _ e) (by omega)
        refine ⟨s.looks.length - (q + 1), by omega, q + 1, _, _, by omega, rfl, (at_set_ne _ _ (by omega)).trans ((hold H0.n (by omega) (fun e => by simp [outId] at e)).trans ((f3 _ (by omega)).trans b0)), (at_set_self _ _ (by show H0.n + 1 < h3.n + 1 + 1; omega)).trans rfl, (at_set_ne _ _ (by omega)).trans ((hold (H0.n + 2) (by omega) (fun e => by simp [outId] at e)).trans ((f3 _ (by omega)).trans b2)),
          ?_, by rw [tk]; exact hR'.set (fun e => absurd (hfresh _ e) (by omega)) _, fun o' ho' => ?_, ?_, ?_, fun i hi => (at_set_ne _ _ (by omega)).trans ((hold i (by omega) (fun e => by simp [outId] at e)).trans ((f3 _ (by omega)).trans (bo' i hi))), rfl, ⟨rfl, rfl, rfl, rfl, rfl, rfl, rfl, trivial⟩, rfl, rfl, rfl, rfl⟩
        · exact RD.ext (show h.n ≤ h3.n + 1 + 1 by omega) (fun i hi ho => (at_set_ne _ _ (fun (e : i = H0.n + 1) => nD (e ▸ ho))).trans ((hold i (by omega) (oRD i ho)).trans (f3 i hi)))
        · have := hfresh o' ho'; omega
        · intro o' ho' he
          have := RD.lt o' ho'
          have := hfresh o' he
          omega
        · show H0.n + 5 ≤ h3.n + 1 + 1; omega
      · refine draw_by (hm := false) (by kernel_rfl) (by kernel_rfl) ?_
        conv => whnf
        refine ⟨_, (f3 _ (by omega)).trans b1, ?_⟩
        conv => whnf
        refine ⟨_, fB, ?_⟩
        conv => whnf
        refine ⟨nn - w / 2, by rw [half w (by omega) (by omega), wrap_eq (by omega) (by omega)], ?_⟩
        conv => whnf
        refine ⟨nn + w, by rw [wrap_eq (by omega) (by omega)], ?_⟩
        conv => whnf
        refine ⟨nn + w - w / 2, by rw [half w (by omega) (by omega), wrap_eq (by omega) (by omega)], ?_⟩
        conv => whnf
        refine .pure _ _ rfl (mklook_ret _ _ _) ?_
        conv => whnf
        have hoh : o < h.n := hR.lt o rfl
        have hx := append_grow (P := Try.prog) (id := o) (len := (((s.looks.take q).map (seen s t)).map rowLk).length) (rd := Heap.at (h3.push .dead (.blk ((rowLk ⟨r.minute, seenLo nn w, seenHi nn w⟩).map .c)))) (fresh := h3.n + 1) (ts := #[27, 27]) rfl rfl U27 U27 rfl S58 (first_own (sz := 3) (len := 1) (cap := 1) (by rw [at_push, if_pos rfl]) rfl) rfl (by decide) (by rw [hlen]; unfold limit; omega) (by rw [at_push, if_neg (by omega)]; exact hob) (by rw [List.length_map, flat_len _ rowLk_len])
        obtain rfl := Option.some.inj (hrr.symm.trans hx)
        refine ⟨_, got_app rfl hx, ?_⟩
        conv => whnf
        refine ⟨by rw [List.all_cons, List.all_nil, Bool.and_true]; exact decide_eq_true (show o < h3.n + 1 by omega), ?_⟩
        conv => whnf
        obtain ⟨π, pA, pB, pF, pG, pO⟩ : ∃ π : Nat → Nat, π (H0.n + 1) = 0 ∧ π h.n = 1 ∧ π h3.n = 2 ∧ π (h3.n + 1) = 3 ∧ ∀ x, H0.n + 5 ≤ x → x < h.n → π x = 4 :=
          ⟨fun x => if x = H0.n + 1 then 0 else if x = h.n then 1 else if x = h3.n then 2 else if x = h3.n + 1 then 3 else 4, by dsimp only; rw [if_pos rfl], by dsimp only; rw [if_neg (by omega), if_pos rfl], by dsimp only; rw [if_neg (by omega), if_neg (by omega), if_pos rfl], by dsimp only; rw [if_neg (by omega), if_neg (by omega), if_neg (by omega), if_pos rfl], fun x h1 h2 => by dsimp only; rw [if_neg (by omega), if_neg (by omega), if_neg (by omega), if_neg (by omega)]⟩
        refine ⟨_, (hold (H0.n + 1) (by omega) (fun e => by simp [outId] at e; have := oR o rfl; omega)).trans ((f3 _ (by omega)).trans b1), ?_⟩
        conv => whnf
        refine ⟨(show H0.n + 1 < h3.n + 1 + 1 by omega), ?_⟩
        conv => whnf
        refine ⟨pairs_via π [⟨0, _, _, [], []⟩, ⟨1, _, _, [π (H0.n + 1)], []⟩, ⟨2, _, _, [], []⟩, ⟨3, _, _, [π h.n], []⟩, ⟨4, _, _, [], []⟩, ⟨5, _, _, [], []⟩, ⟨6, _, _, [], []⟩, ⟨7, _, _, [], []⟩, ⟨8, _, _, [], []⟩, ⟨9, _, _, [], []⟩, ⟨10, _, _, [], []⟩, ⟨11, _, _, [], []⟩, ⟨12, _, _, [], []⟩, ⟨13, _, _, [], []⟩, ⟨14, _, _, [], []⟩, ⟨15, _, _, [], []⟩, ⟨16, _, _, [], []⟩, ⟨17, _, _, [], [π h3.n]⟩, ⟨18, _, _, [π o, π h3.n], [π o, π (h3.n + 1)]⟩, ⟨19, _, _, [], []⟩, ⟨20, _, _, [π (H0.n + 1)], [π (H0.n + 1)]⟩] rfl (by rw [pA, pB, pF, pG, pO o (oR o rfl) hoh]; kernel_rfl), ?_⟩
        conv => whnf
        refine ⟨((q + 1 : Nat) : Int), by rw [wrap_eq (by omega) (by omega)]; omega, ?_⟩
        conv => whnf
        have tk : ((s.looks.take (q + 1)).map (seen s t)).map rowLk = ((s.looks.take q).map (seen s t)).map rowLk ++ [rowLk ⟨r.minute, seenLo nn w, seenHi nn w⟩] := by
          rw [take_snoc' hr, List.map_append, List.map_append, ← hsr]; rfl
        have nD : outId (.msl i2 1 0 m2 m2) ≠ some (H0.n + 1) := fun e => absurd (oD _ e) (by omega)
        refine ⟨s.looks.length - (q + 1), by omega, q + 1, _, _, by omega, rfl, (at_set_ne _ _ (by omega)).trans ((hold H0.n (by omega) (fun e => by simp [outId] at e; have := oR o rfl; omega)).trans ((f3 _ (by omega)).trans b0)), (at_set_self _ _ (by show H0.n + 1 < h3.n + 1 + 1; omega)).trans rfl, (at_set_ne _ _ (by omega)).trans ((hold (H0.n + 2) (by omega) (fun e => by simp [outId] at e; have := oR o rfl; omega)).trans ((f3 _ (by omega)).trans b2)),
          ?_, by rw [tk]; exact hR'.set (fun e => absurd (hfresh _ e) (by omega)) _, fun o' ho' => ?_, ?_, ?_, fun i hi => (at_set_ne _ _ (by omega)).trans ((hold i (by omega) (fun e => by simp [outId] at e; have := oR o rfl; omega)).trans ((f3 _ (by omega)).trans (bo' i hi))), rfl, ⟨rfl, rfl, rfl, rfl, rfl, rfl, rfl, trivial⟩, rfl, rfl, rfl, rfl⟩
        · exact RD.ext (show h.n ≤ h3.n + 1 + 1 by omega) (fun i hi ho => (at_set_ne _ _ (fun (e : i = H0.n + 1) => nD (e ▸ ho))).trans ((hold i (by omega) (oRD i ho)).trans (f3 i hi)))
        · have := hfresh o' ho'; omega
        · intro o' ho' he
          have := RD.lt o' ho'
          have := hfresh o' he
          omega
        · show H0.n + 5 ≤ h3.n + 1 + 1; omega
    have hqe : q = s.looks.length := by have := hv.ln; simp at hc; omega
    subst hqe
    rw [List.take_length] at hR
    have hR : RowsL 3 h out ((seenD s t).looks.map rowLk) := hR
    conv => whnf
    rcases hR.shape with rfl | ⟨o, m, rfl⟩
    all_goals
      refine draw_by (hm := false) (by kernel_rfl) (by kernel_rfl) ?_
      conv => whnf
      refine ⟨_, b1, ?_⟩
      conv => whnf
      refine ⟨_, b2, ?_⟩
      conv => whnf
      refine ⟨_, b1, ?_⟩
      conv => whnf
      refine ⟨by omega, ?_⟩
      conv => whnf
      refine ⟨_, (at_set_ne _ _ (by omega)).trans b2, ?_⟩
      conv => whnf
      refine ⟨by rw [TMap.set_n]; omega, ?_⟩
      conv => whnf
      obtain ⟨π, pA, pB⟩ : ∃ π : Nat → Nat, π (H0.n + 1) = 0 ∧ π (H0.n + 2) = 1 := ⟨fun x => if x = H0.n + 1 then 0 else 1, by dsimp only; rw [if_pos rfl], by dsimp only; rw [if_neg (by omega)]⟩
      refine ⟨pairs_via π [⟨0, _, _, [π (H0.n + 1)], []⟩, ⟨1, _, _, [π (H0.n + 2)], []⟩, ⟨2, _, _, [π (H0.n + 1)], [π (H0.n + 1)]⟩, ⟨3, _, _, [π (H0.n + 2)], [π (H0.n + 2)]⟩] rfl (by rw [pA, pB]; kernel_rfl), ?_⟩
      conv => whnf
      refine ⟨_, (at_set_ne _ _ (by omega)).trans (at_set_self _ _ (by omega)), ?_⟩
      conv => whnf
      refine ⟨_, at_set_self _ _ (by rw [TMap.set_n]; omega), ?_⟩
      conv => whnf
      exact ⟨t, _, htc, ⟨by show H0.n ≤ h.n; omega, fun i hi => (at_set_ne _ _ (by omega)).trans ((at_set_ne _ _ (by omega)).trans (bo' i hi)), (hR.set (fun e => by have := oR _ e; omega) _).set (fun e => by have := oR _ e; omega) _, fun o ho => by have := oR o ho; omega⟩, rfl⟩
end Go.Ag
/- Layer 4: calls on a stand of one's own. -/
namespace Go.Ag
open Go.Proofs
set_option maxRecDepth 100000

def xAV (v : SV) (out : AV) : AV := mkAgg [.c (I v.lo.a), .c (I v.hi.a), .c (I v.lo.b), .c (I v.hi.b), .c (I v.lo.c), .c (I v.hi.c), .c (.sl v.rc v.ro v.rn), .c (.sl v.kc v.ko v.kn), out]
/-- The stand with these looks. -/
def lkV (v : SV) (L : List Lk) : SV := withV v (L.map rowLk).flatten L.length
theorem allC_map : ∀ cs : List CV, allC (cs.map .c) = some cs
  | [] => rfl
  | c :: cs => by
    simp only [List.map_cons, allC, allC_map cs, Option.map_some]
theorem snaps_cons {H : Nat → AB} {n : Nat} {v : AV} {l : List AV} {a : CV} {b : List CV} {i j : List Nat} (h1 : snap H n v = some (a, i)) (h2 : snaps H n l = some (b, j)) : snaps H (n + 1) (v :: l) = some (a :: b, i ++ j) := by
  simp only [snaps, h1, h2, Option.bind_some, Option.map_some]
theorem snap_x {H : Nat → AB} {o n : Nat} {cs : List CV} (hb : H o = .blk (cs.map .c)) (a0 a1 a2 a3 a4 a5 a6 a7 : CV) (m : Nat) (hm : cs.length + 20 ≤ m) :
    snap H m (.agg [.c a0, .c a1, .c a2, .c a3, .c a4, .c a5, .c a6, .c a7, .msl o 3 0 n n]) = some (.agg [a0, a1, a2, a3, a4, a5, a6, a7, .sl cs 0 n], [o]) := by
  obtain ⟨m, rfl⟩ : ∃ k, m = k + 20 := ⟨m - 20, by omega⟩
  simp only [snap, snaps, Option.bind_some, Option.map_some, hb]
  rw [snaps_map_c H cs _ (by omega)]
  rfl
theorem callX {v : SV} {out : AV} {h : Heap} {L : List Lk} (R : RowsL 3 h out (L.map rowLk)) {f : FuncId} {cs : List CV} {r : CV} (hr : Ret Try.prog f ((lkV v L).cv :: cs) r) (hp : r.plain = true) {K : AEnd → Heap → Prop} (k : K (.ret (.c r)) h) :
    CallW Try.prog f (xAV v out :: cs.map .c) h K := by
  rcases R with ⟨rfl, hn⟩ | ⟨o, rfl, hb, _, _⟩
  · have : L = [] := by simpa using hn
    subst this
    have hr' : Ret Try.prog f (.agg [I v.lo.a, I v.hi.a, I v.lo.b, I v.hi.b, I v.lo.c, I v.hi.c, .sl v.rc v.ro v.rn, .sl v.kc v.ko v.kn, nilC] :: cs) r :=
      hr.args ⟨.agg ⟨.refl _, .refl _, .refl _, .refl _, .refl _, .refl _, .refl _, .refl _, .nil _ _, trivial⟩, Les.refl _⟩
    refine .ret hr' ?_ k
    show (allC (cs.map .c)).map _ = _
    rw [allC_map]
    rfl
  · have hkl : killed r ([o] ++ []) = [] := by unfold killed; rw [if_pos hp]
    refine .snapped ((L.map rowLk).flatten.length + cs.length + 20 + 1) _ _ _ r (snaps_cons (snap_x hb _ _ _ _ _ _ _ _ _ (by omega)) (snaps_map_c _ cs _ (by omega))) ?_ rfl (by rw [hkl]; exact k)
    rw [List.length_map]
    exact hr

/-- What the law has at hand. -/
structure Env (v : SV) (s : Sd) (t : T3) (a b : Nat) (out da dda : AV) (j : Nat) (h : Heap) : Prop where
  b0 : Heap.at h 0 = v.blk
  bx : Heap.at h a = lkBlk v out
  bt : Heap.at h b = t3Blk t
  rx : RowsL 3 h out ((seenD s t).looks.map rowLk)
  rb : RowsL 1 h da (((lwL s t j).map (·.1)).map row1)
  rd : RowsL 1 h dda ((doneL s t j).map row1)
  l0 : 0 < h.n
  la : a < h.n
  lb : b < h.n
theorem Env.up {v : SV} {s : Sd} {t : T3} {a b : Nat} {out da dda : AV} {j : Nat} {h h' : Heap} (e : Env v s t a b out da dda j h) (f : Foot none' h h') : Env v s t a b out da dda j h' :=
  ⟨(f.keep _ e.l0 (fun x => x)).trans e.b0, (f.keep _ e.la (fun x => x)).trans e.bx, (f.keep _ e.lb (fun x => x)).trans e.bt, e.rx.ext f.n (fun i hi _ => f.keep i hi (fun x => x)), e.rb.ext f.n (fun i hi _ => f.keep i hi (fun x => x)), e.rd.ext f.n (fun i hi _ => f.keep i hi (fun x => x)),
    Nat.lt_of_lt_of_le e.l0 f.n, Nat.lt_of_lt_of_le e.la f.n, Nat.lt_of_lt_of_le e.lb f.n⟩
theorem foot_new (h : Heap) (x y : AB) : Foot none' h ((h.push .dead x).set .dead h.n y) := Foot.set ((Foot.refl _ _).push _) (.inr (Nat.le_refl _)) _
end Go.Ag
/- Layer 4: what is returned of a stand whose looks are right. -/
namespace Go.Ag
open Go.Proofs
set_option maxRecDepth 100000

theorem x_is {v : SV} {s : Sd} (hv : v.Is s) (_ : validB s = true) {t : T3} (_ : t ∈ combos s) : (lkV v (seenD s t).looks).Is (seenD s t) := withV_is hv (L := s.looks.map (seen s t)) (by rw [List.length_map]; exact hv.short.2.2)
theorem x_some {v : SV} {s : Sd} (_ : v.Is s) (hd : validB s = true) {t : T3} (ht : t ∈ combos s) : truths (seenD s t) ≠ [] := fun e => by
  have := seen_truth hd ht
  rw [e] at this
  cases this
theorem x_span {v : SV} {s : Sd} (hv : v.Is s) (hd : validB s = true) {t : T3} (ht : t ∈ combos s) (f : T3 → Int) : ∃ p : Int × Int, spanS (seenD s t) f = some p ∧ p.1 ≤ f t ∧ f t ≤ p.2 := by
  obtain ⟨p, h1, h2⟩ := span_ex (x_some hv hd ht) f
  exact ⟨p, h1, h2.all t (seen_truth hd ht)⟩
theorem x_clash {v : SV} {s : Sd} (hv : v.Is s) (hd : validB s = true) {t : T3} (ht : t ∈ combos s) : Ret Try.prog 26 [(lkV v (seenD s t).looks).cv] (.tuple [I 0, I 4]) := by
  have h := clash_ret (x_is hv hd ht)
  rw [clash_ok (seen_valid hd t) (x_some hv hd ht)] at h
  exact h
theorem x_done {v : SV} {s : Sd} (hv : v.Is s) (hd : validB s = true) {t : T3} (ht : t ∈ combos s) {i : Nat} (hi : i < s.sheep.length) : ∃ a b : Int, Ret Try.prog 14 [(lkV v (seenD s t).looks).cv, I i] (.tuple [.agg [I a, I b], I 0]) ∧ insB (Me.of (dayOf s t) (.doneAt i)) a b = true := by
  obtain ⟨p, h1, h2, h3⟩ := x_span hv hd ht fun t' => Me.of (dayOf (seenD s t) t') (.doneAt i)
  have h := done_ret (x_is hv hd ht) i
  rw [show inB (i : Int) 0 ((seenD s t).sheep.length - 1) = true by show inB (i : Int) 0 (s.sheep.length - 1) = true; simp [inB]; omega, show ((i : Int)).toNat = i by omega, show spanM (seenD s t) (.doneAt i) = some p from h1, spR_ok (seen_valid hd t)] at h
  refine ⟨p.1, p.2, h, ?_⟩
  simp only [insB, Bool.and_eq_true, decide_eq_true_eq]
  exact ⟨h2, h3⟩
theorem x_takes {v : SV} {s : Sd} (hv : v.Is s) (hd : validB s = true) {t : T3} (ht : t ∈ combos s) {k : Nat} (hk : k ≤ 2) : ∃ a b : Int, Ret Try.prog 18 [(lkV v (seenD s t).looks).cv, I k] (.tuple [.agg [I a, I b], I 0]) ∧ insB (t.get k) a b = true := by
  obtain ⟨p, h1, h2, h3⟩ := x_span hv hd ht fun t' => t'.get k
  have h := takes_ret (x_is hv hd ht) k
  rw [show inB (k : Int) 0 2 = true by simp [inB]; omega, show ((k : Int)).toNat = k by omega, show spanT (seenD s t) k = some p from h1, spR_ok (seen_valid hd t)] at h
  refine ⟨p.1, p.2, h, ?_⟩
  simp only [insB, Bool.and_eq_true, decide_eq_true_eq]
  exact ⟨h2, h3⟩
theorem x_count {v : SV} {s : Sd} (hv : v.Is s) (hd : validB s = true) {t : T3} (ht : t ∈ combos s) {n : Nat} (hn : n ≤ 999) : ∃ a b : Int, Ret Try.prog 16 [(lkV v (seenD s t).looks).cv, I n] (.tuple [.agg [I a, I b], I 0]) ∧ insB (Me.of (dayOf s t) (.doneBy n)) a b = true := by
  obtain ⟨p, h1, h2, h3⟩ := x_span hv hd ht fun t' => Me.of (dayOf (seenD s t) t') (.doneBy n)
  have h := count_ret (x_is hv hd ht) n
  rw [show inB (n : Int) 0 999 = true by simp [inB]; omega, show spanM (seenD s t) (.doneBy n) = some p from h1, spR_ok (seen_valid hd t)] at h
  refine ⟨p.1, p.2, h, ?_⟩
  simp only [insB, Bool.and_eq_true, decide_eq_true_eq]
  exact ⟨h2, h3⟩
theorem x_begun {v : SV} {s : Sd} (hv : v.Is s) (hd : validB s = true) {t : T3} (ht : t ∈ combos s) {r : Nat} (hr : r < s.runs.length) : ∃ a b : Int, Ret Try.prog 20 [(lkV v (seenD s t).looks).cv, I r] (.tuple [.agg [I a, I b], I 0]) ∧ insB (Me.of (dayOf s t) (.begun r r)) a b = true := by
  obtain ⟨p, h1, h2, h3⟩ := x_span hv hd ht fun t' => Me.of (dayOf (seenD s t) t') (.begun r r)
  have h := begun_all (x_is hv hd ht) r
  rw [show inB (r : Int) 0 ((seenD s t).runs.length - 1) = true by show inB (r : Int) 0 (s.runs.length - 1) = true; simp [inB]; omega, show spanM (seenD s t) (.begun r r) = some p from h1, spR_ok (seen_valid hd t)] at h
  refine ⟨p.1, p.2, h, ?_⟩
  simp only [insB, Bool.and_eq_true, decide_eq_true_eq]
  exact ⟨h2, h3⟩
theorem x_over {v : SV} {s : Sd} (hv : v.Is s) (hd : validB s = true) {t : T3} (ht : t ∈ combos s) {r : Nat} {y : Ru} (hy : s.runs[r]? = some y) : ∃ a b : Int, Ret Try.prog 22 [(lkV v (seenD s t).looks).cv, I r] (.tuple [.agg [I a, I b], I 0]) ∧ insB (Me.of (dayOf s t) (.past r r y.bell)) a b = true := by
  have hr : r < s.runs.length := (List.getElem?_eq_some_iff.1 hy).1
  obtain ⟨p, h1, h2, h3⟩ := x_span hv hd ht fun t' => Me.of (dayOf (seenD s t) t') (.past r r y.bell)
  have h := over_ret (x_is hv hd ht) r
  have hb : bellOf (seenD s t) r = y.bell := by
    show bellOf s r = y.bell
    unfold bellOf; rw [hy]
  rw [show inB (r : Int) 0 ((seenD s t).runs.length - 1) = true by show inB (r : Int) 0 (s.runs.length - 1) = true; simp [inB]; omega, show ((r : Int)).toNat = r by omega, hb, show spanM (seenD s t) (.past r r y.bell) = some p from h1, spR_ok (seen_valid hd t)] at h
  refine ⟨p.1, p.2, h, ?_⟩
  simp only [insB, Bool.and_eq_true, decide_eq_true_eq]
  exact ⟨h2, h3⟩
theorem x_late {v : SV} {s : Sd} (hv : v.Is s) (hd : validB s = true) {t : T3} (ht : t ∈ combos s) {r : Nat} {y : Ru} (hy : s.runs[r]? = some y) (h0 : r ≠ 0) : ∃ k : Int, Ret Try.prog 24 [(lkV v (seenD s t).looks).cv, I r] (.tuple [I k, I 0]) ∧ (k = 2 → 0 < Me.of (dayOf s t) (.past 0 ((r : Int) - 1) y.start)) ∧ (k = 0 → Me.of (dayOf s t) (.past 0 ((r : Int) - 1) y.start) ≤ 0) := by
  have hr : r < s.runs.length := (List.getElem?_eq_some_iff.1 hy).1
  obtain ⟨p, h1, h2, h3⟩ := x_span hv hd ht fun t' => Me.of (dayOf (seenD s t) t') (.past 0 ((r : Int) - 1) y.start)
  have h := late_ret (x_is hv hd ht) r
  have hb : startOf (seenD s t) r = y.start := by
    show startOf s r = y.start
    unfold startOf; rw [hy]
  have e : lateR (seenD s t) r = (sureOf p, 0) := by
    unfold lateR
    rw [seen_valid hd t, show inB (r : Int) 0 ((seenD s t).runs.length - 1) = true by show inB (r : Int) 0 (s.runs.length - 1) = true; simp [inB]; omega, show ((r : Int)).toNat = r by omega, hb, show spanM (seenD s t) (.past 0 ((r : Int) - 1) y.start) = some p from h1]
    have : ((r : Int) == 0) = false := by simp; omega
    rw [this]
    rfl
  rw [e] at h
  refine ⟨_, h, fun hk => ?_, fun hk => ?_⟩
  · dsimp only at hk h2
    unfold sureOf at hk
    split at hk
    · rename_i hc
      have hc : p.1 > 0 := by simpa using hc
      show 0 < Me.of (dayOf s t) _
      have h2 : p.1 ≤ Me.of (dayOf s t) (.past 0 ((r : Int) - 1) y.start) := h2
      omega
    · split at hk <;> omega
  · dsimp only at hk h3
    unfold sureOf at hk
    split at hk
    · omega
    · split at hk
      · omega
      · rename_i hc
        have hc : ¬ p.2 > 0 := by simpa using hc
        have h3 : Me.of (dayOf s t) (.past 0 ((r : Int) - 1) y.start) ≤ p.2 := h3
        omega
end Go.Ag
/- Layer 4: whatever is true lies within what is returned: the law's walk. -/
namespace Go.Ag
open Go.Proofs
set_option maxRecDepth 100000

theorem RowsL.ints {h : Heap} {o m : Nat} {l : List Int} (R : RowsL 1 h (.msl o 1 0 m m) (l.map row1)) : m = l.length ∧ Heap.at h o = .blk ((l.map I).map .c) := by
  rcases R with ⟨h1, _⟩ | ⟨o', h1, hb, _, _⟩
  · cases h1
  · simp only [AV.msl.injEq] at h1
    obtain ⟨rfl, _, _, rfl, _⟩ := h1
    exact ⟨by rw [List.length_map], by rw [hb, flat_row1]⟩
theorem RowsL.nils {h : Heap} {l : List Int} (R : RowsL 1 h nilA (l.map row1)) : l = [] := by
  rcases R with ⟨_, h1⟩ | ⟨o', h1, _⟩
  · simpa using h1
  · cases h1
theorem run_count {s : Sd} (hd : validB s = true) {t : T3} (ht : ∀ k, 1 ≤ t.get k) (j : Nat) {r : Nat} {y : Ru} (hy : s.runs[r]? = some y) : ((ofRun y (lwL s t j)).length : Int) = Me.of (dayOf s t) (.begun r r) := by
  rw [run_same hd ht j hy, List.length_map]
  rfl
theorem day_inc {s : Sd} {t : T3} (ht : ∀ k, 1 ≤ t.get k) : (dayOf s t).Pairwise (fun a b => a.done ≤ b.done) := (day_sorted ht _ _ _).2
theorem run_over {s : Sd} (hd : validB s = true) {t : T3} (ht : ∀ k, 1 ≤ t.get k) (j : Nat) {r : Nat} {y : Ru} (hy : s.runs[r]? = some y) : max 0 (lastF (ofRun y (lwL s t j)) - y.bell) = Me.of (dayOf s t) (.past r r y.bell) := by
  rw [run_same hd ht j hy]
  have h := (valid_run hd hy)
  exact (latest_top (run_top (day_inc ht) r r) (by omega)).symm
theorem free_next {s : Sd} (hd : validB s = true) {t : T3} (ht : ∀ k, 1 ≤ t.get k) (j : Nat) {r : Nat} {y : Ru} (hy : s.runs[r]? = some y) : freeR (dayOf s t) (r + 1) = max (freeR (dayOf s t) r) (lastF (ofRun y (lwL s t j))) := by
  rw [run_same hd ht j hy]; rfl
theorem run_late {s : Sd} (hd : validB s = true) {t : T3} (hg : Good s t) {r : Nat} {y : Ru} (hy : s.runs[r]? = some y) : Me.of (dayOf s t) (.past 0 ((r : Int) - 1) y.start) = max 0 (freeR (dayOf s t) r - y.start) := by
  have h := (valid_run hd hy)
  exact latest_top (free_top (day_inc fun k => (hg.takes k).1) (fun x hx => (day_done6 hg x hx).1) r).2 (by omega)
theorem last_mem (l : List Int) : lastF l = 0 ∨ lastF l ∈ l := by
  unfold lastF
  cases h : l.getLast? with
  | none => exact .inl rfl
  | some x => exact .inr (List.mem_of_getLast? h)
theorem ofRun_mem {y : Ru} {l : List (Int × Int)} {x : Int} (h : x ∈ ofRun y l) : ∃ p ∈ l, p.2 = x := by
  obtain ⟨p, hp, rfl⟩ := List.mem_map.1 h
  exact ⟨p, (List.mem_filter.1 hp).1, rfl⟩
theorem ofRun_len (y : Ru) (l : List (Int × Int)) : (ofRun y l).length ≤ l.length := by
  unfold ofRun; rw [List.length_map]; exact List.length_filter_le ..
theorem lwL_done {s : Sd} (t : T3) (j : Nat) : (lwL s t j).map (·.2) = doneL s t j := rfl
theorem lwL_bound {s : Sd} (hd : validB s = true) {t : T3} (hg : Good s t) (j : Nat) : ∀ p ∈ lwL s t j, 0 ≤ p.2 ∧ p.2 ≤ 1000 := by
  intro p hp
  have h1 : p.2 ∈ doneL s t j := by rw [← lwL_done]; exact List.mem_map_of_mem hp
  rw [doneL_eq hd] at h1
  rcases List.mem_append.1 h1 with h1 | h1
  · obtain ⟨x, hx, he⟩ := List.mem_map.1 h1
    have := day_done6 hg x hx
    omega
  · have := List.eq_of_mem_replicate h1; omega
theorem last_bound {y : Ru} {l : List (Int × Int)} (h : ∀ p ∈ l, 0 ≤ p.2 ∧ p.2 ≤ 1000) : 0 ≤ lastF (ofRun y l) ∧ lastF (ofRun y l) ≤ 1000 := by
  rcases last_mem (ofRun y l) with h1 | h1
  · omega
  · obtain ⟨p, hp, he⟩ := ofRun_mem h1
    have := h p hp
    omega
theorem free_bound {s : Sd} {t : T3} (hg : Good s t) (r : Nat) : 0 ≤ freeR (dayOf s t) r ∧ freeR (dayOf s t) r ≤ 1000 := by
  obtain ⟨h0, _, h2⟩ := free_top (day_inc fun k => (hg.takes k).1) (fun x hx => (day_done6 hg x hx).1) r
  refine ⟨h0, ?_⟩
  rcases h2 with h | ⟨x, hx, _, he⟩
  · omega
  · have := day_done6 hg x hx; omega
theorem ofRun_step {y : Ru} {l : List (Int × Int)} {i : Nat} {p : Int × Int} (h : l[i]? = some p) : ofRun y (l.take (i + 1)) = ofRun y (l.take i) ++ (if inRun y p then [p.2] else []) := by
  rw [List.take_add_one, h, Option.toList_some, ofRun_append]
  congr 1
  rw [ofRun_cons]
  simp [ofRun]

set_option maxHeartbeats 8000000 in
theorem trueLaw_ret {v : SV} {s : Sd} (hv : v.Is s) (hA : Ret Try.prog 13 [] (B true)) {bc : List CV} {bo bn : Nat} (hb : ByL bc bo bn) (w : Nat) (hw : w < 65536) : Ret Try.prog 5 [v.cv, .sl bc bo bn, .lit (.int .u16 w)] (B true) := by
  have e1 := hv.kn; have e2 := hv.short; have e3 := hv.rn
  refine ret_by (hm := false) Try.func5 rfl ?_
  conv => whnf
  refine ⟨v.blk, rfl, ?_⟩
  conv => whnf
  refine .ret (fine_ret hv) rfl ?_
  conv => whnf
  cases hd : validB s
  · conv => whnf
    refine .ret hA rfl ?_
    conv => whnf
    exact .val
  conv => whnf
  refine ⟨v.blk, rfl, ?_⟩
  conv => whnf
  obtain ⟨e, h1, cd, t, out, htc, TH, rfl⟩ := truly_ret hv hd hb ((TMap.nil : Heap).push .dead v.blk)
  have tn : 1 ≤ h1.n := TH.n
  have t0 : Heap.at h1 0 = v.blk := (TH.old 0 (Nat.zero_lt_succ 0)).trans (at_push_self _ _)
  have RX := TH.r
  clear TH
  rcases RX.shape with rfl | ⟨xo, xm, rfl⟩
  · have n2 : ((h1.push .dead zero9).push .dead (t3Blk zeroT)).n = h1.n + 2 := rfl
    have g0 : ∀ y z : AB, Heap.at ((((h1.push .dead zero9).push .dead (t3Blk zeroT)).set .dead h1.n y).set .dead (h1.n + 1) z) 0 = v.blk := fun y z => (at_set_ne _ _ (by omega)).trans ((at_set_ne _ _ (by omega)).trans ((at_push_lt _ _ (by rw [push_n]; omega)).trans ((at_push_lt _ _ (by omega)).trans t0)))
    have ga : ∀ y z : AB, Heap.at ((((h1.push .dead zero9).push .dead (t3Blk zeroT)).set .dead h1.n y).set .dead (h1.n + 1) z) h1.n = y := fun y z => (at_set_ne _ _ (by omega)).trans (at_set_self _ _ (by omega))
    have gb : ∀ y z : AB, Heap.at ((((h1.push .dead zero9).push .dead (t3Blk zeroT)).set .dead h1.n y).set .dead (h1.n + 1) z) (h1.n + 1) = z := fun y z => at_set_self _ _ (by rw [TMap.set_n]; omega)
    have gx : ∀ y z : AB, ∀ i, i < h1.n → Heap.at ((((h1.push .dead zero9).push .dead (t3Blk zeroT)).set .dead h1.n y).set .dead (h1.n + 1) z) i = Heap.at h1 i := fun y z i hi => (at_set_ne _ _ (by omega)).trans ((at_set_ne _ _ (by omega)).trans ((at_push_lt _ _ (by rw [push_n]; omega)).trans (at_push_lt _ _ hi)))
    have gn : ∀ y z : AB, ((((h1.push .dead zero9).push .dead (t3Blk zeroT)).set .dead h1.n y).set .dead (h1.n + 1) z).n = h1.n + 2 := fun y z => rfl
    have hg := valid_good hd htc
    obtain ⟨e, h3, cd2, da, dda, j, hj, HA, rfl⟩ := day_ret hv (runsOk_all 0 s.runs (Int.le_refl _) (valid_order hd)) hg.kinds hg.takes ((((h1.push .dead zero9).push .dead (t3Blk zeroT)).set .dead h1.n (lkBlk v nilA)).set .dead (h1.n + 1) (t3Blk t))
    have hn3 := HA.n
    rw [gn] at hn3
    have E : Env v s t h1.n (h1.n + 1) nilA da dda j h3 := ⟨(HA.old 0 (by rw [gn]; omega)).trans (g0 _ _), (HA.old h1.n (by rw [gn]; omega)).trans (ga _ _), (HA.old (h1.n + 1) (by rw [gn]; omega)).trans (gb _ _),
      RX.ext (by omega) (fun i hi _ => (HA.old i (by rw [gn]; omega)).trans (gx _ _ i hi)), HA.rb, HA.rd, by omega, by omega, by omega⟩
    have hsh := shapes_two HA.rb HA.rd (by rw [List.length_map, List.length_map, List.length_map, List.length_map])
    have lD := doneL_len hj
    have lB : (lwL s t j).length = s.sheep.length := by unfold lwL; rw [List.length_append, List.length_replicate]; exact hj
    clear HA
    refine .inl _ h1 .no cd ?_
    conv => whnf
    clear cd
    refine ⟨_, (at_push_lt _ _ (by rw [push_n]; omega)).trans (at_push_self _ _), ?_⟩
    conv => whnf
    refine ⟨_, (at_set_ne _ _ (show h1.n + 1 ≠ h1.n by omega)).trans (at_push_self _ _), ?_⟩
    conv => whnf
    refine ⟨_, g0 _ _, ?_⟩
    conv => whnf
    refine ⟨_, gb _ _, ?_⟩
    conv => whnf
    rcases hsh with ⟨rfl, rfl⟩ | ⟨i1, m1, i2, m2, rfl, rfl⟩
    · refine .inl _ h3 .no cd2 ?_
      conv => whnf
      clear cd2 g0 ga gb gx gn hn3 n2 t0 RX
      refine ⟨_, E.bx, ?_⟩
      conv => whnf
      refine callX E.rx (cs := []) (x_clash hv hd htc) rfl ?_
      conv => whnf
      have hz : s.sheep.length = 0 := by rw [← lD, E.rd.nils]; rfl
      refine loop_by (I := fun n st => ∃ (h : Heap), Env v s t h1.n (h1.n + 1) nilA nilA nilA j h ∧
        Has st 222 [(2, .c (.lit (.int .u16 w))), (3, .ptr 0 0), (7, .ptr h1.n 0), (8, .ptr (h1.n + 1) 0), (9, nilA), (10, nilA), (61, nilA), (62, .c (I 0)), (63, .c (I 0))] [] none h) ?_ (k := 0)
        ⟨_, E, rfl, ⟨rfl, rfl, rfl, rfl, rfl, rfl, rfl, rfl, rfl, trivial⟩, rfl, rfl, rfl, rfl⟩
      clear E
      rintro n st ⟨h, E, hs1⟩
      refine hs1.run (hm := false) ?_
      conv => whnf
      refine ⟨_, E.bt, ?_⟩
      conv => whnf
      refine loop_by (I := fun n st => ∃ (k : Nat) (h : Heap), k ≤ 3 ∧ n = 3 - k ∧ Env v s t h1.n (h1.n + 1) nilA nilA nilA j h ∧
        Has st 222 [(2, .c (.lit (.int .u16 w))), (3, .ptr 0 0), (7, .ptr h1.n 0), (9, nilA), (10, nilA), (83, .c t.cv), (84, .c (I k))] [] none h) ?_ (k := 3)
        ⟨0, _, Nat.zero_le _, rfl, E, rfl, ⟨rfl, rfl, rfl, rfl, rfl, rfl, rfl, trivial⟩, rfl, rfl, rfl, rfl⟩
      clear E hs1
      rintro n st ⟨k, h, hk, rfl, E, hs1⟩
      refine hs1.run (hm := false) ?_
      by_cases hk3 : k < 3
      · obtain ⟨p1, p2, htk, hin⟩ := x_takes hv hd htc (k := k) (by omega)
        obtain rfl | rfl | rfl : k = 0 ∨ k = 1 ∨ k = 2 := by omega
        all_goals
          conv => whnf
          refine ⟨_, E.bx, ?_⟩
          conv => whnf
          refine callX E.rx (cs := [I _]) htk rfl ?_
          conv => whnf
          refine ⟨_, at_push_self _ _, ?_⟩
          conv => whnf
          refine ⟨_, at_new _ _ _, ?_⟩
          conv => whnf
          refine .ret (inside_ret _ _ _) rfl ?_
          conv => whnf
          first | rw [show insB t.a p1 p2 = true from hin] | rw [show insB t.b p1 p2 = true from hin] | rw [show insB t.c p1 p2 = true from hin]
          conv => whnf
          refine ⟨_, rfl, ?_⟩
          conv => whnf
          exact ⟨_, by omega, _, _, hk3, rfl, E.up (foot_new _ _ _), rfl, ⟨rfl, rfl, rfl, rfl, rfl, rfl, rfl, trivial⟩, rfl, rfl, rfl, rfl⟩
      obtain rfl : k = 3 := by omega
      conv => whnf
      refine ⟨by omega, ((w % 1000 : Nat) : Int), rem_nat16 hw 1000, ?_⟩
      conv => whnf
      obtain ⟨mn, hmn, hm9⟩ : ∃ mn, w % 1000 = mn ∧ mn ≤ 999 := ⟨_, rfl, by have := Nat.mod_lt w (show 0 < 1000 by omega); omega⟩
      rw [hmn]
      obtain ⟨p1, p2, hct, hin⟩ := x_count hv hd htc hm9
      refine ⟨_, E.bx, ?_⟩
      conv => whnf
      refine callX E.rx (cs := [I mn]) hct rfl ?_
      conv => whnf
      refine ⟨_, at_push_self _ _, ?_⟩
      conv => whnf
      have kD := doneL_cnt hd t j (n := mn) (by omega)
      refine draw_by (hm := false) (by kernel_rfl) (by kernel_rfl) ?_
      conv => whnf
      have mC := many_nil mn
      rw [show (0 : Int) = Me.of (dayOf s t) (.doneBy mn) by rw [← kD, E.rd.nils]; rfl] at mC
      refine .pure _ _ rfl mC ?_
      conv => whnf
      refine ⟨_, at_new _ _ _, ?_⟩
      conv => whnf
      refine .pure _ _ rfl (inside_ret _ _ _) ?_
      conv => whnf
      rw [hin]
      conv => whnf
      refine ⟨by kernel_rfl, ?_⟩
      conv => whnf
      have E2 := E.up (foot_new h (.blk [AV.lit (.int .i64 0), AV.lit (.int .i64 0)]) (.blk [.c (I p1), .c (I p2)]))
      refine ⟨_, E2.b0, ?_⟩
      conv => whnf
      refine loop_op (I := fun n st => ∃ (r : Nat) (h : Heap), r ≤ s.runs.length ∧ n = s.runs.length - r ∧ Env v s t h1.n (h1.n + 1) nilA nilA nilA j h ∧
        Has st 222 [(3, .ptr 0 0), (7, .ptr h1.n 0), (9, nilA), (10, nilA), (24, .c (I (freeR (dayOf s t) r))), (123, .c (.sl v.rc v.ro v.rn)), (124, .c (I v.rn)), (125, .c (I r))] [] none h) ?_ (k := s.runs.length)
        ⟨0, _, Nat.zero_le _, rfl, E2, rfl, ⟨rfl, rfl, rfl, rfl, rfl, rfl, rfl, rfl, trivial⟩, rfl, rfl, rfl, rfl⟩
      clear E E2 hs1 hin kD mC hct p1 p2
      rintro n st ⟨r, h, hr, rfl, E, hs1⟩ K' hK'
      refine hs1.run (hm := false) ?_
      conv => whnf
      cases hc : decide ((r : Int) < (v.rn : Int))
      case true =>
        have hr2 : r < s.runs.length := by simp at hc; omega
        obtain ⟨y, hy⟩ := get_some hr2
        have hyb := valid_run hd hy
        conv => whnf
        refine ⟨⟨by omega, by omega⟩, ?_⟩
        conv => whnf
        refine ⟨_, hv.run hy, ?_⟩
        conv => whnf
        refine ⟨_, at_push_self _ _, ?_⟩
        conv => whnf
        have E2 := E.up (foot_new h (.blk [AV.lit (.int .i64 0), AV.lit (.int .i64 0)]) (.blk [.c (I y.start), .c (I y.bell)]))
        refine draw_by (hm := false) (by kernel_rfl) (by kernel_rfl) ?_
        conv => whnf
        refine ⟨_, at_new _ _ _, ?_⟩
        conv => whnf
        refine ⟨by kernel_rfl, ?_⟩
        conv => whnf
        obtain ⟨fr, hfr⟩ : ∃ fr, fr = freeR (dayOf s t) r := ⟨_, rfl⟩
        have hfb := free_bound hg r
        have hft := free_next hd (fun k => (hg.takes k).1) j hy
        have hbL := lwL_bound hd hg j
        have rC := run_count hd (fun k => (hg.takes k).1) j hy
        have rO := run_over hd (fun k => (hg.takes k).1) j hy
        have rL := run_late hd hg hy
        rw [← hfr] at hfb hft rL ⊢
        obtain ⟨late, hlate⟩ : ∃ late, late = decide (fr > y.start) := ⟨_, rfl⟩
        rw [← hlate]
        have hz2 : lwL s t j = [] := List.length_eq_zero_iff.1 (by omega)
        refine loop_op (I := fun n st => ∃ (h' : Heap), Env v s t h1.n (h1.n + 1) nilA nilA nilA j h' ∧ Heap.at h' h.n = .blk [.c (I y.start), .c (I y.bell)] ∧ h.n < h'.n ∧
          Has st 222 [(3, .ptr 0 0), (7, .ptr h1.n 0), (9, nilA), (10, nilA), (24, .c (I fr)), (25, .c (I r)), (26, .ptr h.n 0), (27, .c (I (ofRun y (lwL s t j)).length)), (28, .c (I (lastF (ofRun y (lwL s t j))))), (29, .c (B late)), (123, .c (.sl v.rc v.ro v.rn)), (124, .c (I v.rn)), (125, .c (I r)), (135, .c (I 0)), (136, .c (I 0))] [] none h') ?_ (k := 0)
          ⟨_, E2, at_new _ _ _, by rw [new_n]; omega, rfl, by rw [hz2]; exact ⟨rfl, rfl, rfl, rfl, rfl, rfl, rfl, rfl, rfl, rfl, rfl, rfl, rfl, rfl, rfl, trivial⟩, rfl, rfl, rfl, rfl⟩
        clear E E2 hs1 hc
        rintro n st ⟨h', E, hB, hBn, hs1⟩ K2 hK2
        refine hs1.run (hm := false) ?_
        subst hK2
        have hCb : (ofRun y (lwL s t j)).length ≤ 40 := by have := ofRun_len y (lwL s t j); omega
        generalize (ofRun y (lwL s t j)).length = C at rC hCb ⊢
        have hLb := last_bound (y := y) hbL
        generalize lastF (ofRun y (lwL s t j)) = ls at rO hft hLb ⊢
        obtain ⟨a1, a2, hbe, hin1⟩ := x_begun hv hd htc hr2
        obtain ⟨o1, o2, hov, hin2⟩ := x_over hv hd htc hy
        rw [← rC] at hin1
        rw [← rO] at hin2
        conv => whnf
        refine ⟨_, E.bx, ?_⟩
        conv => whnf
        refine callX E.rx (cs := [I r]) hbe rfl ?_
        conv => whnf
        refine ⟨_, at_push_self _ _, ?_⟩
        conv => whnf
        have EA := E.up (foot_new h' (.blk [AV.lit (.int .i64 0), AV.lit (.int .i64 0)]) (.blk [.c (I a1), .c (I a2)]))
        have BA : Heap.at ((h'.push .dead (.blk [AV.lit (.int .i64 0), AV.lit (.int .i64 0)])).set .dead h'.n (.blk [.c (I a1), .c (I a2)])) h.n = .blk [.c (I y.start), .c (I y.bell)] := (at_old _ _ _ hBn).trans hB
        have CA : Heap.at ((h'.push .dead (.blk [AV.lit (.int .i64 0), AV.lit (.int .i64 0)])).set .dead h'.n (.blk [.c (I a1), .c (I a2)])) h'.n = .blk [.c (I a1), .c (I a2)] := at_new _ _ _
        have NA : ((h'.push .dead (.blk [AV.lit (.int .i64 0), AV.lit (.int .i64 0)])).set .dead h'.n (.blk [.c (I a1), .c (I a2)])).n = h'.n + 1 := by rw [new_n]
        refine ⟨_, EA.bx, ?_⟩
        conv => whnf
        refine callX EA.rx (cs := [I r]) hov rfl ?_
        conv => whnf
        refine ⟨_, at_push_self _ _, ?_⟩
        conv => whnf
        refine ⟨_, (at_old _ _ _ (by omega)).trans CA, ?_⟩
        conv => whnf
        refine .ret (inside_ret _ _ _) rfl ?_
        conv => whnf
        rw [hin1]
        conv => whnf
        refine ⟨_, (at_old _ _ _ (by omega)).trans BA, ?_⟩
        conv => whnf
        refine ⟨ls - y.bell, by rw [wrap_eq (by omega) (by omega)], ?_⟩
        conv => whnf
        refine ⟨_, at_new _ _ _, ?_⟩
        conv => whnf
        refine .ret (inside_ret _ _ _) rfl ?_
        conv => whnf
        rw [hin2]
        conv => whnf
        have EB := EA.up (foot_new _ (.blk [AV.lit (.int .i64 0), AV.lit (.int .i64 0)]) (.blk [.c (I o1), .c (I o2)]))
        cases h0 : ((r : Int) == 0)
        case true =>
          conv => whnf
          refine ⟨((r + 1 : Nat) : Int), by rw [wrap_eq (by omega) (by omega)]; omega, ?_⟩
          conv => whnf
          exact ⟨s.runs.length - (r + 1), by omega, r + 1, _, hr2, rfl, EB, rfl, by rw [hft]; exact ⟨rfl, rfl, rfl, rfl, rfl, rfl, rfl, rfl, trivial⟩, rfl, rfl, rfl, rfl⟩
        have hr0 : r ≠ 0 := by simp at h0; omega
        obtain ⟨k, hla, hk2, hk0⟩ := x_late hv hd htc hy hr0
        rw [rL] at hk2 hk0
        have l2 : k = 2 → late = true := fun e => by have := hk2 e; rw [hlate]; exact decide_eq_true (by omega)
        have l0 : k = 0 → late = false := fun e => by have := hk0 e; rw [hlate]; exact decide_eq_false (by omega)
        conv => whnf
        refine ⟨_, EB.bx, ?_⟩
        conv => whnf
        refine callX EB.rx (cs := [I r]) hla rfl ?_
        conv => whnf
        clear hlate
        cases c3 : (k == 2)
        case true =>
          have hk : k = 2 := by simpa using c3
          obtain rfl := l2 hk
          subst hk
          conv => whnf
          refine ⟨((r + 1 : Nat) : Int), by rw [wrap_eq (by omega) (by omega)]; omega, ?_⟩
          conv => whnf
          exact ⟨s.runs.length - (r + 1), by omega, r + 1, _, hr2, rfl, EB, rfl, by rw [hft]; exact ⟨rfl, rfl, rfl, rfl, rfl, rfl, rfl, rfl, trivial⟩, rfl, rfl, rfl, rfl⟩
        cases c4 : (k == 0)
        case true =>
          have hk : k = 0 := by simpa using c4
          obtain rfl := l0 hk
          subst hk
          conv => whnf
          refine ⟨((r + 1 : Nat) : Int), by rw [wrap_eq (by omega) (by omega)]; omega, ?_⟩
          conv => whnf
          exact ⟨s.runs.length - (r + 1), by omega, r + 1, _, hr2, rfl, EB, rfl, by rw [hft]; exact ⟨rfl, rfl, rfl, rfl, rfl, rfl, rfl, rfl, trivial⟩, rfl, rfl, rfl, rfl⟩
        · conv => whnf
          rw [c4]
          conv => whnf
          refine ⟨((r + 1 : Nat) : Int), by rw [wrap_eq (by omega) (by omega)]; omega, ?_⟩
          conv => whnf
          exact ⟨s.runs.length - (r + 1), by omega, r + 1, _, hr2, rfl, EB, rfl, by rw [hft]; exact ⟨rfl, rfl, rfl, rfl, rfl, rfl, rfl, rfl, trivial⟩, rfl, rfl, rfl, rfl⟩
      subst hK'
      conv => whnf
      refine .ret hA rfl ?_
      conv => whnf
      exact .val
    · refine .inl _ h3 .no cd2 ?_
      conv => whnf
      clear cd2 g0 ga gb gx gn hn3 n2 t0 RX
      refine ⟨_, E.bx, ?_⟩
      conv => whnf
      refine callX E.rx (cs := []) (x_clash hv hd htc) rfl ?_
      conv => whnf
      obtain ⟨hm1, _⟩ := E.rb.ints
      obtain ⟨hm2, _⟩ := E.rd.ints
      rw [List.length_map] at hm1
      refine loop_by (I := fun n st => ∃ (i : Nat) (h : Heap), i ≤ s.sheep.length ∧ n = s.sheep.length - i ∧ Env v s t h1.n (h1.n + 1) nilA (.msl i1 1 0 m1 m1) (.msl i2 1 0 m2 m2) j h ∧
        Has st 222 [(2, .c (.lit (.int .u16 w))), (3, .ptr 0 0), (7, .ptr h1.n 0), (8, .ptr (h1.n + 1) 0), (9, (.msl i1 1 0 m1 m1)), (10, (.msl i2 1 0 m2 m2)), (61, (.msl i2 1 0 m2 m2)), (62, .c (I m2)), (63, .c (I i))] [] none h) ?_ (k := s.sheep.length)
        ⟨0, _, Nat.zero_le _, rfl, E, rfl, ⟨rfl, rfl, rfl, rfl, rfl, rfl, rfl, rfl, rfl, trivial⟩, rfl, rfl, rfl, rfl⟩
      clear E
      rintro n st ⟨i, h, hi, rfl, E, hs1⟩
      refine hs1.run (hm := false) ?_
      conv => whnf
      cases hc : decide ((i : Int) < (m2 : Int))
      case true =>
        have hi2 : i < s.sheep.length := by simp at hc; omega
        obtain ⟨p1, p2, hdn, hin⟩ := x_done hv hd htc hi2
        have dA := doneL_at hd t hj hi2
        obtain ⟨x, hx⟩ : ∃ x, x = Me.of (dayOf s t) (.doneAt i) := ⟨_, rfl⟩
        rw [← hx] at hin dA
        conv => whnf
        refine ⟨⟨rfl, by omega, by omega⟩, ?_⟩
        conv => whnf
        refine ⟨_, E.rd.ints.2, look_read (read_intsA dA) ?_⟩
        conv => whnf
        refine ⟨_, E.bx, ?_⟩
        conv => whnf
        refine callX E.rx (cs := [I i]) hdn rfl ?_
        conv => whnf
        refine ⟨_, at_push_self _ _, ?_⟩
        conv => whnf
        refine ⟨_, at_new _ _ _, ?_⟩
        conv => whnf
        refine .ret (inside_ret _ _ _) rfl ?_
        conv => whnf
        rw [hin]
        conv => whnf
        refine ⟨((i + 1 : Nat) : Int), by rw [wrap_eq (by omega) (by omega)]; omega, ?_⟩
        conv => whnf
        exact ⟨s.sheep.length - (i + 1), by omega, i + 1, _, hi2, rfl, E.up (foot_new _ _ _), rfl, ⟨rfl, rfl, rfl, rfl, rfl, rfl, rfl, rfl, rfl, trivial⟩, rfl, rfl, rfl, rfl⟩
      clear hc hi
      conv => whnf
      refine ⟨_, E.bt, ?_⟩
      conv => whnf
      refine loop_by (I := fun n st => ∃ (k : Nat) (h : Heap), k ≤ 3 ∧ n = 3 - k ∧ Env v s t h1.n (h1.n + 1) nilA (.msl i1 1 0 m1 m1) (.msl i2 1 0 m2 m2) j h ∧
        Has st 222 [(2, .c (.lit (.int .u16 w))), (3, .ptr 0 0), (7, .ptr h1.n 0), (9, (.msl i1 1 0 m1 m1)), (10, (.msl i2 1 0 m2 m2)), (83, .c t.cv), (84, .c (I k))] [] none h) ?_ (k := 3)
        ⟨0, _, Nat.zero_le _, rfl, E, rfl, ⟨rfl, rfl, rfl, rfl, rfl, rfl, rfl, trivial⟩, rfl, rfl, rfl, rfl⟩
      clear E hs1
      rintro n st ⟨k, h, hk, rfl, E, hs1⟩
      refine hs1.run (hm := false) ?_
      by_cases hk3 : k < 3
      · obtain ⟨p1, p2, htk, hin⟩ := x_takes hv hd htc (k := k) (by omega)
        obtain rfl | rfl | rfl : k = 0 ∨ k = 1 ∨ k = 2 := by omega
        all_goals
          conv => whnf
          refine ⟨_, E.bx, ?_⟩
          conv => whnf
          refine callX E.rx (cs := [I _]) htk rfl ?_
          conv => whnf
          refine ⟨_, at_push_self _ _, ?_⟩
          conv => whnf
          refine ⟨_, at_new _ _ _, ?_⟩
          conv => whnf
          refine .ret (inside_ret _ _ _) rfl ?_
          conv => whnf
          first | rw [show insB t.a p1 p2 = true from hin] | rw [show insB t.b p1 p2 = true from hin] | rw [show insB t.c p1 p2 = true from hin]
          conv => whnf
          refine ⟨_, rfl, ?_⟩
          conv => whnf
          exact ⟨_, by omega, _, _, hk3, rfl, E.up (foot_new _ _ _), rfl, ⟨rfl, rfl, rfl, rfl, rfl, rfl, rfl, trivial⟩, rfl, rfl, rfl, rfl⟩
      obtain rfl : k = 3 := by omega
      conv => whnf
      refine ⟨by omega, ((w % 1000 : Nat) : Int), rem_nat16 hw 1000, ?_⟩
      conv => whnf
      obtain ⟨mn, hmn, hm9⟩ : ∃ mn, w % 1000 = mn ∧ mn ≤ 999 := ⟨_, rfl, by have := Nat.mod_lt w (show 0 < 1000 by omega); omega⟩
      rw [hmn]
      obtain ⟨p1, p2, hct, hin⟩ := x_count hv hd htc hm9
      refine ⟨_, E.bx, ?_⟩
      conv => whnf
      refine callX E.rx (cs := [I mn]) hct rfl ?_
      conv => whnf
      refine ⟨_, at_push_self _ _, ?_⟩
      conv => whnf
      have kD := doneL_cnt hd t j (n := mn) (by omega)
      refine draw_by (hm := false) (by kernel_rfl) (by kernel_rfl) ?_
      conv => whnf
      have mC : Ret Try.prog 32 [.sl ((doneL s t j).map I) 0 m2, I mn] (I (Me.of (dayOf s t) (.doneBy mn))) := by
        have h := many_retC (l := doneL s t j) (by omega) mn
        rw [kD, ← hm2] at h
        exact h
      refine .snapped _ _ [i2] _ (snap_two (((E.up (foot_new _ _ _)).rd.ints).2) _) mC ?_
      rw [show ∀ (z : Int) (ids : List Nat), killed (I z) ids = [] from fun _ _ => rfl]
      conv => whnf
      refine ⟨_, at_new _ _ _, ?_⟩
      conv => whnf
      refine .pure _ _ rfl (inside_ret _ _ _) ?_
      conv => whnf
      rw [hin]
      conv => whnf
      refine ⟨by kernel_rfl, ?_⟩
      conv => whnf
      have E2 := E.up (foot_new h (.blk [AV.lit (.int .i64 0), AV.lit (.int .i64 0)]) (.blk [.c (I p1), .c (I p2)]))
      refine ⟨_, E2.b0, ?_⟩
      conv => whnf
      refine loop_op (I := fun n st => ∃ (r : Nat) (h : Heap), r ≤ s.runs.length ∧ n = s.runs.length - r ∧ Env v s t h1.n (h1.n + 1) nilA (.msl i1 1 0 m1 m1) (.msl i2 1 0 m2 m2) j h ∧
        Has st 222 [(3, .ptr 0 0), (7, .ptr h1.n 0), (9, (.msl i1 1 0 m1 m1)), (10, (.msl i2 1 0 m2 m2)), (24, .c (I (freeR (dayOf s t) r))), (123, .c (.sl v.rc v.ro v.rn)), (124, .c (I v.rn)), (125, .c (I r))] [] none h) ?_ (k := s.runs.length)
        ⟨0, _, Nat.zero_le _, rfl, E2, rfl, ⟨rfl, rfl, rfl, rfl, rfl, rfl, rfl, rfl, trivial⟩, rfl, rfl, rfl, rfl⟩
      clear E E2 hs1 hin kD mC hct p1 p2
      rintro n st ⟨r, h, hr, rfl, E, hs1⟩ K' hK'
      refine hs1.run (hm := false) ?_
      conv => whnf
      cases hc : decide ((r : Int) < (v.rn : Int))
      case true =>
        have hr2 : r < s.runs.length := by simp at hc; omega
        obtain ⟨y, hy⟩ := get_some hr2
        have hyb := valid_run hd hy
        conv => whnf
        refine ⟨⟨by omega, by omega⟩, ?_⟩
        conv => whnf
        refine ⟨_, hv.run hy, ?_⟩
        conv => whnf
        refine ⟨_, at_push_self _ _, ?_⟩
        conv => whnf
        have E2 := E.up (foot_new h (.blk [AV.lit (.int .i64 0), AV.lit (.int .i64 0)]) (.blk [.c (I y.start), .c (I y.bell)]))
        refine draw_by (hm := false) (by kernel_rfl) (by kernel_rfl) ?_
        conv => whnf
        refine ⟨_, at_new _ _ _, ?_⟩
        conv => whnf
        refine ⟨by kernel_rfl, ?_⟩
        conv => whnf
        obtain ⟨fr, hfr⟩ : ∃ fr, fr = freeR (dayOf s t) r := ⟨_, rfl⟩
        have hfb := free_bound hg r
        have hft := free_next hd (fun k => (hg.takes k).1) j hy
        have hbL := lwL_bound hd hg j
        have rC := run_count hd (fun k => (hg.takes k).1) j hy
        have rO := run_over hd (fun k => (hg.takes k).1) j hy
        have rL := run_late hd hg hy
        rw [← hfr] at hfb hft rL ⊢
        obtain ⟨late, hlate⟩ : ∃ late, late = decide (fr > y.start) := ⟨_, rfl⟩
        rw [← hlate]
        refine loop_op (I := fun n st => ∃ (i : Nat) (h' : Heap), i ≤ s.sheep.length ∧ n = s.sheep.length - i ∧ Env v s t h1.n (h1.n + 1) nilA (.msl i1 1 0 m1 m1) (.msl i2 1 0 m2 m2) j h' ∧ Heap.at h' h.n = .blk [.c (I y.start), .c (I y.bell)] ∧ h.n < h'.n ∧
          Has st 222 [(3, .ptr 0 0), (7, .ptr h1.n 0), (9, (.msl i1 1 0 m1 m1)), (10, (.msl i2 1 0 m2 m2)), (24, .c (I fr)), (25, .c (I r)), (26, .ptr h.n 0), (27, .c (I (ofRun y ((lwL s t j).take i)).length)), (28, .c (I (lastF (ofRun y ((lwL s t j).take i))))), (29, .c (B late)), (123, .c (.sl v.rc v.ro v.rn)), (124, .c (I v.rn)), (125, .c (I r)), (134, (.msl i1 1 0 m1 m1)), (135, .c (I m1)), (136, .c (I i))] [] none h') ?_ (k := s.sheep.length)
          ⟨0, _, Nat.zero_le _, rfl, E2, at_new _ _ _, by rw [new_n]; omega, rfl, ⟨rfl, rfl, rfl, rfl, rfl, rfl, rfl, rfl, rfl, rfl, rfl, rfl, rfl, rfl, rfl, rfl, trivial⟩, rfl, rfl, rfl, rfl⟩
        clear E E2 hs1 hc
        rintro n st ⟨i, h', hi, rfl, E, hB, hBn, hs1⟩ K2 hK2
        refine hs1.run (hm := false) ?_
        conv => whnf
        cases hc : decide ((i : Int) < (m1 : Int))
        case true =>
          have hi2 : i < s.sheep.length := by simp at hc; omega
          obtain ⟨p, hp⟩ := get_some (l := lwL s t j) (k := i) (by omega)
          have hp1 : ((lwL s t j).map (·.1))[i]? = some p.1 := by rw [List.getElem?_map, hp]; rfl
          have hp2 : (doneL s t j)[i]? = some p.2 := by rw [← lwL_done, List.getElem?_map, hp]; rfl
          have hst := ofRun_step (y := y) hp
          conv => whnf
          refine ⟨⟨rfl, by omega, by omega⟩, ?_⟩
          conv => whnf
          refine ⟨_, E.rb.ints.2, look_read (read_intsA hp1) ?_⟩
          conv => whnf
          refine ⟨_, hB, ?_⟩
          conv => whnf
          have lln := Nat.le_trans (ofRun_len y ((lwL s t j).take i)) (List.length_take_le i _)
          have skip : inRun y p = false → ofRun y ((lwL s t j).take (i + 1)) = ofRun y ((lwL s t j).take i) := fun e => by rw [hst, e]; simp
          have EX : ∀ k : Nat, (I ((i + 1 : Nat) : Int)) = I ((i + 1 : Nat) : Int) := fun _ => rfl
          cases c1 : decide (p.1 ≥ y.start)
          · have he := skip (by unfold inRun; rw [show decide (y.start ≤ p.1) = false from c1]; rfl)
            conv => whnf
            refine ⟨((i + 1 : Nat) : Int), by rw [wrap_eq (by omega) (by omega)]; omega, ?_⟩
            conv => whnf
            exact ⟨s.sheep.length - (i + 1), by omega, i + 1, h', hi2, rfl, E, hB, hBn, rfl, by rw [he]; exact ⟨rfl, rfl, rfl, rfl, rfl, rfl, rfl, rfl, rfl, rfl, rfl, rfl, rfl, rfl, rfl, rfl, trivial⟩, rfl, rfl, rfl, rfl⟩
          conv => whnf
          refine ⟨_, hB, ?_⟩
          conv => whnf
          cases c2 : decide (p.1 < y.bell)
          · have he := skip (by unfold inRun; rw [c2]; simp)
            conv => whnf
            refine ⟨((i + 1 : Nat) : Int), by rw [wrap_eq (by omega) (by omega)]; omega, ?_⟩
            conv => whnf
            exact ⟨s.sheep.length - (i + 1), by omega, i + 1, h', hi2, rfl, E, hB, hBn, rfl, by rw [he]; exact ⟨rfl, rfl, rfl, rfl, rfl, rfl, rfl, rfl, rfl, rfl, rfl, rfl, rfl, rfl, rfl, rfl, trivial⟩, rfl, rfl, rfl, rfl⟩
          have he : ofRun y ((lwL s t j).take (i + 1)) = ofRun y ((lwL s t j).take i) ++ [p.2] := by
            rw [hst, show inRun y p = true by unfold inRun; rw [show decide (y.start ≤ p.1) = true from c1, c2]; rfl]; rfl
          conv => whnf
          refine draw_by (hm := false) (by kernel_rfl) (by kernel_rfl) ?_
          conv => whnf
          refine ⟨(((ofRun y ((lwL s t j).take i)).length + 1 : Nat) : Int), by rw [wrap_eq (by omega) (by omega)]; omega, ?_⟩
          conv => whnf
          refine ⟨⟨rfl, by omega, by omega⟩, ?_⟩
          conv => whnf
          refine ⟨_, E.rd.ints.2, look_read (read_intsA hp2) ?_⟩
          conv => whnf
          refine ⟨by kernel_rfl, ?_⟩
          conv => whnf
          refine ⟨((i + 1 : Nat) : Int), by rw [wrap_eq (by omega) (by omega)]; omega, ?_⟩
          conv => whnf
          exact ⟨s.sheep.length - (i + 1), by omega, i + 1, h', hi2, rfl, E, hB, hBn, rfl, by rw [he, lastF_snoc, List.length_append]; exact ⟨rfl, rfl, rfl, rfl, rfl, rfl, rfl, rfl, rfl, rfl, rfl, rfl, rfl, rfl, rfl, rfl, trivial⟩, rfl, rfl, rfl, rfl⟩
        have hii : i = (lwL s t j).length := by simp at hc; omega
        subst hii
        rw [List.take_length]
        subst hK2
        have hCb : (ofRun y (lwL s t j)).length ≤ 40 := by have := ofRun_len y (lwL s t j); omega
        generalize (ofRun y (lwL s t j)).length = C at rC hCb ⊢
        have hLb := last_bound (y := y) hbL
        generalize lastF (ofRun y (lwL s t j)) = ls at rO hft hLb ⊢
        obtain ⟨a1, a2, hbe, hin1⟩ := x_begun hv hd htc hr2
        obtain ⟨o1, o2, hov, hin2⟩ := x_over hv hd htc hy
        rw [← rC] at hin1
        rw [← rO] at hin2
        conv => whnf
        refine ⟨_, E.bx, ?_⟩
        conv => whnf
        refine callX E.rx (cs := [I r]) hbe rfl ?_
        conv => whnf
        refine ⟨_, at_push_self _ _, ?_⟩
        conv => whnf
        have EA := E.up (foot_new h' (.blk [AV.lit (.int .i64 0), AV.lit (.int .i64 0)]) (.blk [.c (I a1), .c (I a2)]))
        have BA : Heap.at ((h'.push .dead (.blk [AV.lit (.int .i64 0), AV.lit (.int .i64 0)])).set .dead h'.n (.blk [.c (I a1), .c (I a2)])) h.n = .blk [.c (I y.start), .c (I y.bell)] := (at_old _ _ _ hBn).trans hB
        have CA : Heap.at ((h'.push .dead (.blk [AV.lit (.int .i64 0), AV.lit (.int .i64 0)])).set .dead h'.n (.blk [.c (I a1), .c (I a2)])) h'.n = .blk [.c (I a1), .c (I a2)] := at_new _ _ _
        have NA : ((h'.push .dead (.blk [AV.lit (.int .i64 0), AV.lit (.int .i64 0)])).set .dead h'.n (.blk [.c (I a1), .c (I a2)])).n = h'.n + 1 := by rw [new_n]
        refine ⟨_, EA.bx, ?_⟩
        conv => whnf
        refine callX EA.rx (cs := [I r]) hov rfl ?_
        conv => whnf
        refine ⟨_, at_push_self _ _, ?_⟩
        conv => whnf
        refine ⟨_, (at_old _ _ _ (by omega)).trans CA, ?_⟩
        conv => whnf
        refine .ret (inside_ret _ _ _) rfl ?_
        conv => whnf
        rw [hin1]
        conv => whnf
        refine ⟨_, (at_old _ _ _ (by omega)).trans BA, ?_⟩
        conv => whnf
        refine ⟨ls - y.bell, by rw [wrap_eq (by omega) (by omega)], ?_⟩
        conv => whnf
        refine ⟨_, at_new _ _ _, ?_⟩
        conv => whnf
        refine .ret (inside_ret _ _ _) rfl ?_
        conv => whnf
        rw [hin2]
        conv => whnf
        have EB := EA.up (foot_new _ (.blk [AV.lit (.int .i64 0), AV.lit (.int .i64 0)]) (.blk [.c (I o1), .c (I o2)]))
        cases h0 : ((r : Int) == 0)
        case true =>
          conv => whnf
          refine ⟨((r + 1 : Nat) : Int), by rw [wrap_eq (by omega) (by omega)]; omega, ?_⟩
          conv => whnf
          exact ⟨s.runs.length - (r + 1), by omega, r + 1, _, hr2, rfl, EB, rfl, by rw [hft]; exact ⟨rfl, rfl, rfl, rfl, rfl, rfl, rfl, rfl, trivial⟩, rfl, rfl, rfl, rfl⟩
        have hr0 : r ≠ 0 := by simp at h0; omega
        obtain ⟨k, hla, hk2, hk0⟩ := x_late hv hd htc hy hr0
        rw [rL] at hk2 hk0
        have l2 : k = 2 → late = true := fun e => by have := hk2 e; rw [hlate]; exact decide_eq_true (by omega)
        have l0 : k = 0 → late = false := fun e => by have := hk0 e; rw [hlate]; exact decide_eq_false (by omega)
        conv => whnf
        refine ⟨_, EB.bx, ?_⟩
        conv => whnf
        refine callX EB.rx (cs := [I r]) hla rfl ?_
        conv => whnf
        clear hlate
        cases c3 : (k == 2)
        case true =>
          have hk : k = 2 := by simpa using c3
          obtain rfl := l2 hk
          subst hk
          conv => whnf
          refine ⟨((r + 1 : Nat) : Int), by rw [wrap_eq (by omega) (by omega)]; omega, ?_⟩
          conv => whnf
          exact ⟨s.runs.length - (r + 1), by omega, r + 1, _, hr2, rfl, EB, rfl, by rw [hft]; exact ⟨rfl, rfl, rfl, rfl, rfl, rfl, rfl, rfl, trivial⟩, rfl, rfl, rfl, rfl⟩
        cases c4 : (k == 0)
        case true =>
          have hk : k = 0 := by simpa using c4
          obtain rfl := l0 hk
          subst hk
          conv => whnf
          refine ⟨((r + 1 : Nat) : Int), by rw [wrap_eq (by omega) (by omega)]; omega, ?_⟩
          conv => whnf
          exact ⟨s.runs.length - (r + 1), by omega, r + 1, _, hr2, rfl, EB, rfl, by rw [hft]; exact ⟨rfl, rfl, rfl, rfl, rfl, rfl, rfl, rfl, trivial⟩, rfl, rfl, rfl, rfl⟩
        · conv => whnf
          rw [c4]
          conv => whnf
          refine ⟨((r + 1 : Nat) : Int), by rw [wrap_eq (by omega) (by omega)]; omega, ?_⟩
          conv => whnf
          exact ⟨s.runs.length - (r + 1), by omega, r + 1, _, hr2, rfl, EB, rfl, by rw [hft]; exact ⟨rfl, rfl, rfl, rfl, rfl, rfl, rfl, rfl, trivial⟩, rfl, rfl, rfl, rfl⟩
      subst hK'
      conv => whnf
      refine .ret hA rfl ?_
      conv => whnf
      exact .val
  · have n2 : ((h1.push .dead zero9).push .dead (t3Blk zeroT)).n = h1.n + 2 := rfl
    have g0 : ∀ y z : AB, Heap.at ((((h1.push .dead zero9).push .dead (t3Blk zeroT)).set .dead h1.n y).set .dead (h1.n + 1) z) 0 = v.blk := fun y z => (at_set_ne _ _ (by omega)).trans ((at_set_ne _ _ (by omega)).trans ((at_push_lt _ _ (by rw [push_n]; omega)).trans ((at_push_lt _ _ (by omega)).trans t0)))
    have ga : ∀ y z : AB, Heap.at ((((h1.push .dead zero9).push .dead (t3Blk zeroT)).set .dead h1.n y).set .dead (h1.n + 1) z) h1.n = y := fun y z => (at_set_ne _ _ (by omega)).trans (at_set_self _ _ (by omega))
    have gb : ∀ y z : AB, Heap.at ((((h1.push .dead zero9).push .dead (t3Blk zeroT)).set .dead h1.n y).set .dead (h1.n + 1) z) (h1.n + 1) = z := fun y z => at_set_self _ _ (by rw [TMap.set_n]; omega)
    have gx : ∀ y z : AB, ∀ i, i < h1.n → Heap.at ((((h1.push .dead zero9).push .dead (t3Blk zeroT)).set .dead h1.n y).set .dead (h1.n + 1) z) i = Heap.at h1 i := fun y z i hi => (at_set_ne _ _ (by omega)).trans ((at_set_ne _ _ (by omega)).trans ((at_push_lt _ _ (by rw [push_n]; omega)).trans (at_push_lt _ _ hi)))
    have gn : ∀ y z : AB, ((((h1.push .dead zero9).push .dead (t3Blk zeroT)).set .dead h1.n y).set .dead (h1.n + 1) z).n = h1.n + 2 := fun y z => rfl
    have hg := valid_good hd htc
    obtain ⟨e, h3, cd2, da, dda, j, hj, HA, rfl⟩ := day_ret hv (runsOk_all 0 s.runs (Int.le_refl _) (valid_order hd)) hg.kinds hg.takes ((((h1.push .dead zero9).push .dead (t3Blk zeroT)).set .dead h1.n (lkBlk v (.msl xo 3 0 xm xm))).set .dead (h1.n + 1) (t3Blk t))
    have hn3 := HA.n
    rw [gn] at hn3
    have E : Env v s t h1.n (h1.n + 1) (.msl xo 3 0 xm xm) da dda j h3 := ⟨(HA.old 0 (by rw [gn]; omega)).trans (g0 _ _), (HA.old h1.n (by rw [gn]; omega)).trans (ga _ _), (HA.old (h1.n + 1) (by rw [gn]; omega)).trans (gb _ _),
      RX.ext (by omega) (fun i hi _ => (HA.old i (by rw [gn]; omega)).trans (gx _ _ i hi)), HA.rb, HA.rd, by omega, by omega, by omega⟩
    have hsh := shapes_two HA.rb HA.rd (by rw [List.length_map, List.length_map, List.length_map, List.length_map])
    have lD := doneL_len hj
    have lB : (lwL s t j).length = s.sheep.length := by unfold lwL; rw [List.length_append, List.length_replicate]; exact hj
    clear HA
    refine .inl _ h1 .no cd ?_
    conv => whnf
    clear cd
    refine ⟨_, (at_push_lt _ _ (by rw [push_n]; omega)).trans (at_push_self _ _), ?_⟩
    conv => whnf
    refine ⟨_, (at_set_ne _ _ (show h1.n + 1 ≠ h1.n by omega)).trans (at_push_self _ _), ?_⟩
    conv => whnf
    refine ⟨_, g0 _ _, ?_⟩
    conv => whnf
    refine ⟨_, gb _ _, ?_⟩
    conv => whnf
    rcases hsh with ⟨rfl, rfl⟩ | ⟨i1, m1, i2, m2, rfl, rfl⟩
    · refine .inl _ h3 .no cd2 ?_
      conv => whnf
      clear cd2 g0 ga gb gx gn hn3 n2 t0 RX
      refine ⟨_, E.bx, ?_⟩
      conv => whnf
      refine callX E.rx (cs := []) (x_clash hv hd htc) rfl ?_
      conv => whnf
      have hz : s.sheep.length = 0 := by rw [← lD, E.rd.nils]; rfl
      refine loop_by (I := fun n st => ∃ (h : Heap), Env v s t h1.n (h1.n + 1) (.msl xo 3 0 xm xm) nilA nilA j h ∧
        Has st 222 [(2, .c (.lit (.int .u16 w))), (3, .ptr 0 0), (7, .ptr h1.n 0), (8, .ptr (h1.n + 1) 0), (9, nilA), (10, nilA), (61, nilA), (62, .c (I 0)), (63, .c (I 0))] [] none h) ?_ (k := 0)
        ⟨_, E, rfl, ⟨rfl, rfl, rfl, rfl, rfl, rfl, rfl, rfl, rfl, trivial⟩, rfl, rfl, rfl, rfl⟩
      clear E
      rintro n st ⟨h, E, hs1⟩
      refine hs1.run (hm := false) ?_
      conv => whnf
      refine ⟨_, E.bt, ?_⟩
      conv => whnf
      refine loop_by (I := fun n st => ∃ (k : Nat) (h : Heap), k ≤ 3 ∧ n = 3 - k ∧ Env v s t h1.n (h1.n + 1) (.msl xo 3 0 xm xm) nilA nilA j h ∧
        Has st 222 [(2, .c (.lit (.int .u16 w))), (3, .ptr 0 0), (7, .ptr h1.n 0), (9, nilA), (10, nilA), (83, .c t.cv), (84, .c (I k))] [] none h) ?_ (k := 3)
        ⟨0, _, Nat.zero_le _, rfl, E, rfl, ⟨rfl, rfl, rfl, rfl, rfl, rfl, rfl, trivial⟩, rfl, rfl, rfl, rfl⟩
      clear E hs1
      rintro n st ⟨k, h, hk, rfl, E, hs1⟩
      refine hs1.run (hm := false) ?_
      by_cases hk3 : k < 3
      · obtain ⟨p1, p2, htk, hin⟩ := x_takes hv hd htc (k := k) (by omega)
        obtain rfl | rfl | rfl : k = 0 ∨ k = 1 ∨ k = 2 := by omega
        all_goals
          conv => whnf
          refine ⟨_, E.bx, ?_⟩
          conv => whnf
          refine callX E.rx (cs := [I _]) htk rfl ?_
          conv => whnf
          refine ⟨_, at_push_self _ _, ?_⟩
          conv => whnf
          refine ⟨_, at_new _ _ _, ?_⟩
          conv => whnf
          refine .ret (inside_ret _ _ _) rfl ?_
          conv => whnf
          first | rw [show insB t.a p1 p2 = true from hin] | rw [show insB t.b p1 p2 = true from hin] | rw [show insB t.c p1 p2 = true from hin]
          conv => whnf
          refine ⟨_, rfl, ?_⟩
          conv => whnf
          exact ⟨_, by omega, _, _, hk3, rfl, E.up (foot_new _ _ _), rfl, ⟨rfl, rfl, rfl, rfl, rfl, rfl, rfl, trivial⟩, rfl, rfl, rfl, rfl⟩
      obtain rfl : k = 3 := by omega
      conv => whnf
      refine ⟨by omega, ((w % 1000 : Nat) : Int), rem_nat16 hw 1000, ?_⟩
      conv => whnf
      obtain ⟨mn, hmn, hm9⟩ : ∃ mn, w % 1000 = mn ∧ mn ≤ 999 := ⟨_, rfl, by have := Nat.mod_lt w (show 0 < 1000 by omega); omega⟩
      rw [hmn]
      obtain ⟨p1, p2, hct, hin⟩ := x_count hv hd htc hm9
      refine ⟨_, E.bx, ?_⟩
      conv => whnf
      refine callX E.rx (cs := [I mn]) hct rfl ?_
      conv => whnf
      refine ⟨_, at_push_self _ _, ?_⟩
      conv => whnf
      have kD := doneL_cnt hd t j (n := mn) (by omega)
      refine draw_by (hm := false) (by kernel_rfl) (by kernel_rfl) ?_
      conv => whnf
      have mC := many_nil mn
      rw [show (0 : Int) = Me.of (dayOf s t) (.doneBy mn) by rw [← kD, E.rd.nils]; rfl] at mC
      refine .pure _ _ rfl mC ?_
      conv => whnf
      refine ⟨_, at_new _ _ _, ?_⟩
      conv => whnf
      refine .pure _ _ rfl (inside_ret _ _ _) ?_
      conv => whnf
      rw [hin]
      conv => whnf
      refine ⟨by kernel_rfl, ?_⟩
      conv => whnf
      have E2 := E.up (foot_new h (.blk [AV.lit (.int .i64 0), AV.lit (.int .i64 0)]) (.blk [.c (I p1), .c (I p2)]))
      refine ⟨_, E2.b0, ?_⟩
      conv => whnf
      refine loop_op (I := fun n st => ∃ (r : Nat) (h : Heap), r ≤ s.runs.length ∧ n = s.runs.length - r ∧ Env v s t h1.n (h1.n + 1) (.msl xo 3 0 xm xm) nilA nilA j h ∧
        Has st 222 [(3, .ptr 0 0), (7, .ptr h1.n 0), (9, nilA), (10, nilA), (24, .c (I (freeR (dayOf s t) r))), (123, .c (.sl v.rc v.ro v.rn)), (124, .c (I v.rn)), (125, .c (I r))] [] none h) ?_ (k := s.runs.length)
        ⟨0, _, Nat.zero_le _, rfl, E2, rfl, ⟨rfl, rfl, rfl, rfl, rfl, rfl, rfl, rfl, trivial⟩, rfl, rfl, rfl, rfl⟩
      clear E E2 hs1 hin kD mC hct p1 p2
      rintro n st ⟨r, h, hr, rfl, E, hs1⟩ K' hK'
      refine hs1.run (hm := false) ?_
      conv => whnf
      cases hc : decide ((r : Int) < (v.rn : Int))
      case true =>
        have hr2 : r < s.runs.length := by simp at hc; omega
        obtain ⟨y, hy⟩ := get_some hr2
        have hyb := valid_run hd hy
        conv => whnf
        refine ⟨⟨by omega, by omega⟩, ?_⟩
        conv => whnf
        refine ⟨_, hv.run hy, ?_⟩
        conv => whnf
        refine ⟨_, at_push_self _ _, ?_⟩
        conv => whnf
        have E2 := E.up (foot_new h (.blk [AV.lit (.int .i64 0), AV.lit (.int .i64 0)]) (.blk [.c (I y.start), .c (I y.bell)]))
        refine draw_by (hm := false) (by kernel_rfl) (by kernel_rfl) ?_
        conv => whnf
        refine ⟨_, at_new _ _ _, ?_⟩
        conv => whnf
        refine ⟨by kernel_rfl, ?_⟩
        conv => whnf
        obtain ⟨fr, hfr⟩ : ∃ fr, fr = freeR (dayOf s t) r := ⟨_, rfl⟩
        have hfb := free_bound hg r
        have hft := free_next hd (fun k => (hg.takes k).1) j hy
        have hbL := lwL_bound hd hg j
        have rC := run_count hd (fun k => (hg.takes k).1) j hy
        have rO := run_over hd (fun k => (hg.takes k).1) j hy
        have rL := run_late hd hg hy
        rw [← hfr] at hfb hft rL ⊢
        obtain ⟨late, hlate⟩ : ∃ late, late = decide (fr > y.start) := ⟨_, rfl⟩
        rw [← hlate]
        have hz2 : lwL s t j = [] := List.length_eq_zero_iff.1 (by omega)
        refine loop_op (I := fun n st => ∃ (h' : Heap), Env v s t h1.n (h1.n + 1) (.msl xo 3 0 xm xm) nilA nilA j h' ∧ Heap.at h' h.n = .blk [.c (I y.start), .c (I y.bell)] ∧ h.n < h'.n ∧
          Has st 222 [(3, .ptr 0 0), (7, .ptr h1.n 0), (9, nilA), (10, nilA), (24, .c (I fr)), (25, .c (I r)), (26, .ptr h.n 0), (27, .c (I (ofRun y (lwL s t j)).length)), (28, .c (I (lastF (ofRun y (lwL s t j))))), (29, .c (B late)), (123, .c (.sl v.rc v.ro v.rn)), (124, .c (I v.rn)), (125, .c (I r)), (135, .c (I 0)), (136, .c (I 0))] [] none h') ?_ (k := 0)
          ⟨_, E2, at_new _ _ _, by rw [new_n]; omega, rfl, by rw [hz2]; exact ⟨rfl, rfl, rfl, rfl, rfl, rfl, rfl, rfl, rfl, rfl, rfl, rfl, rfl, rfl, rfl, trivial⟩, rfl, rfl, rfl, rfl⟩
        clear E E2 hs1 hc
        rintro n st ⟨h', E, hB, hBn, hs1⟩ K2 hK2
        refine hs1.run (hm := false) ?_
        subst hK2
        have hCb : (ofRun y (lwL s t j)).length ≤ 40 := by have := ofRun_len y (lwL s t j); omega
        generalize (ofRun y (lwL s t j)).length = C at rC hCb ⊢
        have hLb := last_bound (y := y) hbL
        generalize lastF (ofRun y (lwL s t j)) = ls at rO hft hLb ⊢
        obtain ⟨a1, a2, hbe, hin1⟩ := x_begun hv hd htc hr2
        obtain ⟨o1, o2, hov, hin2⟩ := x_over hv hd htc hy
        rw [← rC] at hin1
        rw [← rO] at hin2
        conv => whnf
        refine ⟨_, E.bx, ?_⟩
        conv => whnf
        refine callX E.rx (cs := [I r]) hbe rfl ?_
        conv => whnf
        refine ⟨_, at_push_self _ _, ?_⟩
        conv => whnf
        have EA := E.up (foot_new h' (.blk [AV.lit (.int .i64 0), AV.lit (.int .i64 0)]) (.blk [.c (I a1), .c (I a2)]))
        have BA : Heap.at ((h'.push .dead (.blk [AV.lit (.int .i64 0), AV.lit (.int .i64 0)])).set .dead h'.n (.blk [.c (I a1), .c (I a2)])) h.n = .blk [.c (I y.start), .c (I y.bell)] := (at_old _ _ _ hBn).trans hB
        have CA : Heap.at ((h'.push .dead (.blk [AV.lit (.int .i64 0), AV.lit (.int .i64 0)])).set .dead h'.n (.blk [.c (I a1), .c (I a2)])) h'.n = .blk [.c (I a1), .c (I a2)] := at_new _ _ _
        have NA : ((h'.push .dead (.blk [AV.lit (.int .i64 0), AV.lit (.int .i64 0)])).set .dead h'.n (.blk [.c (I a1), .c (I a2)])).n = h'.n + 1 := by rw [new_n]
        refine ⟨_, EA.bx, ?_⟩
        conv => whnf
        refine callX EA.rx (cs := [I r]) hov rfl ?_
        conv => whnf
        refine ⟨_, at_push_self _ _, ?_⟩
        conv => whnf
        refine ⟨_, (at_old _ _ _ (by omega)).trans CA, ?_⟩
        conv => whnf
        refine .ret (inside_ret _ _ _) rfl ?_
        conv => whnf
        rw [hin1]
        conv => whnf
        refine ⟨_, (at_old _ _ _ (by omega)).trans BA, ?_⟩
        conv => whnf
        refine ⟨ls - y.bell, by rw [wrap_eq (by omega) (by omega)], ?_⟩
        conv => whnf
        refine ⟨_, at_new _ _ _, ?_⟩
        conv => whnf
        refine .ret (inside_ret _ _ _) rfl ?_
        conv => whnf
        rw [hin2]
        conv => whnf
        have EB := EA.up (foot_new _ (.blk [AV.lit (.int .i64 0), AV.lit (.int .i64 0)]) (.blk [.c (I o1), .c (I o2)]))
        cases h0 : ((r : Int) == 0)
        case true =>
          conv => whnf
          refine ⟨((r + 1 : Nat) : Int), by rw [wrap_eq (by omega) (by omega)]; omega, ?_⟩
          conv => whnf
          exact ⟨s.runs.length - (r + 1), by omega, r + 1, _, hr2, rfl, EB, rfl, by rw [hft]; exact ⟨rfl, rfl, rfl, rfl, rfl, rfl, rfl, rfl, trivial⟩, rfl, rfl, rfl, rfl⟩
        have hr0 : r ≠ 0 := by simp at h0; omega
        obtain ⟨k, hla, hk2, hk0⟩ := x_late hv hd htc hy hr0
        rw [rL] at hk2 hk0
        have l2 : k = 2 → late = true := fun e => by have := hk2 e; rw [hlate]; exact decide_eq_true (by omega)
        have l0 : k = 0 → late = false := fun e => by have := hk0 e; rw [hlate]; exact decide_eq_false (by omega)
        conv => whnf
        refine ⟨_, EB.bx, ?_⟩
        conv => whnf
        refine callX EB.rx (cs := [I r]) hla rfl ?_
        conv => whnf
        clear hlate
        cases c3 : (k == 2)
        case true =>
          have hk : k = 2 := by simpa using c3
          obtain rfl := l2 hk
          subst hk
          conv => whnf
          refine ⟨((r + 1 : Nat) : Int), by rw [wrap_eq (by omega) (by omega)]; omega, ?_⟩
          conv => whnf
          exact ⟨s.runs.length - (r + 1), by omega, r + 1, _, hr2, rfl, EB, rfl, by rw [hft]; exact ⟨rfl, rfl, rfl, rfl, rfl, rfl, rfl, rfl, trivial⟩, rfl, rfl, rfl, rfl⟩
        cases c4 : (k == 0)
        case true =>
          have hk : k = 0 := by simpa using c4
          obtain rfl := l0 hk
          subst hk
          conv => whnf
          refine ⟨((r + 1 : Nat) : Int), by rw [wrap_eq (by omega) (by omega)]; omega, ?_⟩
          conv => whnf
          exact ⟨s.runs.length - (r + 1), by omega, r + 1, _, hr2, rfl, EB, rfl, by rw [hft]; exact ⟨rfl, rfl, rfl, rfl, rfl, rfl, rfl, rfl, trivial⟩, rfl, rfl, rfl, rfl⟩
        · conv => whnf
          rw [c4]
          conv => whnf
          refine ⟨((r + 1 : Nat) : Int), by rw [wrap_eq (by omega) (by omega)]; omega, ?_⟩
          conv => whnf
          exact ⟨s.runs.length - (r + 1), by omega, r + 1, _, hr2, rfl, EB, rfl, by rw [hft]; exact ⟨rfl, rfl, rfl, rfl, rfl, rfl, rfl, rfl, trivial⟩, rfl, rfl, rfl, rfl⟩
      subst hK'
      conv => whnf
      refine .ret hA rfl ?_
      conv => whnf
      exact .val
    · refine .inl _ h3 .no cd2 ?_
      conv => whnf
      clear cd2 g0 ga gb gx gn hn3 n2 t0 RX
      refine ⟨_, E.bx, ?_⟩
      conv => whnf
      refine callX E.rx (cs := []) (x_clash hv hd htc) rfl ?_
      conv => whnf
      obtain ⟨hm1, _⟩ := E.rb.ints
      obtain ⟨hm2, _⟩ := E.rd.ints
      rw [List.length_map] at hm1
      refine loop_by (I := fun n st => ∃ (i : Nat) (h : Heap), i ≤ s.sheep.length ∧ n = s.sheep.length - i ∧ Env v s t h1.n (h1.n + 1) (.msl xo 3 0 xm xm) (.msl i1 1 0 m1 m1) (.msl i2 1 0 m2 m2) j h ∧
        Has st 222 [(2, .c (.lit (.int .u16 w))), (3, .ptr 0 0), (7, .ptr h1.n 0), (8, .ptr (h1.n + 1) 0), (9, (.msl i1 1 0 m1 m1)), (10, (.msl i2 1 0 m2 m2)), (61, (.msl i2 1 0 m2 m2)), (62, .c (I m2)), (63, .c (I i))] [] none h) ?_ (k := s.sheep.length)
        ⟨0, _, Nat.zero_le _, rfl, E, rfl, ⟨rfl, rfl, rfl, rfl, rfl, rfl, rfl, rfl, rfl, trivial⟩, rfl, rfl, rfl, rfl⟩
      clear E
      rintro n st ⟨i, h, hi, rfl, E, hs1⟩
      refine hs1.run (hm := false) ?_
      conv => whnf
      cases hc : decide ((i : Int) < (m2 : Int))
      case true =>
        have hi2 : i < s.sheep.length := by simp at hc; omega
        obtain ⟨p1, p2, hdn, hin⟩ := x_done hv hd htc hi2
        have dA := doneL_at hd t hj hi2
        obtain ⟨x, hx⟩ : ∃ x, x = Me.of (dayOf s t) (.doneAt i) := ⟨_, rfl⟩
        rw [← hx] at hin dA
        conv => whnf
        refine ⟨⟨rfl, by omega, by omega⟩, ?_⟩
        conv => whnf
        refine ⟨_, E.rd.ints.2, look_read (read_intsA dA) ?_⟩
        conv => whnf
        refine ⟨_, E.bx, ?_⟩
        conv => whnf
        refine callX E.rx (cs := [I i]) hdn rfl ?_
        conv => whnf
        refine ⟨_, at_push_self _ _, ?_⟩
        conv => whnf
        refine ⟨_, at_new _ _ _, ?_⟩
        conv => whnf
        refine .ret (inside_ret _ _ _) rfl ?_
        conv => whnf
        rw [hin]
        conv => whnf
        refine ⟨((i + 1 : Nat) : Int), by rw [wrap_eq (by omega) (by omega)]; omega, ?_⟩
        conv => whnf
        exact ⟨s.sheep.length - (i + 1), by omega, i + 1, _, hi2, rfl, E.up (foot_new _ _ _), rfl, ⟨rfl, rfl, rfl, rfl, rfl, rfl, rfl, rfl, rfl, trivial⟩, rfl, rfl, rfl, rfl⟩
      clear hc hi
      conv => whnf
      refine ⟨_, E.bt, ?_⟩
      conv => whnf
      refine loop_by (I := fun n st => ∃ (k : Nat) (h : Heap), k ≤ 3 ∧ n = 3 - k ∧ Env v s t h1.n (h1.n + 1) (.msl xo 3 0 xm xm) (.msl i1 1 0 m1 m1) (.msl i2 1 0 m2 m2) j h ∧
        Has st 222 [(2, .c (.lit (.int .u16 w))), (3, .ptr 0 0), (7, .ptr h1.n 0), (9, (.msl i1 1 0 m1 m1)), (10, (.msl i2 1 0 m2 m2)), (83, .c t.cv), (84, .c (I k))] [] none h) ?_ (k := 3)
        ⟨0, _, Nat.zero_le _, rfl, E, rfl, ⟨rfl, rfl, rfl, rfl, rfl, rfl, rfl, trivial⟩, rfl, rfl, rfl, rfl⟩
      clear E hs1
      rintro n st ⟨k, h, hk, rfl, E, hs1⟩
      refine hs1.run (hm := false) ?_
      by_cases hk3 : k < 3
      · obtain ⟨p1, p2, htk, hin⟩ := x_takes hv hd htc (k := k) (by omega)
        obtain rfl | rfl | rfl : k = 0 ∨ k = 1 ∨ k = 2 := by omega
        all_goals
          conv => whnf
          refine ⟨_, E.bx, ?_⟩
          conv => whnf
          refine callX E.rx (cs := [I _]) htk rfl ?_
          conv => whnf
          refine ⟨_, at_push_self _ _, ?_⟩
          conv => whnf
          refine ⟨_, at_new _ _ _, ?_⟩
          conv => whnf
          refine .ret (inside_ret _ _ _) rfl ?_
          conv => whnf
          first | rw [show insB t.a p1 p2 = true from hin] | rw [show insB t.b p1 p2 = true from hin] | rw [show insB t.c p1 p2 = true from hin]
          conv => whnf
          refine ⟨_, rfl, ?_⟩
          conv => whnf
          exact ⟨_, by omega, _, _, hk3, rfl, E.up (foot_new _ _ _), rfl, ⟨rfl, rfl, rfl, rfl, rfl, rfl, rfl, trivial⟩, rfl, rfl, rfl, rfl⟩
      obtain rfl : k = 3 := by omega
      conv => whnf
      refine ⟨by omega, ((w % 1000 : Nat) : Int), rem_nat16 hw 1000, ?_⟩
      conv => whnf
      obtain ⟨mn, hmn, hm9⟩ : ∃ mn, w % 1000 = mn ∧ mn ≤ 999 := ⟨_, rfl, by have := Nat.mod_lt w (show 0 < 1000 by omega); omega⟩
      rw [hmn]
      obtain ⟨p1, p2, hct, hin⟩ := x_count hv hd htc hm9
      refine ⟨_, E.bx, ?_⟩
      conv => whnf
      refine callX E.rx (cs := [I mn]) hct rfl ?_
      conv => whnf
      refine ⟨_, at_push_self _ _, ?_⟩
      conv => whnf
      have kD := doneL_cnt hd t j (n := mn) (by omega)
      refine draw_by (hm := false) (by kernel_rfl) (by kernel_rfl) ?_
      conv => whnf
      have mC : Ret Try.prog 32 [.sl ((doneL s t j).map I) 0 m2, I mn] (I (Me.of (dayOf s t) (.doneBy mn))) := by
        have h := many_retC (l := doneL s t j) (by omega) mn
        rw [kD, ← hm2] at h
        exact h
      refine .snapped _ _ [i2] _ (snap_two (((E.up (foot_new _ _ _)).rd.ints).2) _) mC ?_
      rw [show ∀ (z : Int) (ids : List Nat), killed (I z) ids = [] from fun _ _ => rfl]
      conv => whnf
      refine ⟨_, at_new _ _ _, ?_⟩
      conv => whnf
      refine .pure _ _ rfl (inside_ret _ _ _) ?_
      conv => whnf
      rw [hin]
      conv => whnf
      refine ⟨by kernel_rfl, ?_⟩
      conv => whnf
      have E2 := E.up (foot_new h (.blk [AV.lit (.int .i64 0), AV.lit (.int .i64 0)]) (.blk [.c (I p1), .c (I p2)]))
      refine ⟨_, E2.b0, ?_⟩
      conv => whnf
      refine loop_op (I := fun n st => ∃ (r : Nat) (h : Heap), r ≤ s.runs.length ∧ n = s.runs.length - r ∧ Env v s t h1.n (h1.n + 1) (.msl xo 3 0 xm xm) (.msl i1 1 0 m1 m1) (.msl i2 1 0 m2 m2) j h ∧
        Has st 222 [(3, .ptr 0 0), (7, .ptr h1.n 0), (9, (.msl i1 1 0 m1 m1)), (10, (.msl i2 1 0 m2 m2)), (24, .c (I (freeR (dayOf s t) r))), (123, .c (.sl v.rc v.ro v.rn)), (124, .c (I v.rn)), (125, .c (I r))] [] none h) ?_ (k := s.runs.length)
        ⟨0, _, Nat.zero_le _, rfl, E2, rfl, ⟨rfl, rfl, rfl, rfl, rfl, rfl, rfl, rfl, trivial⟩, rfl, rfl, rfl, rfl⟩
      clear E E2 hs1 hin kD mC hct p1 p2
      rintro n st ⟨r, h, hr, rfl, E, hs1⟩ K' hK'
      refine hs1.run (hm := false) ?_
      conv => whnf
      cases hc : decide ((r : Int) < (v.rn : Int))
      case true =>
        have hr2 : r < s.runs.length := by simp at hc; omega
        obtain ⟨y, hy⟩ := get_some hr2
        have hyb := valid_run hd hy
        conv => whnf
        refine ⟨⟨by omega, by omega⟩, ?_⟩
        conv => whnf
        refine ⟨_, hv.run hy, ?_⟩
        conv => whnf
        refine ⟨_, at_push_self _ _, ?_⟩
        conv => whnf
        have E2 := E.up (foot_new h (.blk [AV.lit (.int .i64 0), AV.lit (.int .i64 0)]) (.blk [.c (I y.start), .c (I y.bell)]))
        refine draw_by (hm := false) (by kernel_rfl) (by kernel_rfl) ?_
        conv => whnf
        refine ⟨_, at_new _ _ _, ?_⟩
        conv => whnf
        refine ⟨by kernel_rfl, ?_⟩
        conv => whnf
        obtain ⟨fr, hfr⟩ : ∃ fr, fr = freeR (dayOf s t) r := ⟨_, rfl⟩
        have hfb := free_bound hg r
        have hft := free_next hd (fun k => (hg.takes k).1) j hy
        have hbL := lwL_bound hd hg j
        have rC := run_count hd (fun k => (hg.takes k).1) j hy
        have rO := run_over hd (fun k => (hg.takes k).1) j hy
        have rL := run_late hd hg hy
        rw [← hfr] at hfb hft rL ⊢
        obtain ⟨late, hlate⟩ : ∃ late, late = decide (fr > y.start) := ⟨_, rfl⟩
        rw [← hlate]
        refine loop_op (I := fun n st => ∃ (i : Nat) (h' : Heap), i ≤ s.sheep.length ∧ n = s.sheep.length - i ∧ Env v s t h1.n (h1.n + 1) (.msl xo 3 0 xm xm) (.msl i1 1 0 m1 m1) (.msl i2 1 0 m2 m2) j h' ∧ Heap.at h' h.n = .blk [.c (I y.start), .c (I y.bell)] ∧ h.n < h'.n ∧
          Has st 222 [(3, .ptr 0 0), (7, .ptr h1.n 0), (9, (.msl i1 1 0 m1 m1)), (10, (.msl i2 1 0 m2 m2)), (24, .c (I fr)), (25, .c (I r)), (26, .ptr h.n 0), (27, .c (I (ofRun y ((lwL s t j).take i)).length)), (28, .c (I (lastF (ofRun y ((lwL s t j).take i))))), (29, .c (B late)), (123, .c (.sl v.rc v.ro v.rn)), (124, .c (I v.rn)), (125, .c (I r)), (134, (.msl i1 1 0 m1 m1)), (135, .c (I m1)), (136, .c (I i))] [] none h') ?_ (k := s.sheep.length)
          ⟨0, _, Nat.zero_le _, rfl, E2, at_new _ _ _, by rw [new_n]; omega, rfl, ⟨rfl, rfl, rfl, rfl, rfl, rfl, rfl, rfl, rfl, rfl, rfl, rfl, rfl, rfl, rfl, rfl, trivial⟩, rfl, rfl, rfl, rfl⟩
        clear E E2 hs1 hc
        rintro n st ⟨i, h', hi, rfl, E, hB, hBn, hs1⟩ K2 hK2
        refine hs1.run (hm := false) ?_
        conv => whnf
        cases hc : decide ((i : Int) < (m1 : Int))
        case true =>
          have hi2 : i < s.sheep.length := by simp at hc; omega
          obtain ⟨p, hp⟩ := get_some (l := lwL s t j) (k := i) (by omega)
          have hp1 : ((lwL s t j).map (·.1))[i]? = some p.1 := by rw [List.getElem?_map, hp]; rfl
          have hp2 : (doneL s t j)[i]? = some p.2 := by rw [← lwL_done, List.getElem?_map, hp]; rfl
          have hst := ofRun_step (y := y) hp
          conv => whnf
          refine ⟨⟨rfl, by omega, by omega⟩, ?_⟩
          conv => whnf
          refine ⟨_, E.rb.ints.2, look_read (read_intsA hp1) ?_⟩
          conv => whnf
          refine ⟨_, hB, ?_⟩
          conv => whnf
          have lln := Nat.le_trans (ofRun_len y ((lwL s t j).take i)) (List.length_take_le i _)
          have skip : inRun y p = false → ofRun y ((lwL s t j).take (i + 1)) = ofRun y ((lwL s t j).take i) := fun e => by rw [hst, e]; simp
          have EX : ∀ k : Nat, (I ((i + 1 : Nat) : Int)) = I ((i + 1 : Nat) : Int) := fun _ => rfl
          cases c1 : decide (p.1 ≥ y.start)
          · have he := skip (by unfold inRun; rw [show decide (y.start ≤ p.1) = false from c1]; rfl)
            conv => whnf
            refine ⟨((i + 1 : Nat) : Int), by rw [wrap_eq (by omega) (by omega)]; omega, ?_⟩
            conv => whnf
            exact ⟨s.sheep.length - (i + 1), by omega, i + 1, h', hi2, rfl, E, hB, hBn, rfl, by rw [he]; exact ⟨rfl, rfl, rfl, rfl, rfl, rfl, rfl, rfl, rfl, rfl, rfl, rfl, rfl, rfl, rfl, rfl, trivial⟩, rfl, rfl, rfl, rfl⟩
          conv => whnf
          refine ⟨_, hB, ?_⟩
          conv => whnf
          cases c2 : decide (p.1 < y.bell)
          · have he := skip (by unfold inRun; rw [c2]; simp)
            conv => whnf
            refine ⟨((i + 1 : Nat) : Int), by rw [wrap_eq (by omega) (by omega)]; omega, ?_⟩
            conv => whnf
            exact ⟨s.sheep.length - (i + 1), by omega, i + 1, h', hi2, rfl, E, hB, hBn, rfl, by rw [he]; exact ⟨rfl, rfl, rfl, rfl, rfl, rfl, rfl, rfl, rfl, rfl, rfl, rfl, rfl, rfl, rfl, rfl, trivial⟩, rfl, rfl, rfl, rfl⟩
          have he : ofRun y ((lwL s t j).take (i + 1)) = ofRun y ((lwL s t j).take i) ++ [p.2] := by
            rw [hst, show inRun y p = true by unfold inRun; rw [show decide (y.start ≤ p.1) = true from c1, c2]; rfl]; rfl
          conv => whnf
          refine draw_by (hm := false) (by kernel_rfl) (by kernel_rfl) ?_
          conv => whnf
          refine ⟨(((ofRun y ((lwL s t j).take i)).length + 1 : Nat) : Int), by rw [wrap_eq (by omega) (by omega)]; omega, ?_⟩
          conv => whnf
          refine ⟨⟨rfl, by omega, by omega⟩, ?_⟩
          conv => whnf
          refine ⟨_, E.rd.ints.2, look_read (read_intsA hp2) ?_⟩
          conv => whnf
          refine ⟨by kernel_rfl, ?_⟩
          conv => whnf
          refine ⟨((i + 1 : Nat) : Int), by rw [wrap_eq (by omega) (by omega)]; omega, ?_⟩
          conv => whnf
          exact ⟨s.sheep.length - (i + 1), by omega, i + 1, h', hi2, rfl, E, hB, hBn, rfl, by rw [he, lastF_snoc, List.length_append]; exact ⟨rfl, rfl, rfl, rfl, rfl, rfl, rfl, rfl, rfl, rfl, rfl, rfl, rfl, rfl, rfl, rfl, trivial⟩, rfl, rfl, rfl, rfl⟩
        have hii : i = (lwL s t j).length := by simp at hc; omega
        subst hii
        rw [List.take_length]
        subst hK2
        have hCb : (ofRun y (lwL s t j)).length ≤ 40 := by have := ofRun_len y (lwL s t j); omega
        generalize (ofRun y (lwL s t j)).length = C at rC hCb ⊢
        have hLb := last_bound (y := y) hbL
        generalize lastF (ofRun y (lwL s t j)) = ls at rO hft hLb ⊢
        obtain ⟨a1, a2, hbe, hin1⟩ := x_begun hv hd htc hr2
        obtain ⟨o1, o2, hov, hin2⟩ := x_over hv hd htc hy
        rw [← rC] at hin1
        rw [← rO] at hin2
        conv => whnf
        refine ⟨_, E.bx, ?_⟩
        conv => whnf
        refine callX E.rx (cs := [I r]) hbe rfl ?_
        conv => whnf
        refine ⟨_, at_push_self _ _, ?_⟩
        conv => whnf
        have EA := E.up (foot_new h' (.blk [AV.lit (.int .i64 0), AV.lit (.int .i64 0)]) (.blk [.c (I a1), .c (I a2)]))
        have BA : Heap.at ((h'.push .dead (.blk [AV.lit (.int .i64 0), AV.lit (.int .i64 0)])).set .dead h'.n (.blk [.c (I a1), .c (I a2)])) h.n = .blk [.c (I y.start), .c (I y.bell)] := (at_old _ _ _ hBn).trans hB
        have CA : Heap.at ((h'.push .dead (.blk [AV.lit (.int .i64 0), AV.lit (.int .i64 0)])).set .dead h'.n (.blk [.c (I a1), .c (I a2)])) h'.n = .blk [.c (I a1), .c (I a2)] := at_new _ _ _
        have NA : ((h'.push .dead (.blk [AV.lit (.int .i64 0), AV.lit (.int .i64 0)])).set .dead h'.n (.blk [.c (I a1), .c (I a2)])).n = h'.n + 1 := by rw [new_n]
        refine ⟨_, EA.bx, ?_⟩
        conv => whnf
        refine callX EA.rx (cs := [I r]) hov rfl ?_
        conv => whnf
        refine ⟨_, at_push_self _ _, ?_⟩
        conv => whnf
        refine ⟨_, (at_old _ _ _ (by omega)).trans CA, ?_⟩
        conv => whnf
        refine .ret (inside_ret _ _ _) rfl ?_
        conv => whnf
        rw [hin1]
        conv => whnf
        refine ⟨_, (at_old _ _ _ (by omega)).trans BA, ?_⟩
        conv => whnf
        refine ⟨ls - y.bell, by rw [wrap_eq (by omega) (by omega)], ?_⟩
        conv => whnf
        refine ⟨_, at_new _ _ _, ?_⟩
        conv => whnf
        refine .ret (inside_ret _ _ _) rfl ?_
        conv => whnf
        rw [hin2]
        conv => whnf
        have EB := EA.up (foot_new _ (.blk [AV.lit (.int .i64 0), AV.lit (.int .i64 0)]) (.blk [.c (I o1), .c (I o2)]))
        cases h0 : ((r : Int) == 0)
        case true =>
          conv => whnf
          refine ⟨((r + 1 : Nat) : Int), by rw [wrap_eq (by omega) (by omega)]; omega, ?_⟩
          conv => whnf
          exact ⟨s.runs.length - (r + 1), by omega, r + 1, _, hr2, rfl, EB, rfl, by rw [hft]; exact ⟨rfl, rfl, rfl, rfl, rfl, rfl, rfl, rfl, trivial⟩, rfl, rfl, rfl, rfl⟩
        have hr0 : r ≠ 0 := by simp at h0; omega
        obtain ⟨k, hla, hk2, hk0⟩ := x_late hv hd htc hy hr0
        rw [rL] at hk2 hk0
        have l2 : k = 2 → late = true := fun e => by have := hk2 e; rw [hlate]; exact decide_eq_true (by omega)
        have l0 : k = 0 → late = false := fun e => by have := hk0 e; rw [hlate]; exact decide_eq_false (by omega)
        conv => whnf
        refine ⟨_, EB.bx, ?_⟩
        conv => whnf
        refine callX EB.rx (cs := [I r]) hla rfl ?_
        conv => whnf
        clear hlate
        cases c3 : (k == 2)
        case true =>
          have hk : k = 2 := by simpa using c3
          obtain rfl := l2 hk
          subst hk
          conv => whnf
          refine ⟨((r + 1 : Nat) : Int), by rw [wrap_eq (by omega) (by omega)]; omega, ?_⟩
          conv => whnf
          exact ⟨s.runs.length - (r + 1), by omega, r + 1, _, hr2, rfl, EB, rfl, by rw [hft]; exact ⟨rfl, rfl, rfl, rfl, rfl, rfl, rfl, rfl, trivial⟩, rfl, rfl, rfl, rfl⟩
        cases c4 : (k == 0)
        case true =>
          have hk : k = 0 := by simpa using c4
          obtain rfl := l0 hk
          subst hk
          conv => whnf
          refine ⟨((r + 1 : Nat) : Int), by rw [wrap_eq (by omega) (by omega)]; omega, ?_⟩
          conv => whnf
          exact ⟨s.runs.length - (r + 1), by omega, r + 1, _, hr2, rfl, EB, rfl, by rw [hft]; exact ⟨rfl, rfl, rfl, rfl, rfl, rfl, rfl, rfl, trivial⟩, rfl, rfl, rfl, rfl⟩
        · conv => whnf
          rw [c4]
          conv => whnf
          refine ⟨((r + 1 : Nat) : Int), by rw [wrap_eq (by omega) (by omega)]; omega, ?_⟩
          conv => whnf
          exact ⟨s.runs.length - (r + 1), by omega, r + 1, _, hr2, rfl, EB, rfl, by rw [hft]; exact ⟨rfl, rfl, rfl, rfl, rfl, rfl, rfl, rfl, trivial⟩, rfl, rfl, rfl, rfl⟩
      subst hK'
      conv => whnf
      refine .ret hA rfl ?_
      conv => whnf
      exact .val
end Go.Ag
/- Layer 4: a slice of small numbers is read as data. -/
namespace Go.Ag
open Go.Proofs Go.ChangeShapes Go.WideShapes Go.Deep Go.RowKit Go.ChangeShapes
set_option maxRecDepth 100000

def W16 (z : Int) : CV := .lit (.int .u16 z)
theorem repP_w {Φ : Nat → Option Obj} : ∀ (zs : List Int) (vs : List Value), (∀ (i : Nat) (z : Int), zs[i]? = some z → vs[i]? = some (Value.int .u16 z)) → RepP Φ (zs.map W16) vs
  | [], _, _ => trivial
  | z :: zs, [], h => by have := h 0 z rfl; simp at this
  | z :: zs, v :: vs, h => by
    have h0 := h 0 z rfl
    simp only [List.getElem?_cons_zero, Option.some.injEq] at h0
    exact ⟨h0, repP_w zs vs fun i y hy => by have := h (i + 1) y (by simpa using hy); simpa using this⟩
theorem byL_of {zs : List Int} (hw : ∀ n ∈ zs, (Lit.int .u16 n).wf = true) : ByL (zs.map W16) 0 zs.length := by
  refine ⟨fun i hi => ?_⟩
  obtain ⟨z, hz⟩ := get_some hi
  obtain ⟨w, rfl, h2⟩ := law_u16 (hw z (List.mem_of_getElem? hz))
  exact ⟨w, h2, by rw [Nat.zero_add, List.getElem?_map, hz]; rfl⟩
theorem byL_nil : ByL [] 0 0 := ⟨fun i hi => absurd hi (by omega)⟩

section
variable {H : Type} {enc : TypeId × Value → H} {w : World} {base : Nat} {spare : Nat → Bool} {held : Bool}
theorem cells41 : Try.prog.cellsOf 41 = 1 := by kernel_rfl
theorem open_by {r : Reach} {b0 : Nat} {v : Value} {x : DataW H} {ps : List MemPlace} (hv : Value.okWide Try.prog w r b0 40 v) (h : DataW.Trod enc Try.prog w base spare held 40 v x ps) : ∃ bc bo bn, ByL bc bo bn ∧ RepC (allOf w) (.sl bc bo bn) v := by
  obtain ⟨a, len, cap, rfl⟩ := okWide_slice Try.underlying40 hv
  obtain ⟨fuel, hf⟩ := h
  rcases open_ints Try.underlying40 Try.underlying41 cells41 hf with ⟨h0, _⟩ | ⟨a', len', cap', zs, hcs, hb, hl, hm, hmm, hx, hc, hw⟩
  · have h0 : [Value.slice a len cap] = [.slice none 0 0] := h0
    simp only [List.cons.injEq, and_true] at h0
    rw [h0]
    exact ⟨[], 0, 0, byL_nil, .inl ⟨rfl, .inr rfl⟩⟩
  · have hcs : [Value.slice a len cap] = [.slice (some a') len' cap'] := hcs
    simp only [List.cons.injEq, and_true] at hcs
    rw [hcs]
    clear hcs hx
    have hlm : len' ≤ zs.length := by rw [hmm]; split <;> omega
    by_cases hlen : len' = 0
    · subst hlen
      exact ⟨[], 0, 0, byL_nil, .inl ⟨rfl, .inl ⟨a', cap', rfl⟩⟩⟩
    · have hlt : (zs.take len').length = len' := by rw [List.length_take]; omega
      refine ⟨(zs.take len').map W16, 0, (zs.take len').length, byL_of (fun n hn => hw n (List.mem_of_mem_take hn)), .inr ?_⟩
      obtain ⟨b, off, spot⟩ := a'
      have hc0 := hc 0 (by omega)
      have hspot : spot = none := by simpa [Addr.add] using World.cell?_spot hc0
      subst hspot
      have plain : ∀ n, (⟨b, off, none⟩ : Addr).add n = ⟨b, off + n, none⟩ := fun n => by unfold Addr.add; split <;> simp_all
      rw [plain] at hc0
      cases hh : w.heap[b]? with
      | none => simp [World.cell?, hh] at hc0
      | some o =>
        cases o with
        | cells cs e fr =>
          refine ⟨b, off, cap', cs, e, fr, by simp [hlt], by rw [hlt]; simpa using hl, hh, repP_w _ _ fun i z hz => ?_⟩
          have hi : i < len' := by have := (List.getElem?_eq_some_iff.1 hz).1; omega
          have hz' : zs[i]? = some z := by rw [List.getElem?_take_of_lt hi] at hz; exact hz
          have hci := hc i (by omega)
          rw [show zs.getD i 0 = z by rw [List.getD_eq_getElem?_getD, hz']; rfl, plain] at hci
          simp only [World.cell?, hh] at hci
          simpa using hci
        | _ => simp [World.cell?, hh] at hc0
end
end Go.Ag
