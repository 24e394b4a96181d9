/- The law StandRises returns true for arguments that are not far too long. No conditions. -/
import Derived.Test.YtdjgafdekabolaaStD
/- Layer 4: sheep are done one after the other. -/
namespace Go.Ag
open Go.Proofs
set_option maxRecDepth 100000

abbrev dn (d : List Sh) (i : Nat) : Int := Me.of d (.doneAt i)
theorem dn_nil (i : Nat) : dn [] i = 1000 := rfl
theorem dn_zero (x : Sh) (d : List Sh) : dn (x :: d) 0 = x.done := rfl
theorem dn_succ (x : Sh) (d : List Sh) (i : Nat) : dn (x :: d) (i + 1) = dn d i := rfl

structure Runs (runs : List Ru) (t : T3) : Prop where
  runs : ∀ x ∈ runs, 0 ≤ x.start ∧ x.start < x.bell ∧ x.bell ≤ 600
  takes : ∀ k, 1 ≤ t.get k ∧ t.get k ≤ 40
theorem Good.r {s : Sd} {t : T3} (h : Good s t) : Runs s.runs t := ⟨h.runs, h.takes⟩

theorem dayF_none {runs : List Ru} {t : T3} {k : Int} {ks : List Int} {run : Nat} {free : Int} (h : runs[nextRun runs free run]? = none) : dayF runs t (k :: ks) run free = [] := by simp only [dayF, h]
theorem dayF_some {runs : List Ru} {t : T3} {k : Int} {ks : List Int} {run : Nat} {free : Int} {x : Ru} (h : runs[nextRun runs free run]? = some x) : dayF runs t (k :: ks) run free = ⟨nextRun runs free run, max free x.start + t.get k.toNat⟩ :: dayF runs t ks (nextRun runs free run) (max free x.start + t.get k.toNat) := by simp only [dayF, h]
/-- One after the other. -/
theorem day_chain {runs : List Ru} {t : T3} (hg : Runs runs t) : ∀ (ks : List Int) (run : Nat) (free : Int), run ≤ runs.length → 0 ≤ free → free ≤ 640 → ∀ i k, ks[i]? = some k →
    min 1000 ((if i = 0 then free else dn (dayF runs t ks run free) (i - 1)) + t.get k.toNat) ≤ dn (dayF runs t ks run free) i
  | [], _, _, _, _, _, i, k, h => by simp at h
  | k0 :: ks, run, free, hr, h0, h1, i, k, h => by
    cases hx : runs[nextRun runs free run]? with
    | none => rw [dayF_none hx]; simp only [dn_nil]; exact Int.min_le_left _ _
    | some x =>
      rw [dayF_some hx]
      have hxr := hg.runs x (List.mem_of_getElem? hx)
      have hfb := next_open _ _ rfl hr hx
      have htk := hg.takes k0.toNat
      have ih := day_chain hg ks (nextRun runs free run) (max free x.start + t.get k0.toNat) (next_le hr) (by omega) (by omega)
      cases i with
      | zero =>
        simp only [List.getElem?_cons_zero, Option.some.injEq] at h
        subst h
        rw [if_pos rfl, dn_zero]
        simp only
        omega
      | succ i =>
        have h' := ih i k (by simpa using h)
        rw [dn_succ, if_neg (by omega), Nat.add_sub_cancel]
        cases i with
        | zero =>
          rw [if_pos rfl] at h'
          rw [dn_zero]
          exact h'
        | succ i =>
          rw [if_neg (by omega), Nat.add_sub_cancel] at h'
          rw [dn_succ]
          exact h'
theorem dn_le {d : List Sh} (h : ∀ x ∈ d, x.done ≤ 1000) (i : Nat) : dn d i ≤ 1000 := by
  unfold dn
  cases hx : d[i]? with
  | none =>
    have e : Me.of d (.doneAt i) = 1000 := by simp only [Me.of, hx]
    omega
  | some x =>
    have e : Me.of d (.doneAt i) = x.done := by simp only [Me.of, hx]
    rw [e]; exact h x (List.mem_of_getElem? hx)
theorem day_done6 {s : Sd} {t : T3} (hg : Good s t) : ∀ x ∈ dayOf s t, 0 ≤ x.done ∧ x.done ≤ 640 := by
  have main : ∀ (ks : List Int) (run : Nat) (free : Int), run ≤ s.runs.length → 0 ≤ free → ∀ x ∈ dayF s.runs t ks run free, 0 ≤ x.done ∧ x.done ≤ 640 := by
    intro ks
    induction ks with
    | nil => intro run free _ _; simp [dayF]
    | cons k ks ih =>
      intro run free hr hf
      unfold dayF
      split
      · simp
      · rename_i x hx
        have hxr := hg.runs x (List.mem_of_getElem? hx)
        have hfb := next_open _ _ rfl hr hx
        have htk := hg.takes k.toNat
        intro y hy
        rcases List.mem_cons.1 hy with rfl | hy
        · simp only; omega
        · exact ih (nextRun s.runs free run) (max free x.start + t.get k.toNat) (next_le hr) (by omega) y hy
  exact main s.sheep 0 0 (Nat.zero_le _) (by omega)
theorem day_len {runs : List Ru} {t : T3} : ∀ (ks : List Int) (run : Nat) (free : Int), (dayF runs t ks run free).length ≤ ks.length
  | [], _, _ => Nat.le_refl _
  | k :: ks, run, free => by
    unfold dayF
    split
    · simp
    · have := day_len (runs := runs) (t := t) ks
      simp only [List.length_cons]
      exact Nat.succ_le_succ (this _ _)

/-- How many are done at a minute, sheep by sheep. -/
def cnt (f : Nat → Int) (m : Int) (n : Nat) : Nat := (List.range n).countP fun i => decide (f i ≤ m)
theorem cnt_succ (f : Nat → Int) (m : Int) (n : Nat) : cnt f m (n + 1) = cnt f m n + if f n ≤ m then 1 else 0 := by
  unfold cnt
  rw [List.range_succ, List.countP_append]
  simp [List.countP_cons]
theorem cnt_mono {f g : Nat → Int} {m : Int} : ∀ n, (∀ i, i < n → f i ≤ m → g i ≤ m) → cnt f m n ≤ cnt g m n
  | 0, _ => Nat.le_refl _
  | n + 1, h => by
    rw [cnt_succ, cnt_succ]
    have h1 := cnt_mono n (fun i hi => h i (by omega))
    have h2 := h n (by omega)
    split
    · rename_i hf
      rw [if_pos (h2 hf)]; omega
    · omega
theorem cnt_le (f : Nat → Int) (m : Int) (n : Nat) : cnt f m n ≤ n := by
  unfold cnt
  have := List.countP_le_length (p := fun i => decide (f i ≤ m)) (l := List.range n)
  simpa using this
theorem cnt_first (f : Nat → Int) (m : Int) (n : Nat) : cnt f m (n + 1) = (if f 0 ≤ m then 1 else 0) + cnt (fun i => f (i + 1)) m n := by
  induction n with
  | zero => rw [cnt_succ]; simp [cnt]
  | succ n ih => rw [cnt_succ, ih, cnt_succ]; omega
theorem done_cnt {m : Int} (hm : m ≤ 999) : ∀ (d : List Sh) (n : Nat), d.length ≤ n → Me.of d (.doneBy m) = (cnt (dn d) m n : Nat)
  | [], n, _ => by
    have : ∀ n, cnt (dn []) m n = 0 := by
      intro n
      induction n with
      | zero => rfl
      | succ n ih => rw [cnt_succ, ih, dn_nil, if_neg (by omega)]
    rw [this]; rfl
  | x :: d, 0, h => by simp at h
  | x :: d, n + 1, h => by
    have ih := done_cnt hm d n (by simpa using h)
    rw [cnt_first, dn_zero]
    have e : (fun i => dn (x :: d) (i + 1)) = dn d := by funext i; rfl
    rw [e]
    simp only [Me.of] at ih ⊢
    rw [List.countP_cons]
    by_cases hx : x.done ≤ m
    · simp only [hx, decide_true, if_true]; push_cast at ih ⊢; omega
    · simp only [hx, decide_false, if_false]; push_cast at ih ⊢; simp; omega

/-- No more are begun in a run than there is room for. -/
theorem day_room {runs : List Ru} {t : T3} (hg : Runs runs t) {r : Nat} {x : Ru} (hx : runs[r]? = some x) : ∀ (ks : List Int) (run : Nat) (free : Int), run ≤ runs.length → 0 ≤ free →
    ((inRuns r r (dayF runs t ks run free)).length : Int) ≤ max 0 (x.bell - max free x.start)
  | [], _, _, _, _ => by simp [dayF, inRuns]; omega
  | k :: ks, run, free, hr, h0 => by
    unfold dayF
    split
    · simp [inRuns]; omega
    · rename_i y hy
      have hyr := hg.runs y (List.mem_of_getElem? hy)
      have hfb := next_open _ _ rfl hr hy
      have htk := hg.takes k.toNat
      have ih := day_room hg hx ks (nextRun runs free run) (max free y.start + t.get k.toNat) (next_le hr) (by omega)
      rw [inRuns_cons]
      by_cases he : nextRun runs free run = r
      · have hyx : y = x := by rw [he] at hy; rw [hx] at hy; exact (Option.some.inj hy).symm
        subst hyx
        have hin : inB ((nextRun runs free run : Nat) : Int) r r = true := by simp [inB]; omega
        simp only [hin, if_true, List.length_cons]
        push_cast
        omega
      · have hin : inB ((nextRun runs free run : Nat) : Int) r r = false := by simp [inB]; omega
        simp only [hin, Bool.false_eq_true, if_false]
        omega
/-- None of a run takes long after its bell. -/
theorem day_over {runs : List Ru} {t : T3} (hg : Runs runs t) {r : Nat} {x : Ru} (hx : runs[r]? = some x) : ∀ (ks : List Int) (run : Nat) (free : Int), run ≤ runs.length → 0 ≤ free →
    ∀ y ∈ inRuns r r (dayF runs t ks run free), y.done ≤ x.bell + 39
  | [], _, _, _, _ => by simp [dayF, inRuns]
  | k :: ks, run, free, hr, h0 => by
    unfold dayF
    split
    · simp [inRuns]
    · rename_i y hy
      have hyr := hg.runs y (List.mem_of_getElem? hy)
      have hfb := next_open _ _ rfl hr hy
      have htk := hg.takes k.toNat
      have ih := day_over hg hx ks (nextRun runs free run) (max free y.start + t.get k.toNat) (next_le hr) (by omega)
      rw [inRuns_cons]
      by_cases he : nextRun runs free run = r
      · have hyx : y = x := by rw [he] at hy; rw [hx] at hy; exact (Option.some.inj hy).symm
        subst hyx
        have hin : inB ((nextRun runs free run : Nat) : Int) r r = true := by simp [inB]; omega
        simp only [hin, if_true]
        intro z hz
        rcases List.mem_cons.1 hz with rfl | hz
        · simp only; omega
        · exact ih z hz
      · have hin : inB ((nextRun runs free run : Nat) : Int) r r = false := by simp [inB]; omega
        simp only [hin, Bool.false_eq_true, if_false]
        exact ih
theorem latest_le {m b : Int} (hb : 0 ≤ b) : ∀ (l : List Sh) (a : Int), 0 ≤ a → a ≤ b → (∀ x ∈ l, x.done - m ≤ b) → 0 ≤ l.foldl (fun m' x => max m' (x.done - m)) a ∧ l.foldl (fun m' x => max m' (x.done - m)) a ≤ b
  | [], a, h0, h1, _ => ⟨h0, h1⟩
  | x :: l, a, h0, h1, h => by
    have := h x (List.mem_cons_self ..)
    exact latest_le hb l (max a (x.done - m)) (by omega) (by omega) fun y hy => h y (List.mem_cons_of_mem _ hy)
/-- How many are begun, run by run. -/
def begunTo (d : List Sh) : Nat → Nat
  | 0 => 0
  | r + 1 => begunTo d r + (inRuns r r d).length
theorem begunTo_eq (d : List Sh) : ∀ n, begunTo d n = d.countP fun x => decide (x.run < n)
  | 0 => by simp [begunTo]
  | n + 1 => by
    rw [begunTo, begunTo_eq d n]
    unfold inRuns
    rw [← List.countP_eq_length_filter]
    induction d with
    | nil => rfl
    | cons x d ih =>
      simp only [List.countP_cons]
      have hin : inB (x.run : Int) n n = decide (x.run = n) := by
        rw [Bool.eq_iff_iff]
        simp only [inB, Bool.and_eq_true, decide_eq_true_eq]
        omega
      by_cases h1 : x.run < n
      · have h2 : x.run ≠ n := by omega
        have h3 : x.run < n + 1 := by omega
        simp [h1, h3, hin, h2]; omega
      · by_cases h2 : x.run = n
        · have h3 : x.run < n + 1 := by omega
          rw [if_neg (by simpa using h1), if_pos (by rw [hin]; simpa using h2), if_pos (by simpa using h3)]
          omega
        · have h3 : ¬ x.run < n + 1 := by omega
          simp [h1, h3, hin, h2]
          exact ih
theorem begunTo_le (d : List Sh) (n : Nat) : begunTo d n ≤ d.length := by rw [begunTo_eq]; exact List.countP_le_length
end Go.Ag
/- Layer 4: sheep are done one after the other: the law. -/
namespace Go.Ag
open Go.Proofs
set_option maxRecDepth 100000

/-- The span of the sheep before. -/
def Last (s : Sd) (q : Nat) (l1 l2 : Int) : Prop := (q = 0 ∧ l1 = -1 ∧ l2 = -1) ∨ (0 < q ∧ IsSpan s (fun t => dn (dayOf s t) (q - 1)) (l1, l2))
theorem truth_get {s : Sd} (hd : validB s = true) {t : T3} (ht : t ∈ truths s) {k : Nat} (hk : k ≤ 2) : s.lo.get k ≤ t.get k := (combo_get (mem_truths.1 ht).1 hk).1
theorem rise {s : Sd} (hd : validB s = true) {q kk : Nat} (hk : s.sheep[q]? = some (kk : Int)) (hk2 : kk ≤ 2) {d1 d2 l1 l2 : Int} (hs : IsSpan s (fun t => dn (dayOf s t) q) (d1, d2)) (hl : Last s q l1 l2) : min 1000 (l1 + s.lo.get kk) ≤ d1 ∧ l2 ≤ d2 ∧ d1 ≤ d2 ∧ -1 ≤ l1 ∧ l1 ≤ 1000 ∧ 0 ≤ d1 ∧ d1 ≤ 1000 := by
  have chain : ∀ t ∈ truths s, min 1000 ((if q = 0 then 0 else dn (dayOf s t) (q - 1)) + t.get kk) ≤ dn (dayOf s t) q := fun t ht => by
    have := day_chain (truth_good hd ht).r s.sheep 0 0 (Nat.zero_le _) (by omega) (by omega) q kk hk
    rwa [Int.toNat_natCast] at this
  have bnd : ∀ t ∈ truths s, ∀ i, 0 ≤ dn (dayOf s t) i ∧ dn (dayOf s t) i ≤ 1000 := fun t ht i => ⟨(done_bound (truth_good hd ht) i).1, dn_le (fun x hx => by have := (day_done6 (truth_good hd ht)) x hx; omega) i⟩
  obtain ⟨⟨t1, m1, x1⟩, ⟨t2, m2, x2⟩, ha⟩ := hs
  dsimp only at x1 x2 ha
  have c1 := chain t1 m1
  have g1 := truth_get hd m1 hk2
  have b1 := bnd t1 m1 q
  have a12 := ha t2 m2
  have gp := (truth_good hd m1).takes kk
  rcases hl with ⟨rfl, rfl, rfl⟩ | ⟨hq, ⟨⟨u1, n1, y1⟩, ⟨u2, n2, y2⟩, hb⟩⟩
  · rw [if_pos rfl] at c1
    omega
  · dsimp only at y1 y2 hb
    rw [if_neg (by omega)] at c1
    have bb := hb t1 m1
    have c2 := chain u2 n2
    rw [if_neg (by omega)] at c2
    have ab := ha u2 n2
    have bq := bnd u2 n2 (q - 1)
    have bu := bnd u1 n1 (q - 1)
    have gq := (truth_good hd n2).takes kk
    omega
theorem last_next {s : Sd} {q : Nat} {d1 d2 : Int} (hs : IsSpan s (fun t => dn (dayOf s t) q) (d1, d2)) : Last s (q + 1) d1 d2 := .inr ⟨by omega, hs⟩
def loF (s : Sd) (i : Nat) : Int := match spanM s (.doneAt i) with | some p => p.1 | none => 0
def hiF (s : Sd) (i : Nat) : Int := match spanM s (.doneAt i) with | some p => p.2 | none => 0
theorem cnt_span {s : Sd} (hd : validB s = true) (hT : truths s ≠ []) {m : Int} (hm : m ≤ 999) {p1 p2 : Int} (hp : IsSpan s (fun t => Me.of (dayOf s t) (.doneBy m)) (p1, p2)) :
    (cnt (hiF s) m s.sheep.length : Int) ≤ p1 ∧ p2 ≤ (cnt (loF s) m s.sheep.length : Nat) ∧ 0 ≤ p1 ∧ p1 ≤ p2 ∧ p2 ≤ s.sheep.length := by
  have eq : ∀ t, Me.of (dayOf s t) (.doneBy m) = (cnt (dn (dayOf s t)) m s.sheep.length : Nat) := fun t => done_cnt hm _ _ (day_len s.sheep 0 0)
  have sp : ∀ t ∈ truths s, ∀ i, loF s i ≤ dn (dayOf s t) i ∧ dn (dayOf s t) i ≤ hiF s i := fun t ht i => by
    obtain ⟨p, x, ip⟩ := span_ex hT fun t => dn (dayOf s t) i
    have x : spanM s (.doneAt i) = some p := x
    unfold loF hiF
    rw [x]
    exact ip.all t ht
  obtain ⟨⟨t1, m1, x1⟩, ⟨t2, m2, x2⟩, ha⟩ := hp
  dsimp only at x1 x2 ha
  have h1 := cnt_mono (f := hiF s) (g := dn (dayOf s t1)) (m := m) s.sheep.length fun i _ hi => by have := (sp t1 m1 i).2; omega
  have h2 := cnt_mono (f := dn (dayOf s t2)) (g := loF s) (m := m) s.sheep.length fun i _ hi => by have := (sp t2 m2 i).1; omega
  have h3 := cnt_le (dn (dayOf s t2)) m s.sheep.length
  rw [eq] at x1 x2
  have h4 := ha t2 m2
  rw [eq] at h4
  omega
theorem by_mono {s : Sd} {m : Int} {p1 p2 q1 q2 : Int} (hp : IsSpan s (fun t => Me.of (dayOf s t) (.doneBy m)) (p1, p2)) (hq : IsSpan s (fun t => Me.of (dayOf s t) (.doneBy (m + 1))) (q1, q2)) : p1 ≤ q1 ∧ p2 ≤ q2 := by
  have mono : ∀ d : List Sh, Me.of d (.doneBy m) ≤ Me.of d (.doneBy (m + 1)) := fun d => by
    have : (d.countP fun x => decide (x.done ≤ m)) ≤ d.countP fun x => decide (x.done ≤ m + 1) := List.countP_mono_left fun x _ hx => by
      simp only [decide_eq_true_eq] at hx ⊢; omega
    simp only [Me.of]
    omega
  obtain ⟨⟨t1, m1, x1⟩, ⟨t2, m2, x2⟩, ha⟩ := hp
  obtain ⟨⟨u1, n1, y1⟩, ⟨u2, n2, y2⟩, hb⟩ := hq
  dsimp only at x1 x2 ha y1 y2 hb
  have a1 := ha u1 n1
  have a2 := hb t2 m2
  have c1 := mono (dayOf s u1)
  have c2 := mono (dayOf s t2)
  omega
/-- Of a run: how many are begun, and how long after the bell. -/
theorem run_facts {s : Sd} (hd : validB s = true) {r : Nat} {x : Ru} (hx : s.runs[r]? = some x) {b1 b2 o1 o2 : Int} (hb : IsSpan s (fun t => Me.of (dayOf s t) (.begun r r)) (b1, b2)) (ho : IsSpan s (fun t => Me.of (dayOf s t) (.past r r x.bell)) (o1, o2)) :
    0 ≤ b1 ∧ b1 ≤ b2 ∧ b2 ≤ x.bell - x.start ∧ 0 ≤ o1 ∧ o1 ≤ o2 ∧ o2 < 40 := by
  have hvr := valid_run hd hx
  obtain ⟨⟨t1, m1, x1⟩, ⟨t2, m2, x2⟩, ha⟩ := hb
  obtain ⟨⟨u1, n1, y1⟩, ⟨u2, n2, y2⟩, hb⟩ := ho
  dsimp only at x1 x2 ha y1 y2 hb
  have r2 := day_room (truth_good hd m2).r hx s.sheep 0 0 (Nat.zero_le _) (Int.le_refl _)
  have a1 := ha t2 m2
  have b1' := hb u2 n2
  have e1 : 0 ≤ Me.of (dayOf s t1) (.begun r r) := by simp only [Me.of]; omega
  have e2 : Me.of (dayOf s t2) (.begun r r) = ((inRuns r r (dayF s.runs t2 s.sheep 0 0)).length : Nat) := rfl
  have l1 := latest_le (m := x.bell) (b := 39) (by omega) (inRuns r r (dayOf s u1)) 0 (by omega) (by omega) fun y hy => by have := day_over (truth_good hd n1).r hx s.sheep 0 0 (Nat.zero_le _) (Int.le_refl _) y hy; omega
  have l2 := latest_le (m := x.bell) (b := 39) (by omega) (inRuns r r (dayOf s u2)) 0 (by omega) (by omega) fun y hy => by have := day_over (truth_good hd n2).r hx s.sheep 0 0 (Nat.zero_le _) (Int.le_refl _) y hy; omega
  have f1 : Me.of (dayOf s u1) (.past r r x.bell) = (inRuns r r (dayOf s u1)).foldl (fun m' y => max m' (y.done - x.bell)) 0 := rfl
  have f2 : Me.of (dayOf s u2) (.past r r x.bell) = (inRuns r r (dayOf s u2)).foldl (fun m' y => max m' (y.done - x.bell)) 0 := rfl
  omega

theorem wOps_opaque {P : Program} {hm : Bool} {ops : Array Oper} {l : List Nat} {s : ASt} {K : AExit → ASt → Prop} (h : ∀ K', K' = K → wOps P hm ops l s K') : wOps P hm ops l s K := h K rfl
/-- A loop by its measure; what comes behind it stays out of sight in its rounds. -/
theorem loop_op {P : Program} {c : Code} {K : AExit → ASt → Prop} (I : Nat → ASt → Prop) (step : ∀ k s, I k s → ∀ K', K' = K → T P (.code c) s fun e s1 => match e with | .normal => ∃ j, j < k ∧ I j s1 | e => K' e s1) {k : Nat} {s : ASt} (h : I k s) : LoopW P c s K :=
  loop_by I (fun k s hi => step k s hi K rfl) h

set_option maxHeartbeats 4000000 in
theorem rises_ret {v : SV} {s : Sd} (hv : v.Is s) (hA : Ret Try.prog 13 [] (B true)) (w : Nat) (hw : w < 65536) : Ret Try.prog 8 [v.cv, .lit (.int .u16 w)] (B true) := by
  have e1 := hv.kn; have e2 := hv.short; have e3 := hv.rn; have e4 := hv.lo
  have g0 : s.lo.get 0 = v.lo.a := by rw [e4]; rfl
  have g1 : s.lo.get 1 = v.lo.b := by rw [e4]; rfl
  have g2 : s.lo.get 2 = v.lo.c := by rw [e4]; rfl
  refine ret_by (hm := false) Try.func8 rfl ?_
  conv => whnf
  refine ⟨v.blk, rfl, ?_⟩
  conv => whnf
  refine .ret (fine_ret hv) rfl ?_
  conv => whnf
  cases hd : validB s
  · conv => whnf
    refine .ret hA rfl ?_
    conv => whnf
    exact .val
  conv => whnf
  refine ⟨by omega, ((w % 999 : Nat) : Int), rem_nat16 hw 999, ?_⟩
  conv => whnf
  obtain ⟨mn, hmn, hm9⟩ : ∃ mn, w % 999 = mn ∧ mn ≤ 998 := ⟨_, rfl, by have := Nat.mod_lt w (show 0 < 999 by omega); omega⟩
  rw [hmn]
  have hc1 := count_ret hv mn
  have hc2 := count_ret hv ((mn : Int) + 1)
  rw [show inB (mn : Int) 0 999 = true by simp [inB]; omega] at hc1
  rw [show inB ((mn : Int) + 1) 0 999 = true by simp [inB]; omega] at hc2
  by_cases hT : truths s = []
  · rw [show spanM s (.doneBy mn) = none from span_none.2 hT, spR_no hd] at hc1
    rw [show spanM s (.doneBy ((mn : Int) + 1)) = none from span_none.2 hT, spR_no hd] at hc2
    dsimp only [spV] at hc1 hc2
    refine ⟨v.blk, rfl, ?_⟩
    conv => whnf
    refine .ret hc1 rfl ?_
    conv => whnf
    refine ⟨_, at_push_self _ _, ?_⟩
    conv => whnf
    refine ⟨v.blk, rfl, ?_⟩
    conv => whnf
    refine ⟨(mn : Int) + 1, by rw [wrap_eq (by omega) (by omega)], ?_⟩
    conv => whnf
    refine .ret hc2 rfl ?_
    conv => whnf
    refine ⟨_, at_push_self _ _, ?_⟩
    conv => whnf
    refine ⟨_, rfl, ?_⟩
    conv => whnf
    refine ⟨_, span_eql rfl rfl rfl _ _, ?_⟩
    conv => whnf
    refine .ret hA rfl ?_
    conv => whnf
    exact .val
  obtain ⟨p, x1, ip⟩ := span_ex hT fun t => Me.of (dayOf s t) (.doneBy mn)
  obtain ⟨m, x2, im⟩ := span_ex hT fun t => Me.of (dayOf s t) (.doneBy ((mn : Int) + 1))
  rw [show spanM s (.doneBy mn) = some p from x1, spR_ok hd] at hc1
  rw [show spanM s (.doneBy ((mn : Int) + 1)) = some m from x2, spR_ok hd] at hc2
  obtain ⟨p1, p2⟩ := p
  obtain ⟨m1, m2⟩ := m
  obtain ⟨c1, c2, c3, c4, c5⟩ := cnt_span hd hT (m := mn) (by omega) ip
  obtain ⟨c6, c7⟩ := by_mono ip im
  dsimp only [spV] at hc1 hc2
  refine ⟨v.blk, rfl, ?_⟩
  conv => whnf
  refine .ret hc1 rfl ?_
  conv => whnf
  refine ⟨_, at_push_self _ _, ?_⟩
  conv => whnf
  refine ⟨v.blk, rfl, ?_⟩
  conv => whnf
  refine ⟨(mn : Int) + 1, by rw [wrap_eq (by omega) (by omega)], ?_⟩
  conv => whnf
  refine .ret hc2 rfl ?_
  conv => whnf
  refine ⟨_, at_push_self _ _, ?_⟩
  conv => whnf
  refine ⟨.blk [.c (I p1), .c (I p2)], (at_old _ _ _ (show 1 < 2 by omega)).trans (at_new _ _ _), ?_⟩
  conv => whnf
  refine ⟨.blk [.c (I p1), .c (I p2)], (at_old _ _ _ (show 1 < 2 by omega)).trans (at_new _ _ _), ?_⟩
  conv => whnf
  rw [show decide (p1 > p2) = false by simp; omega]
  conv => whnf
  refine ⟨.blk [.c (I m1), .c (I m2)], at_new _ _ _, ?_⟩
  conv => whnf
  refine ⟨.blk [.c (I p1), .c (I p2)], (at_old _ _ _ (show 1 < 2 by omega)).trans (at_new _ _ _), ?_⟩
  conv => whnf
  rw [show decide (m1 < p1) = false by simp; omega]
  conv => whnf
  refine ⟨.blk [.c (I m1), .c (I m2)], at_new _ _ _, ?_⟩
  conv => whnf
  refine ⟨.blk [.c (I p1), .c (I p2)], (at_old _ _ _ (show 1 < 2 by omega)).trans (at_new _ _ _), ?_⟩
  conv => whnf
  rw [show decide (m2 < p2) = false by simp; omega]
  conv => whnf
  refine ⟨.blk [.c (I p1), .c (I p2)], (at_old _ _ _ (show 1 < 2 by omega)).trans (at_new _ _ _), ?_⟩
  conv => whnf
  rw [show decide (p1 < 0) = false by simp; omega]
  conv => whnf
  refine ⟨.blk [.c (I p1), .c (I p2)], (at_old _ _ _ (show 1 < 2 by omega)).trans (at_new _ _ _), ?_⟩
  conv => whnf
  refine ⟨v.blk, (at_old _ _ _ (show 0 < 2 by omega)).trans ((at_old _ _ _ (show 0 < 1 by omega)).trans (at_push_self _ _)), ?_⟩
  conv => whnf
  rw [show decide (p2 > (v.kn : Int)) = false by simp; omega]
  conv => whnf
  refine .ret (mkspan_ret _ _) rfl ?_
  conv => whnf
  refine ⟨_, at_push_self _ _, ?_⟩
  conv => whnf
  refine ⟨v.blk, (at_old _ _ _ (show 0 < 3 by omega)).trans ((at_old _ _ _ (show 0 < 2 by omega)).trans ((at_old _ _ _ (show 0 < 1 by omega)).trans (at_push_self _ _))), ?_⟩
  conv => whnf
  refine loop_by (I := fun n st => ∃ (q : Nat) (h : Heap) (l1 l2 : Int), q ≤ s.sheep.length ∧ n = s.sheep.length - q ∧ Heap.at h 0 = v.blk ∧ Heap.at h 1 = .blk [.c (I p1), .c (I p2)] ∧ Heap.at h 3 = .blk [.c (I l1), .c (I l2)] ∧ 3 < h.n ∧ Last s q l1 l2 ∧
    Has st 240 [(2, .ptr 0 0), (5, .c (I mn)), (6, .ptr 1 0), (10, .c (I (cnt (hiF s) mn q))), (11, .c (I (cnt (loF s) mn q))), (12, .ptr 3 0), (93, .c (.sl v.kc v.ko v.kn)), (94, .c (I v.kn)), (95, .c (I q))] [] none h) ?_ (k := s.sheep.length)
    ⟨0, _, -1, -1, Nat.zero_le _, rfl, (at_old _ _ _ (show 0 < 3 by omega)).trans ((at_old _ _ _ (show 0 < 2 by omega)).trans ((at_old _ _ _ (show 0 < 1 by omega)).trans (at_push_self _ _))), (at_old _ _ _ (show 1 < 3 by omega)).trans ((at_old _ _ _ (show 1 < 2 by omega)).trans (at_new _ _ _)), at_new _ _ _, by show 3 < 4; omega, .inl ⟨rfl, rfl, rfl⟩, rfl, ⟨rfl, rfl, rfl, rfl, rfl, rfl, rfl, rfl, rfl, trivial⟩, rfl, rfl, rfl, rfl⟩
  · rintro n st ⟨q, h, l1, l2, hq, rfl, h0, h1, h3, hn, hl, hs1⟩
    refine hs1.run (hm := false) ?_
    conv => whnf
    cases hc : decide ((q : Int) < (v.kn : Int))
    case true =>
      have hq : q < s.sheep.length := by simp at hc; omega
      obtain ⟨k, hk⟩ := get_some hq
      have hkb : 0 ≤ k ∧ k ≤ 2 := by
        have hd2 := hd
        simp only [validB, Bool.and_eq_true] at hd2
        have := List.all_eq_true.1 hd2.2.2.1.2 k (List.mem_of_getElem? hk)
        simpa [inB] using this
      obtain ⟨kk, rfl⟩ : ∃ kk : Nat, k = kk := ⟨k.toNat, by omega⟩
      have hdn := done_ret hv q
      rw [show inB (q : Int) 0 (s.sheep.length - 1) = true by simp [inB]; omega, Int.toNat_natCast] at hdn
      obtain ⟨d, xd, id'⟩ := span_ex hT fun t => dn (dayOf s t) q
      have xd : spanM s (.doneAt q) = some d := xd
      rw [xd, spR_ok hd] at hdn
      obtain ⟨d1, d2⟩ := d
      have hhi : hiF s q = d2 := by unfold hiF; rw [xd]
      have hlo : loF s q = d1 := by unfold loF; rw [xd]
      have hrise := rise hd hk (by omega) id' hl
      have n1 := cnt_succ (hiF s) mn q
      have n2 := cnt_succ (loF s) mn q
      have n3 := cnt_le (hiF s) mn q
      have n4 := cnt_le (loF s) mn q
      rw [hhi] at n1
      rw [hlo] at n2
      dsimp only [spV] at hdn
      conv => whnf
      refine ⟨⟨by omega, by omega⟩, ?_⟩
      conv => whnf
      refine ⟨_, hv.kind hk, ?_⟩
      conv => whnf
      refine ⟨_, h0, ?_⟩
      conv => whnf
      refine .ret hdn rfl ?_
      conv => whnf
      refine ⟨_, at_push_self _ _, ?_⟩
      conv => whnf
      have b3 : ∀ y z : AB, Heap.at ((h.push .dead y).set .dead h.n z) 3 = .blk [.c (I l1), .c (I l2)] := fun y z => (at_old _ _ _ hn).trans h3
      have b0 : ∀ y z : AB, Heap.at ((h.push .dead y).set .dead h.n z) 0 = v.blk := fun y z => (at_old _ _ _ (by omega)).trans h0
      have b1 : ∀ y z : AB, Heap.at ((h.push .dead y).set .dead h.n z) 1 = .blk [.c (I p1), .c (I p2)] := fun y z => (at_old _ _ _ (by omega)).trans h1
      have hlk : -1000 ≤ s.lo.get kk ∧ s.lo.get kk ≤ 40 := by
        obtain ⟨t, ht, _⟩ := ip.lo
        have := truth_get hd ht (k := kk) (by omega)
        have := (truth_good hd ht).takes kk
        have := (combos_narrow hd kk).1
        omega
      obtain rfl | rfl | rfl : kk = 0 ∨ kk = 1 ∨ kk = 2 := by omega
      all_goals
        refine draw_by (hm := false) (by kernel_rfl) (by kernel_rfl) ?_
        conv => whnf
        refine ⟨_, at_new _ _ _, ?_⟩
        conv => whnf
        refine ⟨_, at_new _ _ _, ?_⟩
        conv => whnf
        rw [show decide (d1 > d2) = false by simp; omega]
        conv => whnf
        refine ⟨_, at_new _ _ _, ?_⟩
        conv => whnf
        refine ⟨_, b3 _ _, ?_⟩
        conv => whnf
        refine ⟨by decide, ?_⟩
        conv => whnf
        refine ⟨_, b0 _ _, ?_⟩
        conv => whnf
        refine ⟨_, by rw [wrap_eq (by omega) (by omega)], ?_⟩
        conv => whnf
        rw [show ∀ z : Int, z ≤ d1 → decide (d1 < z) = false from fun z hz => by simp; omega]
        rotate_left
        · omega
        conv => whnf
        refine ⟨_, at_new _ _ _, ?_⟩
        conv => whnf
        refine ⟨_, b3 _ _, ?_⟩
        conv => whnf
        rw [show decide (d2 < l2) = false by simp; omega]
        conv => whnf
        refine ⟨by kernel_rfl, ?_⟩
        conv => whnf
        refine ⟨_, at_new _ _ _, ?_⟩
        conv => whnf
        cases x1' : decide (d2 ≤ (mn : Int))
        · rw [if_neg (by simpa using x1')] at n1
          conv => whnf
          refine ⟨_, at_new _ _ _, ?_⟩
          conv => whnf
          cases x2' : decide (d1 ≤ (mn : Int))
          · rw [if_neg (by simpa using x2')] at n2
            conv => whnf
            refine ⟨_, at_new _ _ _, ?_⟩
            conv => whnf
            refine ⟨_, b3 _ _, ?_⟩
            conv => whnf
            refine ⟨((q + 1 : Nat) : Int), by rw [wrap_eq (by omega) (by omega)]; omega, ?_⟩
            conv => whnf
            exact ⟨s.sheep.length - (q + 1), by omega, q + 1, _, d1, d2, by omega, rfl, (at_set_ne _ _ (by decide)).trans (b0 _ _), (at_set_ne _ _ (by decide)).trans (b1 _ _), at_set_self _ _ (by rw [new_n]; omega), by rw [TMap.set_n, new_n]; omega, last_next id', rfl, ⟨rfl, rfl, rfl, by rw [show cnt (hiF s) mn (q + 1) = cnt (hiF s) mn q by omega]; rfl, by rw [show cnt (loF s) mn (q + 1) = cnt (loF s) mn q by omega]; rfl, rfl, rfl, rfl, rfl, trivial⟩, rfl, rfl, rfl, rfl⟩
          · rw [if_pos (by simpa using x2')] at n2
            conv => whnf
            refine ⟨((cnt (loF s) mn (q + 1) : Nat) : Int), by rw [wrap_eq (by omega) (by omega)]; omega, ?_⟩
            conv => whnf
            refine ⟨_, at_new _ _ _, ?_⟩
            conv => whnf
            refine ⟨_, b3 _ _, ?_⟩
            conv => whnf
            refine ⟨((q + 1 : Nat) : Int), by rw [wrap_eq (by omega) (by omega)]; omega, ?_⟩
            conv => whnf
            exact ⟨s.sheep.length - (q + 1), by omega, q + 1, _, d1, d2, by omega, rfl, (at_set_ne _ _ (by decide)).trans (b0 _ _), (at_set_ne _ _ (by decide)).trans (b1 _ _), at_set_self _ _ (by rw [new_n]; omega), by rw [TMap.set_n, new_n]; omega, last_next id', rfl, ⟨rfl, rfl, rfl, by rw [show cnt (hiF s) mn (q + 1) = cnt (hiF s) mn q by omega]; rfl, rfl, rfl, rfl, rfl, rfl, trivial⟩, rfl, rfl, rfl, rfl⟩
        · rw [if_pos (by simpa using x1')] at n1
          conv => whnf
          refine ⟨((cnt (hiF s) mn (q + 1) : Nat) : Int), by rw [wrap_eq (by omega) (by omega)]; omega, ?_⟩
          conv => whnf
          refine ⟨_, at_new _ _ _, ?_⟩
          conv => whnf
          cases x2' : decide (d1 ≤ (mn : Int))
          · rw [if_neg (by simpa using x2')] at n2
            conv => whnf
            refine ⟨_, at_new _ _ _, ?_⟩
            conv => whnf
            refine ⟨_, b3 _ _, ?_⟩
            conv => whnf
            refine ⟨((q + 1 : Nat) : Int), by rw [wrap_eq (by omega) (by omega)]; omega, ?_⟩
            conv => whnf
            exact ⟨s.sheep.length - (q + 1), by omega, q + 1, _, d1, d2, by omega, rfl, (at_set_ne _ _ (by decide)).trans (b0 _ _), (at_set_ne _ _ (by decide)).trans (b1 _ _), at_set_self _ _ (by rw [new_n]; omega), by rw [TMap.set_n, new_n]; omega, last_next id', rfl, ⟨rfl, rfl, rfl, rfl, by rw [show cnt (loF s) mn (q + 1) = cnt (loF s) mn q by omega]; rfl, rfl, rfl, rfl, rfl, trivial⟩, rfl, rfl, rfl, rfl⟩
          · rw [if_pos (by simpa using x2')] at n2
            conv => whnf
            refine ⟨((cnt (loF s) mn (q + 1) : Nat) : Int), by rw [wrap_eq (by omega) (by omega)]; omega, ?_⟩
            conv => whnf
            refine ⟨_, at_new _ _ _, ?_⟩
            conv => whnf
            refine ⟨_, b3 _ _, ?_⟩
            conv => whnf
            refine ⟨((q + 1 : Nat) : Int), by rw [wrap_eq (by omega) (by omega)]; omega, ?_⟩
            conv => whnf
            exact ⟨s.sheep.length - (q + 1), by omega, q + 1, _, d1, d2, by omega, rfl, (at_set_ne _ _ (by decide)).trans (b0 _ _), (at_set_ne _ _ (by decide)).trans (b1 _ _), at_set_self _ _ (by rw [new_n]; omega), by rw [TMap.set_n, new_n]; omega, last_next id', rfl, ⟨rfl, rfl, rfl, rfl, rfl, rfl, rfl, rfl, rfl, trivial⟩, rfl, rfl, rfl, rfl⟩
    have hqq : q = s.sheep.length := by simp at hc; omega
    subst hqq
    conv => whnf
    refine ⟨_, h0, ?_⟩
    conv => whnf
    generalize cnt (hiF s) (mn : Int) s.sheep.length = C1 at c1
    generalize cnt (loF s) (mn : Int) s.sheep.length = C2 at c2
    refine loop_op (I := fun n st => ∃ (q : Nat) (h : Heap) (low : Int), q ≤ s.runs.length ∧ n = s.runs.length - q ∧ Heap.at h 0 = v.blk ∧ Heap.at h 1 = .blk [.c (I p1), .c (I p2)] ∧ 1 < h.n ∧ 0 ≤ low ∧ (∀ t ∈ truths s, low ≤ (begunTo (dayOf s t) q : Nat)) ∧
      Has st 240 [(2, .ptr 0 0), (6, .ptr 1 0), (10, .c (I C1)), (11, .c (I C2)), (17, .c (I low)), (151, .c (.sl v.rc v.ro v.rn)), (152, .c (I v.rn)), (153, .c (I q))] [] none h) ?_ (k := s.runs.length)
      ⟨0, _, 0, Nat.zero_le _, rfl, h0, h1, by omega, Int.le_refl _, fun t _ => Int.le_refl _, rfl, ⟨rfl, rfl, rfl, rfl, rfl, rfl, rfl, rfl, trivial⟩, rfl, rfl, rfl, rfl⟩
    clear hs1 hl h3 h0 h1 hn hc hq
    rintro n st ⟨q, h, low, hq, rfl, h0, h1, hn, hl0, hlow, hs1⟩ K' hK'
    refine hs1.run (hm := false) ?_
    conv => whnf
    cases hc : decide ((q : Int) < (v.rn : Int))
    case true =>
      have hq : q < s.runs.length := by simp at hc; omega
      obtain ⟨x, hx⟩ := get_some hq
      have hb := begun_all hv q
      have ho := over_ret hv q
      have hbell : bellOf s q = x.bell := by unfold bellOf; rw [hx]
      rw [show inB (q : Int) 0 (s.runs.length - 1) = true by simp [inB]; omega] at hb ho
      rw [Int.toNat_natCast, hbell] at ho
      obtain ⟨b, xb, ib⟩ := span_ex hT fun t => Me.of (dayOf s t) (.begun q q)
      obtain ⟨o, xo, io⟩ := span_ex hT fun t => Me.of (dayOf s t) (.past q q x.bell)
      rw [show spanM s (.begun q q) = some b from xb, spR_ok hd] at hb
      rw [show spanM s (.past q q x.bell) = some o from xo, spR_ok hd] at ho
      obtain ⟨b1, b2⟩ := b
      obtain ⟨o1, o2⟩ := o
      have hrf := run_facts hd hx ib io
      have hvr := valid_run hd hx
      have hlow2 : ∀ t ∈ truths s, low + b1 ≤ (begunTo (dayOf s t) (q + 1) : Nat) := fun t ht => by
        have h1 := hlow t ht
        have h2 := (ib.all t ht).1
        have h3 : Me.of (dayOf s t) (.begun q q) = ((inRuns q q (dayOf s t)).length : Nat) := rfl
        dsimp only at h2
        simp only [begunTo]
        omega
      have hl2 : low + b1 ≤ 40 := by
        obtain ⟨t, ht, _⟩ := ip.lo
        have h1 := hlow2 t ht
        have h2 := begunTo_le (dayOf s t) (q + 1)
        have h3 : (dayOf s t).length ≤ s.sheep.length := day_len s.sheep 0 0
        omega
      dsimp only [spV] at hb ho
      have i1 : (q : Int) < (v.rn : Int) := by simpa using hc
      have i2 : (0 : Int) ≤ (q : Int) := Int.natCast_nonneg q
      conv => whnf
      refine ⟨⟨i2, i1⟩, ?_⟩
      conv => whnf
      refine ⟨.agg (rowRu x), hv.run hx, ?_⟩
      rw [fin_eq]
      refine wOps_opaque fun KK hKK => ?_
      conv => whnf
      refine ⟨_, at_push_self _ _, ?_⟩
      conv => whnf
      subst hKK
      have b0 : ∀ y z : AB, Heap.at ((h.push .dead y).set .dead h.n z) 0 = v.blk := fun y z => (at_old _ _ _ (by omega)).trans h0
      have b1' : ∀ y z : AB, Heap.at ((h.push .dead y).set .dead h.n z) 1 = .blk [.c (I p1), .c (I p2)] := fun y z => (at_old _ _ _ (by omega)).trans h1
      conv => whnf
      refine ⟨_, b0 _ _, ?_⟩
      conv => whnf
      refine .ret hb rfl ?_
      conv => whnf
      refine ⟨_, at_push_self _ _, ?_⟩
      conv => whnf
      refine ⟨_, (at_old _ _ _ (by simp only [new_n]; omega)).trans (b0 _ _), ?_⟩
      conv => whnf
      refine .ret ho rfl ?_
      conv => whnf
      refine ⟨_, at_push_self _ _, ?_⟩
      conv => whnf
      refine ⟨_, (at_old _ _ _ (Nat.lt_succ_self _)).trans (at_new _ _ _), ?_⟩
      conv => whnf
      rw [show decide (b1 < 0) = false by simp; omega]
      conv => whnf
      refine ⟨_, (at_old _ _ _ (Nat.lt_succ_self _)).trans (at_new _ _ _), ?_⟩
      conv => whnf
      refine ⟨_, (at_old _ _ _ (Nat.lt_succ_self _)).trans (at_new _ _ _), ?_⟩
      conv => whnf
      rw [show decide (b1 > b2) = false by simp; omega]
      conv => whnf
      refine ⟨_, (at_old _ _ _ (Nat.lt_succ_self _)).trans (at_new _ _ _), ?_⟩
      conv => whnf
      refine ⟨_, (at_old _ _ _ (show h.n < h.n + 2 by omega)).trans ((at_old _ _ _ (Nat.lt_succ_self h.n)).trans (at_new _ _ _)), ?_⟩
      conv => whnf
      refine ⟨_, (at_old _ _ _ (show h.n < h.n + 2 by omega)).trans ((at_old _ _ _ (Nat.lt_succ_self h.n)).trans (at_new _ _ _)), ?_⟩
      conv => whnf
      refine ⟨x.bell - x.start, by rw [wrap_eq (by omega) (by omega)], ?_⟩
      conv => whnf
      rw [show decide (b2 > x.bell - x.start) = false by simp; omega]
      conv => whnf
      refine ⟨_, at_new _ _ _, ?_⟩
      conv => whnf
      rw [show decide (o1 < 0) = false by simp; omega]
      conv => whnf
      refine ⟨_, at_new _ _ _, ?_⟩
      conv => whnf
      refine ⟨_, at_new _ _ _, ?_⟩
      conv => whnf
      rw [show decide (o1 > o2) = false by simp; omega]
      conv => whnf
      refine ⟨_, at_new _ _ _, ?_⟩
      conv => whnf
      rw [show decide (o2 ≥ 40) = false by simp; omega]
      conv => whnf
      refine ⟨_, (at_old _ _ _ (Nat.lt_succ_self _)).trans (at_new _ _ _), ?_⟩
      conv => whnf
      refine ⟨low + b1, by rw [wrap_eq (by omega) (by omega)], ?_⟩
      conv => whnf
      refine ⟨((q + 1 : Nat) : Int), by rw [wrap_eq (by omega) (by omega)]; omega, ?_⟩
      conv => whnf
      exact ⟨s.runs.length - (q + 1), by omega, q + 1, _, low + b1, by omega, rfl, (at_old _ _ _ (show 0 < h.n + 2 by omega)).trans ((at_old _ _ _ (show 0 < h.n + 1 by omega)).trans (b0 _ _)), (at_old _ _ _ (show 1 < h.n + 2 by omega)).trans ((at_old _ _ _ (show 1 < h.n + 1 by omega)).trans (b1' _ _)), by show 1 < h.n + 3; omega, by omega, hlow2, rfl, ⟨rfl, rfl, rfl, rfl, rfl, rfl, rfl, rfl, trivial⟩, rfl, rfl, rfl, rfl⟩
    have hqq : q = s.runs.length := by simp at hc; omega
    have hlow3 : low ≤ (s.sheep.length : Nat) := by
      obtain ⟨t, ht, _⟩ := ip.lo
      have h1 := hlow t ht
      have h2 := begunTo_le (dayOf s t) q
      have h3 : (dayOf s t).length ≤ s.sheep.length := day_len s.sheep 0 0
      omega
    subst hK'
    conv => whnf
    refine ⟨_, h1, ?_⟩
    conv => whnf
    rw [show decide (p1 ≥ (C1 : Int)) = true by simp; omega]
    conv => whnf
    refine ⟨_, h1, ?_⟩
    conv => whnf
    rw [show decide (p2 ≤ (C2 : Int)) = true by simp; omega]
    conv => whnf
    refine ⟨_, h0, ?_⟩
    conv => whnf
    rw [show decide (low ≤ (v.kn : Int)) = true by simp; omega]
    conv => whnf
    refine .ret hA rfl ?_
    conv => whnf
    exact .val
end Go.Ag
