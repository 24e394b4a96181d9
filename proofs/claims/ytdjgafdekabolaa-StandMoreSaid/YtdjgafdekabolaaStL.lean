/- Statement by statement; stands of which more is known: what is told of them is narrower; stands of one's own as arguments. No conditions. -/
import Derived.Test.YtdjgafdekabolaaStI
/- Statement by statement: what follows is kept out of the way. -/
namespace Go.Ag

/-- What code comes to; what it is not looked into. -/
inductive Then (P : Program) (c : Code) (s : ASt) (K : AExit → ASt → Prop) : Prop
  | mk (h : T P (.code c) s K)

section
variable {P : Program}

theorem then_seq {hm : Bool} {a b : Code} {s : ASt} {K : AExit → ASt → Prop} (h : wCode P hm a s fun e s1 => match e with | .normal => Then P b s1 K | e => K e s1) : Then P (.seq a b) s K := by
  refine ⟨T_seq ((wCode_ok a s _ h).mono ?_)⟩
  intro e s1 h
  cases e with
  | normal => exact h.1
  | exit i => exact h
  | ret => exact h
  | panic v => exact h
/-- All that matters behind a statement. -/
theorem then_via {hm : Bool} {a b : Code} {s : ASt} {K : AExit → ASt → Prop} (A : ASt → Prop) (h : wCode P hm a s fun e s1 => match e with | .normal => A s1 | e => K e s1) (k : ∀ s1, A s1 → Then P b s1 K) : Then P (.seq a b) s K := by
  refine ⟨T_seq ((wCode_ok a s _ h).mono ?_)⟩
  intro e s1 h
  cases e with
  | normal => exact (k s1 h).1
  | exit i => exact h
  | ret => exact h
  | panic v => exact h
theorem then_end {hm : Bool} {c : Code} {s : ASt} {K : AExit → ASt → Prop} (h : wCode P hm c s K) : Then P c s K := ⟨wCode_ok c s K h⟩
theorem Has.then {s : ASt} {n : Nat} {l : List (Tmp × AV)} {ds : List ADef} {rd : Option Nat} {h : Heap} (hs : Has s n l ds rd h) {c : Code} {K : AExit → ASt → Prop} (hk : knownK n l fun t => Then P c ⟨t, ds, .no, rd, h⟩ K) : Then P c s K := by
  rw [knownK_eq] at hk
  exact ⟨hk.1.weak hs.weak⟩
theorem call_thenP {hm : Bool} {f : FuncId} {fn : Func} {body : Code} {args : List AV} {h : Heap} {pan : Pan} {Q : AEnd → Heap → Pan → Prop} (hf : P.funcs[f]? = some fn) (hb : fn.body = some body)
    (hw : initK args (fn.ntmps - args.length) fun t => Then P body ⟨t, [], pan, none, h⟩ (fun e s => endP hm P fn Q e s)) : ∃ e h' p', CallOk P f args h pan e h' p' ∧ Q e h' p' := by
  rw [initK_eq] at hw
  obtain ⟨⟨e, s1, h1, h3⟩⟩ := hw
  unfold endP at h3
  split at h3
  · exact h3.elim
  rename_i mode hmode
  obtain ⟨mode', h2, hd, h4⟩ := defW_ok h3
  have ok := ok_call hf hb h1 hmode hd
  cases mode' with
  | none =>
    obtain ⟨vs, hv, h5⟩ := resK_ok h4
    refine ⟨.ret (oneOf vs), h2, s1.pan, ok.1 _ rfl ?_, h5⟩
    rw [← readResultsF_eq]
    unfold readResultsF oneOf
    rw [hv]
    cases vs with
    | nil => rfl
    | cons a l => cases l <;> rfl
  | some v => exact ⟨.panic v, h2, s1.pan, ok.2 v rfl, h4⟩
theorem call_then {hm : Bool} {f : FuncId} {fn : Func} {body : Code} {args : List AV} {h : Heap} {Q : AEnd → Heap → Prop} (hf : P.funcs[f]? = some fn) (hb : fn.body = some body)
    (hw : initK args (fn.ntmps - args.length) fun t => Then P body ⟨t, [], .no, none, h⟩ (fun e s => endW hm P fn Q e s)) : ∃ e h', CallOk P f args h .no e h' .no ∧ Q e h' := by
  obtain ⟨e, h', p', h1, h2⟩ := call_thenP hf hb hw
  unfold noPan at h2
  split at h2
  · exact ⟨e, h', h1, h2⟩
  · exact h2.elim
theorem ret_then {hm : Bool} {f : FuncId} {fn : Func} {body : Code} {args : List CV} {v : CV} (hf : P.funcs[f]? = some fn) (hb : fn.body = some body)
    (hw : initK (args.map .c) (fn.ntmps - (args.map AV.c).length) fun t => Then P body ⟨t, [], .no, none, TMap.nil⟩ (fun e s => endW hm P fn (fun e h' => retW v e h') e s)) : Ret P f args v := by
  obtain ⟨e, h', h1, h2⟩ := call_then hf hb hw
  cases e with
  | panic _ => exact h2.elim
  | ret u =>
    obtain ⟨fuel, ids, h3⟩ := (h2 : RetW v u h')
    exact callOk_close h1 (r := (v, ids)) h3
end

/-- An append in a region that draws: what follows sees the heap as it is named. -/
theorem dgot {P : Program} {hm : Bool} {ops : Array Oper} {rest : List Nat} {tmps : TMap AV} {ds : List ADef} {p : Pan} {rd : Option Nat} {h : Heap} {o : Oper} {i : Nat} {l : List DRec} {K : List DRec → ASt → Prop} {X : Option SOut} {r : SOut} {H : Heap}
    (hX : X = some r) (hb : r.upds.all (fun p => decide (p.1 < h.n)) = true) (hH : (Heap.upd h r.upds).app .dead r.fresh.toList = H)
    (k : putK tmps o.dst r.val fun t => dOps P hm ops rest ⟨t, ds, p, rd, H⟩ (⟨i, o.dst, o.looksAt ops, r.val, r.reads, r.upds, r.fresh, h.n, none⟩ :: l) K) :
    Got X fun r => Both (r.upds.all (fun p => decide (p.1 < h.n)) = true) (dOps P hm ops rest ((ASt.mk tmps ds p rd h).apply o.dst r) (⟨i, o.dst, o.looksAt ops, r.val, r.reads, r.upds, r.fresh, h.n, none⟩ :: l) K) := by
  rw [putK_eq] at k
  refine ⟨r, hX, hb, ?_⟩
  unfold ASt.apply
  dsimp only
  rw [hH]
  cases hd : o.dst with
  | none => rw [hd] at k; exact k
  | some d => rw [hd] at k; exact k
end Go.Ag
/- Layer 4: with what is known better nothing is wider. -/
namespace Go.Ag
open Go.Proofs
set_option maxRecDepth 100000

/-- The same day, and no more truths. -/
structure Sub (v s : Sd) : Prop where
  runs : v.runs = s.runs
  sheep : v.sheep = s.sheep
  sub : ∀ t ∈ truths v, t ∈ truths s
theorem Sub.day {v s : Sd} (h : Sub v s) (t : T3) : dayOf v t = dayOf s t := by unfold dayOf; rw [h.runs, h.sheep]
theorem Sub.none {v s : Sd} (h : Sub v s) (hs : truths s = []) : truths v = [] := by
  rw [List.eq_nil_iff_forall_not_mem]
  intro t ht
  have := h.sub t ht
  rw [hs] at this
  cases this
theorem Sub.span {v s : Sd} (h : Sub v s) {f g : T3 → Int} (hfg : ∀ t, f t = g t) {c a : Int × Int} (hc : IsSpan v f c) (ha : IsSpan s g a) : a.1 ≤ c.1 ∧ c.2 ≤ a.2 := by
  obtain ⟨t1, m1, e1⟩ := hc.lo
  obtain ⟨t2, m2, e2⟩ := hc.hi
  have h1 := ha.all t1 (h.sub t1 m1)
  have h2 := ha.all t2 (h.sub t2 m2)
  rw [← hfg] at h1 h2
  omega
theorem Sub.same {v s : Sd} (h : Sub v s) (h' : Sub s v) {f g : T3 → Int} (hfg : ∀ t, f t = g t) {c a : Int × Int} (hc : IsSpan v f c) (ha : IsSpan s g a) : c = a := by
  have h1 := h.span hfg hc ha
  have h2 := h'.span (fun t => (hfg t).symm) ha hc
  obtain ⟨c1, c2⟩ := c
  obtain ⟨a1, a2⟩ := a
  dsimp only at h1 h2
  simp only [Prod.mk.injEq]
  omega
theorem span_le {s : Sd} {f : T3 → Int} {c : Int × Int} (h : IsSpan s f c) : c.1 ≤ c.2 := by
  obtain ⟨t, m, e⟩ := h.lo
  have := h.all t m
  omega
theorem sure_sub {c a : Int × Int} (h1 : a.1 ≤ c.1) (h2 : c.2 ≤ a.2) (h3 : c.1 ≤ c.2) (h : sureOf a ≠ 1) : sureOf c = sureOf a := by
  unfold sureOf at h ⊢
  simp only [decide_eq_true_eq] at h ⊢
  by_cases k1 : a.1 > 0
  · rw [if_pos k1, if_pos (by omega)]
  · rw [if_neg k1] at h ⊢
    by_cases k2 : a.2 > 0
    · rw [if_pos k2] at h; exact absurd rfl h
    · rw [if_neg k2, if_neg (by omega), if_neg (by omega)]

/-! The four. -/
theorem more_sub (s : Sd) (ex : Lk) : Sub (withL s (s.looks ++ [ex])) s := by
  refine ⟨rfl, rfl, fun t ht => ?_⟩
  rw [mem_truths] at ht ⊢
  refine ⟨ht.1, ?_⟩
  have := ht.2
  unfold fits at this ⊢
  rw [show (withL s (s.looks ++ [ex])).looks = s.looks ++ [ex] from rfl, List.all_append, Bool.and_eq_true] at this
  exact this.1
def tight (l : Lk) : Lk := ⟨l.minute, min l.hi (l.lo + 1), l.hi⟩
def tightL (L : List Lk) (q : Nat) : List Lk := match L[q]? with
  | some l => L.set q (tight l)
  | none => L
theorem tightL_len (L : List Lk) (q : Nat) : (tightL L q).length = L.length := by
  unfold tightL; split
  · rw [List.length_set]
  · rfl
theorem tight_sub {s : Sd} (hd : validB s = true) (q : Nat) : Sub (withL s (tightL s.looks q)) s := by
  refine ⟨rfl, rfl, fun t ht => ?_⟩
  rw [mem_truths] at ht ⊢
  refine ⟨ht.1, ?_⟩
  have h := ht.2
  unfold fits at h ⊢
  have h : (tightL s.looks q).all (agrees (dayOf s t)) = true := h
  unfold tightL at h
  split at h
  · rename_i l hl
    rw [List.all_eq_true] at h ⊢
    intro x hx
    obtain ⟨i, hi, rfl⟩ := List.mem_iff_getElem.1 hx
    by_cases he : q = i
    · subst he
      have e1 : s.looks[q]? = some s.looks[q] := List.getElem?_eq_getElem hi
      have e2 : l = s.looks[q] := by rw [e1] at hl; cases hl; rfl
      have h1 := h (tight l) (by rw [List.mem_iff_getElem]; exact ⟨q, by rw [List.length_set]; exact hi, by rw [List.getElem_set_self]⟩)
      have hlo := look_of hd (List.mem_of_getElem? hl)
      rw [← e2]
      unfold agrees at h1 ⊢
      have h1 : inB (Me.of (dayOf s t) (.doneBy l.minute)) (min l.hi (l.lo + 1)) l.hi = true := h1
      simp only [inB, Bool.and_eq_true, decide_eq_true_eq] at h1 ⊢
      exact ⟨by have := h1.1; generalize Me.of (dayOf s t) (.doneBy l.minute) = n at this; omega, h1.2⟩
    · exact h _ (by rw [List.mem_iff_getElem]; exact ⟨i, by rw [List.length_set]; exact hi, by rw [List.getElem_set_ne he]⟩)
  · exact h
def lessZ (s : Sd) (k : Nat) (up : Bool) : Sd := if up then { s with lo := s.lo.put k (min (s.hi.get k) (s.lo.get k + 1)) } else { s with hi := s.hi.put k (max (s.lo.get k) (s.hi.get k - 1)) }
theorem less_sub {s : Sd} (hd : validB s = true) {k : Nat} (hk : k ≤ 2) (up : Bool) : Sub (lessZ s k up) s := by
  have hm := hd
  simp only [validB, minsOk, minOk, spanB, Bool.and_eq_true, decide_eq_true_eq] at hm
  have fin : ∀ z : Sd, z.looks = s.looks → z.runs = s.runs → z.sheep = s.sheep → (∀ t, t ∈ combos z → t ∈ combos s) → Sub z s := by
    intro z h1 h2 h3 h4
    refine ⟨h2, h3, fun t ht => ?_⟩
    rw [mem_truths] at ht ⊢
    refine ⟨h4 t ht.1, ?_⟩
    have := ht.2
    unfold fits dayOf at this ⊢
    rw [h1, h2, h3] at this
    exact this
  cases up
  · refine fin _ rfl rfl rfl fun t ht => ?_
    rw [mem_combos] at ht ⊢
    obtain rfl | rfl | rfl : k = 0 ∨ k = 1 ∨ k = 2 := by omega
    all_goals
      simp only [lessZ, T3.put, T3.get, Bool.false_eq_true, if_false] at ht
      omega
  · refine fin _ rfl rfl rfl fun t ht => ?_
    rw [mem_combos] at ht ⊢
    obtain rfl | rfl | rfl : k = 0 ∨ k = 1 ∨ k = 2 := by omega
    all_goals
      simp only [lessZ, T3.put, T3.get, if_true] at ht
      omega
theorem back_fits (s : Sd) (t : T3) : fits s s.looks.reverse t = fits s s.looks t := by
  unfold fits; rw [List.all_reverse]
theorem back_sub (s : Sd) : Sub (withL s s.looks.reverse) s ∧ Sub s (withL s s.looks.reverse) := by
  have key : truths (withL s s.looks.reverse) = truths s := by
    unfold truths truthsS
    congr 1
    funext t
    exact back_fits s t
  exact ⟨⟨rfl, rfl, fun t ht => by rw [key] at ht; exact ht⟩, ⟨rfl, rfl, fun t ht => by rw [key]; exact ht⟩⟩

/-! What is returned. -/
theorem none_codes {s : Sd} (hd : validB s = true) (hT : truths s = []) (f : T3 → Int) : spR s true (spanS s f) = ((0, 0), 10) := by
  rw [span_none.2 hT, spR_no hd]
theorem late_none {s : Sd} (hd : validB s = true) (hT : truths s = []) {r : Nat} (hr : r < s.runs.length) : lateR s r = if r = 0 then (0, 2) else (0, 10) := by
  unfold lateR
  rw [hd, if_neg (by simp)]
  by_cases h0 : r = 0
  · subst h0; rfl
  · rw [if_neg (by simp [inB]; omega), if_neg h0, show spanM s (.past 0 ((r : Int) - 1) (startOf s (r : Int).toNat)) = none from span_none.2 hT]
theorem late_some {s : Sd} (hd : validB s = true) {r : Nat} (hr : r < s.runs.length) {p : Int × Int} (hp : spanM s (.past 0 ((r : Int) - 1) (startOf s r)) = some p) : lateR s r = if r = 0 then (0, 2) else (sureOf p, 0) := by
  unfold lateR
  rw [hd, if_neg (by simp)]
  by_cases h0 : r = 0
  · subst h0; rfl
  · rw [if_neg (by simp [inB]; omega), if_neg h0, Int.toNat_natCast, hp]
end Go.Ag
/- Layer 4: own slices of looks, written. -/
namespace Go.Ag
open Go.Proofs
set_option maxRecDepth 100000

/-- The whole of a slice's rows, as cells. -/
theorem SlOf.first {sz : Nat} {rows : List (List CV)} {cells : List CV} {off len : Nat} (h : SlOf sz rows cells off len) (hsz : ∀ r ∈ rows, r.length = sz) (rd : Nat → AB) : firstCells rd sz (.c (.sl cells off len)) = some (rows.flatten.map .c, rows.length, []) := by
  have := h.whole hsz
  simp only [firstCells]
  rw [h.len, this]
  rfl
theorem look_put {cells : List AV} {off : Nat} {vs cs : List AV} {K : List AV → Prop} (h : putAt cells off vs = some cs) (k : K cs) : match putAt cells off vs with | some cs => K cs | none => False := by
  rw [h]; exact k

/-- Looks in a block of one's own. -/
def lkB (L : List Lk) : AB := .blk ((L.map rowLk).flatten.map .c)
theorem callM {v : SV} {o : Nat} {h : Heap} {L : List Lk} (hb : Heap.at h o = lkB L) {f : FuncId} {cs : List CV} {r : CV} (hr : Ret Try.prog f ((lkV v L).cv :: cs) r) (hp : r.plain = true) {K : AEnd → Heap → Prop} (k : K (.ret (.c r)) h) :
    CallW Try.prog f (xAV v (.msl o 3 0 L.length L.length) :: cs.map .c) h K := by
  have hkl : killed r ([o] ++ []) = [] := by unfold killed; rw [if_pos hp]
  exact .snapped ((L.map rowLk).flatten.length + cs.length + 20 + 1) _ _ _ r (snaps_cons (snap_x hb _ _ _ _ _ _ _ _ _ (by omega)) (snaps_map_c _ cs _ (by omega))) hr rfl (by rw [hkl]; exact k)
theorem flat_at : ∀ (L : List Lk) (q k : Nat), k < 3 → (L.map rowLk).flatten[q * 3 + k]? = L[q]?.bind fun l => (rowLk l)[k]?
  | [], q, k, _ => by simp
  | l :: L, 0, k, hk => by
    rw [List.map_cons, List.flatten_cons, List.getElem?_append_left (by show 0 * 3 + k < 3; omega)]
    simp
  | l :: L, q + 1, k, hk => by
    rw [List.map_cons, List.flatten_cons, List.getElem?_append_right (by show 3 ≤ (q + 1) * 3 + k; omega), show (q + 1) * 3 + k - (rowLk l).length = q * 3 + k by show (q + 1) * 3 + k - 3 = _; omega, flat_at L q k hk]
    simp
theorem flat_set : ∀ (L : List Lk) (q : Nat) (l : Lk) (x : Int), L[q]? = some l → (L.map rowLk).flatten.set (q * 3 + 1) (I x) = ((L.set q ⟨l.minute, x, l.hi⟩).map rowLk).flatten
  | [], q, l, x, h => by simp at h
  | a :: L, 0, l, x, h => by
    simp only [List.getElem?_cons_zero, Option.some.injEq] at h
    subst h
    simp [rowLk]
  | a :: L, q + 1, l, x, h => by
    rw [List.getElem?_cons_succ] at h
    rw [List.set_cons_succ, List.map_cons, List.map_cons, List.flatten_cons, List.flatten_cons, ← flat_set L q l x h, List.set_append_right _ _ (by show 3 ≤ (q + 1) * 3 + 1; omega)]
    rw [show (q + 1) * 3 + 1 - (rowLk a).length = q * 3 + 1 by show (q + 1) * 3 + 1 - 3 = _; omega]
theorem rdA (cells : List AV) (off : Nat) : readVar Try.prog 3 cells off = cells[off]? := rfl
theorem read_lo {L : List Lk} {q : Nat} {l : Lk} (h : L[q]? = some l) : readVar Try.prog 3 ((L.map rowLk).flatten.map AV.c) (q * 3 + 1) = some (.c (I l.lo)) := by
  rw [rdA, List.getElem?_map, flat_at L q 1 (by omega), h]; rfl
theorem read_hi {L : List Lk} {q : Nat} {l : Lk} (h : L[q]? = some l) : readVar Try.prog 3 ((L.map rowLk).flatten.map AV.c) (q * 3 + 2) = some (.c (I l.hi)) := by
  rw [rdA, List.getElem?_map, flat_at L q 2 (by omega), h]; rfl
theorem put_one {cells : List AV} {off : Nat} (h : off < cells.length) (x : AV) : putAt cells off [x] = some (cells.set off x) := by
  simp only [putAt]
  rw [if_pos (by simp; omega), List.set_eq_take_append_cons_drop, if_pos h]
  simp
theorem flat_len3 (L : List Lk) : (L.map rowLk).flatten.length = L.length * 3 := by
  rw [flat_len _ rowLk_len, List.length_map]
theorem put_lo {L : List Lk} {q : Nat} {l : Lk} (h : L[q]? = some l) (x : Int) : putAt ((L.map rowLk).flatten.map AV.c) (q * 3 + 1) [.c (I x)] = some (((L.set q ⟨l.minute, x, l.hi⟩).map rowLk).flatten.map AV.c) := by
  have hq : q < L.length := (List.getElem?_eq_some_iff.1 h).1
  rw [put_one (by rw [List.length_map, flat_len3]; omega), ← flat_set L q l x h, List.map_set]

theorem closer_ret (a b c e : Int) : Ret Try.prog 38 [.agg [I a, I b], .agg [I c, I e]] (B (decide (a ≥ c) && decide (b ≤ e))) := by
  refine ret_by (hm := true) Try.func38 rfl ?_
  conv => whnf
  cases h1 : decide (a ≥ c)
  · conv => whnf
    exact .val
  · conv => whnf
    exact .val
theorem even_test {w : Nat} (hw : w < 256) : (((w : Int).tmod 2) == 0) = decide (w % 2 = 0) := by
  have key : ∀ w : Nat, w < 256 → (((w : Int).tmod 2) == 0) = decide (w % 2 = 0) := by decide +kernel
  exact key w hw

/-- The argument with a kind that is known better. -/
def lessV (v : SV) (k : Nat) (up : Bool) : SV := if up then { v with lo := v.lo.put k (min (v.hi.get k) (v.lo.get k + 1)) } else { v with hi := v.hi.put k (max (v.lo.get k) (v.hi.get k - 1)) }
theorem lessV_is {v : SV} {s : Sd} (hv : v.Is s) (k : Nat) (up : Bool) : (lessV v k up).Is (lessZ s k up) := by
  have e4 := hv.lo; have e5 := hv.hi
  cases up
  · exact ⟨hv.lo, by show v.hi.put k _ = s.hi.put k _; rw [e4, e5], hv.r, hv.k, hv.l, hv.short⟩
  · exact ⟨by show v.lo.put k _ = s.lo.put k _; rw [e4, e5], hv.hi, hv.r, hv.k, hv.l, hv.short⟩
def minCells (v : SV) : List AV := [.c (I v.lo.a), .c (I v.hi.a), .c (I v.lo.b), .c (I v.hi.b), .c (I v.lo.c), .c (I v.hi.c), .c (.sl v.rc v.ro v.rn), .c (.sl v.kc v.ko v.kn), .c (.sl v.lc v.lo' v.ln)]
theorem min_lo (v : SV) {k : Nat} (hk : k ≤ 2) : readVar Try.prog 3 (minCells v) (0 + (k : Int).toNat * 2 + 0) = some (.c (I (v.lo.get k))) := by
  obtain rfl | rfl | rfl : k = 0 ∨ k = 1 ∨ k = 2 := by omega
  all_goals rfl
theorem min_hi (v : SV) {k : Nat} (hk : k ≤ 2) : readVar Try.prog 3 (minCells v) (0 + (k : Int).toNat * 2 + 1) = some (.c (I (v.hi.get k))) := by
  obtain rfl | rfl | rfl : k = 0 ∨ k = 1 ∨ k = 2 := by omega
  all_goals rfl
theorem put_minlo (v : SV) {k : Nat} (hk : k ≤ 2) : putAt (minCells v) (0 + (k : Int).toNat * 2 + 0) [.c (I (min (v.hi.get k) (v.lo.get k + 1)))] = some (minCells (lessV v k true)) := by
  obtain rfl | rfl | rfl : k = 0 ∨ k = 1 ∨ k = 2 := by omega
  all_goals rfl
theorem put_minhi (v : SV) {k : Nat} (hk : k ≤ 2) : putAt (minCells v) (0 + (k : Int).toNat * 2 + 1) [.c (I (max (v.lo.get k) (v.hi.get k - 1)))] = some (minCells (lessV v k false)) := by
  obtain rfl | rfl | rfl : k = 0 ∨ k = 1 ∨ k = 2 := by omega
  all_goals rfl

theorem ints_cellish {rows : List (List CV)} (h : ∀ r ∈ rows, ∃ l : List Int, r = l.map I) : (rows.flatten.map AV.c).all AV.cellish = true := by
  rw [List.all_eq_true]
  intro c hc
  obtain ⟨c0, h0, rfl⟩ := List.mem_map.1 hc
  obtain ⟨r, hr, hcr⟩ := List.mem_flatten.1 h0
  obtain ⟨l, rfl⟩ := h r hr
  obtain ⟨x, _, rfl⟩ := List.mem_map.1 hcr
  rfl
theorem U25 : Try.prog.underlying 25 = some (.slice 50) := by kernel_rfl
theorem S50 : slicePart Try.prog 50 = some 2 := by kernel_rfl
end Go.Ag
/- Layer 4: what is told of a stand, and of one of which more is known. -/
namespace Go.Ag
open Go.Proofs
set_option maxRecDepth 100000

structure Tl (s : Sd) (mn kind rn : Nat) (a1 a2 b1 b2 e L g : Int) : Prop where
  g : g = if rn = 0 then 2 else e
  none : truths s = [] → e = 10 ∧ a1 = 0 ∧ a2 = 0 ∧ b1 = 0 ∧ b2 = 0 ∧ L = 0
  some : truths s ≠ [] → e = 0 ∧ IsSpan s (fun t => Me.of (dayOf s t) (.doneBy mn)) (a1, a2) ∧ IsSpan s (fun t => t.get kind) (b1, b2) ∧
    (rn = 0 → L = 0) ∧ (rn ≠ 0 → ∃ p, IsSpan s (fun t => Me.of (dayOf s t) (.past 0 ((rn : Int) - 1) (startOf s rn))) p ∧ L = sureOf p)
theorem tl_ex {v : SV} {s : Sd} (hv : v.Is s) (hd : validB s = true) {mn kind rn : Nat} (hm : mn ≤ 999) (hk : kind ≤ 2) (hr : rn < s.runs.length) : ∃ a1 a2 b1 b2 e L g, Tl s mn kind rn a1 a2 b1 b2 e L g ∧
    Ret Try.prog 16 [v.cv, I mn] (.tuple [.agg [I a1, I a2], I e]) ∧ Ret Try.prog 18 [v.cv, I kind] (.tuple [.agg [I b1, I b2], I e]) ∧ Ret Try.prog 24 [v.cv, I rn] (.tuple [I L, I g]) := by
  have r1 := count_ret hv mn
  have r2 := takes_ret hv kind
  have r3 := late_ret hv rn
  rw [show inB (mn : Int) 0 999 = true by simp [inB]; omega] at r1
  rw [show inB (kind : Int) 0 2 = true by simp [inB]; omega, Int.toNat_natCast] at r2
  by_cases hT : truths s = []
  · rw [show spR s true (spanM s (.doneBy mn)) = ((0, 0), 10) from none_codes hd hT _] at r1
    rw [show spR s true (spanT s kind) = ((0, 0), 10) from none_codes hd hT _] at r2
    rw [late_none hd hT hr] at r3
    refine ⟨0, 0, 0, 0, 10, 0, if rn = 0 then 2 else 10, ⟨rfl, fun _ => ⟨rfl, rfl, rfl, rfl, rfl, rfl⟩, fun h => absurd hT h⟩, r1, r2, ?_⟩
    by_cases h0 : rn = 0
    · rw [if_pos h0] at r3 ⊢; exact r3
    · rw [if_neg h0] at r3 ⊢; exact r3
  · obtain ⟨pa, x1, ia⟩ := span_ex hT fun t => Me.of (dayOf s t) (.doneBy mn)
    obtain ⟨pb, x2, ib⟩ := span_ex hT fun t => t.get kind
    obtain ⟨pl, x3, il⟩ := span_ex hT fun t => Me.of (dayOf s t) (.past 0 ((rn : Int) - 1) (startOf s rn))
    rw [show spanM s (.doneBy mn) = some pa from x1, spR_ok hd] at r1
    rw [show spanT s kind = some pb from x2, spR_ok hd] at r2
    rw [late_some hd hr x3] at r3
    refine ⟨pa.1, pa.2, pb.1, pb.2, 0, if rn = 0 then 0 else sureOf pl, if rn = 0 then 2 else 0, ⟨rfl, fun h => absurd h hT, fun _ => ⟨rfl, ia, ib, fun h => by rw [if_pos h], fun h => ⟨pl, il, by rw [if_neg h]⟩⟩⟩, r1, r2, ?_⟩
    by_cases h0 : rn = 0
    · rw [if_pos h0] at r3; rw [if_pos h0, if_pos h0]; exact r3
    · rw [if_neg h0] at r3; rw [if_neg h0, if_neg h0]; exact r3

/-- What follows where more is known. -/
structure Known2 (rn : Nat) (a1 a2 b1 b2 e L c1 c2 d1 d2 h k l : Int) : Prop where
  l : l = if rn = 0 then 2 else h
  code : h = 0 ∨ h = 10
  ok : h = 0 → e = 0 ∧ a1 ≤ c1 ∧ c2 ≤ a2 ∧ b1 ≤ d1 ∧ d2 ≤ b2 ∧ (rn ≠ 0 → L ≠ 1 → k = L)
theorem tl_sub {v s : Sd} (hs : Sub v s) {mn kind rn : Nat} {a1 a2 b1 b2 e L g c1 c2 d1 d2 h k l : Int} (A : Tl s mn kind rn a1 a2 b1 b2 e L g) (C : Tl v mn kind rn c1 c2 d1 d2 h k l) : Known2 rn a1 a2 b1 b2 e L c1 c2 d1 d2 h k l := by
  refine ⟨C.g, ?_, fun h0 => ?_⟩
  · by_cases hT : truths v = []
    · exact .inr (C.none hT).1
    · exact .inl (C.some hT).1
  · have hT : truths v ≠ [] := fun hT => by have := (C.none hT).1; omega
    have hTs : truths s ≠ [] := fun e => hT (hs.none e)
    obtain ⟨_, c3, c4, c5, c6⟩ := C.some hT
    obtain ⟨a0, a3, a4, a5, a6⟩ := A.some hTs
    have q1 := hs.span (fun t => by rw [hs.day]) c3 a3
    have q2 := hs.span (fun t => rfl) c4 a4
    refine ⟨a0, q1.1, q1.2, q2.1, q2.2, fun hr hL => ?_⟩
    obtain ⟨p, p1, rfl⟩ := c6 hr
    obtain ⟨p', p2, rfl⟩ := a6 hr
    have hst : startOf v rn = startOf s rn := by unfold startOf; rw [hs.runs]
    have q3 := hs.span (fun t => by rw [hs.day, hst]) p1 p2
    exact sure_sub q3.1 q3.2 (span_le p1) hL
theorem tl_same {v s : Sd} (hs : Sub v s) (hs' : Sub s v) {mn kind rn : Nat} {a1 a2 b1 b2 e L g c1 c2 d1 d2 h k l : Int} (A : Tl s mn kind rn a1 a2 b1 b2 e L g) (C : Tl v mn kind rn c1 c2 d1 d2 h k l) : c1 = a1 ∧ c2 = a2 ∧ d1 = b1 ∧ d2 = b2 ∧ h = e ∧ k = L := by
  by_cases hT : truths v = []
  · have hTs := hs'.none hT
    have h1 := C.none hT
    have h2 := A.none hTs
    omega
  · have hTs : truths s ≠ [] := fun e => hT (hs.none e)
    obtain ⟨c0, c3, c4, c5, c6⟩ := C.some hT
    obtain ⟨a0, a3, a4, a5, a6⟩ := A.some hTs
    have q1 := hs.same hs' (fun t => by rw [hs.day]) c3 a3
    have q2 := hs.same hs' (fun t => rfl) c4 a4
    simp only [Prod.mk.injEq] at q1 q2
    refine ⟨q1.1, q1.2, q2.1, q2.2, by omega, ?_⟩
    by_cases hr : rn = 0
    · rw [c5 hr, a5 hr]
    · obtain ⟨p, p1, rfl⟩ := c6 hr
      obtain ⟨p', p2, rfl⟩ := a6 hr
      have hst : startOf v rn = startOf s rn := by unfold startOf; rw [hs.runs]
      rw [hs.same hs' (fun t => by rw [hs.day, hst]) p1 p2]

/-- What the law has at hand. -/
structure En (v : SV) (s : Sd) (ex : Lk) (q ox oy : Nat) (out : AV) (cr ck cl sb ia ib : Nat) (cells : List AV) (a1 a2 b1 b2 : Int) (h : Heap) : Prop where
  b0 : Heap.at h 0 = v.blk
  bX : Heap.at h ox = lkB (s.looks ++ [ex])
  bY : Heap.at h oy = lkB (tightL s.looks q)
  rT : RowsL 3 h out (s.looks.reverse.map rowLk)
  cR : Heap.at h cr = .blk ((s.runs.map rowRu).flatten.map AV.c)
  cK : Heap.at h ck = .blk ((s.sheep.map rowK).flatten.map AV.c)
  cL : Heap.at h cl = .blk ((s.looks.map rowLk).flatten.map AV.c)
  bS : Heap.at h sb = .blk cells
  bA : Heap.at h ia = .blk [.c (I a1), .c (I a2)]
  bB : Heap.at h ib = .blk [.c (I b1), .c (I b2)]
  lt : 0 < h.n ∧ ox < h.n ∧ oy < h.n ∧ cr < h.n ∧ ck < h.n ∧ cl < h.n ∧ sb < h.n ∧ ia < h.n ∧ ib < h.n
theorem En.up {v : SV} {s : Sd} {ex : Lk} {q ox oy : Nat} {out : AV} {cr ck cl sb ia ib : Nat} {cells : List AV} {a1 a2 b1 b2 : Int} {h h' : Heap} (e : En v s ex q ox oy out cr ck cl sb ia ib cells a1 a2 b1 b2 h) (f : Foot none' h h') : En v s ex q ox oy out cr ck cl sb ia ib cells a1 a2 b1 b2 h' := by
  obtain ⟨l0, l1, l2, l3, l4, l5, l6, l7, l8⟩ := e.lt
  have k : ∀ i, i < h.n → Heap.at h' i = Heap.at h i := fun i hi => f.keep i hi (fun x => x)
  have n := f.n
  exact ⟨(k _ l0).trans e.b0, (k _ l1).trans e.bX, (k _ l2).trans e.bY, e.rT.ext n (fun i hi _ => k i hi), (k _ l3).trans e.cR, (k _ l4).trans e.cK, (k _ l5).trans e.cL, (k _ l6).trans e.bS, (k _ l7).trans e.bA, (k _ l8).trans e.bB, by omega⟩
end Go.Ag
/- Layer 4: stands of one's own as arguments. -/
namespace Go.Ag
open Go.Proofs
set_option maxRecDepth 100000

def lkC (v : SV) (out : AV) : List AV := [.c (I v.lo.a), .c (I v.hi.a), .c (I v.lo.b), .c (I v.hi.b), .c (I v.lo.c), .c (I v.hi.c), .c (.sl v.rc v.ro v.rn), .c (.sl v.kc v.ko v.kn), out]
/-- Cells that are a stand. -/
structure Arg (h0 : Heap) (xc : List AV) (si : Sd) : Prop where
  ex : ∃ (x : AV) (w : SV), ((∃ c, x = .c c) ∨ ∃ l, x = .agg l) ∧ readVar Try.prog 29 xc 0 = some x ∧ w.Is si ∧ ∀ h, Foot none' h0 h → ∀ (f : FuncId) (cs : List CV) (r : CV) (K : AEnd → Heap → Prop), Ret Try.prog f (w.cv :: cs) r → r.plain = true → K (.ret (.c r)) h → CallW Try.prog f (x :: cs.map .c) h K
theorem arg_own {v : SV} {s : Sd} (hv : v.Is s) {h0 : Heap} {o : Nat} {L : List Lk} (hb : Heap.at h0 o = lkB L) (ho : o < h0.n) (hL : L.length ≤ 40) : Arg h0 (lkC v (.msl o 3 0 L.length L.length)) (withL s L) :=
  ⟨_, lkV v L, .inr ⟨_, rfl⟩, rfl, withV_is hv hL, fun h F f cs r K hr hp k => callM ((F.keep o ho (fun x => x)).trans hb) hr hp k⟩
theorem x_shape (v : SV) {out : AV} (h : out = nilA ∨ ∃ o n, out = .msl o 3 0 n n) : (∃ c, xAV v out = .c c) ∨ ∃ l, xAV v out = .agg l := by
  rcases h with rfl | ⟨o, n, rfl⟩
  · exact .inl ⟨_, rfl⟩
  · exact .inr ⟨_, rfl⟩
theorem arg_rows {v : SV} {s : Sd} (hv : v.Is s) {h0 : Heap} {out : AV} {L : List Lk} (hR : RowsL 3 h0 out (L.map rowLk)) (hL : L.length ≤ 40) : Arg h0 (lkC v out) (withL s L) :=
  ⟨xAV v out, lkV v L, x_shape v hR.shape, rfl, withV_is hv hL, fun h F f cs r K hr hp k => callX (hR.ext F.n (fun i hi _ => F.keep i hi (fun x => x))) hr hp k⟩
theorem arg_closed {v : SV} {s : Sd} (hv : v.Is s) {h0 : Heap} : Arg h0 (lkC v (.c (.sl v.lc v.lo' v.ln))) s :=
  ⟨.c v.cv, v, .inl ⟨_, rfl⟩, rfl, hv, fun h F f cs r K hr hp k => by
    refine .ret hr ?_ k
    show (allC (cs.map .c)).map _ = _
    rw [allC_map]
    rfl⟩
theorem Arg.up {h0 h1 : Heap} {xc : List AV} {si : Sd} (a : Arg h0 xc si) (F : Foot none' h0 h1) : Arg h1 xc si := by
  obtain ⟨x, w, h0, h1, h2, h3⟩ := a.ex
  exact ⟨x, w, h0, h1, h2, fun h F' => h3 h (F.trans F')⟩
def Z29 : List AV := [.lit (.int .i64 0), .lit (.int .i64 0), .lit (.int .i64 0), .lit (.int .i64 0), .lit (.int .i64 0), .lit (.int .i64 0), nilA, nilA, nilA]
theorem closer_true {a b c e : Int} (h1 : c ≤ a) (h2 : b ≤ e) : Ret Try.prog 38 [.agg [I a, I b], .agg [I c, I e]] (B true) := by
  have := closer_ret a b c e
  rwa [show (decide (a ≥ c) && decide (b ≤ e)) = true by rw [decide_eq_true h1, decide_eq_true h2]; rfl] at this
theorem then_block {P : Program} {id : Nat} {a b : Code} {s : ASt} {K : AExit → ASt → Prop} (h : Then P a s fun e s1 => match e with | .normal => Then P b s1 K | .exit i => (match Nat.beq i id with | true => Then P b s1 K | false => K (.exit i) s1) | .ret => K .ret s1 | .panic v => K (.panic v) s1) : Then P (.seq (.block id a) b) s K := by
  refine ⟨T_seq (T_block (h.1.mono ?_))⟩
  intro e s1 h
  cases e with
  | normal => exact h.1
  | exit i =>
    dsimp only at h ⊢
    cases hb : Nat.beq i id with
    | true => rw [hb] at h; exact h.1
    | false => rw [hb] at h; exact h
  | ret => exact h
  | panic v => exact h
end Go.Ag
/- Layer 4: a sheep more. -/
namespace Go.Ag
open Go.Proofs
set_option maxRecDepth 100000

section
variable {P : Program}
theorem then_if {x : Operand} {a b : Code} {s : ASt} {K : AExit → ASt → Prop} (h : match asBool (evalF s.tmps x) with | some true => Then P a s K | some false => Then P b s K | none => False) : Then P (.cond x a b) s K := by
  rw [evalF_eq s.tmps s.defers s.pan s.round s.h] at h
  split at h
  case h_3 => exact h.elim
  case h_1 ht =>
    obtain ⟨⟨e, s', h1, h2⟩⟩ := h
    exact ⟨⟨e, s', ok_cond ht h1, h2⟩⟩
  case h_2 ht =>
    obtain ⟨⟨e, s', h1, h2⟩⟩ := h
    exact ⟨⟨e, s', ok_cond ht h1, h2⟩⟩
theorem got_as {tmps : TMap AV} {ds : List ADef} {p : Pan} {rd : Option Nat} {h H : Heap} {dst : Option Tmp} {r : SOut} {X : Option SOut} {K : ASt → Prop} (hX : X = some r) (hH : (Heap.upd h r.upds).app .dead r.fresh.toList = H) (k : fin0 tmps ds p rd H dst r.val K) : Got X fun r => appended false tmps ds p rd h dst r K :=
  ⟨r, hX, by show fin0 tmps ds p rd ((Heap.upd h r.upds).app .dead r.fresh.toList) dst r.val K; rw [hH]; exact k⟩
theorem then_join {a b : Code} {s : ASt} {K : AExit → ASt → Prop} (A : ASt → Prop) (h : Then P a s fun e s1 => match e with | .normal => A s1 | e => K e s1) (k : ∀ s1, A s1 → Then P b s1 K) : Then P (.seq a b) s K := by
  refine ⟨T_seq (h.1.mono ?_)⟩
  intro e s1 h
  cases e with
  | normal => exact (k s1 h).1
  | exit i => exact h
  | ret => exact h
  | panic v => exact h
end
def longS (s : Sd) (k : Nat) : Sd := { bareD s with sheep := s.sheep ++ [(k : Int)] }
theorem long_valid {s : Sd} (hd : validB s = true) (hs : s.sheep.length < 16) {k : Nat} (hk : k ≤ 2) : validB (longS s k) = true := by
  have hb := bare_valid hd
  unfold validB at hb ⊢
  simp only [Bool.and_eq_true] at hb ⊢
  refine ⟨hb.1, hb.2.1, ⟨?_, ?_⟩, hb.2.2.2⟩
  · show decide ((s.sheep ++ [(k : Int)]).length ≤ 16) = true
    rw [List.length_append, List.length_singleton]
    exact decide_eq_true (by omega)
  · have h1 := hb.2.2.1.2
    show ((s.sheep ++ [(k : Int)]).all fun k => inB k 0 2) = true
    rw [List.all_append, Bool.and_eq_true]
    refine ⟨h1, ?_⟩
    simp [inB]; omega
theorem dayF_app {runs : List Ru} {t : T3} (l : List Int) : ∀ (ks : List Int) (run : Nat) (free : Int) (i : Nat), i < ks.length → (dayF runs t (ks ++ l) run free)[i]? = (dayF runs t ks run free)[i]?
  | [], _, _, i, h => by simp at h
  | k :: ks, run, free, i, h => by
    rw [List.cons_append]
    simp only [dayF]
    cases hx : runs[nextRun runs free run]? with
    | none => rfl
    | some x =>
      cases i with
      | zero => rfl
      | succ i =>
        simp only [List.getElem?_cons_succ]
        exact dayF_app l ks _ _ i (by simpa using h)
theorem long_done {s : Sd} (hd : validB s = true) (hs : s.sheep.length < 16) {k : Nat} (hk : k ≤ 2) {i : Nat} (hi : i < s.sheep.length) : ∃ p, spanM (bareD s) (.doneAt i) = some p ∧ spanM (longS s k) (.doneAt i) = some p := by
  refine ⟨_, ends_done hd i, (ends_done (long_valid hd hs hk) i).trans ?_⟩
  have key : ∀ t, Me.of (dayOf (longS s k) t) (.doneAt i) = Me.of (dayOf s t) (.doneAt i) := fun t => by
    show (match (dayF s.runs t (s.sheep ++ [(k : Int)]) 0 0)[i]? with | some x => x.done | none => 1000) = (match (dayF s.runs t s.sheep 0 0)[i]? with | some x => x.done | none => 1000)
    rw [dayF_app _ _ _ _ _ hi]
  rw [key, key]
  rfl
def longV (v : SV) (s : Sd) (k : Nat) : SV := { bareV v with kc := ((s.sheep ++ [(k : Int)]).map rowK).flatten, ko := 0, kn := s.sheep.length + 1 }
theorem long_is {v : SV} {s : Sd} (hv : v.Is s) (hs : s.sheep.length < 16) (k : Nat) : (longV v s k).Is (longS s k) := by
  have hb := bare_is hv
  have hsl := sl_flat (sz := 1) (rows := (s.sheep ++ [(k : Int)]).map rowK) (fun r hr => by obtain ⟨x, _, rfl⟩ := List.mem_map.1 hr; rfl)
  rw [List.length_map, List.length_append, List.length_singleton] at hsl
  exact ⟨hb.lo, hb.hi, hb.r, hsl, hb.l, hb.short.1, by show (s.sheep ++ [(k : Int)]).length ≤ 40; rw [List.length_append, List.length_singleton]; omega, hb.short.2.2⟩
def longA (v : SV) (s : Sd) (k : Nat) : CV := .agg [I v.lo.a, I v.hi.a, I v.lo.b, I v.hi.b, I v.lo.c, I v.hi.c, .sl v.rc v.ro v.rn, .sl ((s.sheep ++ [(k : Int)]).map rowK).flatten 0 (s.sheep.length + 1), nilC]
theorem long_rets {v : SV} {s : Sd} (hv : v.Is s) (hd : validB s = true) (hs : s.sheep.length < 16) {k : Nat} (hk : k ≤ 2) {i : Nat} (hi : i < s.sheep.length) : ∃ a b : Int, Ret Try.prog 14 [bareA v, I i] (.tuple [.agg [I a, I b], I 0]) ∧ Ret Try.prog 14 [longA v s k, I i] (.tuple [.agg [I a, I b], I 0]) := by
  obtain ⟨p, h1, h2⟩ := long_done hd hs hk hi
  have r1 := done_ret (bare_is hv) i
  have r2 := done_ret (long_is hv hs k) i
  rw [show inB (i : Int) 0 ((bareD s).sheep.length - 1) = true by show inB (i : Int) 0 (s.sheep.length - 1) = true; simp [inB]; omega, Int.toNat_natCast, h1, spR_ok (bare_valid hd)] at r1
  rw [show inB (i : Int) 0 ((longS s k).sheep.length - 1) = true by show inB (i : Int) 0 (((s.sheep ++ [(k : Int)]).length : Nat) - 1) = true; rw [List.length_append, List.length_singleton]; simp [inB]; omega, Int.toNat_natCast, h2, spR_ok (long_valid hd hs hk)] at r2
  exact ⟨p.1, p.2, bare_args r1, r2.args ⟨.agg ⟨.refl _, .refl _, .refl _, .refl _, .refl _, .refl _, .refl _, .refl _, .nil _ _, trivial⟩, .refl _, trivial⟩⟩
theorem snap_l {H : Nat → AB} {o n : Nat} {cs : List CV} (hb : H o = .blk (cs.map .c)) (a0 a1 a2 a3 a4 a5 a6 a8 : CV) (m : Nat) (hm : cs.length + 20 ≤ m) :
    snap H m (.agg [.c a0, .c a1, .c a2, .c a3, .c a4, .c a5, .c a6, .msl o 1 0 n n, .c a8]) = some (.agg [a0, a1, a2, a3, a4, a5, a6, .sl cs 0 n, a8], [o]) := by
  obtain ⟨m, rfl⟩ : ∃ k, m = k + 20 := ⟨m - 20, by omega⟩
  simp only [snap, snaps, Option.bind_some, Option.map_some, hb]
  rw [snaps_map_c H cs _ (by omega)]
  rfl
theorem callL {v : SV} {s : Sd} {k o : Nat} {h : Heap} (hb : Heap.at h o = .blk (((s.sheep ++ [(k : Int)]).map rowK).flatten.map .c)) {f : FuncId} {cs : List CV} {r : CV} (hr : Ret Try.prog f (longA v s k :: cs) r) (hp : r.plain = true) {K : AEnd → Heap → Prop} (kk : K (.ret (.c r)) h) :
    CallW Try.prog f (.agg [.c (I v.lo.a), .c (I v.hi.a), .c (I v.lo.b), .c (I v.hi.b), .c (I v.lo.c), .c (I v.hi.c), .c (.sl v.rc v.ro v.rn), .msl o 1 0 (s.sheep.length + 1) (s.sheep.length + 1), nilA] :: cs.map .c) h K := by
  have hkl : killed r ([o] ++ []) = [] := by unfold killed; rw [if_pos hp]
  exact .snapped (((s.sheep ++ [(k : Int)]).map rowK).flatten.length + cs.length + 20 + 1) _ _ _ r (snaps_cons (snap_l hb _ _ _ _ _ _ _ _ _ (by omega)) (snaps_map_c _ cs _ (by omega))) hr rfl (by rw [hkl]; exact kk)
end Go.Ag
/- Layer 4: runs and looks are compared. -/
namespace Go.Ag
open Go.Proofs
set_option maxRecDepth 100000

theorem u50 : pureRun Try.prog (underlying 50) = some (.struct #[⟨"Start", 3, 0, false, "", "", 0⟩, ⟨"Bell", 3, 1, false, "", "", 8⟩]) := by kernel_rfl
theorem st50 : Try.prog.stoodInHeld 50 = false := by kernel_rfl
theorem u58 : pureRun Try.prog (underlying 58) = some (.struct #[⟨"Minute", 3, 0, false, "", "", 0⟩, ⟨"Done", 23, 1, false, "", "", 8⟩]) := by kernel_rfl
theorem st58 : Try.prog.stoodInHeld 58 = false := by kernel_rfl
theorem eg50 : Try.prog.eqGuardType Try.prog.depth 50 = false := by kernel_rfl
theorem eg58 : Try.prog.eqGuardType Try.prog.depth 58 = false := by kernel_rfl
theorem eq_run (a b : Int) : pureRun Try.prog (Op.equal 50 (.agg #[.int .i64 a, .int .i64 b]) (.agg #[.int .i64 a, .int .i64 b])) = some true := by
  show pureRun Try.prog (Op.equalIn (9998 + 1 + 1) 50 _ _) = _
  rw [Op.equalIn.eq_def]
  simp only [pureRun_bind, u50, Option.bind_some, pp0, pureRun_ite, st50, Bool.false_eq_true, if_false]
  simp [pureRun_bind, pureRun_ite, part3, eq_int, pureRun_pure]
theorem ag23 : pureRun Try.prog (isAgg 23) = some true := by kernel_rfl
theorem sz23 : pureRun Try.prog (sizeOf 23) = some 2 := by kernel_rfl
theorem part23 (m a b : Int) : pureRun Try.prog (part 23 #[.int .i64 m, .int .i64 a, .int .i64 b] 1) = some (.agg #[.int .i64 a, .int .i64 b]) := by
  unfold part
  simp only [pureRun_bind, ag23, sz23, Option.bind_some, pureRun_ite, if_true]
  simp [pureRun_pure]
theorem eq_span1 (a b : Int) : pureRun Try.prog (Op.equalIn (9998 + 1) 23 (.agg #[.int .i64 a, .int .i64 b]) (.agg #[.int .i64 a, .int .i64 b])) = some true := by
  rw [Op.equalIn.eq_def]
  simp only [pureRun_bind, u23, Option.bind_some, pp0, pureRun_ite, st23, Bool.false_eq_true, if_false]
  simp [pureRun_bind, pureRun_ite, part3, eq_int, pureRun_pure]
theorem eq_look (m a b : Int) : pureRun Try.prog (Op.equal 58 (.agg #[.int .i64 m, .int .i64 a, .int .i64 b]) (.agg #[.int .i64 m, .int .i64 a, .int .i64 b])) = some true := by
  show pureRun Try.prog (Op.equalIn (9998 + 1 + 1) 58 _ _) = _
  rw [Op.equalIn.eq_def]
  simp only [pureRun_bind, u58, Option.bind_some, pp0, pureRun_ite, st58, Bool.false_eq_true, if_false]
  simp [pureRun_bind, pureRun_ite, part3, part23, eq_span1, eq_int, pureRun_pure]
theorem run_neq {o : Oper} {x y : Operand} {t2 : TypeId} {σ : Operand → AV} {a b : Int} (ho : o.op = .binOp .neq 50 x y t2) (hx : σ x = .c (.agg [I a, I b])) (hy : σ y = .c (.agg [I a, I b])) (rd : Nat → AB) (n : Nat) :
    aop Try.prog o σ rd n = some (.simple { val := .c (B false) }) := by
  have vx : (σ x).toVal = some (.agg #[.int .i64 a, .int .i64 b]) := by rw [hx]; rfl
  have vy : (σ y).toVal = some (.agg #[.int .i64 a, .int .i64 b]) := by rw [hy]; rfl
  unfold aop
  rw [ho]
  simp only [abinOp, vx, vy, litBin]
  unfold pureOp
  have hv : (allVals σ o.op.operands.toList && notSelect o.op) = true := by
    rw [ho]; simp [Op.operands, allVals, vx, vy, notSelect]
  rw [if_pos hv]
  have hr : pureRun Try.prog (execOp (fun x => ((σ x).toVal).getD Go.undef) o) = some (.value (.bool false)) := by
    unfold execOp
    rw [ho]
    simp only [vx, vy, Option.getD_some, eqGuard, binOp, pureRun_bind, pp0, Option.bind_some, pureRun_ite, eg50]
    simp [pureRun_bind, pp0, eg50, eq_run, pureRun_pure, pureRun_ite]
  rw [hr]
  rfl
theorem look_neq {o : Oper} {x y : Operand} {t2 : TypeId} {σ : Operand → AV} {m a b : Int} (ho : o.op = .binOp .neq 58 x y t2) (hx : σ x = .c (.agg [I m, I a, I b])) (hy : σ y = .c (.agg [I m, I a, I b])) (rd : Nat → AB) (n : Nat) :
    aop Try.prog o σ rd n = some (.simple { val := .c (B false) }) := by
  have vx : (σ x).toVal = some (.agg #[.int .i64 m, .int .i64 a, .int .i64 b]) := by rw [hx]; rfl
  have vy : (σ y).toVal = some (.agg #[.int .i64 m, .int .i64 a, .int .i64 b]) := by rw [hy]; rfl
  unfold aop
  rw [ho]
  simp only [abinOp, vx, vy, litBin]
  unfold pureOp
  have hv : (allVals σ o.op.operands.toList && notSelect o.op) = true := by
    rw [ho]; simp [Op.operands, allVals, vx, vy, notSelect]
  rw [if_pos hv]
  have hr : pureRun Try.prog (execOp (fun x => ((σ x).toVal).getD Go.undef) o) = some (.value (.bool false)) := by
    unfold execOp
    rw [ho]
    simp only [vx, vy, Option.getD_some, eqGuard, binOp, pureRun_bind, pp0, Option.bind_some, pureRun_ite, eg58]
    simp [pureRun_bind, pp0, eg58, eq_look, pureRun_pure, pureRun_ite]
  rw [hr]
  rfl
theorem mkAgg_map (l : List CV) : mkAgg (l.map AV.c) = .c (.agg l) := by unfold mkAgg; rw [allC_map]
theorem sliceOf_map {α β : Type} (f : α → β) (l : List α) (off n : Nat) : sliceOf (l.map f) off n = (sliceOf l off n).map (List.map f) := by
  unfold sliceOf
  simp only [← List.map_drop, ← List.map_take, List.length_map]
  split <;> rfl
theorem readVar_map {P : Program} {t : TypeId} {cells : List CV} {off : Nat} {v : CV} (h : readVarC P t cells off = some v) : readVar P t (cells.map AV.c) off = some (.c v) := by
  unfold readVarC at h
  unfold readVar
  split at h
  · rename_i ha
    rw [if_pos ha]
    cases hi : P.info? t with
    | none => rw [hi] at h; cases h
    | some i =>
      rw [hi] at h
      simp only [Option.bind_some, sliceOf_map] at h ⊢
      cases hs : sliceOf cells off i.size with
      | none => rw [hs] at h; cases h
      | some l =>
        rw [hs] at h
        simp only [Option.map_some, Option.some.injEq] at h ⊢
        rw [mkAgg_map, h]
  · rename_i ha
    rw [if_neg ha]
    split at h
    · rename_i hu
      rw [if_pos hu]
      simp [h]
    · cases h
end Go.Ag
