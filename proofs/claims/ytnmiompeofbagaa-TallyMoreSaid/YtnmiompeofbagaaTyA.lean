/- Difference bounds; contracts of functions of layer 5: small functions, what is valid, tables. No conditions. -/
import Derived.Test.YtnmiompeofbagaaAgE
import Derived.Test.YtnmiompeofbagaaProg
/- Statement by statement: what follows is kept out of the way. -/
namespace Go.Ag

/-- What code comes to; what it is not looked into. -/
inductive Then (P : Program) (c : Code) (s : ASt) (K : AExit → ASt → Prop) : Prop
  | mk (h : T P (.code c) s K)

section
variable {P : Program}

theorem then_seq {hm : Bool} {a b : Code} {s : ASt} {K : AExit → ASt → Prop} (h : wCode P hm a s fun e s1 => match e with | .normal => Then P b s1 K | e => K e s1) : Then P (.seq a b) s K := by
  refine ⟨T_seq ((wCode_ok a s _ h).mono ?_)⟩
  intro e s1 h
  cases e with
  | normal => exact h.1
  | exit i => exact h
  | ret => exact h
  | panic v => exact h
/-- All that matters behind a statement. -/
theorem then_via {hm : Bool} {a b : Code} {s : ASt} {K : AExit → ASt → Prop} (A : ASt → Prop) (h : wCode P hm a s fun e s1 => match e with | .normal => A s1 | e => K e s1) (k : ∀ s1, A s1 → Then P b s1 K) : Then P (.seq a b) s K := by
  refine ⟨T_seq ((wCode_ok a s _ h).mono ?_)⟩
  intro e s1 h
  cases e with
  | normal => exact (k s1 h).1
  | exit i => exact h
  | ret => exact h
  | panic v => exact h
theorem then_end {hm : Bool} {c : Code} {s : ASt} {K : AExit → ASt → Prop} (h : wCode P hm c s K) : Then P c s K := ⟨wCode_ok c s K h⟩
theorem Has.then {s : ASt} {n : Nat} {l : List (Tmp × AV)} {ds : List ADef} {rd : Option Nat} {h : Heap} (hs : Has s n l ds rd h) {c : Code} {K : AExit → ASt → Prop} (hk : knownK n l fun t => Then P c ⟨t, ds, .no, rd, h⟩ K) : Then P c s K := by
  rw [knownK_eq] at hk
  exact ⟨hk.1.weak hs.weak⟩
theorem call_thenP {hm : Bool} {f : FuncId} {fn : Func} {body : Code} {args : List AV} {h : Heap} {pan : Pan} {Q : AEnd → Heap → Pan → Prop} (hf : P.funcs[f]? = some fn) (hb : fn.body = some body)
    (hw : initK args (fn.ntmps - args.length) fun t => Then P body ⟨t, [], pan, none, h⟩ (fun e s => endP hm P fn Q e s)) : ∃ e h' p', CallOk P f args h pan e h' p' ∧ Q e h' p' := by
  rw [initK_eq] at hw
  obtain ⟨⟨e, s1, h1, h3⟩⟩ := hw
  unfold endP at h3
  split at h3
  · exact h3.elim
  rename_i mode hmode
  obtain ⟨mode', h2, hd, h4⟩ := defW_ok h3
  have ok := ok_call hf hb h1 hmode hd
  cases mode' with
  | none =>
    obtain ⟨vs, hv, h5⟩ := resK_ok h4
    refine ⟨.ret (oneOf vs), h2, s1.pan, ok.1 _ rfl ?_, h5⟩
    rw [← readResultsF_eq]
    unfold readResultsF oneOf
    rw [hv]
    cases vs with
    | nil => rfl
    | cons a l => cases l <;> rfl
  | some v => exact ⟨.panic v, h2, s1.pan, ok.2 v rfl, h4⟩
theorem call_then {hm : Bool} {f : FuncId} {fn : Func} {body : Code} {args : List AV} {h : Heap} {Q : AEnd → Heap → Prop} (hf : P.funcs[f]? = some fn) (hb : fn.body = some body)
    (hw : initK args (fn.ntmps - args.length) fun t => Then P body ⟨t, [], .no, none, h⟩ (fun e s => endW hm P fn Q e s)) : ∃ e h', CallOk P f args h .no e h' .no ∧ Q e h' := by
  obtain ⟨e, h', p', h1, h2⟩ := call_thenP hf hb hw
  unfold noPan at h2
  split at h2
  · exact ⟨e, h', h1, h2⟩
  · exact h2.elim
theorem ret_then {hm : Bool} {f : FuncId} {fn : Func} {body : Code} {args : List CV} {v : CV} (hf : P.funcs[f]? = some fn) (hb : fn.body = some body)
    (hw : initK (args.map .c) (fn.ntmps - (args.map AV.c).length) fun t => Then P body ⟨t, [], .no, none, TMap.nil⟩ (fun e s => endW hm P fn (fun e h' => retW v e h') e s)) : Ret P f args v := by
  obtain ⟨e, h', h1, h2⟩ := call_then hf hb hw
  cases e with
  | panic _ => exact h2.elim
  | ret u =>
    obtain ⟨fuel, ids, h3⟩ := (h2 : RetW v u h')
    exact callOk_close h1 (r := (v, ids)) h3
end

/-- An append in a region that draws: what follows sees the heap as it is named. -/
theorem dgot {P : Program} {hm : Bool} {ops : Array Oper} {rest : List Nat} {tmps : TMap AV} {ds : List ADef} {p : Pan} {rd : Option Nat} {h : Heap} {o : Oper} {i : Nat} {l : List DRec} {K : List DRec → ASt → Prop} {X : Option SOut} {r : SOut} {H : Heap}
    (hX : X = some r) (hb : r.upds.all (fun p => decide (p.1 < h.n)) = true) (hH : (Heap.upd h r.upds).app .dead r.fresh.toList = H)
    (k : putK tmps o.dst r.val fun t => dOps P hm ops rest ⟨t, ds, p, rd, H⟩ (⟨i, o.dst, o.looksAt ops, r.val, r.reads, r.upds, r.fresh, h.n, none⟩ :: l) K) :
    Got X fun r => Both (r.upds.all (fun p => decide (p.1 < h.n)) = true) (dOps P hm ops rest ((ASt.mk tmps ds p rd h).apply o.dst r) (⟨i, o.dst, o.looksAt ops, r.val, r.reads, r.upds, r.fresh, h.n, none⟩ :: l) K) := by
  rw [putK_eq] at k
  refine ⟨r, hX, hb, ?_⟩
  unfold ASt.apply
  dsimp only
  rw [hH]
  cases hd : o.dst with
  | none => rw [hd] at k; exact k
  | some d => rw [hd] at k; exact k
end Go.Ag
/- Layer 5: what is known of differences, and truths (no program here). -/
namespace Go.Ag

def inB' (n lo hi : Int) : Bool := decide (lo ≤ n) && decide (n ≤ hi)
def spB (a b low high : Int) : Bool := decide (low ≤ a) && decide (a ≤ b) && decide (b ≤ high)

/-- A call. -/
structure Cl where
  kind : Int
  pos : Int
  lo : Int
  hi : Int
/-- A tally as data. -/
structure Td where
  n : Int
  most : Int
  strays : List (Int × Int)
  calls : List Cl

def callOk (n : Int) (c : Cl) : Bool := match decide (c.kind = 0) || decide (c.kind = 1) with
  | true => inB' c.pos 0 (n - 1) && spB c.lo c.hi 0 300
  | false => decide (c.kind = 2) && spB c.lo c.hi 0 300
def validT (t : Td) : Bool := inB' t.n 1 5 && (inB' t.most 0 60 && (((decide ((t.strays.length : Int) = t.n - 1)) && t.strays.all fun s => spB s.1 s.2 (-3) 3) && (decide (t.calls.length ≤ 8) && t.calls.all (callOk t.n))))

/-- As valid, but there may be a call more. -/
def validX (t : Td) : Bool := inB' t.n 1 5 && (inB' t.most 0 60 && (((decide ((t.strays.length : Int) = t.n - 1)) && t.strays.all fun s => spB s.1 s.2 (-3) 3) && (decide (t.calls.length ≤ 9) && t.calls.all (callOk t.n))))
theorem validT_X {t : Td} (h : validT t = true) : validX t = true := by
  simp only [validT, validX, Bool.and_eq_true, decide_eq_true_eq] at h ⊢
  exact ⟨h.1, h.2.1, h.2.2.1, by omega, h.2.2.2.2⟩

/-- By how much sums differ at most. -/
abbrev M := Nat → Nat → Int
/-- A bound: one sum is greater than another one by a number of a span. -/
structure Pr where
  f : Nat
  t : Nat
  lo : Int
  hi : Int

def unkM : M := fun i j => if i = j then 0 else 300
def putM (d : M) (f t : Nat) (m : Int) : M := fun i j => min (d i j) (d i f + m + d t j)
def stepM (d : M) (p : Pr) : Option M :=
  if d p.t p.f + p.hi < 0 ∨ d p.f p.t + -p.lo < 0 then none
  else if p.hi < d p.f p.t ∨ -p.lo < d p.t p.f then some (putM (putM d p.f p.t p.hi) p.t p.f (-p.lo)) else some d
def foldM (d : M) : List Pr → Option M
  | [] => some d
  | p :: l => match stepM d p with
    | none => none
    | some d => foldM d l

structure Inv12 (d : M) : Prop where
  self : ∀ i, i < 12 → d i i = 0
  tri : ∀ i j k, i < 12 → j < 12 → k < 12 → d i k ≤ d i j + d j k
  le : ∀ i j, i < 12 → j < 12 → d i j ≤ 300
def Sat (d : M) (x : Nat → Int) : Prop := ∀ i j, i < 12 → j < 12 → x j - x i ≤ d i j
def Pr.ok (p : Pr) (x : Nat → Int) : Prop := p.lo ≤ x p.t - x p.f ∧ x p.t - x p.f ≤ p.hi
structure Pr.good (p : Pr) : Prop where
  f : p.f < 12
  t : p.t < 12
  le : p.lo ≤ p.hi
  lo : -300 ≤ p.lo
  hi : p.hi ≤ 300

theorem Inv12.ge {d : M} (h : Inv12 d) {i j : Nat} (hi : i < 12) (hj : j < 12) : -300 ≤ d i j := by
  have := h.self i hi; have := h.tri i j i hi hj hi; have := h.le j i hj hi; omega
theorem unkM_inv : Inv12 unkM := by
  refine ⟨fun i _ => by simp [unkM], ?_, fun i j _ _ => by unfold unkM; split <;> omega⟩
  intro i j k _ _ _
  unfold unkM
  split <;> split <;> split <;> omega
theorem put_inv {d : M} (h : Inv12 d) {f t : Nat} {m : Int} (hf : f < 12) (ht : t < 12) (hm : 0 ≤ d t f + m) : Inv12 (putM d f t m) := by
  refine ⟨?_, ?_, ?_⟩
  · intro i hi
    have := h.self i hi
    have := h.tri t i f ht hi hf
    simp only [putM]; omega
  · intro i j k hi hj hk
    have a1 := h.tri i j k hi hj hk
    have a2 := h.tri i j f hi hj hf
    have a3 := h.tri t j k ht hj hk
    have a4 := h.tri t j f ht hj hf
    simp only [putM]; omega
  · intro i j hi hj
    have := h.le i j hi hj
    simp only [putM]; omega
theorem put_sat {d : M} (h : Inv12 d) {f t : Nat} {m : Int} (hf : f < 12) (ht : t < 12) (x : Nat → Int) : Sat (putM d f t m) x ↔ Sat d x ∧ x t - x f ≤ m := by
  constructor
  · intro hs
    refine ⟨fun i j hi hj => ?_, ?_⟩
    · have := hs i j hi hj; simp only [putM] at this; omega
    · have := hs f t hf ht; have e1 := h.self f hf; have e2 := h.self t ht
      simp only [putM] at this; omega
  · rintro ⟨hs, hm⟩ i j hi hj
    have a1 := hs i j hi hj
    have a2 := hs i f hi hf
    have a3 := hs t j ht hj
    simp only [putM]; omega
theorem step_none {d : M} {p : Pr} (hp : p.good) (h : stepM d p = none) {x : Nat → Int} (hs : Sat d x) : ¬ p.ok x := by
  unfold stepM at h
  split at h
  · rename_i h1
    have a1 := hs p.t p.f hp.t hp.f
    have a2 := hs p.f p.t hp.f hp.t
    rintro ⟨b1, b2⟩
    omega
  · split at h <;> cases h
theorem step_some {d d' : M} {p : Pr} (hd : Inv12 d) (hp : p.good) (h : stepM d p = some d') : Inv12 d' ∧ ∀ x, Sat d' x ↔ Sat d x ∧ p.ok x := by
  unfold stepM at h
  split at h
  · cases h
  rename_i h1
  have c1 : 0 ≤ d p.t p.f + p.hi := by omega
  have c2 : 0 ≤ d p.f p.t + -p.lo := by omega
  split at h
  · obtain rfl := Option.some.inj h
    have i1 := put_inv hd hp.f hp.t c1
    have e1 := hd.self p.f hp.f
    have e2 := hd.self p.t hp.t
    have hle := hp.le
    have c3 : 0 ≤ putM d p.f p.t p.hi p.f p.t + -p.lo := by simp only [putM]; omega
    refine ⟨put_inv i1 hp.t hp.f c3, fun x => ?_⟩
    rw [put_sat i1 hp.t hp.f, put_sat hd hp.f hp.t]
    unfold Pr.ok
    constructor
    · rintro ⟨⟨a, b⟩, c⟩; exact ⟨a, by omega, b⟩
    · rintro ⟨a, b, c⟩; exact ⟨⟨a, c⟩, by omega⟩
  · rename_i h2
    obtain rfl := Option.some.inj h
    refine ⟨hd, fun x => ⟨fun hs => ⟨hs, ?_, ?_⟩, fun hs => hs.1⟩⟩
    · have := hs p.t p.f hp.t hp.f; omega
    · have := hs p.f p.t hp.f hp.t; omega
theorem fold_none {l : List Pr} : ∀ {d : M}, Inv12 d → (∀ p ∈ l, p.good) → foldM d l = none → ∀ {x : Nat → Int}, Sat d x → ¬ ∀ p ∈ l, p.ok x := by
  induction l with
  | nil => intro d _ _ h; cases h
  | cons p l ih =>
    intro d hd hp h x hs hall
    unfold foldM at h
    split at h
    · rename_i h1
      exact step_none (hp p (by simp)) h1 hs (hall p (by simp))
    · rename_i d' h1
      obtain ⟨i1, s1⟩ := step_some hd (hp p (by simp)) h1
      exact ih i1 (fun q hq => hp q (by simp [hq])) h ((s1 x).2 ⟨hs, hall p (by simp)⟩) (fun q hq => hall q (by simp [hq]))
theorem fold_some {l : List Pr} : ∀ {d d' : M}, Inv12 d → (∀ p ∈ l, p.good) → foldM d l = some d' → Inv12 d' ∧ ∀ x, Sat d' x ↔ Sat d x ∧ ∀ p ∈ l, p.ok x := by
  induction l with
  | nil =>
    intro d d' hd _ h
    obtain rfl := Option.some.inj h
    exact ⟨hd, fun x => by simp⟩
  | cons p l ih =>
    intro d d' hd hp h
    unfold foldM at h
    split at h
    · cases h
    · rename_i d1 h1
      obtain ⟨i1, s1⟩ := step_some hd (hp p (by simp)) h1
      obtain ⟨i2, s2⟩ := ih i1 (fun q hq => hp q (by simp [hq])) h
      refine ⟨i2, fun x => ?_⟩
      rw [s2, s1]
      simp only [List.mem_cons, forall_eq_or_imp]
      exact ⟨fun ⟨⟨a, b⟩, c⟩ => ⟨a, b, c⟩, fun ⟨a, b, c⟩ => ⟨⟨a, b⟩, c⟩⟩
theorem sat_ex {d : M} (hd : Inv12 d) : ∃ x, Sat d x := ⟨fun k => d 0 k, fun i j hi hj => by
  have := hd.tri 0 i j (by omega) hi hj
  show d 0 j - d 0 i ≤ d i j
  omega⟩
/-- Each number between the ends is that of a truth. -/
theorem sat_between {d : M} (hd : Inv12 d) {f t : Nat} (hf : f < 12) (ht : t < 12) (v : Int) : (∃ x, Sat d x ∧ x t - x f = v) ↔ -d t f ≤ v ∧ v ≤ d f t := by
  constructor
  · rintro ⟨x, hs, rfl⟩
    have := hs t f ht hf; have := hs f t hf ht
    omega
  · rintro ⟨h1, h2⟩
    have c1 : 0 ≤ d t f + v := by omega
    have i1 := put_inv hd hf ht c1
    have e1 := hd.self f hf
    have e2 := hd.self t ht
    have c3 : 0 ≤ putM d f t v f t + -v := by simp only [putM]; omega
    obtain ⟨x, hx⟩ := sat_ex (put_inv i1 ht hf c3)
    rw [put_sat i1 ht hf, put_sat hd hf ht] at hx
    exact ⟨x, hx.1.1, by omega⟩

/-! The bounds of a tally. -/
def strayP (t : Td) (k : Nat) : Int × Int := if 0 < k ∧ (k : Int) < t.n then t.strays.getD (k - 1) (0, 0) else (0, 0)
def strayedP (t : Td) (k : Nat) : Pr := ⟨6 + k, k, (strayP t k).1, (strayP t k).2⟩
def portP (k : Nat) (lo hi : Int) : Pr := ⟨k, k + 1, lo, hi⟩
def penP (k : Nat) (lo hi : Int) : Pr := ⟨6 + k, 6 + k + 1, lo, hi⟩
def callP (n : Int) (c : Cl) : Pr := if c.kind = 0 then portP c.pos.toNat c.lo c.hi else if c.kind = 1 then penP c.pos.toNat c.lo c.hi else ⟨0, n.toNat, c.lo, c.hi⟩
def callsP (n : Int) (set : Nat) : Nat → List Cl → List Pr
  | _, [] => []
  | k, c :: l => (if set.testBit k then [callP n c] else []) ++ callsP n set (k + 1) l
def prsOf (t : Td) (set : Nat) : List Pr := (List.range (t.n.toNat + 1)).map (strayedP t) ++ ((List.range t.n.toNat).flatMap (fun k => [portP k 0 t.most, penP k 0 300]) ++ callsP t.n set 0 t.calls)
def lookF (t : Td) (set : Nat) : Option M := foldM unkM (prsOf t set)

/-- A truth, by sums. -/
structure Tr (t : Td) (set : Nat) (x : Nat → Int) : Prop where
  sat : Sat unkM x
  ok : ∀ p ∈ prsOf t set, p.ok x

theorem strays_ok {t : Td} (hv : validX t = true) {k : Nat} (h0 : 0 < k) (hk : (k : Int) < t.n) : ∃ s, t.strays[k - 1]? = some s ∧ -3 ≤ s.1 ∧ s.1 ≤ s.2 ∧ s.2 ≤ 3 := by
  simp only [validX, Bool.and_eq_true, decide_eq_true_eq, List.all_eq_true] at hv
  obtain ⟨-, -, ⟨h1, h2⟩, -⟩ := hv
  have hlt : k - 1 < t.strays.length := by omega
  refine ⟨t.strays[k - 1], List.getElem?_eq_getElem hlt, ?_⟩
  have := h2 _ (List.getElem_mem hlt)
  simp only [spB, Bool.and_eq_true, decide_eq_true_eq] at this
  omega
theorem valid_nums {t : Td} (hv : validT t = true) : 1 ≤ t.n ∧ t.n ≤ 5 ∧ 0 ≤ t.most ∧ t.most ≤ 60 ∧ (t.strays.length : Int) = t.n - 1 ∧ t.calls.length ≤ 8 := by
  simp only [validT, inB', Bool.and_eq_true, decide_eq_true_eq] at hv
  omega
theorem valid_numsX {t : Td} (hv : validX t = true) : 1 ≤ t.n ∧ t.n ≤ 5 ∧ 0 ≤ t.most ∧ t.most ≤ 60 ∧ (t.strays.length : Int) = t.n - 1 ∧ t.calls.length ≤ 9 := by
  simp only [validX, inB', Bool.and_eq_true, decide_eq_true_eq] at hv
  omega
theorem valid_call {t : Td} (hv : validX t = true) {c : Cl} (hc : c ∈ t.calls) : callOk t.n c = true := by
  simp only [validX, Bool.and_eq_true, List.all_eq_true] at hv
  exact hv.2.2.2.2 c hc
theorem call_good {n : Int} (hn : 1 ≤ n ∧ n ≤ 5) {c : Cl} (hc : callOk n c = true) : (callP n c).good := by
  unfold callOk at hc
  unfold callP
  split at hc
  · rename_i hk
    simp only [Bool.or_eq_true, decide_eq_true_eq] at hk
    simp only [inB', spB, Bool.and_eq_true, decide_eq_true_eq] at hc
    split
    · exact ⟨show c.pos.toNat < 12 by omega, show c.pos.toNat + 1 < 12 by omega, show c.lo ≤ c.hi by omega, show -300 ≤ c.lo by omega, show c.hi ≤ 300 by omega⟩
    · split
      · exact ⟨show 6 + c.pos.toNat < 12 by omega, show 6 + c.pos.toNat + 1 < 12 by omega, show c.lo ≤ c.hi by omega, show -300 ≤ c.lo by omega, show c.hi ≤ 300 by omega⟩
      · omega
  · rename_i hk
    simp only [Bool.or_eq_false_iff, decide_eq_false_iff_not] at hk
    simp only [spB, Bool.and_eq_true, decide_eq_true_eq] at hc
    rw [if_neg hk.1, if_neg hk.2]
    exact ⟨show 0 < 12 by omega, show n.toNat < 12 by omega, show c.lo ≤ c.hi by omega, show -300 ≤ c.lo by omega, show c.hi ≤ 300 by omega⟩
theorem mem_callsP {n : Int} {set : Nat} : ∀ {l : List Cl} {k : Nat} {p : Pr}, p ∈ callsP n set k l ↔ ∃ i c, l[i]? = some c ∧ set.testBit (k + i) = true ∧ p = callP n c
  | [], k, p => by simp [callsP]
  | c :: l, k, p => by
    rw [callsP, List.mem_append, mem_callsP]
    constructor
    · rintro (h | ⟨i, c', h1, h2, h3⟩)
      · split at h
        · rename_i hb; exact ⟨0, c, rfl, hb, by simpa using h⟩
        · simp at h
      · exact ⟨i + 1, c', h1, by rw [← h2]; congr 1; omega, h3⟩
    · rintro ⟨i, c', h1, h2, h3⟩
      cases i with
      | zero =>
        left
        simp at h1
        subst h1
        rw [Nat.add_zero] at h2
        simp [h2, h3]
      | succ i =>
        right
        exact ⟨i, c', h1, by rw [← h2]; congr 1; omega, h3⟩
theorem strayed_good {t : Td} (hv : validX t = true) {k : Nat} (hk : (k : Int) ≤ t.n) : (strayedP t k).good := by
  have h5 := valid_numsX hv
  unfold strayedP
  by_cases h : 0 < k ∧ (k : Int) < t.n
  · obtain ⟨s, hs, h1, h2, h3⟩ := strays_ok hv h.1 h.2
    have e : strayP t k = s := by rw [strayP, if_pos h, List.getD_eq_getElem?_getD, hs]; rfl
    rw [e]
    exact ⟨show 6 + k < 12 by omega, show k < 12 by omega, show s.1 ≤ s.2 by omega, show -300 ≤ s.1 by omega, show s.2 ≤ 300 by omega⟩
  · have e : strayP t k = (0, 0) := by rw [strayP, if_neg h]
    rw [e]
    exact ⟨show 6 + k < 12 by omega, show k < 12 by omega, show (0 : Int) ≤ 0 by omega, show (-300 : Int) ≤ 0 by omega, show (0 : Int) ≤ 300 by omega⟩
theorem prs_good {t : Td} (hv : validX t = true) (set : Nat) : ∀ p ∈ prsOf t set, p.good := by
  have h5 := valid_numsX hv
  intro p hp
  rw [prsOf, List.mem_append, List.mem_append] at hp
  rcases hp with hp | hp | hp
  · simp only [List.mem_map, List.mem_range] at hp
    obtain ⟨k, hk, rfl⟩ := hp
    exact strayed_good hv (by omega)
  · simp only [List.mem_flatMap, List.mem_range, List.mem_cons, List.not_mem_nil, or_false] at hp
    obtain ⟨k, hk, rfl | rfl⟩ := hp
    · exact ⟨show k < 12 by omega, show k + 1 < 12 by omega, show 0 ≤ t.most by omega, show (-300 : Int) ≤ 0 by omega, show t.most ≤ 300 by omega⟩
    · exact ⟨show 6 + k < 12 by omega, show 6 + k + 1 < 12 by omega, show (0 : Int) ≤ 300 by omega, show (-300 : Int) ≤ 0 by omega, show (300 : Int) ≤ 300 by omega⟩
  · rw [mem_callsP] at hp
    obtain ⟨i, c, h1, -, rfl⟩ := hp
    exact call_good ⟨h5.1, h5.2.1⟩ (valid_call hv (List.mem_of_getElem? h1))
theorem look_none {t : Td} (hv : validX t = true) {set : Nat} (h : lookF t set = none) (x : Nat → Int) : ¬ Tr t set x := fun ⟨a, b⟩ => fold_none unkM_inv (prs_good hv set) h a b
theorem look_some {t : Td} (hv : validX t = true) {set : Nat} {d : M} (h : lookF t set = some d) : Inv12 d ∧ ∀ x, Sat d x ↔ Tr t set x := by
  obtain ⟨h1, h2⟩ := fold_some unkM_inv (prs_good hv set) h
  refine ⟨h1, fun x => (h2 x).trans ?_⟩
  constructor
  · intro h; exact ⟨h.1, h.2⟩
  · intro h; exact ⟨h.1, h.2⟩
theorem look_can {t : Td} (hv : validX t = true) (set : Nat) : (lookF t set).isSome = true ↔ ∃ x, Tr t set x := by
  cases h : lookF t set with
  | none => exact ⟨(fun h => by cases h), fun hx => by obtain ⟨x, hx⟩ := hx; exact absurd hx (look_none hv h x)⟩
  | some d =>
    obtain ⟨i, s⟩ := look_some hv h
    exact ⟨(fun _ => by obtain ⟨x, hx⟩ := sat_ex i; exact ⟨x, (s x).1 hx⟩), fun _ => rfl⟩
theorem look_between {t : Td} (hv : validX t = true) {set : Nat} {d : M} (h : lookF t set = some d) {f g : Nat} (hf : f < 12) (hg : g < 12) (v : Int) : (∃ x, Tr t set x ∧ x g - x f = v) ↔ -d g f ≤ v ∧ v ≤ d f g := by
  obtain ⟨i, s⟩ := look_some hv h
  rw [← sat_between i hf hg]
  constructor
  · rintro ⟨x, h1, h2⟩; exact ⟨x, (s x).2 h1, h2⟩
  · rintro ⟨x, h1, h2⟩; exact ⟨x, (s x).1 h1, h2⟩
end Go.Ag
namespace Go.Ag

/-- All but the calls. -/
structure Base (t : Td) (x : Nat → Int) : Prop where
  sat : Sat unkM x
  stray : ∀ k : Nat, (k : Int) ≤ t.n → (strayP t k).1 ≤ x k - x (6 + k) ∧ x k - x (6 + k) ≤ (strayP t k).2
  port : ∀ k : Nat, (k : Int) < t.n → 0 ≤ x (k + 1) - x k ∧ x (k + 1) - x k ≤ t.most
  pen : ∀ k : Nat, (k : Int) < t.n → 0 ≤ x (6 + k + 1) - x (6 + k) ∧ x (6 + k + 1) - x (6 + k) ≤ 300
theorem tr_iff {t : Td} (hv : validX t = true) {set : Nat} {x : Nat → Int} : Tr t set x ↔ Base t x ∧ ∀ i c, t.calls[i]? = some c → set.testBit i = true → (callP t.n c).ok x := by
  have h5 := valid_numsX hv
  constructor
  · rintro ⟨h1, h2⟩
    unfold prsOf at h2
    refine ⟨⟨h1, ?_, ?_, ?_⟩, ?_⟩
    · intro k hk
      exact h2 (strayedP t k) (List.mem_append_left _ (List.mem_map.2 ⟨k, List.mem_range.2 (by omega), rfl⟩))
    · intro k hk
      exact h2 (portP k 0 t.most) (List.mem_append_right _ (List.mem_append_left _ (List.mem_flatMap.2 ⟨k, List.mem_range.2 (by omega), by simp⟩)))
    · intro k hk
      exact h2 (penP k 0 300) (List.mem_append_right _ (List.mem_append_left _ (List.mem_flatMap.2 ⟨k, List.mem_range.2 (by omega), by simp⟩)))
    · intro i c hi hb
      exact h2 _ (List.mem_append_right _ (List.mem_append_right _ (mem_callsP.2 ⟨i, c, hi, by simpa using hb, rfl⟩)))
  · rintro ⟨⟨h1, h2, h3, h4⟩, h6⟩
    refine ⟨h1, fun p hp => ?_⟩
    rw [prsOf, List.mem_append, List.mem_append] at hp
    rcases hp with hp | hp | hp
    · obtain ⟨k, hk, rfl⟩ := List.mem_map.1 hp
      have := List.mem_range.1 hk
      exact h2 k (by omega)
    · obtain ⟨k, hk, hp⟩ := List.mem_flatMap.1 hp
      have := List.mem_range.1 hk
      simp only [List.mem_cons, List.not_mem_nil, or_false] at hp
      rcases hp with rfl | rfl
      · exact h3 k (by omega)
      · exact h4 k (by omega)
    · obtain ⟨i, c, hi, hb, rfl⟩ := mem_callsP.1 hp
      exact h6 i c hi (by simpa using hb)
/-- The least and the greatest number. -/
def spanD (d : M) (f g : Nat) : Int × Int := (-d g f, d f g)
structure IsSpan (t : Td) (set : Nat) (m : (Nat → Int) → Int) (s : Int × Int) : Prop where
  of : ∀ x, Tr t set x → s.1 ≤ m x ∧ m x ≤ s.2
  ex : ∀ v, s.1 ≤ v → v ≤ s.2 → ∃ x, Tr t set x ∧ m x = v
  le : s.1 ≤ s.2
theorem span_is {t : Td} (hv : validX t = true) {set : Nat} {d : M} (h : lookF t set = some d) {f g : Nat} (hf : f < 12) (hg : g < 12) : IsSpan t set (fun x => x g - x f) (spanD d f g) := by
  have hb := fun v => look_between hv h hf hg v
  refine ⟨fun x hx => (hb _).1 ⟨x, hx, rfl⟩, fun v h1 h2 => (hb v).2 ⟨h1, h2⟩, ?_⟩
  have := (look_some hv h).1
  have e := this.self g hg
  have := this.tri g f g hg hf hg
  show -d g f ≤ d f g
  omega
theorem span_unique {t : Td} {set : Nat} {m : (Nat → Int) → Int} {a b : Int × Int} (ha : IsSpan t set m a) (hb : IsSpan t set m b) : a = b := by
  obtain ⟨x1, h1, e1⟩ := ha.ex a.1 (Int.le_refl _) ha.le
  obtain ⟨x2, h2, e2⟩ := ha.ex a.2 ha.le (Int.le_refl _)
  obtain ⟨y1, k1, f1⟩ := hb.ex b.1 (Int.le_refl _) hb.le
  obtain ⟨y2, k2, f2⟩ := hb.ex b.2 hb.le (Int.le_refl _)
  have := hb.of x1 h1; have := hb.of x2 h2; have := ha.of y1 k1; have := ha.of y2 k2
  apply Prod.ext <;> omega
end Go.Ag
/- Layer 5: small functions; tallies as arguments. -/
namespace Go.Ag
open Go.Proofs
set_option maxRecDepth 100000

theorem inB_eq (n lo hi : Int) : inB' n lo hi = inB n lo hi := rfl
theorem within_ret (n lo hi : Int) : Ret Try.prog 61 [I n, I lo, I hi] (B (inB' n lo hi)) := by
  refine ret_by (hm := true) Try.func61 rfl ?_
  conv => whnf
  unfold inB'
  cases h : decide (lo ≤ n)
  · conv => whnf
    exact .val
  · conv => whnf
    exact .val
theorem spanWithin_ret (a b low high : Int) : Ret Try.prog 95 [.agg [I a, I b], I low, I high] (B (spB a b low high)) := by
  refine ret_by (hm := true) Try.func95 rfl ?_
  conv => whnf
  unfold spB
  cases h1 : decide (low ≤ a)
  · conv => whnf
    simp only [Bool.false_and]
    exact .val
  conv => whnf
  cases h2 : decide (a ≤ b)
  · conv => whnf
    simp only [Bool.false_and, Bool.and_false]
    exact .val
  conv => whnf
  simp only [Bool.true_and]
  exact .val

def rowSp (s : Int × Int) : List CV := [I s.1, I s.2]
def rowCl (c : Cl) : List CV := [I c.kind, I c.pos, I c.lo, I c.hi]
def clV (c : Cl) : CV := .agg [I c.kind, I c.pos, I c.lo, I c.hi]
structure TV where
  n : Int
  most : Int
  sc : List CV
  so : Nat
  sn : Nat
  cc : List CV
  co : Nat
  cn : Nat
def TV.cells (v : TV) : List CV := [I v.n, I v.most, .sl v.sc v.so v.sn, .sl v.cc v.co v.cn]
def TV.cv (v : TV) : CV := .agg [I v.n, I v.most, .sl v.sc v.so v.sn, .sl v.cc v.co v.cn]
def TV.blk (v : TV) : AB := .blk [.c (I v.n), .c (I v.most), .c (.sl v.sc v.so v.sn), .c (.sl v.cc v.co v.cn)]
structure TV.Is (v : TV) (t : Td) : Prop where
  n : v.n = t.n
  most : v.most = t.most
  s : SlOf 2 (t.strays.map rowSp) v.sc v.so v.sn
  c : SlOf 4 (t.calls.map rowCl) v.cc v.co v.cn
  short : t.strays.length ≤ 1000 ∧ t.calls.length ≤ 1000
theorem TV.Is.sn {v : TV} {t : Td} (h : v.Is t) : v.sn = t.strays.length := by rw [h.s.len]; simp
theorem TV.Is.cn {v : TV} {t : Td} (h : v.Is t) : v.cn = t.calls.length := by rw [h.c.len]; simp
theorem TV.Is.srow {v : TV} {t : Td} (h : v.Is t) {j : Nat} {m : Int × Int} (hj : t.strays[j]? = some m) : sliceOf v.sc (v.so + j * 2) 2 = some (rowSp m) := h.s.row j _ (by simp [hj])
theorem TV.Is.crow {v : TV} {t : Td} (h : v.Is t) {j : Nat} {m : Cl} (hj : t.calls[j]? = some m) : sliceOf v.cc (v.co + j * 4) 4 = some (rowCl m) := h.c.row j _ (by simp [hj])

theorem rv36 (cells : List CV) (off : Nat) : readVarC Try.prog 36 cells off = (sliceOf cells off 2).map .agg := rfl
theorem rv46 (cells : List CV) (off : Nat) : readVarC Try.prog 46 cells off = (sliceOf cells off 4).map .agg := rfl
theorem rv3 (cells : List CV) (off : Nat) : readVarC Try.prog 3 cells off = cells[off]? := rfl
theorem TV.Is.stray {v : TV} {t : Td} (h : v.Is t) {k : Nat} {r : Int × Int} (hk : t.strays[k]? = some r) : readVarC Try.prog 36 v.sc (v.so + (k : Int).toNat * 2) = some (.agg (rowSp r)) := by
  rw [Int.toNat_natCast, rv36, h.srow hk]; rfl
theorem TV.Is.call {v : TV} {t : Td} (h : v.Is t) {k : Nat} {r : Cl} (hk : t.calls[k]? = some r) : readVarC Try.prog 46 v.cc (v.co + (k : Int).toNat * 4) = some (.agg (rowCl r)) := by
  rw [Int.toNat_natCast, rv46, h.crow hk]; rfl
theorem get_some {α : Type} {l : List α} {k : Nat} (h : k < l.length) : ∃ x, l[k]? = some x := ⟨l[k], List.getElem?_eq_getElem h⟩
theorem drop_get {α : Type} {l : List α} {k : Nat} {x : α} (h : l[k]? = some x) : l.drop k = x :: l.drop (k + 1) := by
  obtain ⟨hk, rfl⟩ := List.getElem?_eq_some_iff.1 h
  exact List.drop_eq_getElem_cons hk

def nb (n : Int) : Prop := -1000000 ≤ n ∧ n ≤ 1000000
theorem isShearer_ret {v : TV} {t : Td} (hv : v.Is t) (hn : inB' t.n 1 5 = true) (n : Int) : Ret Try.prog 57 [v.cv, I n] (B (inB' n 0 (t.n - 1))) := by
  have e1 := hv.n
  rw [← e1] at hn ⊢
  simp only [inB', Bool.and_eq_true, decide_eq_true_eq] at hn
  refine ret_by (hm := true) Try.func57 rfl ?_
  conv => whnf
  refine ⟨v.n - 1, by rw [wrap_eq (by omega) (by omega)], ?_⟩
  conv => whnf
  refine .ret (within_ret _ _ _) rfl ?_
  conv => whnf
  exact .val
theorem validCall_ret {v : TV} {t : Td} (hv : v.Is t) (hn : inB' t.n 1 5 = true) (c : Cl) : Ret Try.prog 64 [v.cv, clV c] (B (callOk t.n c)) := by
  refine ret_by (hm := true) Try.func64 rfl ?_
  conv => whnf
  unfold callOk
  have e0 : (c.kind == 0) = decide (c.kind = 0) := rfl
  have e1 : (c.kind == 1) = decide (c.kind = 1) := rfl
  have e2 : (c.kind == 2) = decide (c.kind = 2) := rfl
  cases h0 : decide (c.kind = 0)
  · rw [h0] at e0
    rw [e0]
    conv => whnf
    cases h1 : decide (c.kind = 1)
    · rw [h1] at e1
      rw [e1]
      conv => whnf
      cases h2 : decide (c.kind = 2)
      · rw [h2] at e2
        rw [e2]
        conv => whnf
        exact .val
      · rw [h2] at e2
        rw [e2]
        conv => whnf
        refine .ret (spanWithin_ret _ _ _ _) rfl ?_
        conv => whnf
        exact .val
    · rw [h1] at e1
      rw [e1]
      conv => whnf
      refine .ret (isShearer_ret hv hn _) rfl ?_
      conv => whnf
      cases h3 : inB' c.pos 0 (t.n - 1)
      · conv => whnf
        exact .val
      · conv => whnf
        refine .ret (spanWithin_ret _ _ _ _) rfl ?_
        conv => whnf
        exact .val
  · rw [h0] at e0
    rw [e0]
    conv => whnf
    refine .ret (isShearer_ret hv hn _) rfl ?_
    conv => whnf
    cases h3 : inB' c.pos 0 (t.n - 1)
    · conv => whnf
      exact .val
    · conv => whnf
      refine .ret (spanWithin_ret _ _ _ _) rfl ?_
      conv => whnf
      exact .val
end Go.Ag
/- Layer 5: valid tallies. -/
namespace Go.Ag
open Go.Proofs
set_option maxRecDepth 100000

theorem validStrays_ret {v : TV} {t : Td} (hv : v.Is t) (hn : inB' t.n 1 5 = true) : Ret Try.prog 71 [v.cv] (B (decide ((t.strays.length : Int) = t.n - 1) && t.strays.all fun s => spB s.1 s.2 (-3) 3)) := by
  have e1 := hv.sn; have e2 := hv.short; have e3 := hv.n
  have hn' : 1 ≤ t.n ∧ t.n ≤ 5 := by simpa [inB'] using hn
  refine ret_by (hm := false) Try.func71 rfl ?_
  conv => whnf
  refine ⟨v.blk, rfl, ?_⟩
  conv => whnf
  refine ⟨v.blk, rfl, ?_⟩
  conv => whnf
  refine ⟨v.n - 1, by rw [wrap_eq (by omega) (by omega)], ?_⟩
  conv => whnf
  have hne : ((v.sn : Int) != v.n - 1) = !decide ((t.strays.length : Int) = t.n - 1) := by rw [e1, e3]; rfl
  rw [hne]
  cases h : decide ((t.strays.length : Int) = t.n - 1)
  · conv => whnf
    exact .val
  conv => whnf
  refine ⟨v.blk, rfl, ?_⟩
  conv => whnf
  rw [Bool.true_and]
  refine loop_by (I := fun n st => ∃ (q : Nat) (h : Heap), q ≤ t.strays.length ∧ n = t.strays.length - q ∧ (t.strays.all fun s => spB s.1 s.2 (-3) 3) = ((t.strays.drop q).all fun s => spB s.1 s.2 (-3) 3) ∧ 0 < h.n ∧ Has st 23 [(13, .c (.sl v.sc v.so v.sn)), (14, .c (I v.sn)), (15, .c (I q))] [] none h) ?_ (k := t.strays.length)
    ⟨0, _, Nat.zero_le _, rfl, rfl, Nat.lt_succ_self 0, rfl, ⟨rfl, rfl, rfl, trivial⟩, rfl, rfl, rfl, rfl⟩
  rintro n st ⟨q, h, hq, rfl, hall, hn, hs1⟩
  refine hs1.run (hm := false) ?_
  conv => whnf
  cases hc : decide ((q : Int) < (v.sn : Int))
  case true =>
    have hq : q < t.strays.length := by simp at hc; omega
    obtain ⟨r, hr⟩ := get_some hq
    rw [drop_get hr, List.all_cons] at hall
    conv => whnf
    refine ⟨⟨by omega, by omega⟩, ?_⟩
    conv => whnf
    refine ⟨_, hv.stray hr, ?_⟩
    conv => whnf
    refine ⟨_, at_push_self _ _, ?_⟩
    conv => whnf
    refine ⟨_, at_new _ _ _, ?_⟩
    conv => whnf
    refine .ret (spanWithin_ret _ _ _ _) rfl ?_
    conv => whnf
    cases h2 : spB r.1 r.2 (-3) 3
    · conv => whnf
      rw [hall, h2]
      exact .val
    · conv => whnf
      refine ⟨((q + 1 : Nat) : Int), by rw [wrap_eq (by omega) (by omega)]; omega, ?_⟩
      conv => whnf
      rw [h2, Bool.true_and] at hall
      exact ⟨t.strays.length - (q + 1), by omega, q + 1, _, by omega, rfl, hall, by rw [new_n]; omega, rfl, ⟨rfl, rfl, rfl, trivial⟩, rfl, rfl, rfl, rfl⟩
  have : q = t.strays.length := by simp at hc; omega
  subst this
  rw [List.drop_length] at hall
  rw [hall]
  conv => whnf
  exact .val

theorem validCalls_ret {v : TV} {t : Td} (hv : v.Is t) (hn : inB' t.n 1 5 = true) : Ret Try.prog 72 [v.cv] (B (decide (t.calls.length ≤ 8) && t.calls.all (callOk t.n))) := by
  have e1 := hv.cn; have e2 := hv.short; have e4 := hv.n
  have e3 : decide (t.calls.length ≤ 8) = !decide ((v.cn : Int) > 8) := by rw [e1]; by_cases h : t.calls.length ≤ 8 <;> simp [h] <;> omega
  rw [e3]
  refine ret_by (hm := false) Try.func72 rfl ?_
  conv => whnf
  refine ⟨v.blk, rfl, ?_⟩
  conv => whnf
  cases h : decide ((v.cn : Int) > 8)
  case true =>
    conv => whnf
    exact .val
  conv => whnf
  refine ⟨v.blk, rfl, ?_⟩
  conv => whnf
  rw [Bool.not_false, Bool.true_and]
  refine loop_by (I := fun n st => ∃ (q : Nat) (h : Heap), q ≤ t.calls.length ∧ n = t.calls.length - q ∧ t.calls.all (callOk t.n) = (t.calls.drop q).all (callOk t.n) ∧ Heap.at h 0 = v.blk ∧ 0 < h.n ∧ Has st 21 [(1, .ptr 0 0), (10, .c (.sl v.cc v.co v.cn)), (11, .c (I v.cn)), (12, .c (I q))] [] none h) ?_ (k := t.calls.length)
    ⟨0, _, Nat.zero_le _, rfl, rfl, rfl, Nat.lt_succ_self 0, rfl, ⟨rfl, rfl, rfl, rfl, trivial⟩, rfl, rfl, rfl, rfl⟩
  rintro n st ⟨q, h, hq, rfl, hall, h0, hn0, hs1⟩
  refine hs1.run (hm := false) ?_
  conv => whnf
  cases hc : decide ((q : Int) < (v.cn : Int))
  case true =>
    have hq : q < t.calls.length := by simp at hc; omega
    obtain ⟨r, hr⟩ := get_some hq
    rw [drop_get hr, List.all_cons] at hall
    conv => whnf
    refine ⟨⟨by omega, by omega⟩, ?_⟩
    conv => whnf
    refine ⟨_, hv.call hr, ?_⟩
    conv => whnf
    refine ⟨_, at_push_self _ _, ?_⟩
    conv => whnf
    refine ⟨v.blk, (at_old _ _ _ hn0).trans h0, ?_⟩
    conv => whnf
    refine ⟨_, at_new _ _ _, ?_⟩
    conv => whnf
    refine .ret (validCall_ret hv hn r) rfl ?_
    conv => whnf
    cases h2 : callOk t.n r
    · conv => whnf
      rw [hall, h2]
      exact .val
    · conv => whnf
      refine ⟨((q + 1 : Nat) : Int), by rw [wrap_eq (by omega) (by omega)]; omega, ?_⟩
      conv => whnf
      rw [h2, Bool.true_and] at hall
      exact ⟨t.calls.length - (q + 1), by omega, q + 1, _, by omega, rfl, hall, (at_old _ _ _ hn0).trans h0, by rw [new_n]; omega, rfl, ⟨rfl, rfl, rfl, rfl, trivial⟩, rfl, rfl, rfl, rfl⟩
  have : q = t.calls.length := by simp at hc; omega
  subst this
  rw [List.drop_length] at hall
  rw [hall]
  conv => whnf
  exact .val

theorem valid_ret {v : TV} {t : Td} (hv : v.Is t) : Ret Try.prog 40 [v.cv] (B (validT t)) := by
  have e1 := hv.n; have e2 := hv.most
  have key : validT t = (inB' v.n 1 5 && (inB' v.most 0 60 && (((decide ((t.strays.length : Int) = t.n - 1)) && t.strays.all fun s => spB s.1 s.2 (-3) 3) && (decide (t.calls.length ≤ 8) && t.calls.all (callOk t.n))))) := by rw [e1, e2]; rfl
  rw [key]
  refine ret_by (hm := true) Try.func40 rfl ?_
  conv => whnf
  refine .ret (within_ret _ _ _) rfl ?_
  conv => whnf
  cases h1 : inB' v.n 1 5
  · conv => whnf
    exact .val
  conv => whnf
  refine .ret (within_ret _ _ _) rfl ?_
  conv => whnf
  cases h2 : inB' v.most 0 60
  · conv => whnf
    exact .val
  conv => whnf
  refine .ret (validStrays_ret hv (e1 ▸ h1)) rfl ?_
  conv => whnf
  cases h3 : decide ((t.strays.length : Int) = t.n - 1) && t.strays.all fun s => spB s.1 s.2 (-3) 3
  · conv => whnf
    exact .val
  conv => whnf
  refine .ret (validCalls_ret hv (e1 ▸ h1)) rfl ?_
  conv => whnf
  cases h4 : decide (t.calls.length ≤ 8) && t.calls.all (callOk t.n)
  · conv => whnf
    exact .val
  conv => whnf
  exact .val
end Go.Ag
/- Layer 5: differences. -/
namespace Go.Ag
open Go.Proofs
set_option maxRecDepth 100000

/-- Differences as cells. -/
def matC (d : M) : List CV := (List.range 144).map fun k => I (d (k / 12) (k % 12))
def matV (d : M) : CV := .agg (matC d)
theorem matC_len (d : M) : (matC d).length = 144 := by simp [matC]
theorem matC_get (d : M) {i j : Nat} (hi : i < 12) (hj : j < 12) : (matC d)[i * 12 + j]? = some (I (d i j)) := by
  unfold matC
  rw [List.getElem?_map, List.getElem?_range (by omega)]
  have e1 : (i * 12 + j) / 12 = i := by omega
  have e2 : (i * 12 + j) % 12 = j := by omega
  simp only [Option.map_some, e1, e2]
theorem matC_congr {d e : M} (h : ∀ i j, i < 12 → j < 12 → d i j = e i j) : matC d = matC e := by
  unfold matC
  apply List.map_congr_left
  intro k hk
  have := List.mem_range.1 hk
  rw [h _ _ (by omega) (by omega)]
def setM (d : M) (i j : Nat) (x : Int) : M := fun a b => if a = i ∧ b = j then x else d a b
theorem matC_set (d : M) {i j : Nat} (hi : i < 12) (hj : j < 12) (x : Int) : (matC d).set (i * 12 + j) (I x) = matC (setM d i j x) := by
  apply List.ext_getElem?
  intro k
  rw [List.getElem?_set]
  unfold matC setM
  simp only [List.length_map, List.length_range, List.getElem?_map]
  by_cases hk : i * 12 + j = k
  · subst hk
    have e1 : (i * 12 + j) / 12 = i := by omega
    have e2 : (i * 12 + j) % 12 = j := by omega
    rw [if_pos rfl, if_pos (by omega), List.getElem?_range (by omega)]
    simp only [Option.map_some, e1, e2, and_self, if_true]
  · rw [if_neg hk]
    by_cases h2 : k < 144
    · rw [List.getElem?_range h2]
      simp only [Option.map_some]
      rw [if_neg (by omega)]
    · rw [List.getElem?_eq_none (by simp; omega)]
      rfl
theorem readVar_map {P : Program} {t : TypeId} {cells : List CV} {off : Nat} {v : CV} (h : readVarC P t cells off = some v) : readVar P t (cells.map AV.c) off = some (.c v) := by
  unfold readVarC at h
  unfold readVar
  have hall : ∀ l : List CV, allC (l.map AV.c) = some l := by
    intro l
    induction l with
    | nil => rfl
    | cons a l ih => simp [allC, ih]
  have hsl : ∀ (l : List CV) (off n : Nat), sliceOf (l.map AV.c) off n = (sliceOf l off n).map (List.map AV.c) := by
    intro l off n
    unfold sliceOf
    simp only [← List.map_drop, ← List.map_take, List.length_map]
    split <;> rfl
  split at h
  · rename_i ha
    rw [if_pos ha]
    cases hi : P.info? t with
    | none => rw [hi] at h; cases h
    | some i =>
      rw [hi] at h
      simp only [Option.bind_some, hsl] at h ⊢
      cases hs : sliceOf cells off i.size with
      | none => rw [hs] at h; cases h
      | some l =>
        rw [hs] at h
        simp only [Option.map_some, Option.some.injEq] at h ⊢
        unfold mkAgg
        rw [hall]; exact congrArg AV.c h
  · rename_i ha
    rw [if_neg ha]
    split at h
    · rename_i hu
      rw [if_pos hu]
      simp [h]
    · cases h
theorem look_read {P : Program} {t : TypeId} {cells : List AV} {off : Nat} {v : AV} {K : AV → Prop} (h : readVar P t cells off = some v) (k : K v) : match readVar P t cells off with | some v => K v | none => False := by
  rw [h]; exact k
theorem look_put {cells : List AV} {off : Nat} {vs cs : List AV} {K : List AV → Prop} (h : putAt cells off vs = some cs) (k : K cs) : match putAt cells off vs with | some cs => K cs | none => False := by
  rw [h]; exact k
theorem put_one {cells : List AV} {off : Nat} (h : off < cells.length) (x : AV) : putAt cells off [x] = some (cells.set off x) := by
  simp only [putAt]
  rw [if_pos (by simp; omega), List.set_eq_take_append_cons_drop, if_pos h]
  simp
/-- Differences in a block. -/
def matB (d : M) : AB := .blk ((matC d).map .c)
theorem mat_read (d : M) {i j : Nat} (hi : i < 12) (hj : j < 12) : readVar Try.prog 3 ((matC d).map AV.c) (0 + (i : Int).toNat * 12 + (j : Int).toNat * 1) = some (.c (I (d i j))) := by
  refine readVar_map ?_
  rw [rv3, Int.toNat_natCast, Int.toNat_natCast, Nat.zero_add, Nat.mul_one]
  exact matC_get d hi hj
theorem mat_readC (d : M) {i j : Nat} (hi : i < 12) (hj : j < 12) : readVarC Try.prog 3 (matC d) (0 + (i : Int).toNat * 12 + (j : Int).toNat * 1) = some (I (d i j)) := by
  rw [rv3, Int.toNat_natCast, Int.toNat_natCast, Nat.zero_add, Nat.mul_one]
  exact matC_get d hi hj
theorem mat_put (d : M) {i j : Nat} (hi : i < 12) (hj : j < 12) (x : Int) : putAt ((matC d).map AV.c) (0 + (i : Int).toNat * 12 + (j : Int).toNat * 1) [.c (I x)] = some ((matC (setM d i j x)).map AV.c) := by
  have e : 0 + (i : Int).toNat * 12 + (j : Int).toNat * 1 = i * 12 + j := by rw [Int.toNat_natCast, Int.toNat_natCast]; omega
  rw [e, put_one (by rw [List.length_map, matC_len]; omega), ← matC_set d hi hj, List.map_set]

theorem matC_cellish (d : M) : ((matC d).map AV.c).all AV.cellish = true := by
  rw [List.all_eq_true]
  intro c hc
  obtain ⟨c0, h0, rfl⟩ := List.mem_map.1 hc
  unfold matC at h0
  obtain ⟨k, -, rfl⟩ := List.mem_map.1 h0
  rfl
/-- A box of a struct whose cells are not known one by one. -/
theorem box_agg {P : Program} {o : Oper} {t : TypeId} {x : Operand} {σ : Operand → AV} {rd : Nat → AB} {n : Nat} {C : List CV} (ho : o.op = .box t x) (hx : σ x = .c (.agg C)) (hc : (C.map AV.c).all AV.cellish = true) :
    aop P o σ rd n = some (.simple { val := .ptr n 0, fresh := some (.blk (C.map AV.c)) }) := by
  unfold aop
  rw [ho]
  have e : (AV.c (.agg C)).cells = C.map AV.c := rfl
  simp only [hx, abox, e, hc, if_true, simp?, Option.map_some]
theorem store_in {c : Prop} [Decidable c] {cells vs cs : List AV} {off : Nat} {K : List AV → Prop} (h0 : c) (h : putAt cells off vs = some cs) (k : K cs) : if c then (match putAt cells off vs with | some cs => K cs | none => False) else False := by
  rw [if_pos h0, h]; exact k
theorem sumOf_ret (r k : Nat) (hr : r ≤ 1) (hk : k ≤ 100) : Ret Try.prog 92 [I r, I k] (I ((r * 6 + k : Nat))) := by
  refine ret_by (hm := true) Try.func92 rfl ?_
  conv => whnf
  refine ⟨((r * 6 : Nat) : Int), by rw [wrap_eq (by omega) (by omega)]; omega, ?_⟩
  conv => whnf
  refine ⟨((r * 6 + k : Nat) : Int), by rw [wrap_eq (by omega) (by omega)]; omega, ?_⟩
  conv => whnf
  exact .val
theorem only_ret (k : Int) : Ret Try.prog 59 [I k] (.agg [I k, I k]) := by
  refine ret_by (hm := true) Try.func59 rfl ?_
  conv => whnf
  exact .val
theorem to_ret (a b : Int) (hb : -100 ≤ b ∧ b ≤ 100) : Ret Try.prog 94 [.agg [I a, I b]] (I (b + 1)) := by
  refine ret_by (hm := true) Try.func94 rfl ?_
  conv => whnf
  refine ⟨b + 1, by rw [wrap_eq (by omega) (by omega)], ?_⟩
  conv => whnf
  exact .val
theorem from_ret (a b : Int) : Ret Try.prog 131 [.agg [I a, I b]] (I a) := by
  refine ret_by (hm := true) Try.func131 rfl ?_
  conv => whnf
  exact .val
theorem rowS_ret (a b : Int) : Ret Try.prog 132 [.agg [I a, I b]] (I 0) := by
  refine ret_by (hm := true) Try.func132 rfl ?_
  conv => whnf
  exact .val
theorem rowP_ret (a b : Int) : Ret Try.prog 133 [.agg [I a, I b]] (I 1) := by
  refine ret_by (hm := true) Try.func133 rfl ?_
  conv => whnf
  exact .val
/-- Two bounds, as a slice. -/
def prCells (p : Pr) : List CV := [I p.f, I p.t, I p.hi, I p.t, I p.f, I (-p.lo)]
def prC (p : Pr) : CV := .sl (prCells p) 0 2
theorem apart_ret (f t : Nat) (lo hi : Int) (hlo : -300 ≤ lo ∧ lo ≤ 300) : Ret Try.prog 113 [I f, I t, .agg [I lo, I hi]] (prC ⟨f, t, lo, hi⟩) := by
  refine ret_by (hm := true) Try.func113 rfl ?_
  conv => whnf
  have e : IntKind.i64.wrap (0 - lo) = -lo := by rw [wrap_eq (by omega) (by omega)]; omega
  rw [e]
  exact ⟨20, [_], rfl⟩
end Go.Ag
/- Layer 5: what bounds say, and bounds that are put. -/
namespace Go.Ag
open Go.Proofs
set_option maxRecDepth 100000

def bdV (f t : Nat) (m : Int) : CV := .agg [I f, I t, I m]
structure Nar12 (d : M) : Prop where
  lo : ∀ i j, i < 12 → j < 12 → -1000 ≤ d i j
  hi : ∀ i j, i < 12 → j < 12 → d i j ≤ 1000
theorem Inv12.nar {d : M} (h : Inv12 d) : Nar12 d := ⟨fun i j hi hj => by have := h.ge hi hj; omega, fun i j hi hj => by have := h.le i j hi hj; omega⟩

theorem excludes_ret {d : M} {C : List CV} (hC : C = matC d) (hd : Nar12 d) {f t : Nat} {m : Int} (hf : f < 12) (ht : t < 12) (hm : -1000 ≤ m ∧ m ≤ 1000) : Ret Try.prog 82 [.agg C, bdV f t m] (B (decide (d t f + m < 0))) := by
  have h1 := hd.lo t f ht hf; have h2 := hd.hi t f ht hf
  have hr := mat_read d ht hf
  have hce := matC_cellish d
  rw [← hC] at hr hce
  refine ret_by (hm := true) Try.func82 rfl ?_
  conv => whnf
  rw [box_agg (C := C)]; rotate_left; rfl; rfl; exact hce
  conv => whnf
  refine forceL_intro ?_
  conv => whnf
  refine draw_by (hm := true) (by kernel_rfl) (by kernel_rfl) ?_
  conv => whnf
  refine ⟨⟨by decide, by omega, by omega⟩, ?_⟩
  conv => whnf
  refine ⟨⟨by decide, by omega, by omega⟩, ?_⟩
  conv => whnf
  refine look_read hr ?_
  conv => whnf
  refine ⟨d t f + m, by rw [wrap_eq (by omega) (by omega)], ?_⟩
  conv => whnf
  refine ⟨by kernel_rfl, ?_⟩
  conv => whnf
  exact .val
theorem misses_ret {d : M} {C : List CV} (hC : C = matC d) {f t : Nat} {m : Int} (hf : f < 12) (ht : t < 12) : Ret Try.prog 83 [.agg C, bdV f t m] (B (decide (m < d f t))) := by
  have hr := mat_read d hf ht
  have hce := matC_cellish d
  rw [← hC] at hr hce
  refine ret_by (hm := true) Try.func83 rfl ?_
  conv => whnf
  rw [box_agg (C := C)]; rotate_left; rfl; rfl; exact hce
  conv => whnf
  refine forceL_intro ?_
  conv => whnf
  refine draw_by (hm := true) (by kernel_rfl) (by kernel_rfl) ?_
  conv => whnf
  refine ⟨⟨by decide, by omega, by omega⟩, ?_⟩
  conv => whnf
  refine ⟨⟨by decide, by omega, by omega⟩, ?_⟩
  conv => whnf
  refine look_read hr ?_
  conv => whnf
  refine ⟨by kernel_rfl, ?_⟩
  conv => whnf
  exact .val
def spV (s : Int × Int) : CV := .agg [I s.1, I s.2]
theorem between_ret {d : M} {C : List CV} (hC : C = matC d) (hd : Nar12 d) {f t : Nat} (hf : f < 12) (ht : t < 12) : Ret Try.prog 91 [.agg C, I f, I t] (spV (spanD d f t)) := by
  have h1 := hd.lo t f ht hf; have h2 := hd.hi t f ht hf
  have hr := mat_read d hf ht
  have hr2 := mat_read d ht hf
  have hce := matC_cellish d
  rw [← hC] at hr hr2 hce
  refine ret_by (hm := true) Try.func91 rfl ?_
  conv => whnf
  rw [box_agg (C := C)]; rotate_left; rfl; rfl; exact hce
  conv => whnf
  refine forceL_intro ?_
  conv => whnf
  refine draw_by (hm := true) (by kernel_rfl) (by kernel_rfl) ?_
  conv => whnf
  refine ⟨⟨by decide, by omega, by omega⟩, ?_⟩
  conv => whnf
  refine ⟨⟨by decide, by omega, by omega⟩, ?_⟩
  conv => whnf
  refine look_read hr2 ?_
  conv => whnf
  have e : IntKind.i64.wrap (0 - d t f) = -d t f := by rw [wrap_eq (by omega) (by omega)]; omega
  rw [e]
  refine ⟨⟨by decide, by omega, by omega⟩, ?_⟩
  conv => whnf
  refine ⟨⟨by decide, by omega, by omega⟩, ?_⟩
  conv => whnf
  refine look_read hr ?_
  conv => whnf
  refine ⟨(show 1 < 2 by decide), ?_⟩
  conv => whnf
  refine ⟨by kernel_rfl, ?_⟩
  conv => whnf
  exact .val
end Go.Ag
/- Layer 5: bounds that are put. -/
namespace Go.Ag
open Go.Proofs
set_option maxRecDepth 100000

/-- So many entries have been gone through. -/
def hyb (e : M) (f t : Nat) (m : Int) (p : Nat) : M := fun a b => if a * 12 + b < p then putM e f t m a b else e a b
theorem hyb_zero (e : M) (f t : Nat) (m : Int) : matC (hyb e f t m 0) = matC e := matC_congr fun i j _ _ => by simp [hyb]
theorem hyb_all (e : M) (f t : Nat) (m : Int) : matC (hyb e f t m 144) = matC (putM e f t m) := matC_congr fun i j hi hj => by
  unfold hyb; rw [if_pos (by omega)]
theorem hyb_col {e : M} {f t : Nat} {m : Int} (hc : 0 ≤ e t f + m) (p i : Nat) : hyb e f t m p i f = e i f := by
  unfold hyb putM
  split <;> omega
theorem hyb_row {e : M} {f t : Nat} {m : Int} (hc : 0 ≤ e t f + m) (p j : Nat) : hyb e f t m p t j = e t j := by
  unfold hyb putM
  split <;> omega
theorem hyb_here (e : M) (f t : Nat) (m : Int) (i j : Nat) : hyb e f t m (i * 12 + j) i j = e i j := by
  unfold hyb
  rw [if_neg (by omega)]
theorem hyb_set (e : M) (f t : Nat) (m : Int) {i j : Nat} (hi : i < 12) (hj : j < 12) : matC (setM (hyb e f t m (i * 12 + j)) i j (min (e i j) (e i f + m + e t j))) = matC (hyb e f t m (i * 12 + j + 1)) := matC_congr fun a b ha hb => by
  unfold setM hyb
  by_cases h : a = i ∧ b = j
  · obtain ⟨rfl, rfl⟩ := h
    rw [if_pos ⟨rfl, rfl⟩, if_pos (by omega)]; rfl
  · rw [if_neg h]
    by_cases h2 : a * 12 + b < i * 12 + j
    · rw [if_pos h2, if_pos (by omega)]
    · rw [if_neg h2, if_neg (by omega)]

def putQ (d : M) (p : Pr) : Nat → M
  | 0 => d
  | 1 => putM d p.f p.t p.hi
  | _ => putM (putM d p.f p.t p.hi) p.t p.f (-p.lo)

theorem read84 {C : List CV} (h : C.length = 144) : readVarC Try.prog 84 C 0 = some (.agg C) := by
  have : sliceOf C 0 144 = some C := by
    simp only [sliceOf, List.drop_zero]
    rw [List.take_of_length_le (by omega), if_pos h]
  show (sliceOf C 0 144).map CV.agg = _
  rw [this]; rfl
theorem put_all {cells vs : List AV} (h : cells.length = vs.length) : putAt cells 0 vs = some vs := by
  simp only [putAt, Nat.zero_add]
  rw [if_pos (by omega)]
  simp [← h]
theorem sz84 : ∀ (C : List CV) (hC : C.length = 144) (hc : (C.map AV.c).all AV.cellish = true), (AV.c (.agg C)).cells.length = 144 ∧ (AV.c (.agg C)).cells.all AV.cellish = true := fun C hC hc => ⟨by show (C.map AV.c).length = 144; rw [List.length_map, hC], hc⟩

set_option maxHeartbeats 1000000 in
theorem put_ret {d : M} {C : List CV} (hC : C = matC d) (hd : Inv12 d) {p : Pr} (hp : p.good) (c1 : 0 ≤ d p.t p.f + p.hi) (c2 : 0 ≤ d p.f p.t + -p.lo) : Ret Try.prog 84 [.agg C, prC p] (matV (putM (putM d p.f p.t p.hi) p.t p.f (-p.lo))) := by
  have hle := hp.le; have hf := hp.f; have ht := hp.t; have hlo := hp.lo; have hhi := hp.hi
  have e1 := hd.self p.f hf; have e2 := hd.self p.t ht
  have hiv : ∀ q, q ≤ 1 → Inv12 (putQ d p q) := by
    intro q hq
    obtain rfl | rfl : q = 0 ∨ q = 1 := by omega
    · exact hd
    · exact put_inv hd hf ht c1
  have hce := matC_cellish d
  refine ret_by (hm := false) Try.func84 rfl ?_
  conv => whnf
  rw [box_agg (C := C)]; rotate_left; rfl; rfl; rw [hC]; exact hce
  conv => whnf
  refine forceL_intro ?_
  conv => whnf
  refine loop_by (I := fun n st => ∃ (q : Nat) (h : Heap) (Z : List AV), q ≤ 2 ∧ n = 2 - q ∧ Heap.at h 0 = matB (putQ d p q) ∧ Heap.at h 1 = .blk Z ∧ Z.length = 144 ∧ h.n = 2 + q ∧ Has st 51 [(2, .ptr 0 0), (4, .ptr 1 0), (9, .c (prC p)), (10, .c (I 2)), (11, .c (I q))] [] none h) ?_ (k := 2)
    ⟨0, _, _, Nat.zero_le _, rfl, by rw [hC]; rfl, rfl, rfl, rfl, rfl, ⟨rfl, rfl, rfl, rfl, rfl, trivial⟩, rfl, rfl, rfl, rfl⟩
  rintro n st ⟨q, h, Z, hq, rfl, k0, k1, hZ, hn, hs1⟩
  refine hs1.run (hm := false) ?_
  conv => whnf
  cases hc : decide ((q : Int) < 2)
  case true =>
    have hq : q ≤ 1 := by simp at hc; omega
    have hrow : ∃ f t m, readVarC Try.prog 129 (prCells p) (0 + (q : Int).toNat * 3) = some (bdV f t m) ∧ f < 12 ∧ t < 12 ∧ -300 ≤ m ∧ m ≤ 300 ∧ 0 ≤ putQ d p q t f + m ∧ putQ d p (q + 1) = putM (putQ d p q) f t m := by
      obtain rfl | rfl : q = 0 ∨ q = 1 := by omega
      · exact ⟨p.f, p.t, p.hi, rfl, hf, ht, by omega, by omega, c1, rfl⟩
      · refine ⟨p.t, p.f, -p.lo, rfl, ht, hf, by omega, by omega, ?_, rfl⟩
        simp only [putQ, putM]; omega
    obtain ⟨f, t, m, hrd, hf, ht, m1, m2, hcc, hnext⟩ := hrow
    have hinv := hiv q hq
    obtain ⟨e, he⟩ : ∃ e, e = putQ d p q := ⟨_, rfl⟩
    rw [← he] at hcc hnext hinv k0
    conv => whnf
    refine ⟨⟨by omega, by omega⟩, ?_⟩
    conv => whnf
    refine ⟨_, hrd, ?_⟩
    conv => whnf
    refine ⟨_, at_push_self _ _, ?_⟩
    conv => whnf
    refine loop_by (I := fun n st => ∃ (i : Nat) (h2 : Heap), i ≤ 12 ∧ n = 12 - i ∧ Heap.at h2 0 = matB (hyb e f t m (i * 12)) ∧ Heap.at h2 1 = .blk Z ∧ Heap.at h2 (2 + q) = .blk [.c (I f), .c (I t), .c (I m)] ∧ h2.n = 3 + q ∧ Has st 51 [(2, .ptr 0 0), (4, .ptr 1 0), (6, .ptr (2 + q) 0), (9, .c (prC p)), (10, .c (I 2)), (11, .c (I q)), (15, .c (I i))] [] none h2) ?_ (k := 12)
      ⟨0, _, Nat.zero_le _, rfl, ?_, (at_old _ _ _ (by omega)).trans k1, by rw [← hn]; exact at_new _ _ _, by rw [new_n]; omega, rfl, ⟨rfl, rfl, by rw [← hn]; rfl, rfl, rfl, rfl, rfl, trivial⟩, rfl, rfl, rfl, rfl⟩
    rotate_left
    · rw [at_old _ _ _ (by omega), k0]
      show AB.blk _ = AB.blk _
      rw [Nat.zero_mul, hyb_zero]
    rintro n st ⟨i, h2, hi, rfl, l0, l1, l2, ln, hs2⟩
    refine hs2.run (hm := false) ?_
    conv => whnf
    cases hc2 : decide ((i : Int) < 12)
    case true =>
      have hi : i < 12 := by simp at hc2; omega
      conv => whnf
      refine loop_by (I := fun n st => ∃ (j : Nat) (h3 : Heap), j ≤ 12 ∧ n = 12 - j ∧ Heap.at h3 0 = matB (hyb e f t m (i * 12 + j)) ∧ Heap.at h3 1 = .blk Z ∧ Heap.at h3 (2 + q) = .blk [.c (I f), .c (I t), .c (I m)] ∧ h3.n = 3 + q ∧ Has st 51 [(2, .ptr 0 0), (4, .ptr 1 0), (6, .ptr (2 + q) 0), (7, .c (I i)), (9, .c (prC p)), (10, .c (I 2)), (11, .c (I q)), (15, .c (I i)), (18, .c (I j))] [] none h3) ?_ (k := 12)
        ⟨0, _, Nat.zero_le _, rfl, l0, l1, l2, ln, rfl, ⟨rfl, rfl, rfl, rfl, rfl, rfl, rfl, rfl, rfl, trivial⟩, rfl, rfl, rfl, rfl⟩
      rintro n st ⟨j, h3, hj, rfl, m0, m1', m2', mn, hs3⟩
      refine hs3.run (hm := false) ?_
      conv => whnf
      cases hc3 : decide ((j : Int) < 12)
      case true =>
        have hj : j < 12 := by simp at hc3; omega
        obtain ⟨D, hD⟩ : ∃ D, D = matC (hyb e f t m (i * 12 + j)) := ⟨_, rfl⟩
        have m0' : Heap.at h3 0 = .blk (D.map .c) := by rw [m0, hD]; rfl
        have r1 := mat_read (hyb e f t m (i * 12 + j)) hi hj
        have r2 := mat_read (hyb e f t m (i * 12 + j)) hi hf
        have r3 := mat_read (hyb e f t m (i * 12 + j)) ht hj
        rw [← hD, hyb_here] at r1
        rw [← hD, hyb_col hcc] at r2
        rw [← hD, hyb_row hcc] at r3
        have w1 := mat_put (hyb e f t m (i * 12 + j)) hi hj (min (e i j) (e i f + m + e t j))
        rw [← hD, hyb_set e f t m hi hj] at w1
        have b1 := hinv.ge hi hf; have b2 := hinv.le i f hi hf
        have b3 := hinv.ge ht hj; have b4 := hinv.le t j ht hj
        obtain ⟨b, hb⟩ : ∃ b, b = 2 + q := ⟨_, rfl⟩
        rw [← hb] at m2' hs3 ⊢
        have hbs : b = 2 ∨ b = 3 := by omega
        conv => whnf
        refine draw_by (hm := false) (by kernel_rfl) (by kernel_rfl) ?_
        conv => whnf
        refine ⟨⟨by decide, by omega, by omega⟩, ?_⟩
        conv => whnf
        refine ⟨⟨by decide, by omega, by omega⟩, ?_⟩
        conv => whnf
        refine ⟨_, m0', ?_⟩
        conv => whnf
        refine look_read r1 ?_
        conv => whnf
        refine ⟨_, m2', ?_⟩
        conv => whnf
        refine ⟨⟨by decide, by omega, by omega⟩, ?_⟩
        conv => whnf
        refine ⟨⟨by decide, by omega, by omega⟩, ?_⟩
        conv => whnf
        refine ⟨_, m0', ?_⟩
        conv => whnf
        refine look_read r2 ?_
        conv => whnf
        refine ⟨_, m2', ?_⟩
        conv => whnf
        refine ⟨e i f + m, by rw [wrap_eq (by omega) (by omega)], ?_⟩
        conv => whnf
        refine ⟨_, m2', ?_⟩
        conv => whnf
        refine ⟨⟨by decide, by omega, by omega⟩, ?_⟩
        conv => whnf
        refine ⟨⟨by decide, by omega, by omega⟩, ?_⟩
        conv => whnf
        refine ⟨_, m0', ?_⟩
        conv => whnf
        refine look_read r3 ?_
        conv => whnf
        refine ⟨e i f + m + e t j, by rw [wrap_eq (by omega) (by omega)], ?_⟩
        conv => whnf
        refine ⟨⟨by decide, by omega, by omega⟩, ?_⟩
        conv => whnf
        refine ⟨⟨by decide, by omega, by omega⟩, ?_⟩
        conv => whnf
        refine ⟨_, m0', ?_⟩
        conv => whnf
        refine look_put w1 ?_
        conv => whnf
        refine ⟨(show 0 < h3.n by omega), ?_⟩
        conv => whnf
        refine ⟨?_, ?_⟩
        · rcases hbs with rfl | rfl
          · kernel_rfl
          · kernel_rfl
        conv => whnf
        refine ⟨((j + 1 : Nat) : Int), by rw [wrap_eq (by omega) (by omega)]; omega, ?_⟩
        conv => whnf
        refine ⟨12 - (j + 1), by omega, j + 1, _, by omega, rfl, ?_, ?_, ?_, ?_, rfl, ⟨rfl, rfl, rfl, rfl, rfl, rfl, rfl, rfl, rfl, trivial⟩, rfl, rfl, rfl, rfl⟩
        · exact (at_set_self _ _ (i := 0) (by omega)).trans rfl
        · exact (at_set_ne _ _ (i := 1) (k := 0) (by omega)).trans m1'
        · exact (at_set_ne _ _ (i := b) (k := 0) (by omega)).trans m2'
        · rw [TMap.set_n]; exact mn
      have : j = 12 := by simp at hc3; omega
      subst this
      conv => whnf
      refine ⟨((i + 1 : Nat) : Int), by rw [wrap_eq (by omega) (by omega)]; omega, ?_⟩
      conv => whnf
      exact ⟨12 - (i + 1), by omega, i + 1, h3, by omega, rfl, by rw [m0, show (i + 1) * 12 = i * 12 + 12 by omega], m1', m2', mn, rfl, ⟨rfl, rfl, rfl, rfl, rfl, rfl, rfl, trivial⟩, rfl, rfl, rfl, rfl⟩
    have : i = 12 := by simp at hc2; omega
    subst this
    conv => whnf
    refine ⟨((q + 1 : Nat) : Int), by rw [wrap_eq (by omega) (by omega)]; omega, ?_⟩
    conv => whnf
    have hfin : Heap.at h2 0 = matB (putQ d p (q + 1)) := by
      rw [l0, hnext]
      show AB.blk _ = AB.blk _
      rw [hyb_all]
    exact ⟨2 - (q + 1), by omega, q + 1, h2, Z, by omega, rfl, hfin, l1, hZ, by omega, rfl, ⟨rfl, rfl, rfl, rfl, rfl, trivial⟩, rfl, rfl, rfl, rfl⟩
  have : q = 2 := by simp at hc; omega
  subst this
  obtain ⟨D, hD⟩ : ∃ D, D = matC (putQ d p 2) := ⟨_, rfl⟩
  have k0' : Heap.at h 0 = .blk (D.map .c) := by rw [k0, hD]; rfl
  have hlen : D.length = 144 := by rw [hD, matC_len]
  have hcell : (D.map AV.c).all AV.cellish = true := by rw [hD]; exact matC_cellish _
  have hres : matV (putM (putM d p.f p.t p.hi) p.t p.f (-p.lo)) = .agg D := by rw [hD]; rfl
  rw [hres]
  conv => whnf
  refine ⟨_, k0', ?_⟩
  conv => whnf
  refine look_read (readVar_map (read84 hlen)) ?_
  conv => whnf
  refine ⟨_, k1, ?_⟩
  conv => whnf
  refine store_in (sz84 D hlen hcell) (put_all (by show Z.length = (D.map AV.c).length; rw [hZ, List.length_map, hlen])) ?_
  conv => whnf
  refine forceL_intro ?_
  conv => whnf
  refine ⟨_, at_set_self _ _ (i := 1) (by omega), ?_⟩
  conv => whnf
  refine look_read (readVar_map (read84 hlen)) ?_
  conv => whnf
  exact .val
end Go.Ag
/- Layer 5: what is counted. -/
namespace Go.Ag
open Go.Proofs
set_option maxRecDepth 100000

/-- What is counted: shearers, or their pens. -/
def shV (a b : Nat) : CV := .iface 96 (.agg [I a, I b])
def peV (a b : Nat) : CV := .iface 99 (.agg [I a, I b])
def rowIf (r a b : Nat) : CV := .iface (if r = 0 then 96 else 99) (.agg [I a, I b])
theorem to_nat (a b : Nat) (hb : b ≤ 100) : Ret Try.prog 94 [.agg [I a, I b]] (I ((b + 1 : Nat))) := by
  have := to_ret a b (by omega)
  rw [show ((b + 1 : Nat) : Int) = (b : Int) + 1 by omega]
  exact this
theorem countsS_ret (a b : Nat) (lo hi : Int) (ha : a ≤ 50) (hb : b ≤ 50) (hlo : -300 ≤ lo ∧ lo ≤ 300) : Ret Try.prog 106 [shV a b, .agg [I lo, I hi]] (prC ⟨0 * 6 + a, 0 * 6 + (b + 1), lo, hi⟩) := by
  refine ret_by (hm := true) Try.func106 rfl ?_
  conv => whnf
  refine draw_by (hm := true) (by kernel_rfl) (by kernel_rfl) ?_
  conv => whnf
  refine .ret (rowS_ret _ _) rfl ?_
  conv => whnf
  refine .ret (from_ret _ _) rfl ?_
  conv => whnf
  refine .ret (sumOf_ret 0 a (by omega) (by omega)) rfl ?_
  conv => whnf
  refine .ret (rowS_ret _ _) rfl ?_
  conv => whnf
  refine .ret (to_nat _ _ (by omega)) rfl ?_
  conv => whnf
  refine .ret (sumOf_ret 0 (b + 1) (by omega) (by omega)) rfl ?_
  conv => whnf
  refine .ret (apart_ret (0 * 6 + a) (0 * 6 + (b + 1)) lo hi hlo) rfl ?_
  conv => whnf
  refine ⟨by kernel_rfl, ?_⟩
  conv => whnf
  exact .val
theorem countsP_ret (a b : Nat) (lo hi : Int) (ha : a ≤ 50) (hb : b ≤ 50) (hlo : -300 ≤ lo ∧ lo ≤ 300) : Ret Try.prog 106 [peV a b, .agg [I lo, I hi]] (prC ⟨1 * 6 + a, 1 * 6 + (b + 1), lo, hi⟩) := by
  refine ret_by (hm := true) Try.func106 rfl ?_
  conv => whnf
  refine draw_by (hm := true) (by kernel_rfl) (by kernel_rfl) ?_
  conv => whnf
  refine .ret (rowP_ret _ _) rfl ?_
  conv => whnf
  refine .ret (from_ret _ _) rfl ?_
  conv => whnf
  refine .ret (sumOf_ret 1 a (by omega) (by omega)) rfl ?_
  conv => whnf
  refine .ret (rowP_ret _ _) rfl ?_
  conv => whnf
  refine .ret (to_nat _ _ (by omega)) rfl ?_
  conv => whnf
  refine .ret (sumOf_ret 1 (b + 1) (by omega) (by omega)) rfl ?_
  conv => whnf
  refine .ret (apart_ret (1 * 6 + a) (1 * 6 + (b + 1)) lo hi hlo) rfl ?_
  conv => whnf
  refine ⟨by kernel_rfl, ?_⟩
  conv => whnf
  exact .val
theorem port_ret (k : Nat) (lo hi : Int) (hk : k ≤ 50) (hlo : -300 ≤ lo ∧ lo ≤ 300) : Ret Try.prog 106 [shV k k, .agg [I lo, I hi]] (prC (portP k lo hi)) := by
  have := countsS_ret k k lo hi hk hk hlo
  rwa [show (⟨0 * 6 + k, 0 * 6 + (k + 1), lo, hi⟩ : Pr) = portP k lo hi by simp [portP]] at this
theorem pen_ret (k : Nat) (lo hi : Int) (hk : k ≤ 50) (hlo : -300 ≤ lo ∧ lo ≤ 300) : Ret Try.prog 106 [peV k k, .agg [I lo, I hi]] (prC (penP k lo hi)) := by
  have := countsP_ret k k lo hi hk hk hlo
  rwa [show (⟨1 * 6 + k, 1 * 6 + (k + 1), lo, hi⟩ : Pr) = penP k lo hi by simp [penP]; omega] at this
theorem fleece_ret (n : Nat) (lo hi : Int) (hk : 1 ≤ n ∧ n ≤ 50) (hlo : -300 ≤ lo ∧ lo ≤ 300) : Ret Try.prog 106 [shV 0 (n - 1), .agg [I lo, I hi]] (prC ⟨0, n, lo, hi⟩) := by
  have := countsS_ret 0 (n - 1) lo hi (by omega) (by omega) hlo
  rwa [show (⟨0 * 6 + 0, 0 * 6 + (n - 1 + 1), lo, hi⟩ : Pr) = ⟨0, n, lo, hi⟩ by simp; omega] at this

theorem everyone_ret {v : TV} {n : Nat} (hn : v.n = n) (h1 : 1 ≤ n ∧ n ≤ 50) : Ret Try.prog 115 [v.cv] (.agg [I 0, I ((n - 1 : Nat))]) := by
  refine ret_by (hm := true) Try.func115 rfl ?_
  conv => whnf
  refine ⟨((n - 1 : Nat) : Int), by rw [wrap_eq (by omega) (by omega)]; omega, ?_⟩
  conv => whnf
  exact .val
/-- What a call counts, as a value. -/
def ctV (n : Nat) (c : Cl) : CV := if c.kind = 0 then shV c.pos.toNat c.pos.toNat else if c.kind = 1 then peV c.pos.toNat c.pos.toNat else shV 0 (n - 1)
theorem countedBy_ret {v : TV} {n : Nat} (hn : v.n = n) (h1 : 1 ≤ n ∧ n ≤ 50) {c : Cl} (hc : callOk n c = true) : Ret Try.prog 112 [v.cv, clV c] (ctV n c) := by
  unfold callOk at hc
  unfold ctV
  refine ret_by (hm := true) Try.func112 rfl ?_
  conv => whnf
  have e0 : (c.kind == 0) = decide (c.kind = 0) := rfl
  have e1 : (c.kind == 1) = decide (c.kind = 1) := rfl
  rw [e0]
  cases h0 : decide (c.kind = 0)
  case true =>
    rw [h0] at hc
    simp only [Bool.true_or, inB', Bool.and_eq_true, decide_eq_true_eq] at hc
    obtain ⟨k, hk⟩ : ∃ k : Nat, c.pos = k := ⟨c.pos.toNat, by omega⟩
    rw [if_pos (by simpa using h0)]
    conv => whnf
    refine .ret (only_ret _) rfl ?_
    conv => whnf
    rw [hk, Int.toNat_natCast]
    exact .val
  rw [if_neg (by simpa using h0)]
  conv => whnf
  rw [e1]
  cases h2 : decide (c.kind = 1)
  case true =>
    rw [h2] at hc
    simp only [Bool.or_true, inB', Bool.and_eq_true, decide_eq_true_eq] at hc
    obtain ⟨k, hk⟩ : ∃ k : Nat, c.pos = k := ⟨c.pos.toNat, by omega⟩
    rw [if_pos (by simpa using h2)]
    conv => whnf
    refine .ret (only_ret _) rfl ?_
    conv => whnf
    rw [hk, Int.toNat_natCast]
    exact .val
  rw [if_neg (by simpa using h2)]
  conv => whnf
  refine .ret (everyone_ret hn h1) rfl ?_
  conv => whnf
  exact .val
theorem counts_call {n : Nat} (h1 : 1 ≤ n ∧ n ≤ 5) {c : Cl} (hc : callOk n c = true) : Ret Try.prog 106 [ctV n c, .agg [I c.lo, I c.hi]] (prC (callP n c)) := by
  unfold callOk at hc
  unfold ctV callP
  split at hc
  · rename_i hk
    simp only [Bool.or_eq_true, decide_eq_true_eq] at hk
    simp only [inB', spB, Bool.and_eq_true, decide_eq_true_eq] at hc
    split
    · exact port_ret _ _ _ (by omega) (by omega)
    · rw [if_pos (by omega), if_pos (by omega)]
      exact pen_ret _ _ _ (by omega) (by omega)
  · rename_i hk
    simp only [Bool.or_eq_false_iff, decide_eq_false_iff_not] at hk
    simp only [spB, Bool.and_eq_true, decide_eq_true_eq] at hc
    rw [if_neg hk.1, if_neg hk.2, if_neg hk.1, if_neg hk.2, Int.toNat_natCast]
    exact fleece_ret n _ _ (by omega) (by omega)
theorem called_ret {v : TV} {n : Nat} (hn : v.n = n) (h1 : 1 ≤ n ∧ n ≤ 5) {c : Cl} (hc : callOk n c = true) : Ret Try.prog 96 [v.cv, clV c] (prC (callP n c)) := by
  have hcb := countedBy_ret hn (by omega) hc
  have hcc := counts_call h1 hc
  obtain ⟨ty, x, e⟩ : ∃ ty x, ctV n c = .iface ty x := by unfold ctV; split; exact ⟨_, _, rfl⟩; split <;> exact ⟨_, _, rfl⟩
  rw [e] at hcb hcc
  refine ret_by (hm := true) Try.func96 rfl ?_
  conv => whnf
  refine draw_by (hm := true) (by kernel_rfl) (by kernel_rfl) ?_
  conv => whnf
  refine .ret hcb rfl ?_
  conv => whnf
  refine .ret hcc rfl ?_
  conv => whnf
  refine ⟨by kernel_rfl, ?_⟩
  conv => whnf
  exact .val
end Go.Ag
/- Layer 5: strays, spans, sets of calls. -/
namespace Go.Ag
open Go.Proofs
set_option maxRecDepth 100000

theorem strayed_ret {v : TV} {t : Td} (hv : v.Is t) (hd : validX t = true) {k : Nat} (hk : (k : Int) ≤ t.n) : Ret Try.prog 105 [v.cv, I k] (prC (strayedP t k)) := by
  have h5 := valid_numsX hd
  have e1 := hv.sn; have e2 := hv.n
  have hgood := strayed_good hd hk
  have hap := apart_ret (1 * 6 + k) (0 * 6 + k) (strayP t k).1 (strayP t k).2 (by have := hgood.lo; have := hgood.hi; have := hgood.le; simp only [strayedP] at *; omega)
  rw [show (⟨1 * 6 + k, 0 * 6 + k, (strayP t k).1, (strayP t k).2⟩ : Pr) = strayedP t k by simp [strayedP]] at hap
  refine ret_by (hm := true) Try.func105 rfl ?_
  conv => whnf
  have fin : ∀ a b, (strayP t k) = (a, b) → ∀ x, x = prC (strayedP t k) → Ret Try.prog 113 [I (1 * 6 + k : Nat), I (0 * 6 + k : Nat), .agg [I a, I b]] x := by
    rintro a b h x rfl
    rw [h] at hap
    exact hap
  cases h0 : decide ((k : Int) > 0)
  · have hs : strayP t k = (0, 0) := by
      unfold strayP
      rw [if_neg]
      simp at h0; omega
    conv => whnf
    refine draw_by (hm := true) (by kernel_rfl) (by kernel_rfl) ?_
    conv => whnf
    refine .ret (sumOf_ret 1 k (by omega) (by omega)) rfl ?_
    conv => whnf
    refine .ret (sumOf_ret 0 k (by omega) (by omega)) rfl ?_
    conv => whnf
    refine .ret (fin 0 0 hs _ rfl) rfl ?_
    conv => whnf
    refine ⟨by kernel_rfl, ?_⟩
    conv => whnf
    exact .val
  conv => whnf
  cases h2 : decide ((k : Int) < v.n)
  · have hs : strayP t k = (0, 0) := by
      unfold strayP
      rw [if_neg]
      simp at h2; omega
    conv => whnf
    refine draw_by (hm := true) (by kernel_rfl) (by kernel_rfl) ?_
    conv => whnf
    refine .ret (sumOf_ret 1 k (by omega) (by omega)) rfl ?_
    conv => whnf
    refine .ret (sumOf_ret 0 k (by omega) (by omega)) rfl ?_
    conv => whnf
    refine .ret (fin 0 0 hs _ rfl) rfl ?_
    conv => whnf
    refine ⟨by kernel_rfl, ?_⟩
    conv => whnf
    exact .val
  have hk1 : 0 < k ∧ (k : Int) < t.n := by simp at h0 h2; omega
  obtain ⟨s, hs, h6, h7, h8⟩ := strays_ok hd hk1.1 hk1.2
  have hst : strayP t k = (s.1, s.2) := by rw [strayP, if_pos hk1, List.getD_eq_getElem?_getD, hs]; rfl
  conv => whnf
  refine ⟨((k - 1 : Nat) : Int), by rw [wrap_eq (by omega) (by omega)]; omega, ?_⟩
  conv => whnf
  refine ⟨⟨by omega, by omega⟩, ?_⟩
  conv => whnf
  refine ⟨_, hv.stray hs, ?_⟩
  conv => whnf
  refine draw_by (hm := true) (by kernel_rfl) (by kernel_rfl) ?_
  conv => whnf
  refine .ret (sumOf_ret 1 k (by omega) (by omega)) rfl ?_
  conv => whnf
  refine .ret (sumOf_ret 0 k (by omega) (by omega)) rfl ?_
  conv => whnf
  refine .ret (fin s.1 s.2 hst _ rfl) rfl ?_
  conv => whnf
  refine ⟨by kernel_rfl, ?_⟩
  conv => whnf
  exact .val

theorem countS_ret {d : M} {C : List CV} (hC : C = matC d) (hd : Nar12 d) {a b : Nat} (ha : a < 12) (hb : b + 1 < 12) : Ret Try.prog 60 [.agg C, shV a b] (spV (spanD d (0 * 6 + a) (0 * 6 + (b + 1)))) := by
  have hce := matC_cellish d
  rw [← hC] at hce
  have hlen : C.length = 144 := by rw [hC, matC_len]
  refine ret_by (hm := true) Try.func60 rfl ?_
  conv => whnf
  rw [box_agg (C := C)]; rotate_left; rfl; rfl; exact hce
  conv => whnf
  refine forceL_intro ?_
  conv => whnf
  refine draw_by (hm := true) (by kernel_rfl) (by kernel_rfl) ?_
  conv => whnf
  refine look_read (readVar_map (read84 hlen)) ?_
  conv => whnf
  refine .ret (rowS_ret _ _) rfl ?_
  conv => whnf
  refine .ret (from_ret _ _) rfl ?_
  conv => whnf
  refine .ret (sumOf_ret 0 a (by omega) (by omega)) rfl ?_
  conv => whnf
  refine .ret (rowS_ret _ _) rfl ?_
  conv => whnf
  refine .ret (to_nat _ _ (by omega)) rfl ?_
  conv => whnf
  refine .ret (sumOf_ret 0 (b + 1) (by omega) (by omega)) rfl ?_
  conv => whnf
  refine .ret (between_ret hC hd (f := 0 * 6 + a) (t := 0 * 6 + (b + 1)) (by omega) (by omega)) rfl ?_
  conv => whnf
  refine ⟨(show 1 < 2 by decide), ?_⟩
  conv => whnf
  refine ⟨by kernel_rfl, ?_⟩
  conv => whnf
  exact .val
theorem countP_ret {d : M} {C : List CV} (hC : C = matC d) (hd : Nar12 d) {a b : Nat} (ha : a < 6) (hb : b + 1 < 6) : Ret Try.prog 60 [.agg C, peV a b] (spV (spanD d (1 * 6 + a) (1 * 6 + (b + 1)))) := by
  have hce := matC_cellish d
  rw [← hC] at hce
  have hlen : C.length = 144 := by rw [hC, matC_len]
  refine ret_by (hm := true) Try.func60 rfl ?_
  conv => whnf
  rw [box_agg (C := C)]; rotate_left; rfl; rfl; exact hce
  conv => whnf
  refine forceL_intro ?_
  conv => whnf
  refine draw_by (hm := true) (by kernel_rfl) (by kernel_rfl) ?_
  conv => whnf
  refine look_read (readVar_map (read84 hlen)) ?_
  conv => whnf
  refine .ret (rowP_ret _ _) rfl ?_
  conv => whnf
  refine .ret (from_ret _ _) rfl ?_
  conv => whnf
  refine .ret (sumOf_ret 1 a (by omega) (by omega)) rfl ?_
  conv => whnf
  refine .ret (rowP_ret _ _) rfl ?_
  conv => whnf
  refine .ret (to_nat _ _ (by omega)) rfl ?_
  conv => whnf
  refine .ret (sumOf_ret 1 (b + 1) (by omega) (by omega)) rfl ?_
  conv => whnf
  refine .ret (between_ret hC hd (f := 1 * 6 + a) (t := 1 * 6 + (b + 1)) (by omega) (by omega)) rfl ?_
  conv => whnf
  refine ⟨(show 1 < 2 by decide), ?_⟩
  conv => whnf
  refine ⟨by kernel_rfl, ?_⟩
  conv => whnf
  exact .val
theorem strays_ret {d : M} {C : List CV} (hC : C = matC d) (hd : Nar12 d) {k : Nat} (hk : k + 1 < 6) : Ret Try.prog 63 [.agg C, .agg [I k, I k]] (spV (spanD d (1 * 6 + (k + 1)) (0 * 6 + (k + 1)))) := by
  have hce := matC_cellish d
  rw [← hC] at hce
  have hlen : C.length = 144 := by rw [hC, matC_len]
  refine ret_by (hm := true) Try.func63 rfl ?_
  conv => whnf
  rw [box_agg (C := C)]; rotate_left; rfl; rfl; exact hce
  conv => whnf
  refine forceL_intro ?_
  conv => whnf
  refine draw_by (hm := true) (by kernel_rfl) (by kernel_rfl) ?_
  conv => whnf
  refine look_read (readVar_map (read84 hlen)) ?_
  conv => whnf
  refine .ret (to_nat _ _ (by omega)) rfl ?_
  conv => whnf
  refine .ret (sumOf_ret 1 (k + 1) (by omega) (by omega)) rfl ?_
  conv => whnf
  refine .ret (to_nat _ _ (by omega)) rfl ?_
  conv => whnf
  refine .ret (sumOf_ret 0 (k + 1) (by omega) (by omega)) rfl ?_
  conv => whnf
  refine .ret (between_ret hC hd (f := 1 * 6 + (k + 1)) (t := 0 * 6 + (k + 1)) (by omega) (by omega)) rfl ?_
  conv => whnf
  refine ⟨(show 2 < 3 by decide), ?_⟩
  conv => whnf
  refine ⟨by kernel_rfl, ?_⟩
  conv => whnf
  exact .val

/-! Sets of calls. -/
def chV (s : Nat) : CV := .agg [I s]
theorem has_ret (s n : Nat) (hs : s < 2 ^ 63) (hn : n < 64) : Ret Try.prog 107 [chV s, I n] (B (s.testBit n)) := by
  refine ret_by (hm := true) Try.func107 rfl ?_
  conv => whnf
  refine ⟨by omega, _, shr_nat s n hn, ?_⟩
  conv => whnf
  refine ⟨_, and_nat (b := 1) (Nat.lt_of_le_of_lt (Nat.shiftRight_le s n) hs) (by omega), ?_⟩
  conv => whnf
  rw [bit_nat]
  exact .val
/-- The one without the other one. -/
def diffN (a b : Nat) : Nat := a ^^^ (a &&& b)
theorem diffN_bit (a b i : Nat) : (diffN a b).testBit i = (a.testBit i && !b.testBit i) := by
  unfold diffN
  rw [Nat.testBit_xor, Nat.testBit_and]
  cases a.testBit i <;> cases b.testBit i <;> rfl
theorem diffN_lt {a b n : Nat} (ha : a < 2 ^ n) : diffN a b < 2 ^ n := by
  unfold diffN
  exact Nat.xor_lt_two_pow ha (Nat.lt_of_le_of_lt Nat.and_le_left ha)
theorem andNot_nat {a b : Nat} (ha : a < 2 ^ 63) (hb : b < 2 ^ 63) : IntKind.i64.wrap ((BitVec.ofInt 64 (a : Int) &&& ~~~BitVec.ofInt 64 (b : Int)).toNat : Int) = ((diffN a b : Nat) : Int) := by
  have e : (BitVec.ofInt 64 (a : Int) &&& ~~~BitVec.ofInt 64 (b : Int)).toNat = diffN a b := by
    apply Nat.eq_of_testBit_eq
    intro i
    rw [diffN_bit, BitVec.testBit_toNat, BitVec.getLsbD_and, BitVec.getLsbD_not, ← BitVec.testBit_toNat, ← BitVec.testBit_toNat, ofInt_nat a ha, ofInt_nat b hb]
    by_cases hi : i < 64
    · simp [hi]
    · have : a.testBit i = false := Nat.testBit_lt_two_pow (Nat.lt_of_lt_of_le ha (Nat.pow_le_pow_right (by omega) (by omega)))
      simp [this]
  rw [e]
  exact wrap_nat (diffN_lt ha)
theorem without_ret (a b : Nat) (ha : a < 2 ^ 63) (hb : b < 2 ^ 63) : Ret Try.prog 101 [chV a, chV b] (chV (diffN a b)) := by
  refine ret_by (hm := true) Try.func101 rfl ?_
  conv => whnf
  refine ⟨_, andNot_nat ha hb, ?_⟩
  conv => whnf
  exact .val
end Go.Ag
