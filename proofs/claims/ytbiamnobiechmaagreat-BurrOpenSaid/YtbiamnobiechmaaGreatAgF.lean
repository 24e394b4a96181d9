/- Calls one after the other, values of one's own handed over, a new variable beside calls that write. No conditions. -/
import Derived.Test.YtbiamnobiechmaaGreatAgE
/- Statement by statement: what follows is kept out of the way. -/
namespace Go.Ag

/-- What code comes to; what it is not looked into. -/
inductive Then (P : Program) (c : Code) (s : ASt) (K : AExit → ASt → Prop) : Prop
  | mk (h : T P (.code c) s K)

section
variable {P : Program}

theorem then_seq {hm : Bool} {a b : Code} {s : ASt} {K : AExit → ASt → Prop} (h : wCode P hm a s fun e s1 => match e with | .normal => Then P b s1 K | e => K e s1) : Then P (.seq a b) s K := by
  refine ⟨T_seq ((wCode_ok a s _ h).mono ?_)⟩
  intro e s1 h
  cases e with
  | normal => exact h.1
  | exit i => exact h
  | ret => exact h
  | panic v => exact h
/-- All that matters behind a statement. -/
theorem then_via {hm : Bool} {a b : Code} {s : ASt} {K : AExit → ASt → Prop} (A : ASt → Prop) (h : wCode P hm a s fun e s1 => match e with | .normal => A s1 | e => K e s1) (k : ∀ s1, A s1 → Then P b s1 K) : Then P (.seq a b) s K := by
  refine ⟨T_seq ((wCode_ok a s _ h).mono ?_)⟩
  intro e s1 h
  cases e with
  | normal => exact (k s1 h).1
  | exit i => exact h
  | ret => exact h
  | panic v => exact h
theorem then_end {hm : Bool} {c : Code} {s : ASt} {K : AExit → ASt → Prop} (h : wCode P hm c s K) : Then P c s K := ⟨wCode_ok c s K h⟩
theorem Has.then {s : ASt} {n : Nat} {l : List (Tmp × AV)} {ds : List ADef} {rd : Option Nat} {h : Heap} (hs : Has s n l ds rd h) {c : Code} {K : AExit → ASt → Prop} (hk : knownK n l fun t => Then P c ⟨t, ds, .no, rd, h⟩ K) : Then P c s K := by
  rw [knownK_eq] at hk
  exact ⟨hk.1.weak hs.weak⟩
theorem call_thenP {hm : Bool} {f : FuncId} {fn : Func} {body : Code} {args : List AV} {h : Heap} {pan : Pan} {Q : AEnd → Heap → Pan → Prop} (hf : P.funcs[f]? = some fn) (hb : fn.body = some body)
    (hw : initK args (fn.ntmps - args.length) fun t => Then P body ⟨t, [], pan, none, h⟩ (fun e s => endP hm P fn Q e s)) : ∃ e h' p', CallOk P f args h pan e h' p' ∧ Q e h' p' := by
  rw [initK_eq] at hw
  obtain ⟨⟨e, s1, h1, h3⟩⟩ := hw
  unfold endP at h3
  split at h3
  · exact h3.elim
  rename_i mode hmode
  obtain ⟨mode', h2, hd, h4⟩ := defW_ok h3
  have ok := ok_call hf hb h1 hmode hd
  cases mode' with
  | none =>
    obtain ⟨vs, hv, h5⟩ := resK_ok h4
    refine ⟨.ret (oneOf vs), h2, s1.pan, ok.1 _ rfl ?_, h5⟩
    rw [← readResultsF_eq]
    unfold readResultsF oneOf
    rw [hv]
    cases vs with
    | nil => rfl
    | cons a l => cases l <;> rfl
  | some v => exact ⟨.panic v, h2, s1.pan, ok.2 v rfl, h4⟩
theorem call_then {hm : Bool} {f : FuncId} {fn : Func} {body : Code} {args : List AV} {h : Heap} {Q : AEnd → Heap → Prop} (hf : P.funcs[f]? = some fn) (hb : fn.body = some body)
    (hw : initK args (fn.ntmps - args.length) fun t => Then P body ⟨t, [], .no, none, h⟩ (fun e s => endW hm P fn Q e s)) : ∃ e h', CallOk P f args h .no e h' .no ∧ Q e h' := by
  obtain ⟨e, h', p', h1, h2⟩ := call_thenP hf hb hw
  unfold noPan at h2
  split at h2
  · exact ⟨e, h', h1, h2⟩
  · exact h2.elim
theorem ret_then {hm : Bool} {f : FuncId} {fn : Func} {body : Code} {args : List CV} {v : CV} (hf : P.funcs[f]? = some fn) (hb : fn.body = some body)
    (hw : initK (args.map .c) (fn.ntmps - (args.map AV.c).length) fun t => Then P body ⟨t, [], .no, none, TMap.nil⟩ (fun e s => endW hm P fn (fun e h' => retW v e h') e s)) : Ret P f args v := by
  obtain ⟨e, h', h1, h2⟩ := call_then hf hb hw
  cases e with
  | panic _ => exact h2.elim
  | ret u =>
    obtain ⟨fuel, ids, h3⟩ := (h2 : RetW v u h')
    exact callOk_close h1 (r := (v, ids)) h3
end

/-- An append in a region that draws: what follows sees the heap as it is named. -/
theorem dgot {P : Program} {hm : Bool} {ops : Array Oper} {rest : List Nat} {tmps : TMap AV} {ds : List ADef} {p : Pan} {rd : Option Nat} {h : Heap} {o : Oper} {i : Nat} {l : List DRec} {K : List DRec → ASt → Prop} {X : Option SOut} {r : SOut} {H : Heap}
    (hX : X = some r) (hb : r.upds.all (fun p => decide (p.1 < h.n)) = true) (hH : (Heap.upd h r.upds).app .dead r.fresh.toList = H)
    (k : putK tmps o.dst r.val fun t => dOps P hm ops rest ⟨t, ds, p, rd, H⟩ (⟨i, o.dst, o.looksAt ops, r.val, r.reads, r.upds, r.fresh, h.n, none⟩ :: l) K) :
    Got X fun r => Both (r.upds.all (fun p => decide (p.1 < h.n)) = true) (dOps P hm ops rest ((ASt.mk tmps ds p rd h).apply o.dst r) (⟨i, o.dst, o.looksAt ops, r.val, r.reads, r.upds, r.fresh, h.n, none⟩ :: l) K) := by
  rw [putK_eq] at k
  refine ⟨r, hX, hb, ?_⟩
  unfold ASt.apply
  dsimp only
  rw [hH]
  cases hd : o.dst with
  | none => rw [hd] at k; exact k
  | some d => rw [hd] at k; exact k
end Go.Ag
/- A region whose order is open, in which a call that writes and an allocation may change places. -/
namespace Go.Ag
section
variable {P : Program} {ops : Array Oper}

/-- A pointer to a block that is not yet seen. -/
structure Late (g : G) (H : Nat → AB) (fr : Frame) (w : World) (d : Tmp) (v : Value) (sp : Spot) (o : Obj) : Prop where
  tmp : fr.tmps[d]? = some v ∨ fr.tmps.size ≤ d
  blk : w.heap[sp.blk]? = some o
  own : ¬ Own g H sp.blk
  fro : g.Φ sp.blk = none

theorem Late.step {g g1 : G} {s s1 : ASt} {fr fr1 : Frame} {w w1 : World} {d : Tmp} {v : Value} {sp : Spot} {o : Obj} (h : Late g (Heap.at s.h) fr w d v sp o) (hev : Evolves g (Heap.at s.h) w g1 (Heap.at s1.h) w1) (ht : fr1.tmps[d]? = fr.tmps[d]?) (hs : fr1.tmps.size = fr.tmps.size) : Late g1 (Heap.at s1.h) fr1 w1 d v sp o := by
  have hlt : sp.blk < w.heap.size := by
    have := h.blk
    exact (Array.getElem?_eq_some_iff.1 this).1
  refine ⟨by rw [ht, hs]; exact h.tmp, by rw [hev.keep _ hlt h.own]; exact h.blk, fun ho => ?_, ?_⟩
  · rcases hev.own _ ho with h1 | h1
    · exact h.own h1
    · omega
  · cases hf : g1.Φ sp.blk with
    | none => rfl
    | some o' =>
      rcases hev.fro _ _ hf with h1 | h1 | h1
      · rw [h.fro] at h1; cases h1
      · exact absurd h1 h.own
      · omega

/-- The same but for a temporary. -/
structure But (d : Tmp) (x : XSt) (s : ASt) : Prop where
  n : s.tmps.n = x.n
  T : ∀ t, t ≠ d → s.tmps.get .undef t = x.T t
  h : s.h = x.h

theorem But.req {d : Tmp} {x : XSt} {s : ASt} {m : MRec} (b : But d x s) (h : m.req x) (hd : d ∉ m.looks) : m.req s.x := by
  refine ⟨fun t ht => (b.T t (by rintro rfl; exact hd ht)).trans (h.1 t ht), ?_⟩
  have h2 := h.2
  cases hk : m.kind with
  | none => rw [hk] at h2; intro r hr; show Heap.at s.h r = _; rw [b.h]; exact h2 r hr
  | some p => rw [hk] at h2; show s.h = _; rw [b.h]; exact h2
theorem But.on {d : Tmp} {x : XSt} {s : ASt} {m : MRec} (b : But d x s) : But d (m.on x) (({ s with h := m.heapOf s.h } : ASt).put m.dst m.val) := by
  have e := put_x (s := s) (m := m)
  refine ⟨?_, fun t ht => ?_, ?_⟩
  · have := congrArg XSt.n e
    exact this.trans b.n
  · have h1 : (({ s with h := m.heapOf s.h } : ASt).put m.dst m.val).tmps.get .undef t = (m.on s.x).T t := congrFun (congrArg XSt.T e) t
    rw [h1]
    unfold MRec.on
    cases hd : m.dst with
    | none => exact b.T t ht
    | some d' =>
      show (if t = d' ∧ d' < s.x.n then m.val else s.x.T t) = if t = d' ∧ d' < x.n then m.val else x.T t
      have : s.x.n = x.n := b.n
      rw [this]
      split
      · rfl
      · exact b.T t ht
  · have := congrArg XSt.h e
    refine this.trans ?_
    unfold MRec.on
    show (match m.kind with | none => s.x.h | some p => p.2) = match m.kind with | none => x.h | some p => p.2
    cases m.kind with
    | none => exact b.h
    | some p => rfl

/-- What is run while a block is not yet seen. -/
theorem late_run {d : Tmp} : ∀ {L : List MRec} {x x' : XSt}, XSteps L x x' → (∀ m ∈ L, Ev P ops m) → (∀ m ∈ L, m.pan = none) → (∀ m ∈ L, m.dst ≠ some d ∧ d ∉ m.looks) →
    ∀ {s : ASt}, But d x s → ∀ {g : G} {fr : Frame} {cs base : List Frame} {w : World} {k : List Item} {rest : List Nat} {v : Value} {sp : Spot} {o : Obj}, StRel P g s fr w → CsRel g s.pan fr.kind cs base → fr.todo = .inRegion ops (L.map (·.idx) ++ rest) :: k → fr.mode = .run → Late g (Heap.at s.h) fr w d v sp o →
    ∃ g1 s1 fr1 w1, But d x' s1 ∧ s1.defers = s.defers ∧ s1.pan = s.pan ∧ s1.round = s.round ∧ Steps P (lone fr cs w) (lone fr1 cs w1) ∧ StRel P g1 s1 fr1 w1 ∧ CsRel g1 s1.pan fr.kind cs base ∧ Evolves g (Heap.at s.h) w g1 (Heap.at s1.h) w1 ∧ fr1.todo = .inRegion ops rest :: k ∧ fr1.mode = .run ∧ fr1.fn = fr.fn ∧ fr1.kind = fr.kind ∧ Late g1 (Heap.at s1.h) fr1 w1 d v sp o
  | [], x, x', h, _, _, _, s, b, g, fr, cs, base, w, k, rest, v, sp, o, hst, hcs, ht, hm, hl => by
    cases h
    exact ⟨g, s, fr, w, b, rfl, rfl, rfl, .refl _ _, hst, hcs, .refl _ _ _, ht, hm, rfl, rfl, hl⟩
  | m :: L, x, x', h, he, hp, hd, s, b, g, fr, cs, base, w, k, rest, v, sp, o, hst, hcs, ht, hm, hl => by
    cases h with
    | cons hr h =>
    have hdm := hd m (List.mem_cons_self ..)
    have hF := (he m (List.mem_cons_self ..)).2.2 (hp m (List.mem_cons_self ..)) s (b.req hr hdm.2)
    obtain ⟨g1, fr1, w1, a1, a2, a3, a4, a5, a6, a7, a8, a9, a10⟩ := hF g fr cs base w k (L.map (·.idx) ++ rest) hst hcs ht hm
    have hsz : fr1.tmps.size = fr.tmps.size := by
      rw [← a2.len, ← hst.len]
      unfold ASt.put
      cases m.dst <;> rfl
    have hl1 := hl.step a4 (a10 d hdm.1) hsz
    have pd : (({ s with h := m.heapOf s.h } : ASt).put m.dst m.val).defers = s.defers := by unfold ASt.put; cases m.dst <;> rfl
    have pp : (({ s with h := m.heapOf s.h } : ASt).put m.dst m.val).pan = s.pan := by unfold ASt.put; cases m.dst <;> rfl
    have pr : (({ s with h := m.heapOf s.h } : ASt).put m.dst m.val).round = s.round := by unfold ASt.put; cases m.dst <;> rfl
    obtain ⟨g2, s2, fr2, w2, c1, c2, c3, c4, c5, c6, c7, c8, c9, c10, c11, c12, c13⟩ := late_run h (fun m hm => he m (List.mem_cons_of_mem _ hm)) (fun m hm => hp m (List.mem_cons_of_mem _ hm)) (fun m hm => hd m (List.mem_cons_of_mem _ hm)) b.on (g := g1) (fr := fr1) (cs := cs) (base := base) (w := w1) (k := k) (rest := rest) a2 (by rw [a9]; exact a3) a6 (a7.trans hm) hl1
    exact ⟨g2, s2, fr2, w2, c1, c2.trans pd, c3.trans pp, c4.trans pr, a1.trans c5, c6, by rw [← a9]; exact c7, a4.trans c8, c9, c10, c11.trans a8, c12.trans a9, c13⟩

/-- An allocation, as it is done. -/
structure IsAlloc (P : Program) (ops : Array Oper) (a : MRec) (d : Tmp) (h0 : Heap) (Z : List CV) : Prop where
  op : ∃ o t, ops[a.idx]? = some o ∧ o.op = .alloc t ∧ o.guard = none ∧ o.dst = some d ∧ zeroCells P t = some (Z.map .c)
  dst : a.dst = some d
  kind : a.kind = some (h0, h0.push .dead (.blk (Z.map .c)))
  val : a.val = .ptr h0.n 0
  lit : ∀ c ∈ Z, ∃ v, c = CV.lit v

theorem live_some {g : G} {b : AB} {sp : Spot} {o : Option Obj} (h : RepB g b sp o) (hl : b.live = true) : ∃ x, o = some x := by
  cases b with
  | dead => cases hl
  | blk cells => obtain ⟨cs, e, h1, _⟩ := h; exact ⟨_, h1⟩
  | map keys vals borns clock => obtain ⟨es, h1, _⟩ := h; exact ⟨_, h1⟩
  | loop fn tmps params assign body st pending coll => obtain ⟨fn, tm, h1, _⟩ := h; exact ⟨_, h1⟩
  | coll b => exact ⟨_, h⟩
theorem some_lt {w : World} {b : Nat} {o : Obj} (h : w.heap[b]? = some o) : b < w.heap.size := (Array.getElem?_eq_some_iff.1 h).1

theorem late_alloc {a : MRec} {d : Tmp} {h0 : Heap} {Z : List CV} (IA : IsAlloc P ops a d h0 Z) {L : List MRec} {s s' : ASt} (hx : XSteps L s.x s'.x) (he : ∀ m ∈ L, Ev P ops m) (hp : ∀ m ∈ L, m.pan = none) (hd : ∀ m ∈ L, m.dst ≠ some d ∧ d ∉ m.looks)
    (hh : s'.h = h0) (hn : s'.tmps.n = s.tmps.n) (hds : s'.defers = s.defers) (hpan : s'.pan = s.pan) (hr : s'.round = s.round) {γ : List Nat} {e : AExit} {sf : ASt}
    (hrest : CodeOk P (({ s' with h := h0.push .dead (.blk (Z.map .c)) } : ASt).put (some d) (.ptr h0.n 0)) (.inRegion ops γ) e sf) : CodeOk P s (.inRegion ops (a.idx :: (L.map (·.idx) ++ γ))) e sf := by
  intro g fr cs base w k hst hcs ht hm
  obtain ⟨o, t, ho, hop, hg, hdst, hz⟩ := IA.op
  have ha : aop P o s.eval (fun _ => .dead) s.h.n = some (.simple { val := .ptr s.h.n 0, fresh := some (.blk (Z.map .c)) }) := by
    unfold aop
    rw [hop]
    simp only [hz]
  have inv0 : Inv g (fun _ => AB.dead) w := ⟨hst.inv.frozen, fun _ _ => trivial, (fun _ _ h => absurd h (by simp [AB.live])), (fun _ _ _ _ h => absurd h (by simp [AB.live]))⟩
  have hsim := aop_sim (P := P) (w := w) inv0 (σ := fr.eval) hst.eval (fresh := s.h.n) (fun h => absurd ((hst.A _).1 h) (Nat.lt_irrefl _)) ha
  obtain ⟨v, w', g', hres, hrv, hinv, hev, hA, hup⟩ := hsim
  have hwn : wantedA ops o s = some true := by unfold wantedA; rw [hg]
  have hnd : fr.roundOf = none ∨ ∀ c, o.op ≠ .defer c := .inr (fun c hc => by rw [hop] at hc; cases hc)
  have hsteps : Steps P (lone fr cs w) (lone (fr.finish v) cs w') := by
    refine step_go ?_
    rw [op_do hm ht ho (wanted_spec hst hwn) hnd]
    rcases hres with hres | ⟨hres, rfl⟩
    · exact apply_value hres
    · exact apply_skip hres
  have keep : ∀ b, b < w.heap.size → w'.heap[b]? = w.heap[b]? := fun b hb => hev.keep b hb (fun ⟨_, _, h, _⟩ => by cases h)
  have gn : g'.A s.h.n := (hA _).2 (.inr ⟨rfl, rfl⟩)
  have hblk := hinv.block s.h.n gn
  have heff : effect (fun _ => AB.dead) s.h.n { val := .ptr s.h.n 0, fresh := some (.blk (Z.map .c)) } s.h.n = .blk (Z.map .c) := by simp [effect, upd1, updF]
  rw [heff] at hblk
  obtain ⟨cs0, e0, hb1, hb2, hb3⟩ := hblk
  obtain ⟨sp, hsp⟩ : ∃ sp, sp = g'.j s.h.n := ⟨_, rfl⟩
  rw [← hsp] at hb1 hb2 hb3
  have hB : w.heap.size ≤ sp.blk := by
    rcases hev.own sp.blk ⟨s.h.n, gn, by rw [heff]; rfl, by rw [hsp]⟩ with ⟨_, _, h, _⟩ | h
    · cases h
    · exact h
  have invr : Inv g (Heap.at s.h) w' := by
    refine ⟨fun b o hb => ?_, fun id hid => ?_, hst.inv.apart, hst.inv.inj⟩
    · have := hst.inv.frozen b o hb
      rw [keep b (some_lt this)]; exact this
    · have h1 := hst.inv.block id hid
      cases hl : (Heap.at s.h id).live with
      | false =>
        have : Heap.at s.h id = .dead := by cases hb : Heap.at s.h id <;> rw [hb] at hl <;> first | rfl | cases hl
        rw [this]; trivial
      | true =>
        obtain ⟨x, hxx⟩ := live_some h1 hl
        rw [keep _ (some_lt hxx)]; exact h1
  have notown : ¬ Own g (Heap.at s.h) sp.blk := by
    rintro ⟨id, h1, h2, h3⟩
    obtain ⟨x, hxx⟩ := live_some (hst.inv.block id h1) h2
    have := some_lt hxx
    omega
  have notfro : g.Φ sp.blk = none := by
    cases hf : g.Φ sp.blk with
    | none => rfl
    | some o' => have := some_lt (hst.inv.frozen _ _ hf); omega
  obtain ⟨f1, f2, f3, f4, f5, f6, f7, f8⟩ := hst.finish (g' := g) (.refl g) ht ho (a := .c .junk) (v := v) trivial (hp := s.h) invr hst.A
  rw [hdst] at f1 f6 f7 f8
  have ev0 : Evolves g (Heap.at s.h) w g (Heap.at s.h) w' := ⟨.refl g, hev.os, hev.tape, hev.output, hev.size, fun b hb _ => keep b hb, fun _ _ h => .inl h, fun _ h => .inl h⟩
  have late0 : Late g (Heap.at (({ s with h := s.h } : ASt).put (some d) (.c .junk)).h) (fr.finish v) w' d v sp (.cells cs0 e0 (0, 0)) := by
    rw [f8]
    refine ⟨?_, hb1, notown, notfro⟩
    rw [finish_eq ht ho, hdst]
    by_cases hlt : d < fr.tmps.size
    · exact .inl (by simp [hlt])
    · exact .inr (by show (fr.tmps.setIfInBounds d v).size ≤ d; rw [Array.size_setIfInBounds]; exact Nat.le_of_not_lt hlt)
  have but0 : But d s.x (({ s with h := s.h } : ASt).put (some d) (.c .junk)) := by
    refine ⟨rfl, fun t ht' => ?_, rfl⟩
    show (s.tmps.set .undef d (.c .junk)).get .undef t = s.tmps.get .undef t
    rw [TMap.get_set, if_neg (fun h => ht' h.1)]
  obtain ⟨g1, s1, fr1, w1, c1, c2, c3, c4, c5, c6, c7, c8, c9, c10, c11, c12, c13⟩ := late_run hx he hp hd but0 (g := g) (fr := fr.finish v) (cs := cs) (base := base) (w := w') (k := k) (rest := γ) (v := v) (sp := sp) (o := .cells cs0 e0 (0, 0)) f1 (by rw [f6, f5]; exact hcs) f2 (f3.trans hm) late0
  have sh : s1.h = h0 := c1.h.trans hh
  obtain ⟨g2, hg2⟩ : ∃ g2 : G, g2 = { g1 with A := fun i => i < h0.n + 1, j := fun i => if i = h0.n then sp else g1.j i } := ⟨_, rfl⟩
  have A1 : ∀ i, g1.A i ↔ i < h0.n := fun i => by rw [c6.A, sh]
  have le2 : g1.le g2 := by
    rw [hg2]
    refine ⟨fun _ _ h => h, fun i hi => ?_, fun i hi => ?_⟩
    · have := (A1 i).1 hi; show i < h0.n + 1; omega
    · have := (A1 i).1 hi; show (if i = h0.n then sp else g1.j i) = g1.j i; rw [if_neg (by omega)]
  have j2 : g2.j h0.n = sp := by rw [hg2]; exact if_pos rfl
  have j2' : ∀ i, i ≠ h0.n → g2.j i = g1.j i := fun i hi => by rw [hg2]; exact if_neg hi
  have A2 : ∀ i, g2.A i ↔ i < h0.n + 1 := fun i => by rw [hg2]
  have Φ2 : g2.Φ = g1.Φ := by rw [hg2]
  have inv1 : Inv g1 (Heap.at h0) w1 := sh ▸ c6.inv
  have own1 : ¬ Own g1 (Heap.at h0) sp.blk := sh ▸ c13.own
  have atn : Heap.at (h0.push .dead (.blk (Z.map .c))) h0.n = .blk (Z.map .c) := by unfold Heap.at; rw [TMap.get_push, if_pos rfl]
  have ati : ∀ i, i ≠ h0.n → Heap.at (h0.push .dead (.blk (Z.map .c))) i = Heap.at h0 i := fun i hi => by unfold Heap.at; rw [TMap.get_push, if_neg hi]
  have inv2 : Inv g2 (Heap.at (h0.push .dead (.blk (Z.map .c)))) w1 := by
    refine ⟨fun b o hb => inv1.frozen b o (by rw [← Φ2]; exact hb), fun id hid => ?_, fun id hid hl => ?_, fun id id' h1 h2 l1 l2 hj => ?_⟩
    · by_cases hi : id = h0.n
      · subst hi
        rw [atn, j2]
        refine ⟨cs0, e0, c13.blk, hb2, ?_⟩
        intro i x hxx
        obtain ⟨y, hy, hr'⟩ := hb3 i x hxx
        refine ⟨y, hy, ?_⟩
        obtain ⟨c, hc, rfl⟩ := List.mem_map.1 (List.mem_of_getElem? hxx)
        obtain ⟨u, rfl⟩ := IA.lit c hc
        exact hr'
      · rw [ati id hi, j2' id hi]
        exact repB_mono le2 (inv1.block id ((A1 id).2 (by have := (A2 id).1 hid; omega)))
    · rw [Φ2]
      by_cases hi : id = h0.n
      · subst hi; rw [j2]; exact c13.fro
      · rw [ati id hi] at hl
        rw [j2' id hi]
        exact inv1.apart id ((A1 id).2 (by have := (A2 id).1 hid; omega)) hl
    · by_cases hi : id = h0.n
      · by_cases hi' : id' = h0.n
        · rw [hi, hi']
        · exfalso
          rw [ati id' hi'] at l2
          rw [hi, j2, j2' id' hi'] at hj
          exact own1 ⟨id', (A1 id').2 (by have := (A2 id').1 h2; omega), l2, hj.symm⟩
      · by_cases hi' : id' = h0.n
        · exfalso
          rw [ati id hi] at l1
          rw [hi', j2, j2' id hi] at hj
          exact own1 ⟨id, (A1 id).2 (by have := (A2 id).1 h1; omega), l1, hj⟩
        · rw [ati id hi] at l1
          rw [ati id' hi'] at l2
          rw [j2' id hi, j2' id' hi'] at hj
          exact inv1.inj id id' ((A1 id).2 (by have := (A2 id).1 h1; omega)) ((A1 id').2 (by have := (A2 id').1 h2; omega)) l1 l2 hj
  have hv : v = .pointer (some ⟨sp.blk, sp.base + 0, none⟩) := by rw [hsp]; exact hrv.2
  have hrv2 : Rep g2 (.ptr h0.n 0) v := ⟨(A2 _).2 (Nat.lt_succ_self _), by rw [hv, j2]⟩
  have st2 : StRel P g2 (({ s1 with h := h0.push .dead (.blk (Z.map .c)) } : ASt).put (some d) (.ptr h0.n 0)) fr1 w1 := by
    refine ⟨inv2, fun i => by rw [A2]; exact Iff.rfl, c6.len, ?_, c6.defers.mono le2, ?_⟩
    · show Pw (Rep g2) ((s1.tmps.set .undef d (.ptr h0.n 0)).toList .undef) fr1.tmps.toList
      rw [TMap.toList_set]
      have hset : fr1.tmps.toList.set d v = fr1.tmps.toList := by
        apply List.ext_getElem?
        intro i
        rw [List.getElem?_set]
        by_cases hi : d = i
        · subst hi
          rw [if_pos rfl]
          rcases c13.tmp with h | h
          · have hlt : d < fr1.tmps.size := (Array.getElem?_eq_some_iff.1 h).1
            rw [if_pos (by simpa using hlt)]
            have : fr1.tmps.toList[d]? = some v := by simpa using h
            rw [this]
          · rw [if_neg (by simp; omega), List.getElem?_eq_none (by simp; omega)]
        · rw [if_neg hi]
      rw [← hset]
      exact (pw_mono le2 c6.tmps).set d hrv2
    · rcases c6.round with h | ⟨i, h1, h2, h3⟩
      · exact .inl h
      · exact .inr ⟨i, h1, le2.A _ h2, by rw [le2.j _ h2]; exact h3⟩
  have e3 : s1.defers = s'.defers := c2.trans hds.symm
  have e4 : s1.pan = s'.pan := c3.trans hpan.symm
  have e5 : s1.round = s'.round := c4.trans hr.symm
  have hw2 : Weak (({ s1 with h := h0.push .dead (.blk (Z.map .c)) } : ASt).put (some d) (.ptr h0.n 0)) (({ s' with h := h0.push .dead (.blk (Z.map .c)) } : ASt).put (some d) (.ptr h0.n 0)) := by
    refine ⟨(c1.n).symm, fun i _ => .inr ?_, e3.symm, e4.symm, e5.symm, rfl⟩
    show (s'.tmps.set .undef d (.ptr h0.n 0)).get .undef i = (s1.tmps.set .undef d (.ptr h0.n 0)).get .undef i
    rw [TMap.get_set, TMap.get_set]
    have hn' : s1.tmps.n = s'.tmps.n := c1.n
    rw [hn']
    split
    · rfl
    · rename_i hne
      by_cases hi : i = d
      · subst hi
        have : ¬ i < s'.tmps.n := fun h => hne ⟨rfl, h⟩
        rw [TMap.get_ge (by omega), TMap.get_ge (by omega)]
      · exact (c1.T i hi).symm
  obtain ⟨g3, fr3, cs3, w3, G3⟩ := hrest.weak hw2 g2 fr1 cs base w1 k st2 (by rw [c12]; exact c7.mono le2) c9 c10
  have ev1 : Evolves g (Heap.at s.h) w g1 (Heap.at s1.h) w1 := by
    have := c8
    rw [f8] at this
    exact ev0.trans this
  have ev2 : Evolves g (Heap.at s.h) w g2 (Heap.at (h0.push .dead (.blk (Z.map .c)))) w1 := by
    refine ⟨ev1.le.trans le2, ev1.os, ev1.tape, ev1.output, ev1.size, ev1.keep, fun b o hb => ev1.fro b o (by rw [← Φ2]; exact hb), ?_⟩
    rintro b ⟨id, h1, h2, h3⟩
    by_cases hi : id = h0.n
    · subst hi
      rw [j2] at h3
      exact .inr (h3 ▸ hB)
    · rw [ati id hi] at h2
      rw [j2' id hi] at h3
      exact ev1.own b ⟨id, (A1 id).2 (by have := (A2 id).1 h1; omega), by rw [sh]; exact h2, h3⟩
  refine ⟨g3, fr3, cs3, w3, hsteps.trans (c5.trans G3.steps), G3.st, ?_, ?_, ?_, G3.lands, ev2.trans G3.ev, ?_⟩
  · have := G3.cs; rw [c12, f5] at this; exact this
  · exact G3.fn.trans (c11.trans f4)
  · exact G3.kind.trans (c12.trans f5)
  · exact G3.round.trans c4

/-- All that depends on the allocation comes behind it. -/
def waits (ms : List Nat) (n ia a : Nat) : Bool := (List.range n).all fun x => !(ms.getD x 0).testBit ia || (ms.getD x 0).testBit a
def ordB (ms : List Nat) (n ia a b : Nat) : Bool := (ms.getD b 0).testBit a || (Nat.beq b ia && waits ms n ia a)
def aCheck1 (ms : List Nat) (n ia : Nat) (a : MRec) : List MRec → Bool
  | [] => true
  | b :: l => (ordB ms n ia a.idx b.idx || mTmps a b) && aCheck1 ms n ia a l
def aCheck (ms : List Nat) (n ia : Nat) : List MRec → Bool
  | [] => true
  | a :: l => aCheck1 ms n ia a l && aCheck ms n ia l
def aNeeds1 (ms : List Nat) (n ia : Nat) (a : MRec) : List MRec → List (Nat × Heap × Heap)
  | [] => []
  | b :: l => (if ordB ms n ia a.idx b.idx then [] else mNeed a b) ++ aNeeds1 ms n ia a l
def aNeeds (ms : List Nat) (n ia : Nat) : List MRec → List (Nat × Heap × Heap)
  | [] => []
  | a :: l => aNeeds1 ms n ia a l ++ aNeeds ms n ia l
def aFree (ms : List Nat) (ia d : Nat) (l : List MRec) : Bool := l.all fun m => Nat.beq m.idx ia || (ms.getD m.idx 0).testBit ia || (m.dst != some d && !m.looks.contains d)

theorem aCheck_spec {ms : List Nat} {n ia : Nat} : ∀ {l : List MRec}, aCheck ms n ia l = true → HeapsOk (aNeeds ms n ia l) → l.Pairwise (fun a b => ordB ms n ia a.idx b.idx = true ∨ MIndep a b)
  | [], _, _ => .nil
  | a :: l, hc, hh => by
    simp only [aCheck, Bool.and_eq_true] at hc
    have one : ∀ {l : List MRec}, aCheck1 ms n ia a l = true → HeapsOk (aNeeds1 ms n ia a l) → ∀ b ∈ l, ordB ms n ia a.idx b.idx = true ∨ MIndep a b := by
      intro l
      induction l with
      | nil => intro _ _; simp
      | cons b l ih =>
        intro h1 h2
        simp only [aCheck1, Bool.and_eq_true, Bool.or_eq_true] at h1
        have h3 : HeapsOk (aNeeds1 ms n ia a l) := fun x hx => h2 x (by simp only [aNeeds1]; exact List.mem_append_right _ hx)
        intro x hx
        rcases List.mem_cons.1 hx with rfl | hx
        · cases hb : ordB ms n ia a.idx x.idx with
          | true => exact .inl rfl
          | false =>
            refine .inr (mIndep_of (h1.1.resolve_left (by rw [hb]; simp)) fun y hy => h2 y ?_)
            simp only [aNeeds1, hb]
            exact List.mem_append_left _ hy
        · exact ih h1.2 h3 x hx
    refine .cons (one hc.1 fun x hx => hh x (by simp only [aNeeds]; exact List.mem_append_left _ hx)) (aCheck_spec hc.2 fun x hx => hh x (by simp only [aNeeds]; exact List.mem_append_right _ hx))

theorem mixedA_ok (hmix : P.follows .mixedOrders = true) {id ia : Nat} {d : Tmp} {s s1 : ASt} {L : List MRec} (hback : backGo ops.toList 0 = true) (hL : L.map (·.idx) = List.range ops.size) (hx : XSteps L s.x s1.x) (he : ∀ m ∈ L, Ev P ops m) (hp : ∀ m ∈ L, m.pan = none)
    (hpw : L.Pairwise (fun a b => ordB (masks ops) ops.size ia a.idx b.idx = true ∨ MIndep a b)) (hfree : aFree (masks ops) ia d L = true) {a : MRec} {h0 : Heap} {Z : List CV} (haL : a ∈ L) (hai : a.idx = ia) (IA : IsAlloc P ops a d h0 Z)
    (hn : s1.tmps.n = s.tmps.n) (hds : s1.defers = s.defers) (hpan : s1.pan = s.pan) (hr : s1.round = s.round) :
    CodeOk P s (.code (.region id ops true)) .normal s1 := by
  refine region_any hmix hback fun σ hσ ho => ?_
  have hia : ia ∈ σ := hσ.symm.subset (by rw [← hL, ← hai]; exact List.mem_map_of_mem haL)
  obtain ⟨α, τ, rfl⟩ := List.append_of_mem hia
  let p : Nat → Bool := fun x => !((masks ops).getD x 0).testBit ia
  obtain ⟨β, hβ⟩ : ∃ β, β = τ.takeWhile p := ⟨_, rfl⟩
  obtain ⟨γ, hγ⟩ : ∃ γ, γ = τ.dropWhile p := ⟨_, rfl⟩
  have hτ : τ = β ++ γ := by rw [hβ, hγ]; exact (List.takeWhile_append_dropWhile (p := p) (l := τ)).symm
  have hβp : ∀ x ∈ β, ¬ Before (masks ops) ia x := by
    intro x hxx
    have : ∀ (l : List Nat), x ∈ l.takeWhile p → p x = true := by
      intro l
      induction l with
      | nil => intro h; simp at h
      | cons y l ih =>
        intro h
        rw [List.takeWhile_cons] at h
        split at h
        · rcases List.mem_cons.1 h with rfl | h
          · assumption
          · exact ih h
        · simp at h
    have h1 := this τ (hβ ▸ hxx)
    unfold Before
    simpa [p] using h1
  have hγp : ∀ x l, γ = x :: l → Before (masks ops) ia x := by
    intro x l hgl
    have h1 : ∀ (l' : List Nat), l'.dropWhile p = x :: l → p x = false := by
      intro l'
      induction l' with
      | nil => intro h; simp at h
      | cons y l' ih =>
        intro h
        rw [List.dropWhile_cons] at h
        split at h
        · exact ih h
        · rename_i hpa
          simp only [List.cons.injEq] at h
          rw [← h.1]; simpa using hpa
    have h2 := h1 τ (hγ ▸ hgl)
    unfold Before
    simpa [p] using h2
  have hσ2 : (α ++ β ++ ia :: γ).Perm (List.range ops.size) := by
    refine List.Perm.trans ?_ hσ
    rw [hτ, List.append_assoc]
    exact List.Perm.append_left _ List.perm_middle
  have hnd : (α ++ ia :: τ).Nodup := hσ.symm.nodup List.nodup_range
  rw [hτ] at ho hσ hnd
  rw [List.pairwise_append] at ho
  obtain ⟨o1, o2, o3⟩ := ho
  rw [List.pairwise_cons, List.pairwise_append] at o2
  obtain ⟨o4, o5, o6, o7⟩ := o2
  have wait : ∀ x ∈ γ, waits (masks ops) ops.size ia x = false := by
    intro x hxg
    cases hg : γ with
    | nil => rw [hg] at hxg; cases hxg
    | cons y l =>
      have hy := hγp y l hg
      cases hwt : waits (masks ops) ops.size ia x with
      | false => rfl
      | true =>
        exfalso
        have hyr : y < ops.size := List.mem_range.1 (hσ.subset (by rw [hg]; simp))
        unfold waits at hwt
        rw [List.all_eq_true] at hwt
        have h1 := hwt y (List.mem_range.2 hyr)
        unfold Before at hy
        rw [hy] at h1
        have hxy : Before (masks ops) x y := by unfold Before; simpa using h1
        rw [hg] at hxg o6
        rcases List.mem_cons.1 hxg with rfl | hxl
        · exact absurd (before_lt hback _ _ hxy) (Nat.lt_irrefl _)
        · rw [List.pairwise_cons] at o6
          exact o6.1 x hxl hxy
  have nob : ∀ {b : Nat}, ordB (masks ops) ops.size ia b ia = true → ¬ Before (masks ops) b ia → waits (masks ops) ops.size ia b = true := by
    intro b h1 h2
    unfold ordB at h1
    unfold Before at h2
    rw [Bool.or_eq_true] at h1
    rcases h1 with h1 | h1
    · exact absurd h1 h2
    · rw [Bool.and_eq_true] at h1; exact h1.2
  have nob' : ∀ {b c : Nat}, ordB (masks ops) ops.size ia b c = true → c ≠ ia → Before (masks ops) b c := by
    intro b c h1 h2
    unfold ordB at h1
    rw [Bool.or_eq_true] at h1
    rcases h1 with h1 | h1
    · exact h1
    · rw [Bool.and_eq_true] at h1
      exact absurd (Nat.eq_of_beq_eq_true h1.1) h2
  have hndp := hnd
  rw [List.nodup_append, List.nodup_cons] at hndp
  obtain ⟨nd1, ⟨nd2, nd3⟩, nd4⟩ := hndp
  have neα : ∀ x ∈ α, x ≠ ia := fun x hxx => nd4 x hxx ia (by simp)
  have neβ : ∀ x ∈ β, x ≠ ia := fun x hxx h => nd2 (h ▸ List.mem_append_left _ hxx)
  have neγ : ∀ x ∈ γ, x ≠ ia := fun x hxx h => nd2 (h ▸ List.mem_append_right _ hxx)
  have ho2 : (α ++ β ++ ia :: γ).Pairwise (fun b a => ¬ ordB (masks ops) ops.size ia a b = true) := by
    have lift : ∀ {b c : Nat}, b ≠ ia → ¬ Before (masks ops) c b → ¬ ordB (masks ops) ops.size ia c b = true := fun hb h1 h2 => h1 (nob' h2 hb)
    rw [List.pairwise_append, List.pairwise_append, List.pairwise_cons]
    refine ⟨⟨?_, ?_, ?_⟩, ⟨?_, ?_⟩, ?_⟩
    · exact o1.imp_of_mem fun hb _ h => lift (neα _ hb) h
    · exact o5.imp_of_mem fun hb _ h => lift (neβ _ hb) h
    · intro b hb c hc; exact lift (neα _ hb) (o3 b hb c (by simp [hc]))
    · intro c hc h
      have h1 := nob h (o4 c (by simp [hc]))
      rw [wait c hc] at h1; cases h1
    · exact o6.imp_of_mem fun hb _ h => lift (neγ _ hb) h
    · intro b hb c hc
      rcases List.mem_append.1 hb with hb | hb
      · rcases List.mem_cons.1 hc with rfl | hc
        · exact lift (neα _ hb) (o3 b hb _ (by simp))
        · exact lift (neα _ hb) (o3 b hb c (by simp [hc]))
      · rcases List.mem_cons.1 hc with rfl | hc
        · exact lift (neβ _ hb) (hβp b hb)
        · exact lift (neβ _ hb) (o7 b hb c hc)
  rw [← hL] at hσ2
  obtain ⟨L', e', p', d'⟩ := XSteps.perm (Ord := fun a b => ordB (masks ops) ops.size ia a b = true) hx hpw (by rw [hL]; exact List.nodup_range) hσ2 ho2
  obtain ⟨L1, L2, rfl, e1, e2⟩ := List.map_eq_append_iff.1 e'
  obtain ⟨Lα, Lβ, rfl, eα, eβ⟩ := List.map_eq_append_iff.1 e1
  cases L2 with
  | nil => cases e2
  | cons a' Lγ =>
  simp only [List.map_cons, List.cons.injEq] at e2
  obtain ⟨ea, eγ⟩ := e2
  have inj : ∀ {l : List MRec} {a b : MRec}, (l.map (·.idx)).Nodup → a ∈ l → b ∈ l → a.idx = b.idx → a = b := by
    intro l
    induction l with
    | nil => intro a b _ ha; cases ha
    | cons x l ih =>
      intro a b hn ha hb he
      simp only [List.map_cons, List.nodup_cons] at hn
      rcases List.mem_cons.1 ha with h1 | h1
      · rcases List.mem_cons.1 hb with h2 | h2
        · rw [h1, h2]
        · subst h1; exact absurd (he ▸ List.mem_map_of_mem h2) hn.1
      · rcases List.mem_cons.1 hb with h2 | h2
        · subst h2; exact absurd (he ▸ List.mem_map_of_mem h1) hn.1
        · exact ih hn.2 h1 h2 he
  have haa : a' = a := inj (by rw [hL]; exact List.nodup_range) (p'.subset (by simp)) haL (ea.trans hai.symm)
  subst haa
  obtain ⟨x1, q1, q2⟩ := XSteps.split d'
  obtain ⟨x0, q3, q4⟩ := XSteps.split q1
  have memα : ∀ m ∈ Lα, m ∈ L := fun m hm => p'.subset (by simp [hm])
  have memβ : ∀ m ∈ Lβ, m ∈ L := fun m hm => p'.subset (by simp [hm])
  have memγ : ∀ m ∈ Lγ, m ∈ L := fun m hm => p'.subset (by simp [hm])
  obtain ⟨sα, a1, a2, a3, a4, a5, a6⟩ := xsteps_ok (P := P) (ops := ops) q3 (fun m hm => he m (memα m hm)) (fun m hm => hp m (memα m hm))
  rw [← a1] at q4
  obtain ⟨sβ, b1, b2, b3, b4, b5, b6⟩ := xsteps_ok (P := P) (ops := ops) q4 (fun m hm => he m (memβ m hm)) (fun m hm => hp m (memβ m hm))
  rw [← b1] at q2 q4
  cases q2 with
  | cons hreq q2 =>
  have hh : sβ.h = h0 := by
    have := hreq.2
    rw [IA.kind] at this
    exact this
  have hon : (({ sβ with h := h0.push .dead (.blk (Z.map .c)) } : ASt).put (some d) (.ptr h0.n 0)).x = a'.on sβ.x := by
    have := put_x (s := sβ) (m := a')
    rw [IA.dst, IA.val] at this
    unfold MRec.heapOf at this
    rw [IA.kind] at this
    exact this
  rw [← hon] at q2
  obtain ⟨sγ, c1, c2, c3, c4, c5, c6⟩ := xsteps_ok (P := P) (ops := ops) q2 (fun m hm => he m (memγ m hm)) (fun m hm => hp m (memγ m hm))
  have hend := c6 [] .normal s1 (CodeOk.weakR (s' := sγ) ⟨hn.trans ((c2.trans (b2.trans a2)).symm), fun i _ => .inr (by have := congrArg XSt.T c1; exact (congrFun this i).symm), hds.trans ((c3.trans (b3.trans a3)).symm), hpan.trans ((c4.trans (b4.trans a4)).symm), hr.trans ((c5.trans (b5.trans a5)).symm), (congrArg XSt.h c1).symm⟩ ok_ops_nil)
  rw [List.append_nil, eγ] at hend
  have hdβ : ∀ m ∈ Lβ, m.dst ≠ some d ∧ d ∉ m.looks := by
    intro m hm
    unfold aFree at hfree
    rw [List.all_eq_true] at hfree
    have h1 := hfree m (memβ m hm)
    have h2 : m.idx ∈ β := eβ ▸ List.mem_map_of_mem hm
    have h3 : Nat.beq m.idx ia = false := by
      cases hb : Nat.beq m.idx ia with
      | false => rfl
      | true => exact absurd (Nat.eq_of_beq_eq_true hb) (neβ _ h2)
    have h4 : ((masks ops).getD m.idx 0).testBit ia = false := by
      have := hβp _ h2
      unfold Before at this
      simpa using this
    rw [h3, h4] at h1
    simp only [Bool.false_or, Bool.and_eq_true, bne_iff_ne, Bool.not_eq_true', ne_eq] at h1
    exact ⟨h1.1, by simpa using h1.2⟩
  have hlate := late_alloc (P := P) (ops := ops) IA q4 (fun m hm => he m (memβ m hm)) (fun m hm => hp m (memβ m hm)) hdβ hh b2 b3 b4 b5 hend
  rw [eβ, hai, ← hτ] at hlate
  have hfin := a6 _ _ _ hlate
  rw [eα] at hfin
  exact hfin

/-- A REGION WHOSE ORDER IS OPEN, with an allocation beside calls that write. -/
theorem mixedA_by {hm : Bool} (ia : Nat) (d : Tmp) (hmix : P.follows .mixedOrders = true) {id : Nat} {ops : Array Oper} {s : ASt} {K : AExit → ASt → Prop} (hb : backGo ops.toList 0 = true)
    (h : mOps P hm ops (List.range ops.size) s [] (fun l s1 => Both (aCheck (masks ops) ops.size ia l.reverse = true) (Both (HeapsOk (aNeeds (masks ops) ops.size ia l.reverse)) (Both (aFree (masks ops) ia d l.reverse = true) (Both (∃ (a : MRec) (h0 : Heap) (Z : List CV), l[ops.size - 1 - ia]? = some a ∧ a.idx = ia ∧ IsAlloc P ops a d h0 Z) (K .normal s1)))))
      (fun _ _ _ _ _ _ => False)) : DrawW P id ops s K := by
  refine ⟨?_⟩
  rcases mOps_ok _ _ _ _ _ h with ⟨s1, l1, dd, k⟩ | ⟨_, _, _, _, _, _, _, _, _, _, _, _, _, _, _, _, k⟩
  · simp only [List.append_nil, List.reverse_reverse] at k
    obtain ⟨hc, hhp, hf, ⟨a, h0, Z, ha1, ha2, IA⟩, k⟩ := k
    have hp := aCheck_spec hc hhp
    exact ⟨.normal, s1, mixedA_ok hmix hb dd.idx dd.steps dd.ev dd.pan hp hf (List.mem_reverse.1 (List.mem_of_getElem? ha1)) ha2 IA dd.n dd.defers dd.span dd.round, k⟩
  · exact k.elim
end
end Go.Ag
/- Calls on closed values, from any memory; own memory that is handed over. -/
namespace Go.Ag
section
variable {P : Program}

theorem ret_at {f : FuncId} {args : List CV} {v : CV} (hr : Ret P f args v) (h : Heap) : CallOk P f (args.map .c) h .no (.ret (.c v)) h .no := by
  intro g kind cs base w vs hi hA hl hp hcs
  obtain ⟨g0, hg0⟩ : ∃ g0 : G, g0 = { Φ := g.Φ, A := fun _ => False, j := g.j } := ⟨_, rfl⟩
  have Φ0 : g0.Φ = g.Φ := by rw [hg0]
  have A0 : ∀ i, ¬ g0.A i := fun i hh => by rw [hg0] at hh; exact hh
  have hi0 : Inv g0 (Heap.at TMap.nil) w := ⟨fun b o hb => hi.frozen b o (by rw [← Φ0]; exact hb), fun _ ha => absurd ha (A0 _), fun _ ha => absurd ha (A0 _), fun _ _ ha => absurd ha (A0 _)⟩
  have hp0 : Pw (Rep g0) (args.map .c) vs.toList := by
    refine Pw.map_left.2 ((Pw.map_left.1 hp).imp fun c _ u hr => ?_)
    show RepC g0.Φ c u
    rw [Φ0]; exact hr
  obtain ⟨g1, fr', cs', w', hs, hi1, hA1, hcs1, hev, hfn, hk, hro, hdf, hend⟩ := hr g0 kind cs base w vs hi0 (fun i => ⟨fun hh => absurd hh (A0 i), fun hh => absurd hh (Nat.not_lt_zero _)⟩) hl hp0 hcs
  have noOwn : ∀ b, ¬ Own g0 (Heap.at TMap.nil) b := fun b ⟨id, ha, _⟩ => A0 _ ha
  have keep : ∀ b, b < w.heap.size → w'.heap[b]? = w.heap[b]? := fun b hb => hev.keep b hb (noOwn b)
  have fro : ∀ b o, g1.Φ b = some o → g.Φ b = some o ∨ w.heap.size ≤ b := by
    intro b o hb
    rcases hev.fro b o hb with h1 | h1 | h1
    · exact .inl (by rw [← Φ0]; exact h1)
    · exact absurd h1 (noOwn b)
    · exact .inr h1
  obtain ⟨g', hg'⟩ : ∃ g' : G, g' = { Φ := g1.Φ, A := g.A, j := g.j } := ⟨_, rfl⟩
  have Φ' : g'.Φ = g1.Φ := by rw [hg']
  have A' : g'.A = g.A := by rw [hg']
  have j' : g'.j = g.j := by rw [hg']
  have gle : g.le g' := ⟨fun b o hb => by rw [Φ']; exact hev.le.Φ b o (by rw [Φ0]; exact hb), fun i hh => by rw [A']; exact hh, fun i _ => by rw [j']⟩
  refine ⟨g', fr', cs', w', hs, ⟨fun b o hb => hi1.frozen b o (by rw [← Φ']; exact hb), fun id ha => ?_, fun id ha hlv => ?_, fun i i' ha ha' l l' he => ?_⟩, fun i => by rw [A']; exact hA i, hcs1, ⟨gle, hev.os, hev.tape, hev.output, hev.size, fun b hb _ => keep b hb, fun b o hb => ?_, fun b ho => .inl ?_⟩, hfn, hk, hro, hdf, ?_⟩
  · rw [A'] at ha
    rw [j']
    cases hlv : (Heap.at h id).live with
    | true => rw [keep _ (hi.lt ha hlv)]; exact repB_mono gle (hi.block id ha)
    | false =>
      have : Heap.at h id = .dead := by cases hx : Heap.at h id <;> simp [hx, AB.live] at hlv; rfl
      rw [this]; trivial
  · rw [A'] at ha
    rw [Φ', j']
    cases hb : g1.Φ (g.j id).blk with
    | none => rfl
    | some o =>
      rcases fro _ o hb with h1 | h1
      · rw [hi.apart id ha hlv] at h1; cases h1
      · have := hi.lt ha hlv; omega
  · rw [A'] at ha ha'
    rw [j'] at he
    exact hi.inj i i' ha ha' l l' he
  · rw [Φ'] at hb
    rcases fro b o hb with h1 | h1
    · exact .inl h1
    · exact .inr (.inr h1)
  · obtain ⟨id, ha, hlv, he⟩ := ho
    rw [A'] at ha
    rw [j'] at he
    exact ⟨id, ha, hlv, he⟩
  · obtain ⟨m, fn, u, h1, h2, h3⟩ := hend
    exact ⟨m, fn, u, h1, h2, by show RepC g'.Φ v u; rw [Φ']; exact h3⟩

/-- Own memory that is handed over: nobody writes it any more. -/
theorem callOk_frozen {f : FuncId} {args : List AV} {args' : List CV} {ids : List Nat} {h h' : Heap} {e : AEnd} {fuel : Nat} (hs : snaps (Heap.at h) fuel args = some (args', ids))
    (hc : CallOk P f (args'.map .c) (Heap.upd h (ids.map fun i => (i, .dead))) .no e h' .no) : CallOk P f args h .no e h' .no := by
  intro g kind cs base w vs hi hA hl hp hcs
  have hΦ := snaps_sound hi fuel args vs.toList _ hp hs
  have hlen' := snaps_len (H := Heap.at h) (g := g) (w := w) fuel args _ hs
  simp only at hΦ hlen'
  obtain ⟨g0, hg0⟩ : ∃ g0 : G, g0 = { Φ := Φof g (Heap.at h) w ids, A := g.A, j := g.j } := ⟨_, rfl⟩
  have Φ0 : g0.Φ = Φof g (Heap.at h) w ids := by rw [hg0]
  have A0 : g0.A = g.A := by rw [hg0]
  have j0 : g0.j = g.j := by rw [hg0]
  have gle : g.le g0 := ⟨fun b o hb => by rw [Φ0]; exact Φof_old hi hb, fun i hh => by rw [A0]; exact hh, fun i _ => by rw [j0]⟩
  have hat : ∀ i, Heap.at (Heap.upd h (ids.map fun i => (i, .dead))) i = if i ∈ ids then .dead else Heap.at h i := fun i => by rw [heap_kill]; exact updF_kill ids _ i
  have fro0 : ∀ b o, g0.Φ b = some o → g.Φ b = some o ∨ Own g (Heap.at h) b := by
    intro b o hb
    rw [Φ0] at hb
    unfold Φof at hb
    split at hb
    · rename_i hc
      obtain ⟨id', hm, ha', hl', he⟩ := hc
      exact .inr ⟨id', ha', hl', he⟩
    · exact .inl hb
  have own0 : ∀ b, Own g0 (Heap.at (Heap.upd h (ids.map fun i => (i, .dead)))) b → Own g (Heap.at h) b := by
    rintro b ⟨id, ha, hlv, he⟩
    rw [A0] at ha
    rw [j0] at he
    rw [hat] at hlv
    split at hlv
    · simp [AB.live] at hlv
    · exact ⟨id, ha, hlv, he⟩
  have hi0 : Inv g0 (Heap.at (Heap.upd h (ids.map fun i => (i, .dead)))) w := by
    refine ⟨fun b o hb => by rw [Φ0] at hb; exact Φof_frozen hi hb, fun id ha => ?_, fun id ha hlv => ?_, fun i i' ha ha' l l' he => ?_⟩
    · rw [hat]
      split
      · trivial
      · rw [A0] at ha; rw [j0]; exact repB_mono gle (hi.block id ha)
    · rw [A0] at ha
      rw [j0]
      rw [hat] at hlv
      split at hlv
      · simp [AB.live] at hlv
      · rename_i hni
        cases hb : g0.Φ (g.j id).blk with
        | none => rfl
        | some o =>
          rw [Φ0] at hb
          unfold Φof at hb
          split at hb
          · rename_i hc
            obtain ⟨id', hm, ha', hl', he⟩ := hc
            exact absurd (hi.inj id' id ha' ha hl' hlv he ▸ hm) hni
          · rw [hi.apart id ha hlv] at hb; cases hb
    · rw [A0] at ha ha'
      rw [j0] at he
      rw [hat] at l l'
      split at l
      · simp [AB.live] at l
      · split at l'
        · simp [AB.live] at l'
        · exact hi.inj i i' ha ha' l l' he
  obtain ⟨g1, fr', cs', w', k1, k2, k3, k4, k5, k6⟩ := hc g0 kind cs base w vs hi0 (fun i => by rw [A0, upd_length]; exact hA i) (by simp [hlen', hl]) (by
    refine Pw.map_left.2 ?_
    have := repP_iff.1 hΦ
    rw [← Φ0] at this
    exact this) hcs
  refine ⟨g1, fr', cs', w', k1, k2, k3, k4, ⟨gle.trans k5.le, k5.os, k5.tape, k5.output, k5.size, fun b hb ho => k5.keep b hb (fun h1 => ho (own0 b h1)), fun b o hb => ?_, fun b ho => ?_⟩, k6⟩
  · rcases k5.fro b o hb with h1 | h1 | h1
    · rcases fro0 b o h1 with h2 | h2
      · exact .inl h2
      · exact .inr (.inl h2)
    · exact .inr (.inl (own0 b h1))
    · exact .inr (.inr h1)
  · rcases k5.own b ho with h1 | h1
    · exact .inl (own0 b h1)
    · exact .inr h1
end
end Go.Ag
/- More for open regions: appends whose blocks' ids are open, ids told by what they stand for, calls with slices of one's own. -/
namespace Go.Ag
set_option maxRecDepth 100000
/-! Ids that are told by what they stand for. -/
structure Sk where
  idx : Nat
  dst : Option Tmp
  looks : List Tmp
  reads : List Nat
  writes : List Nat
def DRec.sk (r : DRec) : Sk := ⟨r.idx, r.dst, r.looks, r.reads, r.writes⟩
def Sk.via (f : Nat → Nat) (r : Sk) : Sk := ⟨r.idx, r.dst, r.looks, r.reads.map f, r.writes.map f⟩
def indepS (a b : Sk) : Bool :=
  (match a.dst with | some d => !b.looks.contains d && b.dst != some d | none => true) &&
  (match b.dst with | some d => !a.looks.contains d | none => true) &&
  a.writes.all (fun i => !b.reads.contains i && !b.writes.contains i) && b.writes.all (fun i => !a.reads.contains i)
def pairsS (ms : List Nat) : List Sk → Bool
  | [] => true
  | r :: l => l.all (fun x => (ms.getD x.idx 0).testBit r.idx || indepS r x) && pairsS ms l
theorem pairs_sk (ms : List Nat) : ∀ l : List DRec, pairsOk ms l = pairsS ms (l.map DRec.sk)
  | [] => rfl
  | r :: l => by
    simp only [pairsOk, List.map_cons, pairsS, pairs_sk ms l, List.all_map]
    rfl
theorem contains_via {f : Nat → Nat} {i : Nat} {l : List Nat} (h : (l.map f).contains (f i) = false) : l.contains i = false := by
  rw [Bool.eq_false_iff] at h ⊢
  intro hc
  refine h ?_
  rw [List.contains_iff_mem] at hc ⊢
  exact List.mem_map_of_mem hc
theorem indep_via {f : Nat → Nat} {a b : Sk} (h : indepS (a.via f) (b.via f) = true) : indepS a b = true := by
  simp only [indepS, Sk.via, List.all_map, Bool.and_eq_true, List.all_eq_true, Function.comp_apply, Bool.not_eq_true'] at h ⊢
  obtain ⟨⟨h1, h2⟩, h3⟩ := h
  exact ⟨⟨h1, fun i hi => ⟨contains_via (h2 i hi).1, contains_via (h2 i hi).2⟩⟩, fun i hi => contains_via (h3 i hi)⟩
theorem pairs_via' {ms : List Nat} (f : Nat → Nat) : ∀ {l : List Sk}, pairsS ms (l.map (Sk.via f)) = true → pairsS ms l = true
  | [], _ => rfl
  | r :: l, h => by
    simp only [List.map_cons, pairsS, Bool.and_eq_true, List.all_map, List.all_eq_true, Function.comp_apply, Bool.or_eq_true] at h ⊢
    refine ⟨fun x hx => ?_, pairs_via' f h.2⟩
    rcases h.1 x hx with h1 | h1
    · exact .inl h1
    · exact .inr (indep_via h1)
/-- It is enough to look at what ids stand for. -/
theorem pairs_via {ms : List Nat} {l : List DRec} (f : Nat → Nat) (l0 : List Sk) (he : (l.map DRec.sk).map (Sk.via f) = l0) (hb : pairsS ms l0 = true) : pairsOk ms l = true := by
  rw [pairs_sk]
  refine pairs_via' f ?_
  rw [he]
  exact hb

theorem rows_append2 {P : Program} {sz : Nat} {h : Heap} {out : AV} {rows : List (List CV)} {row : List CV} {t u elem : TypeId} {du : TypeDesc} (R : RowsL sz h out rows) (ht : P.underlying t = some (.slice elem)) (hu : P.underlying u = some du)
    (hdu : isSliceOrString du = true) (hs : slicePart P elem = some sz) (hrow : row.length = sz) (hall : ∀ r ∈ rows, r.length = sz) (hc : (row.map AV.c).all AV.cellish = true) (hlim : rows.length + 1 ≤ limit) :
    ∃ r, aappend P (Heap.at (h.push .dead (.blk (row.map .c)))) (h.n + 1) #[t, u] out (.msl h.n sz 0 1 1) = some r ∧ RowsL sz (after (h.push .dead (.blk (row.map .c))) r) r.val (rows ++ [row]) ∧
      (∀ i, i < h.n → outId out ≠ some i → Heap.at (after (h.push .dead (.blk (row.map .c))) r) i = Heap.at h i) ∧ h.n ≤ (after (h.push .dead (.blk (row.map .c))) r).n ∧ (∀ o, outId r.val = some o → h.n ≤ o) ∧ r.upds.all (fun p => decide (p.1 < h.n + 1)) = true ∧ r.reads = (outId out).toList ++ [h.n] ∧ r.upds = (outId out).toList.map (fun i => (i, .dead)) ∧ (∃ b, r.fresh = some b) ∧ r.val = .msl (h.n + 1) sz 0 (rows.length + 1) (rows.length + 1) ∧ (after (h.push .dead (.blk (row.map .c))) r).n = h.n + 2 := by
  have hf : firstCells (Heap.at (h.push .dead (.blk (row.map .c)))) sz (.msl h.n sz 0 1 1) = some (row.map .c, 1, [h.n]) := first_own (by rw [at_push, if_pos rfl]) (by simp [hrow])
  rcases R with ⟨rfl, rfl⟩ | ⟨o, rfl, h2, h3, h4⟩
  · refine ⟨_, append_first rfl rfl ht hu hdu hs hf hc (by decide) (by decide), ?_⟩
    refine ⟨.inr ⟨h.n + 1, rfl, ?_, ?_, by simp⟩, fun i hi _ => ?_, ?_, fun o ho => by simp [outId] at ho; omega, rfl, rfl, rfl, ⟨_, rfl⟩, rfl, rfl⟩
    · show Heap.at ((h.push .dead (.blk (row.map .c))).push .dead (.blk (row.map .c))) (h.n + 1) = _
      rw [at_push, if_pos (by rw [push_n])]; simp
    · show h.n + 1 < h.n + 1 + 1; omega
    · show Heap.at ((h.push .dead (.blk (row.map .c))).push .dead (.blk (row.map .c))) i = _
      rw [at_push, if_neg (by rw [push_n]; omega), at_push, if_neg (by omega)]
    · show h.n ≤ h.n + 1 + 1; omega
  · have hl : ((rows.flatten).map AV.c).length = rows.length * sz := by rw [List.length_map, flat_len rows hall]
    refine ⟨_, append_grow rfl rfl ht hu hdu hs hf hc (by decide) hlim (by rw [at_push, if_neg (by omega)]; exact h2) hl, ?_⟩
    refine ⟨.inr ⟨h.n + 1, by simp, ?_, ?_, by simp⟩, fun i hi hne => ?_, ?_, fun o ho => by simp [outId] at ho; omega, ?_, rfl, rfl, ⟨_, rfl⟩, rfl, ?_⟩
    · show Heap.at (((h.push .dead (.blk (row.map .c))).set .dead o .dead).push .dead (.blk (rows.flatten.map .c ++ row.map .c))) (h.n + 1) = _
      rw [at_push, if_pos (by rw [TMap.set_n, push_n])]; simp
    · show h.n + 1 < h.n + 1 + 1; omega
    · show Heap.at (((h.push .dead (.blk (row.map .c))).set .dead o .dead).push .dead (.blk (rows.flatten.map .c ++ row.map .c))) i = _
      rw [at_push, if_neg (by rw [TMap.set_n, push_n]; omega), at_set, if_neg (fun x => hne (by rw [x.1]; rfl)), at_push, if_neg (by omega)]
    · show h.n ≤ h.n + 1 + 1; omega
    · rw [List.all_cons, List.all_nil, Bool.and_true]; exact decide_eq_true (show o < h.n + 1 by omega)
    · show ((h.push .dead (.blk (row.map .c))).set .dead o .dead).n + 1 = h.n + 2
      rw [TMap.set_n, push_n]
theorem got_app {P : Program} {o : Oper} {s x : Operand} {t u : TypeId} {σ : Operand → AV} {H : Nat → AB} {n : Nat} {r : SOut} (ho : o.op = .call ⟨.builtin .append, #[s, x], #[t, u]⟩) (hr : aappend P H n #[t, u] (σ s) (σ x) = some r) :
    (match aop P o σ H n with | some (.simple r) => some r | _ => none) = some r := by
  unfold aop
  rw [ho]
  simp only [acall, hr, simp?, Option.map_some]
theorem footNew (h : Heap) (x y : AB) : Foot none' h ((h.push .dead x).set .dead h.n y) := Foot.set ((Foot.refl _ _).push _) (.inr (Nat.le_refl _)) _
theorem callW_ex {P : Program} {f : FuncId} {args : List AV} {h : Heap} {Q K : AEnd → Heap → Prop} (H : ∃ e h', CallOk P f args h .no e h' .no ∧ Q e h') (k : ∀ e h', Q e h' → K e h') : CallW P f args h K := by
  obtain ⟨e, h', hc, hq⟩ := H
  exact .inl e h' .no hc (k e h' hq)
/-- A slice of one's own, or none, as a value. -/
theorem snap_row {H : Heap} {sz : Nat} {out : AV} {rows : List (List CV)} (R : RowsL sz H out rows) (m : Nat) (hm : rows.flatten.length + 20 ≤ m) : ∃ x ids, snap (Heap.at H) m out = some (x, ids) ∧ x.Le (CV.sl rows.flatten 0 rows.length) := by
  obtain ⟨m, rfl⟩ : ∃ k, m = k + 20 := ⟨m - 20, by omega⟩
  rcases R with ⟨rfl, hn⟩ | ⟨o, rfl, hb, _, _⟩
  · subst hn
    exact ⟨nilC, [], rfl, .nil _ _⟩
  · refine ⟨.sl rows.flatten 0 rows.length, [o], ?_, .refl _⟩
    simp only [snap, Option.bind_some, Option.map_some, hb]
    rw [snaps_map_c _ rows.flatten _ (by omega)]
    rfl
theorem snapsCons {H : Nat → AB} {n : Nat} {v : AV} {l : List AV} {a : CV} {b : List CV} {i j : List Nat} (h1 : snap H n v = some (a, i)) (h2 : snaps H n l = some (b, j)) : snaps H (n + 1) (v :: l) = some (a :: b, i ++ j) := by
  simp only [snaps, h1, h2, Option.bind_some, Option.map_some]
theorem snap_msl {H : Nat → AB} {id sz off len cap : Nat} {cs : List CV} (hb : H id = .blk (cs.map .c)) (m : Nat) (hm : cs.length + 20 ≤ m) : snap H m (.msl id sz off len cap) = some (.sl cs off len, [id]) := by
  obtain ⟨m, rfl⟩ : ∃ k, m = k + 20 := ⟨m - 20, by omega⟩
  simp only [snap, hb]
  rw [snaps_map_c H cs _ (by omega)]
  rfl
/-- A call with a slice of one's own, and other things. -/
theorem CallW.own {P : Program} {id sz off len cap : Nat} {cs rest : List CV} {h : Heap} {f : FuncId} {v : CV} {K : AEnd → Heap → Prop} (hb : Heap.at h id = .blk (cs.map .c)) (hk : Ret P f (.sl cs off len :: rest) v) (hp : v.plain = true) (k : K (.ret (.c v)) h) : CallW P f (.msl id sz off len cap :: rest.map .c) h K := by
  have hkl : killed v ([id] ++ []) = [] := by unfold killed; rw [if_pos hp]
  exact .snapped (cs.length + rest.length + 20 + 1) _ _ _ v (snapsCons (snap_msl hb _ (by omega)) (snaps_map_c _ rest _ (by omega))) hk rfl (by rw [hkl]; exact k)
theorem flat_sl {α : Type} {sz : Nat} : ∀ (rows : List (List α)) (_ : ∀ r ∈ rows, r.length = sz) (i : Nat) (r : List α), rows[i]? = some r → sliceOf rows.flatten (i * sz) sz = some r
  | [], _, i, r, h => by simp at h
  | a :: rows, hr, 0, r, h => by
    simp only [List.getElem?_cons_zero, Option.some.injEq] at h
    subst h
    have hl := hr a (by simp)
    simp [sliceOf, ← hl]
  | a :: rows, hr, i + 1, r, h => by
    have hl := hr a (by simp)
    have ih := flat_sl rows (fun r hr' => hr r (by simp [hr'])) i r (by simpa using h)
    have e2 : (i + 1) * sz = a.length + i * sz := by rw [Nat.add_mul, hl]; omega
    simp only [sliceOf, List.flatten_cons, e2, ← List.drop_drop, List.drop_left] at ih ⊢
    exact ih
theorem sl_flat {sz : Nat} {rows : List (List CV)} (h : ∀ r ∈ rows, r.length = sz) : SlOf sz rows rows.flatten 0 rows.length :=
  ⟨rfl, fun i r hr => by rw [Nat.zero_add]; exact flat_sl rows h i r hr⟩
theorem Foot.high {W : Nat → Prop} {N : Nat} {h h' : Heap} (f : Foot (fun i => W i ∨ i = N ∨ i = N + 1) h h') (hw : ∀ i, W i → N + 2 ≤ i) : Foot (fun i => N ≤ i) h h' := f.mono fun i _ hi => by
  rcases hi with hi | hi | hi
  · have := hw i hi; omega
  · omega
  · omega
theorem apart_lt {W : Nat → Prop} {N : Nat} (hw : ∀ i, W i → N + 2 ≤ i) {i : Nat} (hi : i < N) : apart W N i := fun x => by
  rcases x with x | x | x
  · have := hw i x; omega
  · omega
  · omega
end Go.Ag
