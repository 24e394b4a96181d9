/- Calls one after the other, values of one's own handed over, new variables beside calls that write. No conditions. -/
import Derived.Test.YtgidjimpobeahaaAgE
/- Statement by statement: what follows is kept out of the way. -/
namespace Go.Ag

/-- What code comes to; what it is not looked into. -/
inductive Then (P : Program) (c : Code) (s : ASt) (K : AExit → ASt → Prop) : Prop
  | mk (h : T P (.code c) s K)

section
variable {P : Program}

theorem then_seq {hm : Bool} {a b : Code} {s : ASt} {K : AExit → ASt → Prop} (h : wCode P hm a s fun e s1 => match e with | .normal => Then P b s1 K | e => K e s1) : Then P (.seq a b) s K := by
  refine ⟨T_seq ((wCode_ok a s _ h).mono ?_)⟩
  intro e s1 h
  cases e with
  | normal => exact h.1
  | exit i => exact h
  | ret => exact h
  | panic v => exact h
/-- All that matters behind a statement. -/
theorem then_via {hm : Bool} {a b : Code} {s : ASt} {K : AExit → ASt → Prop} (A : ASt → Prop) (h : wCode P hm a s fun e s1 => match e with | .normal => A s1 | e => K e s1) (k : ∀ s1, A s1 → Then P b s1 K) : Then P (.seq a b) s K := by
  refine ⟨T_seq ((wCode_ok a s _ h).mono ?_)⟩
  intro e s1 h
  cases e with
  | normal => exact (k s1 h).1
  | exit i => exact h
  | ret => exact h
  | panic v => exact h
theorem then_end {hm : Bool} {c : Code} {s : ASt} {K : AExit → ASt → Prop} (h : wCode P hm c s K) : Then P c s K := ⟨wCode_ok c s K h⟩
theorem Has.then {s : ASt} {n : Nat} {l : List (Tmp × AV)} {ds : List ADef} {rd : Option Nat} {h : Heap} (hs : Has s n l ds rd h) {c : Code} {K : AExit → ASt → Prop} (hk : knownK n l fun t => Then P c ⟨t, ds, .no, rd, h⟩ K) : Then P c s K := by
  rw [knownK_eq] at hk
  exact ⟨hk.1.weak hs.weak⟩
theorem call_thenP {hm : Bool} {f : FuncId} {fn : Func} {body : Code} {args : List AV} {h : Heap} {pan : Pan} {Q : AEnd → Heap → Pan → Prop} (hf : P.funcs[f]? = some fn) (hb : fn.body = some body)
    (hw : initK args (fn.ntmps - args.length) fun t => Then P body ⟨t, [], pan, none, h⟩ (fun e s => endP hm P fn Q e s)) : ∃ e h' p', CallOk P f args h pan e h' p' ∧ Q e h' p' := by
  rw [initK_eq] at hw
  obtain ⟨⟨e, s1, h1, h3⟩⟩ := hw
  unfold endP at h3
  split at h3
  · exact h3.elim
  rename_i mode hmode
  obtain ⟨mode', h2, hd, h4⟩ := defW_ok h3
  have ok := ok_call hf hb h1 hmode hd
  cases mode' with
  | none =>
    obtain ⟨vs, hv, h5⟩ := resK_ok h4
    refine ⟨.ret (oneOf vs), h2, s1.pan, ok.1 _ rfl ?_, h5⟩
    rw [← readResultsF_eq]
    unfold readResultsF oneOf
    rw [hv]
    cases vs with
    | nil => rfl
    | cons a l => cases l <;> rfl
  | some v => exact ⟨.panic v, h2, s1.pan, ok.2 v rfl, h4⟩
theorem call_then {hm : Bool} {f : FuncId} {fn : Func} {body : Code} {args : List AV} {h : Heap} {Q : AEnd → Heap → Prop} (hf : P.funcs[f]? = some fn) (hb : fn.body = some body)
    (hw : initK args (fn.ntmps - args.length) fun t => Then P body ⟨t, [], .no, none, h⟩ (fun e s => endW hm P fn Q e s)) : ∃ e h', CallOk P f args h .no e h' .no ∧ Q e h' := by
  obtain ⟨e, h', p', h1, h2⟩ := call_thenP hf hb hw
  unfold noPan at h2
  split at h2
  · exact ⟨e, h', h1, h2⟩
  · exact h2.elim
theorem ret_then {hm : Bool} {f : FuncId} {fn : Func} {body : Code} {args : List CV} {v : CV} (hf : P.funcs[f]? = some fn) (hb : fn.body = some body)
    (hw : initK (args.map .c) (fn.ntmps - (args.map AV.c).length) fun t => Then P body ⟨t, [], .no, none, TMap.nil⟩ (fun e s => endW hm P fn (fun e h' => retW v e h') e s)) : Ret P f args v := by
  obtain ⟨e, h', h1, h2⟩ := call_then hf hb hw
  cases e with
  | panic _ => exact h2.elim
  | ret u =>
    obtain ⟨fuel, ids, h3⟩ := (h2 : RetW v u h')
    exact callOk_close h1 (r := (v, ids)) h3
end

/-- An append in a region that draws: what follows sees the heap as it is named. -/
theorem dgot {P : Program} {hm : Bool} {ops : Array Oper} {rest : List Nat} {tmps : TMap AV} {ds : List ADef} {p : Pan} {rd : Option Nat} {h : Heap} {o : Oper} {i : Nat} {l : List DRec} {K : List DRec → ASt → Prop} {X : Option SOut} {r : SOut} {H : Heap}
    (hX : X = some r) (hb : r.upds.all (fun p => decide (p.1 < h.n)) = true) (hH : (Heap.upd h r.upds).app .dead r.fresh.toList = H)
    (k : putK tmps o.dst r.val fun t => dOps P hm ops rest ⟨t, ds, p, rd, H⟩ (⟨i, o.dst, o.looksAt ops, r.val, r.reads, r.upds, r.fresh, h.n, none⟩ :: l) K) :
    Got X fun r => Both (r.upds.all (fun p => decide (p.1 < h.n)) = true) (dOps P hm ops rest ((ASt.mk tmps ds p rd h).apply o.dst r) (⟨i, o.dst, o.looksAt ops, r.val, r.reads, r.upds, r.fresh, h.n, none⟩ :: l) K) := by
  rw [putK_eq] at k
  refine ⟨r, hX, hb, ?_⟩
  unfold ASt.apply
  dsimp only
  rw [hH]
  cases hd : o.dst with
  | none => rw [hd] at k; exact k
  | some d => rw [hd] at k; exact k
end Go.Ag
/- A region whose order is open, in which a call that writes and an allocation may change places. -/
namespace Go.Ag
section
variable {P : Program} {ops : Array Oper}

/-- A pointer to a block that is not yet seen. -/
structure Late (g : G) (H : Nat → AB) (fr : Frame) (w : World) (d : Tmp) (v : Value) (sp : Spot) (o : Obj) : Prop where
  tmp : fr.tmps[d]? = some v ∨ fr.tmps.size ≤ d
  blk : w.heap[sp.blk]? = some o
  own : ¬ Own g H sp.blk
  fro : g.Φ sp.blk = none

theorem Late.step {g g1 : G} {s s1 : ASt} {fr fr1 : Frame} {w w1 : World} {d : Tmp} {v : Value} {sp : Spot} {o : Obj} (h : Late g (Heap.at s.h) fr w d v sp o) (hev : Evolves g (Heap.at s.h) w g1 (Heap.at s1.h) w1) (ht : fr1.tmps[d]? = fr.tmps[d]?) (hs : fr1.tmps.size = fr.tmps.size) : Late g1 (Heap.at s1.h) fr1 w1 d v sp o := by
  have hlt : sp.blk < w.heap.size := by
    have := h.blk
    exact (Array.getElem?_eq_some_iff.1 this).1
  refine ⟨by rw [ht, hs]; exact h.tmp, by rw [hev.keep _ hlt h.own]; exact h.blk, fun ho => ?_, ?_⟩
  · rcases hev.own _ ho with h1 | h1
    · exact h.own h1
    · omega
  · cases hf : g1.Φ sp.blk with
    | none => rfl
    | some o' =>
      rcases hev.fro _ _ hf with h1 | h1 | h1
      · rw [h.fro] at h1; cases h1
      · exact absurd h1 h.own
      · omega

/-- The same but for a temporary. -/
structure But (d : Tmp) (x : XSt) (s : ASt) : Prop where
  n : s.tmps.n = x.n
  T : ∀ t, t ≠ d → s.tmps.get .undef t = x.T t
  h : s.h = x.h

theorem But.req {d : Tmp} {x : XSt} {s : ASt} {m : MRec} (b : But d x s) (h : m.req x) (hd : d ∉ m.looks) : m.req s.x := by
  refine ⟨fun t ht => (b.T t (by rintro rfl; exact hd ht)).trans (h.1 t ht), ?_⟩
  have h2 := h.2
  cases hk : m.kind with
  | none => rw [hk] at h2; intro r hr; show Heap.at s.h r = _; rw [b.h]; exact h2 r hr
  | some p => rw [hk] at h2; show s.h = _; rw [b.h]; exact h2
theorem But.on {d : Tmp} {x : XSt} {s : ASt} {m : MRec} (b : But d x s) : But d (m.on x) (({ s with h := m.heapOf s.h } : ASt).put m.dst m.val) := by
  have e := put_x (s := s) (m := m)
  refine ⟨?_, fun t ht => ?_, ?_⟩
  · have := congrArg XSt.n e
    exact this.trans b.n
  · have h1 : (({ s with h := m.heapOf s.h } : ASt).put m.dst m.val).tmps.get .undef t = (m.on s.x).T t := congrFun (congrArg XSt.T e) t
    rw [h1]
    unfold MRec.on
    cases hd : m.dst with
    | none => exact b.T t ht
    | some d' =>
      show (if t = d' ∧ d' < s.x.n then m.val else s.x.T t) = if t = d' ∧ d' < x.n then m.val else x.T t
      have : s.x.n = x.n := b.n
      rw [this]
      split
      · rfl
      · exact b.T t ht
  · have := congrArg XSt.h e
    refine this.trans ?_
    unfold MRec.on
    show (match m.kind with | none => s.x.h | some p => p.2) = match m.kind with | none => x.h | some p => p.2
    cases m.kind with
    | none => exact b.h
    | some p => rfl

/-- What is run while a block is not yet seen. -/
theorem late_run {d : Tmp} : ∀ {L : List MRec} {x x' : XSt}, XSteps L x x' → (∀ m ∈ L, Ev P ops m) → (∀ m ∈ L, m.pan = none) → (∀ m ∈ L, m.dst ≠ some d ∧ d ∉ m.looks) →
    ∀ {s : ASt}, But d x s → ∀ {g : G} {fr : Frame} {cs base : List Frame} {w : World} {k : List Item} {rest : List Nat} {v : Value} {sp : Spot} {o : Obj}, StRel P g s fr w → CsRel g s.pan fr.kind cs base → fr.todo = .inRegion ops (L.map (·.idx) ++ rest) :: k → fr.mode = .run → Late g (Heap.at s.h) fr w d v sp o →
    ∃ g1 s1 fr1 w1, But d x' s1 ∧ s1.defers = s.defers ∧ s1.pan = s.pan ∧ s1.round = s.round ∧ Steps P (lone fr cs w) (lone fr1 cs w1) ∧ StRel P g1 s1 fr1 w1 ∧ CsRel g1 s1.pan fr.kind cs base ∧ Evolves g (Heap.at s.h) w g1 (Heap.at s1.h) w1 ∧ fr1.todo = .inRegion ops rest :: k ∧ fr1.mode = .run ∧ fr1.fn = fr.fn ∧ fr1.kind = fr.kind ∧ Late g1 (Heap.at s1.h) fr1 w1 d v sp o
  | [], x, x', h, _, _, _, s, b, g, fr, cs, base, w, k, rest, v, sp, o, hst, hcs, ht, hm, hl => by
    cases h
    exact ⟨g, s, fr, w, b, rfl, rfl, rfl, .refl _ _, hst, hcs, .refl _ _ _, ht, hm, rfl, rfl, hl⟩
  | m :: L, x, x', h, he, hp, hd, s, b, g, fr, cs, base, w, k, rest, v, sp, o, hst, hcs, ht, hm, hl => by
    cases h with
    | cons hr h =>
    have hdm := hd m (List.mem_cons_self ..)
    have hF := (he m (List.mem_cons_self ..)).2.2 (hp m (List.mem_cons_self ..)) s (b.req hr hdm.2)
    obtain ⟨g1, fr1, w1, a1, a2, a3, a4, a5, a6, a7, a8, a9, a10⟩ := hF g fr cs base w k (L.map (·.idx) ++ rest) hst hcs ht hm
    have hsz : fr1.tmps.size = fr.tmps.size := by
      rw [← a2.len, ← hst.len]
      unfold ASt.put
      cases m.dst <;> rfl
    have hl1 := hl.step a4 (a10 d hdm.1) hsz
    have pd : (({ s with h := m.heapOf s.h } : ASt).put m.dst m.val).defers = s.defers := by unfold ASt.put; cases m.dst <;> rfl
    have pp : (({ s with h := m.heapOf s.h } : ASt).put m.dst m.val).pan = s.pan := by unfold ASt.put; cases m.dst <;> rfl
    have pr : (({ s with h := m.heapOf s.h } : ASt).put m.dst m.val).round = s.round := by unfold ASt.put; cases m.dst <;> rfl
    obtain ⟨g2, s2, fr2, w2, c1, c2, c3, c4, c5, c6, c7, c8, c9, c10, c11, c12, c13⟩ := late_run h (fun m hm => he m (List.mem_cons_of_mem _ hm)) (fun m hm => hp m (List.mem_cons_of_mem _ hm)) (fun m hm => hd m (List.mem_cons_of_mem _ hm)) b.on (g := g1) (fr := fr1) (cs := cs) (base := base) (w := w1) (k := k) (rest := rest) a2 (by rw [a9]; exact a3) a6 (a7.trans hm) hl1
    exact ⟨g2, s2, fr2, w2, c1, c2.trans pd, c3.trans pp, c4.trans pr, a1.trans c5, c6, by rw [← a9]; exact c7, a4.trans c8, c9, c10, c11.trans a8, c12.trans a9, c13⟩

/-- An allocation, as it is done. -/
structure IsAlloc (P : Program) (ops : Array Oper) (a : MRec) (d : Tmp) (h0 : Heap) (Z : List CV) : Prop where
  op : ∃ o t, ops[a.idx]? = some o ∧ o.op = .alloc t ∧ o.guard = none ∧ o.dst = some d ∧ zeroCells P t = some (Z.map .c)
  dst : a.dst = some d
  kind : a.kind = some (h0, h0.push .dead (.blk (Z.map .c)))
  val : a.val = .ptr h0.n 0
  lit : ∀ c ∈ Z, ∃ v, c = CV.lit v

theorem live_some {g : G} {b : AB} {sp : Spot} {o : Option Obj} (h : RepB g b sp o) (hl : b.live = true) : ∃ x, o = some x := by
  cases b with
  | dead => cases hl
  | blk cells => obtain ⟨cs, e, h1, _⟩ := h; exact ⟨_, h1⟩
  | map keys vals borns clock => obtain ⟨es, h1, _⟩ := h; exact ⟨_, h1⟩
  | loop fn tmps params assign body st pending coll => obtain ⟨fn, tm, h1, _⟩ := h; exact ⟨_, h1⟩
  | coll b => exact ⟨_, h⟩
theorem some_lt {w : World} {b : Nat} {o : Obj} (h : w.heap[b]? = some o) : b < w.heap.size := (Array.getElem?_eq_some_iff.1 h).1

theorem late_alloc {a : MRec} {d : Tmp} {h0 : Heap} {Z : List CV} (IA : IsAlloc P ops a d h0 Z) {L : List MRec} {s s' : ASt} (hx : XSteps L s.x s'.x) (he : ∀ m ∈ L, Ev P ops m) (hp : ∀ m ∈ L, m.pan = none) (hd : ∀ m ∈ L, m.dst ≠ some d ∧ d ∉ m.looks)
    (hh : s'.h = h0) (hn : s'.tmps.n = s.tmps.n) (hds : s'.defers = s.defers) (hpan : s'.pan = s.pan) (hr : s'.round = s.round) {γ : List Nat} {e : AExit} {sf : ASt}
    (hrest : CodeOk P (({ s' with h := h0.push .dead (.blk (Z.map .c)) } : ASt).put (some d) (.ptr h0.n 0)) (.inRegion ops γ) e sf) : CodeOk P s (.inRegion ops (a.idx :: (L.map (·.idx) ++ γ))) e sf := by
  intro g fr cs base w k hst hcs ht hm
  obtain ⟨o, t, ho, hop, hg, hdst, hz⟩ := IA.op
  have ha : aop P o s.eval (fun _ => .dead) s.h.n = some (.simple { val := .ptr s.h.n 0, fresh := some (.blk (Z.map .c)) }) := by
    unfold aop
    rw [hop]
    simp only [hz]
  have inv0 : Inv g (fun _ => AB.dead) w := ⟨hst.inv.frozen, fun _ _ => trivial, (fun _ _ h => absurd h (by simp [AB.live])), (fun _ _ _ _ h => absurd h (by simp [AB.live]))⟩
  have hsim := aop_sim (P := P) (w := w) inv0 (σ := fr.eval) hst.eval (fresh := s.h.n) (fun h => absurd ((hst.A _).1 h) (Nat.lt_irrefl _)) ha
  obtain ⟨v, w', g', hres, hrv, hinv, hev, hA, hup⟩ := hsim
  have hwn : wantedA ops o s = some true := by unfold wantedA; rw [hg]
  have hnd : fr.roundOf = none ∨ ∀ c, o.op ≠ .defer c := .inr (fun c hc => by rw [hop] at hc; cases hc)
  have hsteps : Steps P (lone fr cs w) (lone (fr.finish v) cs w') := by
    refine step_go ?_
    rw [op_do hm ht ho (wanted_spec hst hwn) hnd]
    rcases hres with hres | ⟨hres, rfl⟩
    · exact apply_value hres
    · exact apply_skip hres
  have keep : ∀ b, b < w.heap.size → w'.heap[b]? = w.heap[b]? := fun b hb => hev.keep b hb (fun ⟨_, _, h, _⟩ => by cases h)
  have gn : g'.A s.h.n := (hA _).2 (.inr ⟨rfl, rfl⟩)
  have hblk := hinv.block s.h.n gn
  have heff : effect (fun _ => AB.dead) s.h.n { val := .ptr s.h.n 0, fresh := some (.blk (Z.map .c)) } s.h.n = .blk (Z.map .c) := by simp [effect, upd1, updF]
  rw [heff] at hblk
  obtain ⟨cs0, e0, hb1, hb2, hb3⟩ := hblk
  obtain ⟨sp, hsp⟩ : ∃ sp, sp = g'.j s.h.n := ⟨_, rfl⟩
  rw [← hsp] at hb1 hb2 hb3
  have hB : w.heap.size ≤ sp.blk := by
    rcases hev.own sp.blk ⟨s.h.n, gn, by rw [heff]; rfl, by rw [hsp]⟩ with ⟨_, _, h, _⟩ | h
    · cases h
    · exact h
  have invr : Inv g (Heap.at s.h) w' := by
    refine ⟨fun b o hb => ?_, fun id hid => ?_, hst.inv.apart, hst.inv.inj⟩
    · have := hst.inv.frozen b o hb
      rw [keep b (some_lt this)]; exact this
    · have h1 := hst.inv.block id hid
      cases hl : (Heap.at s.h id).live with
      | false =>
        have : Heap.at s.h id = .dead := by cases hb : Heap.at s.h id <;> rw [hb] at hl <;> first | rfl | cases hl
        rw [this]; trivial
      | true =>
        obtain ⟨x, hxx⟩ := live_some h1 hl
        rw [keep _ (some_lt hxx)]; exact h1
  have notown : ¬ Own g (Heap.at s.h) sp.blk := by
    rintro ⟨id, h1, h2, h3⟩
    obtain ⟨x, hxx⟩ := live_some (hst.inv.block id h1) h2
    have := some_lt hxx
    omega
  have notfro : g.Φ sp.blk = none := by
    cases hf : g.Φ sp.blk with
    | none => rfl
    | some o' => have := some_lt (hst.inv.frozen _ _ hf); omega
  obtain ⟨f1, f2, f3, f4, f5, f6, f7, f8⟩ := hst.finish (g' := g) (.refl g) ht ho (a := .c .junk) (v := v) trivial (hp := s.h) invr hst.A
  rw [hdst] at f1 f6 f7 f8
  have ev0 : Evolves g (Heap.at s.h) w g (Heap.at s.h) w' := ⟨.refl g, hev.os, hev.tape, hev.output, hev.size, fun b hb _ => keep b hb, fun _ _ h => .inl h, fun _ h => .inl h⟩
  have late0 : Late g (Heap.at (({ s with h := s.h } : ASt).put (some d) (.c .junk)).h) (fr.finish v) w' d v sp (.cells cs0 e0 (0, 0)) := by
    rw [f8]
    refine ⟨?_, hb1, notown, notfro⟩
    rw [finish_eq ht ho, hdst]
    by_cases hlt : d < fr.tmps.size
    · exact .inl (by simp [hlt])
    · exact .inr (by show (fr.tmps.setIfInBounds d v).size ≤ d; rw [Array.size_setIfInBounds]; exact Nat.le_of_not_lt hlt)
  have but0 : But d s.x (({ s with h := s.h } : ASt).put (some d) (.c .junk)) := by
    refine ⟨rfl, fun t ht' => ?_, rfl⟩
    show (s.tmps.set .undef d (.c .junk)).get .undef t = s.tmps.get .undef t
    rw [TMap.get_set, if_neg (fun h => ht' h.1)]
  obtain ⟨g1, s1, fr1, w1, c1, c2, c3, c4, c5, c6, c7, c8, c9, c10, c11, c12, c13⟩ := late_run hx he hp hd but0 (g := g) (fr := fr.finish v) (cs := cs) (base := base) (w := w') (k := k) (rest := γ) (v := v) (sp := sp) (o := .cells cs0 e0 (0, 0)) f1 (by rw [f6, f5]; exact hcs) f2 (f3.trans hm) late0
  have sh : s1.h = h0 := c1.h.trans hh
  obtain ⟨g2, hg2⟩ : ∃ g2 : G, g2 = { g1 with A := fun i => i < h0.n + 1, j := fun i => if i = h0.n then sp else g1.j i } := ⟨_, rfl⟩
  have A1 : ∀ i, g1.A i ↔ i < h0.n := fun i => by rw [c6.A, sh]
  have le2 : g1.le g2 := by
    rw [hg2]
    refine ⟨fun _ _ h => h, fun i hi => ?_, fun i hi => ?_⟩
    · have := (A1 i).1 hi; show i < h0.n + 1; omega
    · have := (A1 i).1 hi; show (if i = h0.n then sp else g1.j i) = g1.j i; rw [if_neg (by omega)]
  have j2 : g2.j h0.n = sp := by rw [hg2]; exact if_pos rfl
  have j2' : ∀ i, i ≠ h0.n → g2.j i = g1.j i := fun i hi => by rw [hg2]; exact if_neg hi
  have A2 : ∀ i, g2.A i ↔ i < h0.n + 1 := fun i => by rw [hg2]
  have Φ2 : g2.Φ = g1.Φ := by rw [hg2]
  have inv1 : Inv g1 (Heap.at h0) w1 := sh ▸ c6.inv
  have own1 : ¬ Own g1 (Heap.at h0) sp.blk := sh ▸ c13.own
  have atn : Heap.at (h0.push .dead (.blk (Z.map .c))) h0.n = .blk (Z.map .c) := by unfold Heap.at; rw [TMap.get_push, if_pos rfl]
  have ati : ∀ i, i ≠ h0.n → Heap.at (h0.push .dead (.blk (Z.map .c))) i = Heap.at h0 i := fun i hi => by unfold Heap.at; rw [TMap.get_push, if_neg hi]
  have inv2 : Inv g2 (Heap.at (h0.push .dead (.blk (Z.map .c)))) w1 := by
    refine ⟨fun b o hb => inv1.frozen b o (by rw [← Φ2]; exact hb), fun id hid => ?_, fun id hid hl => ?_, fun id id' h1 h2 l1 l2 hj => ?_⟩
    · by_cases hi : id = h0.n
      · subst hi
        rw [atn, j2]
        refine ⟨cs0, e0, c13.blk, hb2, ?_⟩
        intro i x hxx
        obtain ⟨y, hy, hr'⟩ := hb3 i x hxx
        refine ⟨y, hy, ?_⟩
        obtain ⟨c, hc, rfl⟩ := List.mem_map.1 (List.mem_of_getElem? hxx)
        obtain ⟨u, rfl⟩ := IA.lit c hc
        exact hr'
      · rw [ati id hi, j2' id hi]
        exact repB_mono le2 (inv1.block id ((A1 id).2 (by have := (A2 id).1 hid; omega)))
    · rw [Φ2]
      by_cases hi : id = h0.n
      · subst hi; rw [j2]; exact c13.fro
      · rw [ati id hi] at hl
        rw [j2' id hi]
        exact inv1.apart id ((A1 id).2 (by have := (A2 id).1 hid; omega)) hl
    · by_cases hi : id = h0.n
      · by_cases hi' : id' = h0.n
        · rw [hi, hi']
        · exfalso
          rw [ati id' hi'] at l2
          rw [hi, j2, j2' id' hi'] at hj
          exact own1 ⟨id', (A1 id').2 (by have := (A2 id').1 h2; omega), l2, hj.symm⟩
      · by_cases hi' : id' = h0.n
        · exfalso
          rw [ati id hi] at l1
          rw [hi', j2, j2' id hi] at hj
          exact own1 ⟨id, (A1 id).2 (by have := (A2 id).1 h1; omega), l1, hj⟩
        · rw [ati id hi] at l1
          rw [ati id' hi'] at l2
          rw [j2' id hi, j2' id' hi'] at hj
          exact inv1.inj id id' ((A1 id).2 (by have := (A2 id).1 h1; omega)) ((A1 id').2 (by have := (A2 id').1 h2; omega)) l1 l2 hj
  have hv : v = .pointer (some ⟨sp.blk, sp.base + 0, none⟩) := by rw [hsp]; exact hrv.2
  have hrv2 : Rep g2 (.ptr h0.n 0) v := ⟨(A2 _).2 (Nat.lt_succ_self _), by rw [hv, j2]⟩
  have st2 : StRel P g2 (({ s1 with h := h0.push .dead (.blk (Z.map .c)) } : ASt).put (some d) (.ptr h0.n 0)) fr1 w1 := by
    refine ⟨inv2, fun i => by rw [A2]; exact Iff.rfl, c6.len, ?_, c6.defers.mono le2, ?_⟩
    · show Pw (Rep g2) ((s1.tmps.set .undef d (.ptr h0.n 0)).toList .undef) fr1.tmps.toList
      rw [TMap.toList_set]
      have hset : fr1.tmps.toList.set d v = fr1.tmps.toList := by
        apply List.ext_getElem?
        intro i
        rw [List.getElem?_set]
        by_cases hi : d = i
        · subst hi
          rw [if_pos rfl]
          rcases c13.tmp with h | h
          · have hlt : d < fr1.tmps.size := (Array.getElem?_eq_some_iff.1 h).1
            rw [if_pos (by simpa using hlt)]
            have : fr1.tmps.toList[d]? = some v := by simpa using h
            rw [this]
          · rw [if_neg (by simp; omega), List.getElem?_eq_none (by simp; omega)]
        · rw [if_neg hi]
      rw [← hset]
      exact (pw_mono le2 c6.tmps).set d hrv2
    · rcases c6.round with h | ⟨i, h1, h2, h3⟩
      · exact .inl h
      · exact .inr ⟨i, h1, le2.A _ h2, by rw [le2.j _ h2]; exact h3⟩
  have e3 : s1.defers = s'.defers := c2.trans hds.symm
  have e4 : s1.pan = s'.pan := c3.trans hpan.symm
  have e5 : s1.round = s'.round := c4.trans hr.symm
  have hw2 : Weak (({ s1 with h := h0.push .dead (.blk (Z.map .c)) } : ASt).put (some d) (.ptr h0.n 0)) (({ s' with h := h0.push .dead (.blk (Z.map .c)) } : ASt).put (some d) (.ptr h0.n 0)) := by
    refine ⟨(c1.n).symm, fun i _ => .inr ?_, e3.symm, e4.symm, e5.symm, rfl⟩
    show (s'.tmps.set .undef d (.ptr h0.n 0)).get .undef i = (s1.tmps.set .undef d (.ptr h0.n 0)).get .undef i
    rw [TMap.get_set, TMap.get_set]
    have hn' : s1.tmps.n = s'.tmps.n := c1.n
    rw [hn']
    split
    · rfl
    · rename_i hne
      by_cases hi : i = d
      · subst hi
        have : ¬ i < s'.tmps.n := fun h => hne ⟨rfl, h⟩
        rw [TMap.get_ge (by omega), TMap.get_ge (by omega)]
      · exact (c1.T i hi).symm
  obtain ⟨g3, fr3, cs3, w3, G3⟩ := hrest.weak hw2 g2 fr1 cs base w1 k st2 (by rw [c12]; exact c7.mono le2) c9 c10
  have ev1 : Evolves g (Heap.at s.h) w g1 (Heap.at s1.h) w1 := by
    have := c8
    rw [f8] at this
    exact ev0.trans this
  have ev2 : Evolves g (Heap.at s.h) w g2 (Heap.at (h0.push .dead (.blk (Z.map .c)))) w1 := by
    refine ⟨ev1.le.trans le2, ev1.os, ev1.tape, ev1.output, ev1.size, ev1.keep, fun b o hb => ev1.fro b o (by rw [← Φ2]; exact hb), ?_⟩
    rintro b ⟨id, h1, h2, h3⟩
    by_cases hi : id = h0.n
    · subst hi
      rw [j2] at h3
      exact .inr (h3 ▸ hB)
    · rw [ati id hi] at h2
      rw [j2' id hi] at h3
      exact ev1.own b ⟨id, (A1 id).2 (by have := (A2 id).1 h1; omega), by rw [sh]; exact h2, h3⟩
  refine ⟨g3, fr3, cs3, w3, hsteps.trans (c5.trans G3.steps), G3.st, ?_, ?_, ?_, G3.lands, ev2.trans G3.ev, ?_⟩
  · have := G3.cs; rw [c12, f5] at this; exact this
  · exact G3.fn.trans (c11.trans f4)
  · exact G3.kind.trans (c12.trans f5)
  · exact G3.round.trans c4

/-- All that depends on the allocation comes behind it. -/
def waits (ms : List Nat) (n ia a : Nat) : Bool := (List.range n).all fun x => !(ms.getD x 0).testBit ia || (ms.getD x 0).testBit a
def ordB (ms : List Nat) (n ia a b : Nat) : Bool := (ms.getD b 0).testBit a || (Nat.beq b ia && waits ms n ia a)
def aCheck1 (ms : List Nat) (n ia : Nat) (a : MRec) : List MRec → Bool
  | [] => true
  | b :: l => (ordB ms n ia a.idx b.idx || mTmps a b) && aCheck1 ms n ia a l
def aCheck (ms : List Nat) (n ia : Nat) : List MRec → Bool
  | [] => true
  | a :: l => aCheck1 ms n ia a l && aCheck ms n ia l
def aNeeds1 (ms : List Nat) (n ia : Nat) (a : MRec) : List MRec → List (Nat × Heap × Heap)
  | [] => []
  | b :: l => (if ordB ms n ia a.idx b.idx then [] else mNeed a b) ++ aNeeds1 ms n ia a l
def aNeeds (ms : List Nat) (n ia : Nat) : List MRec → List (Nat × Heap × Heap)
  | [] => []
  | a :: l => aNeeds1 ms n ia a l ++ aNeeds ms n ia l
def aFree (ms : List Nat) (ia d : Nat) (l : List MRec) : Bool := l.all fun m => Nat.beq m.idx ia || (ms.getD m.idx 0).testBit ia || (m.dst != some d && !m.looks.contains d)

theorem aCheck_spec {ms : List Nat} {n ia : Nat} : ∀ {l : List MRec}, aCheck ms n ia l = true → HeapsOk (aNeeds ms n ia l) → l.Pairwise (fun a b => ordB ms n ia a.idx b.idx = true ∨ MIndep a b)
  | [], _, _ => .nil
  | a :: l, hc, hh => by
    simp only [aCheck, Bool.and_eq_true] at hc
    have one : ∀ {l : List MRec}, aCheck1 ms n ia a l = true → HeapsOk (aNeeds1 ms n ia a l) → ∀ b ∈ l, ordB ms n ia a.idx b.idx = true ∨ MIndep a b := by
      intro l
      induction l with
      | nil => intro _ _; simp
      | cons b l ih =>
        intro h1 h2
        simp only [aCheck1, Bool.and_eq_true, Bool.or_eq_true] at h1
        have h3 : HeapsOk (aNeeds1 ms n ia a l) := fun x hx => h2 x (by simp only [aNeeds1]; exact List.mem_append_right _ hx)
        intro x hx
        rcases List.mem_cons.1 hx with rfl | hx
        · cases hb : ordB ms n ia a.idx x.idx with
          | true => exact .inl rfl
          | false =>
            refine .inr (mIndep_of (h1.1.resolve_left (by rw [hb]; simp)) fun y hy => h2 y ?_)
            simp only [aNeeds1, hb]
            exact List.mem_append_left _ hy
        · exact ih h1.2 h3 x hx
    refine .cons (one hc.1 fun x hx => hh x (by simp only [aNeeds]; exact List.mem_append_left _ hx)) (aCheck_spec hc.2 fun x hx => hh x (by simp only [aNeeds]; exact List.mem_append_right _ hx))

theorem mixedA_ok (hmix : P.follows .mixedOrders = true) {id ia : Nat} {d : Tmp} {s s1 : ASt} {L : List MRec} (hback : backGo ops.toList 0 = true) (hL : L.map (·.idx) = List.range ops.size) (hx : XSteps L s.x s1.x) (he : ∀ m ∈ L, Ev P ops m) (hp : ∀ m ∈ L, m.pan = none)
    (hpw : L.Pairwise (fun a b => ordB (masks ops) ops.size ia a.idx b.idx = true ∨ MIndep a b)) (hfree : aFree (masks ops) ia d L = true) {a : MRec} {h0 : Heap} {Z : List CV} (haL : a ∈ L) (hai : a.idx = ia) (IA : IsAlloc P ops a d h0 Z)
    (hn : s1.tmps.n = s.tmps.n) (hds : s1.defers = s.defers) (hpan : s1.pan = s.pan) (hr : s1.round = s.round) :
    CodeOk P s (.code (.region id ops true)) .normal s1 := by
  refine region_any hmix hback fun σ hσ ho => ?_
  have hia : ia ∈ σ := hσ.symm.subset (by rw [← hL, ← hai]; exact List.mem_map_of_mem haL)
  obtain ⟨α, τ, rfl⟩ := List.append_of_mem hia
  let p : Nat → Bool := fun x => !((masks ops).getD x 0).testBit ia
  obtain ⟨β, hβ⟩ : ∃ β, β = τ.takeWhile p := ⟨_, rfl⟩
  obtain ⟨γ, hγ⟩ : ∃ γ, γ = τ.dropWhile p := ⟨_, rfl⟩
  have hτ : τ = β ++ γ := by rw [hβ, hγ]; exact (List.takeWhile_append_dropWhile (p := p) (l := τ)).symm
  have hβp : ∀ x ∈ β, ¬ Before (masks ops) ia x := by
    intro x hxx
    have : ∀ (l : List Nat), x ∈ l.takeWhile p → p x = true := by
      intro l
      induction l with
      | nil => intro h; simp at h
      | cons y l ih =>
        intro h
        rw [List.takeWhile_cons] at h
        split at h
        · rcases List.mem_cons.1 h with rfl | h
          · assumption
          · exact ih h
        · simp at h
    have h1 := this τ (hβ ▸ hxx)
    unfold Before
    simpa [p] using h1
  have hγp : ∀ x l, γ = x :: l → Before (masks ops) ia x := by
    intro x l hgl
    have h1 : ∀ (l' : List Nat), l'.dropWhile p = x :: l → p x = false := by
      intro l'
      induction l' with
      | nil => intro h; simp at h
      | cons y l' ih =>
        intro h
        rw [List.dropWhile_cons] at h
        split at h
        · exact ih h
        · rename_i hpa
          simp only [List.cons.injEq] at h
          rw [← h.1]; simpa using hpa
    have h2 := h1 τ (hγ ▸ hgl)
    unfold Before
    simpa [p] using h2
  have hσ2 : (α ++ β ++ ia :: γ).Perm (List.range ops.size) := by
    refine List.Perm.trans ?_ hσ
    rw [hτ, List.append_assoc]
    exact List.Perm.append_left _ List.perm_middle
  have hnd : (α ++ ia :: τ).Nodup := hσ.symm.nodup List.nodup_range
  rw [hτ] at ho hσ hnd
  rw [List.pairwise_append] at ho
  obtain ⟨o1, o2, o3⟩ := ho
  rw [List.pairwise_cons, List.pairwise_append] at o2
  obtain ⟨o4, o5, o6, o7⟩ := o2
  have wait : ∀ x ∈ γ, waits (masks ops) ops.size ia x = false := by
    intro x hxg
    cases hg : γ with
    | nil => rw [hg] at hxg; cases hxg
    | cons y l =>
      have hy := hγp y l hg
      cases hwt : waits (masks ops) ops.size ia x with
      | false => rfl
      | true =>
        exfalso
        have hyr : y < ops.size := List.mem_range.1 (hσ.subset (by rw [hg]; simp))
        unfold waits at hwt
        rw [List.all_eq_true] at hwt
        have h1 := hwt y (List.mem_range.2 hyr)
        unfold Before at hy
        rw [hy] at h1
        have hxy : Before (masks ops) x y := by unfold Before; simpa using h1
        rw [hg] at hxg o6
        rcases List.mem_cons.1 hxg with rfl | hxl
        · exact absurd (before_lt hback _ _ hxy) (Nat.lt_irrefl _)
        · rw [List.pairwise_cons] at o6
          exact o6.1 x hxl hxy
  have nob : ∀ {b : Nat}, ordB (masks ops) ops.size ia b ia = true → ¬ Before (masks ops) b ia → waits (masks ops) ops.size ia b = true := by
    intro b h1 h2
    unfold ordB at h1
    unfold Before at h2
    rw [Bool.or_eq_true] at h1
    rcases h1 with h1 | h1
    · exact absurd h1 h2
    · rw [Bool.and_eq_true] at h1; exact h1.2
  have nob' : ∀ {b c : Nat}, ordB (masks ops) ops.size ia b c = true → c ≠ ia → Before (masks ops) b c := by
    intro b c h1 h2
    unfold ordB at h1
    rw [Bool.or_eq_true] at h1
    rcases h1 with h1 | h1
    · exact h1
    · rw [Bool.and_eq_true] at h1
      exact absurd (Nat.eq_of_beq_eq_true h1.1) h2
  have hndp := hnd
  rw [List.nodup_append, List.nodup_cons] at hndp
  obtain ⟨nd1, ⟨nd2, nd3⟩, nd4⟩ := hndp
  have neα : ∀ x ∈ α, x ≠ ia := fun x hxx => nd4 x hxx ia (by simp)
  have neβ : ∀ x ∈ β, x ≠ ia := fun x hxx h => nd2 (h ▸ List.mem_append_left _ hxx)
  have neγ : ∀ x ∈ γ, x ≠ ia := fun x hxx h => nd2 (h ▸ List.mem_append_right _ hxx)
  have ho2 : (α ++ β ++ ia :: γ).Pairwise (fun b a => ¬ ordB (masks ops) ops.size ia a b = true) := by
    have lift : ∀ {b c : Nat}, b ≠ ia → ¬ Before (masks ops) c b → ¬ ordB (masks ops) ops.size ia c b = true := fun hb h1 h2 => h1 (nob' h2 hb)
    rw [List.pairwise_append, List.pairwise_append, List.pairwise_cons]
    refine ⟨⟨?_, ?_, ?_⟩, ⟨?_, ?_⟩, ?_⟩
    · exact o1.imp_of_mem fun hb _ h => lift (neα _ hb) h
    · exact o5.imp_of_mem fun hb _ h => lift (neβ _ hb) h
    · intro b hb c hc; exact lift (neα _ hb) (o3 b hb c (by simp [hc]))
    · intro c hc h
      have h1 := nob h (o4 c (by simp [hc]))
      rw [wait c hc] at h1; cases h1
    · exact o6.imp_of_mem fun hb _ h => lift (neγ _ hb) h
    · intro b hb c hc
      rcases List.mem_append.1 hb with hb | hb
      · rcases List.mem_cons.1 hc with rfl | hc
        · exact lift (neα _ hb) (o3 b hb _ (by simp))
        · exact lift (neα _ hb) (o3 b hb c (by simp [hc]))
      · rcases List.mem_cons.1 hc with rfl | hc
        · exact lift (neβ _ hb) (hβp b hb)
        · exact lift (neβ _ hb) (o7 b hb c hc)
  rw [← hL] at hσ2
  obtain ⟨L', e', p', d'⟩ := XSteps.perm (Ord := fun a b => ordB (masks ops) ops.size ia a b = true) hx hpw (by rw [hL]; exact List.nodup_range) hσ2 ho2
  obtain ⟨L1, L2, rfl, e1, e2⟩ := List.map_eq_append_iff.1 e'
  obtain ⟨Lα, Lβ, rfl, eα, eβ⟩ := List.map_eq_append_iff.1 e1
  cases L2 with
  | nil => cases e2
  | cons a' Lγ =>
  simp only [List.map_cons, List.cons.injEq] at e2
  obtain ⟨ea, eγ⟩ := e2
  have inj : ∀ {l : List MRec} {a b : MRec}, (l.map (·.idx)).Nodup → a ∈ l → b ∈ l → a.idx = b.idx → a = b := by
    intro l
    induction l with
    | nil => intro a b _ ha; cases ha
    | cons x l ih =>
      intro a b hn ha hb he
      simp only [List.map_cons, List.nodup_cons] at hn
      rcases List.mem_cons.1 ha with h1 | h1
      · rcases List.mem_cons.1 hb with h2 | h2
        · rw [h1, h2]
        · subst h1; exact absurd (he ▸ List.mem_map_of_mem h2) hn.1
      · rcases List.mem_cons.1 hb with h2 | h2
        · subst h2; exact absurd (he ▸ List.mem_map_of_mem h1) hn.1
        · exact ih hn.2 h1 h2 he
  have haa : a' = a := inj (by rw [hL]; exact List.nodup_range) (p'.subset (by simp)) haL (ea.trans hai.symm)
  subst haa
  obtain ⟨x1, q1, q2⟩ := XSteps.split d'
  obtain ⟨x0, q3, q4⟩ := XSteps.split q1
  have memα : ∀ m ∈ Lα, m ∈ L := fun m hm => p'.subset (by simp [hm])
  have memβ : ∀ m ∈ Lβ, m ∈ L := fun m hm => p'.subset (by simp [hm])
  have memγ : ∀ m ∈ Lγ, m ∈ L := fun m hm => p'.subset (by simp [hm])
  obtain ⟨sα, a1, a2, a3, a4, a5, a6⟩ := xsteps_ok (P := P) (ops := ops) q3 (fun m hm => he m (memα m hm)) (fun m hm => hp m (memα m hm))
  rw [← a1] at q4
  obtain ⟨sβ, b1, b2, b3, b4, b5, b6⟩ := xsteps_ok (P := P) (ops := ops) q4 (fun m hm => he m (memβ m hm)) (fun m hm => hp m (memβ m hm))
  rw [← b1] at q2 q4
  cases q2 with
  | cons hreq q2 =>
  have hh : sβ.h = h0 := by
    have := hreq.2
    rw [IA.kind] at this
    exact this
  have hon : (({ sβ with h := h0.push .dead (.blk (Z.map .c)) } : ASt).put (some d) (.ptr h0.n 0)).x = a'.on sβ.x := by
    have := put_x (s := sβ) (m := a')
    rw [IA.dst, IA.val] at this
    unfold MRec.heapOf at this
    rw [IA.kind] at this
    exact this
  rw [← hon] at q2
  obtain ⟨sγ, c1, c2, c3, c4, c5, c6⟩ := xsteps_ok (P := P) (ops := ops) q2 (fun m hm => he m (memγ m hm)) (fun m hm => hp m (memγ m hm))
  have hend := c6 [] .normal s1 (CodeOk.weakR (s' := sγ) ⟨hn.trans ((c2.trans (b2.trans a2)).symm), fun i _ => .inr (by have := congrArg XSt.T c1; exact (congrFun this i).symm), hds.trans ((c3.trans (b3.trans a3)).symm), hpan.trans ((c4.trans (b4.trans a4)).symm), hr.trans ((c5.trans (b5.trans a5)).symm), (congrArg XSt.h c1).symm⟩ ok_ops_nil)
  rw [List.append_nil, eγ] at hend
  have hdβ : ∀ m ∈ Lβ, m.dst ≠ some d ∧ d ∉ m.looks := by
    intro m hm
    unfold aFree at hfree
    rw [List.all_eq_true] at hfree
    have h1 := hfree m (memβ m hm)
    have h2 : m.idx ∈ β := eβ ▸ List.mem_map_of_mem hm
    have h3 : Nat.beq m.idx ia = false := by
      cases hb : Nat.beq m.idx ia with
      | false => rfl
      | true => exact absurd (Nat.eq_of_beq_eq_true hb) (neβ _ h2)
    have h4 : ((masks ops).getD m.idx 0).testBit ia = false := by
      have := hβp _ h2
      unfold Before at this
      simpa using this
    rw [h3, h4] at h1
    simp only [Bool.false_or, Bool.and_eq_true, bne_iff_ne, Bool.not_eq_true', ne_eq] at h1
    exact ⟨h1.1, by simpa using h1.2⟩
  have hlate := late_alloc (P := P) (ops := ops) IA q4 (fun m hm => he m (memβ m hm)) (fun m hm => hp m (memβ m hm)) hdβ hh b2 b3 b4 b5 hend
  rw [eβ, hai, ← hτ] at hlate
  have hfin := a6 _ _ _ hlate
  rw [eα] at hfin
  exact hfin

/-- A REGION WHOSE ORDER IS OPEN, with an allocation beside calls that write. -/
theorem mixedA_by {hm : Bool} (ia : Nat) (d : Tmp) (hmix : P.follows .mixedOrders = true) {id : Nat} {ops : Array Oper} {s : ASt} {K : AExit → ASt → Prop} (hb : backGo ops.toList 0 = true)
    (h : mOps P hm ops (List.range ops.size) s [] (fun l s1 => Both (aCheck (masks ops) ops.size ia l.reverse = true) (Both (HeapsOk (aNeeds (masks ops) ops.size ia l.reverse)) (Both (aFree (masks ops) ia d l.reverse = true) (Both (∃ (a : MRec) (h0 : Heap) (Z : List CV), l[ops.size - 1 - ia]? = some a ∧ a.idx = ia ∧ IsAlloc P ops a d h0 Z) (K .normal s1)))))
      (fun _ _ _ _ _ _ => False)) : DrawW P id ops s K := by
  refine ⟨?_⟩
  rcases mOps_ok _ _ _ _ _ h with ⟨s1, l1, dd, k⟩ | ⟨_, _, _, _, _, _, _, _, _, _, _, _, _, _, _, _, k⟩
  · simp only [List.append_nil, List.reverse_reverse] at k
    obtain ⟨hc, hhp, hf, ⟨a, h0, Z, ha1, ha2, IA⟩, k⟩ := k
    have hp := aCheck_spec hc hhp
    exact ⟨.normal, s1, mixedA_ok hmix hb dd.idx dd.steps dd.ev dd.pan hp hf (List.mem_reverse.1 (List.mem_of_getElem? ha1)) ha2 IA dd.n dd.defers dd.span dd.round, k⟩
  · exact k.elim
end
end Go.Ag
/- Calls on closed values, from any memory; own memory that is handed over. -/
namespace Go.Ag
section
variable {P : Program}

theorem ret_at {f : FuncId} {args : List CV} {v : CV} (hr : Ret P f args v) (h : Heap) : CallOk P f (args.map .c) h .no (.ret (.c v)) h .no := by
  intro g kind cs base w vs hi hA hl hp hcs
  obtain ⟨g0, hg0⟩ : ∃ g0 : G, g0 = { Φ := g.Φ, A := fun _ => False, j := g.j } := ⟨_, rfl⟩
  have Φ0 : g0.Φ = g.Φ := by rw [hg0]
  have A0 : ∀ i, ¬ g0.A i := fun i hh => by rw [hg0] at hh; exact hh
  have hi0 : Inv g0 (Heap.at TMap.nil) w := ⟨fun b o hb => hi.frozen b o (by rw [← Φ0]; exact hb), fun _ ha => absurd ha (A0 _), fun _ ha => absurd ha (A0 _), fun _ _ ha => absurd ha (A0 _)⟩
  have hp0 : Pw (Rep g0) (args.map .c) vs.toList := by
    refine Pw.map_left.2 ((Pw.map_left.1 hp).imp fun c _ u hr => ?_)
    show RepC g0.Φ c u
    rw [Φ0]; exact hr
  obtain ⟨g1, fr', cs', w', hs, hi1, hA1, hcs1, hev, hfn, hk, hro, hdf, hend⟩ := hr g0 kind cs base w vs hi0 (fun i => ⟨fun hh => absurd hh (A0 i), fun hh => absurd hh (Nat.not_lt_zero _)⟩) hl hp0 hcs
  have noOwn : ∀ b, ¬ Own g0 (Heap.at TMap.nil) b := fun b ⟨id, ha, _⟩ => A0 _ ha
  have keep : ∀ b, b < w.heap.size → w'.heap[b]? = w.heap[b]? := fun b hb => hev.keep b hb (noOwn b)
  have fro : ∀ b o, g1.Φ b = some o → g.Φ b = some o ∨ w.heap.size ≤ b := by
    intro b o hb
    rcases hev.fro b o hb with h1 | h1 | h1
    · exact .inl (by rw [← Φ0]; exact h1)
    · exact absurd h1 (noOwn b)
    · exact .inr h1
  obtain ⟨g', hg'⟩ : ∃ g' : G, g' = { Φ := g1.Φ, A := g.A, j := g.j } := ⟨_, rfl⟩
  have Φ' : g'.Φ = g1.Φ := by rw [hg']
  have A' : g'.A = g.A := by rw [hg']
  have j' : g'.j = g.j := by rw [hg']
  have gle : g.le g' := ⟨fun b o hb => by rw [Φ']; exact hev.le.Φ b o (by rw [Φ0]; exact hb), fun i hh => by rw [A']; exact hh, fun i _ => by rw [j']⟩
  refine ⟨g', fr', cs', w', hs, ⟨fun b o hb => hi1.frozen b o (by rw [← Φ']; exact hb), fun id ha => ?_, fun id ha hlv => ?_, fun i i' ha ha' l l' he => ?_⟩, fun i => by rw [A']; exact hA i, hcs1, ⟨gle, hev.os, hev.tape, hev.output, hev.size, fun b hb _ => keep b hb, fun b o hb => ?_, fun b ho => .inl ?_⟩, hfn, hk, hro, hdf, ?_⟩
  · rw [A'] at ha
    rw [j']
    cases hlv : (Heap.at h id).live with
    | true => rw [keep _ (hi.lt ha hlv)]; exact repB_mono gle (hi.block id ha)
    | false =>
      have : Heap.at h id = .dead := by cases hx : Heap.at h id <;> simp [hx, AB.live] at hlv; rfl
      rw [this]; trivial
  · rw [A'] at ha
    rw [Φ', j']
    cases hb : g1.Φ (g.j id).blk with
    | none => rfl
    | some o =>
      rcases fro _ o hb with h1 | h1
      · rw [hi.apart id ha hlv] at h1; cases h1
      · have := hi.lt ha hlv; omega
  · rw [A'] at ha ha'
    rw [j'] at he
    exact hi.inj i i' ha ha' l l' he
  · rw [Φ'] at hb
    rcases fro b o hb with h1 | h1
    · exact .inl h1
    · exact .inr (.inr h1)
  · obtain ⟨id, ha, hlv, he⟩ := ho
    rw [A'] at ha
    rw [j'] at he
    exact ⟨id, ha, hlv, he⟩
  · obtain ⟨m, fn, u, h1, h2, h3⟩ := hend
    exact ⟨m, fn, u, h1, h2, by show RepC g'.Φ v u; rw [Φ']; exact h3⟩

/-- Own memory that is handed over: nobody writes it any more. -/
theorem callOk_frozen {f : FuncId} {args : List AV} {args' : List CV} {ids : List Nat} {h h' : Heap} {e : AEnd} {fuel : Nat} (hs : snaps (Heap.at h) fuel args = some (args', ids))
    (hc : CallOk P f (args'.map .c) (Heap.upd h (ids.map fun i => (i, .dead))) .no e h' .no) : CallOk P f args h .no e h' .no := by
  intro g kind cs base w vs hi hA hl hp hcs
  have hΦ := snaps_sound hi fuel args vs.toList _ hp hs
  have hlen' := snaps_len (H := Heap.at h) (g := g) (w := w) fuel args _ hs
  simp only at hΦ hlen'
  obtain ⟨g0, hg0⟩ : ∃ g0 : G, g0 = { Φ := Φof g (Heap.at h) w ids, A := g.A, j := g.j } := ⟨_, rfl⟩
  have Φ0 : g0.Φ = Φof g (Heap.at h) w ids := by rw [hg0]
  have A0 : g0.A = g.A := by rw [hg0]
  have j0 : g0.j = g.j := by rw [hg0]
  have gle : g.le g0 := ⟨fun b o hb => by rw [Φ0]; exact Φof_old hi hb, fun i hh => by rw [A0]; exact hh, fun i _ => by rw [j0]⟩
  have hat : ∀ i, Heap.at (Heap.upd h (ids.map fun i => (i, .dead))) i = if i ∈ ids then .dead else Heap.at h i := fun i => by rw [heap_kill]; exact updF_kill ids _ i
  have fro0 : ∀ b o, g0.Φ b = some o → g.Φ b = some o ∨ Own g (Heap.at h) b := by
    intro b o hb
    rw [Φ0] at hb
    unfold Φof at hb
    split at hb
    · rename_i hc
      obtain ⟨id', hm, ha', hl', he⟩ := hc
      exact .inr ⟨id', ha', hl', he⟩
    · exact .inl hb
  have own0 : ∀ b, Own g0 (Heap.at (Heap.upd h (ids.map fun i => (i, .dead)))) b → Own g (Heap.at h) b := by
    rintro b ⟨id, ha, hlv, he⟩
    rw [A0] at ha
    rw [j0] at he
    rw [hat] at hlv
    split at hlv
    · simp [AB.live] at hlv
    · exact ⟨id, ha, hlv, he⟩
  have hi0 : Inv g0 (Heap.at (Heap.upd h (ids.map fun i => (i, .dead)))) w := by
    refine ⟨fun b o hb => by rw [Φ0] at hb; exact Φof_frozen hi hb, fun id ha => ?_, fun id ha hlv => ?_, fun i i' ha ha' l l' he => ?_⟩
    · rw [hat]
      split
      · trivial
      · rw [A0] at ha; rw [j0]; exact repB_mono gle (hi.block id ha)
    · rw [A0] at ha
      rw [j0]
      rw [hat] at hlv
      split at hlv
      · simp [AB.live] at hlv
      · rename_i hni
        cases hb : g0.Φ (g.j id).blk with
        | none => rfl
        | some o =>
          rw [Φ0] at hb
          unfold Φof at hb
          split at hb
          · rename_i hc
            obtain ⟨id', hm, ha', hl', he⟩ := hc
            exact absurd (hi.inj id' id ha' ha hl' hlv he ▸ hm) hni
          · rw [hi.apart id ha hlv] at hb; cases hb
    · rw [A0] at ha ha'
      rw [j0] at he
      rw [hat] at l l'
      split at l
      · simp [AB.live] at l
      · split at l'
        · simp [AB.live] at l'
        · exact hi.inj i i' ha ha' l l' he
  obtain ⟨g1, fr', cs', w', k1, k2, k3, k4, k5, k6⟩ := hc g0 kind cs base w vs hi0 (fun i => by rw [A0, upd_length]; exact hA i) (by simp [hlen', hl]) (by
    refine Pw.map_left.2 ?_
    have := repP_iff.1 hΦ
    rw [← Φ0] at this
    exact this) hcs
  refine ⟨g1, fr', cs', w', k1, k2, k3, k4, ⟨gle.trans k5.le, k5.os, k5.tape, k5.output, k5.size, fun b hb ho => k5.keep b hb (fun h1 => ho (own0 b h1)), fun b o hb => ?_, fun b ho => ?_⟩, k6⟩
  · rcases k5.fro b o hb with h1 | h1 | h1
    · rcases fro0 b o h1 with h2 | h2
      · exact .inl h2
      · exact .inr (.inl h2)
    · exact .inr (.inl (own0 b h1))
    · exact .inr (.inr h1)
  · rcases k5.own b ho with h1 | h1
    · exact .inl (own0 b h1)
    · exact .inr h1
end
end Go.Ag
/- A region whose order is open, in which calls that write and several allocations may change places. -/
namespace Go.Ag
section
variable {P : Program} {ops : Array Oper}

/-- A block that is laid and not yet seen. -/
structure Pend where
  d : Tmp
  Z : List CV
  v : Value
  sp : Spot
  cs : Array Value
  e : TypeId

/-- It lies there. B: the heap's size at first. -/
structure PendOk (g : G) (H : Nat → AB) (fr : Frame) (w : World) (B : Nat) (p : Pend) : Prop where
  late : Late g H fr w p.d p.v p.sp (.cells p.cs p.e (0, 0))
  ptr : p.v = .pointer (some ⟨p.sp.blk, p.sp.base + 0, none⟩)
  size : p.cs.size = p.sp.size
  lit : ∀ c ∈ p.Z, ∃ u, c = CV.lit u
  rep : ∀ (i : Nat) (u : Value), p.Z[i]? = some (CV.lit u) → (p.cs.toList.drop p.sp.base)[i]? = some u
  new : B ≤ p.sp.blk

/-- An allocation of a region. -/
structure AInf where
  idx : Nat
  d : Tmp
  Z : List CV
def AInf.Ok (P : Program) (ops : Array Oper) (a : AInf) : Prop := (∃ o t, ops[a.idx]? = some o ∧ o.op = .alloc t ∧ o.guard = none ∧ o.dst = some a.d ∧ zeroCells P t = some (a.Z.map .c)) ∧ ∀ c ∈ a.Z, ∃ v, c = CV.lit v

theorem lay_one {a : AInf} (IA : a.Ok P ops) {g : G} {s : ASt} {fr : Frame} {cs : List Frame} {w : World} {k : List Item} {rest : List Nat} (hst : StRel P g s fr w) (ht : fr.todo = .inRegion ops (a.idx :: rest) :: k) (hm : fr.mode = .run) :
    ∃ fr1 w1 p, Steps P (lone fr cs w) (lone fr1 cs w1) ∧ StRel P g (s.put (some a.d) (.c .junk)) fr1 w1 ∧ Evolves g (Heap.at s.h) w g (Heap.at s.h) w1 ∧ fr1.todo = .inRegion ops rest :: k ∧ fr1.mode = .run ∧ fr1.fn = fr.fn ∧ fr1.kind = fr.kind ∧
      PendOk g (Heap.at s.h) fr1 w1 w.heap.size p ∧ p.d = a.d ∧ p.Z = a.Z ∧ (∀ d', d' ≠ a.d → fr1.tmps[d']? = fr.tmps[d']?) ∧ fr1.tmps.size = fr.tmps.size := by
  obtain ⟨⟨o, t, ho, hop, hg, hdst, hz⟩, hlit⟩ := IA
  have ha : aop P o s.eval (fun _ => .dead) s.h.n = some (.simple { val := .ptr s.h.n 0, fresh := some (.blk (a.Z.map .c)) }) := by
    unfold aop
    rw [hop]
    simp only [hz]
  have inv0 : Inv g (fun _ => AB.dead) w := ⟨hst.inv.frozen, fun _ _ => trivial, (fun _ _ h => absurd h (by simp [AB.live])), (fun _ _ _ _ h => absurd h (by simp [AB.live]))⟩
  have hsim := aop_sim (P := P) (w := w) inv0 (σ := fr.eval) hst.eval (fresh := s.h.n) (fun h => absurd ((hst.A _).1 h) (Nat.lt_irrefl _)) ha
  obtain ⟨v, w', g', hres, hrv, hinv, hev, hA, hup⟩ := hsim
  have hwn : wantedA ops o s = some true := by unfold wantedA; rw [hg]
  have hnd : fr.roundOf = none ∨ ∀ c, o.op ≠ .defer c := .inr (fun c hc => by rw [hop] at hc; cases hc)
  have hsteps : Steps P (lone fr cs w) (lone (fr.finish v) cs w') := by
    refine step_go ?_
    rw [op_do hm ht ho (wanted_spec hst hwn) hnd]
    rcases hres with hres | ⟨hres, rfl⟩
    · exact apply_value hres
    · exact apply_skip hres
  have keep : ∀ b, b < w.heap.size → w'.heap[b]? = w.heap[b]? := fun b hb => hev.keep b hb (fun ⟨_, _, h, _⟩ => by cases h)
  have gn : g'.A s.h.n := (hA _).2 (.inr ⟨rfl, rfl⟩)
  have hblk := hinv.block s.h.n gn
  have heff : effect (fun _ => AB.dead) s.h.n { val := .ptr s.h.n 0, fresh := some (.blk (a.Z.map .c)) } s.h.n = .blk (a.Z.map .c) := by simp [effect, upd1, updF]
  rw [heff] at hblk
  obtain ⟨cs0, e0, hb1, hb2, hb3⟩ := hblk
  obtain ⟨sp, hsp⟩ : ∃ sp, sp = g'.j s.h.n := ⟨_, rfl⟩
  rw [← hsp] at hb1 hb2 hb3
  have hB : w.heap.size ≤ sp.blk := by
    rcases hev.own sp.blk ⟨s.h.n, gn, by rw [heff]; rfl, by rw [hsp]⟩ with ⟨_, _, h, _⟩ | h
    · cases h
    · exact h
  have invr : Inv g (Heap.at s.h) w' := by
    refine ⟨fun b o hb => ?_, fun id hid => ?_, hst.inv.apart, hst.inv.inj⟩
    · have := hst.inv.frozen b o hb
      rw [keep b (some_lt this)]; exact this
    · have h1 := hst.inv.block id hid
      cases hl : (Heap.at s.h id).live with
      | false =>
        have : Heap.at s.h id = .dead := by cases hb : Heap.at s.h id <;> rw [hb] at hl <;> first | rfl | cases hl
        rw [this]; trivial
      | true =>
        obtain ⟨x, hxx⟩ := live_some h1 hl
        rw [keep _ (some_lt hxx)]; exact h1
  have notown : ¬ Own g (Heap.at s.h) sp.blk := by
    rintro ⟨id, h1, h2, h3⟩
    obtain ⟨x, hxx⟩ := live_some (hst.inv.block id h1) h2
    have := some_lt hxx
    omega
  have notfro : g.Φ sp.blk = none := by
    cases hf : g.Φ sp.blk with
    | none => rfl
    | some o' => have := some_lt (hst.inv.frozen _ _ hf); omega
  obtain ⟨f1, f2, f3, f4, f5, f6, f7, f8⟩ := hst.finish (g' := g) (.refl g) ht ho (a := .c .junk) (v := v) trivial (hp := s.h) invr hst.A
  rw [hdst] at f1 f6 f7 f8
  have ev0 : Evolves g (Heap.at s.h) w g (Heap.at s.h) w' := ⟨.refl g, hev.os, hev.tape, hev.output, hev.size, fun b hb _ => keep b hb, fun _ _ h => .inl h, fun _ h => .inl h⟩
  have fin := finish_eq ht ho v
  have late0 : Late g (Heap.at s.h) (fr.finish v) w' a.d v sp (.cells cs0 e0 (0, 0)) := by
    refine ⟨?_, hb1, notown, notfro⟩
    rw [fin, hdst]
    by_cases hlt : a.d < fr.tmps.size
    · exact .inl (by simp [hlt])
    · exact .inr (by show (fr.tmps.setIfInBounds a.d v).size ≤ a.d; rw [Array.size_setIfInBounds]; exact Nat.le_of_not_lt hlt)
  refine ⟨fr.finish v, w', ⟨a.d, a.Z, v, sp, cs0, e0⟩, hsteps, f1, ev0, f2, f3.trans hm, f4, f5, ⟨late0, by rw [hsp]; exact hrv.2, hb2, hlit, fun i u hu => ?_, hB⟩, rfl, rfl, fun d' hd => ?_, ?_⟩
  · obtain ⟨y, hy, hr'⟩ := hb3 i (.c (.lit u)) (by rw [List.getElem?_map, hu]; rfl)
    have : y = u := hr'
    rw [← this]; exact hy
  · rw [fin, hdst]
    show (fr.tmps.setIfInBounds a.d v)[d']? = _
    exact set_other (d := some a.d) d' (fun h => hd (Option.some.inj h).symm)
  · rw [fin, hdst]
    show (fr.tmps.setIfInBounds a.d v).size = _
    exact Array.size_setIfInBounds

theorem PendOk.step {g g1 : G} {s s1 : ASt} {fr fr1 : Frame} {w w1 : World} {B : Nat} {p : Pend} (h : PendOk g (Heap.at s.h) fr w B p) (hev : Evolves g (Heap.at s.h) w g1 (Heap.at s1.h) w1) (ht : fr1.tmps[p.d]? = fr.tmps[p.d]?) (hs : fr1.tmps.size = fr.tmps.size) : PendOk g1 (Heap.at s1.h) fr1 w1 B p :=
  ⟨h.late.step hev ht hs, h.ptr, h.size, h.lit, h.rep, h.new⟩
theorem PendOk.lt {g : G} {H : Nat → AB} {fr : Frame} {w : World} {B : Nat} {p : Pend} (h : PendOk g H fr w B p) : p.sp.blk < w.heap.size := some_lt h.late.blk

/-- The same but for some temporaries. -/
structure ButS (ds : List Tmp) (x : XSt) (s : ASt) : Prop where
  n : s.tmps.n = x.n
  T : ∀ t, t ∉ ds → s.tmps.get .undef t = x.T t
  h : s.h = x.h
theorem ButS.req {ds : List Tmp} {x : XSt} {s : ASt} {m : MRec} (b : ButS ds x s) (h : m.req x) (hd : ∀ d ∈ ds, d ∉ m.looks) : m.req s.x := by
  refine ⟨fun t ht => (b.T t (fun hh => hd t hh ht)).trans (h.1 t ht), ?_⟩
  have h2 := h.2
  cases hk : m.kind with
  | none => rw [hk] at h2; intro r hr; show Heap.at s.h r = _; rw [b.h]; exact h2 r hr
  | some p => rw [hk] at h2; show s.h = _; rw [b.h]; exact h2
theorem ButS.on {ds : List Tmp} {x : XSt} {s : ASt} {m : MRec} (b : ButS ds x s) : ButS ds (m.on x) (({ s with h := m.heapOf s.h } : ASt).put m.dst m.val) := by
  have e := put_x (s := s) (m := m)
  refine ⟨?_, fun t ht => ?_, ?_⟩
  · have := congrArg XSt.n e
    exact this.trans b.n
  · have h1 : (({ s with h := m.heapOf s.h } : ASt).put m.dst m.val).tmps.get .undef t = (m.on s.x).T t := congrFun (congrArg XSt.T e) t
    rw [h1]
    unfold MRec.on
    cases hd : m.dst with
    | none => exact b.T t ht
    | some d' =>
      show (if t = d' ∧ d' < s.x.n then m.val else s.x.T t) = if t = d' ∧ d' < x.n then m.val else x.T t
      have : s.x.n = x.n := b.n
      rw [this]
      split
      · rfl
      · exact b.T t ht
  · have := congrArg XSt.h e
    refine this.trans ?_
    unfold MRec.on
    show (match m.kind with | none => s.x.h | some p => p.2) = match m.kind with | none => x.h | some p => p.2
    cases m.kind with
    | none => exact b.h
    | some p => rfl
theorem ButS.junk {ds : List Tmp} {x : XSt} {s : ASt} (b : ButS ds x s) {d : Tmp} (hd : d ∈ ds) : ButS ds x (s.put (some d) (.c .junk)) := by
  refine ⟨b.n, fun t ht' => ?_, b.h⟩
  show (s.tmps.set .undef d (.c .junk)).get .undef t = x.T t
  rw [TMap.get_set, if_neg (fun (h : t = d ∧ d < s.tmps.n) => ht' (h.1 ▸ hd))]
  exact b.T t ht'

/-- Operations and allocations, in some order. -/
inductive Mix : List MRec → List AInf → List Nat → Prop
  | nil : Mix [] [] []
  | op {m L As σ} (h : Mix L As σ) : Mix (m :: L) As (m.idx :: σ)
  | al {L A1 a A2 σ} (h : Mix L (A1 ++ A2) σ) : Mix L (A1 ++ a :: A2) (a.idx :: σ)

theorem mix_of : ∀ {σ : List Nat} {L : List MRec} {As : List AInf} {p : Nat → Bool}, σ.filter p = L.map (·.idx) → (σ.filter fun x => !p x).Perm (As.map (·.idx)) → Mix L As σ
  | [], L, As, p, h1, h2 => by
    have : L = [] := by simpa using h1.symm
    subst this
    have : As = [] := by simpa using h2
    subst this
    exact .nil
  | x :: σ, L, As, p, h1, h2 => by
    cases hp : p x with
    | true =>
      rw [List.filter_cons, hp] at h1
      rw [List.filter_cons, hp] at h2
      simp only [if_true, Bool.not_true, Bool.false_eq_true, if_false] at h1 h2
      cases L with
      | nil => cases h1
      | cons m L =>
      simp only [List.map_cons, List.cons.injEq] at h1
      obtain ⟨e, h1⟩ := h1
      subst e
      exact .op (mix_of h1 h2)
    | false =>
      rw [List.filter_cons, hp] at h1
      rw [List.filter_cons, hp] at h2
      simp only [Bool.not_false, if_true, Bool.false_eq_true, if_false] at h1 h2
      have hm : x ∈ As.map (·.idx) := h2.subset (by simp)
      obtain ⟨a, ha, rfl⟩ := List.mem_map.1 hm
      obtain ⟨A1, A2, rfl⟩ := List.append_of_mem ha
      refine .al (mix_of h1 ?_)
      have h3 : (a.idx :: σ.filter fun x => !p x).Perm (a.idx :: (A1 ++ A2).map (·.idx)) := by
        refine h2.trans ?_
        rw [List.map_append, List.map_append, List.map_cons]
        exact List.perm_middle
      exact h3.cons_inv

/-- What is known of blocks that are not yet seen: they are apart. -/
def Dist (Ps : List Pend) : Prop := ∀ p ∈ Ps, ∀ q ∈ Ps, p.d ≠ q.d → p.sp.blk ≠ q.sp.blk

theorem mix_run {ds : List Tmp} {B : Nat} : ∀ {L : List MRec} {As : List AInf} {σ : List Nat}, Mix L As σ → ∀ {x x' : XSt}, XSteps L x x' → (∀ m ∈ L, Ev P ops m) → (∀ m ∈ L, m.pan = none) → (∀ m ∈ L, ∀ d ∈ ds, m.dst ≠ some d ∧ d ∉ m.looks) →
    (∀ a ∈ As, a.Ok P ops ∧ a.d ∈ ds) → (As.map (·.d)).Nodup →
    ∀ {s : ASt}, ButS ds x s → ∀ {g : G} {fr : Frame} {cs base : List Frame} {w : World} {k : List Item} {rest : List Nat} {Ps : List Pend}, StRel P g s fr w → CsRel g s.pan fr.kind cs base → fr.todo = .inRegion ops (σ ++ rest) :: k → fr.mode = .run → B ≤ w.heap.size →
      (∀ p ∈ Ps, PendOk g (Heap.at s.h) fr w B p ∧ p.d ∈ ds ∧ ∀ a ∈ As, a.d ≠ p.d) → Dist Ps →
    ∃ g1 s1 fr1 w1 Qs, ButS ds x' s1 ∧ s1.defers = s.defers ∧ s1.pan = s.pan ∧ s1.round = s.round ∧ Steps P (lone fr cs w) (lone fr1 cs w1) ∧ StRel P g1 s1 fr1 w1 ∧ CsRel g1 s1.pan fr.kind cs base ∧ Evolves g (Heap.at s.h) w g1 (Heap.at s1.h) w1 ∧ fr1.todo = .inRegion ops rest :: k ∧ fr1.mode = .run ∧ fr1.fn = fr.fn ∧ fr1.kind = fr.kind ∧
      (∀ p ∈ Qs, PendOk g1 (Heap.at s1.h) fr1 w1 B p) ∧ Dist Qs ∧ (∀ p ∈ Ps, p ∈ Qs) ∧ ∀ a ∈ As, ∃ p ∈ Qs, p.d = a.d ∧ p.Z = a.Z := by
  intro L As σ hmix
  induction hmix with
  | nil =>
    intro x x' h _ _ _ _ _ s b g fr cs base w k rest Ps hst hcs ht hm hB hP hD
    cases h
    exact ⟨g, s, fr, w, Ps, b, rfl, rfl, rfl, .refl _ _, hst, hcs, .refl _ _ _, ht, hm, rfl, rfl, fun p hp => (hP p hp).1, hD, fun p hp => hp, by simp⟩
  | @op m L As σ hmix ih =>
    intro x x' h he hp hd hA hN s b g fr cs base w k rest Ps hst hcs ht hm hB hP hD
    cases h with
    | cons hr h =>
    have hdm := hd m (List.mem_cons_self ..)
    have hF := (he m (List.mem_cons_self ..)).2.2 (hp m (List.mem_cons_self ..)) s (b.req hr (fun d hd' => (hdm d hd').2))
    obtain ⟨g1, fr1, w1, a1, a2, a3, a4, a5, a6, a7, a8, a9, a10⟩ := hF g fr cs base w k (σ ++ rest) hst hcs ht hm
    have hsz : fr1.tmps.size = fr.tmps.size := by
      rw [← a2.len, ← hst.len]
      unfold ASt.put
      cases m.dst <;> rfl
    have pd : (({ s with h := m.heapOf s.h } : ASt).put m.dst m.val).defers = s.defers := by unfold ASt.put; cases m.dst <;> rfl
    have pp : (({ s with h := m.heapOf s.h } : ASt).put m.dst m.val).pan = s.pan := by unfold ASt.put; cases m.dst <;> rfl
    have pr : (({ s with h := m.heapOf s.h } : ASt).put m.dst m.val).round = s.round := by unfold ASt.put; cases m.dst <;> rfl
    obtain ⟨g2, s2, fr2, w2, Qs, c1, c2, c3, c4, c5, c6, c7, c8, c9, c10, c11, c12, c13, c14, c15, c16⟩ := ih h (fun m hm => he m (List.mem_cons_of_mem _ hm)) (fun m hm => hp m (List.mem_cons_of_mem _ hm)) (fun m hm => hd m (List.mem_cons_of_mem _ hm)) hA hN b.on (g := g1) (fr := fr1) (cs := cs) (base := base) (w := w1) (k := k) (rest := rest) (Ps := Ps) a2 (by rw [a9]; exact a3) a6 (a7.trans hm) (Nat.le_trans hB a4.size)
      (fun p hp' => ⟨(hP p hp').1.step a4 (a10 p.d (hdm p.d (hP p hp').2.1).1) hsz, (hP p hp').2⟩) hD
    exact ⟨g2, s2, fr2, w2, Qs, c1, c2.trans pd, c3.trans pp, c4.trans pr, a1.trans c5, c6, by rw [← a9]; exact c7, a4.trans c8, c9, c10, c11.trans a8, c12.trans a9, c13, c14, c15, c16⟩
  | @al L A1 a A2 σ hmix ih =>
    intro x x' h he hp hd hA hN s b g fr cs base w k rest Ps hst hcs ht hm hB hP hD
    obtain ⟨hao, had⟩ := hA a (by simp)
    obtain ⟨fr1, w1, p, a1, a2, a3, a4, a5, a6, a7, a8, a9, a10, a11, a12⟩ := lay_one (cs := cs) hao hst ht hm
    have hsub : ∀ b ∈ A1 ++ A2, b ∈ A1 ++ a :: A2 := fun b hb => by
      rcases List.mem_append.1 hb with h | h
      · exact List.mem_append_left _ h
      · exact List.mem_append_right _ (List.mem_cons_of_mem _ h)
    have hN2 : (a.d :: (A1 ++ A2).map (·.d)).Nodup := by
      rw [List.map_append, List.map_cons] at hN
      rw [List.map_append]
      exact (List.perm_middle (l₁ := A1.map (·.d)) (l₂ := A2.map (·.d)) (a := a.d)).nodup_iff.1 hN
    rw [List.nodup_cons] at hN2
    have hne : ∀ b ∈ A1 ++ A2, b.d ≠ a.d := fun b hb e => hN2.1 (List.mem_map.2 ⟨b, hb, e⟩)
    obtain ⟨g2, s2, fr2, w2, Qs, c1, c2, c3, c4, c5, c6, c7, c8, c9, c10, c11, c12, c13, c14, c15, c16⟩ := ih h he hp hd (fun b hb => hA b (hsub b hb)) hN2.2 (b.junk had) (g := g) (fr := fr1) (cs := cs) (base := base) (w := w1) (k := k) (rest := rest) (Ps := p :: Ps) a2 (by rw [a7]; exact hcs) a4 a5 (Nat.le_trans hB a3.size)
      (fun q hq => by
        rcases List.mem_cons.1 hq with rfl | hq
        · exact ⟨⟨a8.late, a8.ptr, a8.size, a8.lit, a8.rep, Nat.le_trans hB a8.new⟩, a9 ▸ had, fun b hb => by rw [a9]; exact hne b hb⟩
        · have h1 := hP q hq
          exact ⟨h1.1.step (s1 := s.put (some a.d) (.c .junk)) a3 (a11 q.d (fun e => h1.2.2 a (by simp) e.symm)) a12, h1.2.1, fun b hb => h1.2.2 b (hsub b hb)⟩)
      (fun q hq r hr hqr => by
        rcases List.mem_cons.1 hq with e1 | hq'
        · rcases List.mem_cons.1 hr with e2 | hr'
          · exact absurd (by rw [e1, e2]) hqr
          · have h1 := (hP r hr').1.lt; have h2 := a8.new; rw [e1]; omega
        · rcases List.mem_cons.1 hr with e2 | hr'
          · have h1 := (hP q hq').1.lt; have h2 := a8.new; rw [e2]; omega
          · exact hD q hq' r hr' hqr)
    refine ⟨g2, s2, fr2, w2, Qs, c1, c2, c3, c4, a1.trans c5, c6, by rw [← a7]; exact c7, a3.trans c8, c9, c10, c11.trans a6, c12.trans a7, c13, c14, fun q hq => c15 q (List.mem_cons_of_mem _ hq), fun b hb => ?_⟩
    rcases List.mem_append.1 hb with hb | hb
    · exact c16 b (List.mem_append_left _ hb)
    · rcases List.mem_cons.1 hb with rfl | hb
      · exact ⟨p, c15 p (List.mem_cons_self ..), a9, a10⟩
      · exact c16 b (List.mem_append_right _ hb)
/-- The place of a new block is told. -/
theorem see_one {g : G} {s : ASt} {fr : Frame} {w : World} {B : Nat} {p : Pend} (hst : StRel P g s fr w) (hp : PendOk g (Heap.at s.h) fr w B p) {g0 : G} {H0 : Nat → AB} {w0 : World} (hB : w0.heap.size ≤ B) (hev : Evolves g0 H0 w0 g (Heap.at s.h) w) {kind : CallKind} {cs base : List Frame} (hcs : CsRel g s.pan kind cs base) :
    ∃ g2, StRel P g2 (({ s with h := s.h.push .dead (.blk (p.Z.map .c)) } : ASt).put (some p.d) (.ptr s.h.n 0)) fr w ∧ CsRel g2 s.pan kind cs base ∧ Evolves g0 H0 w0 g2 (Heap.at (s.h.push .dead (.blk (p.Z.map .c)))) w ∧
      ∀ q : Pend, PendOk g (Heap.at s.h) fr w B q → q.sp.blk ≠ p.sp.blk → PendOk g2 (Heap.at (s.h.push .dead (.blk (p.Z.map .c)))) fr w B q := by
  obtain ⟨h0, hh0⟩ : ∃ h0, h0 = s.h := ⟨_, rfl⟩
  obtain ⟨sp, hsp⟩ : ∃ sp, sp = p.sp := ⟨_, rfl⟩
  have hl := hp.late
  have hrep := hp.rep
  have hsz := hp.size
  have hptr := hp.ptr
  have hnew := hp.new
  rw [← hh0] at hl ⊢
  rw [← hsp] at hl hrep hsz hptr hnew
  have hst0 : StRel P g s fr w := hst
  obtain ⟨g2, hg2⟩ : ∃ g2 : G, g2 = { g with A := fun i => i < h0.n + 1, j := fun i => if i = h0.n then sp else g.j i } := ⟨_, rfl⟩
  have A1 : ∀ i, g.A i ↔ i < h0.n := fun i => by rw [hst0.A, hh0]
  have le2 : g.le g2 := by
    rw [hg2]
    refine ⟨fun _ _ h => h, fun i hi => ?_, fun i hi => ?_⟩
    · have := (A1 i).1 hi; show i < h0.n + 1; omega
    · have := (A1 i).1 hi; show (if i = h0.n then sp else g.j i) = g.j i; rw [if_neg (by omega)]
  have j2 : g2.j h0.n = sp := by rw [hg2]; exact if_pos rfl
  have j2' : ∀ i, i ≠ h0.n → g2.j i = g.j i := fun i hi => by rw [hg2]; exact if_neg hi
  have A2 : ∀ i, g2.A i ↔ i < h0.n + 1 := fun i => by rw [hg2]
  have Φ2 : g2.Φ = g.Φ := by rw [hg2]
  have inv1 : Inv g (Heap.at h0) w := hh0 ▸ hst0.inv
  have atn : Heap.at (h0.push .dead (.blk (p.Z.map .c))) h0.n = .blk (p.Z.map .c) := by unfold Heap.at; rw [TMap.get_push, if_pos rfl]
  have ati : ∀ i, i ≠ h0.n → Heap.at (h0.push .dead (.blk (p.Z.map .c))) i = Heap.at h0 i := fun i hi => by unfold Heap.at; rw [TMap.get_push, if_neg hi]
  have inv2 : Inv g2 (Heap.at (h0.push .dead (.blk (p.Z.map .c)))) w := by
    refine ⟨fun b o hb => inv1.frozen b o (by rw [← Φ2]; exact hb), fun id hid => ?_, fun id hid hl' => ?_, fun id id' h1 h2 l1 l2 hj => ?_⟩
    · by_cases hi : id = h0.n
      · subst hi
        rw [atn, j2]
        refine ⟨p.cs, p.e, hl.blk, hsz, ?_⟩
        intro i x hxx
        rw [List.getElem?_map] at hxx
        cases hz : p.Z[i]? with
        | none => rw [hz] at hxx; cases hxx
        | some c =>
          rw [hz] at hxx
          obtain rfl := Option.some.inj hxx
          obtain ⟨u, rfl⟩ := hp.lit c (List.mem_of_getElem? hz)
          exact ⟨u, hrep i u hz, rfl⟩
      · rw [ati id hi, j2' id hi]
        exact repB_mono le2 (inv1.block id ((A1 id).2 (by have := (A2 id).1 hid; omega)))
    · rw [Φ2]
      by_cases hi : id = h0.n
      · subst hi; rw [j2]; exact hl.fro
      · rw [ati id hi] at hl'
        rw [j2' id hi]
        exact inv1.apart id ((A1 id).2 (by have := (A2 id).1 hid; omega)) hl'
    · by_cases hi : id = h0.n
      · by_cases hi' : id' = h0.n
        · rw [hi, hi']
        · exfalso
          rw [ati id' hi'] at l2
          rw [hi, j2, j2' id' hi'] at hj
          exact hl.own ⟨id', (A1 id').2 (by have := (A2 id').1 h2; omega), l2, hj.symm⟩
      · by_cases hi' : id' = h0.n
        · exfalso
          rw [ati id hi] at l1
          rw [hi', j2, j2' id hi] at hj
          exact hl.own ⟨id, (A1 id).2 (by have := (A2 id).1 h1; omega), l1, hj⟩
        · rw [ati id hi] at l1
          rw [ati id' hi'] at l2
          rw [j2' id hi, j2' id' hi'] at hj
          exact inv1.inj id id' ((A1 id).2 (by have := (A2 id).1 h1; omega)) ((A1 id').2 (by have := (A2 id').1 h2; omega)) l1 l2 hj
  have hrv2 : Rep g2 (.ptr h0.n 0) p.v := ⟨(A2 _).2 (Nat.lt_succ_self _), by rw [hptr, j2]⟩
  have st2 : StRel P g2 (({ s with h := h0.push .dead (.blk (p.Z.map .c)) } : ASt).put (some p.d) (.ptr h0.n 0)) fr w := by
    refine ⟨inv2, fun i => by rw [A2]; exact Iff.rfl, hst0.len, ?_, hst0.defers.mono le2, ?_⟩
    · show Pw (Rep g2) ((s.tmps.set .undef p.d (.ptr h0.n 0)).toList .undef) fr.tmps.toList
      rw [TMap.toList_set]
      have hset : fr.tmps.toList.set p.d p.v = fr.tmps.toList := by
        apply List.ext_getElem?
        intro i
        rw [List.getElem?_set]
        by_cases hi : p.d = i
        · subst hi
          rw [if_pos rfl]
          rcases hl.tmp with h | h
          · have hlt : p.d < fr.tmps.size := (Array.getElem?_eq_some_iff.1 h).1
            rw [if_pos (by simpa using hlt)]
            have : fr.tmps.toList[p.d]? = some p.v := by simpa using h
            rw [this]
          · rw [if_neg (by simp; omega), List.getElem?_eq_none (by simp; omega)]
        · rw [if_neg hi]
      rw [← hset]
      exact (pw_mono le2 hst0.tmps).set p.d hrv2
    · rcases hst0.round with h | ⟨i, h1, h2, h3⟩
      · exact .inl h
      · exact .inr ⟨i, h1, le2.A _ h2, by rw [le2.j _ h2]; exact h3⟩
  have ownc : ∀ b, Own g2 (Heap.at (h0.push .dead (.blk (p.Z.map .c)))) b → Own g (Heap.at h0) b ∨ b = sp.blk := by
    rintro b ⟨id, h1, h2, h3⟩
    by_cases hi : id = h0.n
    · subst hi
      rw [j2] at h3
      exact .inr h3.symm
    · rw [ati id hi] at h2
      rw [j2' id hi] at h3
      exact .inl ⟨id, (A1 id).2 (by have := (A2 id).1 h1; omega), h2, h3⟩
  rw [← hh0] at hev
  refine ⟨g2, st2, hcs.mono le2, ⟨hev.le.trans le2, hev.os, hev.tape, hev.output, hev.size, hev.keep, fun b o hb => hev.fro b o (by rw [← Φ2]; exact hb), fun b hb => ?_⟩, fun q hq hne => ?_⟩
  · rcases ownc b hb with h | h
    · exact hev.own b h
    · exact .inr (by rw [h]; omega)
  · refine ⟨⟨hq.late.tmp, hq.late.blk, fun ho => ?_, by rw [Φ2]; exact hq.late.fro⟩, hq.ptr, hq.size, hq.lit, hq.rep, hq.new⟩
    rcases ownc _ ho with h | h
    · exact hq.late.own h
    · exact hne (by rw [h, hsp])
/-- The same, of states. -/
structure ButA (ds : List Tmp) (x s : ASt) : Prop where
  n : s.tmps.n = x.tmps.n
  T : ∀ t, t ∉ ds → s.tmps.get .undef t = x.tmps.get .undef t
  h : s.h = x.h
theorem see_all {B : Nat} {g0 : G} {H0 : Nat → AB} {w0 : World} (hB : w0.heap.size ≤ B) {kind : CallKind} {cs base : List Frame} {fr : Frame} {w : World} : ∀ (As : List AInf) (La : List MRec), La.length = As.length →
    (∀ (i : Nat) m a, La[i]? = some m → As[i]? = some a → ∃ h0, IsAlloc P ops m a.d h0 a.Z) → (As.map (·.d)).Nodup →
    ∀ {x s : ASt} {x' : XSt} {g : G} {Qs : List Pend}, XSteps La x.x x' → ButA (As.map (·.d)) x s → StRel P g s fr w → CsRel g s.pan kind cs base → Evolves g0 H0 w0 g (Heap.at s.h) w → (∀ p ∈ Qs, PendOk g (Heap.at s.h) fr w B p) → Dist Qs → (∀ a ∈ As, ∃ p ∈ Qs, p.d = a.d ∧ p.Z = a.Z) →
    ∃ g2 s2, s2.x = x' ∧ s2.tmps.n = s.tmps.n ∧ s2.defers = s.defers ∧ s2.pan = s.pan ∧ s2.round = s.round ∧ StRel P g2 s2 fr w ∧ CsRel g2 s2.pan kind cs base ∧ Evolves g0 H0 w0 g2 (Heap.at s2.h) w
  | [], La, hl, _, _, x, s, x', g, Qs, hx, hb, hst, hcs, hev, _, _, _ => by
    have : La = [] := by simpa using hl
    subst this
    cases hx
    refine ⟨g, s, ?_, rfl, rfl, rfl, rfl, hst, hcs, hev⟩
    unfold ASt.x
    rw [hb.n, hb.h]
    congr 1
    funext t
    exact hb.T t (by simp)
  | a :: As, [], hl, _, _, _, _, _, _, _, _, _, _, _, _, _, _, _ => by cases hl
  | a :: As, m :: La, hl, hA, hN, x, s, x', g, Qs, hx, hb, hst, hcs, hev, hQ, hD, hE => by
    obtain ⟨h0, IA⟩ := hA 0 m a rfl rfl
    cases hx with
    | cons hr hx =>
    have hxh : x.h = h0 := by
      have := hr.2
      rw [IA.kind] at this
      exact this
    have hon : (({ x with h := h0.push .dead (.blk (a.Z.map .c)) } : ASt).put (some a.d) (.ptr h0.n 0)).x = m.on x.x := by
      have := put_x (s := x) (m := m)
      rw [IA.dst, IA.val] at this
      unfold MRec.heapOf at this
      rw [IA.kind] at this
      exact this
    obtain ⟨p, hp, hpd, hpZ⟩ := hE a (List.mem_cons_self ..)
    obtain ⟨g2, b1, b2, b3, b4⟩ := see_one hst (hQ p hp) hB hev hcs
    rw [List.map_cons, List.nodup_cons] at hN
    have hsh : s.h = h0 := hb.h.trans hxh
    rw [hpd, hpZ, hsh] at b1
    rw [hpZ, hsh] at b3 b4
    rw [← hon] at hx
    have bA : ButA (As.map (·.d)) (({ x with h := h0.push .dead (.blk (a.Z.map .c)) } : ASt).put (some a.d) (.ptr h0.n 0)) (({ s with h := h0.push .dead (.blk (a.Z.map .c)) } : ASt).put (some a.d) (.ptr h0.n 0)) := by
      refine ⟨hb.n, fun t ht => ?_, rfl⟩
      show (s.tmps.set .undef a.d (.ptr h0.n 0)).get .undef t = (x.tmps.set .undef a.d (.ptr h0.n 0)).get .undef t
      rw [TMap.get_set, TMap.get_set, hb.n]
      split
      · rfl
      · rename_i hne
        by_cases hi : t = a.d
        · subst hi
          have : ¬ a.d < x.tmps.n := fun h => hne ⟨rfl, h⟩
          rw [TMap.get_ge (by have := hb.n; omega), TMap.get_ge (by omega)]
        · exact hb.T t (by rw [List.map_cons]; exact fun h => (List.mem_cons.1 h).elim hi ht)
    have hQ2 : ∀ q ∈ Qs.filter (fun q => decide (q.d ≠ p.d)), PendOk g2 (Heap.at (h0.push .dead (.blk (a.Z.map .c)))) fr w B q := by
      intro q hq
      obtain ⟨h1, h2⟩ := List.mem_filter.1 hq
      exact b4 q (hsh ▸ hQ q h1) (hD q h1 p hp (of_decide_eq_true h2))
    obtain ⟨g3, s3, c1, c2, c3, c4, c5, c6, c7, c8⟩ := see_all hB As La (by simpa using hl) (fun i m a h1 h2 => hA (i + 1) m a h1 h2) hN.2 (x := _) (s := _) (g := g2) (Qs := Qs.filter (fun q => decide (q.d ≠ p.d))) hx bA b1 b2 b3 hQ2
      (fun q hq r hr' hqr => hD q (List.mem_filter.1 hq).1 r (List.mem_filter.1 hr').1 hqr)
      (fun b hb' => by
        obtain ⟨q, q1, q2, q3⟩ := hE b (List.mem_cons_of_mem _ hb')
        refine ⟨q, List.mem_filter.2 ⟨q1, decide_eq_true fun e => ?_⟩, q2, q3⟩
        exact hN.1 (List.mem_map.2 ⟨b, hb', by rw [← q2, e, hpd]⟩))
    exact ⟨g3, s3, c1, c2, c3, c4, c5, c6, c7, c8⟩
/-- What must stay in order: what the region says; the allocations; and, before them, all that what follows them waits for. -/
def hardB (ms : List Nat) (nb N a : Nat) : Bool := (List.range N).all fun x => decide (x < nb) || (ms.getD x 0).testBit a
def ordM (ms : List Nat) (n nb N a b : Nat) : Bool := (ms.getD b 0).testBit a || ((decide (n ≤ b) && decide (b < nb)) && ((decide (n ≤ a) && decide (a < b)) || (decide (a < n) && hardB ms nb N a)))
theorem mixedM_ok (hmix : P.follows .mixedOrders = true) {id : Nat} {s s1 : ASt} {L0 La Lb : List MRec} {As : List AInf} (hback : backGo ops.toList 0 = true) (hL : (L0 ++ (La ++ Lb)).map (·.idx) = List.range ops.size) (hx : XSteps (L0 ++ (La ++ Lb)) s.x s1.x) (he : ∀ m ∈ L0 ++ (La ++ Lb), Ev P ops m) (hp : ∀ m ∈ L0 ++ (La ++ Lb), m.pan = none)
    (hpw : (L0 ++ (La ++ Lb)).Pairwise (fun a b => ordM (masks ops) L0.length (L0.length + La.length) ops.size a.idx b.idx = true ∨ MIndep a b)) (hlast : ∀ b ∈ Lb, ∀ a ∈ La, Before (masks ops) a.idx b.idx)
    (hfree : ∀ m ∈ L0, ∀ d ∈ As.map (·.d), m.dst ≠ some d ∧ d ∉ m.looks) (hAl : La.length = As.length) (hA : ∀ (i : Nat) m a, La[i]? = some m → As[i]? = some a → m.idx = a.idx ∧ a.Ok P ops ∧ ∃ h0, IsAlloc P ops m a.d h0 a.Z) (hN : (As.map (·.d)).Nodup)
    (hn : s1.tmps.n = s.tmps.n) (hds : s1.defers = s.defers) (hpan : s1.pan = s.pan) (hr : s1.round = s.round) : CodeOk P s (.code (.region id ops true)) .normal s1 := by
  refine region_any hmix hback fun σ hσ ho => ?_
  have hlen : L0.length + (La.length + Lb.length) = ops.size := by have := congrArg List.length hL; simpa using this
  have hL2 : L0.map (·.idx) ++ (La.map (·.idx) ++ Lb.map (·.idx)) = List.range L0.length ++ (List.range' L0.length La.length ++ List.range' (L0.length + La.length) Lb.length) := by
    rw [← List.map_append, ← List.map_append, hL, ← hlen, List.range_eq_range', List.range_eq_range', List.range'_append_1]
    have := List.range'_append_1 (s := 0) (m := L0.length) (n := La.length + Lb.length)
    rw [Nat.zero_add] at this
    exact this.symm
  obtain ⟨i0, hL3⟩ := List.append_inj hL2 (by simp)
  obtain ⟨ia, ib⟩ := List.append_inj hL3 (by simp)
  have m0 : ∀ m ∈ L0, m.idx < L0.length := fun m hm => List.mem_range.1 (i0 ▸ List.mem_map_of_mem hm)
  have ma : ∀ m ∈ La, L0.length ≤ m.idx ∧ m.idx < L0.length + La.length := fun m hm => List.mem_range'_1.1 (ia ▸ List.mem_map_of_mem hm)
  have mb : ∀ m ∈ Lb, L0.length + La.length ≤ m.idx := fun m hm => (List.mem_range'_1.1 (ib ▸ List.mem_map_of_mem hm)).1
  obtain ⟨n, hnd⟩ : ∃ n, n = L0.length := ⟨_, rfl⟩
  obtain ⟨nb, hnbd⟩ : ∃ nb, nb = L0.length + La.length := ⟨_, rfl⟩
  rw [← hnbd, ← hnd] at hpw
  rw [← hnd] at m0
  rw [← hnbd, ← hnd] at ma
  rw [← hnbd] at mb
  have hnn : n ≤ nb := by omega
  have hσL : σ.Perm (L0.map (·.idx) ++ (La.map (·.idx) ++ Lb.map (·.idx))) := by rw [← List.map_append, ← List.map_append, hL]; exact hσ
  have hσnd : σ.Nodup := hσ.symm.nodup List.nodup_range
  have inL0 : ∀ m ∈ L0 ++ (La ++ Lb), m.idx < n → m ∈ L0 := by
    intro m hm hlt
    rcases List.mem_append.1 hm with h | h
    · exact h
    rcases List.mem_append.1 h with h | h
    · have := ma m h; omega
    · have := mb m h; omega
  have isA : ∀ x ∈ σ, n ≤ x → x < nb → x ∈ La.map (·.idx) := by
    intro x hx h1 h2
    rcases List.mem_append.1 (hσL.subset hx) with h | h
    · obtain ⟨m, hm, rfl⟩ := List.mem_map.1 h; have := m0 m hm; omega
    rcases List.mem_append.1 h with h | h
    · exact h
    · obtain ⟨m, hm, rfl⟩ := List.mem_map.1 h; have := mb m hm; omega
  have isB : ∀ x ∈ σ, nb ≤ x → ∃ m ∈ Lb, m.idx = x := by
    intro x hx h2
    rcases List.mem_append.1 (hσL.subset hx) with h | h
    · obtain ⟨m, hm, rfl⟩ := List.mem_map.1 h; have := m0 m hm; omega
    rcases List.mem_append.1 h with h | h
    · obtain ⟨m, hm, rfl⟩ := List.mem_map.1 h; have := ma m hm; omega
    · exact List.mem_map.1 h
  obtain ⟨p, hpd⟩ : ∃ p : Nat → Bool, p = fun x => decide (x < nb) := ⟨_, rfl⟩
  obtain ⟨q, hqd⟩ : ∃ q : Nat → Bool, q = fun x => decide (x < n) := ⟨_, rfl⟩
  have pT : ∀ x, p x = true ↔ x < nb := fun x => by rw [hpd]; simp
  have qT : ∀ x, q x = true ↔ x < n := fun x => by rw [hqd]; simp
  have qF : ∀ x, q x = false ↔ n ≤ x := fun x => by rw [hqd]; simp
  obtain ⟨σ1, h1d⟩ : ∃ σ1, σ1 = σ.takeWhile p := ⟨_, rfl⟩
  obtain ⟨σ2, h2d⟩ : ∃ σ2, σ2 = σ.dropWhile p := ⟨_, rfl⟩
  have hsplit : σ = σ1 ++ σ2 := by rw [h1d, h2d]; exact (List.takeWhile_append_dropWhile (p := p) (l := σ)).symm
  have hs1 : ∀ x ∈ σ1, x < nb := by
    have key : ∀ (l : List Nat) (x : Nat), x ∈ l.takeWhile p → p x = true := by
      intro l
      induction l with
      | nil => intro x h; simp at h
      | cons y l ih =>
        intro x h
        rw [List.takeWhile_cons] at h
        split at h
        · rcases List.mem_cons.1 h with rfl | h
          · assumption
          · exact ih x h
        · simp at h
    intro x hx
    exact (pT x).1 (key σ x (h1d ▸ hx))
  have hs2 : ∀ y l, σ2 = y :: l → nb ≤ y := by
    have key : ∀ (l : List Nat) (y : Nat) (r : List Nat), l.dropWhile p = y :: r → p y = false := by
      intro l
      induction l with
      | nil => intro y r h; simp at h
      | cons z l ih =>
        intro y r h
        rw [List.dropWhile_cons] at h
        split at h
        · exact ih y r h
        · rename_i hz
          simp only [List.cons.injEq] at h
          rw [← h.1]; simpa using hz
    intro y l h
    have := key σ y l (h2d ▸ h)
    rw [hpd] at this
    simpa using this
  have in1 : ∀ x ∈ σ1, x ∈ σ := fun x hx => by rw [hsplit]; exact List.mem_append_left _ hx
  have in2 : ∀ x ∈ σ2, x ∈ σ := fun x hx => by rw [hsplit]; exact List.mem_append_right _ hx
  have ho' := ho
  rw [hsplit, List.pairwise_append] at ho'
  obtain ⟨o1, o2, o3⟩ := ho'
  -- behind the first of those that follow there is no allocation, and nothing that they wait for
  have after : ∀ x ∈ σ2, ¬ (n ≤ x ∧ x < nb) ∧ ¬ (x < n ∧ hardB (masks ops) nb ops.size x = true) := by
    intro x hx
    cases hσ2 : σ2 with
    | nil => rw [hσ2] at hx; cases hx
    | cons y l =>
      have hy := hs2 y l hσ2
      have hym : y ∈ σ2 := by rw [hσ2]; simp
      obtain ⟨mY, hmY, hYi⟩ := isB y (in2 y hym) hy
      have hyr : y < ops.size := List.mem_range.1 (hσ.subset (in2 y hym))
      rw [hσ2] at hx o2
      rw [List.pairwise_cons] at o2
      rcases List.mem_cons.1 hx with rfl | hxl
      · exact ⟨by omega, by omega⟩
      · refine ⟨fun hA' => ?_, fun hH => ?_⟩
        · obtain ⟨mX, hmX, hXi⟩ := List.mem_map.1 (isA x (in2 x (by rw [hσ2]; exact List.mem_cons_of_mem _ hxl)) hA'.1 hA'.2)
          have := hlast mY hmY mX hmX
          rw [hXi, hYi] at this
          exact o2.1 x hxl this
        · unfold hardB at hH
          have := List.all_eq_true.1 hH.2 y (List.mem_range.2 hyr)
          rw [show decide (y < nb) = false by simpa using hy, Bool.false_or] at this
          exact o2.1 x hxl this
  have fAll : ∀ (L : List MRec) (f : Nat → Bool), (∀ m ∈ L, f m.idx = true) → (L.map (·.idx)).filter f = L.map (·.idx) := fun L f h => List.filter_eq_self.2 fun x hx => by obtain ⟨m, hm, rfl⟩ := List.mem_map.1 hx; exact h m hm
  have fNo : ∀ (L : List MRec) (f : Nat → Bool), (∀ m ∈ L, f m.idx = false) → (L.map (·.idx)).filter f = [] := fun L f h => List.filter_eq_nil_iff.2 fun x hx => by obtain ⟨m, hm, rfl⟩ := List.mem_map.1 hx; rw [h m hm]; simp
  obtain ⟨r, hrd⟩ : ∃ r : Nat → Bool, r = fun x => decide (n ≤ x) && decide (x < nb) := ⟨_, rfl⟩
  have rT : ∀ x, r x = true ↔ n ≤ x ∧ x < nb := fun x => by rw [hrd]; simp
  have rF : ∀ x, ¬ (n ≤ x ∧ x < nb) → r x = false := fun x h => by cases hx : r x; rfl; exact absurd ((rT x).1 hx) h
  have hsame : σ1.filter (fun x => !q x) = σ.filter r := by
    rw [hsplit, List.filter_append, show σ2.filter r = [] from List.filter_eq_nil_iff.2 (fun x hx => by rw [rF x (after x hx).1]; simp), List.append_nil]
    refine List.filter_congr fun x hx => ?_
    have := hs1 x hx
    cases hq : q x with
    | true => rw [rF x (fun h => by have := (qT x).1 hq; omega)]; rfl
    | false => rw [(rT x).2 ⟨(qF x).1 hq, this⟩]; rfl
  have hAi : La.map (·.idx) = As.map (·.idx) := by
    apply List.ext_getElem?
    intro i
    rw [List.getElem?_map, List.getElem?_map]
    by_cases hi : i < La.length
    · have e1 := List.getElem?_eq_getElem hi
      have e2 := List.getElem?_eq_getElem (l := As) (i := i) (by omega)
      rw [e1, e2]
      exact congrArg some (hA i _ _ e1 e2).1
    · rw [List.getElem?_eq_none (by omega), List.getElem?_eq_none (by omega)]; rfl
  have h4p : (σ1.filter fun x => !q x).Perm (La.map (·.idx)) := by
    rw [hsame]
    have := hσL.filter r
    rw [List.filter_append, List.filter_append, fNo L0 r (fun m hm => rF _ (by have := m0 m hm; omega)), fAll La r (fun m hm => (rT _).2 (ma m hm)), fNo Lb r (fun m hm => rF _ (by have := mb m hm; omega)), List.nil_append, List.append_nil] at this
    exact this
  have hstar : (σ1.filter q ++ (La.map (·.idx) ++ σ2)).Perm ((L0 ++ (La ++ Lb)).map (·.idx)) := by
    rw [hL]
    refine List.Perm.trans ?_ hσ
    rw [hsplit, ← List.append_assoc]
    refine List.Perm.append_right _ ?_
    refine (List.Perm.append_left _ h4p.symm).trans ?_
    exact List.filter_append_perm q σ1
  have hia2 : ∀ x ∈ La.map (·.idx), n ≤ x ∧ x < nb := fun x hx => by obtain ⟨m, hm, rfl⟩ := List.mem_map.1 hx; exact ma m hm
  have hofalse : ∀ {a b : Nat}, ¬ Before (masks ops) a b → ¬ ((n ≤ b ∧ b < nb) ∧ ((n ≤ a ∧ a < b) ∨ (a < n ∧ hardB (masks ops) nb ops.size a = true))) → ¬ ordM (masks ops) n nb ops.size a b = true := by
    intro a b h1 h2 h3
    unfold ordM at h3
    rw [Bool.or_eq_true] at h3
    rcases h3 with h3 | h3
    · exact h1 h3
    · simp only [Bool.and_eq_true, Bool.or_eq_true, decide_eq_true_eq] at h3
      exact h2 h3
  have ho2 : (σ1.filter q ++ (La.map (·.idx) ++ σ2)).Pairwise (fun b a => ¬ ordM (masks ops) n nb ops.size a b = true) := by
    have hτ : ∀ x ∈ σ1.filter q, x ∈ σ1 ∧ x < n := fun x hx => by obtain ⟨h1, h2⟩ := List.mem_filter.1 hx; exact ⟨h1, (qT x).1 h2⟩
    rw [List.pairwise_append, List.pairwise_append]
    refine ⟨?_, ⟨?_, ?_, ?_⟩, ?_⟩
    · exact (o1.sublist List.filter_sublist).imp_of_mem fun {b a} hb _ h => hofalse h (fun hh => by have := (hτ b hb).2; omega)
    · rw [ia]
      refine List.Pairwise.imp ?_ (List.pairwise_lt_range' (s := L0.length) (n := La.length))
      intro b a hlt
      exact hofalse (fun hh => by have := before_lt hback _ _ hh; omega) (fun hh => by rcases hh.2 with h | h <;> omega)
    · exact o2.imp_of_mem fun {b a} hb _ h => hofalse h (fun hh => (after b hb).1 hh.1)
    · intro b hb a ha
      have hbA := hia2 b hb
      have hb1 : b ∈ σ1 := (List.mem_filter.1 (h4p.symm.subset hb)).1
      refine hofalse (o3 b hb1 a ha) (fun hh => ?_)
      rcases hh.2 with h | h
      · exact (after a ha).1 ⟨h.1, by omega⟩
      · exact (after a ha).2 h
    · intro b hb a ha
      obtain ⟨hb1, hbn⟩ := hτ b hb
      refine hofalse ?_ (fun hh => by omega)
      rcases List.mem_append.1 ha with ha | ha
      · intro hh
        have := before_lt hback _ _ hh
        have := hia2 a ha
        omega
      · exact o3 b hb1 a ha
  obtain ⟨Ls, eL, qL, dL⟩ := XSteps.perm (Ord := fun a b => ordM (masks ops) n nb ops.size a b = true) hx hpw (by rw [hL]; exact List.nodup_range) hstar ho2
  obtain ⟨M0, Mr, rfl, e0, er⟩ := List.map_eq_append_iff.1 eL
  obtain ⟨Ma, Mb, rfl, ea, eb⟩ := List.map_eq_append_iff.1 er
  obtain ⟨x0, hx0, hxr⟩ := XSteps.split dL
  obtain ⟨xA, hxa, hxb⟩ := XSteps.split hxr
  have mem0 : ∀ m ∈ M0, m ∈ L0 ++ (La ++ Lb) := fun m hm => qL.subset (List.mem_append_left _ hm)
  have mema : ∀ m ∈ Ma, m ∈ L0 ++ (La ++ Lb) := fun m hm => qL.subset (List.mem_append_right _ (List.mem_append_left _ hm))
  have memb : ∀ m ∈ Mb, m ∈ L0 ++ (La ++ Lb) := fun m hm => qL.subset (List.mem_append_right _ (List.mem_append_right _ hm))
  have inj : ∀ {l : List MRec} {a b : MRec}, (l.map (·.idx)).Nodup → a ∈ l → b ∈ l → a.idx = b.idx → a = b := by
    intro l
    induction l with
    | nil => intro a b _ ha; cases ha
    | cons x l ih =>
      intro a b hn ha hb he
      simp only [List.map_cons, List.nodup_cons] at hn
      rcases List.mem_cons.1 ha with h1 | h1
      · rcases List.mem_cons.1 hb with h2 | h2
        · rw [h1, h2]
        · subst h1; exact absurd (he ▸ List.mem_map_of_mem h2) hn.1
      · rcases List.mem_cons.1 hb with h2 | h2
        · subst h2; exact absurd (he ▸ List.mem_map_of_mem h1) hn.1
        · exact ih hn.2 h1 h2 he
  have hMl : Ma.length = As.length := by have := congrArg List.length ea; simp only [List.length_map] at this; omega
  have hAM : ∀ (i : Nat) m a, Ma[i]? = some m → As[i]? = some a → m.idx = a.idx ∧ a.Ok P ops ∧ ∃ h0, IsAlloc P ops m a.d h0 a.Z := by
    intro i m a h1 h2
    have hil : i < La.length := by
      rcases Nat.lt_or_ge i As.length with h | h
      · omega
      · rw [List.getElem?_eq_none h] at h2; cases h2
    have e1 := List.getElem?_eq_getElem hil
    have e2 : m.idx = La[i].idx := by
      have e3 := congrArg (fun l => l[i]?) ea
      simp only [List.getElem?_map, h1, e1, Option.map_some] at e3
      exact Option.some.inj e3
    have e4 : m = La[i] := inj (by rw [hL]; exact List.nodup_range) (mema m (List.mem_of_getElem? h1)) (List.mem_append_right _ (List.mem_append_left _ (List.getElem_mem hil))) e2
    rw [e4]
    exact hA i _ _ e1 h2
  have hmixed : Mix M0 As σ1 := mix_of (p := q) e0.symm (by rw [← hAi]; exact h4p)
  have hM0 : ∀ m ∈ M0, m ∈ L0 := fun m hm => inL0 m (mem0 m hm) (by
    have : m.idx ∈ σ1.filter q := e0 ▸ List.mem_map_of_mem hm
    exact (qT _).1 (List.mem_filter.1 this).2)
  obtain ⟨s0, k1, k2, k3, k4, k5, _⟩ := xsteps_ok (P := P) (ops := ops) hx0 (fun m hm => he m (mem0 m hm)) (fun m hm => hp m (mem0 m hm))
  rw [hsplit]
  intro g fr cs base w k hst hcs ht hm
  obtain ⟨g1, t1, fr1, w1, Qs, c1, c2, c3, c4, c5, c6, c7, c8, c9, c10, c11, c12, c13, c14, _, c16⟩ := mix_run (ds := As.map (·.d)) (B := w.heap.size) hmixed hx0 (fun m hm => he m (mem0 m hm)) (fun m hm => hp m (mem0 m hm)) (fun m hm => hfree m (hM0 m hm))
    (fun a ha => by
      obtain ⟨i, hi, rfl⟩ := List.getElem_of_mem ha
      have e1 := List.getElem?_eq_getElem (l := La) (i := i) (by omega)
      exact ⟨(hA i _ _ e1 (List.getElem?_eq_getElem hi)).2.1, List.mem_map_of_mem ha⟩) hN (s := s) ⟨rfl, fun _ _ => rfl, rfl⟩ (rest := σ2) (Ps := []) hst hcs ht hm (Nat.le_refl _) (by simp) (fun _ h => by cases h)
  have bA : ButA (As.map (·.d)) s0 t1 := ⟨c1.n.trans (congrArg XSt.n k1).symm, fun t ht' => (c1.T t ht').trans (congrFun (congrArg XSt.T k1) t).symm, c1.h.trans (congrArg XSt.h k1).symm⟩
  rw [← k1] at hxa
  obtain ⟨g2, t2, b1, b2, b3, b4, b5, b6, b7, b8⟩ := see_all (P := P) (ops := ops) (Nat.le_refl _) As Ma hMl (fun i m a h1 h2 => (hAM i m a h1 h2).2.2) hN hxa bA c6 c7 c8 c13 c14 c16
  rw [← b1] at hxb
  obtain ⟨t3, j1, j2, j3, j4, j5, j6⟩ := xsteps_ok (P := P) (ops := ops) hxb (fun m hm => he m (memb m hm)) (fun m hm => hp m (memb m hm))
  have tn : t1.tmps.n = s.tmps.n := c1.n.trans ((congrArg XSt.n k1).symm.trans k2)
  have hend := j6 [] .normal s1 (CodeOk.weakR (s' := t3) ⟨hn.trans (j2.trans (b2.trans tn)).symm, fun i _ => .inr (by have := congrArg XSt.T j1; exact (congrFun this i).symm), hds.trans (j3.trans (b3.trans c2)).symm, hpan.trans (j4.trans (b4.trans c3)).symm, hr.trans (j5.trans (b5.trans c4)).symm, (congrArg XSt.h j1).symm⟩ ok_ops_nil)
  rw [List.append_nil, eb] at hend
  obtain ⟨g3, fr3, cs3, w3, G3⟩ := hend g2 fr1 cs base w1 k b6 (by rw [c12]; exact b7) c9 c10
  refine ⟨g3, fr3, cs3, w3, c5.trans G3.steps, G3.st, ?_, G3.fn.trans c11, G3.kind.trans c12, G3.lands, b8.trans G3.ev, G3.round.trans (b5.trans c4)⟩
  have := G3.cs
  rw [c12] at this
  exact this

/-! The check. -/
def oCheck1 (ord : Nat → Nat → Bool) (a : MRec) : List MRec → Bool
  | [] => true
  | b :: l => (ord a.idx b.idx || (match a.dst with | some d => !b.looks.contains d && b.dst != some d | none => true) && (match b.dst with | some d => !a.looks.contains d | none => true) && (a.kind.isNone || b.kind.isNone)) && oCheck1 ord a l
def oCheck (ord : Nat → Nat → Bool) : List MRec → Bool
  | [] => true
  | a :: l => oCheck1 ord a l && oCheck ord l
def oNeeds1 (ord : Nat → Nat → Bool) (a : MRec) : List MRec → List (Nat × Heap × Heap)
  | [] => []
  | b :: l => (if ord a.idx b.idx then [] else mNeed a b) ++ oNeeds1 ord a l
def oNeeds (ord : Nat → Nat → Bool) : List MRec → List (Nat × Heap × Heap)
  | [] => []
  | a :: l => oNeeds1 ord a l ++ oNeeds ord l
theorem oCheck_spec {ord : Nat → Nat → Bool} : ∀ {l : List MRec}, oCheck ord l = true → HeapsOk (oNeeds ord l) → l.Pairwise (fun a b => ord a.idx b.idx = true ∨ MIndep a b)
  | [], _, _ => .nil
  | a :: l, hc, hh => by
    simp only [oCheck, Bool.and_eq_true] at hc
    have one : ∀ {l : List MRec}, oCheck1 ord a l = true → HeapsOk (oNeeds1 ord a l) → ∀ b ∈ l, ord a.idx b.idx = true ∨ MIndep a b := by
      intro l
      induction l with
      | nil => intro _ _; simp
      | cons b l ih =>
        intro h1 h2
        rw [oCheck1, Bool.and_eq_true, Bool.or_eq_true] at h1
        have h3 : HeapsOk (oNeeds1 ord a l) := fun x hx => h2 x (by simp only [oNeeds1]; exact List.mem_append_right _ hx)
        intro x hx
        rcases List.mem_cons.1 hx with rfl | hx
        · cases hb : ord a.idx x.idx with
          | true => exact .inl rfl
          | false =>
            refine .inr (mIndep_of (show mTmps a x = true from h1.1.resolve_left (by rw [hb]; simp)) fun y hy => h2 y ?_)
            simp only [oNeeds1, hb]
            exact List.mem_append_left _ hy
        · exact ih h1.2 h3 x hx
    refine .cons (one hc.1 fun x hx => hh x (by simp only [oNeeds]; exact List.mem_append_left _ hx)) (oCheck_spec hc.2 fun x hx => hh x (by simp only [oNeeds]; exact List.mem_append_right _ hx))
/-- These records are those allocations. -/
def AllocsOk (P : Program) (ops : Array Oper) : List MRec → List AInf → Prop
  | [], [] => True
  | m :: La, a :: As => (m.idx = a.idx ∧ True ∧ ∃ h0, IsAlloc P ops m a.d h0 a.Z) ∧ AllocsOk P ops La As
  | _, _ => False
theorem allocs_spec : ∀ {La : List MRec} {As : List AInf}, AllocsOk P ops La As → La.length = As.length ∧ ∀ (i : Nat) m a, La[i]? = some m → As[i]? = some a → m.idx = a.idx ∧ a.Ok P ops ∧ ∃ h0, IsAlloc P ops m a.d h0 a.Z
  | [], [], _ => ⟨rfl, fun i m a h => by simp at h⟩
  | m :: La, a :: As, h => by
    obtain ⟨⟨h1, _, h0, h2⟩, h3⟩ := h
    obtain ⟨k1, k2⟩ := allocs_spec h3
    refine ⟨by simp [k1], fun i m' a' e1 e2 => ?_⟩
    cases i with
    | zero =>
      simp only [List.getElem?_cons_zero, Option.some.injEq] at e1 e2
      subst e1; subst e2
      obtain ⟨o, t, o1, o2, o3, o4, o5⟩ := h2.op
      exact ⟨h1, ⟨⟨o, t, by rw [← h1]; exact o1, o2, o3, o4, o5⟩, h2.lit⟩, h0, h2⟩
    | succ i =>
      rw [List.getElem?_cons_succ] at e1 e2
      exact k2 i m' a' e1 e2
  | [], _ :: _, h => h.elim
  | _ :: _, [], h => h.elim
def lastB (ms : List Nat) (front back : List MRec) : Bool := back.all fun b => front.all fun a => (ms.getD b.idx 0).testBit a.idx
def freeB (front : List MRec) (ds : List Tmp) : Bool := front.all fun m => ds.all fun d => m.dst != some d && !m.looks.contains d
def nodupB : List Tmp → Bool
  | [] => true
  | d :: l => !l.contains d && nodupB l
theorem nodup_spec : ∀ {l : List Tmp}, nodupB l = true → l.Nodup
  | [], _ => List.nodup_nil
  | d :: l, h => by
    simp only [nodupB, Bool.and_eq_true, Bool.not_eq_true'] at h
    refine List.nodup_cons.2 ⟨fun hm => ?_, nodup_spec h.2⟩
    have := List.contains_iff_mem.2 hm
    rw [h.1] at this; cases this

/-- A REGION WHOSE ORDER IS OPEN, with several allocations beside calls that write: the first n operations, then k allocations, then what waits for all of these. -/
theorem mixedM_by {hm : Bool} (n k : Nat) (ds : List Tmp) (hds : nodupB ds = true) (hmix : P.follows .mixedOrders = true) {id : Nat} {s : ASt} {K : AExit → ASt → Prop} (hb : backGo ops.toList 0 = true)
    (h : mOps P hm ops (List.range ops.size) s [] (fun l s1 => Both (oCheck (ordM (masks ops) n (n + k) ops.size) l.reverse = true) (Both (HeapsOk (oNeeds (ordM (masks ops) n (n + k) ops.size) l.reverse))
      (Both ((Nat.beq (l.reverse.take n).length n && Nat.beq ((l.reverse.drop n).take k).length k && lastB (masks ops) ((l.reverse.drop n).take k) (l.reverse.drop (n + k))) = true) (Both (freeB (l.reverse.take n) ds = true) (Both (∃ As : List AInf, As.map (·.d) = ds ∧ AllocsOk P ops ((l.reverse.drop n).take k) As) (K .normal s1))))))
      (fun _ _ _ _ _ _ => False)) : DrawW P id ops s K := by
  refine ⟨?_⟩
  rcases mOps_ok _ _ _ _ _ h with ⟨s1, l1, dd, kk⟩ | ⟨_, _, _, _, _, _, _, _, _, _, _, _, _, _, _, _, kk⟩
  · simp only [List.append_nil, List.reverse_reverse] at kk
    obtain ⟨c1, c2, c5, c6, ⟨As, c7, c8⟩, kk⟩ := kk
    obtain ⟨a1, a2⟩ := allocs_spec c8
    simp only [Bool.and_eq_true] at c5
    obtain ⟨⟨n1, n2⟩, c5⟩ := c5
    have n1 := Nat.eq_of_beq_eq_true n1
    have n2 := Nat.eq_of_beq_eq_true n2
    have e : l1 = l1.take n ++ ((l1.drop n).take k ++ l1.drop (n + k)) := by
      rw [← List.drop_drop, List.take_append_drop, List.take_append_drop]
    have d1 := dd.idx; have d2 := dd.steps; have d3 := dd.ev; have d4 := dd.pan
    have pw := oCheck_spec c1 c2
    generalize l1.take n = L0 at *
    generalize (l1.drop n).take k = La at *
    generalize l1.drop (n + k) = Lb at *
    subst e
    refine ⟨.normal, s1, mixedM_ok hmix hb d1 d2 d3 d4 (by rw [n1, n2]; exact pw) (fun b hb' a ha => ?_) (fun m hm' d hd => ?_) a1 a2 (c7 ▸ nodup_spec hds) dd.n dd.defers dd.span dd.round, kk⟩
    · unfold lastB at c5
      exact List.all_eq_true.1 (List.all_eq_true.1 c5 b hb') a ha
    · unfold freeB at c6
      rw [c7] at hd
      have := List.all_eq_true.1 (List.all_eq_true.1 c6 m hm') d hd
      simp only [Bool.and_eq_true, bne_iff_ne, ne_eq, Bool.not_eq_true'] at this
      exact ⟨this.1, by simpa using this.2⟩
  · exact kk.elim
end
end Go.Ag
