/- The evaluator is right: whatever it says of a call is so in the model, in whatever order open regions are done. No conditions. -/
import Derived.Test.YtgidjimpobeahaaAgA
/- The machine's small steps, in the forms that the evaluator's soundness wants. -/
namespace Go.Ag
section
variable {P : Program}

/-- The goroutine alone, a frame on top. -/
theorem step_go {fr fr' : Frame} {cs cs' : List Frame} {w w' : World}
    (h : (stepG P true { frame := fr, callers := cs, status := .running, dying := none } w).bare = .go { frame := fr', callers := cs', status := .running, dying := none } w') :
    Steps P (lone fr cs w) (lone fr' cs' w') := .one (step_lone_go h)

theorem stepG_run {fr : Frame} (h : fr.mode = .run) (cs : List Frame) (w : World) :
    stepG P true { frame := fr, callers := cs, status := .running, dying := none } w = stepG.exec P true true fr cs none w := by
  simp [stepG, h]

/-- One step of a running frame to another todo. -/
theorem to_todo {fr : Frame} {cs : List Frame} {w : World} (hm : fr.mode = .run) {todo : List Item}
    (h : stepG.exec P true true fr cs none w = .go { frame := { fr with todo }, callers := cs, status := .running, dying := none } w) : Steps P (lone fr cs w) (lone { fr with todo } cs w) :=
  step_go (by rw [stepG_run hm, h]; rfl)

theorem exec_simple {fr : Frame} {cs : List Frame} {w : World} {c : Code} {k : List Item} (hm : fr.mode = .run) (ht : fr.todo = .code c :: k) {todo : List Item}
    (hc : (c = .skip ∧ todo = k) ∨ (∃ l, c = .label l ∧ todo = k) ∨ (∃ a b, c = .seq a b ∧ todo = .code a :: .code b :: k) ∨ (∃ id b, c = .block id b ∧ todo = .code b :: .inBlock id :: k) ∨
      (∃ b, c = .loop b ∧ todo = .code b :: .inLoop b :: k) ∨ (∃ b, c = .scope b ∧ todo = .code b :: .inScope b :: k) ∨ (∃ x a b t, c = .cond x a b ∧ fr.eval x = .bool t ∧ todo = .code (if t then a else b) :: k) ∨
      (∃ id ops, c = .region id ops false ∧ todo = .inRegion ops (List.range ops.size) :: k)) : Steps P (lone fr cs w) (lone { fr with todo } cs w) := by
  refine to_todo hm ?_
  rcases hc with ⟨rfl, rfl⟩ | ⟨l, rfl, rfl⟩ | ⟨a, b, rfl, rfl⟩ | ⟨id, b, rfl, rfl⟩ | ⟨b, rfl, rfl⟩ | ⟨b, rfl, rfl⟩ | ⟨x, a, b, t, rfl, he, rfl⟩ | ⟨id, ops, rfl, rfl⟩
  all_goals (unfold stepG.exec; simp only [ht])
  · simp [he]
  · simp

theorem exec_item {fr : Frame} {cs : List Frame} {w : World} {x : Item} {k todo : List Item} (hm : fr.mode = .run) (ht : fr.todo = x :: k)
    (hc : ((∃ id, x = .inBlock id) ∧ todo = k) ∨ ((∃ b, x = .inScope b) ∧ todo = k) ∨ (∃ b, x = .inLoop b ∧ todo = .code b :: .inLoop b :: k) ∨ (∃ ops, x = .inRegion ops [] ∧ todo = k) ∨
      (∃ id, x = .code (.exit id) ∧ exitTo id k = some todo)) : Steps P (lone fr cs w) (lone { fr with todo } cs w) := by
  refine to_todo hm ?_
  rcases hc with ⟨⟨id, rfl⟩, rfl⟩ | ⟨⟨id, rfl⟩, rfl⟩ | ⟨b, rfl, rfl⟩ | ⟨ops, rfl, rfl⟩ | ⟨id, rfl, he⟩
  all_goals (unfold stepG.exec; simp only [ht])
  simp [he]

theorem bare_after (es : Array Event) (s : GStep) : (GStep.after es s).bare = s.bare := GStep.bare_after es s

/-- An operation of a region that is not wanted. -/
theorem op_skip {fr : Frame} {cs : List Frame} {w : World} {ops : Array Oper} {i : Nat} {rest : List Nat} {k : List Item} {o : Oper} (hm : fr.mode = .run) (ht : fr.todo = .inRegion ops (i :: rest) :: k) (ho : ops[i]? = some o)
    (hw : Region.wanted o (yielded ops fr.tmps) = false) : Steps P (lone fr cs w) (lone (fr.finish undef) cs w) := by
  refine step_go ?_
  rw [stepG_run hm]
  unfold stepG.exec
  simp [ht, ho, hw]

theorem op_do {fr : Frame} {cs : List Frame} {w : World} {ops : Array Oper} {i : Nat} {rest : List Nat} {k : List Item} {o : Oper} (hm : fr.mode = .run) (ht : fr.todo = .inRegion ops (i :: rest) :: k) (ho : ops[i]? = some o)
    (hw : Region.wanted o (yielded ops fr.tmps) = true) (hd : fr.roundOf = none ∨ ∀ c, o.op ≠ .defer c) :
    stepG P true { frame := fr, callers := cs, status := .running, dying := none } w = stepG.apply P true fr cs none (execOp fr.eval o) w := by
  rw [stepG_run hm]
  unfold stepG.exec
  simp only [ht, ho, Option.map_some, hw, Option.getD_some, if_true]
  unfold stepG.oper
  have : fr.oper? = some o := by simp [Frame.oper?, ht, ho]
  rw [this]
  simp only
  split
  · rename_i l c hl hc
    rcases hd with hd | hd
    · rw [hd] at hl; cases hl
    · exact absurd hc (hd _)
  · rfl

section
variable {fr : Frame} {cs : List Frame} {w w' : World} {s : Sem Next}

theorem apply_value {v : Value} (h : s.run P w = .ok (.value v) w') : (stepG.apply P true fr cs none s w).bare = .go { frame := fr.finish v, callers := cs, status := .running, dying := none } w' := by
  simp [stepG.apply, Sem.runT_eq, h]
theorem apply_skip (h : s.run P w = .ok .skip w') : (stepG.apply P true fr cs none s w).bare = .go { frame := fr.finish undef, callers := cs, status := .running, dying := none } w' := by
  simp [stepG.apply, Sem.runT_eq, h]
theorem apply_defer {d : Deferred} (h : s.run P w = .ok (.defer d) w') :
    (stepG.apply P true fr cs none s w).bare = .go { frame := ({ fr with defers := d :: fr.defers } : Frame).finish undef, callers := cs, status := .running, dying := none } w' := by
  simp [stepG.apply, Sem.runT_eq, h]
theorem apply_enter {f : FuncId} {args : Array Value} (hk : ∀ d b r v k, fr.todo ≠ .call d b r v :: k) (h : s.run P w = .ok (.enter f args) w') :
    (stepG.apply P true fr cs none s w).bare = .go { frame := Frame.enter P f args .normal, callers := fr :: cs, status := .running, dying := none } w' := by
  simp only [stepG.apply, Sem.runT_eq, h, if_true, GStep.bare_after]
  split
  · rename_i hh; exact absurd hh (hk _ _ _ _ _)
  · rfl
theorem apply_round {l : Nat} {f : FuncId} {tm : Array Value} {as b : Code} (h : s.run P w = .ok (.round l f tm as b) w') :
    (stepG.apply P true fr cs none s w).bare = .go { frame := Frame.round l f tm as b .normal, callers := fr :: cs, status := .running, dying := none } w' := by
  simp [stepG.apply, Sem.runT_eq, h]
theorem apply_panic {v : Value} (h : s.run P w = .halt (.panic v) w') :
    (stepG.apply P true fr cs none s w).bare = .go { frame := fr.raise [{ v, recovered := false }], callers := cs, status := .running, dying := none } w' := by
  simp [stepG.apply, Sem.runT_eq, h]
theorem apply_recover (hr : fr.roundOf = none) (h : s.run P w = .ok .recover w') :
    (stepG.apply P true fr cs none s w).bare = match tryRecover fr cs with
      | some (v, cs) => .go { frame := fr.finish v, callers := cs, status := .running, dying := none } w'
      | none => .go { frame := fr.finish .nilIface, callers := cs, status := .running, dying := none } w' := by
  simp only [stepG.apply, Sem.runT_eq, h, if_true, GStep.bare_after, hr]
  cases tryRecover fr cs <;> rfl
end

end
end Go.Ag
/- Values with their memory: what is snapped is what it was. -/
namespace Go.Ag
section
variable {P : Program} {g : G} {H : Nat → AB} {w : World}

/-- Memory as it is, at what is frozen and at some of the evaluator's own blocks. -/
noncomputable def Φof (g : G) (H : Nat → AB) (w : World) (ids : List Nat) : Nat → Option Obj :=
  open Classical in fun b => if (∃ id, id ∈ ids ∧ g.A id ∧ (H id).live = true ∧ (g.j id).blk = b) then w.heap[b]? else g.Φ b

theorem Φof_frozen (hi : Inv g H w) {ids : List Nat} {b : Nat} {o : Obj} (h : Φof g H w ids b = some o) : w.heap[b]? = some o := by
  unfold Φof at h
  split at h
  · exact h
  · exact hi.frozen b o h

theorem Φof_old (hi : Inv g H w) {ids : List Nat} {b : Nat} {o : Obj} (h : g.Φ b = some o) : Φof g H w ids b = some o := by
  unfold Φof
  split
  · rename_i hc
    obtain ⟨id, _, ha, hl, he⟩ := hc
    have := hi.apart id ha hl
    rw [he, h] at this; cases this
  · exact h

theorem Φof_own (_ : Inv g H w) {ids : List Nat} {id : Nat} (hm : id ∈ ids) (ha : g.A id) (hl : (H id).live = true) : Φof g H w ids (g.j id).blk = w.heap[(g.j id).blk]? := by
  unfold Φof
  rw [if_pos ⟨id, hm, ha, hl, rfl⟩]

theorem Φof_mono (hi : Inv g H w) {ids ids' : List Nat} (hs : ∀ x, x ∈ ids → x ∈ ids') (b : Nat) (o : Obj) (h : Φof g H w ids b = some o) : Φof g H w ids' b = some o := by
  have hf := Φof_frozen hi h
  unfold Φof at h ⊢
  split at h
  · rename_i hc
    obtain ⟨id, h1, h2⟩ := hc
    rw [if_pos ⟨id, hs id h1, h2⟩]; exact h
  · split
    · exact hf
    · exact h

mutual
theorem snap_sound (hi : Inv g H w) : ∀ (n : Nat) (v : AV) (u : Value) (r : CV × List Nat), Rep g v u → snap H n v = some r → RepC (Φof g H w r.2) r.1 u
  | 0, _, _, _, _, h => by simp [snap] at h
  | n + 1, .c c, u, r, hr, h => by
    simp only [snap, Option.some.injEq] at h; subst h
    exact repC_mono (fun b o => Φof_old hi) _ _ hr
  | n + 1, .ptr id off, u, r, hr, h => by
    simp only [snap] at h
    split at h
    case h_2 => simp at h
    rename_i cells hb
    simp only [Option.map_eq_some_iff] at h
    obtain ⟨l, hl, rfl⟩ := h
    obtain ⟨ha, rfl⟩ := hr
    obtain ⟨cs, e, h1, h2, h3⟩ := hi.blk ha hb
    have hown := Φof_own hi (ids := id :: l.2) (List.mem_cons_self ..) ha (by rw [hb]; rfl)
    refine ⟨(g.j id).blk, (g.j id).base, cs, e, (0, 0), rfl, by rw [hown]; exact h1, ?_⟩
    exact repP_mono (Φof_mono hi (fun x hx => List.mem_cons_of_mem _ hx)) _ _ (snaps_sound hi n cells _ l h3 hl)
  | n + 1, .msl id sz off len cap, u, r, hr, h => by
    simp only [snap] at h
    split at h
    case h_2 => simp at h
    rename_i cells hb
    simp only [Option.map_eq_some_iff] at h
    obtain ⟨l, hl, rfl⟩ := h
    obtain ⟨ha, a, cap', rfl, c1, c2, c3⟩ := hr
    obtain ⟨cs, e, h1, h2, h3⟩ := hi.blk ha hb
    have hown := Φof_own hi (ids := id :: l.2) (List.mem_cons_self ..) ha (by rw [hb]; rfl)
    rcases c3 with c3 | ⟨rfl, _⟩
    · left
      have : len = 0 := by omega
      subst this
      exact ⟨rfl, .inl ⟨a, cap', rfl⟩⟩
    · right
      refine ⟨(g.j id).blk, (g.j id).base, cap', cs, e, (0, 0), rfl, by omega, by rw [hown]; exact h1, ?_⟩
      exact repP_mono (Φof_mono hi (fun x hx => List.mem_cons_of_mem _ hx)) _ _ (snaps_sound hi n cells _ l h3 hl)
  | n + 1, .map id, u, r, hr, h => by
    simp only [snap] at h
    split at h
    case h_2 => simp at h
    rename_i keys vals borns clock hb
    simp only [Option.map_eq_some_iff] at h
    obtain ⟨l, hl, rfl⟩ := h
    obtain ⟨ha, rfl⟩ := hr
    have hblk := hi.block id ha
    rw [hb] at hblk
    obtain ⟨es, h1, h2, h3, h4, h5⟩ := hblk
    have hown := Φof_own hi (ids := id :: l.2) (List.mem_cons_self ..) ha (by rw [hb]; rfl)
    refine ⟨(g.j id).blk, es, rfl, by rw [hown]; exact h1, h2, h3, ?_, ?_⟩
    · rw [snaps_len n vals l hl]; exact h4
    · exact repP_mono (Φof_mono hi (fun x hx => List.mem_cons_of_mem _ hx)) _ _ (snaps_sound hi n vals _ l h5 hl)
  | n + 1, .yield id, u, r, hr, h => by simp [snap] at h
  | n + 1, .func fn a b, u, r, hr, h => by
    simp only [snap, Option.bind_eq_some_iff, Option.map_eq_some_iff] at h
    obtain ⟨l, hl, m, hm, rfl⟩ := h
    obtain ⟨a', b', rfl, h1, h2, h3, h4⟩ := hr
    refine ⟨a', b', rfl, by rw [snaps_len n a l hl]; exact h1, ?_, by rw [snaps_len n b m hm]; exact h3, ?_⟩
    · exact repP_mono (Φof_mono hi (fun x hx => List.mem_append_left _ hx)) _ _ (snaps_sound hi n a _ l (reps_iff.1 h2) hl)
    · exact repP_mono (Φof_mono hi (fun x hx => List.mem_append_right _ hx)) _ _ (snaps_sound hi n b _ m (reps_iff.1 h4) hm)
  | n + 1, .iface t v, u, r, hr, h => by
    simp only [snap, Option.map_eq_some_iff] at h
    obtain ⟨l, hl, rfl⟩ := h
    obtain ⟨v', rfl, h2⟩ := hr
    exact ⟨v', rfl, snap_sound hi n v v' l h2 hl⟩
  | n + 1, .agg cs, u, r, hr, h => by
    simp only [snap, Option.map_eq_some_iff] at h
    obtain ⟨l, hl, rfl⟩ := h
    obtain ⟨cs', rfl, h1, h2⟩ := hr
    exact ⟨cs', rfl, by rw [snaps_len n cs l hl]; exact h1, snaps_sound hi n cs _ l (reps_iff.1 h2) hl⟩
  | n + 1, .tuple cs, u, r, hr, h => by
    simp only [snap, Option.map_eq_some_iff] at h
    obtain ⟨l, hl, rfl⟩ := h
    obtain ⟨cs', rfl, h1, h2⟩ := hr
    exact ⟨cs', rfl, by rw [snaps_len n cs l hl]; exact h1, snaps_sound hi n cs _ l (reps_iff.1 h2) hl⟩
theorem snaps_sound (hi : Inv g H w) : ∀ (n : Nat) (vs : List AV) (us : List Value) (r : List CV × List Nat), Pw (Rep g) vs us → snaps H n vs = some r → RepP (Φof g H w r.2) r.1 us
  | 0, _, _, _, _, h => by simp [snaps] at h
  | n + 1, [], us, r, _, h => by
    simp only [snaps, Option.some.injEq] at h; subst h; trivial
  | n + 1, v :: vs, [], r, hp, h => absurd hp Pw.not_cons_nil
  | n + 1, v :: vs, u :: us, r, hp, h => by
    simp only [snaps, Option.bind_eq_some_iff, Option.map_eq_some_iff] at h
    obtain ⟨c, hc, l, hl, rfl⟩ := h
    obtain ⟨p1, p2⟩ := Pw.cons_iff.1 hp
    refine ⟨?_, ?_⟩
    · exact repC_mono (Φof_mono hi (fun x hx => List.mem_append_left _ hx)) _ _ (snap_sound hi n v u c p1 hc)
    · exact repP_mono (Φof_mono hi (fun x hx => List.mem_append_right _ hx)) _ _ (snaps_sound hi n vs us l p2 hl)
theorem snaps_len : ∀ (n : Nat) (vs : List AV) (r : List CV × List Nat), snaps H n vs = some r → r.1.length = vs.length
  | 0, _, _, h => by simp [snaps] at h
  | n + 1, [], r, h => by simp only [snaps, Option.some.injEq] at h; subst h; rfl
  | n + 1, v :: vs, r, h => by
    simp only [snaps, Option.bind_eq_some_iff, Option.map_eq_some_iff] at h
    obtain ⟨c, hc, l, hl, rfl⟩ := h
    simp [snaps_len n vs l hl]
end

mutual
theorem plain_rep {Φ Φ' : Nat → Option Obj} : ∀ (c : CV) (u : Value), c.plain = true → RepC Φ c u → RepC Φ' c u
  | .junk, _, _, _ => trivial
  | .lit _, _, _, r => r
  | .cptr .., _, h, _ => by simp [CV.plain] at h
  | .sl .., _, h, _ => by simp [CV.plain] at h
  | .cmap .., _, h, _ => by simp [CV.plain] at h
  | .func fn a b, u, h, r => by
    simp only [CV.plain, Bool.and_eq_true] at h
    obtain ⟨a', b', rfl, h1, h2, h3, h4⟩ := r
    exact ⟨a', b', rfl, h1, plains_rep a _ h.1 h2, h3, plains_rep b _ h.2 h4⟩
  | .iface t v, u, h, r => by
    simp only [CV.plain] at h
    obtain ⟨v', rfl, h2⟩ := r
    exact ⟨v', rfl, plain_rep v v' h h2⟩
  | .agg cs, u, h, r => by
    simp only [CV.plain] at h
    obtain ⟨cs', rfl, h1, h2⟩ := r
    exact ⟨cs', rfl, h1, plains_rep cs _ h h2⟩
  | .tuple cs, u, h, r => by
    simp only [CV.plain] at h
    obtain ⟨cs', rfl, h1, h2⟩ := r
    exact ⟨cs', rfl, h1, plains_rep cs _ h h2⟩
theorem plains_rep {Φ Φ' : Nat → Option Obj} : ∀ (cs : List CV) (us : List Value), CV.plains cs = true → RepP Φ cs us → RepP Φ' cs us
  | [], _, _, _ => trivial
  | _ :: _, [], _, r => r
  | c :: cs, u :: us, h, r => by
    simp only [CV.plains, Bool.and_eq_true] at h
    exact ⟨plain_rep c u h.1 r.1, plains_rep cs us h.2 r.2⟩
end
end
end Go.Ag
/- What it is for the evaluator to be right: states, exits; small facts on them. -/
namespace Go.Ag
section
variable {P : Program}

def DefRel (P : Program) (g : G) : List ADef → List Deferred → Prop
  | [], [] => True
  | .call f args :: ds, d :: fs => (callable P f = true ∧ ∃ (as bs : Array Value), d = { target := .fn (.func f) bs, args := as } ∧ args.length = (as ++ bs).size ∧ Pw (Rep g) args (as ++ bs).toList) ∧ DefRel P g ds fs
  | .coll id :: ds, d :: fs => (g.A id ∧ ∃ as, d = { target := .collected (g.j id).blk, args := as }) ∧ DefRel P g ds fs
  | _, _ => False

theorem DefRel.mono {g g' : G} (h : g.le g') : ∀ {ds : List ADef} {fs : List Deferred}, DefRel P g ds fs → DefRel P g' ds fs
  | [], [], _ => trivial
  | [], _ :: _, r => r
  | .call .. :: _, [], r => r
  | .coll _ :: _, [], r => r
  | .call f args :: ds, d :: fs, r => by
    obtain ⟨⟨h1, as, bs, h2, h3, h4⟩, r⟩ := r
    exact ⟨⟨h1, as, bs, h2, h3, pw_mono h h4⟩, r.mono h⟩
  | .coll id :: ds, d :: fs, r => by
    obtain ⟨⟨h1, as, h2⟩, r⟩ := r
    exact ⟨⟨h.A _ h1, as, by rw [h.j _ h1]; exact h2⟩, r.mono h⟩

structure StRel (P : Program) (g : G) (s : ASt) (fr : Frame) (w : World) : Prop where
  inv : Inv g (Heap.at s.h) w
  A : ∀ i, g.A i ↔ i < s.h.n
  len : s.tmps.n = fr.tmps.size
  tmps : Pw (Rep g) (s.tmps.toList .undef) fr.tmps.toList
  defers : DefRel P g s.defers fr.defers
  round : (s.round = none ∧ fr.roundOf = none) ∨ ∃ id, s.round = some id ∧ g.A id ∧ fr.roundOf = some (g.j id).blk

/-- The callers of a frame, by what it may recover. -/
def CsRel (g : G) (pan : Pan) (kind : CallKind) (cs base : List Frame) : Prop := match pan with
  | .no => cs = base ∧ (kind = .normal ∨ (kind = .deferred ∧ ∃ c r, base = c :: r ∧ c.mode = .returning))
  | .live v => kind = .deferred ∧ cs = base ∧ ∃ c r u, base = c :: r ∧ c.mode = .panicking [{ v := u, recovered := false }] ∧ Rep g v u
  | .taken => kind = .deferred ∧ ∃ c r u, base = c :: r ∧ c.mode = .panicking [{ v := u, recovered := false }] ∧ cs = { c with mode := .panicking [{ v := u, recovered := true }] } :: r

theorem CsRel.mono {g g' : G} (h : g.le g') {pan : Pan} {kind : CallKind} {cs base : List Frame} (r : CsRel g pan kind cs base) : CsRel g' pan kind cs base := by
  cases pan with
  | no => exact r
  | live v => obtain ⟨h1, h2, c, rr, u, h3, h4, h5⟩ := r; exact ⟨h1, h2, c, rr, u, h3, h4, rep_mono h _ _ h5⟩
  | taken => exact r

/-- Where a piece of code lands. -/
def Lands (P : Program) (g : G) (e : AExit) (k : List Item) (fr : Frame) : Prop := match e with
  | .normal => fr.mode = .run ∧ fr.todo = k
  | .exit id => fr.mode = .run ∧ ∃ k0, fr.todo = .code (.exit id) :: k0 ∧ exitTo id k0 = exitTo id k
  | .ret => fr.mode = .run ∧ ∃ k0, fr.todo = .code .ret :: k0
  | .panic v => ∃ u, Rep g v u ∧ fr.mode = .panicking [{ v := u, recovered := false }] ∧ fr.catches P = false

structure Goal (P : Program) (g : G) (s : ASt) (fr : Frame) (cs base : List Frame) (w : World) (k : List Item) (e : AExit) (s' : ASt) (g' : G) (fr' : Frame) (cs' : List Frame) (w' : World) : Prop where
  steps : Steps P (lone fr cs w) (lone fr' cs' w')
  st : StRel P g' s' fr' w'
  cs : CsRel g' s'.pan fr.kind cs' base
  fn : fr'.fn = fr.fn
  kind : fr'.kind = fr.kind
  lands : Lands P g' e k fr'
  ev : Evolves g (Heap.at s.h) w g' (Heap.at s'.h) w'
  round : s'.round = s.round

def CodeOk (P : Program) (s : ASt) (item : Item) (e : AExit) (s' : ASt) : Prop :=
  ∀ (g : G) (fr : Frame) (cs base : List Frame) (w : World) (k : List Item), StRel P g s fr w → CsRel g s.pan fr.kind cs base → fr.todo = item :: k → fr.mode = .run →
    ∃ g' fr' cs' w', Goal P g s fr cs base w k e s' g' fr' cs' w'

def EndOk (P : Program) (g : G) (f : FuncId) (fr : Frame) (w : World) : AEnd → Prop
  | .ret v => fr.mode = .returning ∧ ∃ fn u, P.funcs[f]? = some fn ∧ (results fn fr.tmps).run P w = .ok u w ∧ Rep g v u
  | .panic v => (∃ fn, P.funcs[f]? = some fn) ∧ ∃ u, Rep g v u ∧ fr.mode = .panicking [{ v := u, recovered := false }]

def CallOk (P : Program) (f : FuncId) (args : List AV) (h : Heap) (pan : Pan) (e : AEnd) (h' : Heap) (pan' : Pan) : Prop :=
  ∀ (g : G) (kind : CallKind) (cs base : List Frame) (w : World) (vs : Array Value), Inv g (Heap.at h) w → (∀ i, g.A i ↔ i < h.n) → args.length = vs.size → Pw (Rep g) args vs.toList → CsRel g pan kind cs base →
    ∃ g' fr' cs' w', Steps P (lone (Frame.enter P f vs kind) cs w) (lone fr' cs' w') ∧ Inv g' (Heap.at h') w' ∧ (∀ i, g'.A i ↔ i < h'.n) ∧ CsRel g' pan' kind cs' base ∧ Evolves g (Heap.at h) w g' (Heap.at h') w' ∧
      fr'.fn = f ∧ fr'.kind = kind ∧ fr'.roundOf = none ∧ fr'.defers = [] ∧ EndOk P g' f fr' w' e

def ModeRel (g : G) : Option AV → FrameMode → Prop
  | none, m => m = .returning
  | some v, m => ∃ u, Rep g v u ∧ m = .panicking [{ v := u, recovered := false }]

def DefersOk (P : Program) (ds : List ADef) (mode : Option AV) (h : Heap) (mode' : Option AV) (h' : Heap) : Prop :=
  ∀ (g : G) (fr : Frame) (cs : List Frame) (w : World), Inv g (Heap.at h) w → (∀ i, g.A i ↔ i < h.n) → DefRel P g ds fr.defers → ModeRel g mode fr.mode →
    ∃ g' m w', Steps P (lone fr cs w) (lone { fr with defers := [], mode := m } cs w') ∧ Inv g' (Heap.at h') w' ∧ (∀ i, g'.A i ↔ i < h'.n) ∧ ModeRel g' mode' m ∧ Evolves g (Heap.at h) w g' (Heap.at h') w'

def Sound (P : Program) : Task → Res → Prop
  | .code c s, .code e s' => CodeOk P s (.code c) e s' ∧ ∀ b, c = .loop b → CodeOk P s (.inLoop b) e s'
  | .ops ops l s, .code e s' => CodeOk P s (.inRegion ops l) e s'
  | .call f args h pan, .call e h' pan' => CallOk P f args h pan e h' pan'
  | .defers ds mode h, .defers mode' h' => DefersOk P ds mode h mode' h'
  | _, _ => False

theorem rep_const {g : G} (v : Value) : Rep g (.c (CV.ofVal v)) v := repC_ofVal v

theorem getD_rep {g : G} {l : List AV} {a : Array Value} (hl : l.length = a.size) (hp : Pw (Rep g) l a.toList) (t : Nat) : Rep g (l.getD t .undef) (a.getD t undef) := by
  by_cases ht : t < l.length
  · obtain ⟨b, hb, hr⟩ := hp t l[t] (by simp [ht])
    have hb' : a[t]? = some b := by simpa using hb
    rw [List.getD_eq_getElem?_getD, List.getElem?_eq_getElem ht]
    simp only [Option.getD_some]
    rw [Array.getD_eq_getD_getElem?, hb']
    exact hr
  · rw [List.getD_eq_getElem?_getD, List.getElem?_eq_none (by omega), Array.getD_eq_getD_getElem?, Array.getElem?_eq_none (by omega)]
    rfl

theorem get_rep {g : G} {m : TMap AV} {a : Array Value} (hl : m.n = a.size) (hp : Pw (Rep g) (m.toList .undef) a.toList) (t : Nat) : Rep g (m.get .undef t) (a.getD t undef) := by
  rw [← TMap.toList_getD]
  exact getD_rep (by simpa using hl) hp t

theorem StRel.eval {g : G} {s : ASt} {fr : Frame} {w : World} (h : StRel P g s fr w) (x : Operand) : Rep g (s.eval x) (fr.eval x) := by
  cases x with
  | tmp t => exact get_rep h.len h.tmps t
  | const v => exact rep_const v
  | global k => trivial
  | func f => exact ⟨#[], #[], rfl, rfl, trivial, rfl, trivial⟩

theorem heap_at_eq (h : Heap) (i : Nat) : Heap.at h i = (h.toList .dead).getD i .dead := by
  rw [TMap.toList_getD]; rfl

theorem heap_at_append (h : Heap) (l : List AB) (i : Nat) : Heap.at (h.app .dead l) i = if i < h.n then Heap.at h i else l.getD (i - h.n) .dead := by
  rw [heap_at_eq, heap_at_eq, TMap.toList_app]
  simp only [List.getD_eq_getElem?_getD]
  split
  · rename_i hi; rw [List.getElem?_append_left (by simpa using hi)]
  · rename_i hi; rw [List.getElem?_append_right (by simp; omega), TMap.toList_length]

theorem heap_at_ge {h : Heap} {i : Nat} (hi : h.n ≤ i) : Heap.at h i = .dead := TMap.get_ge hi

theorem heap_set {h : Heap} {id : Nat} (hid : id < h.n) (b : AB) : Heap.at (h.set .dead id b) = upd1 (Heap.at h) id b := by
  funext i
  unfold Heap.at upd1
  rw [TMap.get_set]
  by_cases hi : i = id
  · subst hi; simp [hid]
  · simp [hi]

theorem upd_length (us : List (Nat × AB)) : ∀ (h : Heap), (Heap.upd h us).n = h.n := by
  induction us with
  | nil => intro h; rfl
  | cons p us ih => intro h; obtain ⟨id, b⟩ := p; simp [Heap.upd, ih]

theorem heap_upd : ∀ (us : List (Nat × AB)) (h : Heap), (∀ p ∈ us, p.1 < h.n) → Heap.at (Heap.upd h us) = updF (Heap.at h) us
  | [], h, _ => rfl
  | (id, b) :: us, h, hp => by
    simp only [Heap.upd, updF]
    rw [heap_upd us (h.set .dead id b) (fun p hm => by simpa using hp p (List.mem_cons_of_mem _ hm)), heap_set (hp _ (List.mem_cons_self ..))]

theorem app_n (h : Heap) (l : List AB) : (h.app .dead l).n = h.n + l.length := TMap.app_n _ _ _

theorem heap_effect {h : Heap} {r : SOut} (hp : ∀ p ∈ r.upds, p.1 < h.n) : Heap.at ((Heap.upd h r.upds).app .dead r.fresh.toList) = effect (Heap.at h) h.n r ∧ ((Heap.upd h r.upds).app .dead r.fresh.toList).n = h.n + (if r.fresh.isSome then 1 else 0) := by
  constructor
  · funext i
    rw [heap_at_append, upd_length, heap_upd _ _ hp]
    unfold effect
    cases hf : r.fresh with
    | none =>
      simp only [Option.toList_none, List.getD_nil]
      split
      · rfl
      · rename_i hi
        rw [← heap_upd _ _ hp]
        exact (heap_at_ge (by rw [upd_length]; omega)).symm
    | some b =>
      simp only [Option.toList_some, upd1]
      split
      · rename_i hi
        rw [if_neg (by omega)]
      · rename_i hi
        split
        · rename_i he; subst he; simp
        · rename_i he
          rw [← heap_upd _ _ hp, heap_at_ge (by rw [upd_length]; omega)]
          rw [List.getD_eq_getElem?_getD, List.getElem?_eq_none (by simp; omega)]
          rfl
  · rw [app_n, upd_length]
    cases r.fresh <;> simp

/-- A value is put. -/
theorem StRel.finish {g g' : G} {s : ASt} {fr : Frame} {w w' : World} (h : StRel P g s fr w) (hle : g.le g') {ops : Array Oper} {i : Nat} {rest : List Nat} {k : List Item} (ht : fr.todo = .inRegion ops (i :: rest) :: k)
    {o : Oper} (ho : ops[i]? = some o) {a : AV} {v : Value} (hr : Rep g' a v) {hp : Heap} (hi : Inv g' (Heap.at hp) w') (hA : ∀ i, g'.A i ↔ i < hp.n) :
    StRel P g' ({ s with h := hp }.put o.dst a) (fr.finish v) w' ∧ (fr.finish v).todo = .inRegion ops rest :: k ∧ (fr.finish v).mode = fr.mode ∧ (fr.finish v).fn = fr.fn ∧ (fr.finish v).kind = fr.kind ∧
      ({ s with h := hp }.put o.dst a).pan = s.pan ∧ ({ s with h := hp }.put o.dst a).round = s.round ∧ ({ s with h := hp }.put o.dst a).h = hp := by
  have e : fr.finish v = { fr with tmps := (match o.dst with | some d => fr.tmps.setIfInBounds d v | none => fr.tmps), todo := .inRegion ops rest :: k } := by
    unfold Frame.finish
    simp only [ht, ho, Option.bind_some]
    cases o.dst <;> rfl
  have hround : ({ s with h := hp } : ASt).round = none ∧ fr.roundOf = none ∨ ∃ id, s.round = some id ∧ g'.A id ∧ fr.roundOf = some (g'.j id).blk := by
    rcases h.round with h1 | ⟨id, h1, h2, h3⟩
    · exact .inl h1
    · exact .inr ⟨id, h1, hle.A _ h2, by rw [hle.j _ h2]; exact h3⟩
  rw [e]
  cases hd : o.dst with
  | none => exact ⟨⟨hi, hA, h.len, pw_mono hle h.tmps, h.defers.mono hle, hround⟩, rfl, rfl, rfl, rfl, rfl, rfl, rfl⟩
  | some d =>
    refine ⟨⟨hi, hA, ?_, ?_, h.defers.mono hle, hround⟩, rfl, rfl, rfl, rfl, rfl, rfl, rfl⟩
    · simpa [ASt.put] using h.len
    · simp only [ASt.put, Array.toList_setIfInBounds, TMap.toList_set]
      exact (pw_mono hle h.tmps).set d hr

theorem wanted_spec {g : G} {s : ASt} {fr : Frame} {w : World} (h : StRel P g s fr w) {ops : Array Oper} {o : Oper} {b : Bool} (hw : wantedA ops o s = some b) : Region.wanted o (yielded ops fr.tmps) = b := by
  unfold wantedA at hw
  unfold Region.wanted
  split at hw
  · rename_i hg; rw [hg]; simpa using hw
  · rename_i j want hg
    rw [hg]
    simp only
    split at hw
    · rename_i hj
      simp only [Option.some.injEq] at hw
      subst hw
      have : yielded ops fr.tmps j = none := by
        unfold yielded
        rw [hj]; rfl
      rw [this]; rfl
    · rename_i d hj
      have hy : yielded ops fr.tmps j = match fr.tmps[d]? with | some (.bool b) => some b | _ => none := by
        unfold yielded
        rw [hj]; rfl
      rw [hy]
      have hrep := get_rep h.len h.tmps d
      have hdef : fr.tmps.getD d undef = (fr.tmps[d]?).getD undef := Array.getD_eq_getD_getElem? ..
      split at hw
      · rename_i b' hb'
        rw [hb', hdef] at hrep
        simp only [Rep, RepC] at hrep
        simp only [Option.some.injEq] at hw
        subst hw
        cases hx : fr.tmps[d]? with
        | none => rw [hx] at hrep; simp [undef] at hrep
        | some u =>
          rw [hx] at hrep
          simp only [Option.getD_some] at hrep
          subst hrep
          cases b' <;> cases want <;> rfl
      · rename_i vs hb'
        rw [hb', hdef] at hrep
        simp only [Rep, RepC] at hrep
        simp only [Option.some.injEq] at hw
        subst hw
        cases hx : fr.tmps[d]? with
        | none => rfl
        | some u =>
          rw [hx] at hrep
          simp only [Option.getD_some] at hrep
          subst hrep
          rfl
      · simp at hw
end
end Go.Ag
/- The evaluator is right: code. -/
namespace Go.Ag
section
variable {P : Program}

theorem Goal.then {g g1 g' : G} {s s1 s' : ASt} {fr fr1 fr' : Frame} {cs cs1 cs' base : List Frame} {w w1 w' : World} {k1 k : List Item} {e1 e : AExit}
    (h : Goal P g s fr cs base w k1 e1 s1 g1 fr1 cs1 w1) (h' : Goal P g1 s1 fr1 cs1 base w1 k e s' g' fr' cs' w') : Goal P g s fr cs base w k e s' g' fr' cs' w' where
  steps := h.steps.trans h'.steps
  st := h'.st
  cs := by rw [← h.kind]; exact h'.cs
  fn := h'.fn.trans h.fn
  kind := h'.kind.trans h.kind
  lands := h'.lands
  ev := h.ev.trans h'.ev
  round := h'.round.trans h.round

theorem StRel.todo {g : G} {s : ASt} {fr : Frame} {w : World} (h : StRel P g s fr w) (todo : List Item) : StRel P g s { fr with todo } w :=
  ⟨h.inv, h.A, h.len, h.tmps, h.defers, h.round⟩

/-- Steps that only turn to another todo. -/
theorem Goal.before {g g' : G} {s s' : ASt} {fr fr' : Frame} {cs cs' base : List Frame} {w w' : World} {k todo : List Item} {e : AExit} (hs : Steps P (lone fr cs w) (lone { fr with todo } cs w))
    (h : Goal P g s { fr with todo } cs base w k e s' g' fr' cs' w') : Goal P g s fr cs base w k e s' g' fr' cs' w' :=
  ⟨hs.trans h.steps, h.st, h.cs, h.fn, h.kind, h.lands, h.ev, h.round⟩

/-- It ends at once. -/
theorem Goal.now {g : G} {s : ASt} {fr : Frame} {cs base : List Frame} {w : World} {k : List Item} {e : AExit} (hs : StRel P g s fr w) (hc : CsRel g s.pan fr.kind cs base) (hl : Lands P g e k fr) : Goal P g s fr cs base w k e s g fr cs w :=
  ⟨.refl P _, hs, hc, rfl, rfl, hl, .refl _ _ _, rfl⟩

/-- An item is passed by whatever leaves. -/
theorem Goal.pass {g g' : G} {s s' : ASt} {fr fr' : Frame} {cs cs' base : List Frame} {w w' : World} {k : List Item} {x : Item} {e : AExit} (h : Goal P g s fr cs base w (x :: k) e s' g' fr' cs' w') (hne : e ≠ .normal)
    (hx : ∀ id, e = .exit id → exitTo id (x :: k) = exitTo id k) : Goal P g s fr cs base w k e s' g' fr' cs' w' := by
  refine ⟨h.steps, h.st, h.cs, h.fn, h.kind, ?_, h.ev, h.round⟩
  have hl := h.lands
  cases e with
  | normal => exact absurd rfl hne
  | exit id => obtain ⟨h1, k0, h2, h3⟩ := hl; exact ⟨h1, k0, h2, h3.trans (hx id rfl)⟩
  | ret => exact hl
  | panic v => exact hl

theorem ok_seq {a b : Code} {s s' : ASt} {e : AExit} (h : (∃ s1, CodeOk P s (.code a) .normal s1 ∧ CodeOk P s1 (.code b) e s') ∨ (e ≠ .normal ∧ CodeOk P s (.code a) e s')) : CodeOk P s (.code (.seq a b)) e s' := by
  intro g fr cs base w k hst hcs ht hm
  have hstep : Steps P (lone fr cs w) (lone { fr with todo := .code a :: .code b :: k } cs w) := exec_simple hm ht (.inr (.inr (.inl ⟨a, b, rfl, rfl⟩)))
  rcases h with ⟨s1, h1, h2⟩ | ⟨hne, h1⟩
  · obtain ⟨g1, fr1, cs1, w1, G1⟩ := h1 g { fr with todo := .code a :: .code b :: k } cs base w (.code b :: k) (hst.todo _) hcs rfl hm
    obtain ⟨m1, t1⟩ := G1.lands
    obtain ⟨g2, fr2, cs2, w2, G2⟩ := h2 g1 fr1 cs1 base w1 k G1.st (by rw [G1.kind]; exact G1.cs) t1 m1
    exact ⟨g2, fr2, cs2, w2, (G1.then G2).before hstep⟩
  · obtain ⟨g1, fr1, cs1, w1, G1⟩ := h1 g { fr with todo := .code a :: .code b :: k } cs base w (.code b :: k) (hst.todo _) hcs rfl hm
    exact ⟨g1, fr1, cs1, w1, (G1.pass hne (fun id _ => rfl)).before hstep⟩

theorem ok_block {id : Nat} {c : Code} {s s1 : ASt} {e : AExit} (h : CodeOk P s (.code c) e s1) : CodeOk P s (.code (.block id c)) (match e with | .exit i => if i = id then .normal else .exit i | e => e) s1 := by
  intro g fr cs base w k hst hcs ht hm
  have hstep : Steps P (lone fr cs w) (lone { fr with todo := .code c :: .inBlock id :: k } cs w) := exec_simple hm ht (.inr (.inr (.inr (.inl ⟨id, c, rfl, rfl⟩))))
  obtain ⟨g1, fr1, cs1, w1, G1⟩ := h g { fr with todo := .code c :: .inBlock id :: k } cs base w (.inBlock id :: k) (hst.todo _) hcs rfl hm
  have hl := G1.lands
  cases e with
  | normal =>
    obtain ⟨m1, t1⟩ := hl
    have hs2 : Steps P (lone fr1 cs1 w1) (lone { fr1 with todo := k } cs1 w1) := exec_item m1 t1 (.inl ⟨⟨id, rfl⟩, rfl⟩)
    exact ⟨g1, { fr1 with todo := k }, cs1, w1, Goal.before hstep ⟨G1.steps.trans hs2, G1.st.todo _, G1.cs, G1.fn, G1.kind, ⟨m1, rfl⟩, G1.ev, G1.round⟩⟩
  | exit i =>
    obtain ⟨m1, k0, t1, h1⟩ := hl
    by_cases hi : i = id
    · simp only [hi, if_true]
      have hex : exitTo i k0 = some k := by rw [h1, hi]; simp [exitTo]
      have hs2 : Steps P (lone fr1 cs1 w1) (lone { fr1 with todo := k } cs1 w1) := exec_item m1 t1 (.inr (.inr (.inr (.inr ⟨i, rfl, hex⟩))))
      exact ⟨g1, { fr1 with todo := k }, cs1, w1, Goal.before hstep ⟨G1.steps.trans hs2, G1.st.todo _, G1.cs, G1.fn, G1.kind, ⟨m1, rfl⟩, G1.ev, G1.round⟩⟩
    · simp only [hi, if_false]
      have hne : (id == i) = false := by simp; exact fun h => hi h.symm
      exact ⟨g1, fr1, cs1, w1, Goal.before hstep ⟨G1.steps, G1.st, G1.cs, G1.fn, G1.kind, ⟨m1, k0, t1, by rw [h1]; simp [exitTo, hne]⟩, G1.ev, G1.round⟩⟩
  | ret => exact ⟨g1, fr1, cs1, w1, Goal.before hstep ⟨G1.steps, G1.st, G1.cs, G1.fn, G1.kind, hl, G1.ev, G1.round⟩⟩
  | panic v => exact ⟨g1, fr1, cs1, w1, Goal.before hstep ⟨G1.steps, G1.st, G1.cs, G1.fn, G1.kind, hl, G1.ev, G1.round⟩⟩

theorem ok_scope {c : Code} {s s1 : ASt} {e : AExit} (h : CodeOk P s (.code c) e s1) : CodeOk P s (.code (.scope c)) e s1 := by
  intro g fr cs base w k hst hcs ht hm
  have hstep : Steps P (lone fr cs w) (lone { fr with todo := .code c :: .inScope c :: k } cs w) := exec_simple hm ht (.inr (.inr (.inr (.inr (.inr (.inl ⟨c, rfl, rfl⟩))))))
  obtain ⟨g1, fr1, cs1, w1, G1⟩ := h g { fr with todo := .code c :: .inScope c :: k } cs base w (.inScope c :: k) (hst.todo _) hcs rfl hm
  by_cases hne : e = .normal
  · subst hne
    obtain ⟨m1, t1⟩ := G1.lands
    have hs2 : Steps P (lone fr1 cs1 w1) (lone { fr1 with todo := k } cs1 w1) := exec_item m1 t1 (.inr (.inl ⟨⟨c, rfl⟩, rfl⟩))
    exact ⟨g1, { fr1 with todo := k }, cs1, w1, Goal.before hstep ⟨G1.steps.trans hs2, G1.st.todo _, G1.cs, G1.fn, G1.kind, ⟨m1, rfl⟩, G1.ev, G1.round⟩⟩
  · exact ⟨g1, fr1, cs1, w1, (G1.pass hne (fun id _ => rfl)).before hstep⟩

theorem ok_loop {c : Code} {item : Item} (hitem : item = .code (.loop c) ∨ item = .inLoop c) {s s' : ASt} {e : AExit} (h : (∃ s1, CodeOk P s (.code c) .normal s1 ∧ CodeOk P s1 (.inLoop c) e s') ∨ (e ≠ .normal ∧ CodeOk P s (.code c) e s')) : CodeOk P s item e s' := by
  intro g fr cs base w k hst hcs ht hm
  have hstep : Steps P (lone fr cs w) (lone { fr with todo := .code c :: .inLoop c :: k } cs w) := by
    rcases hitem with rfl | rfl
    · exact exec_simple hm ht (.inr (.inr (.inr (.inr (.inl ⟨c, rfl, rfl⟩)))))
    · exact exec_item hm ht (.inr (.inr (.inl ⟨c, rfl, rfl⟩)))
  rcases h with ⟨s1, h1, h2⟩ | ⟨hne, h1⟩
  · obtain ⟨g1, fr1, cs1, w1, G1⟩ := h1 g { fr with todo := .code c :: .inLoop c :: k } cs base w (.inLoop c :: k) (hst.todo _) hcs rfl hm
    obtain ⟨m1, t1⟩ := G1.lands
    obtain ⟨g2, fr2, cs2, w2, G2⟩ := h2 g1 fr1 cs1 base w1 k G1.st (by rw [G1.kind]; exact G1.cs) t1 m1
    exact ⟨g2, fr2, cs2, w2, (G1.then G2).before hstep⟩
  · obtain ⟨g1, fr1, cs1, w1, G1⟩ := h1 g { fr with todo := .code c :: .inLoop c :: k } cs base w (.inLoop c :: k) (hst.todo _) hcs rfl hm
    exact ⟨g1, fr1, cs1, w1, (G1.pass hne (fun id _ => rfl)).before hstep⟩

theorem ok_now {c : Code} {s : ASt} (hc : c = .skip ∨ ∃ l, c = .label l) : CodeOk P s (.code c) .normal s := by
  intro g fr cs base w k hst hcs ht hm
  have hstep : Steps P (lone fr cs w) (lone { fr with todo := k } cs w) := by
    rcases hc with rfl | ⟨l, rfl⟩
    · exact exec_simple hm ht (.inl ⟨rfl, rfl⟩)
    · exact exec_simple hm ht (.inr (.inl ⟨l, rfl, rfl⟩))
  exact ⟨g, _, cs, w, Goal.before hstep (Goal.now (hst.todo _) hcs ⟨hm, rfl⟩)⟩

theorem ok_exit {id : Nat} {s : ASt} : CodeOk P s (.code (.exit id)) (.exit id) s := by
  intro g fr cs base w k hst hcs ht hm
  exact ⟨g, fr, cs, w, Goal.now hst hcs ⟨hm, k, ht, rfl⟩⟩

theorem ok_ret {s : ASt} : CodeOk P s (.code .ret) .ret s := by
  intro g fr cs base w k hst hcs ht hm
  exact ⟨g, fr, cs, w, Goal.now hst hcs ⟨hm, k, ht⟩⟩

theorem ok_cond {x : Operand} {a b : Code} {t : Bool} {s s' : ASt} {e : AExit} (hx : asBool (s.eval x) = some t) (h : CodeOk P s (.code (if t then a else b)) e s') : CodeOk P s (.code (.cond x a b)) e s' := by
  intro g fr cs base w k hst hcs ht hm
  have hv := rep_toBool (hst.eval x) hx
  have hstep : Steps P (lone fr cs w) (lone { fr with todo := .code (if t then a else b) :: k } cs w) := exec_simple hm ht (.inr (.inr (.inr (.inr (.inr (.inr (.inl ⟨x, a, b, t, rfl, hv, rfl⟩)))))))
  obtain ⟨g1, fr1, cs1, w1, G1⟩ := h g { fr with todo := .code (if t then a else b) :: k } cs base w k (hst.todo _) hcs rfl hm
  exact ⟨g1, fr1, cs1, w1, G1.before hstep⟩

theorem ok_region {id : Nat} {ops : Array Oper} {s s' : ASt} {e : AExit} (h : CodeOk P s (.inRegion ops (List.range ops.size)) e s') : CodeOk P s (.code (.region id ops false)) e s' := by
  intro g fr cs base w k hst hcs ht hm
  have hstep : Steps P (lone fr cs w) (lone { fr with todo := .inRegion ops (List.range ops.size) :: k } cs w) := exec_simple hm ht (.inr (.inr (.inr (.inr (.inr (.inr (.inr ⟨id, ops, rfl, rfl⟩)))))))
  obtain ⟨g1, fr1, cs1, w1, G1⟩ := h g { fr with todo := .inRegion ops (List.range ops.size) :: k } cs base w k (hst.todo _) hcs rfl hm
  exact ⟨g1, fr1, cs1, w1, G1.before hstep⟩

theorem ok_ops_nil {ops : Array Oper} {s : ASt} : CodeOk P s (.inRegion ops []) .normal s := by
  intro g fr cs base w k hst hcs ht hm
  have hstep : Steps P (lone fr cs w) (lone { fr with todo := k } cs w) := exec_item hm ht (.inr (.inr (.inr (.inl ⟨ops, rfl, rfl⟩))))
  exact ⟨g, _, cs, w, Goal.before hstep (Goal.now (hst.todo _) hcs ⟨hm, rfl⟩)⟩

/-- One operation is done; the rest. -/
theorem ops_step {ops : Array Oper} {i : Nat} {rest : List Nat} {o : Oper} (_ : ops[i]? = some o) {s s1 s' : ASt} {e : AExit} (hrest : CodeOk P s1 (.inRegion ops rest) e s')
    {g g1 : G} {fr : Frame} {cs cs1 base : List Frame} {w w1 : World} {k : List Item} {v : Value} (_ : StRel P g s fr w) (_ : fr.todo = .inRegion ops (i :: rest) :: k) (hm : fr.mode = .run)
    (hsteps : Steps P (lone fr cs w) (lone (fr.finish v) cs1 w1)) (h1 : StRel P g1 s1 (fr.finish v) w1) (hcs : CsRel g1 s1.pan fr.kind cs1 base) (hev : Evolves g (Heap.at s.h) w g1 (Heap.at s1.h) w1) (hr : s1.round = s.round)
    (htodo : (fr.finish v).todo = .inRegion ops rest :: k) (hmode : (fr.finish v).mode = fr.mode) (hfn : (fr.finish v).fn = fr.fn) (hkind : (fr.finish v).kind = fr.kind) :
    ∃ g' fr' cs' w', Goal P g s fr cs base w k e s' g' fr' cs' w' := by
  obtain ⟨g2, fr2, cs2, w2, G2⟩ := hrest g1 (fr.finish v) cs1 base w1 k h1 (by rw [hkind]; exact hcs) htodo (by rw [hmode]; exact hm)
  exact ⟨g2, fr2, cs2, w2, hsteps.trans G2.steps, G2.st, by rw [← hkind]; exact G2.cs, G2.fn.trans hfn, G2.kind.trans hkind, G2.lands, hev.trans G2.ev, G2.round.trans hr⟩

theorem ok_skip {ops : Array Oper} {i : Nat} {rest : List Nat} {o : Oper} (ho : ops[i]? = some o) {s s' : ASt} {e : AExit} (hw : wantedA ops o s = some false) (hrest : CodeOk P (s.put o.dst .undef) (.inRegion ops rest) e s') :
    CodeOk P s (.inRegion ops (i :: rest)) e s' := by
  intro g fr cs base w k hst hcs ht hm
  obtain ⟨h1, h2, h3, h4, h5, h6, h7, h8⟩ := hst.finish (.refl g) ht ho (a := .undef) (v := undef) rfl (hp := s.h) hst.inv hst.A
  have e0 : ({ s with h := s.h } : ASt).put o.dst .undef = s.put o.dst .undef := rfl
  rw [e0] at h1 h6 h7 h8
  exact ops_step ho hrest hst ht hm (op_skip hm ht ho (wanted_spec hst hw)) h1 (by rw [h6]; exact hcs) (by rw [h8]; exact .refl _ _ _) h7 h2 h3 h4 h5

theorem aop_defer {o : Oper} {c : Call} (hc : o.op = .defer c) {ρ : Operand → AV} {rd : Nat → AB} {n : Nat} {out : Out} (h : aop P o ρ rd n = some out) : ∃ f args, out = .defer f args := by
  unfold aop at h
  rw [hc] at h
  simp only at h
  split at h
  · simp only [Option.map_eq_some_iff] at h
    obtain ⟨p, _, rfl⟩ := h
    exact ⟨_, _, rfl⟩
  · simp at h

theorem ok_simple {ops : Array Oper} {i : Nat} {rest : List Nat} {o : Oper} (ho : ops[i]? = some o) {s s' : ASt} {e : AExit} (hw : wantedA ops o s = some true) {r : SOut} (ha : aop P o s.eval (Heap.at s.h) s.h.n = some (.simple r))
    (hrest : CodeOk P (s.apply o.dst r) (.inRegion ops rest) e s') : CodeOk P s (.inRegion ops (i :: rest)) e s' := by
  intro g fr cs base w k hst hcs ht hm
  have hsim := aop_sim (P := P) (w := w) hst.inv (σ := fr.eval) hst.eval (fresh := s.h.n) (fun h => absurd ((hst.A _).1 h) (Nat.lt_irrefl _)) ha
  obtain ⟨v, w', g', hres, hrv, hinv, hev, hA, hup⟩ := hsim
  have hup' : ∀ p ∈ r.upds, p.1 < s.h.n := fun p hp => (hst.A _).1 (hup p hp)
  obtain ⟨he1, he2⟩ := heap_effect hup'
  rw [← he1] at hinv hev
  have hA' : ∀ i, g'.A i ↔ i < ((Heap.upd s.h r.upds).app .dead r.fresh.toList).n := by
    intro i
    rw [hA, hst.A, he2]
    cases hf : r.fresh <;> simp
    omega
  obtain ⟨h1, h2, h3, h4, h5, h6, h7, h8⟩ := hst.finish hev.le ht ho hrv hinv hA'
  have hnd : fr.roundOf = none ∨ ∀ c, o.op ≠ .defer c := by
    exact .inr (fun c hc => by obtain ⟨_, _, hh⟩ := aop_defer hc ha; cases hh)
  have hsteps : Steps P (lone fr cs w) (lone (fr.finish v) cs w') := by
    refine step_go ?_
    rw [op_do hm ht ho (wanted_spec hst hw) hnd]
    rcases hres with hres | ⟨hres, rfl⟩
    · exact apply_value hres
    · exact apply_skip hres
  exact ops_step ho hrest hst ht hm hsteps h1 (by show CsRel g' (({ s with h := (Heap.upd s.h r.upds).app .dead r.fresh.toList } : ASt).put o.dst r.val).pan fr.kind cs base; rw [h6]; exact hcs.mono hev.le) (by show Evolves g (Heap.at s.h) w g' (({ s with h := (Heap.upd s.h r.upds).app .dead r.fresh.toList } : ASt).put o.dst r.val).h.at w'; rw [h8]; exact hev) h7 h2 h3 h4 h5

theorem ok_panic {ops : Array Oper} {i : Nat} {rest : List Nat} {o : Oper} (ho : ops[i]? = some o) {s : ASt} (hw : wantedA ops o s = some true) {v : AV} (ha : aop P o s.eval (Heap.at s.h) s.h.n = some (.panic v)) :
    CodeOk P s (.inRegion ops (i :: rest)) (.panic v) s := by
  intro g fr cs base w k hst hcs ht hm
  have hsim := aop_sim (P := P) (w := w) hst.inv (σ := fr.eval) hst.eval (fresh := s.h.n) (fun h => absurd ((hst.A _).1 h) (Nat.lt_irrefl _)) ha
  obtain ⟨u, w', hres, hrv, hso, hheap⟩ := hsim
  have hnd : fr.roundOf = none ∨ ∀ c, o.op ≠ .defer c := by
    exact .inr (fun c hc => by obtain ⟨_, _, hh⟩ := aop_defer hc ha; cases hh)
  have hsteps : Steps P (lone fr cs w) (lone (fr.raise [{ v := u, recovered := false }]) cs w') := by
    refine step_go ?_
    rw [op_do hm ht ho (wanted_spec hst hw) hnd]
    exact apply_panic hres
  have hraise : fr.raise [{ v := u, recovered := false }] = { fr with mode := .panicking [{ v := u, recovered := false }] } := by simp [Frame.raise, hm]
  have hinv' : Inv g (Heap.at s.h) w' := ⟨fun b o h => by rw [hheap]; exact hst.inv.frozen b o h, fun id h => by rw [hheap]; exact hst.inv.block id h, hst.inv.apart, hst.inv.inj⟩
  refine ⟨g, fr.raise [{ v := u, recovered := false }], cs, w', hsteps, ?_, hcs, by rw [hraise], by rw [hraise], ⟨u, hrv, by rw [hraise], ?_⟩, ⟨.refl g, hso.os, hso.tape, hso.output, by rw [hheap]; exact Nat.le_refl _, fun _ _ _ => by rw [hheap], fun _ _ h => .inl h, fun _ h => .inl h⟩, rfl⟩
  · rw [hraise]
    exact ⟨hinv', hst.A, hst.len, hst.tmps, hst.defers, hst.round⟩
  · rw [hraise]
    unfold Frame.catches
    simp only [ht]
    cases P.funcs[fr.fn]? <;> rfl
end
end Go.Ag
/- The evaluator is right: calls. -/
namespace Go.Ag
section
variable {P : Program}

theorem updF_kill : ∀ (ids : List Nat) (H : Nat → AB) (i : Nat), updF H (ids.map fun i => (i, .dead)) i = if i ∈ ids then .dead else H i
  | [], H, i => by simp [updF]
  | id :: ids, H, i => by
    simp only [List.map_cons, updF]
    rw [updF_kill ids (upd1 H id .dead) i]
    by_cases h1 : i ∈ ids
    · simp [h1]
    · by_cases h2 : i = id
      · simp [h2, upd1]
      · simp [h1, h2, upd1]

theorem heap_kill : ∀ (ids : List Nat) (h : Heap), Heap.at (Heap.upd h (ids.map fun i => (i, .dead))) = updF (Heap.at h) (ids.map fun i => (i, .dead))
  | [], h => rfl
  | id :: ids, h => by
    simp only [List.map_cons, Heap.upd, updF]
    rw [heap_kill ids (h.set .dead id .dead)]
    congr 1
    funext i
    unfold Heap.at upd1
    rw [TMap.get_set]
    by_cases hi : i = id
    · subst hi
      by_cases hl : i < h.n
      · simp [hl]
      · rw [if_neg (fun hh => hl hh.2), if_pos rfl]; exact TMap.get_ge (Nat.le_of_not_lt hl)
    · simp [hi]

/-- A call on closed values, seen from the caller. -/
theorem pure_okF {f : FuncId} {args : List AV} {args' : List CV} {ids : List Nat} {H : Nat → AB} {h' : Heap} {e : AEnd} {pan' : Pan} {r : CV × List Nat} {fuel fuel' : Nat} {g : G} {w : World} {vs : Array Value}
    (hi : Inv g H w) (hl : args.length = vs.size) (hp : Pw (Rep g) args vs.toList) (hs : snaps H fuel args = some (args', ids))
    (hc : CallOk P f (args'.map .c) TMap.nil .no e h' pan') (hr : snap (Heap.at h') fuel' e.val = some r) (cs : List Frame) :
    ∃ g' fr' w', Steps P (lone (Frame.enter P f vs .normal) cs w) (lone fr' cs w') ∧ Inv g' (updF H (killed r.1 ids)) w' ∧ (∀ i, g'.A i ↔ g.A i) ∧ Evolves g H w g' (updF H (killed r.1 ids)) w' ∧
      fr'.fn = f ∧ fr'.kind = .normal ∧ fr'.defers = [] ∧ EndOk P g' f fr' w' (e.setVal (.c r.1)) := by
  have hΦ := snaps_sound hi fuel args vs.toList _ hp hs
  have hlen' := snaps_len (H := H) (g := g) (w := w) fuel args _ hs
  simp only at hΦ hlen'
  let g0 : G := { Φ := Φof g H w ids, A := fun _ => False, j := g.j }
  have hi0 : Inv g0 (Heap.at TMap.nil) w := ⟨fun b o hb => Φof_frozen hi hb, fun _ ha => ha.elim, fun _ ha => ha.elim, fun _ _ ha => ha.elim⟩
  obtain ⟨g1, fr', cs', w', hsteps, hi1, hA1, hcs1, hev, hfn, hkind, hround, hdef, hend⟩ := hc g0 .normal cs cs w vs hi0 (fun i => by simp [g0, TMap.nil]) (by simp [hlen', hl]) (Pw.map_left.2 (repP_iff.1 hΦ)) ⟨rfl, .inl rfl⟩
  have hcs : cs' = cs := by
    cases pan' with
    | no => exact hcs1.1
    | live v => exact absurd hcs1.1 (by simp)
    | taken => exact absurd hcs1.1 (by simp)
  subst hcs
  have noOwn : ∀ b, ¬ Own g0 (Heap.at TMap.nil) b := fun b ⟨id, ha, _⟩ => ha
  have keep : ∀ b, b < w.heap.size → w'.heap[b]? = w.heap[b]? := fun b hb => hev.keep b hb (noOwn b)
  have own1 : ∀ b, Own g1 (Heap.at h') b → w.heap.size ≤ b := fun b ho => (hev.own b ho).resolve_left (noOwn b)
  -- the result
  have hval : ∀ u, Rep g1 e.val u → RepC (Φof g1 (Heap.at h') w' r.2) r.1 u := fun u hu => snap_sound hi1 fuel' e.val u r hu hr
  have hend' : ∀ g', (∀ u, RepC (Φof g1 (Heap.at h') w' r.2) r.1 u → RepC g'.Φ r.1 u) → EndOk P g' f fr' w' (e.setVal (.c r.1)) := by
    intro g' hg
    cases e with
    | ret v =>
      obtain ⟨m, fn, u, h1, h2, h3⟩ := hend
      exact ⟨m, fn, u, h1, h2, hg u (hval u h3)⟩
    | panic v =>
      obtain ⟨hf, u, h1, h2⟩ := hend
      exact ⟨hf, u, hg u (hval u h1), h2⟩
  by_cases hpl : r.1.plain = true
  · have hk : killed r.1 ids = [] := by simp [killed, hpl]
    rw [hk]
    refine ⟨g, fr', w', hsteps, ⟨?_, ?_, hi.apart, hi.inj⟩, fun _ => Iff.rfl, ⟨.refl g, hev.os, hev.tape, hev.output, hev.size, fun b hb _ => keep b hb, fun _ _ h => .inl h, fun _ h => .inl h⟩, hfn, hkind, hdef, hend' g (fun u hu => plain_rep _ u hpl hu)⟩
    · intro b o hb
      rw [keep b (hi.frozen_lt hb)]; exact hi.frozen b o hb
    · intro id ha
      cases hlv : (H id).live with
      | true => rw [keep _ (hi.lt ha hlv)]; exact hi.block id ha
      | false => cases hx : H id <;> simp [hx, AB.live] at hlv; show RepB _ (H id) _ _; rw [hx]; trivial
  · have hk : killed r.1 ids = ids.map fun i => (i, .dead) := by simp [killed, hpl]
    rw [hk]
    have hat : ∀ i, updF H (ids.map fun i => (i, .dead)) i = if i ∈ ids then .dead else H i := fun i => updF_kill ids H i
    -- what is frozen now, and where it comes from
    have from0 : ∀ b o, Φof g1 (Heap.at h') w' r.2 b = some o → w.heap.size ≤ b ∨ (b < w.heap.size ∧ Φof g H w ids b = some o) := by
      intro b o hb
      by_cases hlt : b < w.heap.size
      · right
        refine ⟨hlt, ?_⟩
        unfold Φof at hb
        split at hb
        · rename_i hc
          obtain ⟨id, _, ha, hl, he⟩ := hc
          exact absurd (own1 b ⟨id, ha, hl, he⟩) (by omega)
        · rcases hev.fro b o hb with h1 | h1 | h1
          · exact h1
          · exact absurd h1 (noOwn b)
          · omega
      · left; omega
    have apart' : ∀ id, g.A id → (H id).live = true → id ∉ ids → Φof g1 (Heap.at h') w' r.2 (g.j id).blk = none := by
      intro id ha hlv hni
      cases hb : Φof g1 (Heap.at h') w' r.2 (g.j id).blk with
      | none => rfl
      | some o =>
        exfalso
        rcases from0 _ o hb with h1 | ⟨_, h1⟩
        · have := hi.lt ha hlv; omega
        · unfold Φof at h1
          split at h1
          · rename_i hc
            obtain ⟨id', hm, ha', hl', he⟩ := hc
            exact hni (hi.inj id' id ha' ha hl' hlv he ▸ hm)
          · have := hi.apart id ha hlv; rw [h1] at this; cases this
    have sub : ∀ b o, g.Φ b = some o → Φof g1 (Heap.at h') w' r.2 b = some o := fun b o hb => Φof_old hi1 (hev.le.Φ b o (Φof_old hi hb))
    let g' : G := { Φ := Φof g1 (Heap.at h') w' r.2, A := g.A, j := g.j }
    have gle : g.le g' := ⟨sub, fun _ h => h, fun _ _ => rfl⟩
    refine ⟨g', fr', w', hsteps, ⟨fun b o hb => Φof_frozen hi1 hb, ?_, ?_, ?_⟩, fun _ => Iff.rfl, ⟨gle, hev.os, hev.tape, hev.output, hev.size, fun b hb _ => keep b hb, ?_, ?_⟩, hfn, hkind, hdef, hend' g' (fun u hu => hu)⟩
    · intro id ha
      rw [hat]
      split
      · trivial
      · cases hlv : (H id).live with
        | true =>
          show RepB g' (H id) (g.j id) w'.heap[(g.j id).blk]?
          rw [keep _ (hi.lt ha hlv)]; exact repB_mono gle (hi.block id ha)
        | false => cases hx : H id <;> simp [hx, AB.live] at hlv; trivial
    · intro id ha hlv
      rw [hat] at hlv
      split at hlv
      · simp [AB.live] at hlv
      · rename_i hni; exact apart' id ha hlv hni
    · intro i i' ha ha' hlv hlv' he
      rw [hat] at hlv hlv'
      split at hlv
      · simp [AB.live] at hlv
      · split at hlv'
        · simp [AB.live] at hlv'
        · exact hi.inj i i' ha ha' hlv hlv' he
    · intro b o hb
      rcases from0 b o hb with h1 | ⟨_, h1⟩
      · exact .inr (.inr h1)
      · unfold Φof at h1
        split at h1
        · rename_i hc
          obtain ⟨id', hm, ha', hl', he⟩ := hc
          exact .inr (.inl ⟨id', ha', hl', he⟩)
        · exact .inl h1
    · rintro b ⟨id, ha, hlv, he⟩
      rw [hat] at hlv
      split at hlv
      · simp [AB.live] at hlv
      · exact .inl ⟨id, ha, hlv, he⟩

theorem pure_ok {f : FuncId} {args : List AV} {args' : List CV} {ids : List Nat} {h h' : Heap} {e : AEnd} {pan' : Pan} {r : CV × List Nat} {fuel fuel' : Nat} {g : G} {w : World} {vs : Array Value}
    (hi : Inv g (Heap.at h) w) (hA : ∀ i, g.A i ↔ i < h.n) (hl : args.length = vs.size) (hp : Pw (Rep g) args vs.toList) (hs : snaps (Heap.at h) fuel args = some (args', ids))
    (hc : CallOk P f (args'.map .c) TMap.nil .no e h' pan') (hr : snap (Heap.at h') fuel' e.val = some r) (cs : List Frame) :
    ∃ g' fr' w', Steps P (lone (Frame.enter P f vs .normal) cs w) (lone fr' cs w') ∧ Inv g' (Heap.upd h (killed r.1 ids)).at w' ∧ (∀ i, g'.A i ↔ i < (Heap.upd h (killed r.1 ids)).n) ∧ Evolves g (Heap.at h) w g' (Heap.upd h (killed r.1 ids)).at w' ∧
      fr'.fn = f ∧ fr'.kind = .normal ∧ fr'.defers = [] ∧ EndOk P g' f fr' w' (e.setVal (.c r.1)) := by
  obtain ⟨g', fr', w', h1, h2, h3, h4, h5⟩ := pure_okF hi hl hp hs hc hr cs
  have hk : Heap.at (Heap.upd h (killed r.1 ids)) = updF (Heap.at h) (killed r.1 ids) := by
    unfold killed
    split
    · rfl
    · exact heap_kill ids h
  exact ⟨g', fr', w', h1, by rw [hk]; exact h2, fun i => by rw [upd_length, h3]; exact hA i, by rw [hk]; exact h4, h5⟩

/-- Behind a call that returned, or panicked. -/
theorem leave_ret {fr' fr : Frame} {cs : List Frame} {w : World} {f : FuncId} {g : G} {v : AV} (hm : EndOk P g f fr' w (.ret v)) (hfn : fr'.fn = f) (hk : fr'.kind = .normal) (hd : fr'.defers = []) :
    ∃ u, Rep g v u ∧ Steps P (lone fr' (fr :: cs) w) (lone (fr.finish u) cs w) := by
  obtain ⟨m, fn, u, h1, h2, h3⟩ := hm
  exact ⟨u, h3, .one (step_leave_returned ⟨m, hd, hk, fn, by rw [hfn]; exact h1, h2⟩)⟩

theorem leave_panic {fr' fr : Frame} {cs : List Frame} {w : World} {f : FuncId} {g : G} {v : AV} (hm : EndOk P g f fr' w (.panic v)) (hfn : fr'.fn = f) (hd : fr'.defers = []) :
    ∃ u, Rep g v u ∧ Steps P (lone fr' (fr :: cs) w) (lone (fr.raise [{ v := u, recovered := false }]) cs w) := by
  obtain ⟨⟨fn, h1⟩, u, h2, h3⟩ := hm
  exact ⟨u, h2, .one (step_leave_panicked ⟨h3, hd, fn, by rw [hfn]; exact h1⟩)⟩

/-- A frame that panics behind a call: its state. -/
theorem raise_goal {g g' : G} {s s' : ASt} {fr : Frame} {cs base : List Frame} {w w' : World} {k : List Item} {item : Item} {v : AV} {u : Value} (hst : StRel P g s fr w) (hcs : CsRel g s.pan fr.kind cs base) (hm : fr.mode = .run) (ht : fr.todo = item :: k)
    (hcall : ∀ d b r x, item ≠ .call d b r x) (hsteps : Steps P (lone fr cs w) (lone (fr.raise [{ v := u, recovered := false }]) cs w')) (hr : Rep g' v u) (hs' : ∃ h2, s' = { s with h := h2 }) (hinv : Inv g' (Heap.at s'.h) w') (hA : ∀ i, g'.A i ↔ i < s'.h.n)
    (hev : Evolves g (Heap.at s.h) w g' (Heap.at s'.h) w') : Goal P g s fr cs base w k (.panic v) s' g' (fr.raise [{ v := u, recovered := false }]) cs w' := by
  obtain ⟨h2, rfl⟩ := hs'
  have hraise : fr.raise [{ v := u, recovered := false }] = { fr with mode := .panicking [{ v := u, recovered := false }] } := by simp [Frame.raise, hm]
  refine ⟨hsteps, ?_, hcs.mono hev.le, by rw [hraise], by rw [hraise], ⟨u, hr, by rw [hraise], ?_⟩, hev, rfl⟩
  · rw [hraise]
    refine ⟨hinv, hA, hst.len, pw_mono hev.le hst.tmps, hst.defers.mono hev.le, ?_⟩
    rcases hst.round with h1 | ⟨id, h1, h2, h3⟩
    · exact .inl h1
    · exact .inr ⟨id, h1, hev.le.A _ h2, by rw [hev.le.j _ h2]; exact h3⟩
  · rw [hraise]
    unfold Frame.catches
    simp only [ht]
    split
    · rename_i hh
      simp only [List.cons.injEq] at hh
      exact absurd hh.1 (hcall _ _ _ _)
    · rfl

/-- An operation that calls. -/
theorem ok_callop {ops : Array Oper} {i : Nat} {rest : List Nat} {o : Oper} (ho : ops[i]? = some o) {s : ASt} (hw : wantedA ops o s = some true) {f : FuncId} {args : List AV} (ha : aop P o s.eval (Heap.at s.h) s.h.n = some (.call f args))
    {e : AEnd} {h2 : Heap}
    (hcall : ∀ (g : G) (w : World) (cs : List Frame) (vs : Array Value), Inv g (Heap.at s.h) w → (∀ i, g.A i ↔ i < s.h.n) → args.length = vs.size → Pw (Rep g) args vs.toList →
      ∃ g' fr' w', Steps P (lone (Frame.enter P f vs .normal) cs w) (lone fr' cs w') ∧ Inv g' (Heap.at h2) w' ∧ (∀ i, g'.A i ↔ i < h2.n) ∧ Evolves g (Heap.at s.h) w g' (Heap.at h2) w' ∧ fr'.fn = f ∧ fr'.kind = .normal ∧ fr'.defers = [] ∧ EndOk P g' f fr' w' e) :
    (∀ v s' ex, e = .ret v → CodeOk P ({ s with h := h2 }.put o.dst v) (.inRegion ops rest) ex s' → CodeOk P s (.inRegion ops (i :: rest)) ex s') ∧ (∀ v, e = .panic v → CodeOk P s (.inRegion ops (i :: rest)) (.panic v) { s with h := h2 }) := by
  have begin' : ∀ (g : G) (fr : Frame) (cs : List Frame) (w : World) (k : List Item), StRel P g s fr w → fr.todo = .inRegion ops (i :: rest) :: k → fr.mode = .run →
      ∃ g' fr' w', Steps P (lone fr cs w) (lone fr' (fr :: cs) w') ∧ Inv g' (Heap.at h2) w' ∧ (∀ i, g'.A i ↔ i < h2.n) ∧ Evolves g (Heap.at s.h) w g' (Heap.at h2) w' ∧ fr'.fn = f ∧ fr'.kind = .normal ∧ fr'.defers = [] ∧ EndOk P g' f fr' w' e := by
    intro g fr cs w k hst ht hm
    have hsim := aop_sim (P := P) (w := w) hst.inv (σ := fr.eval) hst.eval (fresh := s.h.n) (fun h => absurd ((hst.A _).1 h) (Nat.lt_irrefl _)) ha
    obtain ⟨hc, vs, hres, hl, hp⟩ := hsim
    have hnd : fr.roundOf = none ∨ ∀ c, o.op ≠ .defer c := .inr (fun c hc => by obtain ⟨_, _, hh⟩ := aop_defer hc ha; cases hh)
    have h1 : Steps P (lone fr cs w) (lone (Frame.enter P f vs .normal) (fr :: cs) w) := by
      refine step_go ?_
      rw [op_do hm ht ho (wanted_spec hst hw) hnd]
      exact apply_enter (by rw [ht]; intro _ _ _ _ _ hh; simp at hh) hres
    obtain ⟨g', fr', w', k1, k2, k3, k4, k5, k6, k7, k8⟩ := hcall g w (fr :: cs) vs hst.inv hst.A hl hp
    exact ⟨g', fr', w', h1.trans k1, k2, k3, k4, k5, k6, k7, k8⟩
  constructor
  · rintro v s' ex rfl hrest g fr cs base w k hst hcs ht hm
    obtain ⟨g', fr', w', k1, k2, k3, k4, k5, k6, k7, k8⟩ := begin' g fr cs w k hst ht hm
    obtain ⟨u, hu, hs⟩ := leave_ret (fr := fr) (cs := cs) k8 k5 k6 k7
    obtain ⟨h1, h2', h3, h4, h5, h6, h7, h8⟩ := hst.finish k4.le ht ho hu k2 k3
    exact ops_step ho hrest hst ht hm (k1.trans hs) h1 (by rw [h6]; exact hcs.mono k4.le) (by rw [h8]; exact k4) h7 h2' h3 h4 h5
  · rintro v rfl g fr cs base w k hst hcs ht hm
    obtain ⟨g', fr', w', k1, k2, k3, k4, k5, k6, k7, k8⟩ := begin' g fr cs w k hst ht hm
    obtain ⟨u, hu, hs⟩ := leave_panic (fr := fr) (cs := cs) k8 k5 k7
    exact ⟨g', _, cs, w', raise_goal hst hcs hm ht (by simp) (k1.trans hs) hu ⟨h2, rfl⟩ k2 k3 k4⟩
end
end Go.Ag
/- The evaluator is right: defer, recover, whole calls, deferred calls. -/
namespace Go.Ag
section
variable {P : Program}

theorem ok_defer {ops : Array Oper} {i : Nat} {rest : List Nat} {o : Oper} (ho : ops[i]? = some o) {s s' : ASt} {ex : AExit} (hw : wantedA ops o s = some true) (hround : s.round = none) {f : FuncId} {args : List AV}
    (ha : aop P o s.eval (Heap.at s.h) s.h.n = some (.defer f args)) (hrest : CodeOk P ({ s with defers := .call f args :: s.defers }.put o.dst .undef) (.inRegion ops rest) ex s') : CodeOk P s (.inRegion ops (i :: rest)) ex s' := by
  intro g fr cs base w k hst hcs ht hm
  have hsim := aop_sim (P := P) (w := w) hst.inv (σ := fr.eval) hst.eval (fresh := s.h.n) (fun h => absurd ((hst.A _).1 h) (Nat.lt_irrefl _)) ha
  obtain ⟨hc, as, bs, hres, hl, hp⟩ := hsim
  have hr0 : fr.roundOf = none := by
    rcases hst.round with h1 | ⟨id, h1, _⟩
    · exact h1.2
    · rw [hround] at h1; cases h1
  let fr1 : Frame := { fr with defers := { target := .fn (.func f) bs, args := as } :: fr.defers }
  have hst1 : StRel P g { s with defers := .call f args :: s.defers } fr1 w := ⟨hst.inv, hst.A, hst.len, hst.tmps, ⟨⟨hc, as, bs, rfl, hl, hp⟩, hst.defers⟩, hst.round⟩
  have ht1 : fr1.todo = .inRegion ops (i :: rest) :: k := ht
  have hm1 : fr1.mode = .run := hm
  obtain ⟨h1, h2, h3, h4, h5, h6, h7, h8⟩ := hst1.finish (.refl g) ht1 ho (a := .undef) (v := undef) rfl (hp := s.h) hst.inv hst.A
  have hsteps : Steps P (lone fr cs w) (lone (fr1.finish undef) cs w) := by
    refine step_go ?_
    rw [op_do hm ht ho (wanted_spec hst hw) (.inl hr0)]
    exact apply_defer hres
  obtain ⟨g2, fr2, cs2, w2, G2⟩ := hrest g (fr1.finish undef) cs base w k h1 (by rw [h5]; erw [h6]; exact hcs) h2 (by rw [h3]; exact hm)
  exact ⟨g2, fr2, cs2, w2, hsteps.trans G2.steps, G2.st, by rw [show fr.kind = (fr1.finish undef).kind from h5.symm]; exact G2.cs, G2.fn.trans h4, G2.kind.trans h5, G2.lands, by have := G2.ev; erw [h8] at this; exact this, G2.round.trans h7⟩

theorem ok_recover {ops : Array Oper} {i : Nat} {rest : List Nat} {o : Oper} (ho : ops[i]? = some o) {s s' : ASt} {ex : AExit} (hw : wantedA ops o s = some true) (hround : s.round = none)
    (ha : aop P o s.eval (Heap.at s.h) s.h.n = some .recover)
    (hrest : CodeOk P (match s.pan with | .live v => ({ s with pan := .taken } : ASt).put o.dst v | _ => s.put o.dst (.lit .nilIface)) (.inRegion ops rest) ex s') : CodeOk P s (.inRegion ops (i :: rest)) ex s' := by
  intro g fr cs base w k hst hcs ht hm
  have hsim := aop_sim (P := P) (w := w) hst.inv (σ := fr.eval) hst.eval (fresh := s.h.n) (fun h => absurd ((hst.A _).1 h) (Nat.lt_irrefl _)) ha
  have hr0 : fr.roundOf = none := by
    rcases hst.round with h1 | ⟨id, h1, _⟩
    · exact h1.2
    · rw [hround] at h1; cases h1
  have hstep : (stepG P true { frame := fr, callers := cs, status := .running, dying := none } w).bare = match tryRecover fr cs with
      | some (v, cs) => .go { frame := fr.finish v, callers := cs, status := .running, dying := none } w
      | none => .go { frame := fr.finish .nilIface, callers := cs, status := .running, dying := none } w := by
    rw [op_do hm ht ho (wanted_spec hst hw) (.inl hr0)]
    exact apply_recover hr0 hsim
  have nothing : tryRecover fr cs = none → CodeOk P (s.put o.dst (.lit .nilIface)) (.inRegion ops rest) ex s' → ∃ g' fr' cs' w', Goal P g s fr cs base w k ex s' g' fr' cs' w' := by
    intro htr hrest
    rw [htr] at hstep
    obtain ⟨h1, h2, h3, h4, h5, h6, h7, h8⟩ := hst.finish (.refl g) ht ho (a := .lit .nilIface) (v := .nilIface) rfl (hp := s.h) hst.inv hst.A
    exact ops_step ho hrest hst ht hm (step_go hstep) h1 (by rw [h6]; exact hcs) (by rw [h8]; exact .refl _ _ _) h7 h2 h3 h4 h5
  cases hp : s.pan with
  | no =>
    rw [hp] at hrest hcs
    refine nothing ?_ hrest
    obtain ⟨rfl, hk | ⟨hk, c, r, rfl, hcm⟩⟩ := hcs
    · simp [tryRecover, hk]
    · simp [tryRecover, hk, hcm]
  | taken =>
    rw [hp] at hrest hcs
    refine nothing ?_ hrest
    obtain ⟨hk, c, r, u, rfl, hcm, rfl⟩ := hcs
    simp [tryRecover, hk]
  | live v =>
    rw [hp] at hrest hcs
    obtain ⟨hk, rfl, c, r, u, rfl, hcm, hrv⟩ := hcs
    have htr : tryRecover fr (c :: r) = some (u, { c with mode := .panicking [{ v := u, recovered := true }] } :: r) := by simp [tryRecover, hk, hcm]
    rw [htr] at hstep
    have hst1 : StRel P g { s with pan := .taken } fr w := ⟨hst.inv, hst.A, hst.len, hst.tmps, hst.defers, hst.round⟩
    obtain ⟨h1, h2, h3, h4, h5, h6, h7, h8⟩ := hst1.finish (.refl g) ht ho (a := v) (v := u) hrv (hp := s.h) hst.inv hst.A
    exact ops_step ho hrest hst ht hm (step_go hstep) h1 (by rw [h6]; exact ⟨hk, c, r, u, rfl, hcm, rfl⟩) (by rw [h8]; exact .refl _ _ _) h7 h2 h3 h4 h5

/-- The results. -/
theorem readRes_run {g : G} {h : Heap} {w : World} (hi : Inv g (Heap.at h) w) {tmps : TMap AV} {tm : Array Value} (hl : tmps.n = tm.size) (hp : Pw (Rep g) (tmps.toList .undef) tm.toList) : ∀ {rs : List ResultVar} {vs : List AV}, readRes P tmps h rs = some vs →
    ∃ us : List Value, (rs.mapM (fun r => match r with
      | .tmp t => pure (tm.getD t undef)
      | .cell a t => do loadVar t (← asAddr (tm.getD a undef))) : Sem (List Value)).run P w = .ok us w ∧ Pw (Rep g) vs us ∧ vs.length = us.length
  | [], vs, h => by
    simp only [readRes, Option.some.injEq] at h; subst h
    exact ⟨[], rfl, Pw.nil _, rfl⟩
  | .tmp t :: r, vs, h => by
    simp only [readRes, Option.map_eq_some_iff] at h
    obtain ⟨l, hr, rfl⟩ := h
    obtain ⟨us, h1, h2, h3⟩ := readRes_run hi hl hp hr
    exact ⟨_ :: us, by rw [List.mapM_cons]; simp only [Sem.run_bind, Sem.run_pure, Result.andThen_ok, h1], Pw.cons_iff.2 ⟨get_rep hl hp t, h2⟩, by simp [h3]⟩
  | .cell a t :: r, vs, h => by
    simp only [readRes] at h
    split at h
    case h_2 => simp at h
    rename_i o ho
    simp only [Option.map_eq_some_iff] at h
    obtain ⟨l, hr, rfl⟩ := h
    obtain ⟨us, h1, h2, h3⟩ := readRes_run hi hl hp hr
    have hrep := get_rep hl hp a
    have hload : ∃ u, (do loadVar t (← asAddr (tm.getD a undef)) : Sem Value).run P w = .ok u w ∧ Rep g o.val u := by
      unfold aload at ho
      split at ho
      · rename_i id off hx
        rw [hx] at hrep
        split at ho
        case h_2 => simp at ho
        rename_i cells hb
        simp only [Option.map_eq_some_iff] at ho
        obtain ⟨v, hv, rfl⟩ := ho
        obtain ⟨ha, he⟩ := hrep
        obtain ⟨cs, e, k1, k2, k3⟩ := hi.blk ha hb
        obtain ⟨u, hu, hr⟩ := readVar_run (P := P) k1 k3 hv
        exact ⟨u, by rw [he]; simp [asAddr, hu], hr⟩
      · rename_i cells off hx
        rw [hx] at hrep
        simp only [Option.map_eq_some_iff] at ho
        obtain ⟨v, hv, rfl⟩ := ho
        obtain ⟨u, hu, hr⟩ := sim_loadC (P := P) hi hrep hv
        obtain ⟨b, base, cs, e, fr, he, k1, k2⟩ := hrep
        refine ⟨u, ?_, hr⟩
        rw [he] at hu ⊢
        simpa [asAddr, Instr.loadAt, Instr.sureAddr] using hu
      · simp at ho
    obtain ⟨u, hu, hru⟩ := hload
    refine ⟨u :: us, ?_, Pw.cons_iff.2 ⟨hru, h2⟩, by simp [h3]⟩
    rw [List.mapM_cons, Sem.run_bind, hu]
    simp only [Result.andThen_ok, Sem.run_bind, h1, Sem.run_pure]

theorem readResults_run {g : G} {h : Heap} {w : World} (hi : Inv g (Heap.at h) w) {fn : Func} {tmps : TMap AV} {tm : Array Value} (hl : tmps.n = tm.size) (hp : Pw (Rep g) (tmps.toList .undef) tm.toList) {v : AV} (hr : readResults P fn tmps h = some v) :
    ∃ u, (results fn tm).run P w = .ok u w ∧ Rep g v u := by
  unfold readResults at hr
  have key : ∀ vs, readRes P tmps h fn.results.toList = some vs → ∃ us : List Value, (fn.results.mapM (fun r => match r with
      | .tmp t => pure (tm.getD t undef)
      | .cell a t => do loadVar t (← asAddr (tm.getD a undef))) : Sem (Array Value)).run P w = .ok us.toArray w ∧ Pw (Rep g) vs us ∧ vs.length = us.length := by
    intro vs hvs
    obtain ⟨us, h1, h2, h3⟩ := readRes_run (P := P) hi hl hp hvs
    refine ⟨us, ?_, h2, h3⟩
    rw [Array.mapM_eq_mapM_toList, Sem.run_map, h1]; rfl
  split at hr
  · rename_i v' hvs
    simp only [Option.some.injEq] at hr; subst hr
    obtain ⟨us, h1, h2, h3⟩ := key _ hvs
    match us, h3, h2, h1 with
    | [u], _, h2, h1 =>
      refine ⟨u, ?_, (Pw.cons_iff.1 h2).1⟩
      unfold results
      rw [Sem.run_bind]
      erw [h1]
      rfl
  · rename_i vs hne hvs
    simp only [Option.some.injEq] at hr; subst hr
    obtain ⟨us, h1, h2, h3⟩ := key _ hvs
    refine ⟨.tuple us.toArray, ?_, rep_mkTuple (by simpa using h2) (by simpa using h3)⟩
    unfold results
    rw [Sem.run_bind]
    erw [h1]
    have h1' : ¬ us.toArray.size = 1 := by
      intro hh
      rw [List.size_toArray, ← h3] at hh
      match vs, hh, hne with
      | [v], _, hne => exact hne v rfl
    simp only [Result.andThen_ok, h1', dif_neg, not_false_eq_true, Sem.run_pure]
  · simp at hr

theorem ok_defers_nil {mode : Option AV} {h : Heap} : DefersOk P [] mode h mode h := by
  intro g fr cs w hi hA hd hm
  have he : fr.defers = [] := by cases hx : fr.defers with | nil => rfl | cons a b => rw [hx] at hd; exact hd.elim
  refine ⟨g, fr.mode, w, ?_, hi, hA, hm, .refl _ _ _⟩
  have : ({ fr with defers := [], mode := fr.mode } : Frame) = fr := by rw [← he]
  rw [this]; exact .refl P _

theorem mode_not_run {g : G} {mode : Option AV} {m : FrameMode} (h : ModeRel g mode m) : m ≠ .run := by
  cases mode with
  | none => simp only [ModeRel] at h; subst h; simp
  | some v => obtain ⟨u, _, rfl⟩ := h; simp

theorem ModeRel.mono {g g' : G} (hle : g.le g') {mode : Option AV} {m : FrameMode} (h : ModeRel g mode m) : ModeRel g' mode m := by
  cases mode with
  | none => exact h
  | some v => obtain ⟨u, h1, h2⟩ := h; exact ⟨u, rep_mono hle _ _ h1, h2⟩

theorem stepG_unwind {fr : Frame} (h : fr.mode ≠ .run) (cs : List Frame) (w : World) :
    stepG P true { frame := fr, callers := cs, status := .running, dying := none } w = unwind P true fr cs none w := by
  unfold stepG
  cases hm : fr.mode with
  | run => exact absurd hm h
  | returning => simp
  | panicking c => simp

theorem ok_defers_coll {d : Nat} {ds : List ADef} {mode mode' : Option AV} {h h' : Heap} (hc : (Heap.at h) d = .coll true) (hrest : DefersOk P ds mode (h.set .dead d (.coll false)) mode' h') : DefersOk P (.coll d :: ds) mode h mode' h' := by
  intro g fr cs w hi hA hd hm
  cases hx : fr.defers with
  | nil => rw [hx] at hd; exact hd.elim
  | cons a fs =>
    rw [hx] at hd
    obtain ⟨⟨ha, as, rfl⟩, hd⟩ := hd
    have hlt : d < h.n := (hA d).1 ha
    have hblk := hi.block d ha
    rw [hc] at hblk
    have hblk : w.heap[(g.j d).blk]? = some (.deferred (some [])) := hblk
    have hbl : (g.j d).blk < w.heap.size := hi.lt ha (by rw [hc]; rfl)
    let w1 : World := { w with heap := w.heap.setIfInBounds (g.j d).blk (.deferred none) }
    obtain ⟨i1, e1⟩ := hi.write (b := .coll false) (o := .deferred none) (w' := w1) ha (by rw [hc]; rfl) ⟨rfl, rfl, rfl⟩ (by simp [w1]) (fun k hk => by simp [w1, Ne.symm hk]) (by simp [w1, hbl]) rfl
    rw [← heap_set hlt] at i1 e1
    have hrun : (Instr.takeDeferred (g.j d).blk).run P w = .ok [] w1 := by
      simp [Instr.takeDeferred, getObj, setObj, Sem.run, hblk, w1]
    have hstep : Steps P (lone fr cs w) (lone { fr with defers := fs } cs w1) := by
      refine step_go ?_
      rw [stepG_unwind (mode_not_run hm)]
      unfold unwind
      simp only [hx]
      simp [Sem.runT_eq, hrun]
    obtain ⟨g', m, w', k1, k2, k3, k4, k5⟩ := hrest g { fr with defers := fs } cs w1 i1 (fun i => by rw [TMap.set_n]; exact hA i) hd hm
    exact ⟨g', m, w', hstep.trans k1, k2, k3, k4, e1.trans k5⟩

theorem ok_defers_call {f : FuncId} {args : List AV} {ds : List ADef} {mode mode' : Option AV} {h h1 h' : Heap} {v : AV} {pan' : Pan}
    (hcall : CallOk P f args h (panOf mode) (.ret v) h1 pan') (hrest : DefersOk P ds (modeAfter mode pan') h1 mode' h') : DefersOk P (.call f args :: ds) mode h mode' h' := by
  intro g fr cs w hi hA hd hm
  cases hx : fr.defers with
  | nil => rw [hx] at hd; exact hd.elim
  | cons a fs =>
    rw [hx] at hd
    obtain ⟨⟨hc, as, bs, rfl, hl, hp⟩, hd⟩ := hd
    let fr0 : Frame := { fr with defers := fs }
    have hcs0 : CsRel g (panOf mode) .deferred (fr0 :: cs) (fr0 :: cs) := by
      cases mode with
      | none => exact ⟨rfl, .inr ⟨rfl, fr0, cs, rfl, hm⟩⟩
      | some v => obtain ⟨u, h1, h2⟩ := hm; exact ⟨rfl, rfl, fr0, cs, u, rfl, h2, h1⟩
    have hstep : Steps P (lone fr cs w) (lone (Frame.enter P f (as ++ bs) .deferred) (fr0 :: cs) w) := by
      refine step_go ?_
      rw [stepG_unwind (mode_not_run hm)]
      unfold unwind
      simp only [hx]
      unfold callDeferred
      have hr : (invoke (.fn (.func f) bs) as).run P w = .ok (.enter f (as ++ bs)) w := by simp [invoke, callFunc_run hc]
      simp [Sem.runT_eq, hr, fr0]
    obtain ⟨g1, fr', cs', w1, k1, k2, k3, k4, k5, k6, k7, k8, k9, m, fn, u, k10, k11, k12⟩ := hcall g .deferred (fr0 :: cs) (fr0 :: cs) w (as ++ bs) hi hA hl hp hcs0
    -- the callee returns
    have back : ∃ m', Steps P (lone fr' cs' w1) (lone { fr0 with mode := m' } cs w1) ∧ ModeRel g1 (modeAfter mode pan') m' := by
      have leave : ∀ (c : Frame), cs' = c :: cs → Steps P (lone fr' (c :: cs) w1) (lone (match c.mode with
          | .panicking ({ recovered := true, .. } :: older) => match older.dropWhile (!·.goexit) with
            | [] => { c with mode := .returning }
            | rest => { c with mode := .panicking rest }
          | _ => c) cs w1) := by
        intro c _
        refine step_go ?_
        rw [stepG_unwind (by rw [m]; simp)]
        unfold unwind
        simp only [k9, m, k6, k10]
        simp only [Sem.runT_eq, k11, GStep.bare_after]
        unfold doReturn
        simp only [k7]
        rfl
      cases pan' with
      | no =>
        obtain ⟨rfl, _⟩ := k4
        refine ⟨fr.mode, ?_, hm.mono k5.le⟩
        have := leave fr0 rfl
        have e : (match fr0.mode with
          | .panicking ({ recovered := true, .. } :: older) => match older.dropWhile (!·.goexit) with
            | [] => { fr0 with mode := .returning }
            | rest => { fr0 with mode := .panicking rest }
          | _ => fr0) = fr0 := by
          cases mode with
          | none => have : fr0.mode = .returning := hm; rw [this]
          | some v => obtain ⟨u', _, h2⟩ := hm; have : fr0.mode = .panicking [{ v := u', recovered := false }] := h2; rw [this]
        rw [e] at this
        exact this
      | live v' =>
        obtain ⟨_, rfl, _⟩ := k4
        refine ⟨fr.mode, ?_, hm.mono k5.le⟩
        have := leave fr0 rfl
        have e : (match fr0.mode with
          | .panicking ({ recovered := true, .. } :: older) => match older.dropWhile (!·.goexit) with
            | [] => { fr0 with mode := .returning }
            | rest => { fr0 with mode := .panicking rest }
          | _ => fr0) = fr0 := by
          cases mode with
          | none => have : fr0.mode = .returning := hm; rw [this]
          | some v => obtain ⟨u', _, h2⟩ := hm; have : fr0.mode = .panicking [{ v := u', recovered := false }] := h2; rw [this]
        rw [e] at this
        exact this
      | taken =>
        obtain ⟨_, c, r, u', he, hcm, rfl⟩ := k4
        simp only [List.cons.injEq] at he
        obtain ⟨rfl, rfl⟩ := he
        refine ⟨.returning, ?_, rfl⟩
        exact leave { fr0 with mode := .panicking [{ v := u', recovered := true }] } rfl
    obtain ⟨m', hb, hmr⟩ := back
    obtain ⟨g', m2, w', q1, q2, q3, q4, q5⟩ := hrest g1 { fr0 with mode := m' } cs w1 k2 k3 (hd.mono k5.le) hmr
    exact ⟨g', m2, w', hstep.trans (k1.trans (hb.trans q1)), q2, q3, q4, k5.trans q5⟩
end
end Go.Ag
/- The evaluator is right: whole functions; ranges over functions. -/
namespace Go.Ag
section
variable {P : Program}

theorem getD_mem_rep {_ : G} : True := trivial

/-- The frame at a function's start. -/
theorem enter_rel {g : G} {f : FuncId} {fn : Func} {body : Code} {args : List AV} {vs : Array Value} {h : Heap} {w : World} {pan : Pan} {kind : CallKind} (hf : P.funcs[f]? = some fn) (hb : fn.body = some body)
    (hi : Inv g (Heap.at h) w) (hA : ∀ i, g.A i ↔ i < h.n) (hl : args.length = vs.size) (hp : Pw (Rep g) args vs.toList) :
    StRel P g { tmps := TMap.init .undef args (fn.ntmps - args.length), defers := [], pan, round := none, h } (Frame.enter P f vs kind) w ∧ (Frame.enter P f vs kind).todo = [.code body] ∧ (Frame.enter P f vs kind).mode = .run := by
  have e : Frame.enter P f vs kind = { fn := f, tmps := vs ++ Array.replicate (fn.ntmps - vs.size) undef, todo := [.code body], defers := [], mode := .run, kind } := by
    simp [Frame.enter, hf, hb]
  rw [e]
  refine ⟨⟨hi, hA, by simp [hl], ?_, trivial, .inl ⟨rfl, rfl⟩⟩, rfl, rfl⟩
  simp only [Array.toList_append, Array.toList_replicate, TMap.toList_init]
  rw [hl]
  refine Pw.append hp ?_ (by simpa using hl)
  intro i a ha
  have : i < fn.ntmps - vs.size := by
    rcases Nat.lt_or_ge i (fn.ntmps - vs.size) with hh | hh
    · exact hh
    · rw [List.getElem?_eq_none (by simpa using hh)] at ha; cases ha
  rw [List.getElem?_replicate, if_pos this] at ha
  cases ha
  exact ⟨undef, by rw [List.getElem?_replicate, if_pos this], rfl⟩

theorem leave_run {fr : Frame} {cs : List Frame} {w : World} (hm : fr.mode = .run) (hr : fr.roundOf = none) (ht : fr.todo = [] ∨ ∃ k, fr.todo = .code .ret :: k) : Steps P (lone fr cs w) (lone { fr with mode := .returning } cs w) := by
  refine step_go ?_
  rw [stepG_run hm]
  rcases ht with ht | ⟨k, ht⟩
  · unfold stepG.exec
    simp [ht, hr]
  · unfold stepG.exec
    simp [ht, hr]

theorem ok_call {f : FuncId} {fn : Func} {body : Code} {args : List AV} {h : Heap} {pan : Pan} {s1 : ASt} {ex : AExit} {mode : Option AV} {mode' : Option AV} {h2 : Heap} (hf : P.funcs[f]? = some fn) (hb : fn.body = some body)
    (hbody : CodeOk P { tmps := TMap.init .undef args (fn.ntmps - args.length), defers := [], pan, round := none, h } (.code body) ex s1) (hmode : modeOf ex = some mode) (hdef : DefersOk P s1.defers mode s1.h mode' h2) :
    (∀ v, mode' = none → readResults P fn s1.tmps h2 = some v → CallOk P f args h pan (.ret v) h2 s1.pan) ∧ (∀ v, mode' = some v → CallOk P f args h pan (.panic v) h2 s1.pan) := by
  have go : ∀ (g : G) (kind : CallKind) (cs base : List Frame) (w : World) (vs : Array Value), Inv g (Heap.at h) w → (∀ i, g.A i ↔ i < h.n) → args.length = vs.size → Pw (Rep g) args vs.toList → CsRel g pan kind cs base →
      ∃ g' fr' cs' w' g1, Steps P (lone (Frame.enter P f vs kind) cs w) (lone fr' cs' w') ∧ Inv g' (Heap.at h2) w' ∧ (∀ i, g'.A i ↔ i < h2.n) ∧ CsRel g' s1.pan kind cs' base ∧ Evolves g (Heap.at h) w g' (Heap.at h2) w' ∧
        fr'.fn = f ∧ fr'.kind = kind ∧ fr'.roundOf = none ∧ fr'.defers = [] ∧ ModeRel g' mode' fr'.mode ∧ s1.tmps.n = fr'.tmps.size ∧ Pw (Rep g1) (s1.tmps.toList .undef) fr'.tmps.toList ∧ g1.le g' := by
    intro g kind cs base w vs hi hA hl hp hcs
    obtain ⟨e1, e2, e3⟩ := enter_rel (pan := pan) (kind := kind) hf hb hi hA hl hp
    have ek : (Frame.enter P f vs kind).kind = kind := rfl
    have ef : (Frame.enter P f vs kind).fn = f := rfl
    obtain ⟨g1, fr1, cs1, w1, G1⟩ := hbody g (Frame.enter P f vs kind) cs base w [] e1 (by rw [ek]; exact hcs) e2 e3
    have hround : fr1.roundOf = none := by
      rcases G1.st.round with h1 | ⟨id, h1, _⟩
      · exact h1.2
      · rw [G1.round] at h1; cases h1
    -- to the way out
    have out : ∃ m, Steps P (lone fr1 cs1 w1) (lone { fr1 with mode := m } cs1 w1) ∧ ModeRel g1 mode m := by
      have hl := G1.lands
      cases ex with
      | normal =>
        simp only [modeOf, Option.some.injEq] at hmode; subst hmode
        exact ⟨_, leave_run hl.1 hround (.inl hl.2), rfl⟩
      | ret =>
        simp only [modeOf, Option.some.injEq] at hmode; subst hmode
        exact ⟨_, leave_run hl.1 hround (.inr hl.2), rfl⟩
      | exit id => simp [modeOf] at hmode
      | panic v =>
        simp only [modeOf, Option.some.injEq] at hmode; subst hmode
        obtain ⟨u, hu, hm, _⟩ := hl
        refine ⟨fr1.mode, .refl P _, u, hu, hm⟩
    obtain ⟨m, hs, hmr⟩ := out
    obtain ⟨g2, m2, w2, k1, k2, k3, k4, k5⟩ := hdef g1 { fr1 with mode := m } cs1 w1 G1.st.inv G1.st.A G1.st.defers hmr
    exact ⟨g2, { fr1 with mode := m2, defers := [] }, cs1, w2, g1, G1.steps.trans (hs.trans k1), k2, k3, by rw [ek] at *; exact (G1.cs).mono k5.le, G1.ev.trans k5, G1.fn, G1.kind, hround, rfl, k4, G1.st.len, G1.st.tmps, k5.le⟩
  constructor
  · rintro v rfl hres g kind cs base w vs hi hA hl hp hcs
    obtain ⟨g', fr', cs', w', g1, k1, k2, k3, k4, k5, k6, k7, k8, k9, k10, k11, k12, k13⟩ := go g kind cs base w vs hi hA hl hp hcs
    obtain ⟨u, h1, h2⟩ := readResults_run (P := P) k2 k11 (pw_mono k13 k12) hres
    exact ⟨g', fr', cs', w', k1, k2, k3, k4, k5, k6, k7, k8, k9, k10, fn, u, hf, h1, h2⟩
  · rintro v rfl g kind cs base w vs hi hA hl hp hcs
    obtain ⟨g', fr', cs', w', g1, k1, k2, k3, k4, k5, k6, k7, k8, k9, k10, _⟩ := go g kind cs base w vs hi hA hl hp hcs
    exact ⟨g', fr', cs', w', k1, k2, k3, k4, k5, k6, k7, k8, k9, ⟨fn, hf⟩, k10⟩

/-- What is known of a loop over a function. -/
theorem loop_block {g : G} {H : Nat → AB} {w : World} (hi : Inv g H w) {id : Nat} (ha : g.A id) {fn : FuncId} {tmps : TMap AV} {params : List Tmp} {assign body : Code} {st : LoopState} {pending : Option Code} {coll : Nat}
    (hb : H id = .loop fn tmps params assign body st pending coll) :
    ∃ fn' tm, w.heap[(g.j id).blk]? = some (.loop { state := st, pending, fn := fn', tmps := tm, params := params.toArray, assign, body, defers := (g.j coll).blk }) ∧ tmps.n = tm.size ∧ Pw (Rep g) (tmps.toList .undef) tm.toList ∧ g.A coll := by
  have := hi.block id ha; rw [hb] at this; exact this

/-- The loop's state is turned. -/
theorem loop_set {g : G} {h : Heap} {w : World} (hi : Inv g (Heap.at h) w) (hA : ∀ i, g.A i ↔ i < h.n) {id : Nat} (ha : g.A id) {fn : FuncId} {tmps : TMap AV} {params : List Tmp} {assign body : Code} {st st' : LoopState} {pending pending' : Option Code} {coll : Nat}
    (hb : (Heap.at h) id = .loop fn tmps params assign body st pending coll) {fn' : FuncId} {tm : Array Value} (hh : w.heap[(g.j id).blk]? = some (.loop { state := st, pending, fn := fn', tmps := tm, params := params.toArray, assign, body, defers := (g.j coll).blk }))
    (hl : tmps.n = tm.size) (hp : Pw (Rep g) (tmps.toList .undef) tm.toList) (hcoll : g.A coll) :
    ∃ w', (setObj (g.j id).blk (.loop { state := st', pending := pending', fn := fn', tmps := tm, params := params.toArray, assign, body, defers := (g.j coll).blk })).run P w = .ok () w' ∧
      Inv g (Heap.at (h.set .dead id (.loop fn tmps params assign body st' pending' coll))) w' ∧ Evolves g (Heap.at h) w g (Heap.at (h.set .dead id (.loop fn tmps params assign body st' pending' coll))) w' := by
  have hlt : (g.j id).blk < w.heap.size := hi.lt ha (by rw [hb]; rfl)
  refine ⟨{ w with heap := w.heap.setIfInBounds (g.j id).blk (.loop { state := st', pending := pending', fn := fn', tmps := tm, params := params.toArray, assign, body, defers := (g.j coll).blk }) }, setObj_run hh (by intro _ _ _ h; cases h), ?_⟩
  rw [heap_set ((hA id).1 ha)]
  exact hi.write ha (by rw [hb]; rfl) ⟨rfl, rfl, rfl⟩ (by simp) (fun k hk => by simp [Ne.symm hk]) (by simp [hlt]) ⟨fn', tm, rfl, hl, hp, hcoll⟩

theorem params_rep {g : G} : ∀ (ps : List Tmp) (as : List AV) (vs : List Value), as.length = vs.length → Pw (Rep g) as vs → ∀ (tmps : TMap AV) (tm : Array Value), tmps.n = tm.size → Pw (Rep g) (tmps.toList .undef) tm.toList →
    ((ps.zip as).foldl (fun l (x : Tmp × AV) => l.set .undef x.1 x.2) tmps).n = ((ps.zip vs).foldl (fun l (x : Tmp × Value) => l.setIfInBounds x.1 x.2) tm).size ∧
      Pw (Rep g) (((ps.zip as).foldl (fun l (x : Tmp × AV) => l.set .undef x.1 x.2) tmps).toList .undef) ((ps.zip vs).foldl (fun l (x : Tmp × Value) => l.setIfInBounds x.1 x.2) tm).toList
  | [], _, _, _, _, tmps, tm, h1, h2 => by simpa using ⟨h1, h2⟩
  | _ :: _, [], [], _, _, tmps, tm, h1, h2 => by simpa using ⟨h1, h2⟩
  | _ :: _, [], _ :: _, hl, _, _, _, _, _ => by simp at hl
  | _ :: _, _ :: _, [], hl, _, _, _, _, _ => by simp at hl
  | p :: ps, a :: as, v :: vs, hl, hp, tmps, tm, h1, h2 => by
    obtain ⟨r0, r1⟩ := Pw.cons_iff.1 hp
    simp only [List.zip_cons_cons, List.foldl_cons]
    exact params_rep ps as vs (by simpa using hl) r1 (tmps.set .undef p a) (tm.setIfInBounds p v) (by simpa using h1) (by rw [Array.toList_setIfInBounds, TMap.toList_set]; exact h2.set p r0)

theorem normal_cs {g : G} {pan : Pan} {cs base : List Frame} (h : CsRel g pan .normal cs base) : cs = base := by
  cases pan with
  | no => exact h.1
  | live v => exact absurd h.1 (by simp)
  | taken => exact absurd h.1 (by simp)

theorem ok_yield {ops : Array Oper} {i : Nat} {rest : List Nat} {o : Oper} (ho : ops[i]? = some o) {s : ASt} (hw : wantedA ops o s = some true) {id : Nat} {args : List AV} (ha : aop P o s.eval (Heap.at s.h) s.h.n = some (.yield id args))
    {fn : FuncId} {tmps : TMap AV} {params : List Tmp} {assign body : Code} {pending : Option Code} {coll : Nat} (hb : (Heap.at s.h) id = .loop fn tmps params assign body .ready pending coll) (hlen : args.length = params.length)
    {s1 s2 : ASt} {e : AExit} {fn1 : FuncId} {tm1 : TMap AV} {p1 : List Tmp} {a1 b1 : Code} {pe1 : Option Code} {c1 : Nat}
    (hassign : CodeOk P { tmps := (params.zip args).foldl (fun l (x : Tmp × AV) => l.set .undef x.1 x.2) tmps, defers := [], pan := .no, round := some id, h := s.h } (.code assign) .normal s1)
    (hb1 : (Heap.at s1.h) id = .loop fn1 tm1 p1 a1 b1 .ready pe1 c1)
    (hbody : CodeOk P { s1 with h := s1.h.set .dead id (.loop fn1 tm1 p1 a1 b1 .busy pe1 c1) } (.code body) e s2) (hd2 : s2.defers = []) :
    (∀ v, e = .panic v → CodeOk P s (.inRegion ops (i :: rest)) (.panic v) { s with h := s2.h }) ∧
    (∀ (fn2 : FuncId) tm2 p2 a2 b2 st2 pe2 c2 s' ex, (∀ v, e ≠ .panic v) → (Heap.at s2.h) id = .loop fn2 tm2 p2 a2 b2 st2 pe2 c2 →
      CodeOk P ({ s with h := s2.h.set .dead id (.loop fn2 tm2 p2 a2 b2 (if (jumpOf e).isNone then .ready else .done) (jumpOf e) c2) }.put o.dst (.bool (jumpOf e).isNone)) (.inRegion ops rest) ex s' → CodeOk P s (.inRegion ops (i :: rest)) ex s') := by
  -- to the end of the round's body
  have go : ∀ (g : G) (fr : Frame) (cs : List Frame) (w : World) (k : List Item), StRel P g s fr w → fr.todo = .inRegion ops (i :: rest) :: k → fr.mode = .run →
      ∃ g2 fr2 w2, Steps P (lone fr cs w) (lone fr2 (fr :: cs) w2) ∧ StRel P g2 s2 fr2 w2 ∧ Evolves g (Heap.at s.h) w g2 (Heap.at s2.h) w2 ∧ Lands P g2 e [] fr2 ∧ fr2.kind = .normal ∧ fr2.roundOf = some (g2.j id).blk ∧ g2.A id := by
    intro g fr cs w k hst ht hm
    have hsim := aop_sim (P := P) (w := w) hst.inv (σ := fr.eval) hst.eval (fresh := s.h.n) (fun h => absurd ((hst.A _).1 h) (Nat.lt_irrefl _)) ha
    obtain ⟨haA, vs, hres, hl, hp⟩ := hsim
    obtain ⟨fn', tm, hh, l1, l2, l3⟩ := loop_block hst.inv haA hb
    have hget : ∀ (w : World) (b : Nat) (L : Loop), w.heap[b]? = some (.loop L) → (Instr.getLoop b).run P w = .ok L w := fun w b L h => by simp [Instr.getLoop, getObj, Sem.run, h, bind, Sem.bind, pure]
    have hzip : (params.toArray.zip vs).foldl (fun tmps (x : Tmp × Value) => tmps.setIfInBounds x.1 x.2) tm = (params.zip vs.toList).foldl (fun l (x : Tmp × Value) => l.setIfInBounds x.1 x.2) tm := by
      rw [← Array.foldl_toList, Array.toList_zip]
    have hrun : (Instr.yield (g.j id).blk vs).run P w = .ok (.round (g.j id).blk fn' ((params.zip vs.toList).foldl (fun l (x : Tmp × Value) => l.setIfInBounds x.1 x.2) tm) assign body) w := by
      have hsz : ¬ (vs.size ≠ params.length) := by rw [← hlen, hl]; simp
      simp only [Instr.yield, Sem.run_bind, hget _ _ _ hh, Result.andThen_ok, List.size_toArray, hsz, if_false, Sem.run_pure, ← hzip]
    rw [hrun] at hres
    have hnd : fr.roundOf = none ∨ ∀ c, o.op ≠ .defer c := .inr (fun c hc => by obtain ⟨_, _, hh⟩ := aop_defer hc ha; cases hh)
    let R : Frame := Frame.round (g.j id).blk fn' ((params.zip vs.toList).foldl (fun l (x : Tmp × Value) => l.setIfInBounds x.1 x.2) tm) assign body .normal
    have step1 : Steps P (lone fr cs w) (lone R (fr :: cs) w) := by
      refine step_go ?_
      rw [op_do hm ht ho (wanted_spec hst hw) hnd]
      exact apply_round hres
    obtain ⟨q1, q2⟩ := params_rep (g := g) params args vs.toList (by simpa using hl) hp tmps tm l1 l2
    have hstR : StRel P g { tmps := (params.zip args).foldl (fun l (x : Tmp × AV) => l.set .undef x.1 x.2) tmps, defers := [], pan := .no, round := some id, h := s.h } R w := ⟨hst.inv, hst.A, q1, q2, trivial, .inr ⟨id, rfl, haA, rfl⟩⟩
    obtain ⟨g1, fr1, cs1, w1, G1⟩ := hassign g R (fr :: cs) (fr :: cs) w [.beginRound, .code body] hstR ⟨rfl, .inl rfl⟩ rfl rfl
    have hcs1 : cs1 = fr :: cs := normal_cs G1.cs
    subst hcs1
    obtain ⟨m1, t1⟩ := G1.lands
    have hA1 : g1.A id := G1.ev.le.A _ haA
    have hr1 : fr1.roundOf = some (g1.j id).blk := by
      rcases G1.st.round with h1 | ⟨id', h1, h2, h3⟩
      · rw [G1.round] at h1; exact absurd h1.1 (by simp)
      · rw [G1.round] at h1; simp only [Option.some.injEq] at h1; subst h1; exact h3
    -- the round begins
    obtain ⟨fn1', tm1', hh1, n1, n2, n3⟩ := loop_block G1.st.inv hA1 hb1
    obtain ⟨w1', u1, u2, u3⟩ := loop_set (P := P) (st' := .busy) (pending' := pe1) G1.st.inv G1.st.A hA1 hb1 hh1 n1 n2 n3
    have hbegin : (do fr1.roundOf.elim (stuck "beginRound: no round") Instr.beginRound; pure .skip : Sem Next).run P w1 = .ok .skip w1' := by
      rw [hr1]
      simp only [Option.elim_some, Instr.beginRound, Sem.run_bind, hget _ _ _ hh1, Result.andThen_ok]
      rw [u1]
      rfl
    have step2 : Steps P (lone fr1 (fr :: cs) w1) (lone { fr1 with todo := [.code body] } (fr :: cs) w1') := by
      refine step_go ?_
      rw [stepG_run m1]
      unfold stepG.exec
      simp only [t1]
      rw [apply_skip hbegin]
      simp [Frame.finish, t1]
    have hst2 : StRel P g1 { s1 with h := s1.h.set .dead id (.loop fn1 tm1 p1 a1 b1 .busy pe1 c1) } { fr1 with todo := [.code body] } w1' :=
      ⟨u2, fun i => by rw [TMap.set_n]; exact G1.st.A i, G1.st.len, G1.st.tmps, G1.st.defers, G1.st.round⟩
    obtain ⟨g2, fr2, cs2, w2, G2⟩ := hbody g1 { fr1 with todo := [.code body] } (fr :: cs) (fr :: cs) w1' [] hst2 (by show CsRel g1 s1.pan fr1.kind (fr :: cs) (fr :: cs); rw [G1.kind]; exact G1.cs) rfl m1
    have hk1 : fr1.kind = .normal := G1.kind
    have hcs2 : cs2 = fr :: cs := by have := G2.cs; exact normal_cs (by rw [← hk1]; exact this)
    subst hcs2
    have hA2 : g2.A id := G2.ev.le.A _ hA1
    refine ⟨g2, fr2, w2, step1.trans (G1.steps.trans (step2.trans G2.steps)), G2.st, (G1.ev.trans u3).trans G2.ev, G2.lands, G2.kind.trans hk1, ?_, hA2⟩
    rcases G2.st.round with h1 | ⟨id', h1, h2, h3⟩
    · rw [G2.round] at h1
      have := G1.round
      simp only at h1 this
      rw [this] at h1; exact absurd h1.1 (by simp)
    · rw [G2.round] at h1
      have := G1.round
      simp only at h1 this
      rw [this] at h1; simp only [Option.some.injEq] at h1; subst h1; exact h3
  constructor
  · rintro v rfl g fr cs base w k hst hcs ht hm
    obtain ⟨g2, fr2, w2, k1, k2, k3, k4, k5, k6, k7⟩ := go g fr cs w k hst ht hm
    obtain ⟨u, hu, hmode, hcatch⟩ := k4
    have hd : fr2.defers = [] := by
      have := k2.defers; rw [hd2] at this
      cases hx : fr2.defers with
      | nil => rfl
      | cons a b => rw [hx] at this; exact this.elim
    have hstep : Steps P (lone fr2 (fr :: cs) w2) (lone (fr.raise [{ v := u, recovered := false }]) cs w2) := by
      refine step_go ?_
      rw [stepG_unwind (by rw [hmode]; simp)]
      unfold unwind
      simp [hd, hmode, hcatch]
    exact ⟨g2, _, cs, w2, raise_goal hst hcs hm ht (by simp) (k1.trans hstep) hu ⟨s2.h, rfl⟩ k2.inv k2.A k3⟩
  · intro fn2 tm2 p2 a2 b2 st2 pe2 c2 s' ex hne hb2 hrest g fr cs base w k hst hcs ht hm
    obtain ⟨g2, fr2, w2, k1, k2, k3, k4, k5, k6, k7⟩ := go g fr cs w k hst ht hm
    obtain ⟨fn2', tm2', hh2, n1, n2, n3⟩ := loop_block k2.inv k7 hb2
    have hget : ∀ (w : World) (b : Nat) (L : Loop), w.heap[b]? = some (.loop L) → (Instr.getLoop b).run P w = .ok L w := fun w b L h => by simp [Instr.getLoop, getObj, Sem.run, h, bind, Sem.bind, pure]
    obtain ⟨w3, u1, u2, u3⟩ := loop_set (P := P) (st' := if (jumpOf e).isNone then .ready else .done) (pending' := jumpOf e) k2.inv k2.A k7 hb2 hh2 n1 n2 n3
    have hend : (Instr.endRound (g2.j id).blk (jumpOf e)).run P w2 = .ok (.bool (jumpOf e).isNone) w3 := by
      simp only [Instr.endRound, Sem.run_bind, hget _ _ _ hh2, Result.andThen_ok, u1, Sem.run_pure]
    have hback : Steps P (lone fr2 (fr :: cs) w2) (lone (fr.finish (.bool (jumpOf e).isNone)) cs w3) := by
      refine step_go ?_
      have hmode : fr2.mode = .run := by cases e <;> first | exact k4.1 | exact absurd rfl (hne _)
      rw [stepG_run hmode]
      have dr : ∀ w', doReturn P true fr2 (fr :: cs) none (.bool (jumpOf e).isNone) w' = .go { frame := fr.finish (.bool (jumpOf e).isNone), callers := cs, status := .running, dying := none } w' := by
        intro w'; unfold doReturn; simp [k5]
      unfold stepG.exec
      cases e with
      | normal =>
        obtain ⟨_, t⟩ := k4
        simp only [t, k6]
        have he : (Instr.endRound (g2.j id).blk none).run P w2 = .ok (.bool (jumpOf .normal).isNone) w3 := hend
        simp only [Sem.runT_eq, he, GStep.bare_after]
        rw [dr]; rfl
      | exit j =>
        obtain ⟨_, k0, t, hx⟩ := k4
        have hx : exitTo j k0 = none := by rw [hx]; rfl
        simp only [t, k6, hx]
        have he : (Instr.endRound (g2.j id).blk (some (.exit j))).run P w2 = .ok (.bool (jumpOf (.exit j)).isNone) w3 := hend
        simp only [Option.elim_none, Sem.runT_eq, he, GStep.bare_after]
        rw [dr]; rfl
      | ret =>
        obtain ⟨_, k0, t⟩ := k4
        simp only [t, k6]
        have he : (Instr.endRound (g2.j id).blk (some .ret)).run P w2 = .ok (.bool (jumpOf .ret).isNone) w3 := hend
        simp only [Sem.runT_eq, he, GStep.bare_after]
        rw [dr]; rfl
      | panic v => exact absurd rfl (hne v)
    have hev := k3.trans u3
    obtain ⟨h1, h2, h3, h4, h5, h6, h7, h8⟩ := hst.finish hev.le ht ho (a := .bool (jumpOf e).isNone) (v := .bool (jumpOf e).isNone) rfl u2 (fun i => by rw [TMap.set_n]; exact k2.A i)
    exact ops_step ho hrest hst ht hm (k1.trans hback) h1 (by rw [h6]; exact hcs.mono hev.le) (by rw [h8]; exact hev) h7 h2 h3 h4 h5
end
end Go.Ag
/- The evaluator is right: a range over a function; and so all of it. -/
namespace Go.Ag
section
variable {P : Program}

theorem ok_range {f : Operand} {params : Array Tmp} {assign body : Code} {s : ASt} (hround : s.round = none) {k' : FuncId} {args : List AV} (htarget : targetOf P (s.eval f) [.yield (s.h.n + 1)] = some (k', args))
    {e : AEnd} {h2 : Heap} {pan' : Pan} (hcall : CallOk P k' args (rangeStart s params assign body).h .no e h2 pan') :
    (∀ v, e = .panic v → CodeOk P s (.code (.rangeFunc f params assign body)) (.panic v) { rangeStart s params assign body with h := h2 }) ∧
    (∀ v fn tmps ps a b st pending coll, e = .ret v → (Heap.at h2) (s.h.n + 1) = .loop fn tmps ps a b st pending coll → st ≠ .busy →
      (pending = none → CodeOk P s (.code (.rangeFunc f params assign body)) .normal { rangeStart s params assign body with h := h2.set .dead (s.h.n + 1) (.loop fn tmps ps a b .exhausted pending coll) }) ∧
      (∀ c s' ex, pending = some c → CodeOk P { rangeStart s params assign body with h := h2.set .dead (s.h.n + 1) (.loop fn tmps ps a b .exhausted pending coll) } (.code c) ex s' → CodeOk P s (.code (.rangeFunc f params assign body)) ex s')) := by
  have go : ∀ (g : G) (fr : Frame) (cs : List Frame) (w : World) (k : List Item), StRel P g s fr w → fr.todo = .code (.rangeFunc f params assign body) :: k → fr.mode = .run →
      ∃ l mark g2 fr2 w2, Steps P (lone fr cs w) (lone fr2 ({ fr with todo := .inRangeFunc l :: k, defers := mark ++ fr.defers } :: cs) w2) ∧ Inv g2 (Heap.at h2) w2 ∧ (∀ i, g2.A i ↔ i < h2.n) ∧ Evolves g (Heap.at s.h) w g2 (Heap.at h2) w2 ∧
        fr2.fn = k' ∧ fr2.kind = .normal ∧ fr2.defers = [] ∧ EndOk P g2 k' fr2 w2 e ∧ g2.A (s.h.n + 1) ∧ l = (g2.j (s.h.n + 1)).blk ∧ DefRel P g2 (rangeStart s params assign body).defers (mark ++ fr.defers) := by
    intro g fr cs w k hst ht hm
    have hr0 : fr.roundOf = none := by
      rcases hst.round with h1 | ⟨id, h1, _⟩
      · exact h1.2
      · rw [hround] at h1; cases h1
    let d := s.h.n
    have hnd : ¬ g.A d := fun h => absurd ((hst.A _).1 h) (Nat.lt_irrefl _)
    -- the two new blocks
    obtain ⟨i1, e1⟩ := hst.inv.fresh hnd (b := .coll true) (o := .deferred (some [])) (size := 0) (w' := { w with heap := w.heap.push (.deferred (some [])) }) ⟨rfl, rfl, rfl⟩ rfl rfl
    let g1 := g.add d ⟨w.heap.size, 0, 0⟩
    let w1 : World := { w with heap := w.heap.push (.deferred (some [])) }
    have hnd1 : ¬ g1.A (d + 1) := by
      intro h
      rcases h with h | h
      · have := (hst.A _).1 h; simp only [d] at this; omega
      · omega
    let L : Loop := { state := .ready, pending := none, fn := fr.fn, tmps := fr.tmps, params, assign, body, defers := w.heap.size }
    have hw1 : w1.heap.size = w.heap.size + 1 := by simp [w1]
    let g2 := g1.add (d + 1) ⟨w1.heap.size, 0, 0⟩
    have le2 : g1.le g2 := g1.le_add _ hnd1
    have hjd : (g2.j d).blk = w.heap.size := by
      have : g2.j d = g1.j d := le2.j d (.inr rfl)
      rw [this]; simp [g1, G.add]
    have hrb : RepB g2 (.loop 0 s.tmps params.toList assign body .ready none d) ⟨w1.heap.size, 0, 0⟩ (some (.loop L)) := by
      refine ⟨fr.fn, fr.tmps, ?_, hst.len, pw_mono (e1.le.trans le2) hst.tmps, le2.A d (.inr rfl)⟩
      rw [hjd]
    obtain ⟨i2, e2⟩ := i1.fresh hnd1 (b := .loop 0 s.tmps params.toList assign body .ready none d) (o := .loop L) (size := 0) (w' := { w1 with heap := w1.heap.push (.loop L) }) ⟨rfl, rfl, rfl⟩ rfl hrb
    let w2 : World := { w1 with heap := w1.heap.push (.loop L) }
    have hH : Heap.at (rangeStart s params assign body).h = upd1 (upd1 (Heap.at s.h) d (.coll true)) (d + 1) (.loop 0 s.tmps params.toList assign body .ready none d) := by
      funext i
      show Heap.at (s.h.app .dead _) i = _
      rw [heap_at_append]
      unfold upd1
      by_cases h1 : i = d + 1
      · have a1 : ¬ i < s.h.n := by simp only [d] at h1; omega
        have a2 : i - s.h.n = 1 := by simp only [d] at h1; omega
        rw [if_neg a1, if_pos h1, a2]; rfl
      · by_cases h2 : i = d
        · have a1 : ¬ i < s.h.n := by simp only [d] at h2; omega
          have a2 : i - s.h.n = 0 := by simp only [d] at h2; omega
          rw [if_neg a1, if_neg h1, if_pos h2, a2]; rfl
        · simp only [h1, h2, if_false]
          split
          · rfl
          · rename_i hge
            rw [heap_at_ge (by omega), List.getD_eq_getElem?_getD, List.getElem?_eq_none (by simp; simp only [d] at h1 h2; omega)]
            rfl
    rw [← hH] at i2 e2
    have hA2 : ∀ i, g2.A i ↔ i < (rangeStart s params assign body).h.n := by
      intro i
      have : (rangeStart s params assign body).h.n = s.h.n + 2 := by simp [rangeStart, app_n]
      rw [this]
      show ((g.A i ∨ i = d) ∨ i = d + 1) ↔ _
      rw [hst.A]
      simp only [d]; omega
    have le : g.le g2 := e1.le.trans le2
    have hfr := rep_mono le _ _ (hst.eval f)
    have hyr : Rep g2 (.yield (d + 1)) (.func (.yield w1.heap.size) #[] #[]) := ⟨.inr rfl, by simp [g2, G.add]⟩
    obtain ⟨hc, first, captured, hfv, t1, t2⟩ := targetOf_run (vs := #[.func (.yield w1.heap.size) #[] #[]]) hfr (Pw.cons_iff.2 ⟨hyr, Pw.nil _⟩) rfl htarget
    let fr1 : Frame := { fr with todo := .inRangeFunc w1.heap.size :: k, defers := [{ target := .collected w.heap.size, args := #[] }] ++ fr.defers }
    have henter : (Instr.enterLoop fr.fn fr.tmps params assign body fr.roundOf).run P w = .ok (w1.heap.size, [{ target := .collected w.heap.size, args := #[] }]) w2 := by
      rw [hr0]
      simp [Instr.enterLoop, w1, w2, L]
    have hinv : (do let d ← resolve fr1.eval { callee := .value f, args := #[.const (.func (.yield w1.heap.size) #[] #[])], argTypes := #[] } 0; invoke d.target d.args : Sem Next).run P w2 =
        .ok (.enter k' (first ++ #[.func (.yield w1.heap.size) #[] #[]] ++ captured)) w2 := by
      have he : fr1.eval f = .func (.func k') first captured := by rw [← hfv]; cases f <;> rfl
      have hk : ∀ v, fr1.eval (.const v) = v := fun _ => rfl
      simp [resolve, he, hk, Deferred.ofValue, invoke, callFunc_run hc]
    have step1 : Steps P (lone fr cs w) (lone (Frame.enter P k' (first ++ #[.func (.yield w1.heap.size) #[] #[]] ++ captured) .normal) (fr1 :: cs) w2) := by
      refine step_go ?_
      rw [stepG_run hm]
      unfold stepG.exec
      simp only [ht, Sem.runT_eq, henter, GStep.bare_after]
      exact apply_enter (fr := fr1) (by intro _ _ _ _ _ hh; simp [fr1] at hh) hinv
    obtain ⟨g3, fr3, cs3, w3, k1, k2, k3, k4, k5, k6, k7, k8, k9, k10⟩ := hcall g2 .normal (fr1 :: cs) (fr1 :: cs) w2 _ i2 hA2 t1 t2 ⟨rfl, .inl rfl⟩
    have hcs3 : cs3 = fr1 :: cs := normal_cs k4
    subst hcs3
    have hev : Evolves g (Heap.at s.h) w g3 (Heap.at h2) w3 := (e1.trans e2).trans k5
    refine ⟨w1.heap.size, [{ target := .collected w.heap.size, args := #[] }], g3, fr3, w3, step1.trans k1, k2, k3, hev, k6, k7, k9, k10, k5.le.A _ (.inr rfl), ?_, ?_⟩
    · rw [k5.le.j _ (.inr rfl)]; simp [g2, G.add]
    · refine DefRel.mono k5.le (g := g2) ⟨⟨.inl (.inr rfl), #[], by rw [show (g2.j s.h.n).blk = w.heap.size from hjd]⟩, hst.defers.mono le⟩
  constructor
  · rintro v rfl g fr cs base w k hst hcs ht hm
    obtain ⟨l, mark, g2, fr2, w2, k1, k2, k3, k4, k5, k6, k7, k8, k9, k10, k11⟩ := go g fr cs w k hst ht hm
    obtain ⟨u, hu, hs⟩ := leave_panic (fr := { fr with todo := .inRangeFunc l :: k, defers := mark ++ fr.defers }) (cs := cs) k8 k5 k7
    have hraise : ({ fr with todo := .inRangeFunc l :: k, defers := mark ++ fr.defers } : Frame).raise [{ v := u, recovered := false }] = { fr with todo := .inRangeFunc l :: k, defers := mark ++ fr.defers, mode := .panicking [{ v := u, recovered := false }] } := by
      simp [Frame.raise, hm]
    rw [hraise] at hs
    refine ⟨g2, _, cs, w2, k1.trans hs, ⟨k2, k3, hst.len, pw_mono k4.le hst.tmps, k11, ?_⟩, hcs.mono k4.le, rfl, rfl, ⟨u, hu, rfl, ?_⟩, k4, rfl⟩
    · rcases hst.round with h1 | ⟨id, h1, _⟩
      · exact .inl h1
      · rw [hround] at h1; cases h1
    · unfold Frame.catches
      simp only
      cases P.funcs[fr.fn]? <;> rfl
  · rintro v fn tmps ps a b st pending coll rfl hb hbusy
    have fin : ∀ (g : G) (fr : Frame) (cs base : List Frame) (w : World) (k : List Item), StRel P g s fr w → CsRel g s.pan fr.kind cs base → fr.todo = .code (.rangeFunc f params assign body) :: k → fr.mode = .run →
        ∃ g2 fr2 w2, Steps P (lone fr cs w) (lone fr2 cs w2) ∧ StRel P g2 { rangeStart s params assign body with h := h2.set .dead (s.h.n + 1) (.loop fn tmps ps a b .exhausted pending coll) } fr2 w2 ∧ CsRel g2 s.pan fr.kind cs base ∧
          fr2.fn = fr.fn ∧ fr2.kind = fr.kind ∧ fr2.mode = .run ∧ fr2.todo = (pending.map Item.code).toList ++ k ∧ Evolves g (Heap.at s.h) w g2 (Heap.at (h2.set .dead (s.h.n + 1) (.loop fn tmps ps a b .exhausted pending coll))) w2 := by
      intro g fr cs base w k hst hcs ht hm
      obtain ⟨l, mark, g2, fr2, w2, k1, k2, k3, k4, k5, k6, k7, k8, k9, k10, k11⟩ := go g fr cs w k hst ht hm
      obtain ⟨u, hu, hs⟩ := leave_ret (fr := { fr with todo := .inRangeFunc l :: k, defers := mark ++ fr.defers }) (cs := cs) k8 k5 k6 k7
      have hfin : ({ fr with todo := .inRangeFunc l :: k, defers := mark ++ fr.defers } : Frame).finish u = { fr with todo := .endRangeFunc l :: k, defers := mark ++ fr.defers } := rfl
      rw [hfin] at hs
      obtain ⟨fn', tm, hh, n1, n2, n3⟩ := loop_block k2 k9 hb
      obtain ⟨w3, u1, u2, u3⟩ := loop_set (P := P) (st' := .exhausted) (pending' := pending) k2 k3 k9 hb hh n1 n2 n3
      have hget : (Instr.getLoop l).run P w2 = .ok { state := st, pending, fn := fn', tmps := tm, params := ps.toArray, assign := a, body := b, defers := (g2.j coll).blk } w2 := by
        rw [k10]; simp [Instr.getLoop, getObj, Sem.run, hh, bind, Sem.bind, pure]
      have hend : (Instr.endLoop l).run P w2 = .ok pending w3 := by
        have hne : (st == .busy) = false := by cases st <;> first | rfl | exact absurd rfl hbusy
        rw [← k10] at u1
        simp only [Instr.endLoop, Sem.run_bind, hget, Result.andThen_ok, hne, Bool.false_eq_true, if_false, Sem.run_pure, u1]
      have hs2 : Steps P (lone { fr with todo := .endRangeFunc l :: k, defers := mark ++ fr.defers } cs w2) (lone { fr with todo := (pending.map Item.code).toList ++ k, defers := mark ++ fr.defers } cs w3) := by
        refine step_go ?_
        rw [stepG_run (fr := { fr with todo := .endRangeFunc l :: k, defers := mark ++ fr.defers }) hm]
        unfold stepG.exec
        simp only [Sem.runT_eq, hend, GStep.bare_after]
        rfl
      refine ⟨g2, { fr with todo := (pending.map Item.code).toList ++ k, defers := mark ++ fr.defers }, w3, k1.trans (hs.trans hs2), ⟨u2, fun i => by rw [TMap.set_n]; exact k3 i, hst.len, pw_mono k4.le hst.tmps, k11, ?_⟩, hcs.mono k4.le, rfl, rfl, hm, rfl, k4.trans u3⟩
      rcases hst.round with h1 | ⟨id, h1, _⟩
      · exact .inl h1
      · rw [hround] at h1; cases h1
    constructor
    · rintro rfl g fr cs base w k hst hcs ht hm
      obtain ⟨g2, fr2, w2, q1, q2, q3, q4, q5, q6, q7, q8⟩ := fin g fr cs base w k hst hcs ht hm
      exact ⟨g2, fr2, cs, w2, q1, q2, q3, q4, q5, ⟨q6, by simpa using q7⟩, q8, rfl⟩
    · rintro c s' ex rfl hrest g fr cs base w k hst hcs ht hm
      obtain ⟨g2, fr2, w2, q1, q2, q3, q4, q5, q6, q7, q8⟩ := fin g fr cs base w k hst hcs ht hm
      obtain ⟨g3, fr3, cs3, w3, G3⟩ := hrest g2 fr2 cs base w2 k q2 (by rw [q5]; exact q3) (by simpa using q7) q6
      exact ⟨g3, fr3, cs3, w3, q1.trans G3.steps, G3.st, by rw [← q5]; exact G3.cs, G3.fn.trans q4, G3.kind.trans q5, G3.lands, q8.trans G3.ev, G3.round⟩
end
end Go.Ag
/- THE EVALUATOR IS RIGHT. -/
namespace Go.Ag
section
variable {C : Cfg} {rec : Task → Option Res}

/-- What a contract says is so. -/
def ConOk (C : Cfg) : Prop := ∀ f args e, C.con f args = some e → CallOk C.P f (args.map .c) TMap.nil .no e TMap.nil .no

theorem pureRes_ok (hcon : ConOk C) (hrec : ∀ t r, rec t = some r → Sound C.P t r) {f : FuncId} {args : List CV} {e : AEnd} {h : Heap} (hr : pureRes C rec f args = some (e, h)) : ∃ pan, CallOk C.P f (args.map .c) TMap.nil .no e h pan := by
  unfold pureRes at hr
  split at hr
  · rename_i e' he
    simp only [Option.some.injEq, Prod.mk.injEq] at hr
    obtain ⟨rfl, rfl⟩ := hr
    exact ⟨.no, hcon _ _ _ he⟩
  · split at hr
    · rename_i e' h' pan hc
      simp only [Option.some.injEq, Prod.mk.injEq] at hr
      obtain ⟨rfl, rfl⟩ := hr
      exact ⟨pan, hrec _ _ hc⟩
    · simp at hr

/-- What is still to be said of regions whose order is open. -/
def DrawnOk (C : Cfg) (rec : Task → Option Res) : Prop := ∀ id ops s r, drawn C rec ops s = some r → Sound C.P (.code (.region id ops true) s) r

theorem step_ops (hcon : ConOk C) (hrec : ∀ t r, rec t = some r → Sound C.P t r) {ops : Array Oper} {l : List Nat} {s : ASt} {r : Res} (h : step C rec (.ops ops l s) = some r) : Sound C.P (.ops ops l s) r := by
  have recOps : ∀ {s1 : ASt} {rest : List Nat} {r : Res}, rec (.ops ops rest s1) = some r → ∃ e s', r = .code e s' ∧ CodeOk C.P s1 (.inRegion ops rest) e s' := by
    intro s1 rest r hr
    have := hrec _ _ hr
    cases r with
    | code e s' => exact ⟨e, s', rfl, this⟩
    | call _ _ _ => exact this.elim
    | defers _ _ => exact this.elim
  cases l with
  | nil =>
    simp only [step, Option.some.injEq] at h; subst h
    exact ok_ops_nil
  | cons i rest =>
    simp only [step] at h
    split at h
    · simp at h
    rename_i o ho
    split at h
    · simp at h
    · rename_i hw
      obtain ⟨e, s', rfl, hk⟩ := recOps h
      exact ok_skip ho hw hk
    rename_i hw
    split at h
    · simp at h
    · rename_i r' ha
      obtain ⟨e, s', rfl, hk⟩ := recOps h
      exact ok_simple ho hw ha hk
    · rename_i v ha
      simp only [Option.some.injEq] at h; subst h
      exact ok_panic ho hw ha
    · rename_i ha
      split at h
      · simp at h
      rename_i hr
      have hr : s.round = none := by cases hx : s.round <;> simp [hx] at hr ⊢
      split at h
      · rename_i v hp
        obtain ⟨e, s', rfl, hk⟩ := recOps h
        exact ok_recover ho hw hr ha (by rw [hp]; exact hk)
      · rename_i hp
        obtain ⟨e, s', rfl, hk⟩ := recOps h
        refine ok_recover ho hw hr ha ?_
        cases hpp : s.pan with
        | live v => exact absurd hpp (hp v)
        | no => exact hk
        | taken => exact hk
    · rename_i f args ha
      split at h
      · simp at h
      rename_i hr
      have hr : s.round = none := by cases hx : s.round <;> simp [hx] at hr ⊢
      obtain ⟨e, s', rfl, hk⟩ := recOps h
      exact ok_defer ho hw hr ha hk
    · rename_i f args ha
      split at h
      · -- on closed values
        have key : ∀ {e : AEnd} {ids : List Nat} {us : List (Nat × AB)}, pureCall C rec f args (Heap.at s.h) = some (e, ids, us) →
            ∀ (g : G) (w : World) (cs : List Frame) (vs : Array Value), Inv g (Heap.at s.h) w → (∀ i, g.A i ↔ i < s.h.n) → args.length = vs.size → Pw (Rep g) args vs.toList →
              ∃ g' fr' w', Steps C.P (lone (Frame.enter C.P f vs .normal) cs w) (lone fr' cs w') ∧ Inv g' (Heap.upd s.h us).at w' ∧ (∀ i, g'.A i ↔ i < (Heap.upd s.h us).n) ∧ Evolves g (Heap.at s.h) w g' (Heap.upd s.h us).at w' ∧ fr'.fn = f ∧ fr'.kind = .normal ∧ fr'.defers = [] ∧ EndOk C.P g' f fr' w' e := by
          intro e ids us hp g w cs vs hi hA hl hpw
          unfold pureCall at hp
          split at hp
          · simp at hp
          rename_i args' ids' hs
          split at hp
          · simp at hp
          rename_i e' h' hres
          split at hp
          · simp at hp
          rename_i r' ids2 hsn
          simp only [Option.some.injEq, Prod.mk.injEq] at hp
          obtain ⟨rfl, rfl, rfl⟩ := hp
          obtain ⟨pan, hc⟩ := pureRes_ok hcon hrec hres
          exact pure_ok hi hA hl hpw hs hc hsn cs
        split at h
        · rename_i v ids us hp
          obtain ⟨e, s', rfl, hk⟩ := recOps h
          exact (ok_callop ho hw ha (key hp)).1 v s' e rfl hk
        · rename_i v ids us hp
          simp only [Option.some.injEq] at h; subst h
          exact (ok_callop ho hw ha (key hp)).2 v rfl
        · simp at h
      · -- in the same heap
        have key : ∀ {e : AEnd} {h2 : Heap} {pan : Pan}, rec (.call f args s.h .no) = some (.call e h2 pan) →
            ∀ (g : G) (w : World) (cs : List Frame) (vs : Array Value), Inv g (Heap.at s.h) w → (∀ i, g.A i ↔ i < s.h.n) → args.length = vs.size → Pw (Rep g) args vs.toList →
              ∃ g' fr' w', Steps C.P (lone (Frame.enter C.P f vs .normal) cs w) (lone fr' cs w') ∧ Inv g' (Heap.at h2) w' ∧ (∀ i, g'.A i ↔ i < h2.n) ∧ Evolves g (Heap.at s.h) w g' (Heap.at h2) w' ∧ fr'.fn = f ∧ fr'.kind = .normal ∧ fr'.defers = [] ∧ EndOk C.P g' f fr' w' e := by
          intro e h2 pan hc g w cs vs hi hA hl hpw
          have hok : CallOk C.P f args s.h .no e h2 pan := hrec _ _ hc
          obtain ⟨g', fr', cs', w', k1, k2, k3, k4, k5, k6, k7, k8, k9, k10⟩ := hok g .normal cs cs w vs hi hA hl hpw ⟨rfl, .inl rfl⟩
          have := normal_cs k4
          subst this
          exact ⟨g', fr', w', k1, k2, k3, k5, k6, k7, k9, k10⟩
        split at h
        · rename_i v h2 pan hc
          obtain ⟨e, s', rfl, hk⟩ := recOps h
          exact (ok_callop ho hw ha (key hc)).1 v s' e rfl hk
        · rename_i v h2 pan hc
          simp only [Option.some.injEq] at h; subst h
          exact (ok_callop ho hw ha (key hc)).2 v rfl
        · simp at h
    · rename_i id args ha
      split at h
      case h_2 => simp at h
      rename_i fn tmps params assign body pending coll hb
      split at h
      case isFalse => simp at h
      rename_i hlen
      split at h
      case h_2 => simp at h
      rename_i s1 hassign
      split at h
      case h_2 => simp at h
      rename_i fn1 tm1 p1 a1 b1 pe1 c1 hb1
      split at h
      case h_2 => simp at h
      rename_i e2 s2 hbody
      split at h
      case h_2 => simp at h
      rename_i hd2
      obtain ⟨y1, y2⟩ := ok_yield ho hw ha hb hlen (hrec _ _ hassign).1 hb1 (hrec _ _ hbody).1 hd2
      split at h
      · rename_i v
        simp only [Option.some.injEq] at h; subst h
        exact y1 v rfl
      · rename_i hne
        split at h
        case h_2 => simp at h
        rename_i fn2 tm2 p2 a2 b2 st2 pe2 c2 hb2
        obtain ⟨e, s', rfl, hk⟩ := recOps h
        exact y2 _ _ _ _ _ _ _ _ _ _ hne hb2 hk

theorem step_code (hdrawn : DrawnOk C rec) (hrec : ∀ t r, rec t = some r → Sound C.P t r) {c : Code} {s : ASt} {r : Res} (h : step C rec (.code c s) = some r) : Sound C.P (.code c s) r := by
  have recCode : ∀ {c : Code} {s1 : ASt} {r : Res}, rec (.code c s1) = some r → ∃ e s', r = .code e s' ∧ CodeOk C.P s1 (.code c) e s' ∧ ∀ b, c = .loop b → CodeOk C.P s1 (.inLoop b) e s' := by
    intro c s1 r hr
    have := hrec _ _ hr
    cases r with
    | code e s' => exact ⟨e, s', rfl, this⟩
    | call _ _ _ => exact this.elim
    | defers _ _ => exact this.elim
  have noLoop : ∀ {e : AExit} {s' : ASt}, (∀ b, c ≠ .loop b) → CodeOk C.P s (.code c) e s' → Sound C.P (.code c s) (.code e s') := fun hn hk => ⟨hk, fun b hb => absurd hb (hn b)⟩
  simp only [step] at h
  split at h
  · simp only [Option.some.injEq] at h; subst h
    exact noLoop (by simp) (ok_now (.inl rfl))
  · simp only [Option.some.injEq] at h; subst h
    exact noLoop (by simp) (ok_now (.inr ⟨_, rfl⟩))
  · rename_i id ops draw
    split at h
    · rename_i hdr
      subst hdr
      exact hdrawn _ _ _ _ h
    · rename_i hdr
      have hdr : draw = false := by simpa using hdr
      subst hdr
      have := hrec _ _ h
      cases r with
      | code e s' => exact noLoop (by simp) (ok_region this)
      | call _ _ _ => exact this.elim
      | defers _ _ => exact this.elim
  · rename_i a b
    split at h
    · rename_i s1 h1
      obtain ⟨e, s', rfl, hk, _⟩ := recCode h
      exact noLoop (by simp) (ok_seq (.inl ⟨s1, (hrec _ _ h1).1, hk⟩))
    · rename_i hne
      obtain ⟨e, s', rfl, hk, _⟩ := recCode h
      refine noLoop (by simp) (ok_seq (.inr ⟨?_, hk⟩))
      rintro rfl
      exact hne s' h
  · rename_i x a b
    simp only [Option.bind_eq_some_iff] at h
    obtain ⟨t, ht, h⟩ := h
    obtain ⟨e, s', rfl, hk, _⟩ := recCode h
    exact noLoop (by simp) (ok_cond ht hk)
  · rename_i id b
    split at h
    · rename_i i s1 h1
      simp only [Option.some.injEq] at h; subst h
      exact noLoop (by simp) (ok_block (e := .exit i) (hrec _ _ h1).1)
    · rename_i hne
      obtain ⟨e, s', rfl, hk, _⟩ := recCode h
      have := ok_block (id := id) hk
      cases e with
      | exit i => exact absurd h (hne i s')
      | normal => exact noLoop (by simp) this
      | ret => exact noLoop (by simp) this
      | panic v => exact noLoop (by simp) this
  · rename_i b
    have both : ∀ {e : AExit} {s' : ASt}, ((∃ s1, CodeOk C.P s (.code b) .normal s1 ∧ CodeOk C.P s1 (.inLoop b) e s') ∨ (e ≠ .normal ∧ CodeOk C.P s (.code b) e s')) → Sound C.P (.code (.loop b) s) (.code e s') :=
      fun hh => ⟨ok_loop (.inl rfl) hh, fun b' hb => by cases hb; exact ok_loop (.inr rfl) hh⟩
    split at h
    · rename_i s1 h1
      obtain ⟨e, s', rfl, _, hk⟩ := recCode h
      exact both (.inl ⟨s1, (hrec _ _ h1).1, hk b rfl⟩)
    · rename_i hne
      obtain ⟨e, s', rfl, hk, _⟩ := recCode h
      refine both (.inr ⟨?_, hk⟩)
      rintro rfl
      exact hne s' h
  · rename_i b
    obtain ⟨e, s', rfl, hk, _⟩ := recCode h
    exact noLoop (by simp) (ok_scope hk)
  · rename_i f params assign body
    split at h
    · simp at h
    rename_i hr
    have hr : s.round = none := by cases hx : s.round <;> simp [hx] at hr ⊢
    split at h
    · simp at h
    rename_i k' args ht
    split at h
    · rename_i v h2 pan hc
      obtain ⟨_, r2⟩ := ok_range hr ht (hrec _ _ hc)
      split at h
      case h_2 => simp at h
      rename_i fn tmps ps a b st pending coll hb
      split at h
      · simp at h
      rename_i hbusy
      split at h
      · simp only [Option.some.injEq] at h; subst h
        exact noLoop (by simp) ((r2 v _ _ _ _ _ _ _ _ rfl hb hbusy).1 rfl)
      · rename_i c'
        obtain ⟨e, s', rfl, hk, _⟩ := recCode h
        exact noLoop (by simp) ((r2 v _ _ _ _ _ _ _ _ rfl hb hbusy).2 c' s' e rfl hk)
    · rename_i v h2 pan hc
      obtain ⟨r1, _⟩ := ok_range hr ht (hrec _ _ hc)
      simp only [Option.some.injEq] at h; subst h
      exact noLoop (by simp) (r1 v rfl)
    · simp at h
  · simp only [Option.some.injEq] at h; subst h
    exact noLoop (by simp) ok_exit
  · simp only [Option.some.injEq] at h; subst h
    exact noLoop (by simp) ok_ret
  · simp at h

theorem step_rest (hrec : ∀ t r, rec t = some r → Sound C.P t r) {t : Task} {r : Res} (ht : (∃ f args h pan, t = .call f args h pan) ∨ ∃ ds mode h, t = .defers ds mode h) (h : step C rec t = some r) : Sound C.P t r := by
  rcases ht with ⟨f, args, hp, pan, rfl⟩ | ⟨ds, mode, hp, rfl⟩
  · simp only [step] at h
    split at h
    · simp at h
    rename_i fn hf
    split at h
    · simp at h
    rename_i body hb
    split at h
    case h_2 => simp at h
    rename_i e s1 hbody
    split at h
    · simp at h
    rename_i mode hm
    split at h
    · rename_i h2 hd
      split at h
      case h_2 => simp at h
      rename_i v hr
      simp only [Option.some.injEq] at h; subst h
      exact (ok_call hf hb (hrec _ _ hbody).1 hm (hrec _ _ hd)).1 v rfl hr
    · rename_i v h2 hd
      simp only [Option.some.injEq] at h; subst h
      exact (ok_call hf hb (hrec _ _ hbody).1 hm (hrec _ _ hd)).2 v rfl
    · simp at h
  · have recDef : ∀ {ds : List ADef} {mode : Option AV} {hp : Heap} {r : Res}, rec (.defers ds mode hp) = some r → ∃ m h', r = .defers m h' ∧ DefersOk C.P ds mode hp m h' := by
      intro ds mode hp r hr
      have := hrec _ _ hr
      cases r with
      | defers m h' => exact ⟨m, h', rfl, this⟩
      | code _ _ => exact this.elim
      | call _ _ _ => exact this.elim
    cases ds with
    | nil =>
      simp only [step, Option.some.injEq] at h; subst h
      exact ok_defers_nil
    | cons d ds =>
      cases d with
      | coll d =>
        simp only [step] at h
        split at h
        case h_2 => simp at h
        rename_i hc
        obtain ⟨m, h', rfl, hk⟩ := recDef h
        exact ok_defers_coll hc hk
      | call f args =>
        simp only [step] at h
        split at h
        case h_2 => simp at h
        rename_i v h2 pan hc
        obtain ⟨m, h', rfl, hk⟩ := recDef h
        exact ok_defers_call (hrec _ _ hc) hk

/-- THE EVALUATOR IS RIGHT. -/
theorem run_sound (hcon : ConOk C) (hdrawn : ∀ rec, (∀ t r, rec t = some r → Sound C.P t r) → DrawnOk C rec) : ∀ (n : Nat) (t : Task) (r : Res), run C n t = some r → Sound C.P t r
  | 0, _, _, h => by simp [run] at h
  | n + 1, t, r, h => by
    have hrec := run_sound hcon hdrawn n
    simp only [run] at h
    cases t with
    | code c s => exact step_code (hdrawn _ hrec) hrec h
    | ops ops l s => exact step_ops hcon hrec h
    | call f args hp pan => exact step_rest hrec (.inl ⟨_, _, _, _, rfl⟩) h
    | defers ds mode hp => exact step_rest hrec (.inr ⟨_, _, _, rfl⟩) h
end
end Go.Ag
/- An operation depends on its operands, and on the blocks that it names as read. -/
namespace Go.Ag
section
variable {P : Program}

theorem allVals_congr {ρ ρ' : Operand → AV} : ∀ {l : List Operand}, (∀ x ∈ l, ρ' x = ρ x) → allVals ρ' l = allVals ρ l
  | [], _ => rfl
  | x :: l, h => by simp only [allVals, h x (List.mem_cons_self ..), allVals_congr (fun y hy => h y (List.mem_cons_of_mem _ hy))]

theorem pureOp_congr {o : Oper} {ρ ρ' : Operand → AV} (h : ∀ x ∈ o.op.operands, ρ' x = ρ x) : pureOp P o ρ' = pureOp P o ρ := by
  unfold pureOp
  rw [allVals_congr (fun x hx => h x (by simpa using hx))]
  split
  · rename_i hc
    simp only [Bool.and_eq_true] at hc
    have : execOp (fun x => ((ρ' x).toVal).getD Go.undef) o = execOp (fun x => ((ρ x).toVal).getD Go.undef) o :=
      execOp_congr o (fun cs b hb => by rw [hb] at hc; simp [notSelect] at hc) (fun x hx => by rw [h x hx])
    rw [this]
  · rfl

theorem map_congr_arr {ρ ρ' : Operand → AV} {args : Array Operand} (h : ∀ x ∈ args, ρ' x = ρ x) : args.toList.map ρ' = args.toList.map ρ :=
  List.map_congr_left (fun x hx => h x (by simpa using hx))

theorem acall_congr {o : Oper} {c : Call} (ho : o.op = .call c) {ρ ρ' : Operand → AV} (h : ∀ x ∈ o.op.operands, ρ' x = ρ x) (rd : Nat → AB) (fresh : Nat) : acall P c ρ' rd fresh o = acall P c ρ rd fresh o := by
  have hp := pureOp_congr (P := P) h
  rw [ho] at h
  obtain ⟨callee, args, argTypes⟩ := c
  have hargs : ∀ x ∈ args, ρ' x = ρ x := fun x hx => h x (by simp only [Op.operands, Call.operands]; exact Array.mem_append.2 (.inr hx))
  have hm := map_congr_arr hargs
  have hl : ∀ x ∈ args.toList, ρ' x = ρ x := fun x hx => hargs x (by simpa using hx)
  cases callee with
  | builtin b =>
    unfold acall
    simp only [hp]
    split <;> (try rfl)
    · rename_i s x hh; rw [hh] at hl; rw [hl s (by simp), hl x (by simp)]
    · rename_i x hh; rw [hh] at hl; rw [hl x (by simp)]
    · rename_i s x hh; rw [hh] at hl; rw [hl s (by simp), hl x (by simp)]
    · rename_i x hh; rw [hh] at hl; rw [hl x (by simp)]
    · rename_i x hh; rw [hh] at hl; rw [hl x (by simp)]
  | value f =>
    have hf : ρ' f = ρ f := h f (by simp [Op.operands, Call.operands])
    unfold acall
    simp only [hf, hm]
  | invoke r name =>
    have hf : ρ' r = ρ r := h r (by simp [Op.operands, Call.operands])
    unfold acall
    simp only [hf, hm]

theorem aop_congr {o : Oper} {ρ ρ' : Operand → AV} (h : ∀ x ∈ o.op.operands, ρ' x = ρ x) (rd : Nat → AB) (fresh : Nat) : aop P o ρ' rd fresh = aop P o ρ rd fresh := by
  have hp := pureOp_congr (P := P) h
  have parts : ∀ (ps : Array (Nat × Operand)), (∀ x ∈ (ps.toList.map (·.2)).toArray, ρ' x = ρ x) → partsOf ρ' ps = partsOf ρ ps := by
    intro ps hh
    unfold partsOf
    refine List.map_congr_left (fun p hpm => ?_)
    rw [hh p.2 (by simp; exact ⟨p.1, by simpa using hpm⟩)]
  have opt : ∀ (x : Option Operand), (∀ y ∈ x.toArray, ρ' y = ρ y) → x.map ρ' = x.map ρ := by
    intro x hx
    cases x with
    | none => rfl
    | some x => simp [hx x (by simp)]
  unfold aop
  split
  all_goals rename_i ho
  · rw [ho] at h; rw [h _ (by simp [Op.operands])]
  · rw [ho] at h; rw [h _ (by simp [Op.operands])]
  · rw [ho] at h; rw [h _ (by simp [Op.operands]), h _ (by simp [Op.operands]), h _ (by simp [Op.operands])]
  · rfl
  · rw [ho] at h; rw [h _ (by simp [Op.operands])]
  · rw [ho] at h; rw [parts _ (by simpa [Op.operands] using h)]
  · rw [ho] at h; rw [parts _ (by simpa [Op.operands] using h)]
  · rw [ho] at h; rw [h _ (by simp [Op.operands])]
  · rw [ho] at h; rw [h _ (by simp [Op.operands]), h _ (by simp [Op.operands])]
  · rw [ho] at h; rw [h _ (by simp [Op.operands])]
  · rename_i op t x y t2
    rw [ho] at h
    unfold abinOp
    rw [hp, h x (by simp [Op.operands]), h y (by simp [Op.operands])]
  · rw [ho] at h; rw [h _ (by simp [Op.operands])]
  · rw [ho] at h; rw [h _ (by simp [Op.operands])]
  · rw [ho] at h; rw [h _ (by simp [Op.operands]), h _ (by simp [Op.operands])]
  · rename_i t x ix
    rw [ho] at h
    rw [hp, h x (by simp [Op.operands]), h ix (by simp [Op.operands])]
  · rename_i t x lo hi mx
    rw [ho] at h
    have h0 : ρ' x = ρ x := h x (by simp [Op.operands])
    have h1 := opt lo (fun y hy => h y (by simp only [Op.operands]; simp at hy ⊢; simp [hy]))
    have h2 := opt hi (fun y hy => h y (by simp only [Op.operands]; simp at hy ⊢; simp [hy]))
    have h3 := opt mx (fun y hy => h y (by simp only [Op.operands]; simp at hy ⊢; simp [hy]))
    rw [h0, h1, h2, h3, hp]
  · rw [ho] at h; rw [h _ (by simp [Op.operands])]
  · rename_i fn first captured
    rw [ho] at h
    rw [map_congr_arr (args := first) (fun x hx => h x (by simp only [Op.operands]; exact Array.mem_append.2 (.inl hx))), map_congr_arr (args := captured) (fun x hx => h x (by simp only [Op.operands]; exact Array.mem_append.2 (.inr hx)))]
  · rfl
  · rw [ho] at h; rw [h _ (by simp [Op.operands]), h _ (by simp [Op.operands])]
  · rw [ho] at h; rw [h _ (by simp [Op.operands]), h _ (by simp [Op.operands])]
  · rw [ho] at h; rw [h _ (by simp [Op.operands]), h _ (by simp [Op.operands]), h _ (by simp [Op.operands])]
  · rw [ho] at h; rw [h _ (by simp [Op.operands]), h _ (by simp [Op.operands]), h _ (by simp [Op.operands])]
  · rfl
  · rfl
  · rw [ho] at h; rw [h _ (by simp [Op.operands])]
  · rw [ho] at h; rw [h _ (by simp [Op.operands])]
  · exact acall_congr ho h rd fresh
  · rw [ho] at h; rw [h _ (by simp [Op.operands])]
  · rename_i c
    rw [ho] at h
    simp only [Op.operands] at h
    split
    · rename_i f hf
      have h0 : ρ' f = ρ f := h f (by simp [Call.operands, hf])
      rw [h0, map_congr_arr (args := c.args) (fun x hx => h x (by simp only [Call.operands]; exact Array.mem_append.2 (.inr hx)))]
    · rfl
  · exact hp

/-- What it says it reads is all that it reads. -/
theorem first_local {rd rd' : Nat → AB} {size : Nat} {x : AV} {l : List AV} {n : Nat} {reads : List Nat} (h : firstCells rd size x = some (l, n, reads)) (hr : ∀ id ∈ reads, rd' id = rd id) : firstCells rd' size x = some (l, n, reads) := by
  unfold firstCells at h ⊢
  split at h
  · exact h
  · exact h
  · rename_i id sz off len cap
    split at h
    · rename_i cells hb
      split at h
      · rename_i hs
        simp only [Option.map_eq_some_iff, Prod.mk.injEq] at h
        obtain ⟨l', h1, rfl, rfl, rfl⟩ := h
        simp only [hr id (by simp), hb, hs, if_true, h1, Option.map_some]
      · simp at h
    · simp at h
  · exact h
  · simp at h

theorem append_local {rd rd' : Nat → AB} {fresh : Nat} {ts : Array TypeId} {s x : AV} {r : SOut} (h : aappend P rd fresh ts s x = some r) (hr : ∀ id ∈ r.reads, rd' id = rd id) : aappend P rd' fresh ts s x = some r := by
  unfold aappend at h ⊢
  split at h
  case h_2 => simp at h
  rename_i t u ht hu
  try rw [ht, hu]
  try simp only
  split at h
  case h_2 => simp at h
  rename_i elem du h1 h2
  try rw [h1, h2]
  try simp only
  split at h
  case isFalse => simp at h
  rename_i hs
  try rw [if_pos hs]
  split at h
  case h_2 => simp at h
  rename_i size hsp
  split at h
  case h_2 => simp at h
  rename_i new n reads hf
  split at h
  case isFalse => simp at h
  rename_i hc
  have key : (∀ id ∈ reads, rd' id = rd id) ∧ appendTo rd' fresh size s new n reads = some r := by
    unfold appendTo at h ⊢
    split at h
    · split at h
      · simp only [Option.some.injEq] at h; subst h; rename_i h0; exact ⟨hr, by simp [h0]⟩
      · rename_i h0
        split at h
        · rename_i hl
          simp only [Option.some.injEq] at h; subst h; exact ⟨hr, by simp [h0, hl]⟩
        · simp at h
    · rename_i id sz off len cap
      split at h
      · simp at h
      rename_i hsz
      split at h
      · rename_i h0; simp only [Option.some.injEq] at h; subst h; exact ⟨hr, by simp only [hsz, if_false, h0, if_true]⟩
      rename_i h0
      split at h
      case h_2 => simp at h
      rename_i cells hb
      split at h
      · rename_i hroom
        simp only [Option.map_eq_some_iff] at h
        obtain ⟨cs, hp, rfl⟩ := h
        refine ⟨fun i hi => hr i (List.mem_cons_of_mem _ hi), ?_⟩
        have := hr id (List.mem_cons_self ..)
        simp only [hsz, if_false, h0, this, hb, hroom, if_true, hp, Option.map_some]
      · rename_i hroom
        split at h
        case isFalse => simp at h
        rename_i hl
        simp only [Option.map_eq_some_iff] at h
        obtain ⟨cs, hp, rfl⟩ := h
        refine ⟨fun i hi => hr i (List.mem_cons_of_mem _ hi), ?_⟩
        have := hr id (List.mem_cons_self ..)
        simp only [hsz, if_false, h0, this, hb, hroom, if_true, hl, hp, Option.map_some]
    · split at h
      · rename_i h0; simp only [Option.some.injEq] at h; subst h; exact ⟨hr, by simp [h0]⟩
      · simp at h
    · simp at h
  rw [first_local hf key.1]
  simp only [hc, if_true]
  exact key.2

theorem mapOf_local {rd rd' : Nat → AB} {m : AV} {ks : List Value} {vs : List AV} {reads : List Nat} (h : mapOf rd m = some (ks, vs, reads)) (hr : ∀ id ∈ reads, rd' id = rd id) : mapOf rd' m = some (ks, vs, reads) := by
  unfold mapOf at h ⊢
  split at h
  · exact h
  · exact h
  · rename_i id
    split at h
    · rename_i keys vals borns clock hb
      simp only [Option.some.injEq, Prod.mk.injEq] at h
      obtain ⟨rfl, rfl, rfl⟩ := h
      simp only [hr id (by simp), hb]
    · simp at h
  · simp at h

theorem lookup_local {rd rd' : Nat → AB} {t : TypeId} {m k : AV} {ok : Bool} {r : SOut} (h : alookup P rd t m k ok = some r) (hr : ∀ id ∈ r.reads, rd' id = rd id) : alookup P rd' t m k ok = some r := by
  unfold alookup at h ⊢
  split at h
  case h_2 => simp at h
  rename_i kt et key keys vals reads h1 h2 h3
  have hreads : r.reads = reads := by
    split at h
    · split at h
      · simp only [Option.some.injEq] at h; subst h; rfl
      · simp at h
    · split at h
      · simp only [Option.some.injEq] at h; subst h; rfl
      · simp at h
    · simp at h
  rw [h1, h2, mapOf_local h3 (by rw [← hreads]; exact hr)]
  exact h

theorem update_local {rd rd' : Nat → AB} {t : TypeId} {m k v : AV} {r : SOut} (h : amapUpdate P rd t m k v = some r) (hr : ∀ id ∈ r.reads, rd' id = rd id) : amapUpdate P rd' t m k v = some r := by
  unfold amapUpdate at h ⊢
  split at h
  case h_2 => simp at h
  rename_i id
  try simp only
  have hreads : r.reads = [id] := by
    split at h
    case h_2 => simp at h
    split at h
    · split at h
      · split at h
        · simp only [Option.some.injEq] at h; subst h; rfl
        · simp at h
      · simp at h
    · simp only [Option.some.injEq] at h; subst h; rfl
    · simp at h
  rw [hr id (by rw [hreads]; simp)]
  exact h

theorem load_local {rd rd' : Nat → AB} {t : TypeId} {a : AV} {r : SOut} (h : aload P rd t a = some r) (hr : ∀ id ∈ r.reads, rd' id = rd id) : aload P rd' t a = some r := by
  unfold aload at h ⊢
  split at h
  · rename_i id off
    try simp only
    have hreads : r.reads = [id] := by
      split at h
      · simp only [Option.map_eq_some_iff] at h
        obtain ⟨v, _, rfl⟩ := h; rfl
      · simp at h
    rw [hr id (by rw [hreads]; simp)]
    exact h
  · exact h
  · simp at h

theorem store_local {rd rd' : Nat → AB} {t : TypeId} {a x : AV} {r : SOut} (h : astore P rd t a x = some r) (hr : ∀ id ∈ r.reads, rd' id = rd id) : astore P rd' t a x = some r := by
  unfold astore at h ⊢
  split at h
  · rename_i id off
    try simp only
    have hreads : r.reads = [id] := by
      split at h
      · split at h
        · simp only [Option.map_eq_some_iff] at h
          obtain ⟨v, _, rfl⟩ := h; rfl
        · simp at h
      · simp at h
    rw [hr id (by rw [hreads]; simp)]
    exact h
  · simp at h

theorem len_local {rd rd' : Nat → AB} {t : TypeId} {x : AV} {r : SOut} (h : alen P rd t x = some r) (hr : ∀ id ∈ r.reads, rd' id = rd id) : alen P rd' t x = some r := by
  unfold alen at h ⊢
  split at h
  · exact h
  · exact h
  · exact h
  · exact h
  · rename_i k e id ht
    try simp only
    have hreads : r.reads = [id] := by
      split at h
      · simp only [Option.some.injEq] at h; subst h; rfl
      · simp at h
    rw [hr id (by rw [hreads]; simp)]
    exact h
  · simp at h

/-- Where no length is told, none is told off another memory, but of a map of the evaluator's. -/
theorem len_none {rd rd' : Nat → AB} {t : TypeId} {x : AV} (h : alen P rd t x = none) (hx : ∀ id, x ≠ .map id) : alen P rd' t x = none := by
  unfold alen at h ⊢
  split at h
  · exact h
  · exact h
  · exact h
  · exact h
  · rename_i k e id ht; exact absurd rfl (hx id)
  · rfl

theorem clear_local {rd rd' : Nat → AB} {t : TypeId} {x : AV} {r : SOut} (h : aclear P rd t x = some r) (hr : ∀ id ∈ r.reads, rd' id = rd id) : aclear P rd' t x = some r := by
  unfold aclear at h ⊢
  split at h
  · rename_i e id sz off len cap ht
    try simp only
    have hreads : r.reads = [id] := by
      split at h
      · split at h
        · simp only [Option.map_eq_some_iff] at h
          obtain ⟨v, _, rfl⟩ := h; rfl
        · simp at h
      · simp at h
    rw [hr id (by rw [hreads]; simp)]
    exact h
  · simp at h

theorem copy_local {rd rd' : Nat → AB} {t : TypeId} {d s : AV} {r : SOut} (h : acopy P rd t d s = some r) (hr : ∀ id ∈ r.reads, rd' id = rd id) : acopy P rd' t d s = some r := by
  unfold acopy at h ⊢
  split at h
  case h_2 => simp at h
  rename_i elem ht
  try simp only
  split at h
  case h_2 => simp at h
  rename_i size hsp
  try simp only
  split at h
  · rename_i new n reads id sz off len cap hf
    split at h
    case isFalse => simp at h
    rename_i hc
    have hb : ∃ cells, rd id = .blk cells := by
      split at h
      · exact ⟨_, by assumption⟩
      · simp at h
    obtain ⟨cells, hb⟩ := hb
    rw [hb] at h
    simp only [Option.map_eq_some_iff] at h
    obtain ⟨cs, hp, rfl⟩ := h
    rw [first_local hf (fun i hi => hr i (List.mem_cons_of_mem _ hi))]
    simp only [hc, and_self, if_true, hr id (List.mem_cons_self ..), hb, hp, Option.map_some]
  · rename_i new n reads hf
    simp only [Option.some.injEq] at h; subst h
    rw [first_local hf hr]
    rfl
  · simp at h

theorem pureOp_out {o : Oper} {ρ : Operand → AV} {out : Out} (h : pureOp P o ρ = some out) : ∃ v, out = .simple { val := v } := by
  unfold pureOp at h
  split at h
  · split at h
    · simp only [val, Option.some.injEq] at h; exact ⟨_, h.symm⟩
    · simp at h
  · simp at h

/-- AN OPERATION, OFF ANOTHER MEMORY THAT AGREES WHERE IT LOOKS. -/
theorem arrSlice_local {rd rd' : Nat → AB} {t : TypeId} {x : AV} {lo hi mx : Option AV} {r : SOut} (h : aarrSlice P rd t x lo hi mx = some r) (hr : ∀ id ∈ r.reads, rd' id = rd id) : aarrSlice P rd' t x lo hi mx = some r := by
  unfold aarrSlice at h ⊢
  split at h
  case h_2 => simp at h
  split at h
  · rename_i size id off hsp
    split at h
    case h_2 => simp at h
    rename_i cells hb
    split at h
    case isFalse => simp at h
    rename_i hle
    simp only [Option.map_eq_some_iff] at h
    obtain ⟨b, hbb, rfl⟩ := h
    have := hr id (by simp)
    rw [hb] at this
    simp only [this, if_pos hle, hbb, Option.map_some]
  · exact h
  · simp at h

theorem aop_local {o : Oper} {ρ : Operand → AV} {rd rd' : Nat → AB} {fresh : Nat} {r : SOut} (h : aop P o ρ rd fresh = some (.simple r)) (hr : ∀ id ∈ r.reads, rd' id = rd id) : aop P o ρ rd' fresh = some (.simple r) := by
  have simp2 : ∀ {x y : Option SOut}, simp? x = some (.simple r) → (x = some r → y = some r) → simp? y = some (.simple r) := by
    intro x y hx hy
    simp only [simp?, Option.map_eq_some_iff] at hx
    obtain ⟨r', h1, h2⟩ := hx
    simp only [Out.simple.injEq] at h2
    subst h2
    rw [hy h1]; rfl
  unfold aop at h ⊢
  split at h
  all_goals rename_i ho
  all_goals try exact h
  all_goals try simp only
  · exact simp2 h (fun h => load_local h hr)
  · exact simp2 h (fun h => store_local h hr)
  · split at h
    · exact simp2 h (fun h => arrSlice_local h hr)
    · exact h
  · exact simp2 h (fun h => lookup_local h hr)
  · exact simp2 h (fun h => update_local h hr)
  · exact simp2 h (fun h => update_local h hr)
  · rename_i c
    unfold acall at h ⊢
    split at h
    · rename_i b hb
      try simp only
      split at h
      · exact simp2 h (fun h => append_local h hr)
      · rename_i x hl
        try simp only
        split at h
        case h_2 => simp at h
        rename_i t ht
        try simp only
        split at h
        · rename_i r' hr'
          simp only [Option.some.injEq, Out.simple.injEq] at h
          subst h
          rw [len_local hr' hr]
        · rename_i hn
          have hx : ∀ id, ρ x ≠ .map id := by
            intro id hx
            unfold pureOp at h
            split at h
            · rename_i hc
              simp only [Bool.and_eq_true] at hc
              obtain ⟨v, hv⟩ := allVals_spec hc.1 x (by
                rw [ho]
                simp only [Op.operands, Call.operands, hb]
                have : x ∈ c.args.toList := by rw [hl]; simp
                simpa using this)
              rw [hx] at hv; simp [AV.toVal] at hv
            · simp at h
          rw [len_none hn hx]
          exact h
      · try simp only
        split at h
        case h_2 => simp at h
        try simp only
        exact simp2 h (fun h => copy_local h hr)
      · try simp only
        split at h
        case h_2 => simp at h
        try simp only
        exact simp2 h (fun h => clear_local h hr)
      · exact h
      · exact h
      · exact h
    · exact h
    · exact h
end
end Go.Ag
/- Regions whose order is open: one operation, and two that change places. -/
namespace Go.Ag

structure DSt where
  tmps : List AV
  H : Nat → AB

def evalT (tmps : List AV) : Operand → AV
  | .tmp t => tmps.getD t .undef
  | .const v => .c (CV.ofVal v)
  | .global _ => .c .junk
  | .func f => .c (.func (.func f) [] [])
def wantedT (ops : Array Oper) (o : Oper) (tmps : List AV) : Option Bool := match o.guard with
  | none => some true
  | some (j, want) => match (ops[j]?).bind (·.dst) with
    | none => some false
    | some d => match tmps.getD d .undef with
      | .c (.lit (.bool b)) => some (b == want)
      | .c (.lit (.tuple _)) => some false
      | _ => none

theorem eval_evalT (s : ASt) : s.eval = evalT (s.tmps.toList .undef) := by
  funext x
  cases x with
  | tmp t => exact (TMap.toList_getD .undef s.tmps t).symm
  | const v => rfl
  | global k => rfl
  | func f => rfl
theorem wanted_wantedT (ops : Array Oper) (o : Oper) (s : ASt) : wantedA ops o s = wantedT ops o (s.tmps.toList .undef) := by
  unfold wantedA wantedT
  simp only [TMap.toList_getD]
  rfl

def DRec.on (r : DRec) (s : DSt) : DSt where
  tmps := match r.dst with | some d => s.tmps.set d r.val | none => s.tmps
  H := match r.fresh with | some b => upd1 (updF s.H r.upds) r.fid b | none => updF s.H r.upds

/-- What comes of a call on what its arguments hold. -/
def Called (P : Program) (f : FuncId) (args : List AV) (rd : Nat → AB) (e : AEnd) (ids : List Nat) (us : List (Nat × AB)) : Prop := ∃ fuel args' e0 h' pan fuel' r, snaps rd fuel args = some (args', ids) ∧
  CallOk P f (args'.map .c) TMap.nil .no e0 h' pan ∧ snap (Heap.at h') fuel' e0.val = some r ∧ e = e0.setVal (.c r.1) ∧ us = killed r.1 ids

/-- What an operation does in a state. -/
inductive DDo (P : Program) (ops : Array Oper) (o : Oper) (r : DRec) (s : DSt) : Prop
  | skip (hn : r.pan = none) (hd : r.dst = o.dst) (hw : wantedT ops o s.tmps = some false) (hv : r.val = .undef) (hu : r.upds = []) (hf : r.fresh = none)
  | simple (hn : r.pan = none) (hd : r.dst = o.dst) (hw : wantedT ops o s.tmps = some true) (ha : aop P o (evalT s.tmps) s.H r.fid = some (.simple { val := r.val, reads := r.reads, upds := r.upds, fresh := r.fresh }))
  | call (hn : r.pan = none) (hd : r.dst = o.dst) (hw : wantedT ops o s.tmps = some true) (f : FuncId) (args : List AV) (ha : aop P o (evalT s.tmps) s.H r.fid = some (.call f args))
      (hc : Called P f args s.H (.ret r.val) r.reads r.upds) (hf : r.fresh = none)
  | panics (v : AV) (hn : r.pan = some (v, [])) (hd : r.dst = none) (hu : r.upds = []) (hf : r.fresh = none) (hw : wantedT ops o s.tmps = some true) (ha : aop P o (evalT s.tmps) s.H r.fid = some (.panic v))
  | falls (v : AV) (us : List (Nat × AB)) (hn : r.pan = some (v, us)) (hd : r.dst = none) (hu : r.upds = []) (hf : r.fresh = none) (hw : wantedT ops o s.tmps = some true) (f : FuncId) (args : List AV) (ha : aop P o (evalT s.tmps) s.H r.fid = some (.call f args))
      (hc : Called P f args s.H (.panic v) r.reads us)

structure DStep (P : Program) (ops : Array Oper) (r : DRec) (s s' : DSt) : Prop where
  op : ∃ o, ops[r.idx]? = some o ∧ r.looks = o.looksAt ops ∧ DDo P ops o r s
  to : s' = r.on s

/-- They may change places. -/
structure Indep (a b : DRec) : Prop where
  ab : ∀ d, a.dst = some d → d ∉ b.looks ∧ b.dst ≠ some d
  ba : ∀ d, b.dst = some d → d ∉ a.looks
  wr : ∀ i ∈ a.writes, i ∉ b.reads ∧ i ∉ b.writes
  rw : ∀ i ∈ b.writes, i ∉ a.reads

theorem Indep.symm {a b : DRec} (h : Indep a b) : Indep b a :=
  ⟨fun d hd => ⟨h.ba d hd, fun ha => (h.ab d ha).2 hd⟩, fun d hd => (h.ab d hd).1, fun i hi => ⟨h.rw i hi, fun ha => (h.wr i ha).2 hi⟩, fun i hi => (h.wr i hi).1⟩

section
variable {P : Program} {ops : Array Oper}

theorem updF_out : ∀ (us : List (Nat × AB)) (H : Nat → AB) (i : Nat), i ∉ us.map (·.1) → updF H us i = H i
  | [], _, _, _ => rfl
  | (id, b) :: us, H, i, h => by
    simp only [List.map_cons, List.mem_cons, not_or] at h
    simp only [updF]
    rw [updF_out us _ i h.2]
    simp [upd1, h.1]

theorem updF_in : ∀ (us : List (Nat × AB)) (H H' : Nat → AB) (i : Nat), i ∈ us.map (·.1) → updF H us i = updF H' us i
  | [], _, _, _, h => by simp at h
  | (id, b) :: us, H, H', i, h => by
    simp only [updF]
    by_cases hi : i ∈ us.map (·.1)
    · exact updF_in us _ _ i hi
    · rw [updF_out us _ i hi, updF_out us _ i hi]
      simp only [List.map_cons, List.mem_cons] at h
      have : i = id := h.resolve_right hi
      simp [upd1, this]

theorem DRec.H_out (r : DRec) (s : DSt) {i : Nat} (h : i ∉ r.writes) : (r.on s).H i = s.H i := by
  simp only [DRec.writes, List.mem_append, not_or] at h
  unfold DRec.on
  cases hf : r.fresh with
  | none => exact updF_out _ _ _ h.1
  | some b =>
    have hne : i ≠ r.fid := by simpa [hf] using h.2
    simp only [upd1, if_neg hne]
    exact updF_out _ _ _ h.1

theorem DRec.H_in (r : DRec) (s t : DSt) {i : Nat} (h : i ∈ r.writes) : (r.on s).H i = (r.on t).H i := by
  simp only [DRec.writes, List.mem_append] at h
  unfold DRec.on
  cases hf : r.fresh with
  | none => exact updF_in _ _ _ _ (by simpa [hf] using h)
  | some b =>
    simp only [upd1]
    split
    · rfl
    · rename_i hne
      exact updF_in _ _ _ _ (by simpa [hf, hne] using h)

theorem DRec.comm {a b : DRec} (h : Indep a b) (s : DSt) : b.on (a.on s) = a.on (b.on s) := by
  have ht : (b.on (a.on s)).tmps = (a.on (b.on s)).tmps := by
    unfold DRec.on
    cases ha : a.dst with
    | none => rfl
    | some d =>
      cases hb : b.dst with
      | none => rfl
      | some e =>
        have hne : d ≠ e := fun he => (h.ab d ha).2 (by rw [hb, he])
        simp only
        exact List.set_comm _ _ hne
  have hH : (b.on (a.on s)).H = (a.on (b.on s)).H := by
    funext i
    by_cases hb : i ∈ b.writes
    · have ha : i ∉ a.writes := fun ha => (h.wr i ha).2 hb
      rw [a.H_out (b.on s) ha]
      exact b.H_in _ _ hb
    · rw [b.H_out _ hb]
      by_cases ha : i ∈ a.writes
      · exact a.H_in _ _ ha
      · rw [a.H_out _ ha, a.H_out _ ha, b.H_out _ hb]
  cases hx : b.on (a.on s); cases hy : a.on (b.on s)
  rw [hx, hy] at ht hH
  simp only at ht hH
  subst ht hH; rfl

/-- A read of a temporary that a write leaves alone. -/
theorem DRec.tmp_out (r : DRec) (s : DSt) {t : Tmp} (h : r.dst ≠ some t) : (r.on s).tmps.getD t .undef = s.tmps.getD t .undef := by
  unfold DRec.on
  cases hd : r.dst with
  | none => rfl
  | some d =>
    have hne : d ≠ t := fun he => h (by rw [hd, he])
    simp [List.getD_eq_getElem?_getD, hne]

theorem evalT_congr {l l' : List AV} {o : Oper} (h : ∀ t ∈ o.looksAt ops, l'.getD t .undef = l.getD t .undef) : ∀ x ∈ o.op.operands, evalT l' x = evalT l x := by
  intro x hx
  cases x with
  | tmp t =>
    refine h t ?_
    unfold Oper.looksAt
    exact List.mem_append_left _ (List.mem_filterMap.2 ⟨.tmp t, by simpa using hx, rfl⟩)
  | const v => rfl
  | global k => rfl
  | func f => rfl

theorem wantedT_congr {l l' : List AV} {o : Oper} (h : ∀ t ∈ o.looksAt ops, l'.getD t .undef = l.getD t .undef) : wantedT ops o l' = wantedT ops o l := by
  unfold wantedT
  cases hg : o.guard with
  | none => rfl
  | some p =>
    obtain ⟨j, want⟩ := p
    simp only
    cases hj : (ops[j]?).bind (·.dst) with
    | none => rfl
    | some d =>
      have : l'.getD d .undef = l.getD d .undef := h d (by
        unfold Oper.looksAt
        refine List.mem_append_right _ ?_
        rw [hg]
        simp [hj])
      simp only [this]

mutual
theorem snap_local {rd rd' : Nat → AB} : ∀ (n : Nat) (v : AV) (r : CV × List Nat), snap rd n v = some r → (∀ i ∈ r.2, rd' i = rd i) → snap rd' n v = some r
  | 0, _, _, h, _ => by simp [snap] at h
  | _ + 1, .c v, r, h, _ => by simpa [snap] using h
  | n + 1, .ptr id off, r, h, hr => by
    simp only [snap] at h ⊢
    split at h
    case h_2 => simp at h
    rename_i cells hb
    simp only [Option.map_eq_some_iff] at h
    obtain ⟨l, hl, rfl⟩ := h
    rw [hr id (List.mem_cons_self ..), hb]
    simp only
    rw [snaps_local n cells l hl (fun i hi => hr i (List.mem_cons_of_mem _ hi))]
    rfl
  | n + 1, .msl id sz off len cap, r, h, hr => by
    simp only [snap] at h ⊢
    split at h
    case h_2 => simp at h
    rename_i cells hb
    simp only [Option.map_eq_some_iff] at h
    obtain ⟨l, hl, rfl⟩ := h
    rw [hr id (List.mem_cons_self ..), hb]
    simp only
    rw [snaps_local n cells l hl (fun i hi => hr i (List.mem_cons_of_mem _ hi))]
    rfl
  | n + 1, .map id, r, h, hr => by
    simp only [snap] at h ⊢
    split at h
    case h_2 => simp at h
    rename_i ks vals bs ck hb
    simp only [Option.map_eq_some_iff] at h
    obtain ⟨l, hl, rfl⟩ := h
    rw [hr id (List.mem_cons_self ..), hb]
    simp only
    rw [snaps_local n vals l hl (fun i hi => hr i (List.mem_cons_of_mem _ hi))]
    rfl
  | _ + 1, .yield _, r, h, _ => by simp [snap] at h
  | n + 1, .func fn a b, r, h, hr => by
    simp only [snap, Option.bind_eq_some_iff, Option.map_eq_some_iff] at h ⊢
    obtain ⟨x, hx, y, hy, rfl⟩ := h
    exact ⟨x, snaps_local n a x hx (fun i hi => hr i (List.mem_append_left _ hi)), y, snaps_local n b y hy (fun i hi => hr i (List.mem_append_right _ hi)), rfl⟩
  | n + 1, .iface t v, r, h, hr => by
    simp only [snap, Option.map_eq_some_iff] at h ⊢
    obtain ⟨x, hx, rfl⟩ := h
    exact ⟨x, snap_local n v x hx hr, rfl⟩
  | n + 1, .agg cs, r, h, hr => by
    simp only [snap, Option.map_eq_some_iff] at h ⊢
    obtain ⟨x, hx, rfl⟩ := h
    exact ⟨x, snaps_local n cs x hx hr, rfl⟩
  | n + 1, .tuple cs, r, h, hr => by
    simp only [snap, Option.map_eq_some_iff] at h ⊢
    obtain ⟨x, hx, rfl⟩ := h
    exact ⟨x, snaps_local n cs x hx hr, rfl⟩
theorem snaps_local {rd rd' : Nat → AB} : ∀ (n : Nat) (vs : List AV) (r : List CV × List Nat), snaps rd n vs = some r → (∀ i ∈ r.2, rd' i = rd i) → snaps rd' n vs = some r
  | 0, _, _, h, _ => by simp [snaps] at h
  | _ + 1, [], r, h, _ => by simpa [snaps] using h
  | n + 1, v :: vs, r, h, hr => by
    simp only [snaps, Option.bind_eq_some_iff, Option.map_eq_some_iff] at h ⊢
    obtain ⟨x, hx, y, hy, rfl⟩ := h
    exact ⟨x, snap_local n v x hx (fun i hi => hr i (List.mem_append_left _ hi)), y, snaps_local n vs y hy (fun i hi => hr i (List.mem_append_right _ hi)), rfl⟩
end

theorem Called.at {f : FuncId} {args : List AV} {rd rd' : Nat → AB} {e : AEnd} {ids : List Nat} {us : List (Nat × AB)} (h : Called P f args rd e ids us) (hr : ∀ i ∈ ids, rd' i = rd i) : Called P f args rd' e ids us := by
  obtain ⟨fuel, args', e0, h', pan, fuel', r, h1, h2⟩ := h
  exact ⟨fuel, args', e0, h', pan, fuel', r, snaps_local _ _ _ h1 hr, h2⟩

theorem aop_call_local {o : Oper} {ρ : Operand → AV} {rd rd' : Nat → AB} {fresh : Nat} {f : FuncId} {args : List AV} (h : aop P o ρ rd fresh = some (.call f args)) : aop P o ρ rd' fresh = some (.call f args) := by
  have nosimp : ∀ {x : Option SOut}, simp? x = some (.call f args) → False := by
    intro x hx
    simp [simp?] at hx
  unfold aop at h ⊢
  split at h
  all_goals rename_i ho
  all_goals try exact h
  all_goals try exact (nosimp h).elim
  · split at h
    · exact (nosimp h).elim
    · exact h
  rename_i c
  unfold acall at h ⊢
  try simp only
  split at h
  · rename_i b hb
    split at h
    · exact (nosimp h).elim
    · split at h
      case h_2 => simp at h
      split at h
      · simp at h
      · obtain ⟨v, hv⟩ := pureOp_out h; simp at hv
    · split at h
      case h_2 => simp at h
      exact (nosimp h).elim
    · split at h
      case h_2 => simp at h
      exact (nosimp h).elim
    · simp at h
    · unfold apanic at h; split at h <;> simp at h
    · obtain ⟨v, hv⟩ := pureOp_out h; simp at hv
  · exact h
  · exact h

theorem aop_panic_local {o : Oper} {ρ : Operand → AV} {rd rd' : Nat → AB} {n m : Nat} {v : AV} (h : aop P o ρ rd n = some (.panic v)) : aop P o ρ rd' m = some (.panic v) := by
  have nosimp : ∀ {x : Option SOut}, simp? x = some (.panic v) → False := by
    intro x hx
    simp [simp?] at hx
  unfold aop at h ⊢
  split at h
  all_goals rename_i ho
  all_goals try exact h
  all_goals try exact (nosimp h).elim
  · split at h <;> simp at h
  · split at h
    · exact (nosimp h).elim
    · exact h
  · simp at h
  rename_i c
  unfold acall at h ⊢
  try simp only
  split at h
  · rename_i b hb
    split at h
    · exact (nosimp h).elim
    · split at h
      case h_2 => simp at h
      split at h
      · simp at h
      · obtain ⟨v, hv⟩ := pureOp_out h; simp at hv
    · split at h
      case h_2 => simp at h
      exact (nosimp h).elim
    · split at h
      case h_2 => simp at h
      exact (nosimp h).elim
    · simp at h
    · exact h
    · obtain ⟨v, hv⟩ := pureOp_out h; simp at hv
  · exact h
  · exact h

/-- The operation in another state that agrees where it looks. -/
theorem DStep.at {r : DRec} {s s' : DSt} (h : DStep P ops r s s') {t : DSt} (ht : ∀ d ∈ r.looks, t.tmps.getD d .undef = s.tmps.getD d .undef) (hH : ∀ i ∈ r.reads, t.H i = s.H i) : DStep P ops r t (r.on t) := by
  obtain ⟨⟨o, ho, hl, hdo⟩, _⟩ := h
  rw [hl] at ht
  have hw : wantedT ops o t.tmps = wantedT ops o s.tmps := wantedT_congr ht
  have he : ∀ x ∈ o.op.operands, evalT t.tmps x = evalT s.tmps x := evalT_congr ht
  refine ⟨⟨o, ho, hl, ?_⟩, rfl⟩
  cases hdo with
  | skip hn hd h1 h2 h3 h4 => exact .skip hn hd (hw.trans h1) h2 h3 h4
  | simple hn hd h1 h2 =>
    refine .simple hn hd (hw.trans h1) ?_
    rw [aop_congr he]
    exact aop_local h2 hH
  | call hn hd h1 f args h2 h4 h5 =>
    refine .call hn hd (hw.trans h1) f args ?_ (h4.at hH) h5
    rw [aop_congr he]
    exact aop_call_local h2
  | panics v hn hd hu hf h1 h2 =>
    refine .panics v hn hd hu hf (hw.trans h1) ?_
    rw [aop_congr he]
    exact aop_panic_local h2
  | falls v us hn hd hu hf h1 f args h2 h4 =>
    refine .falls v us hn hd hu hf (hw.trans h1) f args ?_ (h4.at hH)
    rw [aop_congr he]
    exact aop_call_local h2

/-- TWO THAT CHANGE PLACES. -/
theorem DStep.swap {a b : DRec} {s s1 s2 : DSt} (h : Indep a b) (ha : DStep P ops a s s1) (hb : DStep P ops b s1 s2) : DStep P ops b s (b.on s) ∧ DStep P ops a (b.on s) s2 := by
  have e1 := ha.to
  have e2 := hb.to
  subst e1
  have hb' := hb.at (t := s) (fun d hd => (a.tmp_out s (fun hh => (h.ab d hh).1 hd)).symm) (fun i hi => (a.H_out s (fun hh => (h.wr i hh).1 hi)).symm)
  have ha' := ha.at (t := b.on s) (fun d hd => b.tmp_out s (fun hh => h.ba d hh hd)) (fun i hi => b.H_out s (fun hh => h.rw i hh hi))
  refine ⟨hb', ?_⟩
  rw [e2, DRec.comm h]
  exact ha'

/-- One after another. -/
inductive DSteps (P : Program) (ops : Array Oper) : List DRec → DSt → DSt → Prop
  | nil (s) : DSteps P ops [] s s
  | cons {r l s s1 s'} (h : DStep P ops r s s1) (t : DSteps P ops l s1 s') : DSteps P ops (r :: l) s s'

/-- One goes behind some that it may change places with. -/
theorem DSteps.later {r : DRec} : ∀ {l rest : List DRec} {s s' : DSt}, (∀ x ∈ l, Indep r x) → DSteps P ops (r :: (l ++ rest)) s s' → DSteps P ops (l ++ r :: rest) s s'
  | [], _, _, _, _, h => h
  | x :: l, rest, s, s', hl, h => by
    cases h with
    | cons hr h =>
      cases h with
      | cons hx h =>
        obtain ⟨h1, h2⟩ := DStep.swap (hl x (List.mem_cons_self ..)) hr hx
        exact .cons h1 (later (fun y hy => hl y (List.mem_cons_of_mem _ hy)) (.cons h2 h))

/-- ANY ORDER THAT KEEPS WHAT MUST BE KEPT. -/
theorem DSteps.perm {Ord : Nat → Nat → Prop} : ∀ {L : List DRec} {s s' : DSt} {σ : List Nat}, DSteps P ops L s s' →
    L.Pairwise (fun a b => Ord a.idx b.idx ∨ Indep a b) → (L.map (·.idx)).Nodup → σ.Perm (L.map (·.idx)) → σ.Pairwise (fun b a => ¬ Ord a b) →
    ∃ L', L'.map (·.idx) = σ ∧ L'.Perm L ∧ DSteps P ops L' s s'
  | [], s, s', σ, h, _, _, hp, _ => by
    have : σ = [] := by simpa using hp
    subst this
    exact ⟨[], rfl, .refl _, h⟩
  | r :: L, s, s', σ, h, hpw, hnd, hp, ho => by
    cases h with
    | cons hr h =>
      rename_i s1
      simp only [List.map_cons, List.nodup_cons] at hnd
      have hm : r.idx ∈ σ := hp.symm.subset (by simp)
      obtain ⟨α, β, rfl⟩ := List.append_of_mem hm
      have hp' : (α ++ β).Perm (L.map (·.idx)) := by
        have h1 : (α ++ r.idx :: β).Perm (r.idx :: (α ++ β)) := List.perm_middle
        exact List.Perm.cons_inv (h1.symm.trans hp)
      rw [List.pairwise_cons] at hpw
      have ho' : (α ++ β).Pairwise (fun b a => ¬ Ord a b) := by
        rw [List.pairwise_append] at ho ⊢
        obtain ⟨h1, h2, h3⟩ := ho
        rw [List.pairwise_cons] at h2
        exact ⟨h1, h2.2, fun a ha b hb => h3 a ha b (List.mem_cons_of_mem _ hb)⟩
      obtain ⟨L', e', p', d'⟩ := DSteps.perm h hpw.2 hnd.2 hp' ho'
      obtain ⟨La, Lb, rfl, ea, eb⟩ := List.map_eq_append_iff.1 e'
      refine ⟨La ++ r :: Lb, by simp [ea, eb], List.perm_middle.trans (p'.cons r), DSteps.later ?_ (.cons hr d')⟩
      intro x hx
      have hxL : x ∈ L := p'.subset (List.mem_append_left _ hx)
      refine (hpw.1 x hxL).resolve_left (fun hOrd => ?_)
      rw [List.pairwise_append] at ho
      exact ho.2.2 x.idx (ea ▸ List.mem_map_of_mem hx) r.idx (List.mem_cons_self ..) hOrd
end
end Go.Ag
/- Regions whose order is open: what makes no block doesn't name one. -/
namespace Go.Ag
section
variable {P : Program}

theorem box_nofresh {n m : Nat} {x : AV} {r : SOut} (h : abox n x = some r) (hf : r.fresh = none) : abox m x = some r := by
  unfold abox at h ⊢
  repeat' split at h
  all_goals first
    | exact h
    | (simp only [Option.some.injEq] at h; subst h; simp at hf)
    | simp at h

theorem buildSlice_nofresh {n m : Nat} {t : TypeId} {len : Nat} {ps : List (Nat × AV)} {r : SOut} (h : abuildSlice P n t len ps = some r) (hf : r.fresh = none) : abuildSlice P m t len ps = some r := by
  unfold abuildSlice at h ⊢
  repeat' split at h
  all_goals first
    | exact h
    | (simp only [Option.some.injEq] at h; subst h; simp at hf)
    | simp at h

theorem makeSlice_nofresh {n m : Nat} {t : TypeId} {l c : AV} {r : SOut} (h : amakeSlice P n t l c = some r) (hf : r.fresh = none) : amakeSlice P m t l c = some r := by
  unfold amakeSlice at h ⊢
  repeat' split at h
  all_goals first
    | exact h
    | (simp only [Option.some.injEq] at h; subst h; simp at hf)
    | simp at h

theorem appendTo_nofresh {rd : Nat → AB} {n m size k : Nat} {s : AV} {new : List AV} {reads : List Nat} {r : SOut} (h : appendTo rd n size s new k reads = some r) (hf : r.fresh = none) : appendTo rd m size s new k reads = some r := by
  unfold appendTo at h ⊢
  split at h
  · split at h
    · rename_i h0; simp only [h0, if_true]; simpa using h
    · rename_i h0
      split at h
      · simp only [Option.some.injEq] at h; subst h; simp at hf
      · simp at h
  · rename_i id sz off len cap
    split at h
    · simp at h
    rename_i hsz
    split at h
    · rename_i h0; simp only [hsz, if_false, h0, if_true]; exact h
    rename_i h0
    split at h
    case h_2 => simp at h
    rename_i cells hb
    split at h
    · rename_i hroom
      simp only [hsz, if_false, h0, hroom, if_true]
      exact h
    · split at h
      case isFalse => simp at h
      simp only [Option.map_eq_some_iff] at h
      obtain ⟨cs, hp, rfl⟩ := h
      simp at hf
  · split at h
    · rename_i h0; simp only [h0, if_true]; simpa using h
    · simp at h
  · simp at h

theorem append_nofresh {rd : Nat → AB} {n m : Nat} {ts : Array TypeId} {s x : AV} {r : SOut} (h : aappend P rd n ts s x = some r) (hf : r.fresh = none) : aappend P rd m ts s x = some r := by
  unfold aappend at h ⊢
  split at h
  case h_2 => simp at h
  rename_i t u ht hu
  try rw [ht, hu]
  try simp only
  split at h
  case h_2 => simp at h
  rename_i elem du h1 h2
  try rw [h1, h2]
  try simp only
  split at h
  case isFalse => simp at h
  rename_i hs
  try rw [if_pos hs]
  split at h
  case h_2 => simp at h
  rename_i size hsp
  split at h
  case h_2 => simp at h
  rename_i new k reads hfc
  split at h
  case isFalse => simp at h
  rename_i hc
  try simp only [hc, if_true]
  exact appendTo_nofresh h hf

/-- AN OPERATION THAT MAKES NO BLOCK, BESIDE OTHERS THAT DO. -/
theorem aop_nofresh {o : Oper} {ρ : Operand → AV} {rd : Nat → AB} {n m : Nat} {r : SOut} (h : aop P o ρ rd n = some (.simple r)) (hf : r.fresh = none) : aop P o ρ rd m = some (.simple r) := by
  have simp2 : ∀ {x y : Option SOut}, simp? x = some (.simple r) → (x = some r → y = some r) → simp? y = some (.simple r) := by
    intro x y hx hy
    simp only [simp?, Option.map_eq_some_iff] at hx
    obtain ⟨r', h1, h2⟩ := hx
    simp only [Out.simple.injEq] at h2
    subst h2
    rw [hy h1]; rfl
  unfold aop at h ⊢
  split at h
  all_goals rename_i ho
  all_goals try exact h
  all_goals try simp only
  · split at h
    · simp only [Option.some.injEq, Out.simple.injEq] at h; subst h; simp at hf
    · simp at h
  · exact simp2 h (fun h => box_nofresh h hf)
  · exact simp2 h (fun h => buildSlice_nofresh h hf)
  · simp only [Option.some.injEq, Out.simple.injEq] at h; subst h; simp at hf
  · exact simp2 h (fun h => makeSlice_nofresh h hf)
  · rename_i c
    unfold acall at h ⊢
    split at h
    · rename_i b hb
      try simp only
      split at h
      · exact simp2 h (fun h => append_nofresh h hf)
      all_goals exact h
    · exact h
    · exact h

theorem aop_call_nofresh {o : Oper} {ρ : Operand → AV} {rd : Nat → AB} {n m : Nat} {f : FuncId} {args : List AV} (h : aop P o ρ rd n = some (.call f args)) : aop P o ρ rd m = some (.call f args) := by
  have nosimp : ∀ {x : Option SOut}, simp? x = some (.call f args) → False := by
    intro x hx
    simp [simp?] at hx
  unfold aop at h ⊢
  split at h
  all_goals rename_i ho
  all_goals try exact h
  all_goals try exact (nosimp h).elim
  · split at h <;> simp at h
  · simp at h
  · rename_i c
    unfold acall at h ⊢
    try simp only
    split at h
    · rename_i b hb
      split at h
      · exact (nosimp h).elim
      all_goals exact h
    · exact h
    · exact h
end
end Go.Ag
/- Regions whose order is open: an operation, as the program does it. -/
namespace Go.Ag
section
variable {P : Program} {ops : Array Oper}

theorem wanted_specT {g : G} {tmps : List AV} {fr : Frame} (hl : tmps.length = fr.tmps.size) (hp : Pw (Rep g) tmps fr.tmps.toList) {o : Oper} {b : Bool} (hw : wantedT ops o tmps = some b) : Region.wanted o (yielded ops fr.tmps) = b := by
  unfold wantedT at hw
  unfold Region.wanted
  split at hw
  · rename_i hg; rw [hg]; simpa using hw
  · rename_i j want hg
    rw [hg]
    simp only
    split at hw
    · rename_i hj
      simp only [Option.some.injEq] at hw
      subst hw
      have : yielded ops fr.tmps j = none := by
        unfold yielded
        rw [hj]; rfl
      rw [this]; rfl
    · rename_i d hj
      have hy : yielded ops fr.tmps j = match fr.tmps[d]? with | some (.bool b) => some b | _ => none := by
        unfold yielded
        rw [hj]; rfl
      rw [hy]
      have hrep := getD_rep hl hp d
      have hdef : fr.tmps.getD d undef = (fr.tmps[d]?).getD undef := Array.getD_eq_getD_getElem? ..
      split at hw
      · rename_i b' hb'
        rw [hb', hdef] at hrep
        simp only [Rep, RepC] at hrep
        simp only [Option.some.injEq] at hw
        subst hw
        cases hx : fr.tmps[d]? with
        | none => rw [hx] at hrep; simp [undef] at hrep
        | some u =>
          rw [hx] at hrep
          simp only [Option.getD_some] at hrep
          subst hrep
          cases b' <;> cases want <;> rfl
      · rename_i vs hb'
        rw [hb', hdef] at hrep
        simp only [Rep, RepC] at hrep
        simp only [Option.some.injEq] at hw
        subst hw
        cases hx : fr.tmps[d]? with
        | none => rfl
        | some u =>
          rw [hx] at hrep
          simp only [Option.getD_some] at hrep
          subst hrep
          rfl
      · simp at hw

theorem evalT_rep {g : G} {tmps : List AV} {fr : Frame} (hl : tmps.length = fr.tmps.size) (hp : Pw (Rep g) tmps fr.tmps.toList) (x : Operand) : Rep g (evalT tmps x) (fr.eval x) := by
  cases x with
  | tmp t => exact getD_rep hl hp t
  | const v => exact rep_const v
  | global k => trivial
  | func f => exact ⟨#[], #[], rfl, rfl, trivial, rfl, trivial⟩

/-- The frame after an operation. -/
theorem finish_eq {fr : Frame} {i : Nat} {rest : List Nat} {k : List Item} (ht : fr.todo = .inRegion ops (i :: rest) :: k) {o : Oper} (ho : ops[i]? = some o) (v : Value) :
    fr.finish v = { fr with tmps := (match o.dst with | some d => fr.tmps.setIfInBounds d v | none => fr.tmps), todo := .inRegion ops rest :: k } := by
  unfold Frame.finish
  simp only [ht, ho, Option.bind_some]
  cases o.dst <;> rfl

structure TmpRel (g : G) (l : List AV) (a : Array Value) : Prop where
  len : l.length = a.size
  pw : Pw (Rep g) l a.toList

theorem on_tmps {g g' : G} (hle : g.le g') {r : DRec} {d : DSt} {a : Array Value} {v : Value} (h : TmpRel g d.tmps a) (hv : Rep g' r.val v) :
    TmpRel g' (r.on d).tmps (match r.dst with | some d => a.setIfInBounds d v | none => a) := by
  unfold DRec.on
  cases r.dst with
  | none => exact ⟨h.len, pw_mono hle h.pw⟩
  | some t => exact ⟨by simpa using h.len, by simp only [Array.toList_setIfInBounds]; exact (pw_mono hle h.pw).set t hv⟩

theorem dstep_ok {r : DRec} {d d' : DSt} (h : DStep P ops r d d') {g : G} {fr : Frame} {cs : List Frame} {w : World} {rest : List Nat} {k : List Item}
    (hpan : r.pan = none) (hi : Inv g d.H w) (hn : r.fresh.isSome = true → ¬ g.A r.fid) (hm' : ∃ m, ¬ g.A m) (htr : TmpRel g d.tmps fr.tmps) (ht : fr.todo = .inRegion ops (r.idx :: rest) :: k) (hm : fr.mode = .run) :
    ∃ g' w' tm, Steps P (lone fr cs w) (lone { fr with tmps := tm, todo := .inRegion ops rest :: k } cs w') ∧ Inv g' d'.H w' ∧ (∀ i, g'.A i ↔ g.A i ∨ (r.fresh.isSome = true ∧ i = r.fid)) ∧ Evolves g d.H w g' d'.H w' ∧ TmpRel g' d'.tmps tm := by
  obtain ⟨⟨o, ho, hlooks, hdo⟩, hto⟩ := h
  subst hto
  have hdst : r.dst = o.dst := by
    cases hdo with
    | skip _ hd _ _ _ _ => exact hd
    | simple _ hd _ _ => exact hd
    | call _ hd _ _ _ _ _ _ => exact hd
    | panics v hn _ _ _ _ _ => rw [hpan] at hn; cases hn
    | falls v us hn _ _ _ _ _ _ _ _ => rw [hpan] at hn; cases hn
  have fin : ∀ v, fr.finish v = { fr with tmps := (match r.dst with | some d => fr.tmps.setIfInBounds d v | none => fr.tmps), todo := .inRegion ops rest :: k } := by
    intro v; rw [hdst]; exact finish_eq ht ho v
  cases hdo with
  | panics v hn _ _ _ _ _ => rw [hpan] at hn; cases hn
  | falls v us hn _ _ _ _ _ _ _ _ => rw [hpan] at hn; cases hn
  | skip _ _ hw hv hu hf =>
    refine ⟨g, w, _, ?_, ?_, ?_, ?_, on_tmps (.refl g) htr (v := undef) (by rw [hv]; rfl)⟩
    · rw [← fin undef]
      exact op_skip hm ht ho (wanted_specT htr.len htr.pw hw)
    · simpa [DRec.on, hf, hu, updF] using hi
    · simp [hf]
    · have : (r.on d).H = d.H := by simp [DRec.on, hf, hu, updF]
      rw [this]; exact .refl _ _ _
  | simple _ _ hw ha =>
    obtain ⟨m, hmA, ha'⟩ : ∃ m, ¬ g.A m ∧ aop P o (evalT d.tmps) d.H m = some (.simple { val := r.val, reads := r.reads, upds := r.upds, fresh := r.fresh }) ∧ (r.fresh.isSome = true → m = r.fid) := by
      cases hf : r.fresh with
      | none =>
        obtain ⟨m, hmm⟩ := hm'
        exact ⟨m, hmm, by rw [← hf]; exact aop_nofresh ha hf, by simp⟩
      | some b => exact ⟨r.fid, hn (by simp [hf]), by rw [← hf]; exact ha, fun _ => rfl⟩
    obtain ⟨ha', hmf⟩ := ha'
    obtain ⟨v, w', g', hres, hrv, hinv, hev, hA, hup⟩ := aop_sim (P := P) (w := w) hi (σ := fr.eval) (evalT_rep htr.len htr.pw) hmA ha'
    have he : effect d.H m { val := r.val, reads := r.reads, upds := r.upds, fresh := r.fresh } = (r.on d).H := by
      unfold effect DRec.on
      cases hf : r.fresh with
      | none => rfl
      | some b => simp only; rw [hmf (by simp [hf])]
    rw [he] at hinv hev
    have hnd : fr.roundOf = none ∨ ∀ c, o.op ≠ .defer c := .inr (fun c hc => by obtain ⟨_, _, hh⟩ := aop_defer hc ha; cases hh)
    refine ⟨g', w', _, ?_, hinv, ?_, hev, on_tmps hev.le htr hrv⟩
    · rw [← fin v]
      refine step_go ?_
      rw [op_do hm ht ho (wanted_specT htr.len htr.pw hw) hnd]
      rcases hres with hres | ⟨hres, rfl⟩
      · exact apply_value hres
      · exact apply_skip hres
    · intro i
      rw [hA]
      simp only
      constructor
      · rintro (h | ⟨h1, rfl⟩)
        · exact .inl h
        · exact .inr ⟨h1, hmf h1⟩
      · rintro (h | ⟨h1, rfl⟩)
        · exact .inl h
        · exact .inr ⟨h1, (hmf h1).symm⟩
  | call _ _ hw f args ha hc hf =>
    obtain ⟨m, hmm⟩ := hm'
    obtain ⟨_, vs, hres, hl, hpw⟩ := aop_sim (P := P) (w := w) hi (σ := fr.eval) (evalT_rep htr.len htr.pw) hmm (aop_call_nofresh (m := m) ha)
    have hnd : fr.roundOf = none ∨ ∀ c, o.op ≠ .defer c := .inr (fun c hc => by obtain ⟨_, _, hh⟩ := aop_defer hc ha; cases hh)
    have h1 : Steps P (lone fr cs w) (lone (Frame.enter P f vs .normal) (fr :: cs) w) := by
      refine step_go ?_
      rw [op_do hm ht ho (wanted_specT htr.len htr.pw hw) hnd]
      exact apply_enter (by rw [ht]; intro _ _ _ _ _ hh; simp at hh) hres
    obtain ⟨fuel, args', e', h', pan, fuel', r', hs, hok, hsn, hc1, hc3⟩ := hc
    obtain ⟨g', fr', w', k1, k2, k3, k4, k5, k6, k7, k8⟩ := pure_okF hi hl hpw hs hok hsn (fr :: cs)
    have he : updF d.H (killed r'.1 r.reads) = (r.on d).H := by
      unfold DRec.on
      rw [hf, hc3]
    skip
    rw [he] at k2 k4
    have k8' : EndOk P g' f fr' w' (.ret r.val) := by rw [hc1]; exact k8
    obtain ⟨u, hu, hst⟩ := leave_ret (fr := fr) (cs := cs) k8' k5 k6 k7
    refine ⟨g', w', _, ?_, k2, ?_, k4, on_tmps k4.le htr hu⟩
    · rw [← fin u]
      exact h1.trans (k1.trans hst)
    · intro i; rw [k3]; simp [hf]

theorem dsteps_ok : ∀ {L : List DRec} {d d' : DSt}, DSteps P ops L d d' → ∀ {g : G} {fr : Frame} {cs : List Frame} {w : World} {rest : List Nat} {k : List Item} (B : Nat),
    Inv g d.H w → (∀ i, g.A i → i < B) → (∀ r ∈ L, r.pan = none) → (∀ r ∈ L, r.fresh.isSome = true → ¬ g.A r.fid ∧ r.fid < B) → L.Pairwise (fun a b => a.fresh.isSome = true → b.fresh.isSome = true → a.fid ≠ b.fid) →
    TmpRel g d.tmps fr.tmps → fr.todo = .inRegion ops (L.map (·.idx) ++ rest) :: k → fr.mode = .run →
    ∃ g' w' tm, Steps P (lone fr cs w) (lone { fr with tmps := tm, todo := .inRegion ops rest :: k } cs w') ∧ Inv g' d'.H w' ∧ (∀ i, g'.A i ↔ g.A i ∨ ∃ r ∈ L, r.fresh.isSome = true ∧ i = r.fid) ∧ Evolves g d.H w g' d'.H w' ∧ TmpRel g' d'.tmps tm := by
  intro L d d' h
  induction h with
  | nil s =>
    intro g fr cs w rest k B hi hA hN hL hp htr ht hm
    have e : ({ fr with tmps := fr.tmps, todo := .inRegion ops rest :: k } : Frame) = fr := by cases fr; simp only at ht; subst ht; rfl
    exact ⟨g, w, fr.tmps, by rw [e]; exact .refl _ _, hi, by simp, .refl _ _ _, htr⟩
  | @cons r l s s1 s' h t ih =>
    intro g fr cs w rest k B hi hA hN hL hp htr ht hm
    obtain ⟨g1, w1, tm1, a1, a2, a3, a4, a5⟩ := dstep_ok h (cs := cs) (hN r (List.mem_cons_self ..)) hi (fun hf => (hL r (List.mem_cons_self ..) hf).1) ⟨B, fun hb => Nat.lt_irrefl _ (hA _ hb)⟩ htr ht hm
    rw [List.pairwise_cons] at hp
    obtain ⟨g2, w2, tm2, b1, b2, b3, b4, b5⟩ := ih (g := g1) (fr := { fr with tmps := tm1, todo := .inRegion ops (l.map (·.idx) ++ rest) :: k }) (cs := cs) (w := w1) (rest := rest) (k := k) B a2
      (fun i hi' => by
        rcases (a3 i).1 hi' with h1 | ⟨h1, rfl⟩
        · exact hA i h1
        · exact (hL r (List.mem_cons_self ..) h1).2)
      (fun x hx => hN x (List.mem_cons_of_mem _ hx))
      (fun x hx hf => ⟨fun hb => by
        rcases (a3 _).1 hb with h1 | ⟨h1, h2⟩
        · exact (hL x (List.mem_cons_of_mem _ hx) hf).1 h1
        · exact hp.1 x hx h1 hf h2.symm, (hL x (List.mem_cons_of_mem _ hx) hf).2⟩)
      hp.2 a5 rfl hm
    refine ⟨g2, w2, tm2, a1.trans b1, b2, ?_, a4.trans b4, b5⟩
    intro i
    rw [b3, a3]
    simp only [List.mem_cons, exists_eq_or_imp, or_assoc]
end
end Go.Ag
/- Regions whose order is open: what the orders are. -/
namespace Go.Ag

/-- One must come before another. -/
def Before (ms : List Nat) (a b : Nat) : Prop := (ms.getD b 0).testBit a = true

section
variable {ops : Array Oper}

theorem foldl_mask (ms : List Nat) (a : Nat) : ∀ (l : List Edge) (s : Nat), (l.foldl (fun s e => if Region.binds .any e then s ||| (2 ^ e.on ||| ms.getD e.on 0) else s) s).testBit a = true →
    s.testBit a = true ∨ ∃ e ∈ l, Region.binds .any e = true ∧ (e.on = a ∨ Before ms a e.on)
  | [], s, h => .inl h
  | e :: l, s, h => by
    simp only [List.foldl_cons] at h
    rcases foldl_mask ms a l _ h with h1 | ⟨e', h1, h2⟩
    · split at h1
      · rename_i hb
        rw [Nat.testBit_or, Nat.testBit_or, Nat.testBit_two_pow] at h1
        simp only [Bool.or_eq_true, decide_eq_true_eq] at h1
        rcases h1 with h1 | h1 | h1
        · exact .inl h1
        · exact .inr ⟨e, List.mem_cons_self .., hb, .inl h1⟩
        · exact .inr ⟨e, List.mem_cons_self .., hb, .inr h1⟩
      · exact .inl h1
    · exact .inr ⟨e', List.mem_cons_of_mem _ h1, h2⟩

theorem masksGo_spec : ∀ (os : List Oper) (ms : List Nat) (j : Nat), (j < ms.length → (masksGo os ms).getD j 0 = ms.getD j 0) ∧
    (∀ o, os[j]? = some o → ∃ ms', (masksGo os ms).getD (ms.length + j) 0 = maskOf ms' o ∧ ∀ i, ms'.getD i 0 = (masksGo os ms).getD i 0 ∨ ms'.getD i 0 = 0)
  | [], ms, j => ⟨fun _ => rfl, by simp⟩
  | o :: os, ms, j => by
    have ih := fun k => masksGo_spec os (ms ++ [maskOf ms o]) k
    have pre : ∀ k, k < ms.length → (masksGo (o :: os) ms).getD k 0 = ms.getD k 0 := by
      intro k hk
      simp only [masksGo]
      rw [(ih k).1 (by simp; omega)]
      simp [List.getD_eq_getElem?_getD, List.getElem?_append_left hk]
    refine ⟨pre j, ?_⟩
    intro o' ho'
    cases j with
    | zero =>
      simp only [List.getElem?_cons_zero, Option.some.injEq] at ho'
      subst ho'
      refine ⟨ms, ?_, ?_⟩
      · simp only [masksGo, Nat.add_zero]
        rw [(ih ms.length).1 (by simp)]
        simp [List.getD_eq_getElem?_getD]
      · intro i
        by_cases hi : i < ms.length
        · exact .inl (pre i hi).symm
        · exact .inr (by rw [List.getD_eq_getElem?_getD, List.getElem?_eq_none (by omega)]; rfl)
    | succ j =>
      simp only [List.getElem?_cons_succ] at ho'
      obtain ⟨ms', h1, h2⟩ := (ih j).2 o' ho'
      refine ⟨ms', ?_, h2⟩
      simp only [masksGo]
      rw [← h1]
      congr 1
      simp; omega

/-- What comes before stands before at once, or through another. -/
theorem before_step {a b : Nat} (h : Before (masks ops) a b) : ∃ o, ops[b]? = some o ∧ ∃ e ∈ o.after, Region.binds .any e = true ∧ (e.on = a ∨ Before (masks ops) a e.on) := by
  cases ho : ops.toList[b]? with
  | none =>
    exfalso
    have hlen : ∀ (os : List Oper) (ms : List Nat), (masksGo os ms).length = ms.length + os.length := by
      intro os
      induction os with
      | nil => intro ms; rfl
      | cons o os ih => intro ms; simp only [masksGo, ih]; simp; omega
    unfold Before at h
    have hb : ops.toList.length ≤ b := by simpa using ho
    rw [List.getD_eq_getElem?_getD, List.getElem?_eq_none (by rw [masks, hlen]; simpa using hb)] at h
    simp at h
  | some o =>
    obtain ⟨ms', h1, h2⟩ := (masksGo_spec ops.toList [] b).2 o ho
    refine ⟨o, by simpa using ho, ?_⟩
    unfold Before at h
    rw [masks] at h
    simp only [List.length_nil, Nat.zero_add] at h1
    rw [h1] at h
    rcases foldl_mask ms' a o.after.toList 0 h with h3 | ⟨e, h3, h4, h5⟩
    · simp at h3
    · refine ⟨e, by simpa using h3, h4, h5.imp id fun h6 => ?_⟩
      unfold Before at h6 ⊢
      rcases h2 e.on with h7 | h7
      · rw [masks, ← h7]; exact h6
      · rw [h7] at h6; simp at h6

theorem backGo_spec : ∀ (os : List Oper) (n : Nat), backGo os n = true → ∀ (j : Nat) (o : Oper), os[j]? = some o → ∀ e ∈ o.after, Region.binds .any e = true → e.on < n + j
  | [], _, _, _, _, h, _, _, _ => by simp at h
  | o :: os, n, hb, j, o', ho, e, he, hbi => by
    simp only [backGo, Bool.and_eq_true, List.all_eq_true] at hb
    cases j with
    | zero =>
      simp only [List.getElem?_cons_zero, Option.some.injEq] at ho
      subst ho
      have := hb.1 e (by simpa using he)
      simpa [hbi] using this
    | succ j =>
      have := backGo_spec os (n + 1) hb.2 j o' (by simpa using ho) e he hbi
      omega

/-- Each operation stands after what must come before it at once. -/
def Lin (ops : Array Oper) (σ : List Nat) : Prop := ∀ α j β, σ = α ++ j :: β → ∀ o, ops[j]? = some o → ∀ e ∈ o.after, Region.binds .any e = true → e.on ∈ α

theorem lin_before {σ : List Nat} (h : Lin ops σ) : ∀ (n : Nat) (α : List Nat) (j : Nat) (β : List Nat), α.length = n → σ = α ++ j :: β → ∀ a, Before (masks ops) a j → a ∈ α := by
  intro n
  induction n using Nat.strongRecOn with
  | _ n ih =>
    intro α j β hn hσ a ha
    obtain ⟨o, ho, e, he, hb, hc⟩ := before_step ha
    have hmem := h α j β hσ o ho e he hb
    rcases hc with rfl | hc
    · exact hmem
    · obtain ⟨α1, α2, rfl⟩ := List.append_of_mem hmem
      exact List.mem_append_left _ (ih α1.length (by rw [← hn]; simp) α1 e.on (α2 ++ j :: β) rfl (by rw [hσ]; simp) a hc)

theorem lin_pairwise {σ : List Nat} (h : Lin ops σ) (hn : σ.Nodup) : σ.Pairwise (fun b a => ¬ Before (masks ops) a b) := by
  have key : ∀ (τ α : List Nat), σ = α ++ τ → τ.Pairwise (fun b a => ¬ Before (masks ops) a b) := by
    intro τ
    induction τ with
    | nil => intro α _; exact .nil
    | cons b τ ih =>
      intro α hα
      refine List.Pairwise.cons (fun a ha hB => ?_) (ih (α ++ [b]) (by simpa using hα))
      have h1 := lin_before h α.length α b τ rfl hα a hB
      rw [hα, List.nodup_append] at hn
      exact hn.2.2 a h1 a (List.mem_cons_of_mem _ ha) rfl
  exact key σ [] rfl

theorem before_lt (hb : backGo ops.toList 0 = true) : ∀ (b a : Nat), Before (masks ops) a b → a < b := by
  intro b
  induction b using Nat.strongRecOn with
  | _ b ih =>
    intro a ha
    obtain ⟨o, ho, e, he, hbi, hc⟩ := before_step ha
    have h1 := backGo_spec ops.toList 0 hb b o (by simpa using ho) e he hbi
    simp only [Nat.zero_add] at h1
    rcases hc with rfl | hc
    · exact h1
    · have := ih e.on h1 a hc; omega

/-- The smallest that is not there. -/
theorem least_missing {α : List Nat} : ∀ (n : Nat), (∃ i, i < n ∧ i ∉ α) → ∃ i, i < n ∧ i ∉ α ∧ ∀ k, k < i → k ∈ α
  | 0, ⟨_, h, _⟩ => absurd h (Nat.not_lt_zero _)
  | n + 1, h => by
    by_cases h' : ∃ i, i < n ∧ i ∉ α
    · obtain ⟨i, h1, h2, h3⟩ := least_missing n h'
      exact ⟨i, by omega, h2, h3⟩
    · obtain ⟨i, h1, h2⟩ := h
      have hi : i = n := by
        rcases Nat.lt_or_ge i n with h3 | h3
        · exact absurd ⟨i, h3, h2⟩ h'
        · omega
      subst hi
      exact ⟨i, by omega, h2, fun k hk => Classical.byContradiction fun hn => h' ⟨k, hk, hn⟩⟩

theorem go_lin (hb : backGo ops.toList 0 = true) : ∀ (fuel t : Nat) (listed : Array Bool) (α : List Nat), (∀ i, i < ops.size → (listed.getD i false = true ↔ i ∈ α)) → listed.size = ops.size → α.Nodup → (∀ i ∈ α, i < ops.size) →
    α.length + fuel = ops.size → Lin ops α → (α ++ Region.linearise.go .any ops fuel t listed []).Nodup ∧ (∀ i ∈ α ++ Region.linearise.go .any ops fuel t listed [], i < ops.size) ∧
      (α ++ Region.linearise.go .any ops fuel t listed []).length = ops.size ∧ Lin ops (α ++ Region.linearise.go .any ops fuel t listed []) := by
  intro fuel
  induction fuel with
  | zero =>
    intro t listed α h1 h2 h3 h4 h5 h6
    simp only [Region.linearise.go, List.reverse_nil, List.append_nil]
    exact ⟨h3, h4, by omega, h6⟩
  | succ fuel ih =>
    intro t listed α h1 h2 h3 h4 h5 h6
    have memr : ∀ i, i ∈ Region.ready .any ops listed ↔ (i < ops.size ∧ i ∉ α ∧ ∀ o, ops[i]? = some o → ∀ e ∈ o.after, Region.binds .any e = true → e.on < ops.size → e.on ∈ α) ∧ i < ops.size := by
      intro i
      rw [mem_ready]
      constructor
      · rintro ⟨a1, o, a2, a3⟩
        have hlt : i < ops.size := (Array.getElem?_eq_some_iff.1 a2).1
        refine ⟨⟨hlt, ?_, ?_⟩, hlt⟩
        · intro hm
          have := (h1 i hlt).2 hm
          have hl' : i < listed.size := by omega
          simp [Array.getD, hl'] at a1 this
          rw [a1] at this; cases this
        · intro o' ho' e he hbi hlt'
          rw [a2] at ho'; cases ho'
          exact (h1 e.on hlt').1 (a3 e he hbi)
      · rintro ⟨⟨hlt, a1, a2⟩, _⟩
        have hl' : i < listed.size := by omega
        refine ⟨?_, ops[i], by simp [hlt], ?_⟩
        · have : ¬ listed.getD i false = true := fun hh => a1 ((h1 i hlt).1 hh)
          simpa [Array.getD, hl'] using this
        · intro e he hbi
          have hlt' := backGo_spec ops.toList 0 hb i ops[i] (by simp [hlt]) e he hbi
          exact (h1 e.on (by omega)).2 (a2 ops[i] (by simp [hlt]) e he hbi (by omega))
    have hex : ∃ i, i < ops.size ∧ i ∉ α := by
      refine Classical.byContradiction fun hn => ?_
      have hsub : List.range ops.size ⊆ α := fun i hi => Classical.byContradiction fun hm => hn ⟨i, List.mem_range.1 hi, hm⟩
      have := List.Nodup.length_le_of_subset List.nodup_range hsub
      simp at this; omega
    obtain ⟨i0, b1, b2, b3⟩ := least_missing _ hex
    have hne : Region.ready .any ops listed ≠ [] := by
      have : i0 ∈ Region.ready .any ops listed := (memr i0).2 ⟨⟨b1, b2, fun o ho e he hbi _ => b3 _ (by have := backGo_spec ops.toList 0 hb i0 o (by simpa using ho) e he hbi; omega)⟩, b1⟩
      intro hn; rw [hn] at this; cases this
    have hgo : Region.linearise.go .any ops (fuel + 1) t listed [] = (match (Region.ready .any ops listed)[t % (Region.ready .any ops listed).length]? with
      | some i => Region.linearise.go .any ops fuel (t / (Region.ready .any ops listed).length) (listed.setIfInBounds i true) [i]
      | none => [].reverse) := rfl
    rw [hgo]
    have hpos : 0 < (Region.ready .any ops listed).length := List.length_pos_iff.2 hne
    have hlt := Nat.mod_lt t hpos
    rw [List.getElem?_eq_getElem hlt]
    simp only
    generalize hi : (Region.ready .any ops listed)[t % (Region.ready .any ops listed).length] = i
    have him : i ∈ Region.ready .any ops listed := by rw [← hi]; exact List.getElem_mem _
    obtain ⟨⟨c1, c2, c3⟩, _⟩ := (memr i).1 him
    rw [linearise_go_acc, List.reverse_singleton]
    have hassoc : α ++ ([i] ++ Region.linearise.go .any ops fuel (t / (Region.ready .any ops listed).length) (listed.setIfInBounds i true) []) = (α ++ [i]) ++ Region.linearise.go .any ops fuel (t / (Region.ready .any ops listed).length) (listed.setIfInBounds i true) [] := by simp
    rw [hassoc]
    refine ih _ _ (α ++ [i]) ?_ (by simpa using h2) ?_ ?_ (by simp; omega) ?_
    · intro k hk
      by_cases hki : i = k
      · subst hki
        have : i < listed.size := by omega
        simp [this]
      · rw [getD_set_ne false hki, h1 k hk]
        simp [Ne.symm hki]
    · rw [List.nodup_append]
      exact ⟨h3, by simp, fun a ha b hb' => by simp at hb'; subst hb'; exact fun h => c2 (h ▸ ha)⟩
    · intro k hk
      simp only [List.mem_append, List.mem_singleton] at hk
      rcases hk with hk | rfl
      · exact h4 k hk
      · exact c1
    · intro α' j β' he o ho e hee hbi
      rcases List.eq_nil_or_concat β' with rfl | ⟨β'', x, rfl⟩
      · have : α = α' ∧ i = j := by
          have := List.append_inj' he rfl
          exact ⟨this.1, by simpa using this.2⟩
        obtain ⟨rfl, rfl⟩ := this
        exact c3 o ho e hee hbi (by have := backGo_spec ops.toList 0 hb i o (by simpa using ho) e hee hbi; omega)
      · have h7 : α ++ [i] = (α' ++ j :: β'') ++ [x] := by rw [he]; simp
        have := (List.append_inj' h7 rfl).1
        exact h6 α' j β'' this o ho e hee hbi

/-- THE ORDERS OF AN OPEN REGION. -/
theorem linearise_spec (hb : backGo ops.toList 0 = true) (t : Nat) : (Region.linearise .any ops t).Perm (List.range ops.size) ∧ (Region.linearise .any ops t).Pairwise (fun b a => ¬ Before (masks ops) a b) := by
  obtain ⟨h1, h2, h3, h4⟩ := go_lin hb ops.size t (Array.replicate ops.size false) [] (fun i hi => by simp [hi]) (by simp) .nil (by simp) (by simp) (fun α j β h => by simp at h)
  simp only [List.nil_append] at h1 h2 h3 h4
  have hsub : Region.linearise.go .any ops ops.size t (Array.replicate ops.size false) [] ⊆ List.range ops.size := fun i hi => List.mem_range.2 (h2 i hi)
  refine ⟨?_, lin_pairwise h4 h1⟩
  refine (List.perm_ext_iff_of_nodup h1 List.nodup_range).2 fun a => ⟨fun h => hsub h, fun ha => Classical.byContradiction fun hn => ?_⟩
  have hnd : (a :: Region.linearise.go .any ops ops.size t (Array.replicate ops.size false) []).Nodup := List.nodup_cons.2 ⟨hn, h1⟩
  have := List.Nodup.length_le_of_subset hnd (fun x hx => by
    rcases List.mem_cons.1 hx with rfl | hx
    · exact ha
    · exact hsub hx : _ ⊆ List.range ops.size)
  simp only [List.length_cons, h3, List.length_range] at this
  omega
end
end Go.Ag
/- Regions whose order is open: the evaluator is right there, too. -/
namespace Go.Ag
section
variable {C : Cfg} {rec : Task → Option Res} {ops : Array Oper}

theorem indepB_spec {a b : DRec} (h : indepB a b = true) : Indep a b := by
  unfold indepB at h
  simp only [Bool.and_eq_true, List.all_eq_true] at h
  obtain ⟨⟨⟨h1, h2⟩, h3⟩, h4⟩ := h
  refine ⟨?_, ?_, ?_, ?_⟩
  · intro d hd
    rw [hd] at h1
    simp only [Bool.and_eq_true] at h1
    exact ⟨by simpa using h1.1, by simpa using h1.2⟩
  · intro d hd
    rw [hd] at h2
    simpa using h2
  · intro i hi
    have := h3 i hi
    exact ⟨by simpa using this.1, by simpa using this.2⟩
  · intro i hi
    simpa using h4 i hi

theorem pairsOk_spec {ms : List Nat} : ∀ {l : List DRec}, pairsOk ms l = true → l.Pairwise (fun a b => Before ms a.idx b.idx ∨ Indep a b)
  | [], _ => .nil
  | r :: l, h => by
    simp only [pairsOk, Bool.and_eq_true, List.all_eq_true] at h
    refine List.Pairwise.cons (fun x hx => ?_) (pairsOk_spec h.2)
    have := h.1 x hx
    simp only [Bool.or_eq_true] at this
    exact this.imp id indepB_spec

def ASt.d (s : ASt) : DSt := ⟨s.tmps.toList .undef, Heap.at s.h⟩

structure OpDone (P : Program) (ops : Array Oper) (i : Nat) (s s1 : ASt) (r : DRec) : Prop where
  step : DStep P ops r s.d s1.d
  idx : r.idx = i
  fid : r.fid = s.h.n
  quiet : r.pan = none
  len : s1.h.n = s.h.n + (if r.fresh.isSome then 1 else 0)
  defers : s1.defers = s.defers
  pan : s1.pan = s.pan
  round : s1.round = s.round
  same : r.upds = [] → r.fresh = none → s1.h = s.h
  tn : s1.tmps.n = s.tmps.n

theorem on_eq {r : DRec} {s : ASt} {o : Oper} (hd : r.dst = o.dst) {h' : Heap} (hh : Heap.at h' = (r.on s.d).H) : (({ s with h := h' } : ASt).put o.dst r.val).d = r.on s.d := by
  unfold ASt.d ASt.put DRec.on at *
  rw [hd]
  cases o.dst with
  | none => simp only; rw [hh]
  | some d => simp only [TMap.toList_set]; rw [hh]

theorem killed_at {r : CV} {ids : List Nat} (h : Heap) : Heap.at (Heap.upd h (killed r ids)) = updF (Heap.at h) (killed r ids) := by
  unfold killed
  split
  · rfl
  · exact heap_kill ids h

theorem called_of (hcon : ConOk C) (hrec : ∀ t r, rec t = some r → Sound C.P t r) {f : FuncId} {args : List AV} {rd : Nat → AB} {e : AEnd} {ids : List Nat} {us : List (Nat × AB)} (h : pureCall C rec f args rd = some (e, ids, us)) : Called C.P f args rd e ids us := by
  unfold pureCall at h
  split at h
  · simp at h
  rename_i args' ids' hs
  split at h
  · simp at h
  rename_i e' h' hpr
  split at h
  · simp at h
  rename_i r' ids2 hsn
  simp only [Option.some.injEq, Prod.mk.injEq] at h
  obtain ⟨rfl, rfl, rfl⟩ := h
  obtain ⟨pan, hok⟩ := pureRes_ok hcon hrec hpr
  exact ⟨_, args', e', h', pan, _, (r', ids2), hs, hok, hsn, rfl, rfl⟩

theorem drawnOp_done (hcon : ConOk C) (hrec : ∀ t r, rec t = some r → Sound C.P t r) {i : Nat} {s s1 : ASt} {r : DRec} (h : drawnOp C rec ops i s = some (s1, r)) : OpDone C.P ops i s s1 r := by
  have tm : evalT s.d.tmps = s.eval := (eval_evalT s).symm
  have tw : ∀ o, wantedT ops o s.d.tmps = wantedA ops o s := fun o => (wanted_wantedT ops o s).symm
  unfold drawnOp at h
  split at h
  · simp at h
  rename_i o ho
  split at h
  · simp at h
  · rename_i hw
    simp only [Option.some.injEq, Prod.mk.injEq] at h
    obtain ⟨rfl, rfl⟩ := h
    have e0 : s.put o.dst .undef = ({ s with h := s.h } : ASt).put o.dst .undef := rfl
    refine ⟨⟨⟨o, ho, rfl, .skip rfl rfl ((tw _).trans hw) rfl rfl rfl⟩, ?_⟩, rfl, rfl, rfl, ?_, ?_, ?_, ?_, ?_, ?_⟩
    · rw [e0]; exact on_eq (r := ⟨i, o.dst, o.looksAt ops, .undef, [], [], none, s.h.n, none⟩) rfl rfl
    all_goals (cases hd : o.dst <;> simp [ASt.put])
  · rename_i hw
    split at h
    · rename_i r' ha
      split at h
      case isFalse => simp at h
      rename_i hall
      simp only [Option.some.injEq, Prod.mk.injEq] at h
      obtain ⟨rfl, rfl⟩ := h
      obtain ⟨he1, he2⟩ := heap_effect (h := s.h) (r := r') (fun p hp => by simpa using (List.all_eq_true.1 hall) p hp)
      refine ⟨⟨⟨o, ho, rfl, .simple rfl rfl ((tw _).trans hw) ?_⟩, ?_⟩, rfl, rfl, rfl, ?_, ?_, ?_, ?_, ?_, ?_⟩
      · rw [tm]; exact ha
      · refine on_eq (r := ⟨i, o.dst, o.looksAt ops, r'.val, r'.reads, r'.upds, r'.fresh, s.h.n, none⟩) rfl ?_
        rw [he1]; rfl
      · unfold ASt.apply
        cases hd : o.dst <;> simp only [ASt.put] <;> exact he2
      · unfold ASt.apply; cases hd : o.dst <;> simp [ASt.put]
      · unfold ASt.apply; cases hd : o.dst <;> simp [ASt.put]
      · unfold ASt.apply; cases hd : o.dst <;> simp [ASt.put]
      · intro hu hf
        simp only at hu hf
        unfold ASt.apply; cases hd : o.dst <;> simp [ASt.put, hu, hf, Heap.upd, TMap.app]
      · unfold ASt.apply; cases hd : o.dst <;> simp [ASt.put]
    · rename_i f args ha
      split at h
      case isFalse => simp at h
      rename_i hp
      split at h
      case h_2 => simp at h
      rename_i v ids us hc
      simp only [Option.some.injEq, Prod.mk.injEq] at h
      obtain ⟨rfl, rfl⟩ := h
      have hus : ∃ r ids', us = killed r ids' := by
        unfold pureCall at hc
        split at hc
        · simp at hc
        split at hc
        · simp at hc
        split at hc
        · simp at hc
        simp only [Option.some.injEq, Prod.mk.injEq] at hc
        exact ⟨_, _, hc.2.2.symm⟩
      obtain ⟨rr, ids', rfl⟩ := hus
      refine ⟨⟨⟨o, ho, rfl, .call rfl rfl ((tw _).trans hw) f args ?_ (called_of hcon hrec hc) rfl⟩, ?_⟩, rfl, rfl, rfl, ?_, ?_, ?_, ?_, ?_, ?_⟩
      · rw [tm]; exact ha
      · exact on_eq (r := ⟨i, o.dst, o.looksAt ops, v, ids, killed rr ids', none, s.h.n, none⟩) rfl (killed_at s.h)
      · cases hd : o.dst <;> simp [ASt.put, upd_length]
      · cases hd : o.dst <;> simp [ASt.put]
      · cases hd : o.dst <;> simp [ASt.put]
      · cases hd : o.dst <;> simp [ASt.put]
      · intro hu _
        simp only at hu
        cases hd : o.dst <;> simp [ASt.put, hu, Heap.upd]
      · cases hd : o.dst <;> simp [ASt.put]
    · simp at h

structure OpsDone (P : Program) (ops : Array Oper) (is : List Nat) (s s1 : ASt) (l : List DRec) (t : List Nat) : Prop where
  steps : DSteps P ops l s.d s1.d
  idx : l.map (·.idx) ++ t = is
  fids : ∀ i, i < s1.h.n ↔ i < s.h.n ∨ ∃ r ∈ l, r.fresh.isSome = true ∧ i = r.fid
  ge : ∀ r ∈ l, s.h.n ≤ r.fid
  quiet : ∀ r ∈ l, r.pan = none
  apart : l.Pairwise (fun a b => a.fresh.isSome = true → b.fresh.isSome = true → a.fid ≠ b.fid)
  defers : s1.defers = s.defers
  pan : s1.pan = s.pan
  round : s1.round = s.round

theorem drawnOps_done (hcon : ConOk C) (hrec : ∀ t r, rec t = some r → Sound C.P t r) : ∀ {is : List Nat} {s s1 : ASt} {l : List DRec} {t : List Nat}, drawnOps C rec ops is s = (s1, l, t) → OpsDone C.P ops is s s1 l t
  | [], s, s1, l, t, h => by
    simp only [drawnOps, Prod.mk.injEq] at h
    obtain ⟨rfl, rfl, rfl⟩ := h
    exact ⟨.nil _, rfl, by simp, by simp, by simp, .nil, rfl, rfl, rfl⟩
  | i :: is, s, s2, l, t, h => by
    simp only [drawnOps] at h
    split at h
    case h_2 =>
      simp only [Prod.mk.injEq] at h
      obtain ⟨rfl, rfl, rfl⟩ := h
      exact ⟨.nil _, rfl, by simp, by simp, by simp, .nil, rfl, rfl, rfl⟩
    rename_i s1 r h1
    obtain ⟨s2', l', t', h2⟩ : ∃ s2' l' t', drawnOps C rec ops is s1 = (s2', l', t') := ⟨_, _, _, rfl⟩
    rw [h2] at h
    simp only [Prod.mk.injEq] at h
    obtain ⟨rfl, rfl, rfl⟩ := h
    have d1 := drawnOp_done hcon hrec h1
    have d2 := drawnOps_done hcon hrec h2
    have hlen := d1.len
    refine ⟨.cons d1.step d2.steps, by simp [d1.idx, d2.idx], ?_, ?_, ?_, ?_, d2.defers.trans d1.defers, d2.pan.trans d1.pan, d2.round.trans d1.round⟩
    · intro j
      rw [d2.fids j, hlen]
      simp only [List.mem_cons, exists_eq_or_imp, ← or_assoc]
      rw [d1.fid]
      refine or_congr_left ?_
      cases hf : r.fresh with
      | none => simp
      | some b => simp only [Option.isSome_some, if_true, true_and]; omega
    · intro x hx
      rcases List.mem_cons.1 hx with rfl | hx
      · exact Nat.le_of_eq d1.fid.symm
      · have := d2.ge x hx; omega
    · intro x hx
      rcases List.mem_cons.1 hx with rfl | hx
      · exact d1.quiet
      · exact d2.quiet x hx
    · refine List.Pairwise.cons (fun x hx hf _ => ?_) d2.apart
      have := d2.ge x hx
      rw [hf] at hlen
      rw [d1.fid]
      simp at hlen
      omega

theorem chainOk_spec {ms : List Nat} : ∀ {l : List Nat}, chainOk ms l = true → l.Pairwise (fun a b => Before ms a b)
  | [], _ => .nil
  | i :: l, h => by
    simp only [chainOk, Bool.and_eq_true, List.all_eq_true] at h
    exact List.Pairwise.cons (fun x hx => h.1 x hx) (chainOk_spec h.2)

/-- What must come last does. -/
theorem perm_tail {ms : List Nat} {A : List Nat} : ∀ (n : Nat) (T σ : List Nat), T.length = n → σ.Perm (A ++ T) → σ.Nodup → σ.Pairwise (fun b a => ¬ Before ms a b) → T.Pairwise (fun a b => Before ms a b) → (∀ t ∈ T, ∀ a ∈ A, Before ms a t) →
    ∃ σ1, σ = σ1 ++ T ∧ σ1.Perm A := by
  intro n
  induction n with
  | zero =>
    intro T σ hn hp _ _ _ _
    have : T = [] := List.length_eq_zero_iff.1 hn
    subst this
    exact ⟨σ, by simp, by simpa using hp⟩
  | succ n ih =>
    intro T σ hn hp hnd ho hT hA
    rcases List.eq_nil_or_concat T with rfl | ⟨T', t, rfl⟩
    · simp at hn
    rw [List.concat_eq_append] at *
    have hm : t ∈ σ := hp.symm.subset (by simp)
    obtain ⟨α, β, rfl⟩ := List.append_of_mem hm
    rw [List.pairwise_append] at hT
    have hβ : β = [] := by
      cases β with
      | nil => rfl
      | cons x β =>
        exfalso
        have hx : x ∈ A ++ (T' ++ [t]) := hp.subset (by simp)
        have hne : x ≠ t := by
          intro he
          subst he
          rw [List.nodup_append] at hnd
          have := (List.nodup_cons.1 hnd.2.1).1
          exact this (List.mem_cons_self ..)
        have hb : Before ms x t := by
          rcases List.mem_append.1 hx with h1 | h1
          · exact hA t (by simp) x h1
          · rcases List.mem_append.1 h1 with h2 | h2
            · exact hT.2.2 x h2 t (by simp)
            · exact absurd (List.mem_singleton.1 h2) hne
        rw [List.pairwise_append] at ho
        have := (List.pairwise_cons.1 ho.2.1).1 x (List.mem_cons_self ..)
        exact this hb
    subst hβ
    have hp' : α.Perm (A ++ T') := by
      have h1 : (α ++ [t]).Perm (A ++ T' ++ [t]) := by simpa using hp
      exact (List.perm_append_right_iff [t]).1 h1
    rw [List.nodup_append] at hnd
    rw [List.pairwise_append] at ho
    obtain ⟨σ1, rfl, h2⟩ := ih T' α (by simpa using hn) hp' hnd.1 ho.1 hT.1 (fun t ht a ha => hA t (by simp [ht]) a ha)
    exact ⟨σ1, by simp, h2⟩

theorem step_draw {P : Program} {fr : Frame} {cs : List Frame} {w : World} {id : Nat} {k : List Item} (hm : fr.mode = .run) (ht : fr.todo = .code (.region id ops true) :: k) :
    Steps P (lone fr cs w) (lone { fr with todo := .inRegion ops (Region.schedule (P.follows .mixedOrders) ops (w.tape w.drawn (.order fr.fn id))) :: k } cs { w with drawn := w.drawn + 1 }) := by
  refine step_go ?_
  rw [stepG_run hm]
  unfold stepG.exec
  simp [ht, choose, Sem.run, Question.forced, Question.cut]

theorem dead_not_live {b : AB} (h : b = .dead) : b.live = false := by subst h; rfl

theorem inv_less {g : G} {H H' : Nat → AB} {w : World} (hi : Inv g H w) {A' : Nat → Prop} (hA : ∀ i, g.A i → A' i) (h : ∀ i, A' i → (g.A i ∧ H' i = H i) ∨ H' i = .dead) : Inv { Φ := g.Φ, A := A', j := g.j } H' w := by
  have le : g.le { Φ := g.Φ, A := A', j := g.j } := ⟨fun _ _ x => x, hA, fun _ _ => rfl⟩
  refine ⟨hi.frozen, fun id ha => ?_, fun id ha hl => ?_, fun id id' ha ha' hl hl' he => ?_⟩
  · rcases h id ha with ⟨h1, h2⟩ | h1
    · rw [h2]; exact repB_mono le (hi.block id h1)
    · rw [h1]; trivial
  · rcases h id ha with ⟨h1, h2⟩ | h1
    · rw [h2] at hl; exact hi.apart id h1 hl
    · rw [dead_not_live h1] at hl; cases hl
  · rcases h id ha with ⟨h1, h2⟩ | h1
    · rcases h id' ha' with ⟨h3, h4⟩ | h3
      · rw [h2] at hl; rw [h4] at hl'; exact hi.inj id id' h1 h3 hl hl' he
      · rw [dead_not_live h3] at hl'; cases hl'
    · rw [dead_not_live h1] at hl; cases hl

theorem evolves_less {g0 g : G} {H0 H H' : Nat → AB} {w0 w : World} (hev : Evolves g0 H0 w0 g H w) {A' : Nat → Prop} (hA : ∀ i, g.A i → A' i) (h : ∀ i, A' i → (g.A i ∧ H' i = H i) ∨ H' i = .dead) : Evolves g0 H0 w0 { Φ := g.Φ, A := A', j := g.j } H' w := by
  refine ⟨⟨hev.le.Φ, fun i hi => hA i (hev.le.A i hi), hev.le.j⟩, hev.os, hev.tape, hev.output, hev.size, hev.keep, hev.fro, ?_⟩
  rintro b ⟨id, ha, hl, he⟩
  rcases h id ha with ⟨h1, h2⟩ | h1
  · exact hev.own b ⟨id, h1, by rw [← h2]; exact hl, he⟩
  · rw [dead_not_live h1] at hl; cases hl

section
variable {P : Program}
theorem DSteps.split : ∀ {L1 L2 : List DRec} {s s' : DSt}, DSteps P ops (L1 ++ L2) s s' → ∃ m, DSteps P ops L1 s m ∧ DSteps P ops L2 m s'
  | [], _, s, _, h => ⟨s, .nil s, h⟩
  | r :: L1, L2, s, s', h => by
    cases h with
    | cons hr h =>
      obtain ⟨m, h1, h2⟩ := DSteps.split (L1 := L1) (L2 := L2) h
      exact ⟨m, .cons hr h1, h2⟩

theorem DSteps.append : ∀ {L1 L2 : List DRec} {s m s' : DSt}, DSteps P ops L1 s m → DSteps P ops L2 m s' → DSteps P ops (L1 ++ L2) s s'
  | [], _, _, _, _, h, h' => by cases h; exact h'
  | r :: L1, L2, s, m, s', h, h' => by
    cases h with
    | cons hr h => exact .cons hr (DSteps.append h h')

/-- Only some of them. -/
theorem DSteps.sub (p : DRec → Bool) : ∀ {L : List DRec} {s s' : DSt}, DSteps P ops L s s' → L.Pairwise (fun a b => p a = false → p b = true → Indep a b) → ∃ m, DSteps P ops (L.filter p) s m
  | [], s, _, _, _ => ⟨s, .nil s⟩
  | r :: L, s, s', h, hp => by
    rw [List.pairwise_cons] at hp
    cases h with
    | cons hr h =>
      obtain ⟨m, h1⟩ := DSteps.sub p h hp.2
      cases hpr : p r with
      | true => exact ⟨m, by rw [List.filter_cons_of_pos hpr]; exact .cons hr h1⟩
      | false =>
        have h2 : DSteps P ops (r :: (L.filter p ++ [])) s m := by simpa using DSteps.cons hr h1
        have h3 := DSteps.later (fun x hx => hp.1 x (List.mem_filter.1 hx).1 hpr (List.mem_filter.1 hx).2) h2
        obtain ⟨m', h4, _⟩ := DSteps.split h3
        exact ⟨m', by rw [List.filter_cons_of_neg (by simp [hpr])]; exact h4⟩

theorem DSteps.keeps : ∀ {L : List DRec} {s s' : DSt}, DSteps P ops L s s' → (∀ i, i ∉ DRec.allWrites L → s'.H i = s.H i) ∧ s'.tmps.length = s.tmps.length ∧ ∀ t, t ∉ DRec.dsts L → s'.tmps.getD t .undef = s.tmps.getD t .undef
  | [], _, _, h => by cases h; exact ⟨fun _ _ => rfl, rfl, fun _ _ => rfl⟩
  | r :: L, s, s', h => by
    cases h with
    | cons hr h =>
      obtain ⟨h1, h2, h3⟩ := DSteps.keeps h
      have hto := hr.to
      subst hto
      refine ⟨fun i hi => ?_, ?_, fun t ht => ?_⟩
      · simp only [DRec.allWrites, List.flatMap_cons, List.mem_append, not_or] at hi
        rw [h1 i hi.2, r.H_out s hi.1]
      · rw [h2]
        unfold DRec.on
        cases r.dst <;> simp
      · have h4 : r.dst ≠ some t := fun hh => ht (by simp [DRec.dsts, hh])
        have h5 : t ∉ DRec.dsts L := fun hh => ht (by
          simp only [DRec.dsts, List.mem_filterMap] at hh ⊢
          obtain ⟨x, hx, he⟩ := hh
          exact ⟨x, List.mem_cons_of_mem _ hx, he⟩)
        rw [h3 t h5, r.tmp_out s h4]

end

theorem junked_n (ds : List Tmp) : ∀ (m : TMap AV), (junked m ds).n = m.n := by
  unfold junked
  induction ds with
  | nil => intro m; rfl
  | cons d ds ih => intro m; simp only [List.foldl_cons]; rw [ih, TMap.set_n]

theorem junked_get (ds : List Tmp) : ∀ (m : TMap AV) (i : Nat), (junked m ds).get .undef i = .c .junk ∨ ((junked m ds).get .undef i = m.get .undef i ∧ (i ∉ ds ∨ m.n ≤ i)) := by
  unfold junked
  induction ds with
  | nil => intro m i; exact .inr ⟨rfl, .inl (by simp)⟩
  | cons d ds ih =>
    intro m i
    simp only [List.foldl_cons]
    rcases ih (m.set .undef d (.c .junk)) i with h | ⟨h1, h2⟩
    · exact .inl h
    · rw [h1, TMap.get_set]
      rw [TMap.set_n] at h2
      split
      · exact .inl rfl
      · rename_i hc
        refine .inr ⟨rfl, ?_⟩
        rcases h2 with h2 | h2
        · by_cases hid : i = d
          · subst hid; right; rcases Nat.lt_or_ge i m.n with h3 | h3
            · exact absurd ⟨rfl, h3⟩ hc
            · exact h3
          · left; simp [hid, h2]
        · exact .inr h2

theorem junked_rel {g : G} {tmps : TMap AV} {tmps' : List AV} {a : Array Value} {ds : List Tmp} (h : TmpRel g tmps' a) (hl : tmps'.length = tmps.n) (hk : ∀ t, t ∉ ds → tmps'.getD t .undef = tmps.get .undef t) : TmpRel g ((junked tmps ds).toList .undef) a := by
  have hs : tmps.n = a.size := by rw [← hl, h.len]
  refine ⟨by rw [TMap.toList_length, junked_n]; exact hs, ?_⟩
  intro i x hx
  rw [TMap.toList_get?, junked_n] at hx
  split at hx
  case isFalse => cases hx
  rename_i hlt
  simp only [Option.some.injEq] at hx
  subst hx
  have hlt' : i < a.toList.length := by rw [hs] at hlt; simpa using hlt
  refine ⟨a.toList[i], by simp, ?_⟩
  rcases junked_get ds tmps i with h1 | ⟨h1, h2⟩
  · rw [h1]; trivial
  · have h3 : i ∉ ds := h2.resolve_right (by omega)
    rw [h1, ← hk i h3]
    have hlt2 : i < tmps'.length := by omega
    obtain ⟨b, hb, hr⟩ := h.pw i tmps'[i] (by simp [hlt2])
    rw [List.getD_eq_getElem?_getD, List.getElem?_eq_getElem hlt2]
    rw [List.getElem?_eq_getElem hlt'] at hb
    simp only [Option.some.injEq] at hb
    rw [hb]; exact hr

theorem deads_at (ids : List Nat) (h : Heap) (i : Nat) : Heap.at (Heap.upd h (ids.map fun i => (i, .dead))) i = if i ∈ ids then .dead else (Heap.at h) i := by
  rw [heap_kill, updF_kill]

theorem DRec.allWrites_mem {L : List DRec} {r : DRec} (hr : r ∈ L) {i : Nat} (hi : i ∈ r.writes) : i ∈ DRec.allWrites L := List.mem_flatMap.2 ⟨r, hr, hi⟩

section
variable {P : Program}
/-- An operation that panics, as the program does it. -/
theorem dpanic_ok {r : DRec} {v : AV} {us : List (Nat × AB)} {d d' : DSt} (h : DStep P ops r d d') (hpan : r.pan = some (v, us)) {g : G} {fr : Frame} {cs : List Frame} {w : World} {rest : List Nat} {k : List Item}
    (hi : Inv g d.H w) (hm' : ∃ m, ¬ g.A m) (htr : TmpRel g d.tmps fr.tmps) (ht : fr.todo = .inRegion ops (r.idx :: rest) :: k) (hm : fr.mode = .run) :
    ∃ g' w' u H', Steps P (lone fr cs w) (lone (fr.raise [{ v := u, recovered := false }]) cs w') ∧ Inv g' H' w' ∧ (∀ i, g'.A i ↔ g.A i) ∧ Evolves g d.H w g' H' w' ∧ Rep g' v u ∧ ∀ i, i ∉ us.map (·.1) → H' i = d.H i := by
  obtain ⟨⟨o, ho, hlooks, hdo⟩, hto⟩ := h
  obtain ⟨m, hmm⟩ := hm'
  cases hdo with
  | skip hn _ _ _ _ _ => rw [hpan] at hn; cases hn
  | simple hn _ _ _ => rw [hpan] at hn; cases hn
  | call hn _ _ _ _ _ _ _ => rw [hpan] at hn; cases hn
  | panics v' hn hd hu hf hw ha =>
    rw [hpan] at hn
    simp only [Option.some.injEq, Prod.mk.injEq] at hn
    obtain ⟨rfl, rfl⟩ := hn
    obtain ⟨u, w', hres, hrv, hso, hheap⟩ := aop_sim (P := P) (w := w) hi (σ := fr.eval) (evalT_rep htr.len htr.pw) hmm (aop_panic_local (rd' := d.H) (m := m) ha)
    have hnd : fr.roundOf = none ∨ ∀ c, o.op ≠ .defer c := .inr (fun c hc => by obtain ⟨_, _, hh⟩ := aop_defer hc ha; cases hh)
    refine ⟨g, w', u, d.H, ?_, ⟨fun b o h => by rw [hheap]; exact hi.frozen b o h, fun id h => by rw [hheap]; exact hi.block id h, hi.apart, hi.inj⟩, fun _ => Iff.rfl, ⟨.refl g, hso.os, hso.tape, hso.output, by rw [hheap]; exact Nat.le_refl _, fun _ _ _ => by rw [hheap], fun _ _ h => .inl h, fun _ h => .inl h⟩, hrv, fun _ _ => rfl⟩
    refine step_go ?_
    rw [op_do hm ht ho (wanted_specT htr.len htr.pw hw) hnd]
    exact apply_panic hres
  | falls v' us' hn hd hu hf hw f args ha hc =>
    rw [hpan] at hn
    simp only [Option.some.injEq, Prod.mk.injEq] at hn
    obtain ⟨rfl, rfl⟩ := hn
    obtain ⟨_, vs, hres, hl, hpw⟩ := aop_sim (P := P) (w := w) hi (σ := fr.eval) (evalT_rep htr.len htr.pw) hmm (aop_call_nofresh (m := m) ha)
    have hnd : fr.roundOf = none ∨ ∀ c, o.op ≠ .defer c := .inr (fun c hc => by obtain ⟨_, _, hh⟩ := aop_defer hc ha; cases hh)
    have h1 : Steps P (lone fr cs w) (lone (Frame.enter P f vs .normal) (fr :: cs) w) := by
      refine step_go ?_
      rw [op_do hm ht ho (wanted_specT htr.len htr.pw hw) hnd]
      exact apply_enter (by rw [ht]; intro _ _ _ _ _ hh; simp at hh) hres
    obtain ⟨fuel, args', e', h', pan, fuel', r', hs, hok, hsn, hc1, hc3⟩ := hc
    obtain ⟨g', fr', w', k1, k2, k3, k4, k5, k6, k7, k8⟩ := pure_okF hi hl hpw hs hok hsn (fr :: cs)
    rw [← hc3] at k2 k4
    have k8' : EndOk P g' f fr' w' (.panic v) := by rw [hc1]; exact k8
    obtain ⟨u, hu, hst⟩ := leave_panic (fr := fr) (cs := cs) k8' k5 k7
    exact ⟨g', w', u, _, h1.trans (k1.trans hst), k2, k3, k4, hu, fun i hi => updF_out _ _ _ hi⟩

end

theorem drawnPanic_done (hcon : ConOk C) (hrec : ∀ t r, rec t = some r → Sound C.P t r) {i : Nat} {s1 : ASt} {r : DRec} {v : AV} {us : List (Nat × AB)} (h : drawnPanic C rec ops i s1 = some (r, v, us)) : r.idx = i ∧ r.pan = some (v, us) ∧ r.writes = [] ∧ r.dst = none ∧ DStep C.P ops r s1.d s1.d := by
  have tm : evalT s1.d.tmps = s1.eval := (eval_evalT s1).symm
  have tw : ∀ o, wantedT ops o s1.d.tmps = wantedA ops o s1 := fun o => (wanted_wantedT ops o s1).symm
  unfold drawnPanic at h
  split at h
  · simp at h
  rename_i o ho
  split at h
  case h_2 => simp at h
  rename_i hw
  split at h
  · rename_i v' ha
    simp only [Option.some.injEq, Prod.mk.injEq] at h
    obtain ⟨rfl, rfl, rfl⟩ := h
    refine ⟨rfl, rfl, rfl, rfl, ⟨⟨o, ho, rfl, .panics v' rfl rfl rfl rfl ((tw _).trans hw) ?_⟩, rfl⟩⟩
    rw [tm]; exact ha
  · rename_i f args ha
    split at h
    case isFalse => simp at h
    rename_i hp
    split at h
    case h_2 => simp at h
    rename_i v' ids us' hc
    simp only [Option.some.injEq, Prod.mk.injEq] at h
    obtain ⟨rfl, rfl, rfl⟩ := h
    refine ⟨rfl, rfl, rfl, rfl, ⟨⟨o, ho, rfl, .falls v' us' rfl rfl rfl rfl ((tw _).trans hw) f args ?_ (called_of hcon hrec hc)⟩, rfl⟩⟩
    rw [tm]; exact ha
  · simp at h

theorem idx_inj : ∀ {l : List DRec} {a b : DRec}, (l.map (·.idx)).Nodup → a ∈ l → b ∈ l → a.idx = b.idx → a = b
  | [], _, _, _, h, _, _ => by cases h
  | x :: l, a, b, hn, ha, hb, he => by
    simp only [List.map_cons, List.nodup_cons] at hn
    rcases List.mem_cons.1 ha with h1 | h1
    · rcases List.mem_cons.1 hb with h2 | h2
      · rw [h1, h2]
      · subst h1; exact absurd (he ▸ List.mem_map_of_mem h2) hn.1
    · rcases List.mem_cons.1 hb with h2 | h2
      · subst h2; exact absurd (he ▸ List.mem_map_of_mem h1) hn.1
      · exact idx_inj hn.2 h1 h2 he

theorem nodup_of_idx : ∀ {l : List DRec}, (l.map (·.idx)).Nodup → l.Nodup
  | [], _ => .nil
  | x :: l, hn => by
    simp only [List.map_cons, List.nodup_cons] at hn
    exact List.nodup_cons.2 ⟨fun h => hn.1 (List.mem_map_of_mem h), nodup_of_idx hn.2⟩

section
variable {P : Program}
/-- A region whose order is open is left by a panic. -/
theorem region_fall (hmix : P.follows .mixedOrders = true) {id : Nat} {s s1 s2 : ASt} {l l2 : List DRec} {i : Nat} {rest : List Nat} {r : DRec} {v : AV} {us : List (Nat × AB)} (hback : backGo ops.toList 0 = true) (D1 : OpsDone P ops (List.range ops.size) s s1 l (i :: rest))
    (hr : r.idx = i ∧ r.pan = some (v, us) ∧ r.writes = [] ∧ r.dst = none ∧ DStep P ops r s1.d s1.d) (D2 : OpsDone P ops (rest.filter fun k => !((masks ops).getD k 0).testBit i) s1 s2 l2 []) (hpairs : pairsOk (masks ops) (l ++ r :: l2) = true) :
    CodeOk P s (.code (.region id ops true)) (.panic v) { s with tmps := junked s.tmps (DRec.dsts (l ++ r :: l2)), h := Heap.upd s2.h ((us.map (·.1) ++ DRec.allWrites (l ++ r :: l2)).map fun id => (id, .dead)) } := by
  intro g fr cs base w k hst hcs ht hm
  have hidx2 : l2.map (·.idx) = rest.filter fun k => !((masks ops).getD k 0).testBit i := by simpa using D2.idx
  obtain ⟨hridx, hrpan, hrw, hrdst, hrstep⟩ := hr
  have hrange : l.map (·.idx) ++ i :: rest = List.range ops.size := D1.idx
  have hnd0 : (l.map (·.idx) ++ i :: rest).Nodup := by rw [hrange]; exact List.nodup_range
  -- all of them, in the text's order
  have hall : DSteps P ops (l ++ r :: l2) s.d s2.d := D1.steps.append (.cons hrstep D2.steps)
  have hpw := pairsOk_spec hpairs
  have hidx : (l ++ r :: l2).map (·.idx) = l.map (·.idx) ++ i :: (rest.filter fun k => !((masks ops).getD k 0).testBit i) := by simp [hridx, hidx2]
  have hsubl : (l.map (·.idx) ++ i :: (rest.filter fun k => !((masks ops).getD k 0).testBit i)).Sublist (l.map (·.idx) ++ i :: rest) := List.Sublist.append (List.Sublist.refl _) (List.Sublist.cons_cons _ List.filter_sublist)
  have hnodup : ((l ++ r :: l2).map (·.idx)).Nodup := by rw [hidx]; exact hnd0.sublist hsubl
  have hsub : ∀ x ∈ l ++ r :: l2, x.idx ∈ List.range ops.size := by
    intro x hx
    rw [← hrange]
    exact hsubl.subset (hidx ▸ List.mem_map_of_mem hx)
  obtain ⟨hperm, hord⟩ := linearise_spec hback (w.tape w.drawn (.order fr.fn id))
  have hσnd : (Region.linearise .any ops (w.tape w.drawn (.order fr.fn id))).Nodup := hperm.symm.nodup List.nodup_range
  have him : i ∈ Region.linearise .any ops (w.tape w.drawn (.order fr.fn id)) := hperm.symm.subset (hridx ▸ hsub r (by simp))
  obtain ⟨α, β, hσ⟩ := List.append_of_mem him
  rw [hσ] at hord hperm hσnd
  have hσ2 : α ++ i :: β = (α ++ [i]) ++ β := by simp
  have hαi : (α ++ [i]).Nodup := by rw [hσ2, List.nodup_append] at hσnd; exact hσnd.1
  rw [List.pairwise_append] at hord
  obtain ⟨ho1, ho2, ho3⟩ := hord
  rw [List.pairwise_cons] at ho2
  -- those that come so far
  have hmem : ∀ x ∈ α, x ∈ (l ++ r :: l2).map (·.idx) := by
    intro x hx
    have h1 : x ∈ List.range ops.size := hperm.subset (List.mem_append_left _ hx)
    have h2 : ¬ Before (masks ops) i x := ho3 x hx i (List.mem_cons_self ..)
    have h3 : x ≠ i := by
      rintro rfl
      rw [List.nodup_append] at hσnd
      exact hσnd.2.2 x hx x (List.mem_cons_self ..) rfl
    rw [hidx]
    rw [← hrange] at h1
    rcases List.mem_append.1 h1 with h4 | h4
    · exact List.mem_append_left _ h4
    · rcases List.mem_cons.1 h4 with h5 | h5
      · exact absurd h5 h3
      · refine List.mem_append_right _ (List.mem_cons_of_mem _ (List.mem_filter.2 ⟨h5, ?_⟩))
        unfold Before at h2
        simpa using h2
  let p : DRec → Bool := fun x => (α ++ [i]).contains x.idx
  have hsubS : (l ++ r :: l2).Pairwise (fun a b => p a = false → p b = true → Indep a b) := by
    have hmm : ∀ a ∈ l ++ r :: l2, ∀ b ∈ l ++ r :: l2, (Before (masks ops) a.idx b.idx ∨ Indep a b) → p a = false → p b = true → Indep a b := by
      intro a ha b hb h1 hpa hpb
      refine h1.resolve_left (fun hB => ?_)
      have ha' : a.idx ∈ α ++ i :: β := hperm.symm.subset (hsub a ha)
      have hna : a.idx ∉ α ++ [i] := by simpa [p] using hpa
      have hb' : b.idx ∈ α ++ [i] := by simpa [p] using hpb
      have haβ : a.idx ∈ β := by
        rw [hσ2] at ha'
        exact (List.mem_append.1 ha').resolve_left hna
      rcases List.mem_append.1 hb' with h2 | h2
      · exact ho3 _ h2 _ (List.mem_cons_of_mem _ haβ) hB
      · rw [List.mem_singleton] at h2
        rw [h2] at hB
        exact ho2.1 _ haβ hB
    exact hpw.imp_of_mem (fun ha hb hab => hmm _ ha _ hb hab)
  obtain ⟨m0, hS⟩ := DSteps.sub p hall hsubS
  have hpermS : (α ++ [i]).Perm (((l ++ r :: l2).filter p).map (·.idx)) := by
    have hn2 : (((l ++ r :: l2).filter p).map (·.idx)).Nodup := hnodup.sublist (List.Sublist.map _ List.filter_sublist)
    refine (List.perm_ext_iff_of_nodup hαi hn2).2 fun a => ⟨fun ha => ?_, fun ha => ?_⟩
    · have h1 : a ∈ (l ++ r :: l2).map (·.idx) := by
        rcases List.mem_append.1 ha with h2 | h2
        · exact hmem a h2
        · rw [List.mem_singleton] at h2; subst h2; rw [hidx]; simp
      obtain ⟨x, hx, rfl⟩ := List.mem_map.1 h1
      exact List.mem_map.2 ⟨x, List.mem_filter.2 ⟨hx, by simpa [p] using ha⟩, rfl⟩
    · obtain ⟨x, hx, rfl⟩ := List.mem_map.1 ha
      simpa [p] using (List.mem_filter.1 hx).2
  have hordS : (α ++ [i]).Pairwise (fun b a => ¬ Before (masks ops) a b) := by
    rw [List.pairwise_append]
    exact ⟨ho1, List.pairwise_singleton _ _, fun a ha b hb => by rw [List.mem_singleton] at hb; subst hb; exact ho3 a ha _ (List.mem_cons_self ..)⟩
  obtain ⟨L', e1, p1, d1⟩ := DSteps.perm hS (hpw.sublist List.filter_sublist) (hnodup.sublist (List.Sublist.map _ List.filter_sublist)) hpermS hordS
  obtain ⟨L1, Lr, rfl, eL1, eLr⟩ := List.map_eq_append_iff.1 e1
  obtain ⟨r', rfl, hr'i⟩ := List.map_eq_singleton_iff.1 eLr
  have hinL : ∀ x ∈ L1 ++ [r'], x ∈ l ++ r :: l2 := fun x hx => (List.mem_filter.1 (p1.subset hx)).1
  have hr' : r' = r := by
    have h1 := hinL r' (by simp)
    have h2 : r ∈ l ++ r :: l2 := by simp
    exact idx_inj hnodup h1 h2 (hr'i.trans hridx.symm)
  subst hr'
  obtain ⟨dm, d2, d3⟩ := DSteps.split d1
  cases d3 with
  | cons hdr _ =>
  have hL1r : ∀ x ∈ L1, x ∈ l ∨ x ∈ l2 := by
    intro x hx
    have h1 := hinL x (List.mem_append_left _ hx)
    rcases List.mem_append.1 h1 with h2 | h2
    · exact .inl h2
    · rcases List.mem_cons.1 h2 with h3 | h3
      · exfalso
        subst h3
        have h4 : (α ++ [i]).Nodup := hαi
        rw [List.nodup_append] at h4
        exact h4.2.2 x.idx (eL1 ▸ List.mem_map_of_mem hx) i (by simp) hridx
      · exact .inr h3
  have hsched : Region.schedule (P.follows .mixedOrders) ops (w.tape w.drawn (.order fr.fn id)) = L1.map (·.idx) ++ i :: β := by
    simp only [Region.schedule, hmix, Bool.true_or, if_true]
    rw [hσ, eL1]
  have hinv : Inv g s.d.H { w with drawn := w.drawn + 1 } := ⟨hst.inv.frozen, hst.inv.block, hst.inv.apart, hst.inv.inj⟩
  have hlen12 : ∀ x, x < s2.h.n ↔ x < s.h.n ∨ ∃ r ∈ l ++ l2, r.fresh.isSome = true ∧ x = r.fid := by
    intro x
    rw [D2.fids, D1.fids]
    simp only [List.mem_append, or_and_right, exists_or, or_assoc]
  have hge : ∀ x ∈ l ++ l2, s.h.n ≤ x.fid := by
    intro x hx
    rcases List.mem_append.1 hx with h1 | h1
    · exact D1.ge x h1
    · have h2 := D2.ge x h1
      have h3 : s.h.n ≤ s1.h.n := by
        rcases Nat.lt_or_ge s1.h.n s.h.n with h4 | h4
        · exact absurd ((D1.fids s1.h.n).2 (.inl h4)) (Nat.lt_irrefl _)
        · exact h4
      omega
  have hmemL1 : ∀ x ∈ L1, x ∈ l ++ l2 := fun x hx => List.mem_append.2 (hL1r x hx)
  have hapart : (l ++ l2).Pairwise (fun a b => a.fresh.isSome = true → b.fresh.isSome = true → a.fid ≠ b.fid) := by
    rw [List.pairwise_append]
    refine ⟨D1.apart, D2.apart, fun a ha b hb hfa _ => ?_⟩
    have h1 := D2.ge b hb
    have h2 : a.fid < s1.h.n := (D1.fids _).2 (.inr ⟨a, ha, hfa, rfl⟩)
    omega
  have hsym : L1.Pairwise (fun a b => a.fresh.isSome = true → b.fresh.isSome = true → a.fid ≠ b.fid) := by
    have h1 : (L1.map (·.idx)).Nodup := by rw [eL1]; rw [List.nodup_append] at hαi; exact hαi.1
    have h2 : L1.Nodup := nodup_of_idx h1
    refine h2.imp_of_mem (fun {a b} ha hb hne hfa hfb he => ?_)
    obtain ha' := hmemL1 a ha
    obtain hb' := hmemL1 b hb
    have key : ∀ {L : List DRec}, L.Pairwise (fun a b => a.fresh.isSome = true → b.fresh.isSome = true → a.fid ≠ b.fid) → a ∈ L → b ∈ L → a ≠ b → False := by
      intro L hL h3 h4 h5
      induction L with
      | nil => cases h3
      | cons x L ih =>
        rw [List.pairwise_cons] at hL
        rcases List.mem_cons.1 h3 with h6 | h6
        · rcases List.mem_cons.1 h4 with h7 | h7
          · exact h5 (h6.trans h7.symm)
          · subst h6; exact hL.1 b h7 hfa hfb he
        · rcases List.mem_cons.1 h4 with h7 | h7
          · subst h7; exact hL.1 a h6 hfb hfa he.symm
          · exact ih hL.2 h6 h7
    exact key hapart ha' hb' hne
  obtain ⟨g1, w1, tm, a1, a2, a3, a4, a5⟩ := dsteps_ok d2 (g := g) (fr := { fr with todo := .inRegion ops (L1.map (·.idx) ++ i :: β) :: k }) (cs := cs) (w := { w with drawn := w.drawn + 1 }) (rest := i :: β) (k := k) s2.h.n
    hinv (fun x hx => (hlen12 x).2 (.inl ((hst.A x).1 hx)))
    (fun x hx => by
      rcases hL1r x hx with h1 | h1
      · exact D1.quiet x h1
      · exact D2.quiet x h1)
    (fun x hx hf => ⟨fun ha => by have h1 := (hst.A _).1 ha; have h2 := hge x (hmemL1 x hx); omega, (hlen12 _).2 (.inr ⟨x, hmemL1 x hx, hf, rfl⟩)⟩)
    hsym ⟨by rw [← hst.len]; exact TMap.toList_length _ _, hst.tmps⟩ rfl hm
  have hA1 : ∀ x, g1.A x → x < s2.h.n := by
    intro x hx
    rw [a3] at hx
    rcases hx with h1 | ⟨y, hy, hf, rfl⟩
    · exact (hlen12 x).2 (.inl ((hst.A x).1 h1))
    · exact (hlen12 _).2 (.inr ⟨y, hmemL1 y hy, hf, rfl⟩)
  obtain ⟨g2, w2, u, H2, b1, b2, b3, b4, b5, b6⟩ := dpanic_ok hdr hrpan (fr := { fr with tmps := tm, todo := .inRegion ops (i :: β) :: k }) (cs := cs) (rest := β) (k := k) a2 ⟨s2.h.n, fun hh => Nat.lt_irrefl _ (hA1 _ hh)⟩ a5 (by rw [hridx]) hm
  have st1 := step_draw (P := P) (cs := cs) (w := w) hm ht
  rw [hsched] at st1
  -- what is left is less than is known
  have kept := DSteps.keeps d2
  have keptAll := DSteps.keeps hall
  have hwr : ∀ x, x ∉ DRec.allWrites (l ++ r' :: l2) → x ∉ DRec.allWrites L1 := by
    intro x hx hh
    obtain ⟨y, hy, hy2⟩ := List.mem_flatMap.1 hh
    exact hx (DRec.allWrites_mem (hinL y (List.mem_append_left _ hy)) hy2)
  let hf : Heap := Heap.upd s2.h ((us.map (·.1) ++ DRec.allWrites (l ++ r' :: l2)).map fun id => (id, .dead))
  have hlenf : hf.n = s2.h.n := upd_length _ _
  have hless : ∀ x, x < hf.n → (g2.A x ∧ (Heap.at hf) x = H2 x) ∨ (Heap.at hf) x = .dead := by
    intro x hx
    by_cases hin : x ∈ us.map (·.1) ++ DRec.allWrites (l ++ r' :: l2)
    · right; show Heap.at (Heap.upd s2.h _) x = _; rw [deads_at, if_pos hin]
    · left
      rw [List.mem_append, not_or] at hin
      have hxs : x < s.h.n := by
        rcases (hlen12 x).1 (hlenf ▸ hx) with h1 | ⟨y, hy, hyf, rfl⟩
        · exact h1
        · exfalso
          refine hin.2 (DRec.allWrites_mem (r := y) ?_ (by unfold DRec.writes; rw [hyf]; simp))
          rcases List.mem_append.1 hy with h1 | h1
          · exact List.mem_append_left _ h1
          · exact List.mem_append_right _ (List.mem_cons_of_mem _ h1)
      refine ⟨(b3 x).2 ((a3 x).2 (.inl ((hst.A x).2 hxs))), ?_⟩
      show Heap.at (Heap.upd s2.h _) x = _
      rw [deads_at, if_neg (by rw [List.mem_append, not_or]; exact hin), b6 x hin.1, kept.1 x (hwr x hin.2)]
      exact keptAll.1 x hin.2
  have hAf : ∀ x, g2.A x → x < hf.n := fun x hx => by rw [hlenf]; exact hA1 x ((b3 x).1 hx)
  have hinvf := inv_less b2 hAf hless
  have hevf := evolves_less (a4.trans b4) hAf hless
  have hraise : (({ fr with tmps := tm, todo := .inRegion ops (i :: β) :: k } : Frame).raise [{ v := u, recovered := false }]) = { fr with tmps := tm, todo := .inRegion ops (i :: β) :: k, mode := .panicking [{ v := u, recovered := false }] } := by simp [Frame.raise, hm]
  have lef : g2.le { Φ := g2.Φ, A := fun x => x < hf.n, j := g2.j } := ⟨fun _ _ x => x, hAf, fun _ _ => rfl⟩
  have leAll : g.le { Φ := g2.Φ, A := fun x => x < hf.n, j := g2.j } := (a4.le.trans b4.le).trans lef
  have htm := junked_rel (tmps := s.tmps) (ds := DRec.dsts (l ++ r' :: l2)) (g := { Φ := g2.Φ, A := fun x => x < hf.n, j := g2.j }) (a := tm) ⟨a5.len, pw_mono (b4.le.trans lef) a5.pw⟩ (kept.2.1.trans (TMap.toList_length _ _)) (fun t ht => (kept.2.2 t (fun hh => ht (by
    simp only [DRec.dsts, List.mem_filterMap] at hh ⊢
    obtain ⟨x, hx, he⟩ := hh
    exact ⟨x, hinL x (List.mem_append_left _ hx), he⟩))).trans (show s.d.tmps.getD t AV.undef = s.tmps.get AV.undef t from TMap.toList_getD AV.undef s.tmps t))
  refine ⟨{ Φ := g2.Φ, A := fun x => x < hf.n, j := g2.j }, _, cs, w2, (st1.trans a1).trans b1, ?_, hcs.mono leAll, by rw [hraise], by rw [hraise], ⟨u, rep_mono lef _ _ b5, by rw [hraise], ?_⟩, ⟨hevf.le, hevf.os, hevf.tape, hevf.output, hevf.size, hevf.keep, hevf.fro, hevf.own⟩, rfl⟩
  · rw [hraise]
    refine ⟨hinvf, fun x => Iff.rfl, by rw [← htm.len]; exact (TMap.toList_length _ _).symm, htm.pw, hst.defers.mono leAll, ?_⟩
    rcases hst.round with h1 | ⟨id', h1, h2, h3⟩
    · exact .inl h1
    · exact .inr ⟨id', h1, leAll.A _ h2, by rw [leAll.j _ h2]; exact h3⟩
  · rw [hraise]
    unfold Frame.catches
    simp only
    cases P.funcs[fr.fn]? <;> rfl

section
variable {P : Program}
/-- A region whose order is open: operations that may change places, and then some whose order is not open. -/
theorem region_ok (hmix : P.follows .mixedOrders = true) {id : Nat} {s s1 s' : ASt} {l : List DRec} {t : List Nat} {e : AExit} (hback : backGo ops.toList 0 = true) (D : OpsDone P ops (List.range ops.size) s s1 l t) (hpairs : pairsOk (masks ops) l = true) (hchain : chainOk (masks ops) t = true)
    (hbef : t.all (fun k => l.all (fun r => ((masks ops).getD k 0).testBit r.idx)) = true) (htail' : CodeOk P s1 (.inRegion ops t) e s') : CodeOk P s (.code (.region id ops true)) e s' := by
  intro g fr cs base w k hst hcs ht hm
  obtain ⟨hperm, hord⟩ := linearise_spec hback (w.tape w.drawn (.order fr.fn id))
  have hnodup : (l.map (·.idx) ++ t).Nodup := by rw [D.idx]; exact List.nodup_range
  obtain ⟨σ1, hσ, hσp⟩ := perm_tail (ms := masks ops) (A := l.map (·.idx)) t.length t _ rfl (by rw [D.idx]; exact hperm) (hperm.symm.nodup List.nodup_range) hord (chainOk_spec hchain) (by
    intro x hx a ha
    obtain ⟨r, hr, rfl⟩ := List.mem_map.1 ha
    rw [List.all_eq_true] at hbef
    have := hbef x hx
    rw [List.all_eq_true] at this
    exact this r hr)
  rw [hσ, List.pairwise_append] at hord
  obtain ⟨L', e1, p1, d1⟩ := DSteps.perm D.steps (pairsOk_spec hpairs) (List.nodup_append.1 hnodup).1 hσp hord.1
  have hsched : Region.schedule (P.follows .mixedOrders) ops (w.tape w.drawn (.order fr.fn id)) = L'.map (·.idx) ++ t := by
    simp only [Region.schedule, hmix, Bool.true_or, if_true]
    rw [hσ, e1]
  have hinv : Inv g s.d.H { w with drawn := w.drawn + 1 } := ⟨hst.inv.frozen, hst.inv.block, hst.inv.apart, hst.inv.inj⟩
  have hsym : L'.Pairwise (fun a b => a.fresh.isSome = true → b.fresh.isSome = true → a.fid ≠ b.fid) :=
    (p1.symm.pairwise_iff (fun {a b} hab h1 h2 he => hab h2 h1 he.symm)).1 D.apart
  obtain ⟨g', w', tm, a1, a2, a3, a4, a5⟩ := dsteps_ok d1 (g := g) (fr := { fr with todo := .inRegion ops (L'.map (·.idx) ++ t) :: k }) (cs := cs) (w := { w with drawn := w.drawn + 1 }) (rest := t) (k := k) s1.h.n
    hinv (fun i hi => (D.fids i).2 (.inl ((hst.A i).1 hi))) (fun r hr => D.quiet r (p1.subset hr))
    (fun r hr hf => ⟨fun ha => by have h1 := (hst.A _).1 ha; have h2 := D.ge r (p1.subset hr); omega, (D.fids _).2 (.inr ⟨r, p1.subset hr, hf, rfl⟩)⟩)
    hsym ⟨by rw [← hst.len]; exact TMap.toList_length _ _, hst.tmps⟩ rfl hm
  have st1 := step_draw (P := P) (cs := cs) (w := w) hm ht
  rw [hsched] at st1
  have hst1 : StRel P g' s1 { fr with tmps := tm, todo := .inRegion ops t :: k } w' := by
    refine ⟨a2, ?_, by rw [← a5.len]; exact (TMap.toList_length _ _).symm, a5.pw, ?_, ?_⟩
    · intro i
      rw [a3, D.fids, hst.A]
      constructor
      · rintro (h | ⟨r, hr, h⟩)
        · exact .inl h
        · exact .inr ⟨r, p1.subset hr, h⟩
      · rintro (h | ⟨r, hr, h⟩)
        · exact .inl h
        · exact .inr ⟨r, p1.symm.subset hr, h⟩
    · rw [D.defers]; exact hst.defers.mono a4.le
    · rw [D.round]
      rcases hst.round with h | ⟨i, h1, h2, h3⟩
      · exact .inl h
      · exact .inr ⟨i, h1, a4.le.A _ h2, by rw [a4.le.j _ h2]; exact h3⟩
  obtain ⟨g2, fr2, cs2, w2, G2⟩ := htail' g' { fr with tmps := tm, todo := .inRegion ops t :: k } cs base w' k hst1 (by rw [D.pan]; exact hcs.mono a4.le) rfl hm
  have ev1 : Evolves g (Heap.at s.h) w g' (Heap.at s1.h) w' := ⟨a4.le, a4.os, a4.tape, a4.output, a4.size, a4.keep, a4.fro, a4.own⟩
  exact ⟨g2, fr2, cs2, w2, (st1.trans a1).trans G2.steps, G2.st, G2.cs, G2.fn, G2.kind, G2.lands, ev1.trans G2.ev, G2.round.trans D.round⟩

end

end

theorem drawn_panic (hmix : C.P.follows .mixedOrders = true) (hcon : ConOk C) (hrec : ∀ t r, rec t = some r → Sound C.P t r) {id : Nat} {s s1 : ASt} {l : List DRec} {t : List Nat} {res : Res} (hback : backGo ops.toList 0 = true) (hl : drawnOps C rec ops (List.range ops.size) s = (s1, l, t))
    (h : drawnFall C rec ops s s1 l t = some res) : Sound C.P (.code (.region id ops true) s) res := by
  cases t with
  | nil => simp [drawnFall] at h
  | cons i rest =>
  simp only [drawnFall] at h
  split at h
  · simp at h
  rename_i r v us hpan
  split at h
  case h_2 => simp at h
  rename_i s2 l2 hl2
  split at h
  case isFalse => simp at h
  rename_i hpairs
  simp only [Option.some.injEq] at h
  subst h
  exact ⟨region_fall hmix hback (drawnOps_done hcon hrec hl) (drawnPanic_done hcon hrec hpan) (drawnOps_done hcon hrec hl2) hpairs, fun b hb => by cases hb⟩

/-- REGIONS WHOSE ORDER IS OPEN. -/
theorem drawn_ok (hmix : C.P.follows .mixedOrders = true) (hcon : ConOk C) (rec : Task → Option Res) (hrec : ∀ t r, rec t = some r → Sound C.P t r) : DrawnOk C rec := by
  intro id ops s r h
  unfold drawn at h
  split at h
  case isFalse => simp at h
  rename_i hback
  obtain ⟨s1, l, t, hl⟩ : ∃ s1 l t, drawnOps C rec ops (List.range ops.size) s = (s1, l, t) := ⟨_, _, _, rfl⟩
  rw [hl] at h
  simp only at h
  split at h
  case isFalse => exact drawn_panic hmix hcon hrec hback hl h
  rename_i hcond
  simp only [Bool.and_eq_true] at hcond
  obtain ⟨⟨hpairs, hchain⟩, hbef⟩ := hcond
  have htail := hrec _ _ h
  cases r with
  | call _ _ _ => exact htail.elim
  | defers _ _ => exact htail.elim
  | code e s' =>
  exact ⟨region_ok hmix hback (drawnOps_done hcon hrec hl) hpairs hchain hbef htail, fun b hb => by cases hb⟩

/-- THE EVALUATOR IS RIGHT. -/
theorem run_ok (hmix : C.P.follows .mixedOrders = true) (hcon : ConOk C) (n : Nat) (t : Task) (r : Res) (h : run C n t = some r) : Sound C.P t r :=
  run_sound hcon (fun rec hrec => drawn_ok hmix hcon rec hrec) n t r h
end
end Go.Ag
