/- What code comes to on open values, as a predicate. No conditions. -/
import Derived.Test.YtgidjimpobeahaaAgC
/- Proofs with open values: code runs by itself up to what is not known. -/
namespace Go.Ag

/-- A test. -/
def decB (b : Bool) (A B : Prop) : Prop := match b with
  | true => A
  | false => B
/-- Something that is to be known. -/
inductive Got {α : Type} (o : Option α) (K : α → Prop) : Prop
  | mk (v : α) (h : o = some v) (k : K v)
inductive Is {α : Type} (o : α) (K : α → Prop) : Prop
  | mk (v : α) (h : o = v) (k : K v)
inductive Both (A B : Prop) : Prop
  | mk (a : A) (b : B)

/-- What code comes to. -/
def T (P : Program) (item : Item) (s : ASt) (K : AExit → ASt → Prop) : Prop := ∃ e s', CodeOk P s item e s' ∧ K e s'

/-- What a call comes to. -/
inductive CallW (P : Program) (f : FuncId) (args : List AV) (h : Heap) (K : AEnd → Heap → Prop) : Prop
  | pure (args' : List CV) (e : AEnd) (ha : allC args = some args') (hk : CallOk P f (args'.map .c) TMap.nil .no e TMap.nil .no) (hc : ∃ v, e.val = .c v) (k : K e h)
  | snapped (fuel : Nat) (args' : List CV) (ids : List Nat) (e : AEnd) (v : CV) (ha : snaps (Heap.at h) fuel args = some (args', ids)) (hk : CallOk P f (args'.map .c) TMap.nil .no e TMap.nil .no) (hc : e.val = .c v) (k : K e (Heap.upd h (killed v ids)))
  | inl (e : AEnd) (h' : Heap) (pan' : Pan) (hk : CallOk P f args h .no e h' pan') (k : K e h')

section
variable (P : Program)

inductive GV where
  | yes | no | bad
  | bool (b want : Bool)
def guardV (ops : Array Oper) (o : Oper) (tmps : TMap AV) : GV := match o.guard with
  | none => .yes
  | some (j, want) => match (ops[j]?).bind (·.dst) with
    | none => .no
    | some d => match tmps.get .undef d with
      | .c (.lit (.bool b)) => .bool b want
      | .c (.lit (.tuple _)) => .no
      | _ => .bad

theorem guardV_yes {ops : Array Oper} {o : Oper} {s : ASt} (h : guardV ops o s.tmps = .yes) : wantedA ops o s = some true := by
  unfold guardV at h; unfold wantedA
  split at h
  · rename_i hg; rw [hg]
  · rename_i j want hg
    rw [hg]
    simp only
    split at h
    · cases h
    · rename_i d hd
      rw [hd]
      simp only
      split at h <;> cases h
theorem guardV_no {ops : Array Oper} {o : Oper} {s : ASt} (h : guardV ops o s.tmps = .no) : wantedA ops o s = some false := by
  unfold guardV at h; unfold wantedA
  split at h
  · cases h
  · rename_i j want hg
    rw [hg]
    simp only
    split at h
    · rename_i hd; rw [hd]
    · rename_i d hd
      rw [hd]
      simp only
      split at h
      · cases h
      · rename_i vs hv; rw [hv]
      · cases h
theorem guardV_bool {ops : Array Oper} {o : Oper} {s : ASt} {b want : Bool} (h : guardV ops o s.tmps = .bool b want) : wantedA ops o s = some (b == want) := by
  unfold guardV at h; unfold wantedA
  split at h
  · cases h
  · rename_i j want hg
    rw [hg]
    simp only
    split at h
    · cases h
    · rename_i d hd
      rw [hd]
      simp only
      split at h
      · rename_i b' hv
        simp only [GV.bool.injEq] at h
        obtain ⟨rfl, rfl⟩ := h
        rw [hv]
      · cases h
      · cases h

/-- An operation: what the state is after it (K), or that it panics (X). -/
inductive OpStep (P : Program) (ops : Array Oper) (i : Nat) (s : ASt) : (ASt → Prop) → (AV → ASt → Prop) → Prop
  | mk {K X} (h : (∃ s1, K s1 ∧ ∀ rest e s', CodeOk P s1 (.inRegion ops rest) e s' → CodeOk P s (.inRegion ops (i :: rest)) e s') ∨ (∃ v s1, X v s1 ∧ ∀ rest, CodeOk P s (.inRegion ops (i :: rest)) (.panic v) s1)) : OpStep P ops i s K X
end

/-- What a yield comes to: whether the range goes on, or a panic. -/
def YieldOk (P : Program) (id : Nat) (args : List AV) (h : Heap) (K : Bool → Heap → Prop) (X : AV → Heap → Prop) : Prop :=
  ∀ (ops : Array Oper) (i : Nat) (o : Oper) (s : ASt), ops[i]? = some o → wantedA ops o s = some true → aop P o s.eval (Heap.at s.h) s.h.n = some (.yield id args) → s.h = h →
    OpStep P ops i s (fun s1 => ∃ b h', K b h' ∧ s1 = ({ s with h := h' } : ASt).put o.dst (.bool b)) (fun v s1 => ∃ h', X v h' ∧ s1 = { s with h := h' })
inductive YieldW (P : Program) (id : Nat) (args : List AV) (h : Heap) (K : Bool → Heap → Prop) (X : AV → Heap → Prop) : Prop
  | mk (k : YieldOk P id args h K X)

section
variable {P : Program} {ops : Array Oper} {i : Nat} {o : Oper} {s : ASt} {K : ASt → Prop} {X : AV → ASt → Prop}

theorem OpStep.mono {K' : ASt → Prop} {X' : AV → ASt → Prop} (h : OpStep P ops i s K X) (hk : ∀ s1, K s1 → K' s1) (hx : ∀ v s1, X v s1 → X' v s1) : OpStep P ops i s K' X' := by
  obtain ⟨h | h⟩ := h
  · obtain ⟨s1, k, h⟩ := h
    exact ⟨.inl ⟨s1, hk _ k, h⟩⟩
  · obtain ⟨v, s1, k, h⟩ := h
    exact ⟨.inr ⟨v, s1, hx _ _ k, h⟩⟩

theorem aop_other_local {o : Oper} {ρ : Operand → AV} {rd rd' : Nat → AB} {n m : Nat} {out : Out} (h : aop P o ρ rd n = some out) (hs : ∀ r, out ≠ .simple r) : aop P o ρ rd' m = some out := by
  have nosimp : ∀ {x : Option SOut}, simp? x = some out → False := by
    intro x hx
    simp only [simp?, Option.map_eq_some_iff] at hx
    obtain ⟨r, _, h2⟩ := hx
    exact hs r h2.symm
  have noval : ∀ {r : SOut}, some (Out.simple r) = some out → False := fun h => hs _ (Option.some.inj h).symm
  unfold aop at h ⊢
  split at h
  all_goals rename_i ho
  all_goals try exact h
  all_goals try exact (nosimp h).elim
  all_goals try exact (noval h).elim
  · split at h
    · exact (noval h).elim
    · simp at h
  · split at h
    · exact (nosimp h).elim
    · exact h
  rename_i c
  unfold acall at h ⊢
  try simp only
  split at h
  · rename_i b hb
    split at h
    · exact (nosimp h).elim
    · split at h
      case h_2 => simp at h
      split at h
      · exact (noval h).elim
      · obtain ⟨v, hv⟩ := pureOp_out h
        exact absurd hv (hs _)
    · split at h
      case h_2 => simp at h
      exact (nosimp h).elim
    · split at h
      case h_2 => simp at h
      exact (nosimp h).elim
    · exact h
    · exact h
    · exact h
  · exact h
  · exact h

theorem OpStep.defer (ho : ops[i]? = some o) (hw : wantedA ops o s = some true) (hr : s.round = none) {f : FuncId} {args : List AV} (ha : aop P o s.eval (Heap.at s.h) s.h.n = some (.defer f args)) (k : K ({ s with defers := .call f args :: s.defers }.put o.dst .undef)) : OpStep P ops i s K X :=
  ⟨.inl ⟨_, k, fun _ _ _ h => ok_defer ho hw hr ha h⟩⟩
theorem OpStep.recover (ho : ops[i]? = some o) (hw : wantedA ops o s = some true) (hr : s.round = none) (ha : aop P o s.eval (Heap.at s.h) s.h.n = some .recover) (k : K (match s.pan with | .live v => ({ s with pan := .taken } : ASt).put o.dst v | _ => s.put o.dst (.lit .nilIface))) : OpStep P ops i s K X :=
  ⟨.inl ⟨_, k, fun _ _ _ h => ok_recover ho hw hr ha h⟩⟩

theorem OpStep.simple (ho : ops[i]? = some o) (hw : wantedA ops o s = some true) {r : SOut} (ha : aop P o s.eval (Heap.at s.h) s.h.n = some (.simple r)) (k : K (s.apply o.dst r)) : OpStep P ops i s K X :=
  ⟨.inl ⟨_, k, fun _ _ _ h => ok_simple ho hw ha h⟩⟩
theorem OpStep.skip (ho : ops[i]? = some o) (hw : wantedA ops o s = some false) (k : K (s.put o.dst .undef)) : OpStep P ops i s K X :=
  ⟨.inl ⟨_, k, fun _ _ _ h => ok_skip ho hw h⟩⟩
theorem OpStep.panics (ho : ops[i]? = some o) (hw : wantedA ops o s = some true) {v : AV} (ha : aop P o s.eval (Heap.at s.h) s.h.n = some (.panic v)) (k : X v s) : OpStep P ops i s K X :=
  ⟨.inr ⟨v, _, k, fun _ => ok_panic ho hw ha⟩⟩

theorem OpStep.calls (ho : ops[i]? = some o) (hw : wantedA ops o s = some true) {f : FuncId} {args : List AV} (ha : aop P o s.eval (Heap.at s.h) s.h.n = some (.call f args))
    (k : CallW P f args s.h fun e h' => match e with | .ret v => K ({ s with h := h' }.put o.dst v) | .panic v => X v { s with h := h' }) : OpStep P ops i s K X := by
  have main : ∀ (e : AEnd) (h' : Heap), (∀ (g : G) (w : World) (cs : List Frame) (vs : Array Value), Inv g (Heap.at s.h) w → (∀ i, g.A i ↔ i < s.h.n) → args.length = vs.size → Pw (Rep g) args vs.toList →
      ∃ g' fr' w', Steps P (lone (Frame.enter P f vs .normal) cs w) (lone fr' cs w') ∧ Inv g' (Heap.at h') w' ∧ (∀ i, g'.A i ↔ i < h'.n) ∧ Evolves g (Heap.at s.h) w g' (Heap.at h') w' ∧ fr'.fn = f ∧ fr'.kind = .normal ∧ fr'.defers = [] ∧ EndOk P g' f fr' w' e) →
      (match e with | .ret v => K ({ s with h := h' }.put o.dst v) | .panic v => X v { s with h := h' }) → OpStep P ops i s K X := by
    intro e h' hc hk
    cases e with
    | ret v => exact ⟨.inl ⟨_, hk, fun rest e s' hr => (ok_callop ho hw ha hc).1 v s' e rfl hr⟩⟩
    | panic v => exact ⟨.inr ⟨v, _, hk, fun rest => (ok_callop ho hw ha hc).2 v rfl⟩⟩
  cases k with
  | inl e h' pan' hk k =>
    refine main e h' ?_ k
    intro g w cs vs hi hA hl hp
    obtain ⟨g', fr', cs', w', k1, k2, k3, k4, k5, k6, k7, k8, k9, k10⟩ := hk g .normal cs cs w vs hi hA hl hp ⟨rfl, .inl rfl⟩
    have := normal_cs k4
    subst this
    exact ⟨g', fr', w', k1, k2, k3, k5, k6, k7, k9, k10⟩
  | snapped fuel args' ids e v hs hk hc k =>
    refine main e _ ?_ k
    intro g w cs vs hi hA hl hp
    have hsn : snap (Heap.at TMap.nil) 1 e.val = some (v, []) := by rw [hc]; rfl
    have := pure_ok hi hA hl hp hs hk hsn cs
    have he : e.setVal (.c v) = e := by cases e <;> (simp only [AEnd.val] at hc; subst hc; rfl)
    simpa only [he] using this
  | pure args' e hs hk hc k =>
    refine main e _ ?_ k
    intro g w cs vs hi hA hl hp
    obtain ⟨v, hc⟩ := hc
    have hall : ∀ (l : List AV) (l' : List CV), allC l = some l' → ∃ n, snaps (Heap.at s.h) n l = some (l', []) := by
      intro l
      induction l with
      | nil => intro l' h; simp only [allC, Option.some.injEq] at h; subst h; exact ⟨1, rfl⟩
      | cons a l ih =>
        intro l' h
        cases a with
        | c u =>
          simp only [allC, Option.map_eq_some_iff] at h
          obtain ⟨l'', h1, rfl⟩ := h
          obtain ⟨n, hn⟩ := ih l'' h1
          cases n with
          | zero => simp [snaps] at hn
          | succ n => exact ⟨n + 2, by simp only [snaps, snap, hn]; rfl⟩
        | _ => simp [allC] at h
    obtain ⟨n, hn⟩ := hall _ _ hs
    have hsn : snap (Heap.at TMap.nil) 1 e.val = some (v, []) := by rw [hc]; rfl
    have := pure_ok hi hA hl hp hn hk hsn cs
    have hkl : ∀ v : CV, killed v [] = [] := by intro v; unfold killed; split <;> rfl
    have he : e.setVal (.c v) = e := by cases e <;> (simp only [AEnd.val] at hc; subst hc; rfl)
    simpa only [hkl, he, Heap.upd] using this
end

section
variable (P : Program)

/-- A value's outermost layer. -/
noncomputable def layV (v : AV) (k : AV → Prop) : Prop := match v with
  | .c u => k (.c u)
  | .ptr id off => k (.ptr id off)
  | .msl id sz off len cap => k (.msl id sz off len cap)
  | .map id => k (.map id)
  | .yield id => k (.yield id)
  | .func fn a b => k (.func fn a b)
  | .iface t v => k (.iface t v)
  | .agg cs => k (.agg cs)
  | .tuple cs => k (.tuple cs)
theorem layV_eq (v : AV) (k : AV → Prop) : layV v k = k v := by cases v <;> rfl

/-- The state with a value put, its temporaries in normal form. -/
noncomputable def fin (tmps : TMap AV) (ds : List ADef) (p : Pan) (rd : Option Nat) (h : Heap) (dst : Option Tmp) (v : AV) (K : ASt → Prop) : Prop := layV v fun v => putK tmps dst v fun t => K ⟨t, ds, p, rd, h⟩
theorem fin_eq (tmps : TMap AV) (ds : List ADef) (p : Pan) (rd : Option Nat) (h : Heap) (dst : Option Tmp) (v : AV) (K : ASt → Prop) : fin tmps ds p rd h dst v K = K ((ASt.mk tmps ds p rd h).put dst v) := by
  unfold fin; rw [layV_eq, putK_eq, put_mk]

/-- A look at a block: of a heap that is known as it stands, or of one of which something is to be said. -/
def look (hm : Bool) (b : AB) (K : AB → Prop) : Prop := match hm with
  | true => K b
  | false => Is b K
theorem look_eq {hm : Bool} {b : AB} {K : AB → Prop} (h : look hm b K) : K b := by
  cases hm with
  | true => exact h
  | false => obtain ⟨v, rfl, k⟩ := h; exact k

/-- A block's cells in a row. -/
noncomputable def blkK (b : AB) (K : AB → Prop) : Prop := match b with
  | .blk cells => forceL cells fun cells => K (.blk cells)
  | b => K b
theorem blkK_eq (b : AB) (K : AB → Prop) : blkK b K = K b := by
  cases b <;> simp only [blkK, forceL_eq]

/-- Where the cells are not known one by one. -/
theorem forceL_intro {α : Type} {l : List α} {k : List α → Prop} (h : k l) : List.rec (motive := fun _ => (List α → Prop) → Prop) (fun k => k []) (fun a _ ih k => ih fun r => k (a :: r)) l k := by
  have := forceL_eq (β := Prop) l k
  unfold forceL at this
  rw [this]; exact h

noncomputable def hPush (hm : Bool) (h : Heap) (b : AB) (K : Heap → Prop) : Prop := match hm with
  | true => blkK b fun b => pushK .dead h b K
  | false => blkK b fun b => K (h.push .dead b)
theorem hPush_eq (hm : Bool) (h : Heap) (b : AB) (K : Heap → Prop) : hPush hm h b K = K (h.push .dead b) := by
  cases hm <;> simp only [hPush, blkK_eq, pushK_eq]
noncomputable def hSet (hm : Bool) (h : Heap) (id : Nat) (b : AB) (K : Heap → Prop) : Prop := match hm with
  | true => blkK b fun b => mapK .dead h id b K
  | false => blkK b fun b => K (h.set .dead id b)
theorem hSet_eq (hm : Bool) (h : Heap) (id : Nat) (b : AB) (K : Heap → Prop) : hSet hm h id b K = K (h.set .dead id b) := by
  cases hm <;> simp only [hSet, blkK_eq, mapK_eq]

/-- A look at a temporary, ahead of what follows. -/
noncomputable def treeGK {α : Type} (d : α) (t : Tree α) : Nat → (α → Prop) → Prop := Tree.rec (motive := fun _ => Nat → (α → Prop) → Prop) (fun _ k => k d) (fun v _ _ ihl ihr i k => Nat.casesOn (motive := fun _ => Prop) i (k v) (fun j => Nat.casesOn (motive := fun _ => Prop) (j % 2) (ihl (j / 2) k) (fun _ => ihr (j / 2) k))) t
theorem treeGK_eq {α : Type} (d : α) : ∀ (t : Tree α) (i : Nat) (k : α → Prop), treeGK d t i k = k (t.get d i)
  | .leaf, i, k => by cases i <;> rfl
  | .node v l r, i, k => by
    cases i with
    | zero => rfl
    | succ j =>
      have e : treeGK d (.node v l r) (j + 1) k = Nat.casesOn (motive := fun _ => Prop) (j % 2) (treeGK d l (j / 2) k) (fun _ => treeGK d r (j / 2) k) := rfl
      rw [e, treeGK_eq d l, treeGK_eq d r]
      simp only [Tree.get]
      cases j % 2 <;> rfl
noncomputable def evalK (tmps : TMap AV) (x : Operand) (k : AV → Prop) : Prop := match x with
  | .tmp t => match Nat.blt t tmps.n with
    | true => treeGK .undef tmps.t t k
    | false => k .undef
  | .const v => k (.c (CV.ofVal v))
  | .global _ => k (.c .junk)
  | .func f => k (.c (.func (.func f) [] []))
theorem evalK_eq (tmps : TMap AV) (x : Operand) (k : AV → Prop) : evalK tmps x k = k (evalF tmps x) := by
  cases x with
  | tmp t =>
    have e : evalF tmps (.tmp t) = tmps.get .undef t := getF_eq _ _ _
    rw [e]
    simp only [evalK, treeGK_eq, TMap.get]
    cases Nat.blt t tmps.n <;> rfl
  | const v => rfl
  | global k => rfl
  | func f => rfl
/-- A move. -/
noncomputable def moved (x : Operand) (tmps : TMap AV) (ds : List ADef) (p : Pan) (rd : Option Nat) (h : Heap) (dst : Option Tmp) (K : ASt → Prop) : Prop := evalK tmps x fun v => putK tmps dst v fun t => K ⟨t, ds, p, rd, h⟩
theorem moved_eq (x : Operand) (tmps : TMap AV) (ds : List ADef) (p : Pan) (rd : Option Nat) (h : Heap) (dst : Option Tmp) (K : ASt → Prop) : moved x tmps ds p rd h dst K = K ((ASt.mk tmps ds p rd h).put dst (evalF tmps x)) := by
  unfold moved; rw [evalK_eq, putK_eq, put_mk]

noncomputable def fin0 (tmps : TMap AV) (ds : List ADef) (p : Pan) (rd : Option Nat) (h : Heap) (dst : Option Tmp) (v : AV) (K : ASt → Prop) : Prop := putK tmps dst v fun t => K ⟨t, ds, p, rd, h⟩
theorem fin0_eq (tmps : TMap AV) (ds : List ADef) (p : Pan) (rd : Option Nat) (h : Heap) (dst : Option Tmp) (v : AV) (K : ASt → Prop) : fin0 tmps ds p rd h dst v K = K ((ASt.mk tmps ds p rd h).put dst v) := by
  unfold fin0; rw [putK_eq, put_mk]

/-- Two truth values are compared: what comes of it is to be said. -/
inductive BoolOp (P : Program) (o : Oper) (tmps : TMap AV) (n : Nat) (K : AV → Prop) : Prop
  | mk (v : AV) (h : aop P o (evalF tmps) (fun _ => .dead) n = some (.simple { val := v })) (k : K v)

/-- What an operation does that looks at no memory. -/
noncomputable def wPlain (hm : Bool) (o : Oper) (tmps : TMap AV) (ds : List ADef) (p : Pan) (rd : Option Nat) (h : Heap) (K : ASt → Prop) (X : AV → ASt → Prop) : Prop :=
  match aop P o (evalF tmps) (fun _ => .dead) h.n with
  | some (.simple ⟨v, [], [], none⟩) => fin tmps ds p rd h o.dst v K
  | some (.simple ⟨v, [], [], some b⟩) => hPush hm h b fun h => fin tmps ds p rd h o.dst v K
  | some (.panic v) => X v ⟨tmps, ds, p, rd, h⟩
  | some (.call f args) => CallW P f args h fun e h' => match e with | .ret v => fin0 tmps ds p rd h' o.dst v K | .panic v => X v ⟨tmps, ds, p, rd, h'⟩
  | some (.yield id args) => YieldW P id args h (fun b h' => fin0 tmps ds p rd h' o.dst (.bool b) K) (fun v h' => X v ⟨tmps, ds, p, rd, h'⟩)
  | some (.defer f args) => match rd with
    | none => fin0 tmps (.call f args :: ds) p none h o.dst .undef K
    | some _ => False
  | some .recover => match rd with
    | none => match p with
      | .live v => fin tmps ds .taken none h o.dst v K
      | .no => fin tmps ds .no none h o.dst (.lit .nilIface) K
      | .taken => fin tmps ds .taken none h o.dst (.lit .nilIface) K
    | some _ => False
  | _ => Got (match aop P o (evalF tmps) (Heap.at h) h.n with | some (.simple r) => some r | _ => none) fun r => K ((ASt.mk tmps ds p rd h).apply o.dst r)

/-! The greatest and the least of two numbers. -/
theorem vals2 {σ : Operand → AV} {x y : Operand} {a b : Int} (hx : σ x = .c (.lit (.int .i64 a))) (hy : σ y = .c (.lit (.int .i64 b))) : allVals σ [x, y] = true := by
  simp only [allVals, hx, hy]
  rfl
theorem minmax_pure {P : Program} {o : Oper} {σ : Operand → AV} {x y : Operand} {ts : Array TypeId} {a b c : Int} {f : Builtin} (ho : o.op = .call ⟨.builtin f, #[x, y], ts⟩) (hx : σ x = .c (.lit (.int .i64 a))) (hy : σ y = .c (.lit (.int .i64 b)))
    (hf : ∀ cs : Array Bool, pureRun P (builtin f ts o.type cs #[.int .i64 a, .int .i64 b]) = some (.value (.int .i64 c))) : pureOp P o σ = some (.simple { val := .int c }) := by
  unfold pureOp
  have h1 : (allVals σ o.op.operands.toList && notSelect o.op) = true := by
    rw [ho]
    show (allVals σ [x, y] && true) = true
    rw [vals2 hx hy]; rfl
  rw [if_pos h1]
  have h2 : pureRun P (execOp (fun x => ((σ x).toVal).getD Go.undef) o) = some (.value (.int .i64 c)) := by
    have gen : ∀ (ρ : Operand → Value), ρ x = .int .i64 a → ρ y = .int .i64 b → pureRun P (execOp ρ o) = some (.value (.int .i64 c)) := by
      intro ρ h1 h2
      unfold execOp
      rw [ho]
      show pureRun P (resolve ρ ⟨.builtin f, #[x, y], ts⟩ o.type >>= fun d => invoke d.target d.args) = _
      rw [pureRun_bind]
      have e : #[x, y].map ρ = #[ρ x, ρ y] := by simp
      obtain ⟨cs, hr⟩ : ∃ cs, pureRun P (resolve ρ ⟨.builtin f, #[x, y], ts⟩ o.type) = some ⟨.builtin f ts o.type cs, #[ρ x, ρ y]⟩ := ⟨_, by rw [← e]; rfl⟩
      rw [hr, h1, h2]
      exact hf _
    exact gen _ (by simp only [hx]; rfl) (by simp only [hy]; rfl)
  rw [h2]
  rfl

theorem max3_pure {P : Program} {o : Oper} {σ : Operand → AV} {x y z : Operand} {ts : Array TypeId} {a b c : Int} (ho : o.op = .call ⟨.builtin .max, #[x, y, z], ts⟩) (hx : σ x = .c (.lit (.int .i64 a))) (hy : σ y = .c (.lit (.int .i64 b))) (hz : σ z = .c (.lit (.int .i64 c))) : pureOp P o σ = some (.simple { val := .int (max (max a b) c) }) := by
  unfold pureOp
  have h0 : allVals σ [x, y, z] = true := by simp only [allVals, hx, hy, hz]; rfl
  have h1 : (allVals σ o.op.operands.toList && notSelect o.op) = true := by
    rw [ho]
    show (allVals σ [x, y, z] && true) = true
    rw [h0]; rfl
  rw [if_pos h1]
  have hf : ∀ cs : Array Bool, pureRun P (builtin .max ts o.type cs #[.int .i64 a, .int .i64 b, .int .i64 c]) = some (.value (.int .i64 (max (max a b) c))) := by
    intro cs
    have e1 : max a b = if b > a then b else a := by split <;> omega
    have e2 : max (max a b) c = if c > max a b then c else max a b := by split <;> omega
    rw [e2, e1]
    rfl
  have h2 : pureRun P (execOp (fun x => ((σ x).toVal).getD Go.undef) o) = some (.value (.int .i64 (max (max a b) c))) := by
    have gen : ∀ (ρ : Operand → Value), ρ x = .int .i64 a → ρ y = .int .i64 b → ρ z = .int .i64 c → pureRun P (execOp ρ o) = some (.value (.int .i64 (max (max a b) c))) := by
      intro ρ h1 h2 h3
      unfold execOp
      rw [ho]
      show pureRun P (resolve ρ ⟨.builtin .max, #[x, y, z], ts⟩ o.type >>= fun d => invoke d.target d.args) = _
      rw [pureRun_bind]
      have e : #[x, y, z].map ρ = #[ρ x, ρ y, ρ z] := by simp
      obtain ⟨cs, hr⟩ : ∃ cs, pureRun P (resolve ρ ⟨.builtin .max, #[x, y, z], ts⟩ o.type) = some ⟨.builtin .max ts o.type cs, #[ρ x, ρ y, ρ z]⟩ := ⟨_, by rw [← e]; rfl⟩
      rw [hr, h1, h2, h3]
      exact hf cs
    exact gen _ (by simp only [hx]; rfl) (by simp only [hy]; rfl) (by simp only [hz]; rfl)
  rw [h2]
  rfl

theorem max_pure {P : Program} {o : Oper} {σ : Operand → AV} {x y : Operand} {ts : Array TypeId} {a b : Int} (ho : o.op = .call ⟨.builtin .max, #[x, y], ts⟩) (hx : σ x = .c (.lit (.int .i64 a))) (hy : σ y = .c (.lit (.int .i64 b))) : pureOp P o σ = some (.simple { val := .int (max a b) }) := by
  refine minmax_pure ho hx hy fun cs => ?_
  have : max a b = if b > a then b else a := by split <;> omega
  rw [this]
  rfl
theorem min_pure {P : Program} {o : Oper} {σ : Operand → AV} {x y : Operand} {ts : Array TypeId} {a b : Int} (ho : o.op = .call ⟨.builtin .min, #[x, y], ts⟩) (hx : σ x = .c (.lit (.int .i64 a))) (hy : σ y = .c (.lit (.int .i64 b))) : pureOp P o σ = some (.simple { val := .int (min a b) }) := by
  refine minmax_pure ho hx hy fun cs => ?_
  have : min a b = if b < a then b else a := by split <;> omega
  rw [this]
  rfl

/-- An append, done. -/
noncomputable def updW (hm : Bool) : Heap → List (Nat × AB) → (Heap → Prop) → Prop
  | h, [], K => K h
  | h, (id, b) :: us, K => hSet hm h id b fun h => updW hm h us K
theorem updW_eq (hm : Bool) : ∀ (us : List (Nat × AB)) (h : Heap) (K : Heap → Prop), updW hm h us K = K (Heap.upd h us)
  | [], h, K => rfl
  | (id, b) :: us, h, K => by simp only [updW, hSet_eq, Heap.upd]; exact updW_eq hm us _ K
noncomputable def freshW (hm : Bool) (h : Heap) (b : Option AB) (K : Heap → Prop) : Prop := match b with
  | none => K h
  | some b => hPush hm h b K
theorem freshW_eq (hm : Bool) (h : Heap) (b : Option AB) (K : Heap → Prop) : freshW hm h b K = K (h.app .dead b.toList) := by
  cases b with
  | none => rfl
  | some b => simp only [freshW, hPush_eq]; rfl

noncomputable def appended (hm : Bool) (tmps : TMap AV) (ds : List ADef) (p : Pan) (rd : Option Nat) (h : Heap) (dst : Option Tmp) (r : SOut) (K : ASt → Prop) : Prop := match hm with
  | true => updW true h r.upds fun h => freshW true h r.fresh fun h => fin tmps ds p rd h dst r.val K
  | false => fin0 tmps ds p rd ((Heap.upd h r.upds).app .dead r.fresh.toList) dst r.val K
theorem appended_eq (hm : Bool) (tmps : TMap AV) (ds : List ADef) (p : Pan) (rd : Option Nat) (h : Heap) (dst : Option Tmp) (r : SOut) (K : ASt → Prop) : appended hm tmps ds p rd h dst r K = K ((ASt.mk tmps ds p rd h).apply dst r) := by
  cases hm <;> simp only [appended, updW_eq, freshW_eq, fin_eq, fin0_eq] <;> rfl

/-- What is to be known of an append. -/
def appGot (hm : Bool) (o : Option SOut) (K : SOut → Prop) : Prop := match hm with
  | true => match o with
    | some r => K r
    | none => False
  | false => Got o K
theorem appGot_eq {hm : Bool} {o : Option SOut} {K : SOut → Prop} (h : appGot hm o K) : ∃ r, o = some r ∧ K r := by
  cases hm with
  | true =>
    cases o with
    | none => exact h.elim
    | some r => exact ⟨r, rfl, h⟩
  | false => obtain ⟨r, h1, h2⟩ := h; exact ⟨r, h1, h2⟩

theorem arrSlice_plain {P : Program} {rd : Nat → AB} {t : TypeId} {x : AV} {lo hi mx : Option AV} {r : SOut} (h : aarrSlice P rd t x lo hi mx = some r) : r.upds = [] ∧ r.fresh = none := by
  unfold aarrSlice at h
  split at h
  case h_2 => simp at h
  split at h
  · split at h
    case h_2 => simp at h
    split at h
    case isFalse => simp at h
    simp only [Option.map_eq_some_iff] at h
    obtain ⟨b, _, rfl⟩ := h
    exact ⟨rfl, rfl⟩
  · split at h
    case isFalse => simp at h
    simp only [Option.map_eq_some_iff] at h
    obtain ⟨b, _, rfl⟩ := h
    exact ⟨rfl, rfl⟩
  · simp at h

theorem lookup_plain {P : Program} {rd : Nat → AB} {t : TypeId} {m k : AV} {ok : Bool} {r : SOut} (h : alookup P rd t m k ok = some r) : r.upds = [] ∧ r.fresh = none := by
  unfold alookup at h
  split at h
  case h_2 => simp at h
  split at h
  · split at h
    case h_2 => simp at h
    simp only [Option.some.injEq] at h
    subst h
    exact ⟨rfl, rfl⟩
  · split at h
    case h_2 => simp at h
    simp only [Option.some.injEq] at h
    subst h
    exact ⟨rfl, rfl⟩
  · simp at h

/-- What an operation does. -/
noncomputable def wOp (hm : Bool) (o : Oper) (tmps : TMap AV) (ds : List ADef) (p : Pan) (rd : Option Nat) (h : Heap) (K : ASt → Prop) (X : AV → ASt → Prop) : Prop := match o.op with
  | .load t a => match evalF tmps a with
    | .ptr id off => look hm (Heap.at h id) fun b => match b with
      | .blk cells => match readVar P t cells off with
        | some v => fin tmps ds p rd h o.dst v K
        | none => False
      | _ => False
    | .c (.cptr cells off) => Got (readVarC P t cells off) fun v => fin tmps ds p rd h o.dst (.c v) K
    | _ => False
  | .store t a x => match evalF tmps a with
    | .ptr id off => look hm (Heap.at h id) fun b => match b, P.info? t with
      | .blk cells, some i => if (evalF tmps x).cells.length = i.size ∧ (evalF tmps x).cells.all AV.cellish = true then match putAt cells off (evalF tmps x).cells with
          | some cs => hSet hm h id (.blk cs) fun h => fin tmps ds p rd h o.dst .undef K
          | none => False
        else False
      | _, _ => False
    | _ => False
  | .indexAddr t x ix => match asInt (evalF tmps ix), P.underlying t, evalF tmps x with
    | some i, some (.slice elem), .c (.sl cs off len) => match slicePart P elem with
      | some size => Both (0 ≤ i ∧ i < (len : Int)) (fin tmps ds p rd h o.dst (.c (.cptr cs (off + i.toNat * size))) K)
      | none => False
    | some i, some (.slice elem), .msl id sz off len _ => match slicePart P elem with
      | some size => Both (sz = size ∧ 0 ≤ i ∧ i < (len : Int)) (fin tmps ds p rd h o.dst (.ptr id (off + i.toNat * size)) K)
      | none => False
    | some i, some (.array len elem), .ptr id off => match slicePart P elem with
      | some size => Both (1 < len ∧ 0 ≤ i ∧ i < (len : Int)) (fin tmps ds p rd h o.dst (.ptr id (off + i.toNat * size)) K)
      | none => False
    | some i, some (.array len elem), .c (.cptr cs off) => match slicePart P elem with
      | some size => Both (1 < len ∧ 0 ≤ i ∧ i < (len : Int)) (fin tmps ds p rd h o.dst (.c (.cptr cs (off + i.toNat * size))) K)
      | none => False
    | _, _, _ => wPlain P hm o tmps ds p rd h K X
  | .move x => moved x tmps ds p rd h o.dst K
  | .assign x => moved x tmps ds p rd h o.dst K
  | .slice t x lo hi mx => match isArr P t with
    | true => Got (aarrSlice P (Heap.at h) t (evalF tmps x) (lo.map (evalF tmps)) (hi.map (evalF tmps)) (mx.map (evalF tmps))) fun r => fin tmps ds p rd h o.dst r.val K
    | false => wPlain P hm o tmps ds p rd h K X
  | .lookup t m k ok => Got (alookup P (Heap.at h) t (evalF tmps m) (evalF tmps k) ok) fun r => fin0 tmps ds p rd h o.dst r.val K
  | .mapUpdate t m k v => Got (amapUpdate P (Heap.at h) t (evalF tmps m) (evalF tmps k) (evalF tmps v)) fun r => appended hm tmps ds p rd h o.dst r K
  | .call ⟨.builtin .copy, args, ts⟩ => match args.toList, ts[0]? with
    | [d, s], some t => Got (acopy P (Heap.at h) t (evalF tmps d) (evalF tmps s)) fun r => appended hm tmps ds p rd h o.dst r K
    | _, _ => wPlain P hm o tmps ds p rd h K X
  | .call ⟨.builtin .append, args, ts⟩ => match args.toList with
    | [s, x] => appGot hm (aappend P (atF h) h.n ts (evalF tmps s) (evalF tmps x)) fun r => appended hm tmps ds p rd h o.dst r K
    | _ => wPlain P hm o tmps ds p rd h K X
  | .call ⟨.builtin .max, args, _⟩ => match args.toList with
    | [x, y] => match evalF tmps x, evalF tmps y with
      | .c (.lit (.int .i64 a)), .c (.lit (.int .i64 b)) => fin tmps ds p rd h o.dst (.int (max a b)) K
      | _, _ => wPlain P hm o tmps ds p rd h K X
    | [x, y, z] => match evalF tmps x, evalF tmps y, evalF tmps z with
      | .c (.lit (.int .i64 a)), .c (.lit (.int .i64 b)), .c (.lit (.int .i64 c)) => fin tmps ds p rd h o.dst (.int (max (max a b) c)) K
      | _, _, _ => wPlain P hm o tmps ds p rd h K X
    | _ => wPlain P hm o tmps ds p rd h K X
  | .call ⟨.builtin .min, args, _⟩ => match args.toList with
    | [x, y] => match evalF tmps x, evalF tmps y with
      | .c (.lit (.int .i64 a)), .c (.lit (.int .i64 b)) => fin tmps ds p rd h o.dst (.int (min a b)) K
      | _, _ => wPlain P hm o tmps ds p rd h K X
    | _ => wPlain P hm o tmps ds p rd h K X
  | .binOp .add _ x y _ => match evalF tmps x, evalF tmps y with
    | .c (.lit (.int .i64 a)), .c (.lit (.int .i64 b)) => Is (IntKind.i64.wrap (a + b)) fun z => fin tmps ds p rd h o.dst (.int z) K
    | _, _ => wPlain P hm o tmps ds p rd h K X
  | .binOp .sub _ x y _ => match evalF tmps x, evalF tmps y with
    | .c (.lit (.int .i64 a)), .c (.lit (.int .i64 b)) => Is (IntKind.i64.wrap (a - b)) fun z => fin tmps ds p rd h o.dst (.int z) K
    | _, _ => wPlain P hm o tmps ds p rd h K X
  | .binOp .quo _ x y _ => match evalF tmps x, evalF tmps y with
    | .c (.lit (.int .i64 a)), .c (.lit (.int .i64 b)) => Both (b ≠ 0) (Is (IntKind.i64.wrap (a.tdiv b)) fun z => fin tmps ds p rd h o.dst (.int z) K)
    | _, _ => wPlain P hm o tmps ds p rd h K X
  | .binOp .rem _ x y _ => match evalF tmps x, evalF tmps y with
    | .c (.lit (.int .i64 a)), .c (.lit (.int .i64 b)) => Both (b ≠ 0) (Is (a.tmod b) fun z => fin tmps ds p rd h o.dst (.int z) K)
    | _, _ => wPlain P hm o tmps ds p rd h K X
  | .binOp .mul _ x y _ => match evalF tmps x, evalF tmps y with
    | .c (.lit (.int .i64 a)), .c (.lit (.int .i64 b)) => Is (IntKind.i64.wrap (a * b)) fun z => fin tmps ds p rd h o.dst (.int z) K
    | _, _ => wPlain P hm o tmps ds p rd h K X
  | .binOp .shl _ x y _ => match evalF tmps x, evalF tmps y with
    | .c (.lit (.int .i64 a)), .c (.lit (.int .i64 b)) => Both (0 ≤ b) (Is (IntKind.i64.wrap (a * 2 ^ (min b.toNat 64))) fun z => fin tmps ds p rd h o.dst (.int z) K)
    | _, _ => wPlain P hm o tmps ds p rd h K X
  | .binOp .shr _ x y _ => match evalF tmps x, evalF tmps y with
    | .c (.lit (.int .i64 a)), .c (.lit (.int .i64 b)) => Both (0 ≤ b) (Is (a.fdiv (2 ^ (min b.toNat 64))) fun z => fin tmps ds p rd h o.dst (.int z) K)
    | _, _ => wPlain P hm o tmps ds p rd h K X
  | .binOp .and _ x y _ => match evalF tmps x, evalF tmps y with
    | .c (.lit (.int .i64 a)), .c (.lit (.int .i64 b)) => Is (IntKind.i64.wrap (BitVec.ofInt 64 a &&& BitVec.ofInt 64 b).toNat) fun z => fin tmps ds p rd h o.dst (.int z) K
    | _, _ => wPlain P hm o tmps ds p rd h K X
  | .binOp .or _ x y _ => match evalF tmps x, evalF tmps y with
    | .c (.lit (.int .i64 a)), .c (.lit (.int .i64 b)) => Is (IntKind.i64.wrap (BitVec.ofInt 64 a ||| BitVec.ofInt 64 b).toNat) fun z => fin tmps ds p rd h o.dst (.int z) K
    | _, _ => wPlain P hm o tmps ds p rd h K X
  | .binOp .andNot _ x y _ => match evalF tmps x, evalF tmps y with
    | .c (.lit (.int .i64 a)), .c (.lit (.int .i64 b)) => Is (IntKind.i64.wrap (BitVec.ofInt 64 a &&& ~~~BitVec.ofInt 64 b).toNat) fun z => fin tmps ds p rd h o.dst (.int z) K
    | _, _ => wPlain P hm o tmps ds p rd h K X
  | .binOp .neq _ x y _ => match evalF tmps x, evalF tmps y with
    | .c (.lit (.bool _)), .c (.lit (.bool _)) => BoolOp P o tmps h.n fun v => fin tmps ds p rd h o.dst v K
    | .c (.agg _), .c (.agg _) => BoolOp P o tmps h.n fun v => fin tmps ds p rd h o.dst v K
    | _, _ => wPlain P hm o tmps ds p rd h K X
  | .binOp .eql _ x y _ => match evalF tmps x, evalF tmps y with
    | .c (.lit (.bool _)), .c (.lit (.bool _)) => BoolOp P o tmps h.n fun v => fin tmps ds p rd h o.dst v K
    | .c (.agg _), .c (.agg _) => BoolOp P o tmps h.n fun v => fin tmps ds p rd h o.dst v K
    | _, _ => wPlain P hm o tmps ds p rd h K X
  | _ => wPlain P hm o tmps ds p rd h K X

noncomputable def wOps (hm : Bool) (ops : Array Oper) : List Nat → ASt → (AExit → ASt → Prop) → Prop
  | [], s, K => K .normal s
  | i :: rest, ⟨tmps, ds, p, rd, h⟩, K => match nthF ops i with
    | none => False
    | some o => match guardV ops o tmps with
      | .yes => wOp P hm o tmps ds p rd h (fun s1 => wOps hm ops rest s1 K) (fun v s1 => K (.panic v) s1)
      | .no => fin tmps ds p rd h o.dst .undef fun s1 => wOps hm ops rest s1 K
      | .bool b want => match want with
        | true => decB b (wOp P hm o tmps ds p rd h (fun s1 => wOps hm ops rest s1 K) (fun v s1 => K (.panic v) s1)) (fin tmps ds p rd h o.dst .undef fun s1 => wOps hm ops rest s1 K)
        | false => decB b (fin tmps ds p rd h o.dst .undef fun s1 => wOps hm ops rest s1 K) (wOp P hm o tmps ds p rd h (fun s1 => wOps hm ops rest s1 K) (fun v s1 => K (.panic v) s1))
      | .bad => False
end

section
variable {P : Program} {hm : Bool} {ops : Array Oper} {i : Nat} {o : Oper} {K : ASt → Prop} {X : AV → ASt → Prop}

theorem wPlain_ok (ho : ops[i]? = some o) {tmps : TMap AV} {ds : List ADef} {p : Pan} {rd : Option Nat} {h : Heap} (hw : wantedA ops o ⟨tmps, ds, p, rd, h⟩ = some true) (hk : wPlain P hm o tmps ds p rd h K X) : OpStep P ops i ⟨tmps, ds, p, rd, h⟩ K X := by
  unfold wPlain at hk
  rw [evalF_eq tmps ds p rd h] at hk
  have step : ∀ {r : SOut}, aop P o (ASt.eval ⟨tmps, ds, p, rd, h⟩) (fun _ => .dead) h.n = some (.simple r) → r.reads = [] → aop P o (ASt.eval ⟨tmps, ds, p, rd, h⟩) (Heap.at h) h.n = some (.simple r) := fun ha hr => aop_local ha (fun id hid => by rw [hr] at hid; cases hid)
  split at hk
  · rename_i v ha
    rw [fin_eq] at hk
    refine .simple ho hw (step ha rfl) ?_
    exact hk
  · rename_i v b ha
    rw [hPush_eq, fin_eq] at hk
    refine .simple ho hw (step ha rfl) ?_
    exact hk
  · rename_i v ha
    exact .panics ho hw (aop_panic_local ha) hk
  · rename_i f args ha
    refine .calls ho hw (aop_call_local ha) ?_
    have e : (fun (e : AEnd) (h' : Heap) => match e with | .ret v => fin0 tmps ds p rd h' o.dst v K | .panic v => X v ⟨tmps, ds, p, rd, h'⟩) = (fun (e : AEnd) (h' : Heap) => match e with | .ret v => K (({ (ASt.mk tmps ds p rd h) with h := h' } : ASt).put o.dst v) | .panic v => X v { (ASt.mk tmps ds p rd h) with h := h' }) := by
      funext e h'
      cases e with
      | ret v => exact fin0_eq ..
      | panic v => rfl
    rw [e] at hk
    exact hk
  · rename_i id args ha
    obtain ⟨hk⟩ := hk
    refine (hk ops i o ⟨tmps, ds, p, rd, h⟩ ho hw (aop_other_local ha (by simp)) rfl).mono ?_ ?_
    · rintro s1 ⟨b, h', k, rfl⟩
      rw [fin0_eq] at k
      exact k
    · rintro v s1 ⟨h', k, rfl⟩
      exact k
  · rename_i f args ha
    cases rd with
    | some _ => exact hk.elim
    | none =>
      simp only [fin0_eq] at hk
      exact .defer ho hw rfl (aop_other_local ha (by simp)) hk
  · rename_i ha
    cases rd with
    | some _ => exact hk.elim
    | none =>
      refine .recover ho hw rfl (aop_other_local ha (by simp)) ?_
      cases p <;> simp only [fin_eq] at hk <;> exact hk
  · obtain ⟨r, hr, hk⟩ := hk
    split at hr
    · rename_i r' ha
      simp only [Option.some.injEq] at hr
      subst hr
      exact .simple ho hw ha hk
    · cases hr

theorem wOp_ok (ho : ops[i]? = some o) {tmps : TMap AV} {ds : List ADef} {p : Pan} {rd : Option Nat} {h : Heap} (hw : wantedA ops o ⟨tmps, ds, p, rd, h⟩ = some true) (hk : wOp P hm o tmps ds p rd h K X) : OpStep P ops i ⟨tmps, ds, p, rd, h⟩ K X := by
  have ev : evalF tmps = ASt.eval ⟨tmps, ds, p, rd, h⟩ := evalF_eq ..
  have done : ∀ {r : SOut}, aop P o (ASt.eval ⟨tmps, ds, p, rd, h⟩) (Heap.at h) h.n = some (.simple r) → K ((ASt.mk tmps ds p rd h).apply o.dst r) → OpStep P ops i ⟨tmps, ds, p, rd, h⟩ K X := fun ha k => .simple ho hw ha k
  unfold wOp at hk
  split at hk
  · rename_i t a hop
    split at hk
    · rename_i id off ha
      have hk := look_eq hk
      split at hk
      case h_2 => exact hk.elim
      rename_i cells hb
      split at hk
      case h_2 => exact hk.elim
      rename_i v hv
      rw [fin_eq] at hk
      refine done (r := { val := v, reads := [id] }) ?_ hk
      unfold aop
      rw [hop]
      simp only [← ev, ha, aload, hb, hv, simp?, Option.map_some]
    · rename_i cells off ha
      obtain ⟨v, hv, hk⟩ := hk
      rw [fin_eq] at hk
      refine done (r := { val := .c v }) ?_ hk
      unfold aop
      rw [hop]
      simp only [← ev, ha, aload, hv, simp?, Option.map_some]
    · exact hk.elim
  · rename_i t a x hop
    split at hk
    case h_2 => exact hk.elim
    rename_i id off ha
    have hk := look_eq hk
    split at hk
    case h_2 => exact hk.elim
    rename_i cells inf hb hi
    split at hk
    case isFalse => exact hk.elim
    rename_i hc
    split at hk
    case h_2 => exact hk.elim
    rename_i cs hcs
    rw [hSet_eq, fin_eq] at hk
    refine done (r := { val := .undef, reads := [id], upds := [(id, .blk cs)] }) ?_ hk
    unfold aop
    rw [hop]
    simp only [← ev, ha, astore, hb, hi, hc, and_self, if_true, hcs, simp?, Option.map_some]
  · rename_i t x ix hop
    split at hk
    · rename_i n elem cs off len h1 h2 h3
      split at hk
      case h_2 => exact hk.elim
      rename_i size hs
      obtain ⟨hbd, hk⟩ := hk
      rw [fin_eq] at hk
      refine done (r := { val := .c (.cptr cs (off + n.toNat * size)) }) ?_ hk
      unfold aop
      rw [hop]
      simp only [← ev, aindexAddr, h1, h2, h3, hs, hbd, and_self, if_true, val]
    · rename_i n elem id sz off len cap h1 h2 h3
      split at hk
      case h_2 => exact hk.elim
      rename_i size hs
      obtain ⟨hbd, hk⟩ := hk
      obtain ⟨rfl, hbd⟩ := hbd
      rw [fin_eq] at hk
      refine done (r := { val := .ptr id (off + n.toNat * sz) }) ?_ hk
      unfold aop
      rw [hop]
      simp only [← ev, aindexAddr, h1, h2, h3, hs, hbd, and_self, if_true, val]
    · rename_i n len elem id off h1 h2 h3
      split at hk
      case h_2 => exact hk.elim
      rename_i size hs
      obtain ⟨hbd, hk⟩ := hk
      rw [fin_eq] at hk
      refine done (r := { val := .ptr id (off + n.toNat * size) }) ?_ hk
      unfold aop
      rw [hop]
      simp only [← ev, aindexAddr, h1, h2, h3, hs, hbd, and_self, if_true, val]
    · rename_i n len elem cs off h1 h2 h3
      split at hk
      case h_2 => exact hk.elim
      rename_i size hs
      obtain ⟨hbd, hk⟩ := hk
      rw [fin_eq] at hk
      refine done (r := { val := .c (.cptr cs (off + n.toNat * size)) }) ?_ hk
      unfold aop
      rw [hop]
      simp only [← ev, aindexAddr, h1, h2, h3, hs, hbd, and_self, if_true, val]
    · exact wPlain_ok ho hw hk
  · rename_i x hop
    rw [moved_eq] at hk
    refine done (r := { val := evalF tmps x }) ?_ hk
    unfold aop
    rw [hop]
    simp only [← ev, val]
  · rename_i x hop
    rw [moved_eq] at hk
    refine done (r := { val := evalF tmps x }) ?_ hk
    unfold aop
    rw [hop]
    simp only [← ev, val]
  · rename_i t x lo hi mx hop
    split at hk
    · rename_i hia
      obtain ⟨r, hr, hk⟩ := hk
      obtain ⟨e1, e2⟩ := arrSlice_plain hr
      obtain ⟨v, reads, us, fr⟩ := r
      simp only at e1 e2
      subst e1 e2
      rw [fin_eq] at hk
      refine done (r := ⟨v, reads, [], none⟩) ?_ hk
      unfold aop
      rw [hop]
      simp only [hia, ← ev, hr, simp?, Option.map_some]
    · exact wPlain_ok ho hw hk
  · rename_i t m k ok hop
    obtain ⟨r, hr, hk⟩ := hk
    obtain ⟨e1, e2⟩ := lookup_plain hr
    obtain ⟨v, reads, us, fr⟩ := r
    simp only at e1 e2
    subst e1 e2
    rw [fin0_eq] at hk
    refine done (r := ⟨v, reads, [], none⟩) ?_ hk
    unfold aop
    rw [hop]
    simp only [← ev, hr, simp?, Option.map_some]
  · rename_i t m k v hop
    obtain ⟨r, hr, hk⟩ := hk
    rw [appended_eq] at hk
    refine done (r := r) ?_ hk
    unfold aop
    rw [hop]
    simp only [← ev, hr, simp?, Option.map_some]
  · rename_i args ts hop
    split at hk
    · rename_i d s t hargs hts
      obtain ⟨r, hr, hk⟩ := hk
      rw [appended_eq] at hk
      refine done (r := r) ?_ hk
      unfold aop
      rw [hop]
      simp only [acall, hargs, hts, ← ev, hr, simp?, Option.map_some]
    · exact wPlain_ok ho hw hk
  · rename_i args ts hop
    split at hk
    · rename_i s x hargs
      obtain ⟨r, hr, hk⟩ := appGot_eq hk
      rw [appended_eq] at hk
      rw [atF_eq] at hr
      refine done (r := r) ?_ hk
      unfold aop
      rw [hop]
      simp only [acall, hargs, ← ev, hr, simp?, Option.map_some]
    · exact wPlain_ok ho hw hk
  · rename_i args ts hop
    split at hk
    · rename_i x y hargs
      split at hk
      · rename_i a b h1 h2
        rw [fin_eq] at hk
        refine done (r := { val := .int (max a b) }) ?_ hk
        have e : args = #[x, y] := by
          obtain ⟨l⟩ := args
          simp only at hargs
          rw [hargs]
        subst e
        rw [ev] at h1 h2
        have := max_pure (P := P) hop h1 h2
        unfold aop
        rw [hop]
        simp only [acall, this]
      · exact wPlain_ok ho hw hk
    · rename_i x y z hargs
      split at hk
      · rename_i a b c h1 h2 h3
        rw [fin_eq] at hk
        refine done (r := { val := .int (max (max a b) c) }) ?_ hk
        have e : args = #[x, y, z] := by
          obtain ⟨l⟩ := args
          simp only at hargs
          rw [hargs]
        subst e
        rw [ev] at h1 h2 h3
        have := max3_pure (P := P) hop h1 h2 h3
        unfold aop
        rw [hop]
        simp only [acall, this]
      · exact wPlain_ok ho hw hk
    · exact wPlain_ok ho hw hk
  · rename_i args ts hop
    split at hk
    · rename_i x y hargs
      split at hk
      · rename_i a b h1 h2
        rw [fin_eq] at hk
        refine done (r := { val := .int (min a b) }) ?_ hk
        have e : args = #[x, y] := by
          obtain ⟨l⟩ := args
          simp only at hargs
          rw [hargs]
        subst e
        rw [ev] at h1 h2
        have := min_pure (P := P) hop h1 h2
        unfold aop
        rw [hop]
        simp only [acall, this]
      · exact wPlain_ok ho hw hk
    · exact wPlain_ok ho hw hk
  · rename_i t x y t2 hop
    split at hk
    · rename_i a b h1 h2
      obtain ⟨z, hz, hk⟩ := hk
      rw [fin_eq] at hk
      refine done (r := { val := .int z }) ?_ hk
      unfold aop
      rw [hop]
      simp only [← ev, abinOp, h1, h2, AV.toVal, CV.toVal, litBin, val, hz]
      rfl
    · exact wPlain_ok ho hw hk
  · rename_i t x y t2 hop
    split at hk
    · rename_i a b h1 h2
      obtain ⟨z, hz, hk⟩ := hk
      rw [fin_eq] at hk
      refine done (r := { val := .int z }) ?_ hk
      unfold aop
      rw [hop]
      simp only [← ev, abinOp, h1, h2, AV.toVal, CV.toVal, litBin, val, hz]
      rfl
    · exact wPlain_ok ho hw hk
  · rename_i t x y t2 hop
    split at hk
    · rename_i a b h1 h2
      obtain ⟨hb, z, hz, hk⟩ := hk
      rw [fin_eq] at hk
      refine done (r := { val := .int z }) ?_ hk
      unfold aop
      rw [hop]
      simp only [← ev, abinOp, h1, h2, AV.toVal, CV.toVal, litBin, val, hz, if_neg hb]
      rfl
    · exact wPlain_ok ho hw hk
  · rename_i t x y t2 hop
    split at hk
    · rename_i a b h1 h2
      obtain ⟨hb, z, hz, hk⟩ := hk
      rw [fin_eq] at hk
      refine done (r := { val := .int z }) ?_ hk
      unfold aop
      rw [hop]
      simp only [← ev, abinOp, h1, h2, AV.toVal, CV.toVal, litBin, val, hz, if_neg hb]
      rfl
    · exact wPlain_ok ho hw hk
  · rename_i t x y t2 hop
    split at hk
    · rename_i a b h1 h2
      obtain ⟨z, hz, hk⟩ := hk
      rw [fin_eq] at hk
      refine done (r := { val := .int z }) ?_ hk
      unfold aop
      rw [hop]
      simp only [← ev, abinOp, h1, h2, AV.toVal, CV.toVal, litBin, val, hz]
      rfl
    · exact wPlain_ok ho hw hk
  · rename_i t x y t2 hop
    split at hk
    · rename_i a b h1 h2
      obtain ⟨hb, z, hz, hk⟩ := hk
      rw [fin_eq] at hk
      refine done (r := { val := .int z }) ?_ hk
      unfold aop
      rw [hop]
      simp only [← ev, abinOp, h1, h2, AV.toVal, CV.toVal, litBin, val, hz, if_neg (Int.not_lt.2 hb)]
      rfl
    · exact wPlain_ok ho hw hk
  · rename_i t x y t2 hop
    split at hk
    · rename_i a b h1 h2
      obtain ⟨hb, z, hz, hk⟩ := hk
      rw [fin_eq] at hk
      refine done (r := { val := .int z }) ?_ hk
      unfold aop
      rw [hop]
      simp only [← ev, abinOp, h1, h2, AV.toVal, CV.toVal, litBin, val, hz, if_neg (Int.not_lt.2 hb)]
      rfl
    · exact wPlain_ok ho hw hk
  · rename_i t x y t2 hop
    split at hk
    · rename_i a b h1 h2
      obtain ⟨z, hz, hk⟩ := hk
      rw [fin_eq] at hk
      refine done (r := { val := .int z }) ?_ hk
      unfold aop
      rw [hop]
      simp only [← ev, abinOp, h1, h2, AV.toVal, CV.toVal, litBin, val, hz]
      rfl
    · exact wPlain_ok ho hw hk
  · rename_i t x y t2 hop
    split at hk
    · rename_i a b h1 h2
      obtain ⟨z, hz, hk⟩ := hk
      rw [fin_eq] at hk
      refine done (r := { val := .int z }) ?_ hk
      unfold aop
      rw [hop]
      simp only [← ev, abinOp, h1, h2, AV.toVal, CV.toVal, litBin, val, hz]
      rfl
    · exact wPlain_ok ho hw hk
  · rename_i t x y t2 hop
    split at hk
    · rename_i a b h1 h2
      obtain ⟨z, hz, hk⟩ := hk
      rw [fin_eq] at hk
      refine done (r := { val := .int z }) ?_ hk
      unfold aop
      rw [hop]
      simp only [← ev, abinOp, h1, h2, AV.toVal, CV.toVal, litBin, val, hz]
      rfl
    · exact wPlain_ok ho hw hk
  · rename_i t x y t2 hop
    split at hk
    · obtain ⟨v, hv, hk⟩ := hk
      rw [fin_eq] at hk
      rw [ev] at hv
      exact done (r := { val := v }) (aop_local hv (fun id hid => by cases hid)) hk
    · obtain ⟨v, hv, hk⟩ := hk
      rw [fin_eq] at hk
      rw [ev] at hv
      exact done (r := { val := v }) (aop_local hv (fun id hid => by cases hid)) hk
    · exact wPlain_ok ho hw hk
  · rename_i t x y t2 hop
    split at hk
    · obtain ⟨v, hv, hk⟩ := hk
      rw [fin_eq] at hk
      rw [ev] at hv
      exact done (r := { val := v }) (aop_local hv (fun id hid => by cases hid)) hk
    · obtain ⟨v, hv, hk⟩ := hk
      rw [fin_eq] at hk
      rw [ev] at hv
      exact done (r := { val := v }) (aop_local hv (fun id hid => by cases hid)) hk
    · exact wPlain_ok ho hw hk
  · exact wPlain_ok ho hw hk
end

section
variable {P : Program} {hm : Bool} {ops : Array Oper}

theorem opStep_T {i : Nat} {rest : List Nat} {s : ASt} {K : AExit → ASt → Prop} {K1 : ASt → Prop} (h : OpStep P ops i s K1 (fun v s1 => K (.panic v) s1)) (hr : ∀ s1, K1 s1 → T P (.inRegion ops rest) s1 K) : T P (.inRegion ops (i :: rest)) s K := by
  obtain ⟨h | h⟩ := h
  · obtain ⟨s1, k1, h⟩ := h
    obtain ⟨e, s', h1, h2⟩ := hr s1 k1
    exact ⟨e, s', h _ _ _ h1, h2⟩
  · obtain ⟨v, s1, k, h⟩ := h
    exact ⟨.panic v, s1, h _, k⟩

theorem wOps_ok : ∀ (l : List Nat) (s : ASt) (K : AExit → ASt → Prop), wOps P hm ops l s K → T P (.inRegion ops l) s K
  | [], s, K, h => ⟨.normal, s, ok_ops_nil, h⟩
  | i :: rest, ⟨tmps, ds, p, rd, hp⟩, K, h => by
    have ih : ∀ s1, wOps P hm ops rest s1 K → T P (.inRegion ops rest) s1 K := fun s1 h1 => wOps_ok rest s1 K h1
    simp only [wOps, nthF_eq] at h
    split at h
    · exact h.elim
    rename_i o ho
    split at h
    · rename_i hg
      exact opStep_T (wOp_ok ho (guardV_yes (s := ⟨tmps, ds, p, rd, hp⟩) hg) h) ih
    · rename_i hg
      rw [fin_eq] at h
      exact opStep_T (.skip ho (guardV_no (s := ⟨tmps, ds, p, rd, hp⟩) hg) h) ih
    · rename_i b want hg
      have hw := guardV_bool (s := ⟨tmps, ds, p, rd, hp⟩) hg
      cases want <;> cases b
      · simp only [decB] at h
        exact opStep_T (wOp_ok ho hw h) ih
      · simp only [decB, fin_eq] at h
        exact opStep_T (.skip ho hw h) ih
      · simp only [decB, fin_eq] at h
        exact opStep_T (.skip ho hw h) ih
      · simp only [decB] at h
        exact opStep_T (wOp_ok ho hw h) ih
    · exact h.elim
end
end Go.Ag
/- Proofs with open values: regions whose order is open. -/
namespace Go.Ag

/-- What a call comes to that may change places with others. -/
inductive CallD (P : Program) (f : FuncId) (args : List AV) (h : Heap) (K : CV → List Nat → List (Nat × AB) → Prop) : Prop
  | pure (args' : List CV) (v : CV) (ha : allC args = some args') (hk : CallOk P f (args'.map .c) TMap.nil .no (.ret (.c v)) TMap.nil .no) (k : K v [] [])
  | snapped (fuel : Nat) (args' : List CV) (ids : List Nat) (v : CV) (ha : snaps (Heap.at h) fuel args = some (args', ids)) (hk : CallOk P f (args'.map .c) TMap.nil .no (.ret (.c v)) TMap.nil .no) (k : K v ids (killed v ids))

section
variable (P : Program)

noncomputable def finD (ops : Array Oper) (i : Nat) (o : Oper) (tmps : TMap AV) (ds : List ADef) (p : Pan) (rd : Option Nat) (h : Heap) (n : Nat) (v : AV) (reads : List Nat) (upds : List (Nat × AB)) (fresh : Option AB) (K : ASt → DRec → Prop) : Prop :=
  layV v fun v => putK tmps o.dst v fun t => K ⟨t, ds, p, rd, h⟩ ⟨i, o.dst, o.looksAt ops, v, reads, upds, fresh, n, none⟩
theorem finD_eq (ops : Array Oper) (i : Nat) (o : Oper) (tmps : TMap AV) (ds : List ADef) (p : Pan) (rd : Option Nat) (h : Heap) (n : Nat) (v : AV) (reads : List Nat) (upds : List (Nat × AB)) (fresh : Option AB) (K : ASt → DRec → Prop) :
    finD ops i o tmps ds p rd h n v reads upds fresh K = K ((ASt.mk tmps ds p rd h).put o.dst v) ⟨i, o.dst, o.looksAt ops, v, reads, upds, fresh, n, none⟩ := by
  unfold finD; rw [layV_eq, putK_eq, put_mk]

noncomputable def movedD (ops : Array Oper) (i : Nat) (o : Oper) (x : Operand) (tmps : TMap AV) (ds : List ADef) (p : Pan) (rd : Option Nat) (h : Heap) (K : ASt → DRec → Prop) : Prop := evalK tmps x fun v => putK tmps o.dst v fun t => K ⟨t, ds, p, rd, h⟩ ⟨i, o.dst, o.looksAt ops, v, [], [], none, h.n, none⟩
theorem movedD_eq (ops : Array Oper) (i : Nat) (o : Oper) (x : Operand) (tmps : TMap AV) (ds : List ADef) (p : Pan) (rd : Option Nat) (h : Heap) (K : ASt → DRec → Prop) :
    movedD ops i o x tmps ds p rd h K = K ((ASt.mk tmps ds p rd h).put o.dst (evalF tmps x)) ⟨i, o.dst, o.looksAt ops, evalF tmps x, [], [], none, h.n, none⟩ := by
  unfold movedD; rw [evalK_eq, putK_eq, put_mk]

noncomputable def dPlain (hm : Bool) (ops : Array Oper) (i : Nat) (o : Oper) (tmps : TMap AV) (ds : List ADef) (p : Pan) (rd : Option Nat) (h : Heap) (K : ASt → DRec → Prop) : Prop :=
  match aop P o (evalF tmps) (fun _ => .dead) h.n with
  | some (.simple ⟨v, [], [], none⟩) => finD ops i o tmps ds p rd h h.n v [] [] none K
  | some (.simple ⟨v, [], [], some b⟩) => hPush hm h b fun h' => finD ops i o tmps ds p rd h' h.n v [] [] (some b) K
  | some (.call f args) => CallD P f args h fun v ids us => finD ops i o tmps ds p rd (Heap.upd h us) h.n (.c v) ids us none K
  | _ => Got (match aop P o (evalF tmps) (Heap.at h) h.n with | some (.simple r) => some r | _ => none) fun r => Both (r.upds.all (fun p => decide (p.1 < h.n)) = true) (K ((ASt.mk tmps ds p rd h).apply o.dst r) ⟨i, o.dst, o.looksAt ops, r.val, r.reads, r.upds, r.fresh, h.n, none⟩)

noncomputable def dOp (hm : Bool) (ops : Array Oper) (i : Nat) (o : Oper) (tmps : TMap AV) (ds : List ADef) (p : Pan) (rd : Option Nat) (h : Heap) (K : ASt → DRec → Prop) : Prop := match o.op with
  | .load t a => match evalF tmps a with
    | .ptr id off => look hm (Heap.at h id) fun b => match b with
      | .blk cells => match readVar P t cells off with
        | some v => finD ops i o tmps ds p rd h h.n v [id] [] none K
        | none => False
      | _ => False
    | .c (.cptr cells off) => Got (readVarC P t cells off) fun v => finD ops i o tmps ds p rd h h.n (.c v) [] [] none K
    | _ => False
  | .store t a x => match evalF tmps a with
    | .ptr id off => look hm (Heap.at h id) fun b => match b, P.info? t with
      | .blk cells, some inf => if (evalF tmps x).cells.length = inf.size ∧ (evalF tmps x).cells.all AV.cellish = true then match putAt cells off (evalF tmps x).cells with
          | some cs => Both (id < h.n) (hSet hm h id (.blk cs) fun h' => finD ops i o tmps ds p rd h' h.n .undef [id] [(id, .blk cs)] none K)
          | none => False
        else False
      | _, _ => False
    | _ => False
  | .indexAddr t x ix => match asInt (evalF tmps ix), P.underlying t, evalF tmps x with
    | some n, some (.slice elem), .c (.sl cs off len) => match slicePart P elem with
      | some size => Both (0 ≤ n ∧ n < (len : Int)) (finD ops i o tmps ds p rd h h.n (.c (.cptr cs (off + n.toNat * size))) [] [] none K)
      | none => False
    | some n, some (.slice elem), .msl id sz off len _ => match slicePart P elem with
      | some size => Both (sz = size ∧ 0 ≤ n ∧ n < (len : Int)) (finD ops i o tmps ds p rd h h.n (.ptr id (off + n.toNat * size)) [] [] none K)
      | none => False
    | some n, some (.array len elem), .ptr id off => match slicePart P elem with
      | some size => Both (1 < len ∧ 0 ≤ n ∧ n < (len : Int)) (finD ops i o tmps ds p rd h h.n (.ptr id (off + n.toNat * size)) [] [] none K)
      | none => False
    | some n, some (.array len elem), .c (.cptr cs off) => match slicePart P elem with
      | some size => Both (1 < len ∧ 0 ≤ n ∧ n < (len : Int)) (finD ops i o tmps ds p rd h h.n (.c (.cptr cs (off + n.toNat * size))) [] [] none K)
      | none => False
    | _, _, _ => dPlain P hm ops i o tmps ds p rd h K
  | .move x => movedD ops i o x tmps ds p rd h K
  | .assign x => movedD ops i o x tmps ds p rd h K
  | .slice t x lo hi mx => match isArr P t with
    | true => Got (aarrSlice P (Heap.at h) t (evalF tmps x) (lo.map (evalF tmps)) (hi.map (evalF tmps)) (mx.map (evalF tmps))) fun r => finD ops i o tmps ds p rd h h.n r.val r.reads [] none K
    | false => dPlain P hm ops i o tmps ds p rd h K
  | .binOp .add _ x y _ => match evalF tmps x, evalF tmps y with
    | .c (.lit (.int .i64 a)), .c (.lit (.int .i64 b)) => Is (IntKind.i64.wrap (a + b)) fun z => finD ops i o tmps ds p rd h h.n (.int z) [] [] none K
    | _, _ => dPlain P hm ops i o tmps ds p rd h K
  | .binOp .sub _ x y _ => match evalF tmps x, evalF tmps y with
    | .c (.lit (.int .i64 a)), .c (.lit (.int .i64 b)) => Is (IntKind.i64.wrap (a - b)) fun z => finD ops i o tmps ds p rd h h.n (.int z) [] [] none K
    | _, _ => dPlain P hm ops i o tmps ds p rd h K
  | .binOp .mul _ x y _ => match evalF tmps x, evalF tmps y with
    | .c (.lit (.int .i64 a)), .c (.lit (.int .i64 b)) => Is (IntKind.i64.wrap (a * b)) fun z => finD ops i o tmps ds p rd h h.n (.int z) [] [] none K
    | _, _ => dPlain P hm ops i o tmps ds p rd h K
  | .call ⟨.builtin .copy, args, ts⟩ => match args.toList, ts[0]? with
    | [d, s], some t => Got (acopy P (Heap.at h) t (evalF tmps d) (evalF tmps s)) fun r => Both (r.upds.all (fun p => decide (p.1 < h.n)) = true) (K ((ASt.mk tmps ds p rd h).apply o.dst r) ⟨i, o.dst, o.looksAt ops, r.val, r.reads, r.upds, r.fresh, h.n, none⟩)
    | _, _ => dPlain P hm ops i o tmps ds p rd h K
  | .call ⟨.builtin .append, args, ts⟩ => match args.toList with
    | [s, x] => match evalF tmps x with
      | .c (.sl _ _ _) => Got (aappend P (Heap.at h) h.n ts (evalF tmps s) (evalF tmps x)) fun r => Both (r.upds.all (fun p => decide (p.1 < h.n)) = true) (K ((ASt.mk tmps ds p rd h).apply o.dst r) ⟨i, o.dst, o.looksAt ops, r.val, r.reads, r.upds, r.fresh, h.n, none⟩)
      | _ => dPlain P hm ops i o tmps ds p rd h K
    | _ => dPlain P hm ops i o tmps ds p rd h K
  | .call ⟨.builtin .max, args, _⟩ => match args.toList with
    | [x, y] => match evalF tmps x, evalF tmps y with
      | .c (.lit (.int .i64 a)), .c (.lit (.int .i64 b)) => finD ops i o tmps ds p rd h h.n (.int (max a b)) [] [] none K
      | _, _ => dPlain P hm ops i o tmps ds p rd h K
    | _ => dPlain P hm ops i o tmps ds p rd h K
  | .call ⟨.builtin .min, args, _⟩ => match args.toList with
    | [x, y] => match evalF tmps x, evalF tmps y with
      | .c (.lit (.int .i64 a)), .c (.lit (.int .i64 b)) => finD ops i o tmps ds p rd h h.n (.int (min a b)) [] [] none K
      | _, _ => dPlain P hm ops i o tmps ds p rd h K
    | _ => dPlain P hm ops i o tmps ds p rd h K
  | .binOp .shl _ x y _ => match evalF tmps x, evalF tmps y with
    | .c (.lit (.int .i64 a)), .c (.lit (.int .i64 b)) => Both (0 ≤ b) (Is (IntKind.i64.wrap (a * 2 ^ (min b.toNat 64))) fun z => finD ops i o tmps ds p rd h h.n (.int z) [] [] none K)
    | _, _ => dPlain P hm ops i o tmps ds p rd h K
  | .binOp .shr _ x y _ => match evalF tmps x, evalF tmps y with
    | .c (.lit (.int .i64 a)), .c (.lit (.int .i64 b)) => Both (0 ≤ b) (Is (a.fdiv (2 ^ (min b.toNat 64))) fun z => finD ops i o tmps ds p rd h h.n (.int z) [] [] none K)
    | _, _ => dPlain P hm ops i o tmps ds p rd h K
  | .binOp .and _ x y _ => match evalF tmps x, evalF tmps y with
    | .c (.lit (.int .i64 a)), .c (.lit (.int .i64 b)) => Is (IntKind.i64.wrap (BitVec.ofInt 64 a &&& BitVec.ofInt 64 b).toNat) fun z => finD ops i o tmps ds p rd h h.n (.int z) [] [] none K
    | _, _ => dPlain P hm ops i o tmps ds p rd h K
  | .binOp .or _ x y _ => match evalF tmps x, evalF tmps y with
    | .c (.lit (.int .i64 a)), .c (.lit (.int .i64 b)) => Is (IntKind.i64.wrap (BitVec.ofInt 64 a ||| BitVec.ofInt 64 b).toNat) fun z => finD ops i o tmps ds p rd h h.n (.int z) [] [] none K
    | _, _ => dPlain P hm ops i o tmps ds p rd h K
  | .binOp .andNot _ x y _ => match evalF tmps x, evalF tmps y with
    | .c (.lit (.int .i64 a)), .c (.lit (.int .i64 b)) => Is (IntKind.i64.wrap (BitVec.ofInt 64 a &&& ~~~BitVec.ofInt 64 b).toNat) fun z => finD ops i o tmps ds p rd h h.n (.int z) [] [] none K
    | _, _ => dPlain P hm ops i o tmps ds p rd h K
  | _ => dPlain P hm ops i o tmps ds p rd h K

noncomputable def dOps (hm : Bool) (ops : Array Oper) : List Nat → ASt → List DRec → (List DRec → ASt → Prop) → Prop
  | [], s, l, K => K l s
  | i :: rest, ⟨tmps, ds, p, rd, h⟩, l, K => match nthF ops i with
    | none => False
    | some o => match guardV ops o tmps with
      | .yes => dOp P hm ops i o tmps ds p rd h fun s r => dOps hm ops rest s (r :: l) K
      | .no => finD ops i o tmps ds p rd h h.n .undef [] [] none fun s r => dOps hm ops rest s (r :: l) K
      | .bool b want => match want with
        | true => decB b (dOp P hm ops i o tmps ds p rd h fun s r => dOps hm ops rest s (r :: l) K) (finD ops i o tmps ds p rd h h.n .undef [] [] none fun s r => dOps hm ops rest s (r :: l) K)
        | false => decB b (finD ops i o tmps ds p rd h h.n .undef [] [] none fun s r => dOps hm ops rest s (r :: l) K) (dOp P hm ops i o tmps ds p rd h fun s r => dOps hm ops rest s (r :: l) K)
      | .bad => False
end

section
variable {P : Program} {hm : Bool} {ops : Array Oper} {i : Nat} {o : Oper} {K : ASt → DRec → Prop}

/-- One operation is done. -/
def DoneK (P : Program) (ops : Array Oper) (i : Nat) (s : ASt) (K : ASt → DRec → Prop) : Prop := ∃ s1 r, OpDone P ops i s s1 r ∧ K s1 r

theorem done_simple (ho : ops[i]? = some o) {s : ASt} (hw : wantedA ops o s = some true) {r : SOut} (ha : aop P o s.eval (Heap.at s.h) s.h.n = some (.simple r)) (hu : ∀ p ∈ r.upds, p.1 < s.h.n) :
    OpDone P ops i s (s.apply o.dst r) ⟨i, o.dst, o.looksAt ops, r.val, r.reads, r.upds, r.fresh, s.h.n, none⟩ := by
  have tm : evalT s.d.tmps = s.eval := (eval_evalT s).symm
  have tw : ∀ o, wantedT ops o s.d.tmps = wantedA ops o s := fun o => (wanted_wantedT ops o s).symm
  obtain ⟨he1, he2⟩ := heap_effect (h := s.h) (r := r) hu
  refine ⟨⟨⟨o, ho, rfl, .simple rfl rfl ((tw _).trans hw) ?_⟩, ?_⟩, rfl, rfl, rfl, ?_, ?_, ?_, ?_, ?_, ?_⟩
  · rw [tm]; exact ha
  · refine on_eq (r := ⟨i, o.dst, o.looksAt ops, r.val, r.reads, r.upds, r.fresh, s.h.n, none⟩) rfl ?_
    rw [he1]; rfl
  · unfold ASt.apply
    cases hd : o.dst <;> simp only [ASt.put] <;> exact he2
  · unfold ASt.apply; cases hd : o.dst <;> simp [ASt.put]
  · unfold ASt.apply; cases hd : o.dst <;> simp [ASt.put]
  · unfold ASt.apply; cases hd : o.dst <;> simp [ASt.put]
  · intro hu hf
    simp only at hu hf
    unfold ASt.apply; cases hd : o.dst <;> simp [ASt.put, hu, hf, Heap.upd, TMap.app]
  · unfold ASt.apply; cases hd : o.dst <;> simp [ASt.put]

theorem done_skip (ho : ops[i]? = some o) {s : ASt} (hw : wantedA ops o s = some false) : OpDone P ops i s (s.put o.dst .undef) ⟨i, o.dst, o.looksAt ops, .undef, [], [], none, s.h.n, none⟩ := by
  have tw : ∀ o, wantedT ops o s.d.tmps = wantedA ops o s := fun o => (wanted_wantedT ops o s).symm
  have e0 : s.put o.dst .undef = ({ s with h := s.h } : ASt).put o.dst .undef := rfl
  refine ⟨⟨⟨o, ho, rfl, .skip rfl rfl ((tw _).trans hw) rfl rfl rfl⟩, ?_⟩, rfl, rfl, rfl, ?_, ?_, ?_, ?_, ?_, ?_⟩
  · rw [e0]; exact on_eq (r := ⟨i, o.dst, o.looksAt ops, .undef, [], [], none, s.h.n, none⟩) rfl rfl
  all_goals (cases hd : o.dst <;> simp [ASt.put])

theorem done_call (ho : ops[i]? = some o) {s : ASt} (hw : wantedA ops o s = some true) {f : FuncId} {args : List AV} (ha : aop P o s.eval (Heap.at s.h) s.h.n = some (.call f args)) {v : CV} {ids : List Nat}
    (hc : Called P f args (Heap.at s.h) (.ret (.c v)) ids (killed v ids)) : OpDone P ops i s ({ s with h := Heap.upd s.h (killed v ids) }.put o.dst (.c v)) ⟨i, o.dst, o.looksAt ops, .c v, ids, killed v ids, none, s.h.n, none⟩ := by
  have tm : evalT s.d.tmps = s.eval := (eval_evalT s).symm
  have tw : ∀ o, wantedT ops o s.d.tmps = wantedA ops o s := fun o => (wanted_wantedT ops o s).symm
  refine ⟨⟨⟨o, ho, rfl, .call rfl rfl ((tw _).trans hw) f args ?_ hc rfl⟩, ?_⟩, rfl, rfl, rfl, ?_, ?_, ?_, ?_, ?_, ?_⟩
  · rw [tm]; exact ha
  · exact on_eq (r := ⟨i, o.dst, o.looksAt ops, .c v, ids, killed v ids, none, s.h.n, none⟩) rfl (killed_at s.h)
  · cases hd : o.dst <;> simp [ASt.put, upd_length]
  · cases hd : o.dst <;> simp [ASt.put]
  · cases hd : o.dst <;> simp [ASt.put]
  · cases hd : o.dst <;> simp [ASt.put]
  · intro hu _
    simp only at hu
    cases hd : o.dst <;> simp [ASt.put, hu, Heap.upd]
  · cases hd : o.dst <;> simp [ASt.put]

theorem killed_nil (v : CV) : killed v [] = [] := by unfold killed; split <;> rfl

theorem allC_snaps (H : Nat → AB) : ∀ (l : List AV) (l' : List CV), allC l = some l' → ∃ n, snaps H n l = some (l', [])
  | [], l', h => by simp only [allC, Option.some.injEq] at h; subst h; exact ⟨1, rfl⟩
  | .c u :: l, l', h => by
    simp only [allC, Option.map_eq_some_iff] at h
    obtain ⟨l'', h1, rfl⟩ := h
    obtain ⟨n, hn⟩ := allC_snaps H l l'' h1
    cases n with
    | zero => simp [snaps] at hn
    | succ n => exact ⟨n + 2, by simp only [snaps, snap, hn]; rfl⟩
  | .ptr .. :: _, _, h => by simp [allC] at h
  | .msl .. :: _, _, h => by simp [allC] at h
  | .map .. :: _, _, h => by simp [allC] at h
  | .yield .. :: _, _, h => by simp [allC] at h
  | .func .. :: _, _, h => by simp [allC] at h
  | .iface .. :: _, _, h => by simp [allC] at h
  | .agg .. :: _, _, h => by simp [allC] at h
  | .tuple .. :: _, _, h => by simp [allC] at h

theorem dPlain_ok (ho : ops[i]? = some o) {tmps : TMap AV} {ds : List ADef} {p : Pan} {rd : Option Nat} {h : Heap} (hw : wantedA ops o ⟨tmps, ds, p, rd, h⟩ = some true) (hk : dPlain P hm ops i o tmps ds p rd h K) : DoneK P ops i ⟨tmps, ds, p, rd, h⟩ K := by
  unfold dPlain at hk
  rw [evalF_eq tmps ds p rd h] at hk
  have step : ∀ {r : SOut}, aop P o (ASt.eval ⟨tmps, ds, p, rd, h⟩) (fun _ => .dead) h.n = some (.simple r) → r.reads = [] → aop P o (ASt.eval ⟨tmps, ds, p, rd, h⟩) (Heap.at h) h.n = some (.simple r) := fun ha hr => aop_local ha (fun id hid => by rw [hr] at hid; cases hid)
  split at hk
  · rename_i v ha
    rw [finD_eq] at hk
    exact ⟨_, _, done_simple ho hw (step ha rfl) (by simp), hk⟩
  · rename_i v b ha
    rw [hPush_eq, finD_eq] at hk
    exact ⟨_, _, done_simple ho hw (step ha rfl) (by simp), hk⟩
  · rename_i f args ha
    cases hk with
    | pure args' v hs hk k =>
      rw [finD_eq] at k
      obtain ⟨n, hn⟩ := allC_snaps (Heap.at h) _ _ hs
      have := done_call (s := ⟨tmps, ds, p, rd, h⟩) ho hw (aop_call_local ha) (v := v) (ids := []) ⟨n, args', _, _, _, 1, (v, []), hn, hk, rfl, rfl, rfl⟩
      rw [killed_nil] at this
      exact ⟨_, _, this, k⟩
    | snapped fuel args' ids v hs hk k =>
      rw [finD_eq] at k
      exact ⟨_, _, done_call (s := ⟨tmps, ds, p, rd, h⟩) ho hw (aop_call_local ha) (v := v) (ids := ids) ⟨fuel, args', _, _, _, 1, (v, []), hs, hk, rfl, rfl, rfl⟩, k⟩
  · obtain ⟨r, hr, hu, hk⟩ := hk
    split at hr
    · rename_i r' ha
      simp only [Option.some.injEq] at hr
      subst hr
      exact ⟨_, _, done_simple ho hw ha (fun p hp => by simpa using (List.all_eq_true.1 hu) p hp), hk⟩
    · cases hr

theorem dOp_ok (ho : ops[i]? = some o) {tmps : TMap AV} {ds : List ADef} {p : Pan} {rd : Option Nat} {h : Heap} (hw : wantedA ops o ⟨tmps, ds, p, rd, h⟩ = some true) (hk : dOp P hm ops i o tmps ds p rd h K) : DoneK P ops i ⟨tmps, ds, p, rd, h⟩ K := by
  have ev : evalF tmps = ASt.eval ⟨tmps, ds, p, rd, h⟩ := evalF_eq ..
  have done : ∀ {r : SOut}, aop P o (ASt.eval ⟨tmps, ds, p, rd, h⟩) (Heap.at h) h.n = some (.simple r) → (∀ p ∈ r.upds, p.1 < h.n) → K ((ASt.mk tmps ds p rd h).apply o.dst r) ⟨i, o.dst, o.looksAt ops, r.val, r.reads, r.upds, r.fresh, h.n, none⟩ → DoneK P ops i ⟨tmps, ds, p, rd, h⟩ K :=
    fun ha hu k => ⟨_, _, done_simple ho hw ha hu, k⟩
  unfold dOp at hk
  split at hk
  · rename_i t a hop
    split at hk
    · rename_i id off ha
      have hk := look_eq hk
      split at hk
      case h_2 => exact hk.elim
      rename_i cells hb
      split at hk
      case h_2 => exact hk.elim
      rename_i v hv
      rw [finD_eq] at hk
      refine done (r := { val := v, reads := [id] }) ?_ (by simp) hk
      unfold aop
      rw [hop]
      simp only [← ev, ha, aload, hb, hv, simp?, Option.map_some]
    · rename_i cells off ha
      obtain ⟨v, hv, hk⟩ := hk
      rw [finD_eq] at hk
      refine done (r := { val := .c v }) ?_ (by simp) hk
      unfold aop
      rw [hop]
      simp only [← ev, ha, aload, hv, simp?, Option.map_some]
    · exact hk.elim
  · rename_i t a x hop
    split at hk
    case h_2 => exact hk.elim
    rename_i id off ha
    have hk := look_eq hk
    split at hk
    case h_2 => exact hk.elim
    rename_i cells inf hb hi
    split at hk
    case isFalse => exact hk.elim
    rename_i hc
    split at hk
    case h_2 => exact hk.elim
    rename_i cs hcs
    obtain ⟨hid, hk⟩ := hk
    rw [hSet_eq, finD_eq] at hk
    refine done (r := { val := .undef, reads := [id], upds := [(id, .blk cs)] }) ?_ (by simpa using hid) hk
    unfold aop
    rw [hop]
    simp only [← ev, ha, astore, hb, hi, hc, and_self, if_true, hcs, simp?, Option.map_some]
  · rename_i t x ix hop
    split at hk
    · rename_i n elem cs off len h1 h2 h3
      split at hk
      case h_2 => exact hk.elim
      rename_i size hs
      obtain ⟨hbd, hk⟩ := hk
      rw [finD_eq] at hk
      refine done (r := { val := .c (.cptr cs (off + n.toNat * size)) }) ?_ (by simp) hk
      unfold aop
      rw [hop]
      simp only [← ev, aindexAddr, h1, h2, h3, hs, hbd, and_self, if_true, val]
    · rename_i n elem id sz off len cap h1 h2 h3
      split at hk
      case h_2 => exact hk.elim
      rename_i size hs
      obtain ⟨hbd, hk⟩ := hk
      obtain ⟨rfl, hbd⟩ := hbd
      rw [finD_eq] at hk
      refine done (r := { val := .ptr id (off + n.toNat * sz) }) ?_ (by simp) hk
      unfold aop
      rw [hop]
      simp only [← ev, aindexAddr, h1, h2, h3, hs, hbd, and_self, if_true, val]
    · rename_i n len elem id off h1 h2 h3
      split at hk
      case h_2 => exact hk.elim
      rename_i size hs
      obtain ⟨hbd, hk⟩ := hk
      rw [finD_eq] at hk
      refine done (r := { val := .ptr id (off + n.toNat * size) }) ?_ (by simp) hk
      unfold aop
      rw [hop]
      simp only [← ev, aindexAddr, h1, h2, h3, hs, hbd, and_self, if_true, val]
    · rename_i n len elem cs off h1 h2 h3
      split at hk
      case h_2 => exact hk.elim
      rename_i size hs
      obtain ⟨hbd, hk⟩ := hk
      rw [finD_eq] at hk
      refine done (r := { val := .c (.cptr cs (off + n.toNat * size)) }) ?_ (by simp) hk
      unfold aop
      rw [hop]
      simp only [← ev, aindexAddr, h1, h2, h3, hs, hbd, and_self, if_true, val]
    · exact dPlain_ok ho hw hk
  · rename_i x hop
    rw [movedD_eq] at hk
    refine done (r := { val := evalF tmps x }) ?_ (by simp) hk
    unfold aop
    rw [hop]
    simp only [← ev, val]
  · rename_i x hop
    rw [movedD_eq] at hk
    refine done (r := { val := evalF tmps x }) ?_ (by simp) hk
    unfold aop
    rw [hop]
    simp only [← ev, val]
  · rename_i t x lo hi mx hop
    split at hk
    · rename_i hia
      obtain ⟨r, hr, hk⟩ := hk
      obtain ⟨e1, e2⟩ := arrSlice_plain hr
      obtain ⟨v, reads, us, fr⟩ := r
      simp only at e1 e2
      subst e1 e2
      rw [finD_eq] at hk
      refine done (r := ⟨v, reads, [], none⟩) ?_ (by simp) hk
      unfold aop
      rw [hop]
      simp only [hia, ← ev, hr, simp?, Option.map_some]
    · exact dPlain_ok ho hw hk
  · rename_i t x y t2 hop
    split at hk
    · rename_i a b h1 h2
      obtain ⟨z, hz, hk⟩ := hk
      rw [finD_eq] at hk
      refine done (r := { val := .int z }) ?_ (by simp) hk
      unfold aop
      rw [hop]
      simp only [← ev, abinOp, h1, h2, AV.toVal, CV.toVal, litBin, val, hz]
      rfl
    · exact dPlain_ok ho hw hk
  · rename_i t x y t2 hop
    split at hk
    · rename_i a b h1 h2
      obtain ⟨z, hz, hk⟩ := hk
      rw [finD_eq] at hk
      refine done (r := { val := .int z }) ?_ (by simp) hk
      unfold aop
      rw [hop]
      simp only [← ev, abinOp, h1, h2, AV.toVal, CV.toVal, litBin, val, hz]
      rfl
    · exact dPlain_ok ho hw hk
  · rename_i t x y t2 hop
    split at hk
    · rename_i a b h1 h2
      obtain ⟨z, hz, hk⟩ := hk
      rw [finD_eq] at hk
      refine done (r := { val := .int z }) ?_ (by simp) hk
      unfold aop
      rw [hop]
      simp only [← ev, abinOp, h1, h2, AV.toVal, CV.toVal, litBin, val, hz]
      rfl
    · exact dPlain_ok ho hw hk
  · rename_i args ts hop
    split at hk
    · rename_i d s t hargs hts
      obtain ⟨r, hr, hu, hk⟩ := hk
      refine done (r := r) ?_ (fun p hp => by simpa using (List.all_eq_true.1 hu) p hp) hk
      unfold aop
      rw [hop]
      simp only [acall, hargs, hts, ← ev, hr, simp?, Option.map_some]
    · exact dPlain_ok ho hw hk
  · rename_i args ts hop
    split at hk
    · rename_i s x hargs
      split at hk
      · rename_i hx
        obtain ⟨r, hr, hu, hk⟩ := hk
        refine done (r := r) ?_ (fun p hp => by simpa using (List.all_eq_true.1 hu) p hp) hk
        unfold aop
        rw [hop]
        first
          | simp only [acall, hargs, ← ev, hr, simp?, Option.map_some]
          | simp only [acall, hargs, ← ev, hx, hr, simp?, Option.map_some]
      · exact dPlain_ok ho hw hk
    · exact dPlain_ok ho hw hk
  · rename_i args ts hop
    split at hk
    · rename_i x y hargs
      split at hk
      · rename_i a b h1 h2
        rw [finD_eq] at hk
        refine done (r := { val := .int (max a b) }) ?_ (by simp) hk
        have e : args = #[x, y] := by
          obtain ⟨l⟩ := args
          simp only at hargs
          rw [hargs]
        subst e
        rw [ev] at h1 h2
        have := max_pure (P := P) hop h1 h2
        unfold aop
        rw [hop]
        simp only [acall, this]
      · exact dPlain_ok ho hw hk
    · exact dPlain_ok ho hw hk
  · rename_i args ts hop
    split at hk
    · rename_i x y hargs
      split at hk
      · rename_i a b h1 h2
        rw [finD_eq] at hk
        refine done (r := { val := .int (min a b) }) ?_ (by simp) hk
        have e : args = #[x, y] := by
          obtain ⟨l⟩ := args
          simp only at hargs
          rw [hargs]
        subst e
        rw [ev] at h1 h2
        have := min_pure (P := P) hop h1 h2
        unfold aop
        rw [hop]
        simp only [acall, this]
      · exact dPlain_ok ho hw hk
    · exact dPlain_ok ho hw hk
  · rename_i t x y t2 hop
    split at hk
    · rename_i a b h1 h2
      obtain ⟨hb, z, hz, hk⟩ := hk
      rw [finD_eq] at hk
      refine done (r := { val := .int z }) ?_ (by simp) hk
      unfold aop
      rw [hop]
      simp only [← ev, abinOp, h1, h2, AV.toVal, CV.toVal, litBin, val, hz, if_neg (Int.not_lt.2 hb)]
      rfl
    · exact dPlain_ok ho hw hk
  · rename_i t x y t2 hop
    split at hk
    · rename_i a b h1 h2
      obtain ⟨hb, z, hz, hk⟩ := hk
      rw [finD_eq] at hk
      refine done (r := { val := .int z }) ?_ (by simp) hk
      unfold aop
      rw [hop]
      simp only [← ev, abinOp, h1, h2, AV.toVal, CV.toVal, litBin, val, hz, if_neg (Int.not_lt.2 hb)]
      rfl
    · exact dPlain_ok ho hw hk
  · rename_i t x y t2 hop
    split at hk
    · rename_i a b h1 h2
      obtain ⟨z, hz, hk⟩ := hk
      rw [finD_eq] at hk
      refine done (r := { val := .int z }) ?_ (by simp) hk
      unfold aop
      rw [hop]
      simp only [← ev, abinOp, h1, h2, AV.toVal, CV.toVal, litBin, val, hz]
      rfl
    · exact dPlain_ok ho hw hk
  · rename_i t x y t2 hop
    split at hk
    · rename_i a b h1 h2
      obtain ⟨z, hz, hk⟩ := hk
      rw [finD_eq] at hk
      refine done (r := { val := .int z }) ?_ (by simp) hk
      unfold aop
      rw [hop]
      simp only [← ev, abinOp, h1, h2, AV.toVal, CV.toVal, litBin, val, hz]
      rfl
    · exact dPlain_ok ho hw hk
  · rename_i t x y t2 hop
    split at hk
    · rename_i a b h1 h2
      obtain ⟨z, hz, hk⟩ := hk
      rw [finD_eq] at hk
      refine done (r := { val := .int z }) ?_ (by simp) hk
      unfold aop
      rw [hop]
      simp only [← ev, abinOp, h1, h2, AV.toVal, CV.toVal, litBin, val, hz]
      rfl
    · exact dPlain_ok ho hw hk
  · exact dPlain_ok ho hw hk
end

section
variable {P : Program} {hm : Bool} {ops : Array Oper}

theorem OpsDone.cons {i : Nat} {is : List Nat} {s s1 s2 : ASt} {r : DRec} {l : List DRec} {t : List Nat} (d1 : OpDone P ops i s s1 r) (d2 : OpsDone P ops is s1 s2 l t) : OpsDone P ops (i :: is) s s2 (r :: l) t := by
  have hlen := d1.len
  refine ⟨.cons d1.step d2.steps, by simp [d1.idx, d2.idx], ?_, ?_, ?_, ?_, d2.defers.trans d1.defers, d2.pan.trans d1.pan, d2.round.trans d1.round⟩
  · intro j
    rw [d2.fids j, hlen]
    simp only [List.mem_cons, exists_eq_or_imp, ← or_assoc]
    rw [d1.fid]
    refine or_congr_left ?_
    cases hf : r.fresh with
    | none => simp
    | some b => simp only [Option.isSome_some, if_true, true_and]; omega
  · intro x hx
    rcases List.mem_cons.1 hx with rfl | hx
    · exact Nat.le_of_eq d1.fid.symm
    · have := d2.ge x hx; omega
  · intro x hx
    rcases List.mem_cons.1 hx with rfl | hx
    · exact d1.quiet
    · exact d2.quiet x hx
  · refine List.Pairwise.cons (fun x hx hf _ => ?_) d2.apart
    have := d2.ge x hx
    rw [hf] at hlen
    rw [d1.fid]
    simp at hlen
    omega

theorem OpsDone.nil (s : ASt) : OpsDone P ops [] s s [] [] := ⟨.nil _, rfl, by simp, by simp, by simp, .nil, rfl, rfl, rfl⟩

theorem dOps_ok : ∀ (is : List Nat) (s : ASt) (l : List DRec) (K : List DRec → ASt → Prop), dOps P hm ops is s l K → ∃ s1 l1, OpsDone P ops is s s1 l1 [] ∧ K (l1.reverse ++ l) s1
  | [], s, l, K, h => ⟨s, [], .nil s, by simpa [dOps] using h⟩
  | i :: rest, ⟨tmps, ds, p, rd, hp⟩, l, K, h => by
    have next : ∀ {s1 : ASt} {r : DRec}, OpDone P ops i ⟨tmps, ds, p, rd, hp⟩ s1 r → dOps P hm ops rest s1 (r :: l) K → ∃ s1 l1, OpsDone P ops (i :: rest) ⟨tmps, ds, p, rd, hp⟩ s1 l1 [] ∧ K (l1.reverse ++ l) s1 := by
      intro s1 r d1 h1
      obtain ⟨s2, l2, d2, k⟩ := dOps_ok rest s1 (r :: l) K h1
      exact ⟨s2, r :: l2, .cons d1 d2, by simpa using k⟩
    have doOp : ∀ {o : Oper}, ops[i]? = some o → wantedA ops o ⟨tmps, ds, p, rd, hp⟩ = some true → dOp P hm ops i o tmps ds p rd hp (fun s r => dOps P hm ops rest s (r :: l) K) → ∃ s1 l1, OpsDone P ops (i :: rest) ⟨tmps, ds, p, rd, hp⟩ s1 l1 [] ∧ K (l1.reverse ++ l) s1 := by
      intro o ho hw hk
      obtain ⟨s1, r, d1, k⟩ := dOp_ok ho hw hk
      exact next d1 k
    have doSkip : ∀ {o : Oper}, ops[i]? = some o → wantedA ops o ⟨tmps, ds, p, rd, hp⟩ = some false → finD ops i o tmps ds p rd hp hp.n .undef [] [] none (fun s r => dOps P hm ops rest s (r :: l) K) → ∃ s1 l1, OpsDone P ops (i :: rest) ⟨tmps, ds, p, rd, hp⟩ s1 l1 [] ∧ K (l1.reverse ++ l) s1 := by
      intro o ho hw hk
      rw [finD_eq] at hk
      exact next (done_skip ho hw) hk
    simp only [dOps, nthF_eq] at h
    split at h
    · exact h.elim
    rename_i o ho
    split at h
    · rename_i hg; exact doOp ho (guardV_yes (s := ⟨tmps, ds, p, rd, hp⟩) hg) h
    · rename_i hg; exact doSkip ho (guardV_no (s := ⟨tmps, ds, p, rd, hp⟩) hg) h
    · rename_i b want hg
      have hw := guardV_bool (s := ⟨tmps, ds, p, rd, hp⟩) hg
      cases want <;> cases b
      · simp only [decB] at h; exact doOp ho hw h
      · simp only [decB] at h; exact doSkip ho hw h
      · simp only [decB] at h; exact doSkip ho hw h
      · simp only [decB] at h; exact doOp ho hw h
    · exact h.elim

/-- A region whose order is open, of operations that may change places. -/
theorem draw_here (hmix : P.follows .mixedOrders = true) {id : Nat} {s : ASt} {K : AExit → ASt → Prop} (hb : backGo ops.toList 0 = true) (h : dOps P hm ops (List.range ops.size) s [] fun l s1 => Both (pairsOk (masks ops) l.reverse = true) (K .normal s1)) : T P (.code (.region id ops true)) s K := by
  obtain ⟨s1, l1, d, hp, k⟩ := dOps_ok _ _ _ _ h
  simp only [List.append_nil, List.reverse_reverse] at hp
  exact ⟨.normal, s1, region_ok hmix hb d hp rfl rfl ok_ops_nil, k⟩
end
end Go.Ag
/- Proofs with open values: code, loops, calls. -/
namespace Go.Ag
section
variable {P : Program}

/-- A loop. -/
inductive LoopW (P : Program) (c : Code) (s : ASt) (K : AExit → ASt → Prop) : Prop
  | mk (h : T P (.code (.loop c)) s K)
/-- A range over a function. -/
inductive RangeW (P : Program) (f : Operand) (params : Array Tmp) (assign body : Code) (s : ASt) (K : AExit → ASt → Prop) : Prop
  | mk (h : T P (.code (.rangeFunc f params assign body)) s K)
/-- A region whose order is open. -/
inductive DrawW (P : Program) (id : Nat) (ops : Array Oper) (s : ASt) (K : AExit → ASt → Prop) : Prop
  | mk (h : T P (.code (.region id ops true)) s K)

noncomputable def wCode (P : Program) (hm : Bool) : Code → ASt → (AExit → ASt → Prop) → Prop
  | .skip, s, K => K .normal s
  | .label _, s, K => K .normal s
  | .region id ops draw, s, K => match draw with
    | false => wOps P hm ops (List.range ops.size) s K
    | true => DrawW P id ops s K
  | .seq a b, s, K => wCode P hm a s fun e s1 => match e with
    | .normal => wCode P hm b s1 K
    | e => K e s1
  | .cond x a b, s, K => match asBool (evalF s.tmps x) with
    | some t => decB t (wCode P hm a s K) (wCode P hm b s K)
    | none => False
  | .block id c, s, K => wCode P hm c s fun e s1 => match e with
    | .exit i => match Nat.beq i id with
      | true => K .normal s1
      | false => K (.exit i) s1
    | e => K e s1
  | .loop c, s, K => LoopW P c s K
  | .scope c, s, K => wCode P hm c s K
  | .rangeFunc f params assign body, s, K => RangeW P f params assign body s K
  | .exit id, s, K => K (.exit id) s
  | .ret, s, K => K .ret s
  | _, _, _ => False

theorem T.mono {item : Item} {s : ASt} {K K' : AExit → ASt → Prop} (h : T P item s K) (hk : ∀ e s1, K e s1 → K' e s1) : T P item s K' := by
  obtain ⟨e, s', h1, h2⟩ := h
  exact ⟨e, s', h1, hk _ _ h2⟩

theorem T_seq {a b : Code} {s : ASt} {K : AExit → ASt → Prop} (h : T P (.code a) s fun e s1 => match e with | .normal => T P (.code b) s1 K | e => K e s1) : T P (.code (.seq a b)) s K := by
  obtain ⟨e, s1, h1, h2⟩ := h
  cases e with
  | normal =>
    obtain ⟨e', s', h3, h4⟩ := h2
    exact ⟨e', s', ok_seq (.inl ⟨s1, h1, h3⟩), h4⟩
  | exit i => exact ⟨_, s1, ok_seq (.inr ⟨by simp, h1⟩), h2⟩
  | ret => exact ⟨_, s1, ok_seq (.inr ⟨by simp, h1⟩), h2⟩
  | panic v => exact ⟨_, s1, ok_seq (.inr ⟨by simp, h1⟩), h2⟩

theorem T_block {id : Nat} {c : Code} {s : ASt} {K : AExit → ASt → Prop} (h : T P (.code c) s fun e s1 => match e with | .exit i => (match Nat.beq i id with | true => K .normal s1 | false => K (.exit i) s1) | e => K e s1) : T P (.code (.block id c)) s K := by
  obtain ⟨e, s1, h1, h2⟩ := h
  have h3 := ok_block (id := id) h1
  cases e with
  | exit i =>
    simp only at h2 h3
    cases hb : Nat.beq i id with
    | true =>
      rw [hb] at h2
      rw [if_pos (Nat.eq_of_beq_eq_true hb)] at h3
      exact ⟨_, s1, h3, h2⟩
    | false =>
      rw [hb] at h2
      rw [if_neg (Nat.ne_of_beq_eq_false hb)] at h3
      exact ⟨_, s1, h3, h2⟩
  | normal => exact ⟨_, s1, h3, h2⟩
  | ret => exact ⟨_, s1, h3, h2⟩
  | panic v => exact ⟨_, s1, h3, h2⟩

theorem T_loop {c : Code} {item : Item} (hi : item = .code (.loop c) ∨ item = .inLoop c) {s : ASt} {K : AExit → ASt → Prop} (h : T P (.code c) s fun e s1 => match e with | .normal => T P (.inLoop c) s1 K | e => K e s1) : T P item s K := by
  obtain ⟨e, s1, h1, h2⟩ := h
  cases e with
  | normal =>
    obtain ⟨e', s', h3, h4⟩ := h2
    exact ⟨e', s', ok_loop hi (.inl ⟨s1, h1, h3⟩), h4⟩
  | exit i => exact ⟨_, s1, ok_loop hi (.inr ⟨by simp, h1⟩), h2⟩
  | ret => exact ⟨_, s1, ok_loop hi (.inr ⟨by simp, h1⟩), h2⟩
  | panic v => exact ⟨_, s1, ok_loop hi (.inr ⟨by simp, h1⟩), h2⟩

/-- A loop by its measure. -/
theorem loop_meas {c : Code} {K : AExit → ASt → Prop} (I : Nat → ASt → Prop) (step : ∀ k s, I k s → T P (.code c) s fun e s1 => match e with | .normal => ∃ j, j < k ∧ I j s1 | e => K e s1) : ∀ k s, I k s → T P (.inLoop c) s K := by
  intro k
  induction k using Nat.strongRecOn with
  | _ k ih =>
    intro s hs
    refine T_loop (.inr rfl) ((step k s hs).mono ?_)
    intro e s1 h
    cases e with
    | normal => obtain ⟨j, hj, h⟩ := h; exact ih j hj s1 h
    | exit i => exact h
    | ret => exact h
    | panic v => exact h

theorem loop_by {c : Code} {K : AExit → ASt → Prop} (I : Nat → ASt → Prop) (step : ∀ k s, I k s → T P (.code c) s fun e s1 => match e with | .normal => ∃ j, j < k ∧ I j s1 | e => K e s1) {k : Nat} {s : ASt} (h : I k s) : LoopW P c s K := by
  refine ⟨T_loop (.inl rfl) ((step k s h).mono ?_)⟩
  intro e s1 h
  cases e with
  | normal => obtain ⟨j, _, h⟩ := h; exact loop_meas I step j s1 h
  | exit i => exact h
  | ret => exact h
  | panic v => exact h

variable {hm : Bool}
theorem wCode_ok : ∀ (c : Code) (s : ASt) (K : AExit → ASt → Prop), wCode P hm c s K → T P (.code c) s K
  | .skip, s, K, h => ⟨.normal, s, ok_now (.inl rfl), h⟩
  | .label l, s, K, h => ⟨.normal, s, ok_now (.inr ⟨l, rfl⟩), h⟩
  | .region id ops draw, s, K, h => by
    cases draw with
    | false =>
      obtain ⟨e, s', h1, h2⟩ := wOps_ok _ s K h
      exact ⟨e, s', ok_region h1, h2⟩
    | true => obtain ⟨h⟩ := (h : DrawW P id ops s K); exact h
  | .seq a b, s, K, h => by
    refine T_seq ((wCode_ok a s _ h).mono ?_)
    intro e s1 h
    cases e with
    | normal => exact wCode_ok b s1 K h
    | exit i => exact h
    | ret => exact h
    | panic v => exact h
  | .cond x a b, s, K, h => by
    simp only [wCode] at h
    rw [evalF_eq s.tmps s.defers s.pan s.round s.h] at h
    split at h
    case h_2 => exact h.elim
    rename_i t ht
    have : T P (.code (if t then a else b)) s K := by
      cases t with
      | true => exact wCode_ok a s K h
      | false => exact wCode_ok b s K h
    obtain ⟨e, s', h1, h2⟩ := this
    exact ⟨e, s', ok_cond ht h1, h2⟩
  | .block id c, s, K, h => T_block (wCode_ok c s _ h)
  | .loop c, s, K, h => by obtain ⟨h⟩ := (h : LoopW P c s K); exact h
  | .scope c, s, K, h => by
    obtain ⟨e, s', h1, h2⟩ := wCode_ok c s K h
    exact ⟨e, s', ok_scope h1, h2⟩
  | .rangeFunc f params assign body, s, K, h => by obtain ⟨h⟩ := (h : RangeW P f params assign body s K); exact h
  | .exit id, s, K, h => ⟨_, s, ok_exit, h⟩
  | .ret, s, K, h => ⟨_, s, ok_ret, h⟩

/-- Some of a state is forgotten. -/
structure Weak (s s1 : ASt) : Prop where
  n : s1.tmps.n = s.tmps.n
  tmps : ∀ i, i < s.tmps.n → s1.tmps.get .undef i = .c .junk ∨ s1.tmps.get .undef i = s.tmps.get .undef i
  defers : s1.defers = s.defers
  pan : s1.pan = s.pan
  round : s1.round = s.round
  h : s1.h = s.h

theorem StRel.weak {g : G} {s s1 : ASt} {fr : Frame} {w : World} (h : StRel P g s fr w) (hw : Weak s s1) : StRel P g s1 fr w := by
  refine ⟨by rw [hw.h]; exact h.inv, by rw [hw.h]; exact h.A, by rw [hw.n]; exact h.len, ?_, by rw [hw.defers]; exact h.defers, by rw [hw.round]; exact h.round⟩
  intro i a ha
  rw [TMap.toList_get?, hw.n] at ha
  split at ha
  case isFalse => cases ha
  rename_i hi
  simp only [Option.some.injEq] at ha
  subst ha
  obtain ⟨b, hb, hr⟩ := h.tmps i (s.tmps.get .undef i) (by rw [TMap.toList_get?, if_pos hi])
  refine ⟨b, hb, ?_⟩
  rcases hw.tmps i hi with h1 | h1
  · rw [h1]; trivial
  · rw [h1]; exact hr

theorem CodeOk.weak {s s1 s' : ASt} {item : Item} {e : AExit} (hw : Weak s s1) (h : CodeOk P s1 item e s') : CodeOk P s item e s' := by
  intro g fr cs base w k hst hcs ht hm
  obtain ⟨g', fr', cs', w', G'⟩ := h g fr cs base w k (hst.weak hw) (by rw [hw.pan]; exact hcs) ht hm
  exact ⟨g', fr', cs', w', G'.steps, G'.st, G'.cs, G'.fn, G'.kind, G'.lands, by have := G'.ev; rw [hw.h] at this; exact this, G'.round.trans hw.round⟩

theorem T.weak {s s1 : ASt} {item : Item} {K : AExit → ASt → Prop} (hw : Weak s s1) (h : T P item s1 K) : T P item s K := by
  obtain ⟨e, s', h1, h2⟩ := h
  exact ⟨e, s', h1.weak hw, h2⟩

/-- Nothing is known below a number. -/
def junkTree : Nat → Tree AV
  | 0 => .leaf
  | d + 1 => .node (.c .junk) (junkTree d) (junkTree d)
theorem junkTree_get : ∀ (d i : Nat), i < d → (junkTree d).get .undef i = .c .junk
  | 0, _, h => absurd h (Nat.not_lt_zero _)
  | d + 1, 0, _ => rfl
  | d + 1, j + 1, h => by
    simp only [junkTree, Tree.get]
    split <;> exact junkTree_get d (j / 2) (by omega)

/-- The temporaries of which these are known. -/
noncomputable def known (n : Nat) : List (Tmp × AV) → TMap AV
  | [] => ⟨n, junkTree n⟩
  | (t, v) :: l => (known n l).set .undef t v
theorem known_n (n : Nat) : ∀ l, (known n l).n = n
  | [] => rfl
  | (t, v) :: l => by simp only [known, TMap.set_n]; exact known_n n l
noncomputable def knownK (n : Nat) (l : List (Tmp × AV)) (k : TMap AV → Prop) : Prop := match l with
  | [] => k ⟨n, junkTree n⟩
  | (t, v) :: l => knownK n l fun m => mapK .undef m t v k
theorem knownK_eq (n : Nat) : ∀ (l : List (Tmp × AV)) (k : TMap AV → Prop), knownK n l k = k (known n l)
  | [], k => rfl
  | (t, v) :: l, k => by
    simp only [knownK, known]
    rw [knownK_eq n l]
    exact mapK_eq ..

def Knows (m : TMap AV) : List (Tmp × AV) → Prop
  | [] => True
  | (t, v) :: l => m.get .undef t = v ∧ Knows m l

theorem known_get (n : Nat) (m : TMap AV) (hn : m.n = n) : ∀ (l : List (Tmp × AV)), Knows m l → ∀ i, i < n → (known n l).get .undef i = .c .junk ∨ (known n l).get .undef i = m.get .undef i
  | [], _, i, hi => .inl (by rw [show known n [] = ⟨n, junkTree n⟩ from rfl, TMap.get_lt hi]; exact junkTree_get n i hi)
  | (t, v) :: l, h, i, hi => by
    simp only [known, TMap.get_set]
    split
    · rename_i hc
      obtain ⟨rfl, _⟩ := hc
      exact .inr h.1.symm
    · exact known_get n m hn l h.2 i hi

/-- The state of which these temporaries are known. -/
structure Has (s : ASt) (n : Nat) (l : List (Tmp × AV)) (ds : List ADef) (rd : Option Nat) (h : Heap) : Prop where
  n : s.tmps.n = n
  tmps : Knows s.tmps l
  defers : s.defers = ds
  pan : s.pan = .no
  round : s.round = rd
  h : s.h = h

theorem Has.weak {s : ASt} {n : Nat} {l : List (Tmp × AV)} {ds : List ADef} {rd : Option Nat} {h : Heap} (hs : Has s n l ds rd h) : Weak s ⟨known n l, ds, .no, rd, h⟩ := by
  refine ⟨by rw [hs.n]; exact known_n n l, fun i hi => ?_, hs.defers.symm, hs.pan.symm, hs.round.symm, hs.h.symm⟩
  exact known_get n s.tmps hs.n l hs.tmps i (by rw [← hs.n]; exact hi)

/-- Code from a state of which some is known. -/
theorem Has.run {hm : Bool} {s : ASt} {n : Nat} {l : List (Tmp × AV)} {ds : List ADef} {rd : Option Nat} {h : Heap} (hs : Has s n l ds rd h) {c : Code} {K : AExit → ASt → Prop} (hk : knownK n l fun t => wCode P hm c ⟨t, ds, .no, rd, h⟩ K) : T P (.code c) s K := by
  rw [knownK_eq] at hk
  exact (wCode_ok c _ K hk).weak hs.weak

/-- The results. -/
noncomputable def resK (hm : Bool) (P : Program) (tmps : TMap AV) (h : Heap) : List ResultVar → (List AV → Prop) → Prop
  | [], K => K []
  | .tmp t :: r, K => resK hm P tmps h r fun vs => K (getF .undef tmps t :: vs)
  | .cell a t :: r, K => match getF .undef tmps a with
    | .ptr id off => look hm (Heap.at h id) fun b => match b with
      | .blk cells => match readVar P t cells off with
        | some v => resK hm P tmps h r fun vs => K (v :: vs)
        | none => False
      | _ => False
    | _ => False
theorem resK_ok {hm : Bool} {tmps : TMap AV} {h : Heap} : ∀ {l : List ResultVar} {K : List AV → Prop}, resK hm P tmps h l K → ∃ vs, readResF P tmps h l = some vs ∧ K vs
  | [], _, hk => ⟨[], rfl, hk⟩
  | .tmp t :: r, K, hk => by
    obtain ⟨vs, h1, h2⟩ := resK_ok (l := r) hk
    exact ⟨_, by simp only [readResF, h1, Option.map_some], h2⟩
  | .cell a t :: r, K, hk => by
    simp only [resK] at hk
    split at hk
    case h_2 => exact hk.elim
    rename_i id off ha
    have hk := look_eq hk
    split at hk
    case h_2 => exact hk.elim
    rename_i cells hb
    split at hk
    case h_2 => exact hk.elim
    rename_i v hv
    obtain ⟨vs, h1, h2⟩ := resK_ok (l := r) hk
    refine ⟨_, ?_, h2⟩
    simp only [readResF, ha, aload, atF_eq, hb, hv, h1, Option.map_some]
noncomputable def oneOf : List AV → AV
  | [v] => v
  | vs => mkTuple vs

/-- A deferred call. -/
inductive DefCallW (P : Program) (f : FuncId) (args : List AV) (h : Heap) (pan : Pan) (K : Heap → Pan → Prop) : Prop
  | mk (v : AV) (h' : Heap) (pan' : Pan) (hk : CallOk P f args h pan (.ret v) h' pan') (k : K h' pan')

/-- What is deferred. -/
noncomputable def defW (hm : Bool) (P : Program) : List ADef → Option AV → Heap → (Option AV → Heap → Prop) → Prop
  | [], mode, h, K => K mode h
  | .coll d :: ds, mode, h, K => look hm (Heap.at h d) fun b => match b with
    | .coll true => hSet hm h d (.coll false) fun h => defW hm P ds mode h K
    | _ => False
  | .call f args :: ds, mode, h, K => DefCallW P f args h (panOf mode) fun h' pan => defW hm P ds (modeAfter mode pan) h' K

theorem defW_ok {hm : Bool} : ∀ {ds : List ADef} {mode : Option AV} {h : Heap} {K : Option AV → Heap → Prop}, defW hm P ds mode h K → ∃ mode' h', DefersOk P ds mode h mode' h' ∧ K mode' h'
  | [], mode, h, K, hk => ⟨mode, h, ok_defers_nil, hk⟩
  | .coll d :: ds, mode, h, K, hk => by
    simp only [defW] at hk
    have hk := look_eq hk
    split at hk
    case h_2 => exact hk.elim
    rename_i hb
    rw [hSet_eq] at hk
    obtain ⟨mode', h', h1, h2⟩ := defW_ok hk
    exact ⟨mode', h', ok_defers_coll hb h1, h2⟩
  | .call f args :: ds, mode, h, K, hk => by
    obtain ⟨v, h1, pan', hc, hk⟩ := (hk : DefCallW P f args h (panOf mode) _)
    obtain ⟨mode', h', h2, h3⟩ := defW_ok hk
    exact ⟨mode', h', ok_defers_call hc h2, h3⟩

/-- What a whole function comes to. -/
noncomputable def endP (hm : Bool) (P : Program) (fn : Func) (Q : AEnd → Heap → Pan → Prop) (e : AExit) (s : ASt) : Prop := match modeOf e with
  | none => False
  | some mode => defW hm P s.defers mode s.h fun mode' h' => match mode' with
    | none => resK hm P s.tmps h' fn.results.toList fun vs => Q (.ret (oneOf vs)) h' s.pan
    | some v => Q (.panic v) h' s.pan
def noPan (Q : AEnd → Heap → Prop) (e : AEnd) (h : Heap) (p : Pan) : Prop := match p with
  | .no => Q e h
  | _ => False
noncomputable def endW (hm : Bool) (P : Program) (fn : Func) (Q : AEnd → Heap → Prop) (e : AExit) (s : ASt) : Prop := endP hm P fn (noPan Q) e s

/-- The value that is returned. -/
inductive RetW (v : CV) (u : AV) (h : Heap) : Prop
  | mk (fuel : Nat) (ids : List Nat) (hs : snap (Heap.at h) fuel u = some (v, ids))
def retW (v : CV) (e : AEnd) (h : Heap) : Prop := match e with
  | .ret u => RetW v u h
  | .panic _ => False
theorem RetW.val {v : CV} {h : Heap} : RetW v (.c v) h := ⟨1, [], rfl⟩

theorem readResultsF_eq (fn : Func) (tmps : TMap AV) (h : Heap) : readResultsF P fn tmps h = readResults P fn tmps h := by
  unfold readResultsF readResults
  rw [readResF_eq]
  rfl

/-- A call. -/
theorem call_byP {hm : Bool} {f : FuncId} {fn : Func} {body : Code} {args : List AV} {h : Heap} {pan : Pan} {Q : AEnd → Heap → Pan → Prop} (hf : P.funcs[f]? = some fn) (hb : fn.body = some body)
    (hw : initK args (fn.ntmps - args.length) fun t => wCode P hm body ⟨t, [], pan, none, h⟩ (fun e s => endP hm P fn Q e s)) : ∃ e h' p', CallOk P f args h pan e h' p' ∧ Q e h' p' := by
  rw [initK_eq] at hw
  obtain ⟨e, s1, h1, h3⟩ := wCode_ok body _ _ hw
  unfold endP at h3
  split at h3
  · exact h3.elim
  rename_i mode hmode
  obtain ⟨mode', h2, hd, h4⟩ := defW_ok h3
  have ok := ok_call hf hb h1 hmode hd
  cases mode' with
  | none =>
    obtain ⟨vs, hv, h5⟩ := resK_ok h4
    refine ⟨.ret (oneOf vs), h2, s1.pan, ok.1 _ rfl ?_, h5⟩
    rw [← readResultsF_eq]
    unfold readResultsF oneOf
    rw [hv]
    cases vs with
    | nil => rfl
    | cons a l => cases l <;> rfl
  | some v => exact ⟨.panic v, h2, s1.pan, ok.2 v rfl, h4⟩

theorem call_by {hm : Bool} {f : FuncId} {fn : Func} {body : Code} {args : List AV} {h : Heap} {Q : AEnd → Heap → Prop} (hf : P.funcs[f]? = some fn) (hb : fn.body = some body)
    (hw : initK args (fn.ntmps - args.length) fun t => wCode P hm body ⟨t, [], .no, none, h⟩ (fun e s => endW hm P fn Q e s)) : ∃ e h', CallOk P f args h .no e h' .no ∧ Q e h' := by
  obtain ⟨e, h', p', h1, h2⟩ := call_byP hf hb hw
  unfold noPan at h2
  split at h2
  · exact ⟨e, h', h1, h2⟩
  · exact h2.elim

/-- A contract: what a call on closed values returns. -/
def Ret (P : Program) (f : FuncId) (args : List CV) (v : CV) : Prop := CallOk P f (args.map .c) TMap.nil .no (.ret (.c v)) TMap.nil .no

theorem ret_by {hm : Bool} {f : FuncId} {fn : Func} {body : Code} {args : List CV} {v : CV} (hf : P.funcs[f]? = some fn) (hb : fn.body = some body)
    (hw : initK (args.map .c) (fn.ntmps - (args.map AV.c).length) fun t => wCode P hm body ⟨t, [], .no, none, TMap.nil⟩ (fun e s => endW hm P fn (fun e h' => retW v e h') e s)) : Ret P f args v := by
  obtain ⟨e, h', h1, h2⟩ := call_by hf hb hw
  cases e with
  | panic _ => exact h2.elim
  | ret u =>
    obtain ⟨fuel, ids, h3⟩ := (h2 : RetW v u h')
    exact callOk_close h1 (r := (v, ids)) h3

theorem CallW.ret {f : FuncId} {args' : List CV} {v : CV} (hk : Ret P f args' v) {args : List AV} {h : Heap} {K : AEnd → Heap → Prop} (ha : allC args = some args') (k : K (.ret (.c v)) h) : CallW P f args h K := .pure args' _ ha hk ⟨v, rfl⟩ k
theorem CallD.ret {f : FuncId} {args' : List CV} {v : CV} (hk : Ret P f args' v) {args : List AV} {h : Heap} {K : CV → List Nat → List (Nat × AB) → Prop} (ha : allC args = some args') (k : K v [] []) : CallD P f args h K := .pure args' v ha hk k
theorem draw_by {hm : Bool} (hmix : P.follows .mixedOrders = true) {id : Nat} {ops : Array Oper} {s : ASt} {K : AExit → ASt → Prop} (hb : backGo ops.toList 0 = true) (h : dOps P hm ops (List.range ops.size) s [] fun l s1 => Both (pairsOk (masks ops) l.reverse = true) (K .normal s1)) : DrawW P id ops s K := ⟨draw_here hmix hb h⟩
end

section
variable (h : Heap) (b c : AB)
theorem at_push_self : Heap.at (h.push .dead b) h.n = b := by unfold Heap.at; rw [TMap.get_push, if_pos rfl]
theorem at_push_lt {i : Nat} (hi : i < h.n) : Heap.at (h.push .dead b) i = Heap.at h i := by unfold Heap.at; rw [TMap.get_push, if_neg (by omega)]
theorem at_set_self {i : Nat} (hi : i < h.n) : Heap.at (h.set .dead i b) i = b := by unfold Heap.at; rw [TMap.get_set, if_pos ⟨rfl, hi⟩]
theorem at_set_ne {i k : Nat} (hi : i ≠ k) : Heap.at (h.set .dead k b) i = Heap.at h i := by unfold Heap.at; rw [TMap.get_set, if_neg (fun x => hi x.1)]
theorem push_n : (h.push .dead b).n = h.n + 1 := rfl
/-- A block that is made, and written. -/
theorem at_new : Heap.at ((h.push .dead b).set .dead h.n c) h.n = c := at_set_self _ _ (by rw [push_n]; omega)
theorem at_old {i : Nat} (hi : i < h.n) : Heap.at ((h.push .dead b).set .dead h.n c) i = Heap.at h i := by rw [at_set_ne _ _ (by omega), at_push_lt _ _ hi]
theorem new_n : ((h.push .dead b).set .dead h.n c).n = h.n + 1 := by rw [TMap.set_n]; rfl
end
end Go.Ag
