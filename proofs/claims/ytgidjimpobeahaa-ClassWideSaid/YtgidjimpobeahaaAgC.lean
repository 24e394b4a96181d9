/- The evaluator in a form that the kernel runs; what follows of calls for a row. No conditions. -/
import Derived.Test.YtgidjimpobeahaaAgB
import Derived.Below
import Derived.ChangeSame
/- The evaluator once more, in a form that the kernel runs quickly: states and values are brought to normal form as they are made. -/
namespace Go.Ag
universe u
variable {β : Sort u}

/-- The list's spine, ahead of what follows. -/
noncomputable def forceL {α : Type} (l : List α) (k : List α → β) : β := List.rec (motive := fun _ => (List α → β) → β) (fun k => k []) (fun a _ ih k => ih fun r => k (a :: r)) l k
theorem forceL_eq {α : Type} (l : List α) : ∀ (k : List α → β), forceL l k = k l := by
  induction l with
  | nil => intro k; rfl
  | cons a l ih => intro k; exact ih _

noncomputable def forceN (n : Nat) (k : Nat → β) : β := Nat.casesOn (motive := fun _ => (Nat → β) → β) n (fun k => k 0) (fun m k => k (Nat.succ m)) k
theorem forceN_eq (n : Nat) (k : Nat → β) : forceN n k = k n := by cases n <;> rfl

noncomputable def forceI (n : Int) (k : Int → β) : β := Int.casesOn (motive := fun _ => (Int → β) → β) n (fun m k => forceN m fun m => k (.ofNat m)) (fun m k => forceN m fun m => k (.negSucc m)) k
theorem forceI_eq (n : Int) (k : Int → β) : forceI n k = k n := by cases n <;> simp [forceI, forceN_eq]

noncomputable def forceB (b : Bool) (k : Bool → β) : β := Bool.casesOn (motive := fun _ => (Bool → β) → β) b (fun k => k false) (fun k => k true) k
theorem forceB_eq (b : Bool) (k : Bool → β) : forceB b k = k b := by cases b <;> rfl

noncomputable def forceVal (v : Value) (k : Value → β) : β := match v with
  | .int i n => forceI n fun n => k (.int i n)
  | .bool b => forceB b fun b => k (.bool b)
  | v => k v
theorem forceVal_eq (v : Value) (k : Value → β) : forceVal v k = k v := by cases v <;> simp [forceVal, forceI_eq, forceB_eq]

noncomputable def forceAll {α : Type} (f : α → (α → β) → β) (l : List α) (k : List α → β) : β := List.rec (motive := fun _ => (List α → β) → β) (fun k => k []) (fun a _ ih k => f a fun a => ih fun r => k (a :: r)) l k
theorem forceAll_eq {α : Type} {f : α → (α → β) → β} (l : List α) (hf : ∀ a ∈ l, ∀ k, f a k = k a) : ∀ (k : List α → β), forceAll f l k = k l := by
  induction l with
  | nil => intro k; rfl
  | cons a l ih =>
    intro k
    show f a _ = _
    rw [hf a (List.mem_cons_self ..)]
    exact ih (fun b hb => hf b (List.mem_cons_of_mem _ hb)) _

/-- A closed value, to a depth. -/
noncomputable def forceC (d : Nat) : CV → (CV → β) → β := Nat.rec (motive := fun _ => CV → (CV → β) → β) (fun v k => k v) (fun _ ih v k => match v with
  | .junk => k .junk
  | .lit v => forceVal v fun v => k (.lit v)
  | .cptr cells off => forceAll ih cells fun cells => forceN off fun off => k (.cptr cells off)
  | .sl cells off len => forceAll ih cells fun cells => forceN off fun off => forceN len fun len => k (.sl cells off len)
  | .cmap keys vals borns clock => forceL keys fun keys => forceAll ih vals fun vals => forceL borns fun borns => forceN clock fun clock => k (.cmap keys vals borns clock)
  | .func fn a b => forceAll ih a fun a => forceAll ih b fun b => k (.func fn a b)
  | .iface t v => ih v fun v => forceN t fun t => k (.iface t v)
  | .agg cs => forceAll ih cs fun cs => k (.agg cs)
  | .tuple cs => forceAll ih cs fun cs => k (.tuple cs)) d
theorem forceC_succ (d : Nat) (v : CV) (k : CV → β) : forceC (d + 1) v k = match v with
  | .junk => k .junk
  | .lit v => forceVal v fun v => k (.lit v)
  | .cptr cells off => forceAll (forceC d) cells fun cells => forceN off fun off => k (.cptr cells off)
  | .sl cells off len => forceAll (forceC d) cells fun cells => forceN off fun off => forceN len fun len => k (.sl cells off len)
  | .cmap keys vals borns clock => forceL keys fun keys => forceAll (forceC d) vals fun vals => forceL borns fun borns => forceN clock fun clock => k (.cmap keys vals borns clock)
  | .func fn a b => forceAll (forceC d) a fun a => forceAll (forceC d) b fun b => k (.func fn a b)
  | .iface t v => forceC d v fun v => forceN t fun t => k (.iface t v)
  | .agg cs => forceAll (forceC d) cs fun cs => k (.agg cs)
  | .tuple cs => forceAll (forceC d) cs fun cs => k (.tuple cs) := rfl
theorem forceC_eq (d : Nat) : ∀ (v : CV) (k : CV → β), forceC d v k = k v := by
  induction d with
  | zero => intro v k; rfl
  | succ d ih =>
    intro v k
    have hall : ∀ (l : List CV) (k : List CV → β), forceAll (forceC d) l k = k l := fun l k => forceAll_eq l (fun a _ k => ih a k) k
    rw [forceC_succ]
    cases v <;> simp only [hall, ih, forceN_eq, forceL_eq, forceVal_eq]

noncomputable def forceA (d : Nat) : AV → (AV → β) → β := Nat.rec (motive := fun _ => AV → (AV → β) → β) (fun v k => k v) (fun d ih v k => match v with
  | .c v => forceC d v fun v => k (.c v)
  | .ptr id off => forceN id fun id => forceN off fun off => k (.ptr id off)
  | .msl id sz off len cap => forceN id fun id => forceN sz fun sz => forceN off fun off => forceN len fun len => forceN cap fun cap => k (.msl id sz off len cap)
  | .map id => forceN id fun id => k (.map id)
  | .yield id => forceN id fun id => k (.yield id)
  | .func fn a b => forceAll ih a fun a => forceAll ih b fun b => k (.func fn a b)
  | .iface t v => ih v fun v => forceN t fun t => k (.iface t v)
  | .agg cs => forceAll ih cs fun cs => k (.agg cs)
  | .tuple cs => forceAll ih cs fun cs => k (.tuple cs)) d
theorem forceA_succ (d : Nat) (v : AV) (k : AV → β) : forceA (d + 1) v k = match v with
  | .c v => forceC d v fun v => k (.c v)
  | .ptr id off => forceN id fun id => forceN off fun off => k (.ptr id off)
  | .msl id sz off len cap => forceN id fun id => forceN sz fun sz => forceN off fun off => forceN len fun len => forceN cap fun cap => k (.msl id sz off len cap)
  | .map id => forceN id fun id => k (.map id)
  | .yield id => forceN id fun id => k (.yield id)
  | .func fn a b => forceAll (forceA d) a fun a => forceAll (forceA d) b fun b => k (.func fn a b)
  | .iface t v => forceA d v fun v => forceN t fun t => k (.iface t v)
  | .agg cs => forceAll (forceA d) cs fun cs => k (.agg cs)
  | .tuple cs => forceAll (forceA d) cs fun cs => k (.tuple cs) := rfl
theorem forceA_eq (d : Nat) : ∀ (v : AV) (k : AV → β), forceA d v k = k v := by
  induction d with
  | zero => intro v k; rfl
  | succ d ih =>
    intro v k
    have hall : ∀ (l : List AV) (k : List AV → β), forceAll (forceA d) l k = k l := fun l k => forceAll_eq l (fun a _ k => ih a k) k
    rw [forceA_succ]
    cases v <;> simp only [hall, ih, forceN_eq, forceC_eq]

noncomputable def forceBl (d : Nat) (b : AB) (k : AB → β) : β := match b with
  | .dead => k .dead
  | .blk cells => forceAll (forceA d) cells fun cells => k (.blk cells)
  | .map keys vals borns clock => forceL keys fun keys => forceAll (forceA d) vals fun vals => forceL borns fun borns => forceN clock fun clock => k (.map keys vals borns clock)
  | .loop fn tmps params assign body st pending coll => k (.loop fn tmps params assign body st pending coll)
  | .coll b => forceB b fun b => k (.coll b)
theorem forceBl_eq (d : Nat) (b : AB) (k : AB → β) : forceBl d b k = k b := by
  cases b <;> simp only [forceBl]
  · rw [forceAll_eq _ (fun a _ k => forceA_eq d a k)]
  · rw [forceL_eq, forceAll_eq _ (fun a _ k => forceA_eq d a k), forceL_eq, forceN_eq]
  · rw [forceB_eq]

/-- A tree, set at a place, brought to normal form along the way. -/
noncomputable def treeK {α : Type} (d : α) (f : Nat) : Tree α → Nat → α → (Tree α → β) → β := Nat.rec (motive := fun _ => Tree α → Nat → α → (Tree α → β) → β) (fun t _ _ k => k t) (fun _ ih t i x k =>
  Tree.casesOn (motive := fun _ => β) t
    (Nat.casesOn (motive := fun _ => β) i (k (.node x .leaf .leaf)) (fun j => Nat.casesOn (motive := fun _ => β) (j % 2) (ih .leaf (j / 2) x fun t => k (.node d t .leaf)) (fun _ => ih .leaf (j / 2) x fun t => k (.node d .leaf t))))
    (fun v l r => Nat.casesOn (motive := fun _ => β) i (k (.node x l r)) (fun j => Nat.casesOn (motive := fun _ => β) (j % 2) (ih l (j / 2) x fun t => k (.node v t r)) (fun _ => ih r (j / 2) x fun t => k (.node v l t))))) f
theorem treeK_eq {α : Type} (d : α) : ∀ (f : Nat) (t : Tree α) (i : Nat) (x : α) (k : Tree α → β), treeK d f t i x k = k (t.put d f i x)
  | 0, t, i, x, k => rfl
  | f + 1, t, i, x, k => by
    have ih : ∀ (t : Tree α) (i : Nat) (k : Tree α → β), treeK d f t i x k = k (t.put d f i x) := fun t i k => treeK_eq d f t i x k
    have e : treeK d (f + 1) t i x k = Tree.casesOn (motive := fun _ => β) t
      (Nat.casesOn (motive := fun _ => β) i (k (.node x .leaf .leaf)) (fun j => Nat.casesOn (motive := fun _ => β) (j % 2) (treeK d f .leaf (j / 2) x fun t => k (.node d t .leaf)) (fun _ => treeK d f .leaf (j / 2) x fun t => k (.node d .leaf t))))
      (fun v l r => Nat.casesOn (motive := fun _ => β) i (k (.node x l r)) (fun j => Nat.casesOn (motive := fun _ => β) (j % 2) (treeK d f l (j / 2) x fun t => k (.node v t r)) (fun _ => treeK d f r (j / 2) x fun t => k (.node v l t)))) := rfl
    rw [e]
    cases t with
    | leaf =>
      cases i with
      | zero => rfl
      | succ j =>
        simp only [Tree.put, ih]
        cases j % 2 <;> rfl
    | node v l r =>
      cases i with
      | zero => rfl
      | succ j =>
        simp only [Tree.put, ih]
        cases j % 2 <;> rfl

noncomputable def mapK {α : Type} (d : α) (m : TMap α) (i : Nat) (x : α) (k : TMap α → β) : β := TMap.casesOn (motive := fun _ => β) m fun n t => Bool.casesOn (motive := fun _ => β) (Nat.blt i n) (k ⟨n, t⟩) (treeK d (i + 1) t i x fun t => k ⟨n, t⟩)
theorem mapK_eq {α : Type} (d : α) (m : TMap α) (i : Nat) (x : α) (k : TMap α → β) : mapK d m i x k = k (m.set d i x) := by
  obtain ⟨n, t⟩ := m
  unfold mapK TMap.set
  simp only [treeK_eq]
  cases Nat.blt i n <;> rfl

noncomputable def pushK {α : Type} (d : α) (m : TMap α) (x : α) (k : TMap α → β) : β := TMap.casesOn (motive := fun _ => β) m fun n t => treeK d (n + 1) t n x fun t => forceN (n + 1) fun n => k ⟨n, t⟩
theorem pushK_eq {α : Type} (d : α) (m : TMap α) (x : α) (k : TMap α → β) : pushK d m x k = k (m.push d x) := by
  obtain ⟨n, t⟩ := m
  unfold pushK TMap.push
  simp only [treeK_eq, forceN_eq]

noncomputable def appK {α : Type} (d : α) (l : List α) : TMap α → (TMap α → β) → β := List.rec (motive := fun _ => TMap α → (TMap α → β) → β) (fun m k => k m) (fun x _ ih m k => pushK d m x fun m => ih m k) l
theorem appK_eq {α : Type} (d : α) : ∀ (l : List α) (m : TMap α) (k : TMap α → β), appK d l m k = k (m.app d l)
  | [], m, k => rfl
  | x :: l, m, k => by
    show pushK d m x (fun m => appK d l m k) = _
    rw [pushK_eq, appK_eq d l]
    rfl

noncomputable def initK (l : List AV) (n : Nat) (k : TMap AV → β) : β := appK .undef l TMap.nil fun m => TMap.casesOn (motive := fun _ => β) m fun n' t => forceN (n' + n) fun n => k ⟨n, t⟩
theorem initK_eq (l : List AV) (n : Nat) (k : TMap AV → β) : initK l n k = k (TMap.init .undef l n) := by
  unfold initK TMap.init
  rw [appK_eq]
  simp only [forceN_eq]

noncomputable def updK (d : Nat) (us : List (Nat × AB)) (h : Heap) (k : Heap → β) : β := List.rec (motive := fun _ => Heap → (Heap → β) → β) (fun h k => k h) (fun p _ ih h k => forceBl d p.2 fun b => mapK .dead h p.1 b fun h => ih h k) us h k
theorem updK_eq (d : Nat) (us : List (Nat × AB)) : ∀ (h : Heap) (k : Heap → β), updK d us h k = k (Heap.upd h us) := by
  induction us with
  | nil => intro h k; rfl
  | cons p us ih =>
    intro h k
    show forceBl d p.2 (fun b => mapK .dead h p.1 b fun h => updK d us h k) = _
    rw [forceBl_eq, mapK_eq, ih]
    rfl

noncomputable def putK (tmps : TMap AV) (dst : Option Tmp) (v : AV) (k : TMap AV → β) : β := Option.casesOn (motive := fun _ => β) dst (k tmps) (fun d => mapK .undef tmps d v k)
def putT (tmps : TMap AV) (dst : Option Tmp) (v : AV) : TMap AV := match dst with
  | some d => tmps.set .undef d v
  | none => tmps
theorem putK_eq (tmps : TMap AV) (dst : Option Tmp) (v : AV) (k : TMap AV → β) : putK tmps dst v k = k (putT tmps dst v) := by
  cases dst with
  | none => rfl
  | some d => exact mapK_eq _ _ _ _ _
theorem put_mk (tmps : TMap AV) (ds : List ADef) (p : Pan) (r : Option Nat) (h : Heap) (dst : Option Tmp) (v : AV) : (ASt.mk tmps ds p r h).put dst v = ⟨putT tmps dst v, ds, p, r, h⟩ := by cases dst <;> rfl

noncomputable def freshK (d : Nat) (h : Heap) (f : Option AB) (k : Heap → β) : β := Option.casesOn (motive := fun _ => β) f (k h) (fun b => forceBl d b fun b => pushK .dead h b k)
theorem freshK_eq (d : Nat) (h : Heap) (f : Option AB) (k : Heap → β) : freshK d h f k = k (h.app .dead f.toList) := by
  cases f with
  | none => rfl
  | some b => simp only [freshK, Option.toList_some]; rw [forceBl_eq, pushK_eq]; rfl

/-- How deep values are brought to normal form. -/
def dp : Nat := 2
/-- How deep those are that are handed over. -/
def dpc : Nat := 16

/-- The state behind an operation. -/
noncomputable def applyK (tmps : TMap AV) (ds : List ADef) (p : Pan) (rd : Option Nat) (h : Heap) (dst : Option Tmp) (r : SOut) (k : ASt → β) : β := match r with
  | ⟨v, _, us, f⟩ => forceA dp v fun v => updK dp us h fun h => freshK dp h f fun h => putK tmps dst v fun tmps => k ⟨tmps, ds, p, rd, h⟩
theorem applyK_eq (tmps : TMap AV) (ds : List ADef) (p : Pan) (rd : Option Nat) (h : Heap) (dst : Option Tmp) (r : SOut) (k : ASt → β) : applyK tmps ds p rd h dst r k = k ((ASt.mk tmps ds p rd h).apply dst r) := by
  obtain ⟨v, rs, us, f⟩ := r
  unfold applyK
  simp only
  rw [forceA_eq, updK_eq, freshK_eq, putK_eq]
  unfold ASt.apply
  rw [put_mk]

noncomputable def doneK (tmps : TMap AV) (ds : List ADef) (p : Pan) (rd : Option Nat) (h : Heap) (dst : Option Tmp) (v : AV) (us : List (Nat × AB)) (k : ASt → β) : β :=
  forceA dp v fun v => updK dp us h fun h => putK tmps dst v fun tmps => k ⟨tmps, ds, p, rd, h⟩
theorem doneK_eq (tmps : TMap AV) (ds : List ADef) (p : Pan) (rd : Option Nat) (h : Heap) (dst : Option Tmp) (v : AV) (us : List (Nat × AB)) (k : ASt → β) : doneK tmps ds p rd h dst v us k = k (({ (ASt.mk tmps ds p rd h) with h := Heap.upd h us } : ASt).put dst v) := by
  unfold doneK
  rw [forceA_eq, updK_eq, putK_eq, put_mk]

/-- A look into an array. -/
noncomputable def nthL {α : Type} (l : List α) : Nat → Option α := List.rec (motive := fun _ => Nat → Option α) (fun _ => none) (fun a _ ih i => Nat.casesOn (motive := fun _ => Option α) i (some a) ih) l
noncomputable def nthF {α : Type} (a : Array α) (i : Nat) : Option α := Array.casesOn (motive := fun _ => Option α) a fun l => nthL l i
theorem nthL_eq {α : Type} : ∀ (l : List α) (i : Nat), nthL l i = l[i]?
  | [], i => rfl
  | a :: l, i => by
    cases i with
    | zero => rfl
    | succ i =>
      show nthL l i = _
      rw [nthL_eq l i]
      rfl
theorem nthF_eq {α : Type} (a : Array α) (i : Nat) : nthF a i = a[i]? := by
  obtain ⟨l⟩ := a
  show nthL l i = _
  rw [nthL_eq]
  simp

/-- A look into a tree. -/
noncomputable def treeF {α : Type} (d : α) (t : Tree α) : Nat → α := Tree.rec (motive := fun _ => Nat → α) (fun _ => d) (fun v _ _ ihl ihr i => Nat.casesOn (motive := fun _ => α) i v (fun j => Nat.casesOn (motive := fun _ => α) (j % 2) (ihl (j / 2)) (fun _ => ihr (j / 2)))) t
theorem treeF_eq {α : Type} (d : α) : ∀ (t : Tree α) (i : Nat), treeF d t i = t.get d i
  | .leaf, i => by cases i <;> rfl
  | .node v l r, i => by
    cases i with
    | zero => rfl
    | succ j =>
      have e : treeF d (.node v l r) (j + 1) = Nat.casesOn (motive := fun _ => α) (j % 2) (treeF d l (j / 2)) (fun _ => treeF d r (j / 2)) := rfl
      rw [e, treeF_eq d l, treeF_eq d r]
      simp only [Tree.get]
      cases j % 2 <;> rfl
noncomputable def getF {α : Type} (d : α) (m : TMap α) (i : Nat) : α := TMap.casesOn (motive := fun _ => α) m fun n t => Bool.casesOn (motive := fun _ => α) (Nat.blt i n) d (treeF d t i)
theorem getF_eq {α : Type} (d : α) (m : TMap α) (i : Nat) : getF d m i = m.get d i := by
  obtain ⟨n, t⟩ := m
  unfold getF TMap.get
  simp only [treeF_eq]
  cases Nat.blt i n <;> rfl
noncomputable def atF (h : Heap) : Nat → AB := fun i => getF .dead h i
theorem atF_eq (h : Heap) : atF h = Heap.at h := by funext i; exact getF_eq _ _ _
noncomputable def evalF (tmps : TMap AV) : Operand → AV := fun x => Operand.casesOn (motive := fun _ => AV) x (fun t => getF .undef tmps t) (fun v => .c (CV.ofVal v)) (fun _ => .c .junk) (fun f => .c (.func (.func f) [] []))
theorem evalF_eq (tmps : TMap AV) (ds : List ADef) (p : Pan) (rd : Option Nat) (h : Heap) : evalF tmps = ASt.eval ⟨tmps, ds, p, rd, h⟩ := by
  funext x
  cases x with
  | tmp t => exact getF_eq _ _ _
  | const v => rfl
  | global k => rfl
  | func f => rfl

/-- Is the operation wanted? -/
noncomputable def wantedF (ops : Array Oper) (o : Oper) (tmps : TMap AV) : Option Bool := match o.guard with
  | none => some true
  | some (j, want) => match (nthF ops j).bind (·.dst) with
    | none => some false
    | some d => match getF .undef tmps d with
      | .c (.lit (.bool b)) => some (b == want)
      | .c (.lit (.tuple _)) => some false
      | _ => none
theorem wantedF_eq (ops : Array Oper) (o : Oper) (tmps : TMap AV) (ds : List ADef) (p : Pan) (rd : Option Nat) (h : Heap) : wantedF ops o tmps = wantedA ops o ⟨tmps, ds, p, rd, h⟩ := by
  unfold wantedF wantedA
  simp only [getF_eq, nthF_eq]
  rfl

/-- 'pureCall', brought to normal form. -/
noncomputable def pureCallF (C : Cfg) (rec : Task → Option Res) (f : FuncId) (args : List AV) (rd : Nat → AB) : Option (AEnd × List Nat × List (Nat × AB)) :=
  match snaps rd snapFuel args with
  | none => none
  | some (args', ids) => forceAll (forceC dpc) args' fun args' => match pureRes C rec f args' with
    | none => none
    | some (e, h') => match snap (atF h') snapFuel e.val with
      | none => none
      | some (r, _) => forceC dpc r fun r => some (e.setVal (.c r), ids, killed r ids)
theorem pureCallF_eq (C : Cfg) (rec : Task → Option Res) (f : FuncId) (args : List AV) (rd : Nat → AB) : pureCallF C rec f args rd = pureCall C rec f args rd := by
  unfold pureCallF pureCall
  cases hs : snaps rd snapFuel args with
  | none => rfl
  | some x =>
    simp only [forceAll_eq _ (fun a _ k => forceC_eq dpc a k), forceC_eq, atF_eq]
    rfl

section
variable (C : Cfg) (rec : Task → Option Res) (ops : Array Oper)

/-- 'drawnOp', brought to normal form. -/
noncomputable def drawnOpF (i : Nat) (s : ASt) : Option (ASt × DRec) := match s with
  | ⟨tmps, ds, p, rd, h⟩ => match nthF ops i with
    | none => none
    | some o => match wantedF ops o tmps with
      | none => none
      | some false => putK tmps o.dst .undef fun t => some (⟨t, ds, p, rd, h⟩, ⟨i, o.dst, o.looksAt ops, .undef, [], [], none, h.n, none⟩)
      | some true => match aop C.P o (evalF tmps) (atF h) h.n with
        | some (.simple r) => if r.upds.all (fun p => decide (p.1 < h.n)) then applyK tmps ds p rd h o.dst r fun s => some (s, ⟨i, o.dst, o.looksAt ops, r.val, r.reads, r.upds, r.fresh, h.n, none⟩) else none
        | some (.call f args) => if C.pure f then match pureCallF C rec f args (atF h) with
            | some (.ret v, ids, us) => doneK tmps ds p rd h o.dst v us fun s => some (s, ⟨i, o.dst, o.looksAt ops, v, ids, us, none, h.n, none⟩)
            | _ => none
          else none
        | _ => none

noncomputable def drawnOpsF : List Nat → ASt → ASt × List DRec × List Nat
  | [], s => (s, [], [])
  | i :: rest, s => match drawnOpF C rec ops i s with
    | some (s1, r) => match drawnOpsF rest s1 with
      | (s2, l, t) => (s2, r :: l, t)
    | none => (s, [], i :: rest)

noncomputable def drawnFallF (s s1 : ASt) (l : List DRec) : List Nat → Option Res
  | [] => none
  | i :: rest => match drawnPanic C rec ops i s1 with
    | none => none
    | some (r, v, us) => match drawnOpsF C rec ops (rest.filter fun k => !((masks ops).getD k 0).testBit i) s1 with
      | (s2, l2, []) => if pairsOk (masks ops) (l ++ r :: l2) then
          some (.code (.panic v) { s with tmps := junked s.tmps (DRec.dsts (l ++ r :: l2)), h := Heap.upd s2.h ((us.map (·.1) ++ DRec.allWrites (l ++ r :: l2)).map fun id => (id, .dead)) })
        else none
      | _ => none

noncomputable def drawnF (s : ASt) : Option Res :=
  if backGo ops.toList 0 then forceAll forceN (masks ops) fun ms => match drawnOpsF C rec ops (List.range ops.size) s with
    | (s', l, t) => if pairsOk ms l && chainOk ms t && t.all (fun k => l.all (fun r => (ms.getD k 0).testBit r.idx)) then rec (.ops ops t s') else drawnFallF C rec ops s s' l t
  else none

theorem drawnOpF_eq (i : Nat) (s : ASt) : drawnOpF C rec ops i s = drawnOp C rec ops i s := by
  obtain ⟨tmps, ds, p, rd, h⟩ := s
  unfold drawnOpF drawnOp
  simp only [nthF_eq, putK_eq, applyK_eq, doneK_eq, pureCallF_eq, put_mk, wantedF_eq _ _ _ ds p rd h, evalF_eq tmps ds p rd h, atF_eq]
  rfl

theorem drawnOpsF_eq : ∀ (l : List Nat) (s : ASt), drawnOpsF C rec ops l s = drawnOps C rec ops l s
  | [], _ => rfl
  | i :: rest, s => by
    unfold drawnOpsF drawnOps
    rw [drawnOpF_eq]
    cases hd : drawnOp C rec ops i s with
    | none => rfl
    | some x => simp only [drawnOpsF_eq rest]

theorem drawnFallF_eq (s s1 : ASt) (l : List DRec) (t : List Nat) : drawnFallF C rec ops s s1 l t = drawnFall C rec ops s s1 l t := by
  cases t with
  | nil => rfl
  | cons i rest =>
    unfold drawnFallF drawnFall
    simp only [drawnOpsF_eq]
    rfl

theorem drawnF_eq (s : ASt) : drawnF C rec ops s = drawn C rec ops s := by
  unfold drawnF drawn
  simp only [drawnOpsF_eq, drawnFallF_eq, forceAll_eq _ (fun a _ k => forceN_eq a k)]

noncomputable def recoverF (rest : List Nat) (o : Oper) (tmps : TMap AV) (ds : List ADef) (p : Pan) (rd : Option Nat) (h : Heap) : Option Res := if rd.isSome then none else match p with
  | .live v => putK tmps o.dst v fun tmps => rec (.ops ops rest ⟨tmps, ds, .taken, rd, h⟩)
  | p => putK tmps o.dst (.lit .nilIface) fun tmps => rec (.ops ops rest ⟨tmps, ds, p, rd, h⟩)
noncomputable def deferF (rest : List Nat) (o : Oper) (tmps : TMap AV) (ds : List ADef) (p : Pan) (rd : Option Nat) (h : Heap) (f : FuncId) (args : List AV) : Option Res := if rd.isSome then none else putK tmps o.dst .undef fun tmps => rec (.ops ops rest ⟨tmps, .call f args :: ds, p, rd, h⟩)
noncomputable def inlineF (rest : List Nat) (o : Oper) (tmps : TMap AV) (ds : List ADef) (p : Pan) (rd : Option Nat) : Option Res → Option Res
  | some (.call (.ret v) h _) => forceA dp v fun v => putK tmps o.dst v fun tmps => rec (.ops ops rest ⟨tmps, ds, p, rd, h⟩)
  | some (.call (.panic v) h _) => some (.code (.panic v) ⟨tmps, ds, p, rd, h⟩)
  | _ => none
noncomputable def calledF (rest : List Nat) (o : Oper) (tmps : TMap AV) (ds : List ADef) (p : Pan) (rd : Option Nat) (h : Heap) : Option (AEnd × List Nat × List (Nat × AB)) → Option Res
  | some (.ret v, _, us) => doneK tmps ds p rd h o.dst v us fun s => rec (.ops ops rest s)
  | some (.panic v, _, us) => some (.code (.panic v) ⟨tmps, ds, p, rd, Heap.upd h us⟩)
  | none => none
noncomputable def callsF (rest : List Nat) (o : Oper) (tmps : TMap AV) (ds : List ADef) (p : Pan) (rd : Option Nat) (h : Heap) (f : FuncId) (args : List AV) : Option Res :=
  if C.pure f then calledF rec ops rest o tmps ds p rd h (pureCallF C rec f args (atF h)) else inlineF rec ops rest o tmps ds p rd (rec (.call f args h .no))
noncomputable def paramsK (l : List (Tmp × AV)) : TMap AV → (TMap AV → Option Res) → Option Res := List.rec (motive := fun _ => TMap AV → (TMap AV → Option Res) → Option Res) (fun m k => k m) (fun x _ ih m k => mapK .undef m x.1 x.2 fun m => ih m k) l
theorem paramsK_eq (l : List (Tmp × AV)) : ∀ (m : TMap AV) (k : TMap AV → Option Res), paramsK l m k = k (l.foldl (fun l (x : Tmp × AV) => l.set .undef x.1 x.2) m) := by
  induction l with
  | nil => intro m k; rfl
  | cons x l ih =>
    intro m k
    show mapK .undef m x.1 x.2 (fun m => paramsK l m k) = _
    rw [mapK_eq, ih]
    rfl
noncomputable def roundedF (id : Nat) (rest : List Nat) (o : Oper) (tmps : TMap AV) (ds : List ADef) (p : Pan) (rd : Option Nat) : Option Res → Option Res
  | some (.code e s2) => match s2.defers with
    | [] => match e with
      | .panic v => some (.code (.panic v) ⟨tmps, ds, p, rd, s2.h⟩)
      | e => match atF s2.h id with
        | .loop fn2 tm2 p2 a2 b2 _ _ c2 => mapK .dead s2.h id (.loop fn2 tm2 p2 a2 b2 (if (jumpOf e).isNone then .ready else .done) (jumpOf e) c2) fun h => putK tmps o.dst (.bool (jumpOf e).isNone) fun tmps => rec (.ops ops rest ⟨tmps, ds, p, rd, h⟩)
        | _ => none
    | _ => none
  | _ => none
noncomputable def assignedF (id : Nat) (body : Code) (rest : List Nat) (o : Oper) (tmps : TMap AV) (ds : List ADef) (p : Pan) (rd : Option Nat) : Option Res → Option Res
  | some (.code .normal s1) => match atF s1.h id with
    | .loop fn1 tm1 p1 a1 b1 .ready pe1 c1 => roundedF rec ops id rest o tmps ds p rd (mapK .dead s1.h id (.loop fn1 tm1 p1 a1 b1 .busy pe1 c1) fun h1 => rec (.code body { s1 with h := h1 }))
    | _ => none
  | _ => none
noncomputable def yieldF (rest : List Nat) (o : Oper) (tmps : TMap AV) (ds : List ADef) (p : Pan) (rd : Option Nat) (h : Heap) (id : Nat) (args : List AV) : Option Res := match atF h id with
  | .loop _ ltmps params assign body .ready _ _ =>
    if args.length = params.length then
      assignedF rec ops id body rest o tmps ds p rd (paramsK (params.zip args) ltmps fun l => rec (.code assign { tmps := l, defers := [], pan := .no, round := some id, h := h }))
    else none
  | _ => none
noncomputable def outF (rest : List Nat) (o : Oper) (tmps : TMap AV) (ds : List ADef) (p : Pan) (rd : Option Nat) (h : Heap) (out : Out) : Option Res := match out with
  | .simple r => applyK tmps ds p rd h o.dst r fun s => rec (.ops ops rest s)
  | .panic v => some (.code (.panic v) ⟨tmps, ds, p, rd, h⟩)
  | .recover => recoverF rec ops rest o tmps ds p rd h
  | .defer f args => deferF rec ops rest o tmps ds p rd h f args
  | .call f args => callsF C rec ops rest o tmps ds p rd h f args
  | .yield id args => yieldF rec ops rest o tmps ds p rd h id args
noncomputable def operF (rest : List Nat) (o : Oper) (tmps : TMap AV) (ds : List ADef) (p : Pan) (rd : Option Nat) (h : Heap) : Option Res := match aop C.P o (evalF tmps) (atF h) h.n with
  | none => none
  | some out => outF C rec ops rest o tmps ds p rd h out
noncomputable def opF (rest : List Nat) (tmps : TMap AV) (ds : List ADef) (p : Pan) (rd : Option Nat) (h : Heap) (o : Oper) : Option Res := match wantedF ops o tmps with
  | none => none
  | some false => putK tmps o.dst .undef fun tmps => rec (.ops ops rest ⟨tmps, ds, p, rd, h⟩)
  | some true => operF C rec ops rest o tmps ds p rd h
noncomputable def opsF (l : List Nat) (s : ASt) : Option Res := match l with
  | [] => some (.code .normal s)
  | i :: rest => match s with
    | ⟨tmps, ds, p, rd, h⟩ => match nthF ops i with
      | none => none
      | some o => opF C rec ops rest tmps ds p rd h o

theorem opsF_eq (l : List Nat) (s : ASt) : opsF C rec ops l s = step C rec (.ops ops l s) := by
  cases l with
  | nil => rfl
  | cons i rest =>
    obtain ⟨tmps, ds, p, rd, h⟩ := s
    have eq1 : ∀ o, evalF tmps = ASt.eval ⟨tmps, ds, p, rd, h⟩ ∧ wantedF ops o tmps = wantedA ops o ⟨tmps, ds, p, rd, h⟩ := fun o => ⟨evalF_eq .., wantedF_eq ..⟩
    simp only [opsF, step, opF, operF, nthF_eq]
    cases ops[i]? with
    | none => rfl
    | some o =>
      simp only [wantedF_eq _ _ _ ds p rd h, evalF_eq tmps ds p rd h, atF_eq]
      cases wantedA ops o ⟨tmps, ds, p, rd, h⟩ with
      | none => rfl
      | some b =>
        cases b with
        | false => simp only [putK_eq, put_mk]
        | true =>
          simp only
          cases ha : aop C.P o (ASt.eval ⟨tmps, ds, p, rd, h⟩) (Heap.at h) h.n with
          | none => rfl
          | some out =>
            cases out with
            | simple r => simp only [outF, applyK_eq]
            | panic v => rfl
            | recover =>
              simp only [outF, recoverF, putK_eq, put_mk]
              cases p <;> rfl
            | defer f args => simp only [outF, deferF, putK_eq, put_mk]
            | call f args =>
              simp only [outF, callsF, pureCallF_eq, atF_eq]
              cases C.pure f with
              | true =>
                simp only [if_true]
                cases pureCall C rec f args (Heap.at h) with
                | none => rfl
                | some x =>
                  obtain ⟨e, ids, us⟩ := x
                  cases e <;> simp only [calledF, doneK_eq]
              | false =>
                simp only [Bool.false_eq_true, if_false]
                cases rec (.call f args h .no) with
                | none => rfl
                | some x =>
                  cases x with
                  | call e h2 pan => cases e <;> simp only [inlineF, forceA_eq, putK_eq, put_mk]
                  | code e s2 => rfl
                  | defers m h2 => rfl
            | yield id args =>
              simp only [outF, yieldF, atF_eq]
              cases hb : Heap.at h id with
              | loop fn ltmps params assign body st pending coll =>
                cases st with
                | ready =>
                  simp only [paramsK_eq]
                  split
                  · cases rec (.code assign { tmps := (params.zip args).foldl (fun l (x : Tmp × AV) => l.set .undef x.1 x.2) ltmps, defers := [], pan := .no, round := some id, h := h }) with
                    | none => rfl
                    | some x =>
                      cases x with
                      | call _ _ _ => rfl
                      | defers _ _ => rfl
                      | code e1 s1 =>
                        cases e1 with
                        | normal =>
                          simp only [assignedF, atF_eq]
                          cases hb1 : Heap.at s1.h id with
                          | loop fn1 tm1 p1 a1 b1 st1 pe1 c1 =>
                            cases st1 with
                            | ready =>
                              simp only [mapK_eq]
                              cases rec (.code body { s1 with h := s1.h.set .dead id (.loop fn1 tm1 p1 a1 b1 .busy pe1 c1) }) with
                              | none => rfl
                              | some x2 =>
                                cases x2 with
                                | call _ _ _ => rfl
                                | defers _ _ => rfl
                                | code e2 s2 =>
                                  simp only [roundedF, atF_eq]
                                  cases s2.defers with
                                  | cons _ _ => rfl
                                  | nil =>
                                    cases e2 with
                                    | panic v => rfl
                                    | normal =>
                                      simp only [mapK_eq, putK_eq, put_mk]
                                      rfl
                                    | exit j =>
                                      simp only [mapK_eq, putK_eq, put_mk]
                                      rfl
                                    | ret =>
                                      simp only [mapK_eq, putK_eq, put_mk]
                                      rfl
                            | busy => rfl
                            | done => rfl
                            | exhausted => rfl
                          | dead => rfl
                          | blk _ => rfl
                          | map _ _ _ _ => rfl
                          | coll _ => rfl
                        | exit _ => rfl
                        | ret => rfl
                        | panic _ => rfl
                  · rfl
                | busy => rfl
                | done => rfl
                | exhausted => rfl
              | dead => rfl
              | blk _ => rfl
              | map _ _ _ _ => rfl
              | coll _ => rfl

noncomputable def seqF (b : Code) : Option Res → Option Res
  | some (.code .normal s1) => rec (.code b s1)
  | r => r
noncomputable def blockF (id : Nat) : Option Res → Option Res
  | some (.code (.exit i) s1) => some (.code (if i = id then .normal else .exit i) s1)
  | r => r
noncomputable def rangedF (s : ASt) (params : Array Tmp) (assign body : Code) : Option Res → Option Res
  | some (.call (.ret _) h2 _) => match atF h2 (s.h.n + 1) with
    | .loop fn tmps ps a b st pending coll =>
      if st = .busy then none else
      match pending with
      | none => mapK .dead h2 (s.h.n + 1) (.loop fn tmps ps a b .exhausted none coll) fun h => some (.code .normal { rangeStart s params assign body with h := h })
      | some c => mapK .dead h2 (s.h.n + 1) (.loop fn tmps ps a b .exhausted (some c) coll) fun h => rec (.code c { rangeStart s params assign body with h := h })
    | _ => none
  | some (.call (.panic v) h2 _) => some (.code (.panic v) { rangeStart s params assign body with h := h2 })
  | _ => none
noncomputable def rangeF (f : Operand) (params : Array Tmp) (assign body : Code) (s : ASt) : Option Res :=
  if s.round.isSome then none else
  match targetOf C.P (evalF s.tmps f) [.yield (s.h.n + 1)] with
  | none => none
  | some (g, args) => rangedF rec s params assign body (appK .dead [.coll true, .loop 0 s.tmps params.toList assign body .ready none s.h.n] s.h fun h => rec (.call g args h .no))
noncomputable def codeF (c : Code) (s : ASt) : Option Res := match c with
  | .skip | .label _ => some (.code .normal s)
  | .region _ ops draw => if draw then drawnF C rec ops s else rec (.ops ops (List.range ops.size) s)
  | .seq a b => seqF rec b (rec (.code a s))
  | .cond c a b => (asBool (evalF s.tmps c)).bind fun t => rec (.code (if t then a else b) s)
  | .block id c => blockF id (rec (.code c s))
  | .loop c => seqF rec (.loop c) (rec (.code c s))
  | .scope c => rec (.code c s)
  | .rangeFunc f params assign body => rangeF C rec f params assign body s
  | .exit id => some (.code (.exit id) s)
  | .ret => some (.code .ret s)
  | _ => none
theorem codeF_eq (c : Code) (s : ASt) : codeF C rec c s = step C rec (.code c s) := by
  have ev : evalF s.tmps = s.eval := evalF_eq s.tmps s.defers s.pan s.round s.h
  cases c with
  | region id ops draw => simp only [codeF, step, drawnF_eq]
  | cond c a b => simp only [codeF, step, ev]
  | rangeFunc f params assign body =>
    simp only [codeF, step, rangeF, ev]
    split
    · rfl
    · cases targetOf C.P (s.eval f) [.yield (s.h.n + 1)] with
      | none => rfl
      | some x =>
        obtain ⟨g, args⟩ := x
        simp only [appK_eq]
        show rangedF rec s params assign body (rec (.call g args (rangeStart s params assign body).h .no)) = _
        cases rec (.call g args (rangeStart s params assign body).h .no) with
        | none => rfl
        | some x =>
          cases x with
          | code _ _ => rfl
          | defers _ _ => rfl
          | call e h2 pan =>
            cases e with
            | panic v => rfl
            | ret v =>
              simp only [rangedF, atF_eq]
              cases Heap.at h2 (s.h.n + 1) with
              | loop fn tmps ps a b st pending coll =>
                simp only
                split
                · rfl
                · cases pending <;> simp only [mapK_eq]
              | dead => rfl
              | blk _ => rfl
              | map _ _ _ _ => rfl
              | coll _ => rfl
  | seq a b =>
    simp only [codeF, step]
    cases rec (.code a s) with
    | none => rfl
    | some x => cases x with
      | code e s1 => cases e <;> rfl
      | call _ _ _ => rfl
      | defers _ _ => rfl
  | loop a =>
    simp only [codeF, step]
    cases rec (.code a s) with
    | none => rfl
    | some x => cases x with
      | code e s1 => cases e <;> rfl
      | call _ _ _ => rfl
      | defers _ _ => rfl
  | block id a =>
    simp only [codeF, step]
    cases rec (.code a s) with
    | none => rfl
    | some x => cases x with
      | code e s1 => cases e <;> rfl
      | call _ _ _ => rfl
      | defers _ _ => rfl
  | _ => rfl

noncomputable def readResF (P : Program) (tmps : TMap AV) (h : Heap) : List ResultVar → Option (List AV)
  | [] => some []
  | .tmp t :: r => (readResF P tmps h r).map (getF .undef tmps t :: ·)
  | .cell a t :: r => match aload P (atF h) t (getF .undef tmps a) with
    | some o => (readResF P tmps h r).map (o.val :: ·)
    | none => none
theorem readResF_eq (P : Program) (tmps : TMap AV) (h : Heap) : ∀ l, readResF P tmps h l = readRes P tmps h l
  | [] => rfl
  | .tmp t :: r => by simp only [readResF, readRes, readResF_eq P tmps h r, getF_eq]
  | .cell a t :: r => by
    simp only [readResF, readRes, readResF_eq P tmps h r, getF_eq, atF_eq]
    rfl
noncomputable def readResultsF (P : Program) (fn : Func) (tmps : TMap AV) (h : Heap) : Option AV :=
  match readResF P tmps h fn.results.toList with
  | some [v] => some v
  | some vs => some (mkTuple vs)
  | none => none
noncomputable def leftF (fn : Func) (s1 : ASt) : Option Res → Option Res
  | some (.defers none h2) => match readResultsF C.P fn s1.tmps h2 with
    | some v => forceA dp v fun v => some (.call (.ret v) h2 s1.pan)
    | none => none
  | some (.defers (some v) h2) => some (.call (.panic v) h2 s1.pan)
  | _ => none
noncomputable def bodiedF (fn : Func) : Option Res → Option Res
  | some (.code e s1) => match modeOf e with
    | none => none
    | some mode => leftF C fn s1 (rec (.defers s1.defers mode s1.h))
  | _ => none
noncomputable def callF (f : FuncId) (args : List AV) (h : Heap) (pan : Pan) : Option Res := match nthF C.P.funcs f with
  | none => none
  | some fn => match fn.body with
    | none => none
    | some body => bodiedF C rec fn (initK args (fn.ntmps - args.length) fun l => rec (.code body { tmps := l, defers := [], pan, round := none, h }))
theorem callF_eq (f : FuncId) (args : List AV) (h : Heap) (pan : Pan) : callF C rec f args h pan = step C rec (.call f args h pan) := by
  simp only [callF, step, initK_eq, nthF_eq]
  cases C.P.funcs[f]? with
  | none => rfl
  | some fn =>
    simp only
    cases fn.body with
    | none => rfl
    | some body =>
      simp only
      cases rec (.code body { tmps := TMap.init .undef args (fn.ntmps - args.length), defers := [], pan, round := none, h }) with
      | none => rfl
      | some x => cases x with
        | call _ _ _ => rfl
        | defers _ _ => rfl
        | code e s1 =>
          simp only [bodiedF]
          cases modeOf e with
          | none => rfl
          | some mode =>
            simp only
            cases rec (.defers s1.defers mode s1.h) with
            | none => rfl
            | some x => cases x with
              | call _ _ _ => rfl
              | code _ _ => rfl
              | defers m h2 =>
                cases m with
                | none =>
                  simp only [leftF, readResultsF, readResults, readResF_eq, forceA_eq]
                  rfl
                | some v => rfl

noncomputable def defersF (ds : List ADef) (mode : Option AV) (h : Heap) : Option Res := step C rec (.defers ds mode h)

noncomputable def stepF (t : Task) : Option Res := Task.casesOn (motive := fun _ => Option Res) t (fun c s => codeF C rec c s) (fun ops l s => opsF C rec ops l s) (fun f args h pan => callF C rec f args h pan) (fun ds mode h => defersF C rec ds mode h)
theorem stepF_eq (t : Task) : stepF C rec t = step C rec t := by
  cases t with
  | code c s => exact codeF_eq C rec c s
  | ops ops l s => exact opsF_eq C rec ops l s
  | call f args h pan => exact callF_eq C rec f args h pan
  | defers ds mode h => rfl
end

noncomputable def runF (C : Cfg) (n : Nat) : Task → Option Res := Nat.rec (motive := fun _ => Task → Option Res) (fun _ => none) (fun _ ih t => stepF C ih t) n
theorem runF_eq (C : Cfg) (n : Nat) : runF C n = run C n := by
  induction n with
  | zero => rfl
  | succ n ih =>
    show (fun t => stepF C (runF C n) t) = step C (run C n)
    rw [ih]
    funext t
    exact stepF_eq C (run C n) t
end Go.Ag
/- From the evaluator to a row: a call on closed values, in whatever memory. -/
namespace Go.Ag
open Go.RowKit
section
variable {P : Program}

/-- All of a memory, as blocks that nobody writes. -/
def allOf (w : World) : Nat → Option Obj := fun b => w.heap[b]?

theorem calls_of_ok {f : FuncId} {args : List CV} {v : Value} {h' : Heap} {pan' : Pan} (hok : CallOk P f (args.map .c) TMap.nil .no (.ret (.c (.lit v))) h' pan') (w : World) (vs : Array Value) (hl : args.length = vs.size) (hp : RepP (allOf w) args vs.toList) :
    Calls P f vs w fun e w' => e = .returned v ∧ Below w.heap.size w w' := by
  intro cs
  let g : G := { Φ := allOf w, A := fun _ => False, j := fun _ => default }
  have hi : Inv g (Heap.at TMap.nil) w := ⟨fun b o hb => hb, fun _ ha => ha.elim, fun _ ha => ha.elim, fun _ _ ha => ha.elim⟩
  obtain ⟨g1, fr', cs', w', hsteps, hi1, hA1, hcs1, hev, hfn, hkind, hround, hdef, hm, fn, u, hf, hres, hrep⟩ := hok g .normal cs cs w vs hi (fun i => by simp [g, TMap.nil]) (by simp [hl]) (Pw.map_left.2 (repP_iff.1 hp)) ⟨rfl, .inl rfl⟩
  have hcs : cs' = cs := normal_cs hcs1
  subst hcs
  have noOwn : ∀ b, ¬ Own g (Heap.at TMap.nil) b := fun b ⟨id, ha, _⟩ => ha
  have hu : u = v := hrep
  subst hu
  refine ⟨.returned u, w', fr', ⟨rfl, ⟨hev.os, hev.tape, hev.output, hev.size, fun k hk => hev.keep k hk (noOwn k)⟩⟩, hsteps, hfn, hm, hdef, hkind, fn, by rw [hfn]; exact hf, hres⟩

theorem calls_of_run {C : Cfg} (hmix : C.P.follows .mixedOrders = true) (hcon : ConOk C) {n : Nat} {f : FuncId} {args : List CV} {v : Value} {h' : Heap} {pan' : Pan} (hr : run C n (.call f (args.map .c) TMap.nil .no) = some (.call (.ret (.c (.lit v))) h' pan')) (w : World) (vs : Array Value)
    (hl : args.length = vs.size) (hp : RepP (allOf w) args vs.toList) : Calls C.P f vs w fun e w' => e = .returned v ∧ Below w.heap.size w w' :=
  calls_of_ok (run_ok hmix hcon n _ _ hr) w vs hl hp

/-- A call on closed values, its result brought to a closed one: what a contract is. -/
theorem callOk_close {f : FuncId} {args : List CV} {e : AEnd} {h' : Heap} {pan' : Pan} {fuel : Nat} {r : CV × List Nat} (hok : CallOk P f (args.map .c) TMap.nil .no e h' pan') (hsn : snap (Heap.at h') fuel e.val = some r) : CallOk P f (args.map .c) TMap.nil .no (e.setVal (.c r.1)) TMap.nil .no := by
  intro g kind cs base w vs hi hA hl hp hcs
  obtain ⟨g1, fr', cs', w', hsteps, hi1, hA1, hcs1, hev, hfn, hkind, hround, hdef, hend⟩ := hok g kind cs base w vs hi hA hl hp hcs
  have noA : ∀ i, ¬ g.A i := fun i ha => absurd ((hA i).1 ha) (Nat.not_lt_zero _)
  have noOwn : ∀ b, ¬ Own g (Heap.at TMap.nil) b := fun b ⟨id, ha, _⟩ => noA id ha
  have own1 : ∀ b, Own g1 (Heap.at h') b → w.heap.size ≤ b := fun b ho => (hev.own b ho).resolve_left (noOwn b)
  let g' : G := { Φ := Φof g1 (Heap.at h') w' r.2, A := fun _ => False, j := g1.j }
  have hi' : Inv g' (Heap.at TMap.nil) w' := ⟨fun b o hb => Φof_frozen hi1 hb, fun _ ha => ha.elim, fun _ ha => ha.elim, fun _ _ ha => ha.elim⟩
  have gle : g.le g' := ⟨fun b o hb => Φof_old hi1 (hev.le.Φ b o hb), fun i ha => (noA i ha).elim, fun i ha => (noA i ha).elim⟩
  have hev' : Evolves g (Heap.at TMap.nil) w g' (Heap.at TMap.nil) w' := by
    refine ⟨gle, hev.os, hev.tape, hev.output, hev.size, hev.keep, ?_, fun b ⟨id, ha, _⟩ => ha.elim⟩
    intro b o hb
    by_cases hlt : b < w.heap.size
    · have hb' : Φof g1 (Heap.at h') w' r.2 b = some o := hb
      unfold Φof at hb'
      split at hb'
      · rename_i hc
        obtain ⟨id, _, ha, hl, he⟩ := hc
        exact absurd (own1 b ⟨id, ha, hl, he⟩) (by omega)
      · exact hev.fro b o hb'
    · exact .inr (.inr (by omega))
  have hcs' : CsRel g' .no kind cs' base := by
    cases pan' with
    | no => exact hcs1
    | live v =>
      obtain ⟨h1, _, c, rr, u, h3, h4, _⟩ := hcs1
      obtain ⟨_, h5⟩ := hcs
      rcases h5 with h5 | ⟨_, c', r', h6, h7⟩
      · rw [h1] at h5; cases h5
      · rw [h3] at h6
        simp only [List.cons.injEq] at h6
        rw [← h6.1, h4] at h7; cases h7
    | taken =>
      obtain ⟨h1, c, rr, u, h3, h4, _⟩ := hcs1
      obtain ⟨_, h5⟩ := hcs
      rcases h5 with h5 | ⟨_, c', r', h6, h7⟩
      · rw [h1] at h5; cases h5
      · rw [h3] at h6
        simp only [List.cons.injEq] at h6
        rw [← h6.1, h4] at h7; cases h7
  refine ⟨g', fr', cs', w', hsteps, hi', fun i => by simp [g', TMap.nil], hcs', hev', hfn, hkind, hround, hdef, ?_⟩
  have hval : ∀ u, Rep g1 e.val u → RepC (Φof g1 (Heap.at h') w' r.2) r.1 u := fun u hu => snap_sound hi1 fuel e.val u r hu hsn
  cases e with
  | ret v =>
    obtain ⟨m, fn, u, h1, h2, h3⟩ := hend
    exact ⟨m, fn, u, h1, h2, hval u h3⟩
  | panic v =>
    obtain ⟨hf, u, h1, h2⟩ := hend
    exact ⟨hf, u, hval u h1, h2⟩

theorem callOk_run {C : Cfg} (hmix : C.P.follows .mixedOrders = true) (hcon : ConOk C) {n : Nat} {f : FuncId} {args : List CV} {e : AEnd} {h' : Heap} {pan' : Pan} (hr : run C n (.call f (args.map .c) TMap.nil .no) = some (.call e h' pan')) {fuel : Nat} {r : CV × List Nat}
    (hsn : snap (Heap.at h') fuel e.val = some r) : CallOk C.P f (args.map .c) TMap.nil .no (e.setVal (.c r.1)) TMap.nil .no := callOk_close (run_ok hmix hcon n _ _ hr) hsn

/-- Calls without arguments that return true. -/
def conTrue (ks : List FuncId) : FuncId → List CV → Option AEnd := fun f args => if ks.contains f && args.isEmpty then some (.ret (.c (.lit (.bool true)))) else none

theorem conTrue_ok {C : Cfg} {ks : List FuncId} (hc : C.con = conTrue ks) (h : ∀ k ∈ ks, CallOk C.P k [] TMap.nil .no (.ret (.c (.lit (.bool true)))) TMap.nil .no) : ConOk C := by
  intro f args e he
  rw [hc] at he
  unfold conTrue at he
  split at he
  · rename_i hh
    simp only [Bool.and_eq_true, List.contains_iff_mem, List.isEmpty_iff] at hh
    obtain ⟨h1, rfl⟩ := hh
    simp only [Option.some.injEq] at he
    subst he
    exact h f h1
  · cases he

/-- Is the call's result that value? -/
def gives (r : Option Res) (b : Bool) : Bool := match r with
  | some (.call (.ret (.c (.lit (.bool b')))) _ _) => b == b'
  | _ => false

theorem gives_call {C : Cfg} (hmix : C.P.follows .mixedOrders = true) (hcon : ConOk C) {n : Nat} {f : FuncId} {b : Bool} (h : gives (run C n (.call f [] TMap.nil .no)) b = true) : CallOk C.P f [] TMap.nil .no (.ret (.c (.lit (.bool b)))) TMap.nil .no := by
  unfold gives at h
  split at h
  · rename_i b' h' pan' hr
    have : b = b' := by simpa using h
    subst this
    exact callOk_run (args := []) hmix hcon hr (fuel := 1) (r := (.lit (.bool b), [])) rfl
  · cases h

theorem gives_spec {r : Option Res} {b : Bool} (h : gives r b = true) : ∃ h' pan', r = some (.call (.ret (.c (.lit (.bool b)))) h' pan') := by
  unfold gives at h
  split at h
  · rename_i b' h' pan'
    have : b = b' := by simpa using h
    subst this
    exact ⟨h', pan', rfl⟩
  · cases h
end

section
open Go.WideShapes Go.ChangeShapes
variable {H : Type} {enc : TypeId × Value → H} {P : Program}

/-- What a row asks behind a call that has turned nothing below. -/
theorem post_kept {f : Func} {s : ChangeSpec} {apart fresh handsOn again : Bool} {W W' : World} {args : Array Value} {v : Value} {ds gs : List (DataW H)} {before pa pv : List MemPlace} (hW : DataW.Whole enc P f.params.toList s.vars apart W args.toList ds gs before)
    (hb : Below W.heap.size W W') (hps : before = pa ++ pv)
    (hargs : ∀ sp : Nat → Bool, (∀ p ∈ before, sp p.block = true) → DataW.TrodAll enc P W' 0 sp true f.params.toList args.toList (s.fn H (ds ++ gs)).args pa)
    (hvars : ∀ sp : Nat → Bool, (∀ p ∈ before, sp p.block = true) → DataW.TrodVars enc P W' sp s.vars (s.fn H (ds ++ gs)).vars pv)
    (hres : ∀ (b : Nat) (sp : Nat → Bool) (hd : Bool), DataW.TrodAll enc P W' b sp hd f.resultTypes.toList (v.resultList f.resultTypes.size) (s.fn H (ds ++ gs)).results [])
    (hok : ∀ (j : Nat) (t : TypeId) (r : Value), f.resultTypes[j]? = some t → (v.resultList f.resultTypes.size)[j]? = some r → Value.okWide P W' .any 0 t r) : s.post enc P f apart fresh handsOn again W args v W' := by
  have hlt : ∀ p ∈ before, p.block < W.heap.size := hW.lt
  obtain ⟨_, _, _, _, _, hz, hn⟩ := id hW
  have hsp : ∀ p ∈ before, decide (p.block < W.heap.size) = true := fun p hp => decide_eq_true (hlt p hp)
  refine ⟨ds, gs, before, [], pa, pv, hW, hres _ _ _, hargs _ hsp, hvars _ hsp, World.keptBut_mono (fun p hp => ⟨hp, .inr ?_⟩) (hb.frame (· ∈ before)), fun _ => ⟨hok, _, _, ([] ++ pa) ++ pv, ⟨[] ++ pa, pv, trodAll_append (hargs _ fun _ _ => rfl) (hres _ _ _), hvars _ fun _ _ => rfl, rfl, ?_, ?_⟩, ?_⟩⟩
  · rw [hps, List.mem_append] at hp; exact hp
  · intro b off hp
    have hin : MemPlace.cell b off ∈ before := by rw [hps]; simpa using hp
    rw [hb.frozen (hlt _ hin)]
    exact hz b off hin
  · intro ha
    have := hn ha
    rw [hps] at this
    simpa using this
  · intro p hp _
    rw [hps]
    simpa using hp
end
end Go.Ag
/- Calls whose results are known, in a table. -/
namespace Go.Ag

/-- Surely the same. -/
def sameVal : Value → Value → Bool
  | .int k n, .int k' n' => k == k' && n == n'
  | .bool b, .bool b' => b == b'
  | .slice none a b, .slice none a' b' => a == a' && b == b'
  | .map none, .map none => true
  | .pointer none, .pointer none => true
  | .nilIface, .nilIface => true
  | .nilFunc, .nilFunc => true
  | .string s, .string s' => s.data.toList == s'.data.toList
  | _, _ => false

theorem sameVal_eq {a b : Value} (h : sameVal a b = true) : a = b := by
  unfold sameVal at h
  split at h
  all_goals first
    | rfl
    | cases h; done
    | skip
  · simp only [Bool.and_eq_true, beq_iff_eq] at h
    rw [h.1, h.2]
  · rw [beq_iff_eq.1 h]
  · simp only [Bool.and_eq_true, beq_iff_eq] at h
    rw [h.1, h.2]
  · rename_i s s'
    have h1 : s.data.toList = s'.data.toList := beq_iff_eq.1 h
    have h2 : s = s' := by
      cases s with | mk a => cases s' with | mk b =>
        simp only at h1
        rw [Array.toList_inj.1 h1]
    rw [h2]

mutual
def CV.same : CV → CV → Bool
  | .junk, .junk => true
  | .lit v, .lit v' => sameVal v v'
  | .cptr cs off, .cptr cs' off' => off == off' && CV.sames cs cs'
  | .sl cs off n, .sl cs' off' n' => off == off' && n == n' && CV.sames cs cs'
  | .iface t v, .iface t' v' => t == t' && v.same v'
  | .agg cs, .agg cs' => CV.sames cs cs'
  | .tuple cs, .tuple cs' => CV.sames cs cs'
  | _, _ => false
def CV.sames : List CV → List CV → Bool
  | [], [] => true
  | a :: l, b :: m => a.same b && CV.sames l m
  | _, _ => false
end

mutual
theorem same_eq : ∀ (a b : CV), a.same b = true → a = b
  | .junk, b, h => by cases b <;> first | rfl | (simp [CV.same] at h)
  | .lit v, b, h => by
    cases b <;> first | (simp [CV.same] at h; done) | skip
    rename_i v'; simp only [CV.same] at h; rw [sameVal_eq h]
  | .cptr cs off, b, h => by
    cases b <;> first | (simp [CV.same] at h; done) | skip
    simp only [CV.same, Bool.and_eq_true, beq_iff_eq] at h
    rw [h.1, sames_eq _ _ h.2]
  | .sl cs off n, b, h => by
    cases b <;> first | (simp [CV.same] at h; done) | skip
    simp only [CV.same, Bool.and_eq_true, beq_iff_eq] at h
    rw [h.1.1, h.1.2, sames_eq _ _ h.2]
  | .cmap _ _ _ _, b, h => by simp [CV.same] at h
  | .func _ _ _, b, h => by simp [CV.same] at h
  | .iface t v, b, h => by
    cases b <;> first | (simp [CV.same] at h; done) | skip
    simp only [CV.same, Bool.and_eq_true, beq_iff_eq] at h
    rw [h.1, same_eq _ _ h.2]
  | .agg cs, b, h => by
    cases b <;> first | (simp [CV.same] at h; done) | skip
    simp only [CV.same] at h
    rw [sames_eq _ _ h]
  | .tuple cs, b, h => by
    cases b <;> first | (simp [CV.same] at h; done) | skip
    simp only [CV.same] at h
    rw [sames_eq _ _ h]
theorem sames_eq : ∀ (l m : List CV), CV.sames l m = true → l = m
  | [], m, h => by cases m <;> first | rfl | (simp [CV.sames] at h)
  | a :: l, m, h => by
    cases m with
    | nil => simp [CV.sames] at h
    | cons b m =>
      simp only [CV.sames, Bool.and_eq_true] at h
      rw [same_eq _ _ h.1, sames_eq _ _ h.2]
end

structure Known where
  f : FuncId
  args : List CV
  res : CV

def conTab : List Known → FuncId → List CV → Option AEnd
  | [], _, _ => none
  | e :: r, f, args => match e.f == f && CV.sames e.args args with
    | true => some (.ret (.c e.res))
    | false => conTab r f args

def Known.ok (P : Program) (e : Known) : Prop := CallOk P e.f (e.args.map .c) TMap.nil .no (.ret (.c e.res)) TMap.nil .no

theorem conTab_ok {C : Cfg} {es : List Known} (hc : C.con = conTab es) (h : ∀ e ∈ es, e.ok C.P) : ConOk C := by
  intro f args e he
  rw [hc] at he
  clear hc
  induction es with
  | nil => cases he
  | cons k r ih =>
    simp only [conTab] at he
    split at he
    · rename_i hh
      simp only [Bool.and_eq_true, beq_iff_eq] at hh
      obtain ⟨rfl, hs⟩ := hh
      have := sames_eq _ _ hs
      subst this
      simp only [Option.some.injEq] at he
      subst he
      exact h k (List.mem_cons_self ..)
    · exact ih (fun e he => h e (List.mem_cons_of_mem _ he)) he

/-- Does the call give what the table says? -/
noncomputable def tells (C : Cfg) (n : Nat) (e : Known) : Bool := match runF C n (.call e.f (e.args.map .c) TMap.nil .no) with
  | some (.call (.ret v) h _) => match snap (atF h) 100000 v with
    | some (r, _) => CV.same r e.res
    | none => false
  | _ => false

theorem tells_ok {C : Cfg} (hmix : C.P.follows .mixedOrders = true) (hcon : ConOk C) {n : Nat} {e : Known} (h : tells C n e = true) : e.ok C.P := by
  unfold tells at h
  rw [runF_eq] at h
  split at h
  case h_2 => cases h
  rename_i v hp pan hr
  split at h
  case h_2 => cases h
  rename_i r ids hs
  rw [atF_eq] at hs
  have := same_eq _ _ h
  subst this
  exact callOk_run hmix hcon hr (e := .ret v) hs
end Go.Ag
