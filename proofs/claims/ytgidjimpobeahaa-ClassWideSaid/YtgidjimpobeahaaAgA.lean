/- An evaluator for Go code, whose every operation is proved to do what the model does. No conditions. -/
import GoSem.Dispatch
import GoSem.Machine.Frame
import Derived.Orders
import Derived.Calls
import Derived.Below
import Derived.Laws.Cells
import Derived.Laws.CopyRow
import Derived.Laws.Entries
import Derived.Laws.World
import Derived.Laws.Append
import Derived.Laws.AppendOwn
/- Maps from numbers, as trees: what a frame's temporaries and the evaluator's blocks lie in. -/
namespace Go.Ag

inductive Tree (α : Type) where
  | leaf
  | node (v : α) (l r : Tree α)
  deriving Inhabited

section
variable {α : Type}

def Tree.get (d : α) : Tree α → Nat → α
  | .leaf, _ => d
  | .node v _ _, 0 => v
  | .node _ l r, j + 1 => match j % 2 with
    | 0 => l.get d (j / 2)
    | _ + 1 => r.get d (j / 2)

def Tree.put (d : α) : Nat → Tree α → Nat → α → Tree α
  | 0, t, _, _ => t
  | _ + 1, .leaf, 0, x => .node x .leaf .leaf
  | _ + 1, .node _ l r, 0, x => .node x l r
  | f + 1, .leaf, j + 1, x => match j % 2 with
    | 0 => .node d (Tree.put d f .leaf (j / 2) x) .leaf
    | _ + 1 => .node d .leaf (Tree.put d f .leaf (j / 2) x)
  | f + 1, .node v l r, j + 1, x => match j % 2 with
    | 0 => .node v (Tree.put d f l (j / 2) x) r
    | _ + 1 => .node v l (Tree.put d f r (j / 2) x)

theorem half_eq {j k : Nat} (h : j % 2 = k % 2) : j / 2 = k / 2 ↔ j = k := by omega

theorem Tree.get_put (d : α) : ∀ (f : Nat) (t : Tree α) (i : Nat) (x : α) (k : Nat), i < f → (Tree.put d f t i x).get d k = if k = i then x else t.get d k
  | 0, _, _, _, _, h => absurd h (Nat.not_lt_zero _)
  | f + 1, t, 0, x, k, _ => by cases t <;> cases k <;> simp [Tree.put, Tree.get] <;> (split <;> rfl)
  | f + 1, t, j + 1, x, k, h => by
    have hj : j / 2 < f := by omega
    have ih : ∀ (t : Tree α) (k : Nat), (Tree.put d f t (j / 2) x).get d k = if k = j / 2 then x else t.get d k := fun t k => Tree.get_put d f t (j / 2) x k hj
    have key : ∀ (v : α) (l r : Tree α), (match j % 2 with | 0 => Tree.node v (Tree.put d f l (j / 2) x) r | _ + 1 => Tree.node v l (Tree.put d f r (j / 2) x)).get d k = if k = j + 1 then x else (Tree.node v l r).get d k := by
      intro v l r
      cases k with
      | zero => split <;> simp [Tree.get]
      | succ k =>
        have e : (k + 1 = j + 1) = (k = j) := by simp
        simp only [e]
        cases hm : j % 2 with
        | zero =>
          simp only [Tree.get]
          cases hk : k % 2 with
          | zero =>
            simp only [ih]
            by_cases hkj : k = j
            · subst hkj; simp
            · rw [if_neg hkj, if_neg (fun hh => hkj ((half_eq (hk.trans hm.symm)).1 hh))]
          | succ m =>
            have : k ≠ j := by rintro rfl; omega
            rw [if_neg this]
        | succ m =>
          simp only [Tree.get]
          cases hk : k % 2 with
          | zero =>
            have : k ≠ j := by rintro rfl; omega
            rw [if_neg this]
          | succ m' =>
            simp only [ih]
            by_cases hkj : k = j
            · subst hkj; simp
            · rw [if_neg hkj, if_neg (fun hh => hkj ((half_eq (by omega)).1 hh))]
    cases t with
    | node v l r => exact key v l r
    | leaf =>
      have e : ∀ k, (Tree.leaf : Tree α).get d k = (Tree.node d .leaf .leaf).get d k := by
        intro k
        cases k with
        | zero => rfl
        | succ k => simp only [Tree.get]; split <;> rfl
      rw [e]
      exact key d .leaf .leaf
end

/-- A map from the numbers below one. -/
structure TMap (α : Type) where
  n : Nat
  t : Tree α
  deriving Inhabited

section
variable {α : Type}
def TMap.get (d : α) (m : TMap α) (i : Nat) : α := match Nat.blt i m.n with
  | true => m.t.get d i
  | false => d
def TMap.set (d : α) (m : TMap α) (i : Nat) (x : α) : TMap α := ⟨m.n, match Nat.blt i m.n with
  | true => m.t.put d (i + 1) i x
  | false => m.t⟩
def TMap.push (d : α) (m : TMap α) (x : α) : TMap α := ⟨m.n + 1, m.t.put d (m.n + 1) m.n x⟩
def TMap.app (d : α) (m : TMap α) : List α → TMap α
  | [] => m
  | x :: l => TMap.app d (m.push d x) l
def TMap.nil : TMap α := ⟨0, .leaf⟩

theorem blt_true {i n : Nat} : Nat.blt i n = true ↔ i < n := by simp [Nat.blt, Nat.ble_eq, Nat.lt_iff_add_one_le]
theorem blt_false {i n : Nat} : Nat.blt i n = false ↔ n ≤ i := by
  rw [← Bool.not_eq_true, blt_true]; omega

theorem TMap.get_lt {d : α} {m : TMap α} {i : Nat} (h : i < m.n) : m.get d i = m.t.get d i := by unfold TMap.get; rw [blt_true.2 h]
theorem TMap.get_ge {d : α} {m : TMap α} {i : Nat} (h : m.n ≤ i) : m.get d i = d := by unfold TMap.get; rw [blt_false.2 h]

@[simp] theorem TMap.set_n (d : α) (m : TMap α) (i : Nat) (x : α) : (m.set d i x).n = m.n := rfl

theorem TMap.get_set (d : α) (m : TMap α) (i : Nat) (x : α) (k : Nat) : (m.set d i x).get d k = if k = i ∧ i < m.n then x else m.get d k := by
  by_cases hi : i < m.n
  · have e : m.set d i x = ⟨m.n, m.t.put d (i + 1) i x⟩ := by unfold TMap.set; rw [blt_true.2 hi]
    rw [e]
    by_cases hk : k < m.n
    · rw [TMap.get_lt (m := ⟨m.n, m.t.put d (i + 1) i x⟩) (d := d) hk, TMap.get_lt (m := m) (d := d) hk, Tree.get_put d _ _ _ _ _ (Nat.lt_succ_self i)]
      simp [hi]
    · rw [TMap.get_ge (m := ⟨m.n, m.t.put d (i + 1) i x⟩) (d := d) (Nat.le_of_not_lt hk), TMap.get_ge (m := m) (d := d) (Nat.le_of_not_lt hk), if_neg (by rintro ⟨rfl, _⟩; exact hk hi)]
  · have e : m.set d i x = m := by unfold TMap.set; rw [blt_false.2 (Nat.le_of_not_lt hi)]
    rw [e, if_neg (fun h => hi h.2)]

theorem TMap.get_push (d : α) (m : TMap α) (x : α) (k : Nat) : (m.push d x).get d k = if k = m.n then x else m.get d k := by
  by_cases hk : k < m.n + 1
  · rw [TMap.get_lt (m := m.push d x) hk]
    show (m.t.put d (m.n + 1) m.n x).get d k = _
    rw [Tree.get_put d _ _ _ _ _ (Nat.lt_succ_self _)]
    by_cases he : k = m.n
    · simp [he]
    · rw [if_neg he, if_neg he, TMap.get_lt (by omega)]
  · rw [TMap.get_ge (m := m.push d x) (Nat.le_of_not_lt hk), if_neg (by omega), TMap.get_ge (by omega)]

def TMap.toList (d : α) (m : TMap α) : List α := (List.range m.n).map (m.get d)
@[simp] theorem TMap.toList_length (d : α) (m : TMap α) : (m.toList d).length = m.n := by simp [TMap.toList]

theorem TMap.toList_get? (d : α) (m : TMap α) (i : Nat) : (m.toList d)[i]? = if i < m.n then some (m.get d i) else none := by
  unfold TMap.toList
  by_cases h : i < m.n
  · simp [h]
  · simp [h]

theorem TMap.toList_getD (d : α) (m : TMap α) (i : Nat) : (m.toList d).getD i d = m.get d i := by
  rw [List.getD_eq_getElem?_getD, TMap.toList_get?]
  split
  · rfl
  · rename_i h; rw [TMap.get_ge (Nat.le_of_not_lt h)]; rfl

theorem TMap.toList_set (d : α) (m : TMap α) (i : Nat) (x : α) : (m.set d i x).toList d = (m.toList d).set i x := by
  apply List.ext_getElem?
  intro k
  rw [TMap.toList_get?, List.getElem?_set, TMap.toList_length, TMap.toList_get?, TMap.get_set, TMap.set_n]
  by_cases hk : i = k
  · subst hk
    by_cases hi : i < m.n
    · simp [hi]
    · simp [hi]
  · simp [hk, Ne.symm hk]

theorem TMap.toList_push (d : α) (m : TMap α) (x : α) : (m.push d x).toList d = m.toList d ++ [x] := by
  apply List.ext_getElem?
  intro k
  rw [TMap.toList_get?, TMap.get_push]
  show (if k < m.n + 1 then _ else _) = _
  rcases Nat.lt_trichotomy k m.n with h | h | h
  · rw [List.getElem?_append_left (by simpa using h), TMap.toList_get?, if_pos h, if_pos (by omega), if_neg (by omega)]
  · subst h
    rw [List.getElem?_append_right (by simp), if_pos (Nat.lt_succ_self _), if_pos rfl]
    simp
  · rw [if_neg (by omega), List.getElem?_eq_none (by simp; omega)]

theorem TMap.toList_app (d : α) : ∀ (l : List α) (m : TMap α), (m.app d l).toList d = m.toList d ++ l
  | [], m => by simp [TMap.app]
  | x :: l, m => by simp only [TMap.app]; rw [TMap.toList_app d l, TMap.toList_push]; simp

theorem TMap.app_n (d : α) : ∀ (l : List α) (m : TMap α), (m.app d l).n = m.n + l.length
  | [], m => rfl
  | x :: l, m => by simp only [TMap.app, List.length_cons]; rw [TMap.app_n d l]; simp only [TMap.push]; omega

/-- Some values, and the default behind them. -/
def TMap.init (d : α) (l : List α) (k : Nat) : TMap α := match TMap.nil.app d l with
  | ⟨n, t⟩ => ⟨n + k, t⟩

theorem TMap.clean_app (d : α) : ∀ (l : List α) (m : TMap α), (∀ i, m.n ≤ i → m.t.get d i = d) → ∀ i, (m.app d l).n ≤ i → (m.app d l).t.get d i = d
  | [], _, h, i, hi => h i hi
  | x :: l, m, h, i, hi => by
    refine TMap.clean_app d l (m.push d x) (fun k hk => ?_) i hi
    show (m.t.put d (m.n + 1) m.n x).get d k = d
    have hk' : m.n + 1 ≤ k := hk
    rw [Tree.get_put d _ _ _ _ _ (Nat.lt_succ_self _), if_neg (by omega)]
    exact h k (by omega)

theorem TMap.toList_init (d : α) (l : List α) (k : Nat) : (TMap.init d l k).toList d = l ++ List.replicate k d := by
  have hn : (TMap.nil.app d l : TMap α).n = l.length := by rw [TMap.app_n]; simp [TMap.nil]
  have hl : (TMap.nil.app d l : TMap α).toList d = l := by rw [TMap.toList_app]; simp [TMap.nil, TMap.toList]
  have hc := TMap.clean_app d l TMap.nil (fun i _ => by cases i <;> rfl)
  apply List.ext_getElem?
  intro i
  have hin : (TMap.init d l k).n = l.length + k := by unfold TMap.init; rw [← hn]
  have hit : (TMap.init d l k).t = (TMap.nil.app d l : TMap α).t := by unfold TMap.init; rfl
  rw [TMap.toList_get?, hin]
  by_cases h1 : i < l.length
  · rw [if_pos (by omega), List.getElem?_append_left h1, TMap.get_lt (by omega), hit]
    have h2 := TMap.toList_get? d (TMap.nil.app d l : TMap α) i
    rw [hl, hn, if_pos h1, TMap.get_lt (by omega)] at h2
    exact h2.symm
  · by_cases h2 : i < l.length + k
    · rw [if_pos h2, List.getElem?_append_right (by omega), List.getElem?_replicate, if_pos (by omega), TMap.get_lt (by omega), hit, hc i (by omega)]
    · rw [if_neg h2, List.getElem?_eq_none (by simp; omega)]

@[simp] theorem TMap.init_n (d : α) (l : List α) (k : Nat) : (TMap.init d l k).n = l.length + k := by
  have := congrArg List.length (TMap.toList_init d l k)
  simpa using this
end
end Go.Ag
/- An evaluator for Go code on values with immutable memory by value; it leaves open what Go leaves open (the order in a region, capacities, addresses). -/
namespace Go.Ag

/-- Closed values: memory that nobody writes any more is held by value. -/
inductive CV where
  | junk
  | lit (v : Value)
  | cptr (cells : List CV) (off : Nat)
  | sl (cells : List CV) (off len : Nat)
  | cmap (keys : List Value) (vals : List CV) (borns : List Nat) (clock : Nat)
  | func (fn : Fn) (first captured : List CV)
  | iface (t : TypeId) (v : CV)
  | agg (cells : List CV)
  | tuple (vs : List CV)
  deriving Inhabited

/-- Values: closed ones, and those that name blocks. -/
inductive AV where
  | c (v : CV)
  | ptr (id off : Nat)
  | msl (id sz off len cap : Nat)
  | map (id : Nat)
  | yield (id : Nat)
  | func (fn : Fn) (first captured : List AV)
  | iface (t : TypeId) (v : AV)
  | agg (cells : List AV)
  | tuple (vs : List AV)
  deriving Inhabited

inductive AB where
  | dead
  | blk (cells : List AV)
  | map (keys : List Value) (vals : List AV) (borns : List Nat) (clock : Nat)
  | loop (fn : FuncId) (tmps : TMap AV) (params : List Tmp) (assign body : Code) (st : LoopState) (pending : Option Code) (coll : Nat)
  | coll (isOpen : Bool)
  deriving Inhabited

abbrev Heap := TMap AB
def Heap.at (h : Heap) (id : Nat) : AB := h.get .dead id

def allC : List AV → Option (List CV)
  | [] => some []
  | .c v :: r => (allC r).map (v :: ·)
  | _ :: _ => none

def mkAgg (cs : List AV) : AV := match allC cs with
  | some l => .c (.agg l)
  | none => .agg cs
def mkTuple (cs : List AV) : AV := match allC cs with
  | some l => .c (.tuple l)
  | none => .tuple cs
def mkIface (t : TypeId) : AV → AV
  | .c v => .c (.iface t v)
  | v => .iface t v
def mkFunc (fn : Fn) (first captured : List AV) : AV := match allC first, allC captured with
  | some a, some b => .c (.func fn a b)
  | _, _ => .func fn first captured

mutual
/-- The very value, where it names no memory. -/
def CV.toVal : CV → Option Value
  | .lit v => some v
  | .agg cs => (CV.toVals cs).map fun l => .agg l.toArray
  | .tuple cs => (CV.toVals cs).map fun l => .tuple l.toArray
  | .iface t v => v.toVal.map fun v => .iface t v
  | .func fn a b => (CV.toVals a).bind fun a => (CV.toVals b).map fun b => .func fn a.toArray b.toArray
  | _ => none
def CV.toVals : List CV → Option (List Value)
  | [] => some []
  | c :: r => c.toVal.bind fun v => (CV.toVals r).map (v :: ·)
end

def AV.toVal : AV → Option Value
  | .c v => v.toVal
  | _ => none

def CV.ofVal1 : Value → CV
  | .agg cs => .agg (cs.toList.map .lit)
  | .iface t v => .iface t (.lit v)
  | v => .lit v
def CV.ofVal : Value → CV
  | .tuple cs => .tuple (cs.toList.map CV.ofVal1)
  | v => CV.ofVal1 v

def AV.lit (v : Value) : AV := .c (.lit v)
def AV.undef : AV := .lit (.tuple #[])
def AV.int (n : Int) : AV := .lit (.int .i64 n)
def AV.bool (b : Bool) : AV := .lit (.bool b)

def AV.cells : AV → List AV
  | .agg cs => cs
  | .c (.agg cs) => cs.map .c
  | v => [v]

/-- May it lie in one cell? -/
def AV.cellish : AV → Bool
  | .c .junk | .c (.agg _) | .c (.tuple _) | .agg _ | .tuple _ => false
  | .c (.lit (.agg _)) | .c (.lit (.tuple _)) => false
  | _ => true

/-- A piece of a semantic program that only looks at the program. -/
def pureRun {α : Type} (P : Program) : Sem α → Option α
  | .pure a => some a
  | .program k => pureRun P (k P)
  | .mark _ k => pureRun P k
  | _ => none

def isAggB (P : Program) (t : TypeId) : Bool := match P.underlying t with
  | some (.struct _) | some (.array _ _) => true
  | _ => false

def sliceOf {α : Type} (l : List α) (off n : Nat) : Option (List α) :=
  let r := (l.drop off).take n
  if r.length = n then some r else none

/-- What a variable of the type holds whose cells these are. -/
def readVar (P : Program) (t : TypeId) (cells : List AV) (off : Nat) : Option AV :=
  if isAggB P t then (P.info? t).bind fun i => (sliceOf cells off i.size).map mkAgg
  else if (P.underlying t).isSome then cells[off]? else none

def readVarC (P : Program) (t : TypeId) (cells : List CV) (off : Nat) : Option CV :=
  if isAggB P t then (P.info? t).bind fun i => (sliceOf cells off i.size).map .agg
  else if (P.underlying t).isSome then cells[off]? else none

def putAt {α : Type} (cells : List α) (off : Nat) (vs : List α) : Option (List α) :=
  if off + vs.length ≤ cells.length then some (cells.take off ++ vs ++ cells.drop (off + vs.length)) else none

structure SOut where
  val : AV
  reads : List Nat := []
  upds : List (Nat × AB) := []
  fresh : Option AB := none

inductive Out where
  | simple (o : SOut)
  | call (f : FuncId) (args : List AV)
  | yield (id : Nat) (args : List AV)
  | defer (f : FuncId) (args : List AV)
  | recover
  | panic (v : AV)

abbrev val (v : AV) : Option Out := some (.simple { val := v })

def asInt : AV → Option Int
  | .c (.lit (.int _ n)) => some n
  | _ => none
def asBool : AV → Option Bool
  | .c (.lit (.bool b)) => some b
  | _ => none

def afill (place : Nat → Option (Nat × Nat)) (cells : List AV) : List (Nat × AV) → Option (List AV)
  | [] => some cells
  | (i, v) :: rest => (place i).bind fun (off, size) =>
    if v.cells.length = size ∧ v.cells.all AV.cellish = true then (putAt cells off v.cells).bind fun cs => afill place cs rest else none

def zeroCells (P : Program) (t : TypeId) : Option (List AV) :=
  ((P.info? t).bind (·.zero)).map fun z => z.cells.toList.map AV.lit

def limit : Nat := 1048576

def repeatCells (zero : List AV) (n : Nat) : List AV := (List.range n).map fun i => zero.getD (i % zero.length) .undef

def slicePart (P : Program) (elem : TypeId) : Option (Nat) := match P.info? elem with
  | some i => match i.zero with
    | some z => if i.size = 0 ∨ i.bytes > 1048576 ∨ z.cells.size ≠ i.size then none else some i.size
    | none => none
  | none => none

/-- The first len elements of a slice that is read, its cells. -/
def firstCells (rd : Nat → AB) (size : Nat) : AV → Option (List AV × Nat × List Nat)
  | .c (.lit (.slice none 0 _)) => some ([], 0, [])
  | .c (.sl cells off len) => (sliceOf cells off (len * size)).map fun l => (l.map .c, len, [])
  | .msl id sz off len _ => match rd id with
    | .blk cells => if sz = size then (sliceOf cells off (len * size)).map fun l => (l, len, [id]) else none
    | _ => none
  | .c (.lit (.string s)) => if size = 1 then some (s.data.toList.map (fun b => .lit (.int .u8 b.toNat)), s.size, []) else none
  | _ => none

def appendTo (rd : Nat → AB) (fresh size : Nat) (s : AV) (new : List AV) (n : Nat) (reads : List Nat) : Option SOut := match s with
  | .c (.lit (.slice none 0 0)) =>
    if n = 0 then some { val := .lit (.slice none 0 0), reads } else
    if n ≤ limit then some { val := .msl fresh size 0 n n, reads, fresh := some (.blk new) } else none
  | .msl id sz off len cap =>
    if sz ≠ size then none else
    if n = 0 then some { val := .msl id sz off len cap, reads } else
    match rd id with
    | .blk cells =>
      if len + n ≤ cap then (putAt cells (off + len * size) new).map fun cs => { val := .msl id size off (len + n) cap, reads := id :: reads, upds := [(id, .blk cs)] }
      else if len + n ≤ limit then (sliceOf cells off (len * size)).map fun old => { val := .msl fresh size 0 (len + n) (len + n), reads := id :: reads, upds := [(id, .dead)], fresh := some (.blk (old ++ new)) }
      else none
    | _ => none
  | .c (.sl cells off len) => if n = 0 then some { val := .c (.sl cells off len), reads } else none
  | _ => none

def isSliceOrString : TypeDesc → Bool
  | .slice _ | .string => true
  | _ => false

def aappend (P : Program) (rd : Nat → AB) (fresh : Nat) (argTypes : Array TypeId) (s x : AV) : Option SOut :=
  match argTypes[0]?, argTypes[1]? with
  | some t, some u => match P.underlying t, P.underlying u with
    | some (.slice elem), some du => if isSliceOrString du then
        match slicePart P elem with
        | some size => match firstCells rd size x with
          | some (new, n, reads) => if new.all AV.cellish then appendTo rd fresh size s new n reads else none
          | none => none
        | none => none
      else none
    | _, _ => none
  | _, _ => none

/-- Where a key stands among the keys; that it can be one. -/
def keyIndex (P : Program) (keyType : TypeId) (keys : List Value) (empty : Bool) (key : Value) : Option (Option Nat) :=
  match pureRun P (Instr.checkKey empty 10000 keyType key), pureRun P (Instr.findKey keyType key (keys.map fun k => { key := k, val := Go.undef, born := 0 })) with
  | some _, some r => some (r.map (·.1))
  | _, _ => none

def elemZero (P : Program) (elem : TypeId) : Option AV := match P.info? elem with
  | some i => i.zero.map fun z => .c (CV.ofVal z)
  | none => none

def mapType (P : Program) (t : TypeId) : Option (TypeId × TypeId) := match P.underlying t with
  | some (.map k e) => some (k, e)
  | _ => none

/-- What a map that is read holds. -/
def mapOf (rd : Nat → AB) : AV → Option (List Value × List AV × List Nat)
  | .c (.lit (.map none)) => some ([], [], [])
  | .c (.cmap keys vals _ _) => some (keys, vals.map AV.c, [])
  | .map id => match rd id with
    | .map keys vals _ _ => some (keys, vals, [id])
    | _ => none
  | _ => none

def alookup (P : Program) (rd : Nat → AB) (t : TypeId) (m k : AV) (ok : Bool) : Option SOut :=
  match mapType P t, k.toVal, mapOf rd m with
  | some (kt, et), some key, some (keys, vals, reads) => match keyIndex P kt keys keys.isEmpty key with
    | some (some i) => match vals[i]? with
      | some v => some { val := if ok then mkTuple [v, .bool true] else v, reads }
      | none => none
    | some none => match elemZero P et with
      | some v => some { val := if ok then mkTuple [v, .bool false] else v, reads }
      | none => none
    | none => none
  | _, _, _ => none

def amapUpdate (P : Program) (rd : Nat → AB) (t : TypeId) (m k v : AV) : Option SOut :=
  match m with
  | .map id => match mapType P t, k.toVal, rd id with
    | some (kt, _), some key, .map keys vals borns clock => match keyIndex P kt keys false key with
      | some (some i) => match keys[i]? with
        | some old => if Instr.sameBits 10000 old key then some { val := .undef, reads := [id], upds := [(id, .map (keys.set i key) (vals.set i v) borns clock)] } else none
        | none => none
      | some none => some { val := .undef, reads := [id], upds := [(id, .map (keys ++ [key]) (vals ++ [v]) (borns ++ [clock]) (clock + 1))] }
      | none => none
    | _, _, _ => none
  | _ => none

def amapEntry (P : Program) (rd : Nat → AB) (t : TypeId) (m k : AV) : Option SOut :=
  match m with
  | .map id => match mapType P t, k.toVal, rd id with
    | some (kt, et), some key, .map keys vals borns clock => match keyIndex P kt keys false key with
      | some (some i) => match keys[i]?, vals[i]?, borns[i]? with
        | some old, some v, some b => if Instr.sameBits 10000 old key then some { val := mkTuple [v, .int b], reads := [id], upds := [(id, .map (keys.set i key) vals borns clock)] } else none
        | _, _, _ => none
      | some none => match elemZero P et with
        | some z => some { val := mkTuple [z, .int clock], reads := [id], upds := [(id, .map (keys ++ [key]) (vals ++ [z]) (borns ++ [clock]) (clock + 1))] }
        | none => none
      | none => none
    | _, _, _ => none
  | _ => none

def aentryStore (rd : Nat → AB) (m s v : AV) : Option SOut :=
  match m with
  | .map id => match rd id, asInt s with
    | .map keys vals borns clock, some n => match borns.findIdx? (fun (b : Nat) => (b : Int) == n) with
      | some i => some { val := .undef, reads := [id], upds := [(id, .map keys (vals.set i v) borns clock)] }
      | none => none
    | _, _ => none
  | _ => none

def adelete (P : Program) (rd : Nat → AB) (t : TypeId) (m k : AV) : Option SOut :=
  match m with
  | .map id => match mapType P t, k.toVal, rd id with
    | some (kt, _), some key, .map keys vals borns clock => match keyIndex P kt keys keys.isEmpty key with
      | some (some i) => some { val := .undef, reads := [id], upds := [(id, .map (keys.eraseIdx i) (vals.eraseIdx i) (borns.eraseIdx i) clock)] }
      | some none => some { val := .undef, reads := [id], upds := [(id, .map keys vals borns clock)] }
      | none => none
    | _, _, _ => none
  | _ => none

def boundOf (x : Option AV) (dflt y : Nat) : Option Nat := match x with
  | none => if dflt ≤ y then some dflt else none
  | some v => match asInt v with
    | some i => if 0 ≤ i ∧ i ≤ y then some i.toNat else none
    | none => none

/-- The bounds of a cut: low, high, max. -/
def boundsOf (len cap : Nat) (lo hi mx : Option AV) : Option (Nat × Nat × Nat) :=
  if mx.isSome && hi.isNone then none else
  match boundOf mx cap cap with
  | some m => match boundOf hi len m with
    | some h => match boundOf lo 0 h with
      | some l => some (l, h, m)
      | none => none
    | none => none
  | none => none

def aslice (P : Program) (t : TypeId) (x : AV) (lo hi mx : Option AV) : Option AV :=
  match P.underlying t with
  | some (.slice elem) => match slicePart P elem with
    | some size => match x with
      | .c (.lit (.slice none 0 0)) => (boundsOf 0 0 lo hi mx).map fun _ => .c (.lit (.slice none 0 0))
      | .c (.sl cells off len) => if mx.isSome then none else (boundsOf len len lo hi none).map fun b => .c (.sl cells (off + b.1 * size) (b.2.1 - b.1))
      | .msl id sz off len cap => if sz = size then (boundsOf len cap lo hi mx).map fun b => .msl id sz (off + b.1 * size) (b.2.1 - b.1) (b.2.2 - b.1) else none
      | _ => none
    | none => none
  | _ => none

def isArr (P : Program) (t : TypeId) : Bool := match P.underlying t with
  | some (.array _ _) => true
  | _ => false

/-- A cut of an array. -/
def aarrSlice (P : Program) (rd : Nat → AB) (t : TypeId) (x : AV) (lo hi mx : Option AV) : Option SOut := match P.underlying t with
  | some (.array len elem) => match slicePart P elem, x with
    | some size, .ptr id off => match rd id with
      | .blk cells => if off + len * size ≤ cells.length then (boundsOf len len lo hi mx).map fun b => { val := .msl id size (off + b.1 * size) (b.2.1 - b.1) (b.2.2 - b.1), reads := [id] } else none
      | _ => none
    | some size, .c (.cptr cells off) => if off + len * size ≤ cells.length then (boundsOf len len lo hi mx).map fun b => { val := .c (.sl cells (off + b.1 * size) (b.2.1 - b.1)) } else none
    | _, _ => none
  | _ => none

/-- A part of an array's value. -/
def aindex (P : Program) (t : TypeId) (x ix : AV) : Option AV := match asInt ix, P.underlying t, x with
  | some i, some (.array len elem), .agg cs => match P.info? elem with
    | some inf => if 0 ≤ i ∧ i < len then readVar P elem cs (i.toNat * inf.size) else none
    | none => none
  | some i, some (.array len elem), .c (.agg cs) => match P.info? elem with
    | some inf => if 0 ≤ i ∧ i < len then readVar P elem (cs.map .c) (i.toNat * inf.size) else none
    | none => none
  | _, _, _ => none

/-- A way of field steps inside a value. -/
def afollow (P : Program) : List FieldStep → TypeId → AV → Option (TypeId × AV)
  | [], t, x => some (t, x)
  | s :: rest, _, x => match P.underlying s.struct with
    | some (.struct fields) => match fields[s.index]? with
      | some f => if s.deref then none else match x with
        | .agg _ | .c (.agg _) => match readVar P f.type x.cells f.offset with
          | some v => afollow P rest f.type v
          | none => none
        | _ => none
      | none => none
    | _ => none

def amethod (P : Program) (t : TypeId) (v : AV) (name : String) : Option (FuncId × AV) :=
  match P.info? t with
  | some i => match i.methods.find? (·.name == name) with
    | some m => match afollow P m.path.toList t v, m.func with
      | some (xt, x), some (f, ptr) => match P.underlying xt, ptr with
        | some (.pointer _), true => some (f, x)
        | some (.pointer _), false => none
        | some _, false => some (f, x)
        | _, _ => none
      | _, _ => none
    | none => none
  | none => none

def callable (P : Program) (f : FuncId) : Bool := match P.funcs[f]? with
  | some fn => fn.body.isSome && fn.name != "runtime.NumGoroutine"
  | none => false

def targetOf (P : Program) (f : AV) (args : List AV) : Option (FuncId × List AV) := match f with
  | .c (.func (.func f) a b) => if callable P f then some (f, a.map .c ++ args ++ b.map .c) else none
  | .func (.func f) a b => if callable P f then some (f, a ++ args ++ b) else none
  | _ => none

def litBin (op : BinOp) (a b : Value) : Option Value := match op, a, b with
  | .add, .int .i64 x, .int .i64 y => some (.int .i64 (IntKind.i64.wrap (x + y)))
  | .sub, .int .i64 x, .int .i64 y => some (.int .i64 (IntKind.i64.wrap (x - y)))
  | .mul, .int .i64 x, .int .i64 y => some (.int .i64 (IntKind.i64.wrap (x * y)))
  | .eql, .int .i64 x, .int .i64 y => some (.bool (x == y))
  | .neq, .int .i64 x, .int .i64 y => some (.bool (x != y))
  | .lss, .int .i64 x, .int .i64 y => some (.bool (x < y))
  | .leq, .int .i64 x, .int .i64 y => some (.bool (x ≤ y))
  | .gtr, .int .i64 x, .int .i64 y => some (.bool (x > y))
  | .geq, .int .i64 x, .int .i64 y => some (.bool (x ≥ y))
  | .quo, .int .i64 x, .int .i64 y => if y = 0 then none else some (.int .i64 (IntKind.i64.wrap (x.tdiv y)))
  | .rem, .int .i64 x, .int .i64 y => if y = 0 then none else some (.int .i64 (x.tmod y))
  | .shl, .int .i64 x, .int .i64 y => if y < 0 then none else some (.int .i64 (IntKind.i64.wrap (x * 2 ^ (min y.toNat 64))))
  | .shr, .int .i64 x, .int .i64 y => if y < 0 then none else some (.int .i64 (x.fdiv (2 ^ (min y.toNat 64))))
  | .and, .int .i64 x, .int .i64 y => some (.int .i64 (IntKind.i64.wrap (BitVec.ofInt 64 x &&& BitVec.ofInt 64 y).toNat))
  | .or, .int .i64 x, .int .i64 y => some (.int .i64 (IntKind.i64.wrap (BitVec.ofInt 64 x ||| BitVec.ofInt 64 y).toNat))
  | .andNot, .int .i64 x, .int .i64 y => some (.int .i64 (IntKind.i64.wrap (BitVec.ofInt 64 x &&& ~~~BitVec.ofInt 64 y).toNat))
  | _, _, _ => none

def allVals (ρ : Operand → AV) : List Operand → Bool
  | [] => true
  | x :: r => (ρ x).toVal.isSome && allVals ρ r

def notSelect : Op → Bool
  | .select .. => false
  | _ => true

def pureOp (P : Program) (o : Oper) (ρ : Operand → AV) : Option Out :=
  if allVals ρ o.op.operands.toList && notSelect o.op then
    match pureRun P (execOp (fun x => ((ρ x).toVal).getD Go.undef) o) with
    | some (.value v) => val (.c (CV.ofVal v))
    | _ => none
  else none

def simp? (o : Option SOut) : Option Out := o.map .simple

def abox (fresh : Nat) (x : AV) : Option SOut := if x.cells.all AV.cellish then some { val := .ptr fresh 0, fresh := some (.blk x.cells) } else none

def partsOf (ρ : Operand → AV) (parts : Array (Nat × Operand)) : List (Nat × AV) := parts.toList.map fun p => (p.1, ρ p.2)

def fieldPlaces (P : Program) (fields : Array Field) : Option (List (Nat × Nat)) := fields.toList.mapM fun f => (P.info? f.type).map fun j => (f.offset, j.size)

def abuild (P : Program) (t : TypeId) (parts : List (Nat × AV)) : Option AV :=
  match zeroCells P t, P.underlying t with
  | some z, some (.struct fields) => match fieldPlaces P fields with
    | some places => (afill (fun i => places[i]?) z parts).map mkAgg
    | none => none
  | some z, some (.array _ elem) => match P.info? elem with
    | some i => (afill (fun k => some (k * i.size, i.size)) z parts).map mkAgg
    | none => none
  | _, _ => none

def abuildSlice (P : Program) (fresh : Nat) (t : TypeId) (len : Nat) (parts : List (Nat × AV)) : Option SOut :=
  match P.underlying t with
  | some (.slice elem) => match slicePart P elem, zeroCells P elem with
    | some size, some z => if len * size ≤ limit then
        match afill (fun i => some (i * size, size)) (repeatCells z (len * size)) parts with
        | some cs => if cs.all AV.cellish then some { val := .msl fresh size 0 len len, fresh := some (.blk cs) } else none
        | none => none
      else none
    | _, _ => none
  | _ => none

def aload (P : Program) (rd : Nat → AB) (t : TypeId) : AV → Option SOut
  | .ptr id off => match rd id with
    | .blk cells => (readVar P t cells off).map fun v => { val := v, reads := [id] }
    | _ => none
  | .c (.cptr cells off) => (readVarC P t cells off).map fun v => { val := .c v }
  | _ => none

def astore (P : Program) (rd : Nat → AB) (t : TypeId) (a x : AV) : Option SOut := match a with
  | .ptr id off => match rd id, P.info? t with
    | .blk cells, some i => if x.cells.length = i.size ∧ x.cells.all AV.cellish = true then
        (putAt cells off x.cells).map fun cs => { val := .undef, reads := [id], upds := [(id, .blk cs)] }
      else none
    | _, _ => none
  | _ => none

def anilCheck : AV → Option AV
  | .ptr id off => some (.ptr id off)
  | .c (.cptr cs off) => some (.c (.cptr cs off))
  | _ => none

def fieldOf (P : Program) (s : TypeId) (f : Nat) : Option Field := match P.underlying s with
  | some (.struct fields) => fields[f]?
  | _ => none

def afieldAddr (P : Program) (s : TypeId) (x : AV) (f : Nat) : Option AV := match fieldOf P s f with
  | some fd => if P.cellsOf fd.type = 0 then none else match x with
    | .ptr id off => some (.ptr id (off + fd.offset))
    | .c (.cptr cs off) => some (.c (.cptr cs (off + fd.offset)))
    | _ => none
  | none => none

def afield (P : Program) (t : TypeId) (x : AV) (f : Nat) : Option AV := match fieldOf P t f, x with
  | some fd, .agg cs => readVar P fd.type cs fd.offset
  | some fd, .c (.agg cs) => readVar P fd.type (cs.map .c) fd.offset
  | _, _ => none

def aindexAddr (P : Program) (t : TypeId) (x ix : AV) : Option Out := match asInt ix, P.underlying t, x with
  | some i, some (.array len elem), .ptr id off => match slicePart P elem with
    | some size => if 1 < len ∧ 0 ≤ i ∧ i < len then val (.ptr id (off + i.toNat * size)) else none
    | none => none
  | some i, some (.array len elem), .c (.cptr cs off) => match slicePart P elem with
    | some size => if 1 < len ∧ 0 ≤ i ∧ i < len then val (.c (.cptr cs (off + i.toNat * size))) else none
    | none => none
  | some i, some (.slice elem), .msl id sz off len _ => match slicePart P elem with
    | some size => if sz = size then (if 0 ≤ i ∧ i < len then val (.ptr id (off + i.toNat * size)) else some (.panic (.c .junk))) else none
    | none => none
  | some i, some (.slice elem), .c (.sl cs off len) => match slicePart P elem with
    | some size => if 0 ≤ i ∧ i < len then val (.c (.cptr cs (off + i.toNat * size))) else some (.panic (.c .junk))
    | none => none
  | some _, some (.slice _), .c (.lit (.slice none 0 _)) => some (.panic (.c .junk))
  | _, _, _ => none

def amakeSlice (P : Program) (fresh : Nat) (t : TypeId) (l c : AV) : Option SOut := match P.underlying t with
  | some (.slice elem) => match P.info? elem, slicePart P elem, zeroCells P elem, asInt l, asInt c with
    | some i, some size, some z, some l, some c =>
      if 0 ≤ l ∧ l ≤ c ∧ c.toNat * i.bytes ≤ 2 ^ 40 ∧ c.toNat ≤ limit then some { val := .msl fresh size 0 l.toNat c.toNat, fresh := some (.blk (repeatCells z (c.toNat * size))) } else none
    | _, _, _, _, _ => none
  | _ => none

def atypeAssert (P : Program) (x : AV) (asserted : TypeId) (ok : Bool) : Option AV := match P.underlying asserted with
  | some (.interface _) => none
  | none => none
  | some _ => match x with
    | .c (.iface t v) => if t = asserted then some (if ok then mkTuple [.c v, .bool true] else .c v) else none
    | .iface t v => if t = asserted then some (if ok then mkTuple [v, .bool true] else v) else none
    | .c (.lit .nilIface) => match ok with
      | true => (elemZero P asserted).map fun z => mkTuple [z, .bool false]
      | false => none
    | _ => none

def aextract (ix : Nat) : AV → Option AV
  | .tuple vs => vs[ix]?
  | .c (.tuple vs) => (vs[ix]?).map .c
  | _ => none

def alen (P : Program) (rd : Nat → AB) (t : TypeId) (x : AV) : Option SOut := match P.underlying t, x with
  | some (.slice _), .c (.lit (.slice none 0 0)) => some { val := .int 0 }
  | some (.slice _), .c (.sl _ _ n) => some { val := .int n }
  | some (.slice _), .msl _ _ _ n _ => some { val := .int n }
  | some (.map _ _), .c (.cmap keys _ _ _) => some { val := .int keys.length }
  | some (.map _ _), .map id => match rd id with
    | .map keys _ _ _ => some { val := .int keys.length, reads := [id] }
    | _ => none
  | _, _ => none

def acopy (P : Program) (rd : Nat → AB) (t : TypeId) (d s : AV) : Option SOut := match P.underlying t with
  | some (.slice elem) => match slicePart P elem with
    | some size => match firstCells rd size s, d with
      | some (new, n, reads), .msl id sz off len _ => if sz = size ∧ new.all AV.cellish = true then match rd id with
          | .blk cells => (putAt cells off (new.take (Nat.min n len * size))).map fun cs => { val := .int (Nat.min n len), reads := id :: reads, upds := [(id, .blk cs)] }
          | _ => none
        else none
      | some (_, _, reads), .c (.lit (.slice none 0 0)) => some { val := .int 0, reads }
      | _, _ => none
    | none => none
  | _ => none

def aclear (P : Program) (rd : Nat → AB) (t : TypeId) (x : AV) : Option SOut := match P.underlying t, x with
  | some (.slice elem), .msl id sz off len _ => match slicePart P elem, zeroCells P elem, rd id with
    | some size, some z, .blk cells => if sz = size ∧ z.all AV.cellish = true then
        (putAt cells off (repeatCells z (len * size))).map fun cs => { val := .undef, reads := [id], upds := [(id, .blk cs)] }
      else none
    | _, _, _ => none
  | _, _ => none

def isIface (P : Program) (t : TypeId) : Bool := match P.underlying t with
  | some (.interface _) => true
  | _ => false

def abinOp (P : Program) (o : Oper) (ρ : Operand → AV) (op : BinOp) (t : TypeId) (x y : AV) : Option Out := match x.toVal, y.toVal with
  | some a, some b => match litBin op a b with
    | some v => val (.lit v)
    | none => pureOp P o ρ
  | _, _ => if isIface P t then match op, x, y with
    | .neq, .c (.iface ..), .c (.lit .nilIface) => val (.bool true)
    | .neq, .iface .., .c (.lit .nilIface) => val (.bool true)
    | .eql, .c (.iface ..), .c (.lit .nilIface) => val (.bool false)
    | .eql, .iface .., .c (.lit .nilIface) => val (.bool false)
    | _, _, _ => none
    else none

def apanic : AV → Option Out
  | .c (.iface t v) => some (.panic (.c (.iface t v)))
  | _ => none

def acall (P : Program) (c : Call) (ρ : Operand → AV) (rd : Nat → AB) (fresh : Nat) (o : Oper) : Option Out := match c.callee with
  | .builtin b => match b, c.args.toList with
    | .append, [s, x] => simp? (aappend P rd fresh c.argTypes (ρ s) (ρ x))
    | .len, [x] => match c.argTypes[0]? with
      | some t => match alen P rd t (ρ x) with
        | some r => some (.simple r)
        | none => pureOp P o ρ
      | none => none
    | .copy, [d, s] => match c.argTypes[0]? with
      | some t => simp? (acopy P rd t (ρ d) (ρ s))
      | none => none
    | .clear, [x] => match c.argTypes[0]? with
      | some t => simp? (aclear P rd t (ρ x))
      | none => none
    | .recover, _ => some .recover
    | .panic, [x] => apanic (ρ x)
    | _, _ => pureOp P o ρ
  | .value f => match ρ f with
    | .yield id => some (.yield id (c.args.toList.map ρ))
    | g => (targetOf P g (c.args.toList.map ρ)).map fun p => .call p.1 p.2
  | .invoke r name => match ρ r with
    | .c (.iface t v) => match amethod P t (.c v) name with
      | some (f, x) => if callable P f then some (.call f (x :: c.args.toList.map ρ)) else none
      | none => none
    | .iface t v => match amethod P t v name with
      | some (f, x) => if callable P f then some (.call f (x :: c.args.toList.map ρ)) else none
      | none => none
    | _ => none

def aop (P : Program) (o : Oper) (ρ : Operand → AV) (rd : Nat → AB) (fresh : Nat) : Option Out :=
  match o.op with
  | .move x => val (ρ x)
  | .assign x => val (ρ x)
  | .pick c a b => match asBool (ρ c) with
    | some t => val (if t then ρ a else ρ b)
    | none => none
  | .alloc t => match zeroCells P t with
    | some cs => some (.simple { val := .ptr fresh 0, fresh := some (.blk cs) })
    | none => none
  | .box _ x => simp? (abox fresh (ρ x))
  | .build t parts => (abuild P t (partsOf ρ parts)).bind val
  | .buildSlice t len parts => simp? (abuildSlice P fresh t len (partsOf ρ parts))
  | .load t a => simp? (aload P rd t (ρ a))
  | .store t a x => simp? (astore P rd t (ρ a) (ρ x))
  | .nilCheck x => (anilCheck (ρ x)).bind val
  | .binOp op t x y _ => abinOp P o ρ op t (ρ x) (ρ y)
  | .fieldAddr s x f => (afieldAddr P s (ρ x) f).bind val
  | .field t x f => (afield P t (ρ x) f).bind val
  | .indexAddr t x ix => aindexAddr P t (ρ x) (ρ ix)
  | .index t x ix => match isArr P t with
    | true => (aindex P t (ρ x) (ρ ix)).bind val
    | false => pureOp P o ρ
  | .slice t x lo hi mx => match isArr P t with
    | true => simp? (aarrSlice P rd t (ρ x) (lo.map ρ) (hi.map ρ) (mx.map ρ))
    | false => match aslice P t (ρ x) (lo.map ρ) (hi.map ρ) (mx.map ρ) with
      | some v => val v
      | none => pureOp P o ρ
  | .makeInterface t x => match P.underlying t with
    | some (.interface _) => none
    | some _ => val (mkIface t (ρ x))
    | none => none
  | .makeFunc fn first captured => val (mkFunc fn (first.toList.map ρ) (captured.toList.map ρ))
  | .makeMap _ none => some (.simple { val := .map fresh, fresh := some (.map [] [] [] 0) })
  | .makeSlice t l c => simp? (amakeSlice P fresh t (ρ l) (ρ c))
  | .lookup t m k ok => simp? (alookup P rd t (ρ m) (ρ k) ok)
  | .mapUpdate t m k v => simp? (amapUpdate P rd t (ρ m) (ρ k) (ρ v))
  | .insert t m k v => simp? (amapUpdate P rd t (ρ m) (ρ k) (ρ v))
  | .mapEntry .. => none
  | .entryStore .. => none
  | .typeAssert x _ asserted ok => (atypeAssert P (ρ x) asserted ok).bind val
  | .extract t ix => (aextract ix (ρ t)).bind val
  | .call c => acall P c ρ rd fresh o
  | .panic x => apanic (ρ x)
  | .defer c => match c.callee with
    | .value f => (targetOf P (ρ f) (c.args.toList.map ρ)).map fun p => .defer p.1 p.2
    | _ => none
  | _ => pureOp P o ρ

end Go.Ag
/- The evaluator's rounds: code, regions, calls. -/
namespace Go.Ag

inductive ADef where
  | call (f : FuncId) (args : List AV)
  | coll (id : Nat)
  deriving Inhabited

/-- What a deferred call may recover: nothing; a panic; it has been recovered. -/
inductive Pan where
  | no
  | live (v : AV)
  | taken
  deriving Inhabited

structure ASt where
  tmps : TMap AV
  defers : List ADef
  pan : Pan
  round : Option Nat
  h : Heap

inductive AExit where
  | normal
  | exit (id : Nat)
  | ret
  | panic (v : AV)

inductive AEnd where
  | ret (v : AV)
  | panic (v : AV)

structure Cfg where
  P : Program
  pure : FuncId → Bool
  con : FuncId → List CV → Option AEnd

inductive Task where
  | code (c : Code) (s : ASt)
  | ops (ops : Array Oper) (todo : List Nat) (s : ASt)
  | call (f : FuncId) (args : List AV) (h : Heap) (pan : Pan)
  | defers (ds : List ADef) (mode : Option AV) (h : Heap)

inductive Res where
  | code (e : AExit) (s : ASt)
  | call (e : AEnd) (h : Heap) (pan : Pan)
  | defers (mode : Option AV) (h : Heap)

def ASt.eval (s : ASt) : Operand → AV
  | .tmp t => s.tmps.get .undef t
  | .const v => .c (CV.ofVal v)
  | .global _ => .c .junk
  | .func f => .c (.func (.func f) [] [])

def ASt.put (s : ASt) (dst : Option Tmp) (v : AV) : ASt := match dst with
  | some d => { s with tmps := s.tmps.set .undef d v }
  | none => s

mutual
/-- The value with its memory, and the blocks that were looked into. -/
def snap (rd : Nat → AB) : Nat → AV → Option (CV × List Nat)
  | 0, _ => none
  | _ + 1, .c v => some (v, [])
  | n + 1, .ptr id off => match rd id with
    | .blk cells => (snaps rd n cells).map fun l => (.cptr l.1 off, id :: l.2)
    | _ => none
  | n + 1, .msl id _ off len _ => match rd id with
    | .blk cells => (snaps rd n cells).map fun l => (.sl l.1 off len, id :: l.2)
    | _ => none
  | n + 1, .map id => match rd id with
    | .map keys vals borns clock => (snaps rd n vals).map fun l => (.cmap keys l.1 borns clock, id :: l.2)
    | _ => none
  | _ + 1, .yield _ => none
  | n + 1, .func fn a b => (snaps rd n a).bind fun a => (snaps rd n b).map fun b => (.func fn a.1 b.1, a.2 ++ b.2)
  | n + 1, .iface t v => (snap rd n v).map fun v => (.iface t v.1, v.2)
  | n + 1, .agg cs => (snaps rd n cs).map fun l => (.agg l.1, l.2)
  | n + 1, .tuple cs => (snaps rd n cs).map fun l => (.tuple l.1, l.2)
def snaps (rd : Nat → AB) : Nat → List AV → Option (List CV × List Nat)
  | 0, _ => none
  | _ + 1, [] => some ([], [])
  | n + 1, v :: r => (snap rd n v).bind fun v => (snaps rd n r).map fun l => (v.1 :: l.1, v.2 ++ l.2)
end

mutual
/-- Does it reach no memory? -/
def CV.plain : CV → Bool
  | .junk | .lit _ => true
  | .cptr .. | .sl .. | .cmap .. => false
  | .func _ a b => CV.plains a && CV.plains b
  | .iface _ v => v.plain
  | .agg cs | .tuple cs => CV.plains cs
def CV.plains : List CV → Bool
  | [] => true
  | v :: r => v.plain && CV.plains r
end

def snapFuel : Nat := 1000000

def Heap.upd (h : Heap) : List (Nat × AB) → Heap
  | [] => h
  | (id, b) :: r => Heap.upd (h.set .dead id b) r

def ASt.apply (s : ASt) (dst : Option Tmp) (o : SOut) : ASt :=
  ({ s with h := (Heap.upd s.h o.upds).app .dead o.fresh.toList }).put dst o.val

def wantedA (ops : Array Oper) (o : Oper) (s : ASt) : Option Bool := match o.guard with
  | none => some true
  | some (j, want) => match (ops[j]?).bind (·.dst) with
    | none => some false
    | some d => match s.tmps.get .undef d with
      | .c (.lit (.bool b)) => some (b == want)
      | .c (.lit (.tuple _)) => some false
      | _ => none

def pureRes (C : Cfg) (rec : Task → Option Res) (f : FuncId) (args : List CV) : Option (AEnd × Heap) := match C.con f args with
  | some e => some (e, TMap.nil)
  | none => match rec (.call f (args.map .c) TMap.nil .no) with
    | some (.call e h _) => some (e, h)
    | _ => none

def killed (r : CV) (ids : List Nat) : List (Nat × AB) := if r.plain then [] else ids.map fun i => (i, .dead)

def AEnd.val : AEnd → AV
  | .ret v => v
  | .panic v => v
def AEnd.setVal (v : AV) : AEnd → AEnd
  | .ret _ => .ret v
  | .panic _ => .panic v

/-- A call on closed values; what was handed to it and may be held by what it returns is not touched any more. -/
def pureCall (C : Cfg) (rec : Task → Option Res) (f : FuncId) (args : List AV) (rd : Nat → AB) : Option (AEnd × List Nat × List (Nat × AB)) :=
  match snaps rd snapFuel args with
  | none => none
  | some (args', ids) => match pureRes C rec f args' with
    | none => none
    | some (e, h') => match snap (Heap.at h') snapFuel e.val with
      | none => none
      | some (r, _) => some (e.setVal (.c r), ids, killed r ids)

def readRes (P : Program) (tmps : TMap AV) (h : Heap) : List ResultVar → Option (List AV)
  | [] => some []
  | .tmp t :: r => (readRes P tmps h r).map (tmps.get .undef t :: ·)
  | .cell a t :: r => match aload P (Heap.at h) t (tmps.get .undef a) with
    | some o => (readRes P tmps h r).map (o.val :: ·)
    | none => none

def readResults (P : Program) (fn : Func) (tmps : TMap AV) (h : Heap) : Option AV :=
  match readRes P tmps h fn.results.toList with
  | some [v] => some v
  | some vs => some (mkTuple vs)
  | none => none

def isPure (C : Cfg) (f : FuncId) : Bool := C.pure f

def panOf : Option AV → Pan
  | some v => .live v
  | none => .no
def modeAfter (mode : Option AV) : Pan → Option AV
  | .taken => none
  | _ => mode

def jumpOf : AExit → Option Code
  | .exit i => some (.exit i)
  | .ret => some .ret
  | _ => none

/-- The state in which the iterator of a range is called. -/
def rangeStart (s : ASt) (params : Array Tmp) (assign body : Code) : ASt :=
  { s with h := s.h.app .dead [.coll true, .loop 0 s.tmps params.toList assign body .ready none s.h.n], defers := .coll s.h.n :: s.defers }

/-- A body's end: the frame is on its way out. -/
def modeOf : AExit → Option (Option AV)
  | .normal | .ret => some none
  | .panic v => some (some v)
  | _ => none

/-- What one operation did: where it looked, what it wrote. -/
structure DRec where
  idx : Nat
  dst : Option Tmp
  looks : List Tmp
  val : AV
  reads : List Nat
  upds : List (Nat × AB)
  fresh : Option AB
  fid : Nat
  pan : Option (AV × List (Nat × AB))

def DRec.writes (r : DRec) : List Nat := r.upds.map (·.1) ++ (if r.fresh.isSome then [r.fid] else [])

/-- What must come before an operation, as bits. -/
def maskOf (ms : List Nat) (o : Oper) : Nat := o.after.toList.foldl (fun s e => if Region.binds .any e then s ||| (2 ^ e.on ||| ms.getD e.on 0) else s) 0
def masksGo : List Oper → List Nat → List Nat
  | [], ms => ms
  | o :: os, ms => masksGo os (ms ++ [maskOf ms o])
def masks (ops : Array Oper) : List Nat := masksGo ops.toList []

def backGo : List Oper → Nat → Bool
  | [], _ => true
  | o :: os, j => o.after.toList.all (fun e => !Region.binds .any e || e.on < j) && backGo os (j + 1)

/-- They may change places. -/
def indepB (a b : DRec) : Bool :=
  (match a.dst with | some d => !b.looks.contains d && b.dst != some d | none => true) &&
  (match b.dst with | some d => !a.looks.contains d | none => true) &&
  a.writes.all (fun i => !b.reads.contains i && !b.writes.contains i) && b.writes.all (fun i => !a.reads.contains i)

/-- Any two must come one before the other, or may change places. -/
def pairsOk (ms : List Nat) : List DRec → Bool
  | [] => true
  | r :: l => l.all (fun x => (ms.getD x.idx 0).testBit r.idx || indepB r x) && pairsOk ms l

/-- An operation of a region whose order is open, in the text's order. -/
def drawnOp (C : Cfg) (rec : Task → Option Res) (ops : Array Oper) (i : Nat) (s : ASt) : Option (ASt × DRec) := match ops[i]? with
  | none => none
  | some o => match wantedA ops o s with
    | none => none
    | some false => some (s.put o.dst .undef, ⟨i, o.dst, o.looksAt ops, .undef, [], [], none, s.h.n, none⟩)
    | some true => match aop C.P o s.eval (Heap.at s.h) s.h.n with
      | some (.simple r) => if r.upds.all (fun p => decide (p.1 < s.h.n)) then some (s.apply o.dst r, ⟨i, o.dst, o.looksAt ops, r.val, r.reads, r.upds, r.fresh, s.h.n, none⟩) else none
      | some (.call f args) => if C.pure f then match pureCall C rec f args (Heap.at s.h) with
          | some (.ret v, ids, us) => some ({ s with h := Heap.upd s.h us }.put o.dst v, ⟨i, o.dst, o.looksAt ops, v, ids, us, none, s.h.n, none⟩)
          | _ => none
        else none
      | _ => none

/-- As many operations as may be told so; what is left. -/
def drawnOps (C : Cfg) (rec : Task → Option Res) (ops : Array Oper) : List Nat → ASt → ASt × List DRec × List Nat
  | [], s => (s, [], [])
  | i :: rest, s => match drawnOp C rec ops i s with
    | some (s1, r) => match drawnOps C rec ops rest s1 with
      | (s2, l, t) => (s2, r :: l, t)
    | none => (s, [], i :: rest)

/-- Each must come before all that follow. -/
def chainOk (ms : List Nat) : List Nat → Bool
  | [] => true
  | i :: l => l.all (fun k => (ms.getD k 0).testBit i) && chainOk ms l

/-- An operation of a region whose order is open that panics; what it makes of the memory. -/
def drawnPanic (C : Cfg) (rec : Task → Option Res) (ops : Array Oper) (i : Nat) (s : ASt) : Option (DRec × AV × List (Nat × AB)) := match ops[i]? with
  | none => none
  | some o => match wantedA ops o s with
    | some true => match aop C.P o s.eval (Heap.at s.h) s.h.n with
      | some (.panic v) => some (⟨i, none, o.looksAt ops, .undef, [], [], none, s.h.n, some (v, [])⟩, v, [])
      | some (.call f args) => if C.pure f then match pureCall C rec f args (Heap.at s.h) with
          | some (.panic v, ids, us) => some (⟨i, none, o.looksAt ops, .undef, ids, [], none, s.h.n, some (v, us)⟩, v, us)
          | _ => none
        else none
      | _ => none
    | _ => none

def DRec.dsts (l : List DRec) : List Tmp := l.filterMap (·.dst)
def DRec.allWrites (l : List DRec) : List Nat := l.flatMap DRec.writes

/-- What is left of temporaries of which some may have been written. -/
def junked (tmps : TMap AV) (ds : List Tmp) : TMap AV := ds.foldl (fun t d => t.set .undef d (.c .junk)) tmps

/-- The region is left by a panic. -/
def drawnFall (C : Cfg) (rec : Task → Option Res) (ops : Array Oper) (s s1 : ASt) (l : List DRec) : List Nat → Option Res
  | [] => none
  | i :: rest => match drawnPanic C rec ops i s1 with
    | none => none
    | some (r, v, us) => match drawnOps C rec ops (rest.filter fun k => !((masks ops).getD k 0).testBit i) s1 with
      | (s2, l2, []) => if pairsOk (masks ops) (l ++ r :: l2) then
          some (.code (.panic v) { s with tmps := junked s.tmps (DRec.dsts (l ++ r :: l2)), h := Heap.upd s2.h ((us.map (·.1) ++ DRec.allWrites (l ++ r :: l2)).map fun id => (id, .dead)) })
        else none
      | _ => none

/-- A region whose order is open: operations that may change places, and then some whose order is not open, or one that panics. -/
def drawn (C : Cfg) (rec : Task → Option Res) (ops : Array Oper) (s : ASt) : Option Res :=
  if backGo ops.toList 0 then match drawnOps C rec ops (List.range ops.size) s with
    | (s', l, t) => if pairsOk (masks ops) l && chainOk (masks ops) t && t.all (fun k => l.all (fun r => ((masks ops).getD k 0).testBit r.idx)) then rec (.ops ops t s') else drawnFall C rec ops s s' l t
  else none

def step (C : Cfg) (rec : Task → Option Res) : Task → Option Res
  | .code c s => match c with
    | .skip | .label _ => some (.code .normal s)
    | .region _ ops draw => if draw then drawn C rec ops s else rec (.ops ops (List.range ops.size) s)
    | .seq a b => match rec (.code a s) with
      | some (.code .normal s1) => rec (.code b s1)
      | r => r
    | .cond c a b => (asBool (s.eval c)).bind fun t => rec (.code (if t then a else b) s)
    | .block id c => match rec (.code c s) with
      | some (.code (.exit i) s1) => some (.code (if i = id then .normal else .exit i) s1)
      | r => r
    | .loop c => match rec (.code c s) with
      | some (.code .normal s1) => rec (.code (.loop c) s1)
      | r => r
    | .scope c => rec (.code c s)
    | .rangeFunc f params assign body =>
      if s.round.isSome then none else
      match targetOf C.P (s.eval f) [.yield (s.h.n + 1)] with
      | none => none
      | some (g, args) => match rec (.call g args (rangeStart s params assign body).h .no) with
        | some (.call (.ret _) h2 _) => match (Heap.at h2) (s.h.n + 1) with
          | .loop fn tmps ps a b st pending coll =>
            if st = .busy then none else
            match pending with
            | none => some (.code .normal { rangeStart s params assign body with h := h2.set .dead (s.h.n + 1) (.loop fn tmps ps a b .exhausted none coll) })
            | some c => rec (.code c { rangeStart s params assign body with h := h2.set .dead (s.h.n + 1) (.loop fn tmps ps a b .exhausted (some c) coll) })
          | _ => none
        | some (.call (.panic v) h2 _) => some (.code (.panic v) { rangeStart s params assign body with h := h2 })
        | _ => none
    | .exit id => some (.code (.exit id) s)
    | .ret => some (.code .ret s)
    | _ => none
  | .ops _ [] s => some (.code .normal s)
  | .ops ops (i :: rest) s => match ops[i]? with
    | none => none
    | some o => match wantedA ops o s with
      | none => none
      | some false => rec (.ops ops rest (s.put o.dst .undef))
      | some true => match aop C.P o s.eval (Heap.at s.h) s.h.n with
        | none => none
        | some (.simple r) => rec (.ops ops rest (s.apply o.dst r))
        | some (.panic v) => some (.code (.panic v) s)
        | some (.recover) => if s.round.isSome then none else match s.pan with
          | .live v => rec (.ops ops rest ({ s with pan := .taken }.put o.dst v))
          | _ => rec (.ops ops rest (s.put o.dst (.lit .nilIface)))
        | some (.defer f args) => if s.round.isSome then none else rec (.ops ops rest ({ s with defers := .call f args :: s.defers }.put o.dst .undef))
        | some (.call f args) =>
          if C.pure f then match pureCall C rec f args (Heap.at s.h) with
            | some (.ret v, _, us) => rec (.ops ops rest ({ s with h := Heap.upd s.h us }.put o.dst v))
            | some (.panic v, _, us) => some (.code (.panic v) { s with h := Heap.upd s.h us })
            | none => none
          else match rec (.call f args s.h .no) with
            | some (.call (.ret v) h _) => rec (.ops ops rest ({ s with h }.put o.dst v))
            | some (.call (.panic v) h _) => some (.code (.panic v) { s with h })
            | _ => none
        | some (.yield id args) => match (Heap.at s.h) id with
          | .loop _ tmps params assign body .ready _ _ =>
            if args.length = params.length then
              match rec (.code assign { tmps := (params.zip args).foldl (fun l (x : Tmp × AV) => l.set .undef x.1 x.2) tmps, defers := [], pan := .no, round := some id, h := s.h }) with
              | some (.code .normal s1) => match (Heap.at s1.h) id with
                | .loop fn1 tm1 p1 a1 b1 .ready pe1 c1 =>
                  match rec (.code body { s1 with h := s1.h.set .dead id (.loop fn1 tm1 p1 a1 b1 .busy pe1 c1) }) with
                  | some (.code e s2) => match s2.defers with
                    | [] => match e with
                      | .panic v => some (.code (.panic v) { s with h := s2.h })
                      | e => match (Heap.at s2.h) id with
                        | .loop fn2 tm2 p2 a2 b2 _ _ c2 =>
                          rec (.ops ops rest ({ s with h := s2.h.set .dead id (.loop fn2 tm2 p2 a2 b2 (if (jumpOf e).isNone then .ready else .done) (jumpOf e) c2) }.put o.dst (.bool (jumpOf e).isNone)))
                        | _ => none
                    | _ => none
                  | _ => none
                | _ => none
              | _ => none
            else none
          | _ => none
  | .call f args h pan => match C.P.funcs[f]? with
    | none => none
    | some fn => match fn.body with
      | none => none
      | some body => match rec (.code body { tmps := TMap.init .undef args (fn.ntmps - args.length), defers := [], pan, round := none, h }) with
        | some (.code e s1) => match modeOf e with
          | none => none
          | some mode => match rec (.defers s1.defers mode s1.h) with
            | some (.defers none h2) => match readResults C.P fn s1.tmps h2 with
              | some v => some (.call (.ret v) h2 s1.pan)
              | none => none
            | some (.defers (some v) h2) => some (.call (.panic v) h2 s1.pan)
            | _ => none
        | _ => none
  | .defers [] mode h => some (.defers mode h)
  | .defers (.coll d :: ds) mode h => match (Heap.at h) d with
    | .coll true => rec (.defers ds mode (h.set .dead d (.coll false)))
    | _ => none
  | .defers (.call f args :: ds) mode h =>
    match rec (.call f args h (panOf mode)) with
    | some (.call (.ret _) h2 pan) => rec (.defers ds (modeAfter mode pan) h2)
    | _ => none

def run (C : Cfg) : Nat → Task → Option Res
  | 0 => fun _ => none
  | n + 1 => step C (run C n)

end Go.Ag
/- When a value, a block and a world are those that the evaluator holds. -/
namespace Go.Ag

/-- Each element of the one list has one of the other list at its place. -/
def Pw {α β : Type} (R : α → β → Prop) (l : List α) (m : List β) : Prop := ∀ (i : Nat) (a : α), l[i]? = some a → ∃ b, m[i]? = some b ∧ R a b

section pw
variable {α β : Type} {R : α → β → Prop}

theorem Pw.nil (m : List β) : Pw R [] m := by intro i a h; simp at h

theorem Pw.cons_iff {a : α} {l : List α} {b : β} {m : List β} : Pw R (a :: l) (b :: m) ↔ R a b ∧ Pw R l m := by
  constructor
  · intro h
    refine ⟨?_, fun i x hx => ?_⟩
    · obtain ⟨b', hb, hr⟩ := h 0 a rfl
      simp at hb; exact hb ▸ hr
    · obtain ⟨b', hb, hr⟩ := h (i + 1) x (by simpa using hx)
      exact ⟨b', by simpa using hb, hr⟩
  · rintro ⟨h0, h⟩ i x hx
    cases i with
    | zero => simp at hx; exact ⟨b, rfl, hx ▸ h0⟩
    | succ i => obtain ⟨b', hb, hr⟩ := h i x (by simpa using hx); exact ⟨b', by simpa using hb, hr⟩

theorem Pw.not_cons_nil {a : α} {l : List α} : ¬ Pw R (a :: l) ([] : List β) := by
  intro h; obtain ⟨b, hb, _⟩ := h 0 a rfl; simp at hb

theorem Pw.le {l : List α} {m : List β} (h : Pw R l m) : l.length ≤ m.length := by
  rcases Nat.lt_or_ge m.length l.length with hlt | hge
  · obtain ⟨b, hb, _⟩ := h m.length l[m.length] (by simp [hlt])
    simp at hb
  · exact hge

theorem Pw.imp {R' : α → β → Prop} {l : List α} {m : List β} (h : Pw R l m) (hi : ∀ a, a ∈ l → ∀ b, R a b → R' a b) : Pw R' l m := by
  intro i a ha
  obtain ⟨b, hb, hr⟩ := h i a ha
  exact ⟨b, hb, hi a (List.mem_of_getElem? ha) b hr⟩

theorem Pw.take {l : List α} {m : List β} (h : Pw R l m) (n : Nat) : Pw R (l.take n) m := by
  intro i a ha
  rw [List.getElem?_take] at ha
  split at ha
  · exact h i a ha
  · simp at ha

theorem Pw.take_both {l : List α} {m : List β} (h : Pw R l m) (n : Nat) : Pw R (l.take n) (m.take n) := by
  intro i a ha
  rw [List.getElem?_take] at ha
  split at ha
  · rename_i hi
    obtain ⟨b, hb, hr⟩ := h i a ha
    exact ⟨b, by rw [List.getElem?_take, if_pos hi]; exact hb, hr⟩
  · simp at ha

theorem Pw.drop {l : List α} {m : List β} (h : Pw R l m) (n : Nat) : Pw R (l.drop n) (m.drop n) := by
  intro i a ha
  rw [List.getElem?_drop] at ha
  obtain ⟨b, hb, hr⟩ := h _ a ha
  exact ⟨b, by rw [List.getElem?_drop]; exact hb, hr⟩

theorem Pw.append {l l' : List α} {m m' : List β} (h : Pw R l m) (h' : Pw R l' m') (hl : l.length = m.length) : Pw R (l ++ l') (m ++ m') := by
  intro i a ha
  by_cases hi : i < l.length
  · rw [List.getElem?_append_left hi] at ha
    obtain ⟨b, hb, hr⟩ := h i a ha
    exact ⟨b, by rw [List.getElem?_append_left (hl ▸ hi)]; exact hb, hr⟩
  · rw [List.getElem?_append_right (by omega)] at ha
    obtain ⟨b, hb, hr⟩ := h' _ a ha
    exact ⟨b, by rw [List.getElem?_append_right (by omega), ← hl]; exact hb, hr⟩

theorem Pw.right {l : List α} {m : List β} (h : Pw R l m) (m' : List β) : Pw R l (m ++ m') := by
  intro i a ha
  obtain ⟨b, hb, hr⟩ := h i a ha
  have hi : i < m.length := by
    rcases Nat.lt_or_ge i m.length with hlt | hge
    · exact hlt
    · simp [List.getElem?_eq_none hge] at hb
  exact ⟨b, by rw [List.getElem?_append_left hi]; exact hb, hr⟩

theorem Pw.set {l : List α} {m : List β} (h : Pw R l m) (n : Nat) {a : α} {b : β} (hr : R a b) : Pw R (l.set n a) (m.set n b) := by
  intro i x hx
  rw [List.getElem?_set] at hx
  split at hx
  · rename_i he
    subst he
    split at hx
    · rename_i hlt
      simp at hx; subst hx
      exact ⟨b, by have := h.le; rw [List.getElem?_set_self (by omega)], hr⟩
    · simp at hx
  · rename_i he
    obtain ⟨y, hy, hr'⟩ := h i x hx
    exact ⟨y, by rw [List.getElem?_set_ne he]; exact hy, hr'⟩

theorem Pw.map_left {γ : Type} {f : γ → α} {l : List γ} {m : List β} : Pw R (l.map f) m ↔ Pw (fun c b => R (f c) b) l m := by
  constructor
  · intro h i c hc
    exact h i (f c) (by simp [hc])
  · intro h i a ha
    simp only [List.getElem?_map, Option.map_eq_some_iff] at ha
    obtain ⟨c, hc, rfl⟩ := ha
    exact h i c hc

theorem Pw.map_right {γ : Type} {f : γ → β} {l : List α} {m : List γ} : Pw R l (m.map f) ↔ Pw (fun a c => R a (f c)) l m := by
  constructor
  · intro h i a ha
    obtain ⟨b, hb, hr⟩ := h i a ha
    simp only [List.getElem?_map, Option.map_eq_some_iff] at hb
    obtain ⟨c, hc, rfl⟩ := hb
    exact ⟨c, hc, hr⟩
  · intro h i a ha
    obtain ⟨c, hc, hr⟩ := h i a ha
    exact ⟨f c, by simp [hc], hr⟩

theorem sliceOf_pw {l : List α} {m : List β} {off n : Nat} {r : List α} (h : Pw R l m) (hs : sliceOf l off n = some r) : Pw R r (m.drop off) ∧ r.length = n := by
  simp only [sliceOf] at hs
  split at hs
  · simp only [Option.some.injEq] at hs; subst hs
    rename_i hl
    exact ⟨(h.drop off).take n, hl⟩
  · simp at hs

theorem putAt_pw {l : List α} {m : List β} {off : Nat} {vs : List α} {ws : List β} {r : List α} (h : Pw R l m) (hv : Pw R vs ws) (hl : vs.length = ws.length) (hp : putAt l off vs = some r) :
    off + vs.length ≤ l.length ∧ Pw R r (m.take off ++ ws ++ m.drop (off + ws.length)) := by
  simp only [putAt] at hp
  split at hp
  · rename_i hle
    simp only [Option.some.injEq] at hp; subst hp
    have hm := h.le
    refine ⟨hle, ?_⟩
    refine Pw.append (Pw.append (h.take_both off) hv (by simp; omega)) ?_ (by simp; omega)
    rw [← hl]
    exact h.drop _
  · simp at hp
end pw

/-- Where a block lies: its number, from which cell on, how many cells there are. -/
structure Spot where
  blk : Nat
  base : Nat
  size : Nat
  deriving Inhabited

mutual
def RepC (Φ : Nat → Option Obj) : CV → Value → Prop
  | .junk, _ => True
  | .lit v, w => w = v
  | .cptr cells off, w => ∃ b base cs e fr, w = .pointer (some ⟨b, base + off, none⟩) ∧ Φ b = some (.cells cs e fr) ∧ RepP Φ cells (cs.toList.drop base)
  | .sl cells off len, w => (len = 0 ∧ ((∃ a cap, w = .slice (some a) 0 cap) ∨ w = .slice none 0 0)) ∨
      ∃ b base cap cs e fr, w = .slice (some ⟨b, base + off, none⟩) len cap ∧ len ≤ cap ∧ Φ b = some (.cells cs e fr) ∧ RepP Φ cells (cs.toList.drop base)
  | .cmap keys vals borns clock, w => ∃ r es, w = .map (some r) ∧ Φ r = some (.map es clock) ∧ es.toList.map (·.key) = keys ∧ es.toList.map (·.born) = borns ∧
      vals.length = es.size ∧ RepP Φ vals (es.toList.map (·.val))
  | .func fn a b, w => ∃ a' b', w = .func fn a' b' ∧ a.length = a'.size ∧ RepP Φ a a'.toList ∧ b.length = b'.size ∧ RepP Φ b b'.toList
  | .iface t v, w => ∃ v', w = .iface t v' ∧ RepC Φ v v'
  | .agg cs, w => ∃ cs', w = .agg cs' ∧ cs.length = cs'.size ∧ RepP Φ cs cs'.toList
  | .tuple cs, w => ∃ cs', w = .tuple cs' ∧ cs.length = cs'.size ∧ RepP Φ cs cs'.toList
def RepP (Φ : Nat → Option Obj) : List CV → List Value → Prop
  | [], _ => True
  | c :: cs, v :: vs => RepC Φ c v ∧ RepP Φ cs vs
  | _ :: _, [] => False
end

theorem repP_iff {Φ : Nat → Option Obj} : ∀ {cs : List CV} {vs : List Value}, RepP Φ cs vs ↔ Pw (RepC Φ) cs vs
  | [], vs => by simp [RepP, Pw.nil]
  | c :: cs, [] => by simp only [RepP, false_iff]; exact Pw.not_cons_nil
  | c :: cs, v :: vs => by simp only [RepP, Pw.cons_iff, repP_iff]

/-- What is known of a world: frozen blocks; which of the evaluator's blocks are there, and where. -/
structure G where
  Φ : Nat → Option Obj
  A : Nat → Prop
  j : Nat → Spot

mutual
def Rep (g : G) : AV → Value → Prop
  | .c v, w => RepC g.Φ v w
  | .ptr id off, w => g.A id ∧ w = .pointer (some ⟨(g.j id).blk, (g.j id).base + off, none⟩)
  | .msl id sz off len cap, w => g.A id ∧ ∃ a cap', w = .slice (some a) len cap' ∧ len ≤ cap ∧ cap ≤ cap' ∧
      (cap' = 0 ∨ (a = ⟨(g.j id).blk, (g.j id).base + off, none⟩ ∧ (g.j id).base + off + cap' * sz ≤ (g.j id).size))
  | .map id, w => g.A id ∧ w = .map (some (g.j id).blk)
  | .yield id, w => g.A id ∧ w = .func (.yield (g.j id).blk) #[] #[]
  | .func fn a b, w => ∃ a' b', w = .func fn a' b' ∧ a.length = a'.size ∧ Reps g a a'.toList ∧ b.length = b'.size ∧ Reps g b b'.toList
  | .iface t v, w => ∃ v', w = .iface t v' ∧ Rep g v v'
  | .agg cs, w => ∃ cs', w = .agg cs' ∧ cs.length = cs'.size ∧ Reps g cs cs'.toList
  | .tuple cs, w => ∃ cs', w = .tuple cs' ∧ cs.length = cs'.size ∧ Reps g cs cs'.toList
def Reps (g : G) : List AV → List Value → Prop
  | [], _ => True
  | c :: cs, v :: vs => Rep g c v ∧ Reps g cs vs
  | _ :: _, [] => False
end

theorem reps_iff {g : G} : ∀ {cs : List AV} {vs : List Value}, Reps g cs vs ↔ Pw (Rep g) cs vs
  | [], vs => by simp [Reps, Pw.nil]
  | c :: cs, [] => by simp only [Reps, false_iff]; exact Pw.not_cons_nil
  | c :: cs, v :: vs => by simp only [Reps, Pw.cons_iff, reps_iff]

def RepB (g : G) : AB → Spot → Option Obj → Prop
  | .dead, _, _ => True
  | .blk cells, s, o => ∃ cs e, o = some (.cells cs e (0, 0)) ∧ cs.size = s.size ∧ Pw (Rep g) cells (cs.toList.drop s.base)
  | .map keys vals borns clock, _, o => ∃ es, o = some (.map es clock) ∧ es.toList.map (·.key) = keys ∧ es.toList.map (·.born) = borns ∧
      vals.length = es.size ∧ Pw (Rep g) vals (es.toList.map (·.val))
  | .loop _ tmps params assign body st pending coll, _, o => ∃ fn tm, o = some (.loop { state := st, pending, fn, tmps := tm, params := params.toArray, assign, body, defers := (g.j coll).blk }) ∧
      tmps.n = tm.size ∧ Pw (Rep g) (tmps.toList .undef) tm.toList ∧ g.A coll
  | .coll b, _, o => o = some (.deferred (if b then some [] else none))

def AB.live : AB → Bool
  | .dead => false
  | _ => true

/-- The blocks that the evaluator may write. -/
def Own (g : G) (H : Nat → AB) (b : Nat) : Prop := ∃ id, g.A id ∧ (H id).live = true ∧ (g.j id).blk = b

structure Inv (g : G) (H : Nat → AB) (w : World) : Prop where
  frozen : ∀ b o, g.Φ b = some o → w.heap[b]? = some o
  block : ∀ id, g.A id → RepB g (H id) (g.j id) w.heap[(g.j id).blk]?
  apart : ∀ id, g.A id → (H id).live = true → g.Φ (g.j id).blk = none
  inj : ∀ id id', g.A id → g.A id' → (H id).live = true → (H id').live = true → (g.j id).blk = (g.j id').blk → id = id'

structure G.le (g g' : G) : Prop where
  Φ : ∀ b o, g.Φ b = some o → g'.Φ b = some o
  A : ∀ id, g.A id → g'.A id
  j : ∀ id, g.A id → g'.j id = g.j id

theorem G.le.refl (g : G) : g.le g := ⟨fun _ _ h => h, fun _ h => h, fun _ _ => rfl⟩
theorem G.le.trans {a b c : G} (h : a.le b) (k : b.le c) : a.le c :=
  ⟨fun b o x => k.Φ b o (h.Φ b o x), fun i x => k.A i (h.A i x), fun i x => (k.j i (h.A i x)).trans (h.j i x)⟩

mutual
theorem repC_mono {Φ Φ' : Nat → Option Obj} (h : ∀ b o, Φ b = some o → Φ' b = some o) : ∀ (c : CV) (v : Value), RepC Φ c v → RepC Φ' c v
  | .junk, _, _ => trivial
  | .lit _, _, r => r
  | .cptr cells off, v, r => by
    obtain ⟨b, base, cs, e, fr, h1, h2, h3⟩ := r
    exact ⟨b, base, cs, e, fr, h1, h _ _ h2, repP_mono h _ _ h3⟩
  | .sl cells off len, v, r => by
    rcases r with r | ⟨b, base, cap, cs, e, fr, h1, hc, h2, h3⟩
    · exact .inl r
    · exact .inr ⟨b, base, cap, cs, e, fr, h1, hc, h _ _ h2, repP_mono h _ _ h3⟩
  | .cmap keys vals borns clock, v, r => by
    obtain ⟨r, es, h1, h2, h3, h4, h5, h6⟩ := r
    exact ⟨r, es, h1, h _ _ h2, h3, h4, h5, repP_mono h _ _ h6⟩
  | .func fn a b, v, r => by
    obtain ⟨a', b', h1, h2, h3, h4, h5⟩ := r
    exact ⟨a', b', h1, h2, repP_mono h _ _ h3, h4, repP_mono h _ _ h5⟩
  | .iface t c, v, r => by
    obtain ⟨v', h1, h2⟩ := r
    exact ⟨v', h1, repC_mono h _ _ h2⟩
  | .agg cs, v, r => by
    obtain ⟨v', h1, h2, h3⟩ := r
    exact ⟨v', h1, h2, repP_mono h _ _ h3⟩
  | .tuple cs, v, r => by
    obtain ⟨v', h1, h2, h3⟩ := r
    exact ⟨v', h1, h2, repP_mono h _ _ h3⟩
theorem repP_mono {Φ Φ' : Nat → Option Obj} (h : ∀ b o, Φ b = some o → Φ' b = some o) : ∀ (cs : List CV) (vs : List Value), RepP Φ cs vs → RepP Φ' cs vs
  | [], _, _ => trivial
  | _ :: _, [], r => r
  | _ :: _, _ :: _, r => ⟨repC_mono h _ _ r.1, repP_mono h _ _ r.2⟩
end

mutual
theorem rep_mono {g g' : G} (h : g.le g') : ∀ (c : AV) (v : Value), Rep g c v → Rep g' c v
  | .c _, _, r => repC_mono h.Φ _ _ r
  | .ptr id off, _, r => ⟨h.A _ r.1, by rw [h.j _ r.1]; exact r.2⟩
  | .msl id sz off len cap, _, r => ⟨h.A _ r.1, by rw [h.j _ r.1]; exact r.2⟩
  | .map id, _, r => ⟨h.A _ r.1, by rw [h.j _ r.1]; exact r.2⟩
  | .yield id, _, r => ⟨h.A _ r.1, by rw [h.j _ r.1]; exact r.2⟩
  | .func fn a b, v, r => by
    obtain ⟨a', b', h1, h2, h3, h4, h5⟩ := r
    exact ⟨a', b', h1, h2, reps_mono h _ _ h3, h4, reps_mono h _ _ h5⟩
  | .iface t c, v, r => by
    obtain ⟨v', h1, h2⟩ := r
    exact ⟨v', h1, rep_mono h _ _ h2⟩
  | .agg cs, v, r => by
    obtain ⟨v', h1, h2, h3⟩ := r
    exact ⟨v', h1, h2, reps_mono h _ _ h3⟩
  | .tuple cs, v, r => by
    obtain ⟨v', h1, h2, h3⟩ := r
    exact ⟨v', h1, h2, reps_mono h _ _ h3⟩
theorem reps_mono {g g' : G} (h : g.le g') : ∀ (cs : List AV) (vs : List Value), Reps g cs vs → Reps g' cs vs
  | [], _, _ => trivial
  | _ :: _, [], r => r
  | _ :: _, _ :: _, r => ⟨rep_mono h _ _ r.1, reps_mono h _ _ r.2⟩
end

theorem pw_mono {g g' : G} (h : g.le g') {cs : List AV} {vs : List Value} (r : Pw (Rep g) cs vs) : Pw (Rep g') cs vs :=
  r.imp fun _ _ _ x => rep_mono h _ _ x

theorem repB_mono {g g' : G} (h : g.le g') {b : AB} {s : Spot} {o : Option Obj} (r : RepB g b s o) : RepB g' b s o := by
  cases b with
  | dead => trivial
  | blk cells => obtain ⟨cs, e, h1, h2, h3⟩ := r; exact ⟨cs, e, h1, h2, pw_mono h h3⟩
  | map keys vals borns clock => obtain ⟨es, h1, h2, h3, h4, h5⟩ := r; exact ⟨es, h1, h2, h3, h4, pw_mono h h5⟩
  | loop fn tmps params assign body st pending coll =>
    obtain ⟨fn, tm, h1, h2, h3, h4⟩ := r
    exact ⟨fn, tm, by rw [h.j _ h4]; exact h1, h2, pw_mono h h3, h.A _ h4⟩
  | coll b => exact r

/-- How a state may go on: what is frozen stays, nothing but the evaluator's own blocks is written. -/
structure Evolves (g : G) (H : Nat → AB) (w : World) (g' : G) (H' : Nat → AB) (w' : World) : Prop where
  le : g.le g'
  os : w'.os = w.os
  tape : w'.tape = w.tape
  output : w'.output = w.output
  size : w.heap.size ≤ w'.heap.size
  keep : ∀ b, b < w.heap.size → ¬ Own g H b → w'.heap[b]? = w.heap[b]?
  fro : ∀ b o, g'.Φ b = some o → g.Φ b = some o ∨ Own g H b ∨ w.heap.size ≤ b
  own : ∀ b, Own g' H' b → Own g H b ∨ w.heap.size ≤ b

theorem Evolves.refl (g : G) (H : Nat → AB) (w : World) : Evolves g H w g H w :=
  ⟨.refl g, rfl, rfl, rfl, Nat.le_refl _, fun _ _ _ => rfl, fun _ _ h => .inl h, fun _ h => .inl h⟩

theorem Evolves.trans {g g' g'' : G} {H H' H'' : Nat → AB} {w w' w'' : World} (h : Evolves g H w g' H' w') (k : Evolves g' H' w' g'' H'' w'') : Evolves g H w g'' H'' w'' where
  le := h.le.trans k.le
  os := k.os.trans h.os
  tape := k.tape.trans h.tape
  output := k.output.trans h.output
  size := Nat.le_trans h.size k.size
  keep b hb ho := by
    rw [k.keep b (Nat.lt_of_lt_of_le hb h.size) (fun ho' => by rcases h.own b ho' with h1 | h1; exact ho h1; omega), h.keep b hb ho]
  fro b o hf := by
    rcases k.fro b o hf with h1 | h1 | h1
    · exact h.fro b o h1
    · rcases h.own b h1 with h2 | h2
      · exact .inr (.inl h2)
      · exact .inr (.inr h2)
    · exact .inr (.inr (Nat.le_trans h.size h1))
  own b ho := by
    rcases k.own b ho with h1 | h1
    · exact h.own b h1
    · exact .inr (Nat.le_trans h.size h1)

end Go.Ag
/- Each operation that makes no call does to a world what the evaluator says. -/
namespace Go.Ag

def upd1 (H : Nat → AB) (id : Nat) (b : AB) : Nat → AB := fun i => if i = id then b else H i
def updF (H : Nat → AB) : List (Nat × AB) → Nat → AB
  | [] => H
  | (id, b) :: r => updF (upd1 H id b) r
def effect (H : Nat → AB) (fresh : Nat) (r : SOut) : Nat → AB := match r.fresh with
  | some b => upd1 (updF H r.upds) fresh b
  | none => updF H r.upds

/-- The world differs in no more than its heap and the number of draws. -/
structure SameOut (w w' : World) : Prop where
  os : w'.os = w.os
  tape : w'.tape = w.tape
  output : w'.output = w.output

theorem SameOut.refl (w : World) : SameOut w w := ⟨rfl, rfl, rfl⟩

section effects
variable {g : G} {H : Nat → AB} {w w' : World}

theorem Inv.lt (hi : Inv g H w) {id : Nat} (ha : g.A id) (hl : (H id).live = true) : (g.j id).blk < w.heap.size := by
  have hb := hi.block id ha
  rcases Nat.lt_or_ge (g.j id).blk w.heap.size with h | h
  · exact h
  · rw [Array.getElem?_eq_none h] at hb
    cases hx : H id with
    | dead => simp [hx, AB.live] at hl
    | blk c => rw [hx] at hb; obtain ⟨_, _, h1, _⟩ := hb; simp at h1
    | map a b c d => rw [hx] at hb; obtain ⟨_, h1, _⟩ := hb; simp at h1
    | loop a b c d e f p q => rw [hx] at hb; obtain ⟨_, _, h1, _⟩ := hb; simp at h1
    | coll b => rw [hx] at hb; simp [RepB] at hb

theorem Inv.frozen_lt (hi : Inv g H w) {b : Nat} {o : Obj} (h : g.Φ b = some o) : b < w.heap.size := by
  have := hi.frozen b o h
  rcases Nat.lt_or_ge b w.heap.size with hlt | hge
  · exact hlt
  · simp [Array.getElem?_eq_none hge] at this

/-- The state with one more block of the evaluator's. -/
def G.add (g : G) (id : Nat) (s : Spot) : G := { Φ := g.Φ, A := fun i => g.A i ∨ i = id, j := fun i => if i = id then s else g.j i }

theorem G.le_add (g : G) {id : Nat} (s : Spot) (hn : ¬ g.A id) : g.le (g.add id s) where
  Φ _ _ h := h
  A _ h := .inl h
  j i h := by
    have : i ≠ id := fun e => hn (e ▸ h)
    simp [G.add, this]

/-- A new block. -/
theorem Inv.fresh (hi : Inv g H w) {id : Nat} (hn : ¬ g.A id) {o : Obj} {b : AB} {size : Nat} (hs : SameOut w w') (hh : w'.heap = w.heap.push o)
    (hb : RepB (g.add id ⟨w.heap.size, 0, size⟩) b ⟨w.heap.size, 0, size⟩ (some o)) :
    Inv (g.add id ⟨w.heap.size, 0, size⟩) (upd1 H id b) w' ∧ Evolves g H w (g.add id ⟨w.heap.size, 0, size⟩) (upd1 H id b) w' := by
  have old : ∀ k, k < w.heap.size → w'.heap[k]? = w.heap[k]? := fun k hk => by
    rw [hh, Array.getElem?_push]; simp [Nat.ne_of_lt hk]
  have new : w'.heap[w.heap.size]? = some o := by rw [hh]; simp
  have le := g.le_add ⟨w.heap.size, 0, size⟩ hn
  have ne : ∀ i, g.A i → i ≠ id := fun i h e => hn (e ▸ h)
  have jold : ∀ i, g.A i → (g.add id ⟨w.heap.size, 0, size⟩).j i = g.j i := fun i h => le.j i h
  have jnew : (g.add id ⟨w.heap.size, 0, size⟩).j id = ⟨w.heap.size, 0, size⟩ := by simp [G.add]
  have Hold : ∀ i, g.A i → upd1 H id b i = H i := fun i h => by simp [upd1, ne i h]
  have Hnew : upd1 H id b id = b := by simp [upd1]
  have own : ∀ k, Own (g.add id ⟨w.heap.size, 0, size⟩) (upd1 H id b) k → Own g H k ∨ k = w.heap.size := by
    rintro k ⟨i, hA, hl, hk⟩
    rcases hA with hA | hA
    · rw [Hold i hA] at hl; rw [jold i hA] at hk; exact .inl ⟨i, hA, hl, hk⟩
    · subst hA; rw [jnew] at hk; exact .inr hk.symm
  refine ⟨⟨?_, ?_, ?_, ?_⟩, ⟨le, hs.os, hs.tape, hs.output, by rw [hh]; simp, fun k hk _ => old k hk, fun k o h => .inl h, fun k h => (own k h).imp (fun x => x) fun e => by omega⟩⟩
  · intro k o' h
    rw [old k (hi.frozen_lt h)]; exact hi.frozen k o' h
  · intro i hA
    rcases hA with hA | hA
    · rw [Hold i hA, jold i hA]
      cases hl : (H i).live with
      | true => rw [old _ (hi.lt hA hl)]; exact repB_mono le (hi.block i hA)
      | false => cases hx : H i <;> simp [hx, AB.live] at hl; trivial
    · subst hA; rw [Hnew, jnew, new]; exact hb
  · intro i hA hl
    rcases hA with hA | hA
    · rw [Hold i hA] at hl; rw [jold i hA]; exact hi.apart i hA hl
    · subst hA
      rw [jnew]
      cases hf : g.Φ w.heap.size with
      | none => exact hf
      | some o' => exact absurd (hi.frozen_lt hf) (by omega)
  · intro i i' hA hA' hl hl' he
    rcases hA with hA | hA <;> rcases hA' with hA' | hA'
    · rw [Hold i hA] at hl; rw [Hold i' hA'] at hl'; rw [jold i hA, jold i' hA'] at he; exact hi.inj i i' hA hA' hl hl' he
    · subst hA'; rw [Hold i hA] at hl; rw [jold i hA, jnew] at he; have := hi.lt hA hl; simp at he; omega
    · subst hA; rw [Hold i' hA'] at hl'; rw [jold i' hA', jnew] at he; have := hi.lt hA' hl'; simp at he; omega
    · exact hA.trans hA'.symm

/-- A block of the evaluator's is written. -/
theorem Inv.write (hi : Inv g H w) {id : Nat} (ha : g.A id) (hl : (H id).live = true) {o : Obj} {b : AB} (hs : SameOut w w') (hz : w'.heap.size = w.heap.size)
    (hh : ∀ k, k ≠ (g.j id).blk → w'.heap[k]? = w.heap[k]?) (ho : w'.heap[(g.j id).blk]? = some o) (hb : RepB g b (g.j id) (some o)) :
    Inv g (upd1 H id b) w' ∧ Evolves g H w g (upd1 H id b) w' := by
  have Hold : ∀ i, i ≠ id → upd1 H id b i = H i := fun i h => by simp [upd1, h]
  have Hnew : upd1 H id b id = b := by simp [upd1]
  have own : ∀ k, Own g (upd1 H id b) k → Own g H k := by
    rintro k ⟨i, hA, hL, hk⟩
    by_cases e : i = id
    · subst e; exact ⟨i, ha, hl, hk⟩
    · rw [Hold i e] at hL; exact ⟨i, hA, hL, hk⟩
  have apart : ∀ i, g.A i → i ≠ id → (H i).live = true → (g.j i).blk ≠ (g.j id).blk := fun i hA e hL he => e (hi.inj i id hA ha hL hl he)
  refine ⟨⟨?_, ?_, ?_, ?_⟩, ⟨.refl g, hs.os, hs.tape, hs.output, by omega, fun k hk hno => hh k fun e => hno ⟨id, ha, hl, e.symm⟩, fun k o h => .inl h, fun k h => .inl (own k h)⟩⟩
  · intro k o' h
    rw [hh k (fun e => by have := hi.apart id ha hl; rw [← e, h] at this; cases this)]; exact hi.frozen k o' h
  · intro i hA
    by_cases e : i = id
    · subst e; rw [Hnew, ho]; exact hb
    · rw [Hold i e]
      cases hL : (H i).live with
      | true => rw [hh _ (apart i hA e hL)]; exact hi.block i hA
      | false => cases hx : H i <;> simp [hx, AB.live] at hL; trivial
  · intro i hA hL
    by_cases e : i = id
    · subst e; exact hi.apart i ha hl
    · rw [Hold i e] at hL; exact hi.apart i hA hL
  · intro i i' hA hA' hL hL' he
    have h1 : (H i).live = true := by by_cases e : i = id; subst e; exact hl; rwa [Hold i e] at hL
    have h2 : (H i').live = true := by by_cases e : i' = id; subst e; exact hl; rwa [Hold i' e] at hL'
    exact hi.inj i i' hA hA' h1 h2 he

/-- A block is let go. -/
theorem Inv.kill (hi : Inv g H w) (id : Nat) : Inv g (upd1 H id .dead) w ∧ Evolves g H w g (upd1 H id .dead) w := by
  have sub : ∀ i, (upd1 H id .dead i).live = true → (H i).live = true := by
    intro i h
    by_cases e : i = id
    · subst e; simp [upd1, AB.live] at h
    · simpa [upd1, e] using h
  refine ⟨⟨hi.frozen, ?_, fun i hA h => hi.apart i hA (sub i h), fun i i' hA hA' h h' => hi.inj i i' hA hA' (sub i h) (sub i' h')⟩,
    ⟨.refl g, rfl, rfl, rfl, Nat.le_refl _, fun _ _ _ => rfl, fun _ _ h => .inl h, fun k ⟨i, hA, h, hk⟩ => .inl ⟨i, hA, sub i h, hk⟩⟩⟩
  intro i hA
  by_cases e : i = id
  · subst e; simp [upd1, RepB]
  · simp only [upd1, e, if_false]; exact hi.block i hA

/-- A block is let go, and written under a new name. -/
theorem Inv.rename (hi : Inv g H w) {id fr : Nat} (ha : g.A id) (hl : (H id).live = true) (hn : ¬ g.A fr) {o : Obj} {b : AB} {base : Nat} (hs : SameOut w w') (hz : w'.heap.size = w.heap.size)
    (hh : ∀ k, k ≠ (g.j id).blk → w'.heap[k]? = w.heap[k]?) (ho : w'.heap[(g.j id).blk]? = some o)
    (hb : RepB (g.add fr ⟨(g.j id).blk, base, (g.j id).size⟩) b ⟨(g.j id).blk, base, (g.j id).size⟩ (some o)) :
    Inv (g.add fr ⟨(g.j id).blk, base, (g.j id).size⟩) (upd1 (upd1 H id .dead) fr b) w' ∧ Evolves g H w (g.add fr ⟨(g.j id).blk, base, (g.j id).size⟩) (upd1 (upd1 H id .dead) fr b) w' := by
  have le := g.le_add ⟨(g.j id).blk, base, (g.j id).size⟩ hn
  have ne : ∀ i, g.A i → i ≠ fr := fun i h e => hn (e ▸ h)
  have jold : ∀ i, g.A i → (g.add fr ⟨(g.j id).blk, base, (g.j id).size⟩).j i = g.j i := fun i h => le.j i h
  have jnew : (g.add fr ⟨(g.j id).blk, base, (g.j id).size⟩).j fr = ⟨(g.j id).blk, base, (g.j id).size⟩ := by simp [G.add]
  have Hold : ∀ i, g.A i → i ≠ id → upd1 (upd1 H id .dead) fr b i = H i := fun i h e => by simp [upd1, ne i h, e]
  have Hid : upd1 (upd1 H id .dead) fr b id = .dead := by simp [upd1, ne id ha]
  have Hnew : upd1 (upd1 H id .dead) fr b fr = b := by simp [upd1]
  have apart : ∀ i, g.A i → i ≠ id → (H i).live = true → (g.j i).blk ≠ (g.j id).blk := fun i hA e hL he => e (hi.inj i id hA ha hL hl he)
  have own : ∀ k, Own (g.add fr ⟨(g.j id).blk, base, (g.j id).size⟩) (upd1 (upd1 H id .dead) fr b) k → Own g H k := by
    rintro k ⟨i, hA, hL, hk⟩
    rcases hA with hA | hA
    · by_cases e : i = id
      · subst e; rw [Hid] at hL; simp [AB.live] at hL
      · rw [Hold i hA e] at hL; rw [jold i hA] at hk; exact ⟨i, hA, hL, hk⟩
    · subst hA; rw [jnew] at hk; exact ⟨id, ha, hl, hk⟩
  refine ⟨⟨?_, ?_, ?_, ?_⟩, ⟨le, hs.os, hs.tape, hs.output, by omega, fun k hk hno => hh k fun e => hno ⟨id, ha, hl, e.symm⟩, fun k o h => .inl h, fun k h => .inl (own k h)⟩⟩
  · intro k o' h
    rw [hh k (fun e => by have := hi.apart id ha hl; rw [← e, show g.Φ k = some o' from h] at this; cases this)]; exact hi.frozen k o' h
  · intro i hA
    rcases hA with hA | hA
    · by_cases e : i = id
      · subst e; rw [Hid]; trivial
      · rw [Hold i hA e, jold i hA]
        cases hL : (H i).live with
        | true => rw [hh _ (apart i hA e hL)]; exact repB_mono le (hi.block i hA)
        | false => cases hx : H i <;> simp [hx, AB.live] at hL; trivial
    · subst hA; rw [Hnew, jnew, ho]; exact hb
  · intro i hA hL
    rcases hA with hA | hA
    · by_cases e : i = id
      · subst e; rw [Hid] at hL; simp [AB.live] at hL
      · rw [Hold i hA e] at hL; rw [jold i hA]; exact hi.apart i hA hL
    · subst hA; rw [jnew]; exact hi.apart id ha hl
  · have one : ∀ i, g.A i → (upd1 (upd1 H id .dead) fr b i).live = true → i ≠ id ∧ (H i).live = true := fun i hA hL => by
      by_cases e : i = id
      · subst e; rw [Hid] at hL; simp [AB.live] at hL
      · rw [Hold i hA e] at hL; exact ⟨e, hL⟩
    intro i i' hA hA' hL hL' he
    rcases hA with hA | hA <;> rcases hA' with hA' | hA'
    · rw [jold i hA, jold i' hA'] at he; exact hi.inj i i' hA hA' (one i hA hL).2 (one i' hA' hL').2 he
    · subst hA'; rw [jold i hA, jnew] at he; exact absurd he (apart i hA (one i hA hL).1 (one i hA hL).2)
    · subst hA; rw [jold i' hA', jnew] at he; exact absurd he.symm (apart i' hA' (one i' hA' hL').1 (one i' hA' hL').2)
    · exact hA.trans hA'.symm
end effects
end Go.Ag
/- Operations that look at no memory, and reading. -/
namespace Go.Ag

theorem pureRun_sound {α : Type} (P : Program) : ∀ (s : Sem α) (a : α), pureRun P s = some a → ∀ w, s.run P w = .ok a w := by
  intro s
  induction s with
  | pure a => intro b h w; simp only [pureRun, Option.some.injEq] at h; subst h; rfl
  | program k ih => intro b h w; simp only [pureRun] at h; simp only [Sem.run]; exact ih P b h w
  | mark m k ih => intro b h w; simp only [pureRun] at h; simp only [Sem.run]; exact ih b h w
  | _ => intro b h w; simp [pureRun] at h

mutual
theorem toVal_rep {Φ : Nat → Option Obj} : ∀ (c : CV) (v : Value), RepC Φ c v → ∀ u, c.toVal = some u → v = u
  | .lit _, v, r, u, h => by simp only [CV.toVal, Option.some.injEq] at h; subst h; exact r
  | .agg cs, v, r, u, h => by
    simp only [CV.toVal, Option.map_eq_some_iff] at h
    obtain ⟨l, hl, rfl⟩ := h
    obtain ⟨cs', rfl, h2, h3⟩ := r
    have := toVals_rep cs cs'.toList (by simpa using h2) h3 l hl
    rw [← this]
  | .tuple cs, v, r, u, h => by
    simp only [CV.toVal, Option.map_eq_some_iff] at h
    obtain ⟨l, hl, rfl⟩ := h
    obtain ⟨cs', rfl, h2, h3⟩ := r
    have := toVals_rep cs cs'.toList (by simpa using h2) h3 l hl
    rw [← this]
  | .iface t c, v, r, u, h => by
    simp only [CV.toVal, Option.map_eq_some_iff] at h
    obtain ⟨l, hl, rfl⟩ := h
    obtain ⟨v', rfl, h2⟩ := r
    rw [toVal_rep c v' h2 l hl]
  | .func fn a b, v, r, u, h => by
    simp only [CV.toVal, Option.bind_eq_some_iff, Option.map_eq_some_iff] at h
    obtain ⟨l, hl, m, hm, rfl⟩ := h
    obtain ⟨a', b', rfl, h2, h3, h4, h5⟩ := r
    rw [← toVals_rep a a'.toList (by simpa using h2) h3 l hl, ← toVals_rep b b'.toList (by simpa using h4) h5 m hm]
  | .junk, _, _, _, h => by simp [CV.toVal] at h
  | .cptr .., _, _, _, h => by simp [CV.toVal] at h
  | .sl .., _, _, _, h => by simp [CV.toVal] at h
  | .cmap .., _, _, _, h => by simp [CV.toVal] at h
theorem toVals_rep {Φ : Nat → Option Obj} : ∀ (cs : List CV) (vs : List Value), cs.length = vs.length → RepP Φ cs vs → ∀ us, CV.toVals cs = some us → vs = us
  | [], [], _, _, us, h => by simp only [CV.toVals, Option.some.injEq] at h; exact h
  | [], _ :: _, hl, _, _, _ => by simp at hl
  | _ :: _, [], hl, _, _, _ => by simp at hl
  | c :: cs, v :: vs, hl, r, us, h => by
    simp only [CV.toVals, Option.bind_eq_some_iff, Option.map_eq_some_iff] at h
    obtain ⟨u, hu, l, hl', rfl⟩ := h
    rw [toVal_rep c v r.1 u hu, toVals_rep cs vs (by simpa using hl) r.2 l hl']
end

theorem AV.toVal_rep {g : G} {c : AV} {v u : Value} (r : Rep g c v) (h : c.toVal = some u) : v = u := by
  cases c with
  | c x => exact Ag.toVal_rep x v r u h
  | _ => simp [AV.toVal] at h

theorem repP_lits {Φ : Nat → Option Obj} : ∀ (vs : List Value), RepP Φ (vs.map .lit) vs
  | [] => trivial
  | _ :: vs => ⟨rfl, repP_lits vs⟩

theorem repC_ofVal1 {Φ : Nat → Option Obj} (v : Value) : RepC Φ (CV.ofVal1 v) v := by
  cases v <;> simp only [CV.ofVal1]
  case agg cs => exact ⟨cs, rfl, by simp, repP_lits _⟩
  case iface t v => exact ⟨v, rfl, rfl⟩
  all_goals rfl

theorem repP_ofVal1 {Φ : Nat → Option Obj} : ∀ (vs : List Value), RepP Φ (vs.map CV.ofVal1) vs
  | [] => trivial
  | v :: vs => ⟨repC_ofVal1 v, repP_ofVal1 vs⟩

theorem repC_ofVal {Φ : Nat → Option Obj} (v : Value) : RepC Φ (CV.ofVal v) v := by
  cases v <;> simp only [CV.ofVal]
  case tuple cs => exact ⟨cs, rfl, by simp, repP_ofVal1 _⟩
  all_goals exact repC_ofVal1 _

theorem allC_rep {g : G} : ∀ {cs : List AV} {l : List CV} {vs : List Value}, allC cs = some l → Pw (Rep g) cs vs → l.length = cs.length ∧ RepP g.Φ l vs
  | [], l, vs, h, _ => by simp only [allC, Option.some.injEq] at h; subst h; exact ⟨rfl, trivial⟩
  | .c v :: r, l, [], h, p => absurd p Pw.not_cons_nil
  | .c v :: r, l, w :: ws, h, p => by
    simp only [allC, Option.map_eq_some_iff] at h
    obtain ⟨l', hl, rfl⟩ := h
    obtain ⟨p0, p1⟩ := Pw.cons_iff.1 p
    obtain ⟨h1, h2⟩ := allC_rep hl p1
    exact ⟨by simp [h1], p0, h2⟩
  | .ptr .. :: _, _, _, h, _ => by simp [allC] at h
  | .msl .. :: _, _, _, h, _ => by simp [allC] at h
  | .map .. :: _, _, _, h, _ => by simp [allC] at h
  | .yield .. :: _, _, _, h, _ => by simp [allC] at h
  | .func .. :: _, _, _, h, _ => by simp [allC] at h
  | .iface .. :: _, _, _, h, _ => by simp [allC] at h
  | .agg .. :: _, _, _, h, _ => by simp [allC] at h
  | .tuple .. :: _, _, _, h, _ => by simp [allC] at h

theorem rep_mkAgg {g : G} {cs : List AV} {vs : Array Value} (h : Pw (Rep g) cs vs.toList) (hl : cs.length = vs.size) : Rep g (mkAgg cs) (.agg vs) := by
  unfold mkAgg
  cases ha : allC cs with
  | none => exact ⟨vs, rfl, hl, reps_iff.2 h⟩
  | some l => obtain ⟨h1, h2⟩ := allC_rep ha h; exact ⟨vs, rfl, by omega, h2⟩

theorem rep_mkTuple {g : G} {cs : List AV} {vs : Array Value} (h : Pw (Rep g) cs vs.toList) (hl : cs.length = vs.size) : Rep g (mkTuple cs) (.tuple vs) := by
  unfold mkTuple
  cases ha : allC cs with
  | none => exact ⟨vs, rfl, hl, reps_iff.2 h⟩
  | some l => obtain ⟨h1, h2⟩ := allC_rep ha h; exact ⟨vs, rfl, by omega, h2⟩

theorem rep_mkIface {g : G} {c : AV} {v : Value} (t : TypeId) (h : Rep g c v) : Rep g (mkIface t c) (.iface t v) := by
  cases c <;> exact ⟨v, rfl, h⟩

theorem rep_mkFunc {g : G} {a b : List AV} {a' b' : Array Value} (fn : Fn) (h : Pw (Rep g) a a'.toList) (hl : a.length = a'.size) (h' : Pw (Rep g) b b'.toList) (hl' : b.length = b'.size) :
    Rep g (mkFunc fn a b) (.func fn a' b') := by
  unfold mkFunc
  cases ha : allC a with
  | none => exact ⟨a', b', rfl, hl, reps_iff.2 h, hl', reps_iff.2 h'⟩
  | some l =>
    cases hb : allC b with
    | none => exact ⟨a', b', rfl, hl, reps_iff.2 h, hl', reps_iff.2 h'⟩
    | some m =>
      obtain ⟨h1, h2⟩ := allC_rep ha h
      obtain ⟨h3, h4⟩ := allC_rep hb h'
      exact ⟨a', b', rfl, by omega, h2, by omega, h4⟩

/-- The cells of a value. -/
theorem rep_cells {g : G} {c : AV} {v : Value} (h : Rep g c v) (hc : c.cells.all AV.cellish = true) : Pw (Rep g) c.cells v.cells.toList ∧ c.cells.length = v.cells.size ∧ ∀ x ∈ v.cells.toList, x.oneCell' = true := by
  have one : ∀ (c : AV) (v : Value), Rep g c v → c.cellish = true → v.oneCell' = true ∧ v.cells = #[v] := by
    intro c v h hc
    cases c with
    | c x =>
      cases x with
      | junk => simp [AV.cellish] at hc
      | lit u =>
        simp only [Rep, RepC] at h; subst h
        cases v <;> first | (simp [AV.cellish] at hc; done) | exact ⟨rfl, rfl⟩
      | cptr cells off => obtain ⟨_, _, _, _, _, rfl, _⟩ := h; exact ⟨rfl, rfl⟩
      | sl cells off len => rcases h with ⟨_, ⟨_, _, rfl⟩ | rfl⟩ | ⟨_, _, _, _, _, _, rfl, _⟩ <;> exact ⟨rfl, rfl⟩
      | cmap a b c d => obtain ⟨_, _, rfl, _⟩ := h; exact ⟨rfl, rfl⟩
      | func fn a b => obtain ⟨_, _, rfl, _⟩ := h; exact ⟨rfl, rfl⟩
      | iface t v => obtain ⟨_, rfl, _⟩ := h; exact ⟨rfl, rfl⟩
      | agg cs => simp [AV.cellish] at hc
      | tuple cs => simp [AV.cellish] at hc
    | ptr id off => obtain ⟨_, rfl⟩ := h; exact ⟨rfl, rfl⟩
    | msl id sz off len cap => obtain ⟨_, _, _, rfl, _⟩ := h; exact ⟨rfl, rfl⟩
    | map id => obtain ⟨_, rfl⟩ := h; exact ⟨rfl, rfl⟩
    | yield id => obtain ⟨_, rfl⟩ := h; exact ⟨rfl, rfl⟩
    | func fn a b => obtain ⟨_, _, rfl, _⟩ := h; exact ⟨rfl, rfl⟩
    | iface t v => obtain ⟨_, rfl, _⟩ := h; exact ⟨rfl, rfl⟩
    | agg cs => simp [AV.cellish] at hc
    | tuple cs => simp [AV.cellish] at hc
  have many : ∀ (cs : List AV) (vs : List Value), Pw (Rep g) cs vs → cs.length = vs.length → cs.all AV.cellish = true → ∀ x ∈ vs, x.oneCell' = true := by
    intro cs vs hp hl ha x hx
    obtain ⟨i, hi⟩ := List.getElem?_of_mem hx
    have hlt : i < vs.length := by
      rcases Nat.lt_or_ge i vs.length with h | h
      · exact h
      · simp [List.getElem?_eq_none h] at hi
    obtain ⟨b, hb, hr⟩ := hp i cs[i] (by simp)
    rw [hi] at hb; cases hb
    exact (one _ _ hr (by rw [List.all_eq_true] at ha; exact ha _ (List.getElem_mem _))).1
  have single : c.cells = [c] → Pw (Rep g) c.cells v.cells.toList ∧ c.cells.length = v.cells.size ∧ ∀ x ∈ v.cells.toList, x.oneCell' = true := by
    intro e
    rw [e] at hc ⊢
    simp only [List.all_cons, List.all_nil, Bool.and_true] at hc
    obtain ⟨h1, h2⟩ := one c v h hc
    rw [h2]
    exact ⟨Pw.cons_iff.2 ⟨h, Pw.nil _⟩, rfl, by simpa using h1⟩
  cases c with
  | agg cs =>
    obtain ⟨cs', rfl, hl, hp⟩ := h
    have hp := reps_iff.1 hp
    exact ⟨hp, hl, many cs cs'.toList hp (by simpa using hl) hc⟩
  | c x =>
    cases x with
    | agg cs =>
      obtain ⟨cs', rfl, hl, hp⟩ := h
      have hp : Pw (Rep g) (cs.map .c) cs'.toList := Pw.map_left.2 (repP_iff.1 hp)
      exact ⟨hp, (List.length_map _).trans hl, many (cs.map .c) cs'.toList hp (by simpa using hl) hc⟩
    | _ => exact single rfl
  | _ => exact single rfl

theorem run_isAgg {P : Program} {t : TypeId} {d : TypeDesc} (h : P.underlying t = some d) (w : World) : (isAgg t).run P w = .ok (isAggB P t) w := by
  unfold isAgg isAggB
  rw [Sem.run_bind, run_underlying h w]
  simp only [Result.andThen_ok, h]
  cases d <;> rfl

theorem run_sizeOf' {P : Program} {t : TypeId} {i : TypeInfo} (h : P.info? t = some i) (w : World) : (sizeOf t).run P w = .ok i.size w := by
  simp [sizeOf, typeInfo, h]

theorem addr_add (b o n : Nat) : (⟨b, o, none⟩ : Addr).add n = ⟨b, o + n, none⟩ := by
  unfold Addr.add; split <;> simp_all

/-- Reading a variable out of a row of cells. -/
theorem run_loadVar {P : Program} {w : World} {t : TypeId} {b o : Nat} {cs : Array Value} {e : TypeId} {fr : Nat × Nat} (hg : w.heap[b]? = some (.cells cs e fr)) {d : TypeDesc} (hd : P.underlying t = some d) :
    (isAggB P t = false → ∀ v, cs[o]? = some v → (loadVar t ⟨b, o, none⟩).run P w = .ok v w) ∧
    (isAggB P t = true → ∀ i, P.info? t = some i → o + i.size ≤ cs.size → (loadVar t ⟨b, o, none⟩).run P w = .ok (.agg (((cs.toList.drop o).take i.size).toArray)) w) := by
  have cell : ∀ j, w.cell? ⟨b, j, none⟩ = cs[j]? := fun j => by simp [World.cell?, hg]
  constructor
  · intro ha v hv
    simp only [loadVar, Sem.run_bind, run_isAgg hd, Result.andThen_ok, ha, Bool.false_eq_true, if_false, run_load, cell, hv]
  · intro ha i hi hle
    have hl := run_loadCells_list (P := P) w ⟨b, o, none⟩ ((cs.toList.drop o).take i.size) (fun j v hv => by
      rw [addr_add, cell]
      rw [List.getElem?_take] at hv
      split at hv
      · rw [List.getElem?_drop] at hv; simpa using hv
      · simp at hv)
    have hlen : ((cs.toList.drop o).take i.size).length = i.size := by simp; omega
    rw [hlen] at hl
    simp only [loadVar, Sem.run_bind, run_isAgg hd, Result.andThen_ok, ha, if_true, run_sizeOf' hi, hl, Sem.run_pure]

theorem readVar_run {P : Program} {g : G} {w : World} {t : TypeId} {cells : List AV} {off base b : Nat} {cs : Array Value} {e : TypeId} {fr : Nat × Nat} {v : AV}
    (hg : w.heap[b]? = some (.cells cs e fr)) (hp : Pw (Rep g) cells (cs.toList.drop base)) (h : readVar P t cells off = some v) :
    ∃ u, (loadVar t ⟨b, base + off, none⟩).run P w = .ok u w ∧ Rep g v u := by
  unfold readVar at h
  split at h
  · rename_i ha
    simp only [Option.bind_eq_some_iff, Option.map_eq_some_iff] at h
    obtain ⟨i, hi, l, hl, rfl⟩ := h
    obtain ⟨h1, h2⟩ := sliceOf_pw hp hl
    have hle := hp.le
    obtain ⟨d, hd⟩ : ∃ d, P.underlying t = some d := by
      unfold isAggB at ha; split at ha <;> first | exact ⟨_, by assumption⟩ | simp at ha
    have hsz : base + off + i.size ≤ cs.size ∨ i.size = 0 := by
      have h3 : l = (cells.drop off).take i.size := by
        simp only [sliceOf] at hl; split at hl <;> simp at hl; exact hl.symm
      have h4 : i.size ≤ cells.length - off := by rw [h3] at h2; simp at h2; omega
      have h5 : cells.length ≤ cs.size - base := by simpa using hle
      omega
    have hpl : Pw (Rep g) l ((cs.toList.drop (base + off)).take i.size) := by
      rw [List.drop_drop] at h1
      have := h1.take_both i.size
      rwa [List.take_of_length_le (Nat.le_of_eq h2)] at this
    have hlen : ((cs.toList.drop (base + off)).take i.size).length = i.size := by
      rcases hsz with h | h
      · simp only [List.length_take, List.length_drop, Array.length_toList]; omega
      · simp [h]
    have hrun := (run_loadVar (P := P) (o := base + off) hg hd).2 ha i hi
    by_cases h0 : i.size = 0
    · refine ⟨.agg #[], ?_, ?_⟩
      · simp only [loadVar, Sem.run_bind, run_isAgg hd, Result.andThen_ok, ha, if_true, run_sizeOf' hi, h0, loadCells, loadCellsFrom, Sem.run_pure]
      · refine rep_mkAgg ?_ (by rw [h2, h0]; rfl)
        have : l = [] := List.length_eq_zero_iff.1 (by omega)
        subst this; exact Pw.nil _
    · exact ⟨_, hrun (hsz.resolve_right h0), rep_mkAgg (by simpa using hpl) (by simp; simp at hlen; omega)⟩
  · rename_i ha
    split at h
    · rename_i hu
      obtain ⟨d, hd⟩ := Option.isSome_iff_exists.1 hu
      obtain ⟨u, hu, hr⟩ := hp _ _ h
      refine ⟨u, (run_loadVar (P := P) hg hd).1 (by simpa using ha) u ?_, hr⟩
      rw [List.getElem?_drop] at hu; simpa using hu
    · simp at h

theorem readVarC_eq {P : Program} {t : TypeId} {cells : List CV} {off : Nat} {v : CV} (h : readVarC P t cells off = some v) : readVar P t (cells.map .c) off = some (.c v) := by
  unfold readVarC at h
  unfold readVar
  split at h
  · rename_i ha
    simp only [ha, if_true]
    simp only [Option.bind_eq_some_iff, Option.map_eq_some_iff] at h ⊢
    obtain ⟨i, hi, l, hl, rfl⟩ := h
    refine ⟨i, hi, l.map .c, ?_, ?_⟩
    · simp only [sliceOf] at hl ⊢
      split at hl <;> simp at hl
      subst hl
      rename_i hlen
      simp at hlen ⊢
      exact hlen
    · have : ∀ l : List CV, allC (l.map .c) = some l := by
        intro l
        induction l with
        | nil => rfl
        | cons a l ih => simp [allC, ih]
      simp [mkAgg, this]
  · rename_i ha
    simp only [ha]
    split at h
    · rename_i hu
      simp [hu, h]
    · simp at h

end Go.Ag
/- What each operation without a call does (part A: values, blocks). -/
namespace Go.Ag

def Fits (g : G) (H : Nat → AB) (w : World) (fresh : Nat) (r : SOut) (res : Result Next) : Prop :=
  ∃ v w' g', (res = .ok (.value v) w' ∨ (res = .ok .skip w' ∧ v = Go.undef)) ∧ Rep g' r.val v ∧ Inv g' (effect H fresh r) w' ∧ Evolves g H w g' (effect H fresh r) w' ∧
    (∀ i, g'.A i ↔ (g.A i ∨ (r.fresh.isSome = true ∧ i = fresh))) ∧ ∀ p ∈ r.upds, g.A p.1

section
variable {P : Program} {g : G} {H : Nat → AB} {w : World} {fresh : Nat}

theorem fits_val (hi : Inv g H w) {v : AV} {reads : List Nat} {u : Value} {res : Result Next} (hr : res = .ok (.value u) w) (h : Rep g v u) : Fits g H w fresh { val := v, reads } res :=
  ⟨u, w, g, .inl hr, h, hi, .refl _ _ _, by simp, by simp⟩

theorem fits_fresh (hi : Inv g H w) (hn : ¬ g.A fresh) {v : AV} {reads : List Nat} {b : AB} {u : Value} {o : Obj} {size : Nat} {w' : World} {res : Result Next} (hr : res = .ok (.value u) w')
    (hs : SameOut w w') (hh : w'.heap = w.heap.push o) (hb : RepB (g.add fresh ⟨w.heap.size, 0, size⟩) b ⟨w.heap.size, 0, size⟩ (some o)) (h : Rep (g.add fresh ⟨w.heap.size, 0, size⟩) v u) :
    Fits g H w fresh { val := v, reads, fresh := some b } res := by
  obtain ⟨h1, h2⟩ := hi.fresh hn (size := size) hs hh hb
  exact ⟨u, w', _, .inl hr, h, h1, h2, by simp [G.add], by simp⟩

theorem fits_write (hi : Inv g H w) {id : Nat} (ha : g.A id) (hl : (H id).live = true) {v : AV} {reads : List Nat} {b : AB} {u : Value} {o : Obj} {w' : World} {res : Result Next}
    (hr : res = .ok (.value u) w' ∨ (res = .ok .skip w' ∧ u = Go.undef)) (hs : SameOut w w') (hz : w'.heap.size = w.heap.size)
    (hh : ∀ k, k ≠ (g.j id).blk → w'.heap[k]? = w.heap[k]?) (ho : w'.heap[(g.j id).blk]? = some o) (hb : RepB g b (g.j id) (some o)) (h : Rep g v u) :
    Fits g H w fresh { val := v, reads, upds := [(id, b)] } res := by
  obtain ⟨h1, h2⟩ := hi.write ha hl hs hz hh ho hb
  exact ⟨u, w', g, hr, h, h1, h2, by simp, by simpa using ha⟩

theorem Inv.blk (hi : Inv g H w) {id : Nat} (ha : g.A id) {cells : List AV} (hb : H id = .blk cells) :
    ∃ cs e, w.heap[(g.j id).blk]? = some (.cells cs e (0, 0)) ∧ cs.size = (g.j id).size ∧ Pw (Rep g) cells (cs.toList.drop (g.j id).base) := by
  have := hi.block id ha; rw [hb] at this; exact this

theorem rep_undef : Rep g AV.undef Go.undef := rfl

theorem rep_toInt {c : AV} {v : Value} {n : Int} (h : Rep g c v) (ha : asInt c = some n) : ∃ k, v = .int k n := by
  unfold asInt at ha
  split at ha
  · simp at ha; subst ha; exact ⟨_, h⟩
  · simp at ha

theorem rep_toBool {c : AV} {v : Value} {b : Bool} (h : Rep g c v) (ha : asBool c = some b) : v = .bool b := by
  unfold asBool at ha
  split at ha
  · simp at ha; subst ha; exact h
  · simp at ha

theorem zeroCells_run {t : TypeId} {cs : List AV} (h : zeroCells P t = some cs) : ∃ z, (∀ w, (zeroValue t).run P w = .ok z w) ∧ Pw (Rep g) cs z.cells.toList ∧ cs.length = z.cells.size := by
  simp only [zeroCells, Option.map_eq_some_iff, Option.bind_eq_some_iff] at h
  obtain ⟨z, ⟨i, hi, hz⟩, rfl⟩ := h
  refine ⟨z, fun w => ?_, ?_, by simp⟩
  · simp [zeroValue, typeInfo, hi, hz]
  · rw [Pw.map_left]
    intro i a ha
    exact ⟨a, ha, rfl⟩

theorem run_newRow (e : TypeId) (cs : Array Value) : (newRow e cs).run P w = .ok ⟨w.heap.size, 0, none⟩ (w.alloc (.cells cs e)) := by
  simp [newRow]

theorem alloc_heap (o : Obj) : (w.alloc o).heap = w.heap.push o := rfl
theorem alloc_out (o : Obj) : SameOut w (w.alloc o) := ⟨rfl, rfl, rfl⟩

theorem repB_new {id : Nat} {cs : List AV} {vs : Array Value} {e : TypeId} (hn : ¬ g.A id) (h : Pw (Rep g) cs vs.toList) :
    RepB (g.add id ⟨w.heap.size, 0, vs.size⟩) (.blk cs) ⟨w.heap.size, 0, vs.size⟩ (some (.cells vs e)) :=
  ⟨vs, e, rfl, rfl, by simpa using pw_mono (g.le_add _ hn) h⟩

theorem sim_alloc (hi : Inv g H w) (hn : ¬ g.A fresh) {t : TypeId} {cs : List AV} (h : zeroCells P t = some cs) :
    Fits g H w fresh { val := .ptr fresh 0, fresh := some (.blk cs) } ((do pure (.value (← Instr.alloc t true (.tuple #[]))) : Sem Next).run P w) := by
  obtain ⟨z, hz, hp, hl⟩ := zeroCells_run (g := g) h
  refine fits_fresh hi hn (size := z.cells.size) (o := .cells z.cells t) (u := .pointer (some ⟨w.heap.size, 0, none⟩)) (w' := w.alloc (.cells z.cells t)) ?_ (alloc_out _) (alloc_heap _) (repB_new hn hp) ⟨.inr rfl, by simp [G.add]⟩
  simp [Instr.alloc, hz, newVar, run_newRow]

theorem sim_box (hi : Inv g H w) (hn : ¬ g.A fresh) {t : TypeId} {c : AV} {v : Value} (hr : Rep g c v) (hc : c.cells.all AV.cellish = true) :
    Fits g H w fresh { val := .ptr fresh 0, fresh := some (.blk c.cells) } ((do pure (.value (← Instr.box t v)) : Sem Next).run P w) := by
  obtain ⟨hp, hl, _⟩ := rep_cells hr hc
  refine fits_fresh hi hn (size := v.cells.size) (o := .cells v.cells t) (u := .pointer (some ⟨w.heap.size, 0, none⟩)) (w' := w.alloc (.cells v.cells t)) ?_ (alloc_out _) (alloc_heap _) (repB_new hn hp) ⟨.inr rfl, by simp [G.add]⟩
  simp [Instr.box, newVar, run_newRow]

theorem sim_load (hi : Inv g H w) {t : TypeId} {id off : Nat} {a : Value} {cells : List AV} {v : AV} (hr : Rep g (.ptr id off) a) (hb : H id = .blk cells) (h : readVar P t cells off = some v) :
    Fits g H w fresh { val := v, reads := [id] } ((do pure (.value (← Instr.loadAt t a)) : Sem Next).run P w) := by
  obtain ⟨ha, rfl⟩ := hr
  obtain ⟨cs, e, h1, h2, h3⟩ := hi.blk ha hb
  obtain ⟨u, hu, hv⟩ := readVar_run (P := P) h1 h3 h
  refine fits_val hi ?_ hv
  simp [Instr.loadAt, Instr.sureAddr, hu]

theorem sim_loadC (hi : Inv g H w) {t : TypeId} {cells : List CV} {off : Nat} {a : Value} {v : CV} (hr : RepC g.Φ (.cptr cells off) a) (h : readVarC P t cells off = some v) :
    ∃ u, (Instr.loadAt t a).run P w = .ok u w ∧ RepC g.Φ v u := by
  obtain ⟨b, base, cs, e, fr, rfl, h1, h2⟩ := hr
  have hp : Pw (Rep g) (cells.map .c) (cs.toList.drop base) := Pw.map_left.2 (repP_iff.1 h2)
  obtain ⟨u, hu, hv⟩ := readVar_run (P := P) (hi.frozen b _ h1) hp (readVarC_eq h)
  exact ⟨u, by simp [Instr.loadAt, Instr.sureAddr, hu], hv⟩

theorem setRow_same (b : Nat) (cs : Array Value) : SameOut w (w.setRow b cs) := ⟨rfl, rfl, rfl⟩
theorem setRow_size (b : Nat) (cs : Array Value) : (w.setRow b cs).heap.size = w.heap.size := by simp [World.setRow]
theorem setRow_other (b : Nat) (cs : Array Value) : ∀ k, k ≠ b → (w.setRow b cs).heap[k]? = w.heap[k]? := by
  intro k hk
  simp only [World.setRow]
  rw [Array.getElem?_modify]
  simp [Ne.symm hk]

theorem sim_store (hi : Inv g H w) {t : TypeId} {id off : Nat} {a x : Value} {c : AV} {cells cs' : List AV} {i : TypeInfo} (hr : Rep g (.ptr id off) a) (hx : Rep g c x) (hb : H id = .blk cells)
    (hti : P.info? t = some i) (hl : c.cells.length = i.size) (hc : c.cells.all AV.cellish = true) (hp : putAt cells off c.cells = some cs') :
    Fits g H w fresh { val := .undef, reads := [id], upds := [(id, .blk cs')] } ((do Instr.storeAt t a x; pure .skip : Sem Next).run P w) := by
  obtain ⟨ha, rfl⟩ := hr
  obtain ⟨cs, e, h1, h2, h3⟩ := hi.blk ha hb
  obtain ⟨p1, p2, p3⟩ := rep_cells hx hc
  obtain ⟨q1, q2⟩ := putAt_pw h3 p1 (by simpa using p2) hp
  have hle := h3.le
  simp only [List.length_drop, Array.length_toList] at hle
  have hsz : (g.j id).base + off + x.cells.toList.length ≤ cs.size ∨ x.cells.toList.length = 0 := by
    simp only [Array.length_toList]; omega
  have hlive : (H id).live = true := by rw [hb]; rfl
  rcases Nat.eq_zero_or_pos x.cells.toList.length with h0 | hpos
  · -- nothing is stored
    have hx0 : x.cells.toList = [] := List.length_eq_zero_iff.1 h0
    have hrun : (Instr.storeAt t (.pointer (some ⟨(g.j id).blk, (g.j id).base + off, none⟩)) x).run P w = .ok () w := by
      simp [Instr.storeAt, Instr.sureAddr, storeVar, run_sizeOf' hti, ← hl, p2, hx0, storeCells]
    refine fits_write hi ha hlive (o := .cells cs e (0, 0)) (u := Go.undef) (w' := w) (.inr ⟨by simp [hrun], rfl⟩) (SameOut.refl w) rfl (fun _ _ => rfl) h1 ⟨cs, e, rfl, h2, ?_⟩ rep_undef
    rw [hx0] at q2
    simp only [List.append_nil, List.length_nil, Nat.add_zero, List.take_append_drop] at q2
    exact q2
  · have hsz := hsz.resolve_right (by omega)
    have hrun : (Instr.storeAt t (.pointer (some ⟨(g.j id).blk, (g.j id).base + off, none⟩)) x).run P w =
        .ok () (w.setRow (g.j id).blk (cs.toList.take ((g.j id).base + off) ++ x.cells.toList ++ cs.toList.drop ((g.j id).base + off + x.cells.toList.length)).toArray) := by
      have := run_storeCells_at (P := P) (g.j id).blk ((g.j id).base + off) e x.cells.toList 0 cs w h1 (by simpa using hsz) p3
      simp only [Nat.add_zero] at this
      simp [Instr.storeAt, Instr.sureAddr, storeVar, run_sizeOf' hti, ← hl, p2, this]
    refine fits_write hi ha hlive (u := Go.undef) (.inr ⟨by rw [Sem.run_bind, hrun]; rfl, rfl⟩) (setRow_same _ _) (setRow_size _ _) (setRow_other _ _) (setRow_heap w _ cs _ e _ h1) ⟨_, e, rfl, ?_, ?_⟩ rep_undef
    · simp; simp at hsz; omega
    · have he : ((cs.toList.take ((g.j id).base + off) ++ x.cells.toList ++ cs.toList.drop ((g.j id).base + off + x.cells.toList.length)).toArray.toList).drop (g.j id).base =
          (cs.toList.drop (g.j id).base).take off ++ x.cells.toList ++ (cs.toList.drop (g.j id).base).drop (off + x.cells.toList.length) := by
        simp only [List.drop_drop, List.append_assoc]
        have hb' : (g.j id).base + off ≤ cs.toList.length := by simp; simp at hsz; omega
        rw [List.drop_append_of_le_length (by simp; simp at hb'; omega)]
        rw [List.drop_take]
        congr 2
        · omega
        · congr 1; omega
      rw [he]; exact q2

end
end Go.Ag
/- Part B: addresses, parts, building. -/
namespace Go.Ag
section
variable {P : Program} {g : G} {H : Nat → AB} {w : World} {fresh : Nat}

theorem slicePart_info {e : TypeId} {n : Nat} (h : slicePart P e = some n) : ∃ i z, P.info? e = some i ∧ i.size = n ∧ n ≠ 0 ∧ i.bytes ≤ 1048576 ∧ i.zero = some z ∧ z.cells.size = n := by
  unfold slicePart at h
  split at h
  case h_2 => simp at h
  rename_i i hi
  split at h
  case h_2 => simp at h
  rename_i z hz
  split at h
  · simp at h
  · rename_i hn
    simp at h; subst h
    simp only [not_or, Nat.not_lt, Decidable.not_not] at hn
    exact ⟨i, z, hi, rfl, hn.1, by omega, hz, hn.2.2⟩

theorem slicePart_some {e : TypeId} {n : Nat} (h : slicePart P e = some n) : ∃ i, P.info? e = some i ∧ i.size = n ∧ n ≠ 0 := by
  obtain ⟨i, z, h1, h2, h3, _⟩ := slicePart_info h
  exact ⟨i, h1, h2, h3⟩

theorem cellsOf_some {e : TypeId} (h : P.cellsOf e ≠ 0) : ∃ i, P.info? e = some i ∧ i.size ≠ 0 := by
  unfold Program.cellsOf at h
  cases hi : P.info? e with
  | none => simp [hi] at h
  | some i => exact ⟨i, rfl, by simpa [hi] using h⟩

theorem run_fieldAt {s : TypeId} {fields : Array Field} {fd : Field} {f b o : Nat} (hs : P.underlying s = some (.struct fields)) (hf : fields[f]? = some fd) (hz : P.cellsOf fd.type ≠ 0) :
    (Instr.fieldAt s (.pointer (some ⟨b, o, none⟩)) f).run P w = .ok (.pointer (some ⟨b, o + fd.offset, none⟩)) w := by
  obtain ⟨i, hi, h0⟩ := cellsOf_some hz
  simp [Instr.fieldAt, run_underlying hs, hf, Instr.sureAddr, fieldPlace, run_sizeOf' hi, h0, addr_add]

theorem part_run {t : TypeId} {cells : List AV} {off : Nat} {v : AV} {cs : Array Value} (hp : Pw (Rep g) cells cs.toList) (h : readVar P t cells off = some v) :
    ∃ u, (part t cs off).run P w = .ok u w ∧ Rep g v u := by
  unfold readVar at h
  split at h
  · rename_i ha
    simp only [Option.bind_eq_some_iff, Option.map_eq_some_iff] at h
    obtain ⟨i, hi, l, hl, rfl⟩ := h
    obtain ⟨d, hd⟩ : ∃ d, P.underlying t = some d := by
      unfold isAggB at ha; split at ha <;> first | exact ⟨_, by assumption⟩ | simp at ha
    obtain ⟨h1, h2⟩ := sliceOf_pw hp hl
    have hle := h1.le
    have e : (cs.extract off (off + i.size)).toList = (cs.toList.drop off).take i.size := by simp [Array.toList_extract]
    refine ⟨.agg (cs.extract off (off + i.size)), ?_, rep_mkAgg ?_ ?_⟩
    · simp [part, run_isAgg hd, ha, run_sizeOf' hi]
    · rw [e]
      have := h1.take_both i.size
      rwa [List.take_of_length_le (Nat.le_of_eq h2)] at this
    · have := congrArg List.length e
      simp only [Array.length_toList, List.length_take, List.length_drop] at this hle
      omega
  · rename_i ha
    split at h
    · rename_i hu
      obtain ⟨d, hd⟩ := Option.isSome_iff_exists.1 hu
      obtain ⟨u, hu, hr⟩ := hp _ _ h
      refine ⟨u, ?_, hr⟩
      have hu' : cs[off]? = some u := by simpa using hu
      have ha' : isAggB P t = false := by simpa using ha
      simp [part, run_isAgg hd, ha', hu']
    · simp at h

theorem rep_aggCells {c : AV} {v : Value} (h : Rep g c v) (hc : (∃ l, c = .agg l) ∨ ∃ l, c = .c (.agg l)) : ∃ cs, v = .agg cs ∧ c.cells.length = cs.size ∧ Pw (Rep g) c.cells cs.toList := by
  rcases hc with ⟨l, rfl⟩ | ⟨l, rfl⟩
  · obtain ⟨cs, rfl, hl, hp⟩ := h; exact ⟨cs, rfl, hl, reps_iff.1 hp⟩
  · obtain ⟨cs, rfl, hl, hp⟩ := h; exact ⟨cs, rfl, (List.length_map _).trans hl, Pw.map_left.2 (repP_iff.1 hp)⟩

theorem foldl_zip (off : Nat) : ∀ (l : List Value) (k : Nat) (c : Array Value), off + k + l.length ≤ c.size →
    ((l.zipIdx k).foldl (fun cs (x : Value × Nat) => cs.setIfInBounds (off + x.2) x.1) c).toList = c.toList.take (off + k) ++ l ++ c.toList.drop (off + k + l.length)
  | [], k, c, _ => by simp
  | a :: l, k, c, hk => by
    simp only [List.length_cons] at hk
    simp only [List.zipIdx_cons, List.foldl_cons]
    rw [foldl_zip off l (k + 1) (c.setIfInBounds (off + k) a) (by simp only [Array.size_setIfInBounds]; omega)]
    have e1 : (c.setIfInBounds (off + k) a).toList = c.toList.set (off + k) a := by simp
    have hlen : off + k < c.toList.length := by simp only [Array.length_toList]; omega
    rw [e1]
    have e2 : (c.toList.set (off + k) a).take (off + (k + 1)) = c.toList.take (off + k) ++ [a] := by
      rw [show off + (k + 1) = off + k + 1 by omega, List.take_succ_eq_append_getElem (by simpa using hlen)]
      simp [List.take_set_of_le]
    have e3 : (c.toList.set (off + k) a).drop (off + (k + 1) + l.length) = c.toList.drop (off + k + (l.length + 1)) := by
      rw [List.drop_set_of_lt (by omega)]
      congr 1; omega
    rw [e2, e3]
    simp

theorem fill_run (place : Nat → Option (Nat × Nat)) : ∀ (parts : List (Nat × AV)) (vals : List (Nat × Value)), parts.length = vals.length →
    Pw (fun (p : Nat × AV) (q : Nat × Value) => p.1 = q.1 ∧ Rep g p.2 q.2) parts vals →
    ∀ (cells out : List AV) (cs : Array Value), Pw (Rep g) cells cs.toList → cells.length = cs.size → afill place cells parts = some out →
      ∃ cs', Instr.fill place cs vals = some cs' ∧ Pw (Rep g) out cs'.toList ∧ out.length = cs'.size ∧ cs'.size = cs.size
  | [], [], _, _, cells, out, cs, hp, hl, h => by
    simp only [afill, Option.some.injEq] at h; subst h
    exact ⟨cs, rfl, hp, hl, rfl⟩
  | [], _ :: _, hl, _, _, _, _, _, _, _ => by simp at hl
  | _ :: _, [], hl, _, _, _, _, _, _, _ => by simp at hl
  | (i, v) :: parts, (i', u) :: vals, hlen, hpw, cells, out, cs, hp, hl, h => by
    obtain ⟨⟨hii, hr⟩, hrest⟩ := Pw.cons_iff.1 hpw
    simp only at hii hr
    subst hii
    simp only [afill, Option.bind_eq_some_iff] at h
    obtain ⟨⟨off, size⟩, hpl, h⟩ := h
    split at h
    · rename_i hsz
      simp only at hsz
      obtain ⟨hsz, hcellish⟩ := hsz
      obtain ⟨hcells, hclen, _⟩ := rep_cells hr hcellish
      simp only [Option.bind_eq_some_iff] at h
      obtain ⟨cells', hput, h⟩ := h
      obtain ⟨q1, q2⟩ := putAt_pw hp hcells (by simpa using hclen) hput
      have hsize : u.cells.size = size := by omega
      have hle := hp.le
      have hbound : off + u.cells.toList.length ≤ cs.size := by simp only [Array.length_toList]; omega
      have e0 := foldl_zip off u.cells.toList 0 cs (by simpa using hbound)
      simp only [Nat.add_zero] at e0
      have hzip : (u.cells.zipIdx.foldl (fun cs (x : Value × Nat) => cs.setIfInBounds (off + x.2) x.1) cs).toList = cs.toList.take off ++ u.cells.toList ++ cs.toList.drop (off + u.cells.toList.length) := by
        rw [← e0, ← Array.foldl_toList]
        simp [Array.toList_zipIdx]
      have hsame : (u.cells.zipIdx.foldl (fun cs (x : Value × Nat) => cs.setIfInBounds (off + x.2) x.1) cs).size = cs.size := by
        have := congrArg List.length hzip
        simp only [Array.length_toList, List.length_append, List.length_take, List.length_drop] at this
        simp only [Array.length_toList] at hbound
        omega
      have hput' : cells'.length = cells.length := by
        rw [putAt, if_pos q1] at hput
        cases hput
        simp; omega
      obtain ⟨cs', h1, h2, h3, h4⟩ := fill_run place parts vals (by simpa using hlen) hrest cells' out _ (by rw [hzip]; exact q2) (by rw [hsame]; omega) h
      refine ⟨cs', ?_, h2, h3, by omega⟩
      simp only [Instr.fill, hpl]
      rw [if_neg]
      · exact h1
      · simp only [ne_eq, Bool.or_eq_true, decide_eq_true_eq, not_or]
        simp only [Array.length_toList] at hbound
        omega
    · simp at h

end
end Go.Ag
/- Part C: slices. -/
namespace Go.Ag
section
variable {P : Program} {g : G} {H : Nat → AB} {w : World} {fresh : Nat}

theorem info_zero {t : TypeId} {cs : List AV} (h : zeroCells P t = some cs) : ∃ i z, P.info? t = some i ∧ i.zero = some z ∧ cs = z.cells.toList.map AV.lit := by
  simp only [zeroCells, Option.map_eq_some_iff, Option.bind_eq_some_iff] at h
  obtain ⟨z, ⟨i, hi, hz⟩, rfl⟩ := h
  exact ⟨i, z, hi, hz, rfl⟩

theorem repeat_rep {z : Array Value} {cs : List AV} (hz : cs = z.toList.map AV.lit) (n : Nat) (h0 : n ≠ 0 → z.size ≠ 0) :
    Pw (Rep g) (repeatCells cs n) ((Array.range n).map (z[· % z.size]!)).toList ∧ (repeatCells cs n).length = ((Array.range n).map (z[· % z.size]!)).size := by
  subst hz
  constructor
  · intro i a ha
    simp only [repeatCells, List.getElem?_map, Option.map_eq_some_iff] at ha
    obtain ⟨k, hk, rfl⟩ := ha
    have hi : i < n := by
      rcases Nat.lt_or_ge i n with h | h
      · exact h
      · rw [List.getElem?_eq_none (by simpa using h)] at hk; simp at hk
    have : k = i := by
      rw [List.getElem?_range hi] at hk; simpa using hk.symm
    subst this
    have hz := h0 (by omega)
    have hm : k % z.size < z.size := Nat.mod_lt _ (by omega)
    refine ⟨z[k % z.size]!, ?_, ?_⟩
    · simp [hi]
    · simp only [List.length_map, Array.length_toList, List.getD_eq_getElem?_getD, List.getElem?_map]
      rw [show z.toList[k % z.size]? = some z[k % z.size] by simp [hm]]
      simp only [Option.map_some, Option.getD_some]
      show RepC g.Φ (.lit _) _
      simp [RepC, hm]
  · simp [repeatCells]

theorem sim_makeSlice (hi : Inv g H w) (hn : ¬ g.A fresh) {t e : TypeId} {i : TypeInfo} {size : Nat} {l c : Int} {lv cv : Value} {k k' : IntKind} {z : List AV}
    (ht : P.underlying t = some (.slice e)) (hti : P.info? e = some i) (hs : slicePart P e = some size) (hlv : lv = .int k l) (hcv : cv = .int k' c)
    (hb : 0 ≤ l ∧ l ≤ c ∧ c.toNat * i.bytes ≤ 2 ^ 40 ∧ c.toNat ≤ limit) (hz : zeroCells P e = some z) (hze : z ≠ []) :
    Fits g H w fresh { val := .msl fresh size 0 l.toNat c.toNat, fresh := some (.blk (repeatCells z (c.toNat * size))) } ((do pure (.value (← Instr.makeSlice t lv cv)) : Sem Next).run P w) := by
  subst hlv hcv
  obtain ⟨i', z', hi', hz', rfl⟩ := info_zero hz
  have : i' = i := by rw [hti] at hi'; cases hi'; rfl
  subst this
  obtain ⟨i2, hi2, hsz, hne⟩ := slicePart_some hs
  have : i2 = i' := by rw [hti] at hi2; cases hi2; rfl
  subst this
  obtain ⟨h0, h1, h2, h3⟩ := hb
  simp only [limit] at h3
  have wl : IntKind.i64.wrap l = l := by unfold IntKind.wrap; simp [IntKind.signed, IntKind.bits]; omega
  have wc : IntKind.i64.wrap c = c := by unfold IntKind.wrap; simp [IntKind.signed, IntKind.bits]; omega
  have hbig : ¬ ((281474976710656 : Int) < (i2.bytes : Int) * c) := by
    have e : ((c.toNat : Nat) : Int) = c := Int.toNat_of_nonneg (by omega)
    have : ((c.toNat * i2.bytes : Nat) : Int) ≤ ((2 ^ 40 : Nat) : Int) := by exact_mod_cast h2
    rw [Int.natCast_mul, e, Int.mul_comm] at this
    omega
  have hzs : z'.cells.size ≠ 0 := by intro h; apply hze; simp [Array.eq_empty_of_size_eq_zero h]
  obtain ⟨q1, q2⟩ := repeat_rep (g := g) (z := z'.cells) rfl (c.toNat * size) (fun _ => hzs)
  refine fits_fresh hi hn (size := ((Array.range (c.toNat * size)).map (z'.cells[· % z'.cells.size]!)).size) (o := .cells ((Array.range (c.toNat * size)).map (z'.cells[· % z'.cells.size]!)) e)
    (u := .slice (some ⟨w.heap.size, 0, none⟩) l.toNat c.toNat) (w' := w.alloc (.cells ((Array.range (c.toNat * size)).map (z'.cells[· % z'.cells.size]!)) e)) ?_ (alloc_out _) (alloc_heap _) (repB_new hn q1) ?_
  · have hno : ¬ (c < 0) := by omega
    have hno2 : ¬ (l < 0) := by omega
    have hno3 : ¬ (l > c) := by omega
    by_cases hc0 : c.toNat * size = 0
    · simp [Instr.makeSlice, run_underlying ht, asIntOf, Go.asInt, typeInfo, hti, wl, wc, hbig, hno, hno2, hno3, run_sizeOf' hti, hsz, hc0, run_newRow, show Array.range 0 = #[] from rfl]
    · simp [Instr.makeSlice, run_underlying ht, asIntOf, Go.asInt, typeInfo, hti, wl, wc, hbig, hno, hno2, hno3, run_sizeOf' hti, hsz, hc0, run_newRow, zeroValue, hz']
  · refine ⟨.inr rfl, _, c.toNat, rfl, by omega, Nat.le_refl _, .inr ⟨by simp [G.add], ?_⟩⟩
    simp [G.add]

end
end Go.Ag
/- Part D: what a slice holds; append, copy, clear; cutting. -/
namespace Go.Ag
section
variable {P : Program} {g : G} {H : Nat → AB} {w : World} {fresh : Nat}

theorem run_loadCells_at {b o k : Nat} {cs : Array Value} {e : TypeId} {fr : Nat × Nat} (hg : w.heap[b]? = some (.cells cs e fr)) (hle : o + k ≤ cs.size) :
    (loadCells ⟨b, o, none⟩ k).run P w = .ok ((cs.toList.drop o).take k).toArray w := by
  have cell : ∀ j, w.cell? ⟨b, j, none⟩ = cs[j]? := fun j => by simp [World.cell?, hg]
  have hl := run_loadCells_list (P := P) w ⟨b, o, none⟩ ((cs.toList.drop o).take k) (fun j v hv => by
    rw [addr_add, cell]
    rw [List.getElem?_take] at hv
    split at hv
    · rw [List.getElem?_drop] at hv; simpa using hv
    · simp at hv)
  have hlen : ((cs.toList.drop o).take k).length = k := by simp; omega
  rwa [hlen] at hl

theorem pw_take_exact {l : List AV} {m : List Value} {k : Nat} (h : Pw (Rep g) l m) (hl : l.length = k) : Pw (Rep g) l (m.take k) ∧ (m.take k).length = k := by
  have := h.take_both k
  rw [List.take_of_length_le (Nat.le_of_eq hl)] at this
  have hle := h.le
  exact ⟨this, by simp; omega⟩

theorem first_block {cells l : List AV} {off base b n size : Nat} {cs : Array Value} {e : TypeId} {fr : Nat × Nat} (hg : w.heap[b]? = some (.cells cs e fr)) (hp : Pw (Rep g) cells (cs.toList.drop base))
    (hs : sliceOf cells off (n * size) = some l) : ∀ m, m ≤ n → ∃ arr : Array Value, (loadCells ⟨b, base + off, none⟩ (m * size)).run P w = .ok arr w ∧ Pw (Rep g) (l.take (m * size)) arr.toList ∧ (l.take (m * size)).length = arr.size ∧ arr.size = m * size := by
  intro m hm
  have hmn : m * size ≤ n * size := Nat.mul_le_mul_right _ hm
  obtain ⟨h1, h2⟩ := sliceOf_pw hp hs
  have hle := hp.le
  rw [List.drop_drop] at h1
  have hle1 := h1.le
  simp only [List.length_drop, Array.length_toList] at hle1 hle
  by_cases h0 : m * size = 0
  · refine ⟨#[], by simp [h0, loadCells, loadCellsFrom], by simp [h0, Pw.nil], by simp [h0], by simp [h0]⟩
  · have hb : base + off + m * size ≤ cs.size := by omega
    refine ⟨_, run_loadCells_at hg hb, ?_, ?_, ?_⟩
    · simpa using h1.take_both (m * size)
    · simp; omega
    · simp; omega

theorem firstCells_run (hi : Inv g H w) {c : AV} {v : Value} {l : List AV} {n size : Nat} {reads : List Nat} (hr : Rep g c v) (h : firstCells H size c = some (l, n, reads)) :
    (Builtin.lenOf v).run P w = .ok n w ∧ l.length = n * size ∧
    ∀ m, m ≤ n → ∃ arr : Array Value, (Builtin.firstCells size m v).run P w = .ok arr w ∧ Pw (Rep g) (l.take (m * size)) arr.toList ∧ (l.take (m * size)).length = arr.size ∧ arr.size = m * size := by
  unfold firstCells at h
  split at h
  · -- a nil slice
    simp only [Option.some.injEq, Prod.mk.injEq] at h
    obtain ⟨rfl, rfl, rfl⟩ := h
    simp only [Rep, RepC] at hr; subst hr
    refine ⟨rfl, by simp, fun m hm => ⟨#[], rfl, by simp [Pw.nil], by simp, ?_⟩⟩
    have : m = 0 := by omega
    subst this; simp
  · -- by value
    rename_i cells off len
    simp only [Option.map_eq_some_iff, Prod.mk.injEq] at h
    obtain ⟨l', hs, rfl, rfl, rfl⟩ := h
    rcases hr with ⟨h0, ⟨a, cap, rfl⟩ | rfl⟩ | ⟨b, base, cap, cs, e, fr, rfl, hc, hf, hp⟩
    · subst h0
      have : l' = [] := by
        simp only [sliceOf, Nat.zero_mul, List.take_zero, List.length_nil, if_true, Option.some.injEq] at hs; exact hs.symm
      subst this
      refine ⟨rfl, by simp, fun m hm => ?_⟩
      have : m = 0 := by omega
      subst this
      exact ⟨#[], by simp [Builtin.firstCells, loadCells, loadCellsFrom], by simp [Pw.nil], by simp, by simp⟩
    · subst h0
      have : l' = [] := by
        simp only [sliceOf, Nat.zero_mul, List.take_zero, List.length_nil, if_true, Option.some.injEq] at hs; exact hs.symm
      subst this
      refine ⟨rfl, by simp, fun m hm => ?_⟩
      have : m = 0 := by omega
      subst this
      exact ⟨#[], rfl, by simp [Pw.nil], by simp, by simp⟩
    · have hp' : Pw (Rep g) (cells.map .c) (cs.toList.drop base) := Pw.map_left.2 (repP_iff.1 hp)
      have hs' : sliceOf (cells.map AV.c) off (len * size) = some (l'.map .c) := by
        simp only [sliceOf] at hs ⊢
        split at hs
        · rename_i hl
          simp only [Option.some.injEq] at hs; subst hs
          simp only [← List.map_drop, ← List.map_take, List.length_map, hl, if_true]
        · simp at hs
      exact ⟨rfl, (sliceOf_pw hp' hs').2, first_block (P := P) (hi.frozen b _ hf) hp' hs'⟩
  · -- the call's own
    rename_i id sz off len cap
    split at h
    · rename_i cells hb
      split at h
      · rename_i hsz
        subst hsz
        simp only [Option.map_eq_some_iff, Prod.mk.injEq] at h
        obtain ⟨l', hs, rfl, rfl, rfl⟩ := h
        obtain ⟨ha, a, cap', rfl, h1, h2, h3⟩ := hr
        obtain ⟨cs, e, hg, hz, hp⟩ := hi.blk ha hb
        refine ⟨rfl, (sliceOf_pw hp hs).2, ?_⟩
        rcases h3 with h3 | ⟨h3, _⟩
        · intro m hm
          have : m = 0 := by omega
          subst this
          exact ⟨#[], by simp [Builtin.firstCells, loadCells, loadCellsFrom], by simp [Pw.nil], by simp, by simp⟩
        · subst h3
          exact first_block (P := P) hg hp hs
      · simp at h
    · simp at h
  · -- a string
    rename_i s
    split at h
    · rename_i hs1
      subst hs1
      simp only [Option.some.injEq, Prod.mk.injEq] at h
      obtain ⟨rfl, rfl, rfl⟩ := h
      simp only [Rep, RepC] at hr; subst hr
      have hsz : s.size = s.data.toList.length := by rw [Array.length_toList]; rfl
      refine ⟨rfl, by rw [List.length_map, hsz, Nat.mul_one], fun m hm => ⟨_, rfl, ?_, ?_, ?_⟩⟩
      all_goals
        have e : ((s.extract 0 m).data.map fun b => Value.int .u8 (b.toNat : Int)).toList = ((s.data.toList.map fun b => Value.int .u8 (b.toNat : Int)).take m) := by
          rw [Array.toList_map, ByteArray.data_extract, Array.toList_extract, List.extract_eq_take_drop, List.drop_zero, Nat.sub_zero, List.map_take]
      · rw [e, Nat.mul_one]
        refine Pw.take_both ?_ m
        rw [Pw.map_left, Pw.map_right]
        intro i a ha
        exact ⟨a, ha, rfl⟩
      · rw [← Array.length_toList, e, Nat.mul_one, List.length_take, List.length_take, List.length_map, List.length_map]
      · rw [← Array.length_toList, e, Nat.mul_one, List.length_take, List.length_map]; omega
    · simp at h
  · simp at h

theorem all_cellish_one {l : List AV} {m : List Value} (h : Pw (Rep g) l m) (hl : l.length = m.length) (hc : l.all AV.cellish = true) : ∀ x ∈ m, x.oneCell' = true := by
  intro x hx
  have := (rep_cells (g := g) (c := .agg l) (v := .agg m.toArray) ⟨m.toArray, rfl, by simpa using hl, reps_iff.2 (by simpa using h)⟩ hc).2.2 x
  exact this (by simpa [Value.cells] using hx)

theorem grow_bound (need cap : Nat) (h : cap < need) (hn : need ≤ 2097152) : Builtin.nextslicecap need cap ≤ 2 ^ 24 := by
  have grow : ∀ (n c : Nat), c ≤ 2 ^ 22 → need ≤ 2 ^ 22 → Builtin.growBy need n c ≤ 2 ^ 24 := by
    intro n
    induction n with
    | zero => intro c hc _; simp [Builtin.growBy]; omega
    | succ n ih =>
      intro c hc hne
      simp only [Builtin.growBy]
      split
      · omega
      · exact ih _ (by omega) hne
  unfold Builtin.nextslicecap
  split
  · omega
  · split
    · omega
    · exact grow 4 cap (by omega) (by omega)

/-- An append that must grow. -/
theorem run_append_more {argTypes : Array TypeId} {ty : TypeId} {t u e : TypeId} {i : TypeInfo} {base : Option Addr} {sLen sCap n : Nat} {x : Value} {z : Value} {old new : Array Value}
    (h0 : argTypes[0]? = some t) (ht : P.underlying t = some (.slice e)) (h1 : argTypes[1]? = some u) {du : TypeDesc} (hu : P.underlying u = some du) (hdu : (∃ e', du = .slice e') ∨ du = .string)
    (hti : P.info? e = some i) (hz : i.zero = some z) (hlen : (Builtin.lenOf x).run P w = .ok n w) (hn : ¬ sLen + n ≤ sCap) (hlim : sLen + n ≤ 2097152) (hbytes : i.bytes ≤ 1048576)
    (hold : (Builtin.firstCells i.size sLen (.slice base sLen sCap)).run P w.drew = .ok old w.drew) (hnew : (Builtin.firstCells i.size n x).run P w.drew = .ok new w.drew) :
    (Builtin.append_ argTypes ty #[.slice base sLen sCap, x]).run P w =
      .ok (.slice (some ⟨w.heap.size, 0, none⟩) (sLen + n) (grownCap w (sLen + n) sCap e)) (w.drew.alloc (.cells (old ++ new ++ Builtin.zeroCells z.cells (grownCap w (sLen + n) sCap e - (sLen + n))) e)) := by
  have c2 : ¬ (9223372036854775807 < ((sLen : Int) + (n : Int))) := by omega
  have c3 : ¬ (281474976710656 < Builtin.nextslicecap (sLen + n) sCap * i.bytes) := by
    have h1 := nextslicecap_le (need := sLen + n) (old := sCap) (by omega)
    have := Nat.mul_le_mul (Nat.le_trans h1 (Nat.mul_le_mul_left 2 hlim)) hbytes
    omega
  rcases hdu with ⟨e', rfl⟩ | rfl
  · simp [Builtin.append_, h0, h1, run_underlying ht, run_underlying hu, run_sizeOf' hti, hlen, hn, c2, c3, typeInfo, hti, zeroValue, hz, Question.forced, hold, hnew, newRow, grownCap]
  · simp [Builtin.append_, h0, h1, run_underlying ht, run_underlying hu, run_sizeOf' hti, hlen, hn, c2, c3, typeInfo, hti, zeroValue, hz, Question.forced, hold, hnew, newRow, grownCap]

/-- An append for which there is room. -/
theorem run_append_there {argTypes : Array TypeId} {ty : TypeId} {t u e : TypeId} {i : TypeInfo} {base : Option Addr} {sLen sCap n : Nat} {x : Value} {new : Array Value} {w' : World}
    (h0 : argTypes[0]? = some t) (ht : P.underlying t = some (.slice e)) (h1 : argTypes[1]? = some u) {du : TypeDesc} (hu : P.underlying u = some du) (hdu : (∃ e', du = .slice e') ∨ du = .string)
    (hti : P.info? e = some i) (hlen : (Builtin.lenOf x).run P w = .ok n w) (hn : sLen + n ≤ sCap) (hnew : (Builtin.firstCells i.size n x).run P w = .ok new w)
    (hst : ∀ a, base = some a → (storeCells (a.add (sLen * i.size)) new.toList).run P w = .ok () w') (hno : base = none → w' = w) :
    (Builtin.append_ argTypes ty #[.slice base sLen sCap, x]).run P w = .ok (.slice base (sLen + n) sCap) w' := by
  rcases hdu with ⟨e', rfl⟩ | rfl
  all_goals
    cases base with
    | none =>
      obtain rfl := hno rfl
      simp [Builtin.append_, h0, h1, run_underlying ht, run_underlying hu, run_sizeOf' hti, hlen, hn, hnew]
    | some a => simp [Builtin.append_, h0, h1, run_underlying ht, run_underlying hu, run_sizeOf' hti, hlen, hn, hnew, hst a rfl]

/-- Writing a row of cells in the middle of a block. -/
theorem store_mid {b o : Nat} {cs : Array Value} {e : TypeId} {vs : List Value} (hg : w.heap[b]? = some (.cells cs e (0, 0))) (hle : o + vs.length ≤ cs.size) (h1 : ∀ v ∈ vs, v.oneCell' = true) :
    (storeCells ⟨b, o, none⟩ vs).run P w = .ok () (w.setRow b (cs.toList.take o ++ vs ++ cs.toList.drop (o + vs.length)).toArray) := by
  have := run_storeCells_at (P := P) b o e vs 0 cs w hg (by simpa using hle) h1
  simpa using this

theorem mid_rep {cells vs r : List AV} {cs : Array Value} {ws : List Value} {base off : Nat} (hp : Pw (Rep g) cells (cs.toList.drop base)) (hv : Pw (Rep g) vs ws) (hl : vs.length = ws.length) (hput : putAt cells off vs = some r)
    (hle : base + off + ws.length ≤ cs.size) :
    Pw (Rep g) r (((cs.toList.take (base + off) ++ ws ++ cs.toList.drop (base + off + ws.length)).toArray.toList).drop base) := by
  obtain ⟨_, q2⟩ := putAt_pw hp hv hl hput
  have he : ((cs.toList.take (base + off) ++ ws ++ cs.toList.drop (base + off + ws.length)).toArray.toList).drop base =
      (cs.toList.drop base).take off ++ ws ++ (cs.toList.drop base).drop (off + ws.length) := by
    simp only [List.drop_drop, List.append_assoc]
    have hb' : base + off ≤ cs.toList.length := by simp only [Array.length_toList]; omega
    rw [List.drop_append_of_le_length (by simp only [List.length_take]; omega)]
    rw [List.drop_take]
    congr 2
    · omega
    · congr 1; omega
  rw [he]; exact q2

/-- A row is written in a block of the evaluator's. -/
theorem fits_mid (hi : Inv g H w) {id : Nat} (ha : g.A id) {cells vs r : List AV} (hb : H id = .blk cells) {cs : Array Value} {e : TypeId} (hg : w.heap[(g.j id).blk]? = some (.cells cs e (0, 0))) (hz : cs.size = (g.j id).size)
    (hp : Pw (Rep g) cells (cs.toList.drop (g.j id).base)) {ws : List Value} (hv : Pw (Rep g) vs ws) (hl : vs.length = ws.length) {off : Nat} (hput : putAt cells off vs = some r)
    (hle : (g.j id).base + off + ws.length ≤ cs.size) {v : AV} {reads : List Nat} {u : Value} {res : Result Next}
    (hr : res = .ok (.value u) (w.setRow (g.j id).blk (cs.toList.take ((g.j id).base + off) ++ ws ++ cs.toList.drop ((g.j id).base + off + ws.length)).toArray)) (h : Rep g v u) :
    Fits g H w fresh { val := v, reads, upds := [(id, .blk r)] } res := by
  refine fits_write hi ha (by rw [hb]; rfl) (.inl hr) (setRow_same _ _) (setRow_size _ _) (setRow_other _ _) (setRow_heap w _ cs _ e _ hg) ⟨_, e, rfl, ?_, mid_rep hp hv hl hput hle⟩ h
  simp only [List.size_toArray, List.length_append, List.length_take, List.length_drop, Array.length_toList]; omega
end
end Go.Ag
/- Part E: append. -/
namespace Go.Ag
section
variable {P : Program} {g : G} {H : Nat → AB} {w : World} {fresh : Nat}

theorem Inv.drew (hi : Inv g H w) : Inv g H w.drew := ⟨hi.frozen, hi.block, hi.apart, hi.inj⟩

theorem sos_spec {d : TypeDesc} (h : isSliceOrString d = true) : (∃ e', d = .slice e') ∨ d = .string := by
  cases d <;> simp [isSliceOrString] at h
  · exact .inr rfl
  · exact .inl ⟨_, rfl⟩

theorem sim_append (hi : Inv g H w) (hn : ¬ g.A fresh) {argTypes : Array TypeId} {ty : TypeId} {s x : AV} {sv xv : Value} {r : SOut} (hs : Rep g s sv) (hx : Rep g x xv)
    (h : aappend P H fresh argTypes s x = some r) : Fits g H w fresh r ((do pure (.value (← Builtin.append_ argTypes ty #[sv, xv])) : Sem Next).run P w) := by
  unfold aappend at h
  split at h
  case h_2 => simp at h
  rename_i t u ht0 hu0
  split at h
  case h_2 => simp at h
  rename_i elem du ht hu
  split at h
  case isFalse => simp at h
  rename_i hsos
  have hdu := sos_spec hsos
  split at h
  case h_2 => simp at h
  rename_i size hsp
  obtain ⟨i, z, hti, hsz, hne, hbytes, hz, hzs⟩ := slicePart_info hsp
  subst hsz
  split at h
  case h_2 => simp at h
  rename_i new n reads hfc
  split at h
  case isFalse => simp at h
  rename_i hcell
  obtain ⟨hlen, hnl, hfirst⟩ := firstCells_run (P := P) hi hx hfc
  obtain ⟨arr, harr, hpw, hal, has⟩ := hfirst n (Nat.le_refl n)
  have htake : new.take (n * i.size) = new := List.take_of_length_le (Nat.le_of_eq hnl)
  rw [htake] at hpw hal
  have hone : ∀ y ∈ arr.toList, y.oneCell' = true := all_cellish_one hpw (by simpa using hal) hcell
  obtain ⟨_, _, hfirstD⟩ := firstCells_run (P := P) hi.drew hx hfc
  obtain ⟨arrD, harrD, hpwD, halD, hasD⟩ := hfirstD n (Nat.le_refl n)
  rw [htake] at hpwD halD
  have none0 : n = 0 → arr.toList = [] := fun h0 => List.length_eq_zero_iff.1 (by simp [has, h0])
  -- a new block
  have more : ∀ (base : Option Addr) (sLen sCap : Nat) (olds : List AV) (old : Array Value), sv = .slice base sLen sCap → ¬ sLen + n ≤ sCap → sLen + n ≤ limit → 
      (Builtin.firstCells i.size sLen (.slice base sLen sCap)).run P w.drew = .ok old w.drew → Pw (Rep g) olds old.toList → olds.length = old.size → old.size = sLen * i.size →
      ∃ w' u, (do pure (.value (← Builtin.append_ argTypes ty #[sv, xv])) : Sem Next).run P w = .ok (.value u) w' ∧ SameOut w w' ∧ ∃ o size, w'.heap = w.heap.push o ∧
        RepB (g.add fresh ⟨w.heap.size, 0, size⟩) (.blk (olds ++ new)) ⟨w.heap.size, 0, size⟩ (some o) ∧ Rep (g.add fresh ⟨w.heap.size, 0, size⟩) (.msl fresh i.size 0 (sLen + n) (sLen + n)) u := by
    intro base sLen sCap olds old hsv hno hlim hold hpo hol hos
    subst hsv
    have hrun := run_append_more (P := P) (ty := ty) ht0 ht hu0 hu hdu hti hz hlen hno (by simp only [limit] at hlim; omega) hbytes hold harrD
    have hge := grownCap_ge w (sLen + n) sCap elem
    refine ⟨w.drew.alloc (.cells (old ++ arrD ++ Builtin.zeroCells z.cells (grownCap w (sLen + n) sCap elem - (sLen + n))) elem), _, by rw [Sem.run_bind, hrun]; rfl, ⟨rfl, rfl, rfl⟩, _, _, rfl, ⟨_, elem, rfl, rfl, ?_⟩, ⟨.inr rfl, _, _, rfl, Nat.le_refl _, hge, .inr ⟨by simp [G.add], ?_⟩⟩⟩
    · simp only [List.drop_zero, Array.toList_append]
      exact pw_mono (g.le_add _ hn) ((Pw.append hpo hpwD (by simpa using hol)).right _)
    · simp only [G.add, if_true, Array.length_toList, Array.size_append, size_zeroCells, hos, hasD, hzs]
      rw [← Nat.add_mul, ← Nat.add_mul]
      have : sLen + n + (grownCap w (sLen + n) sCap elem - (sLen + n)) = grownCap w (sLen + n) sCap elem := by omega
      rw [this]; omega
  unfold appendTo at h
  split at h
  · -- to nil
    simp only [Rep, RepC] at hs; subst hs
    split at h
    · rename_i h0
      simp only [Option.some.injEq] at h; subst h
      subst h0
      have hrun := run_append_there (P := P) (ty := ty) (base := none) (sLen := 0) (sCap := 0) (w' := w) ht0 ht hu0 hu hdu hti hlen (by omega) harr (fun a ha => by cases ha) (fun _ => rfl)
      exact fits_val hi (u := .slice none 0 0) (by rw [Sem.run_bind, hrun]; rfl) rfl
    · rename_i h0
      split at h
      · rename_i hlim
        simp only [Option.some.injEq] at h; subst h
        obtain ⟨w', u, h1, h2, o, sz, h3, h4, h5⟩ := more none 0 0 [] #[] rfl (by omega) (by simpa using hlim) (by simp [Builtin.firstCells]) (Pw.nil _) rfl (by simp)
        rw [Nat.zero_add] at h5
        exact fits_fresh hi hn h1 h2 h3 (by simpa using h4) h5
      · simp at h
  · -- to a block of the evaluator's
    rename_i id sz off len cap
    obtain ⟨ha, a, cap', rfl, hc1, hc2, hc3⟩ := hs
    split at h
    · simp at h
    rename_i hsz
    have hsz : sz = i.size := by simpa using hsz
    subst hsz
    split at h
    · rename_i h0
      simp only [Option.some.injEq] at h; subst h
      have hrun := run_append_there (P := P) (ty := ty) (base := some a) (sLen := len) (sCap := cap') (w' := w) ht0 ht hu0 hu hdu hti hlen (by omega) harr
        (fun a' _ => by rw [none0 h0]; rfl) (fun h => by cases h)
      rw [h0, Nat.add_zero] at hrun
      exact fits_val hi (by rw [Sem.run_bind, hrun]; rfl) ⟨ha, a, cap', rfl, hc1, hc2, hc3⟩
    rename_i h0
    split at h
    case h_2 => simp at h
    rename_i cells hb
    obtain ⟨cs, e, hg, hzc, hp⟩ := hi.blk ha hb
    split at h
    · -- surely there is room
      rename_i hroom
      simp only [Option.map_eq_some_iff] at h
      obtain ⟨cs', hput, rfl⟩ := h
      obtain ⟨rfl, hbound⟩ := hc3.resolve_left (by omega)
      have hmul : (len + n) * i.size ≤ cap' * i.size := Nat.mul_le_mul_right _ (by omega)
      rw [Nat.add_mul] at hmul
      have hle : (g.j id).base + (off + len * i.size) + arr.toList.length ≤ cs.size := by rw [Array.length_toList, has, hzc]; omega
      have hst := store_mid (P := P) (o := (g.j id).base + (off + len * i.size)) hg hle hone
      have hrun := run_append_there (P := P) (ty := ty) (base := some ⟨(g.j id).blk, (g.j id).base + off, none⟩) (sLen := len) (sCap := cap') ht0 ht hu0 hu hdu hti hlen (by omega) harr
        (fun a' h' => by cases h'; rw [addr_add, Nat.add_assoc]; exact hst) (fun h => by cases h)
      exact fits_mid hi ha hb hg hzc hp hpw (by simpa using hal) hput hle (by rw [Sem.run_bind, hrun]; rfl) ⟨ha, _, cap', rfl, hroom, hc2, .inr ⟨rfl, hbound⟩⟩
    · rename_i hroom
      split at h
      case isFalse => simp at h
      rename_i hlim
      simp only [Option.map_eq_some_iff] at h
      obtain ⟨old, hold, rfl⟩ := h
      obtain ⟨hpo, holen⟩ := sliceOf_pw hp hold
      have hlive : (H id).live = true := by rw [hb]; rfl
      by_cases hin : len + n ≤ cap'
      · -- there is room by chance
        obtain ⟨rfl, hbound⟩ := hc3.resolve_left (by omega)
        have hmul : (len + n) * i.size ≤ cap' * i.size := Nat.mul_le_mul_right _ hin
        rw [Nat.add_mul] at hmul
        have hle : (g.j id).base + (off + len * i.size) + arr.toList.length ≤ cs.size := by rw [Array.length_toList, has, hzc]; omega
        have hst := store_mid (P := P) (o := (g.j id).base + (off + len * i.size)) hg hle hone
        have hrun := run_append_there (P := P) (ty := ty) (base := some ⟨(g.j id).blk, (g.j id).base + off, none⟩) (sLen := len) (sCap := cap') ht0 ht hu0 hu hdu hti hlen (by omega) harr
          (fun a' h' => by cases h'; rw [addr_add, Nat.add_assoc]; exact hst) (fun h => by cases h)
        have hnew := setRow_heap w (g.j id).blk cs (cs.toList.take ((g.j id).base + (off + len * i.size)) ++ arr.toList ++ cs.toList.drop ((g.j id).base + (off + len * i.size) + arr.toList.length)).toArray e (0, 0) hg
        have hrb : RepB (g.add fresh ⟨(g.j id).blk, (g.j id).base + off, (g.j id).size⟩) (.blk (old ++ new)) ⟨(g.j id).blk, (g.j id).base + off, (g.j id).size⟩
            (some (.cells (cs.toList.take ((g.j id).base + (off + len * i.size)) ++ arr.toList ++ cs.toList.drop ((g.j id).base + (off + len * i.size) + arr.toList.length)).toArray e (0, 0))) := by
          refine ⟨_, e, rfl, ?_, ?_⟩
          · simp only [List.size_toArray, List.length_append, List.length_take, List.length_drop, Array.length_toList] at hle ⊢; omega
          · refine pw_mono (g.le_add _ hn) ?_
            have e1 : ((cs.toList.take ((g.j id).base + (off + len * i.size)) ++ arr.toList ++ cs.toList.drop ((g.j id).base + (off + len * i.size) + arr.toList.length)).toArray.toList).drop ((g.j id).base + off) =
                ((cs.toList.drop (g.j id).base).drop off).take (len * i.size) ++ (arr.toList ++ cs.toList.drop ((g.j id).base + (off + len * i.size) + arr.toList.length)) := by
              simp only [List.append_assoc, List.drop_drop]
              simp only [Array.length_toList] at hle
              rw [List.drop_append_of_le_length (by simp only [List.length_take, Array.length_toList]; omega), List.drop_take]
              congr 2; omega
            rw [e1]
            have hle' := hpo.le
            refine Pw.append ?_ (hpw.right _) ?_
            · have := hpo.take_both (len * i.size)
              rwa [List.take_of_length_le (Nat.le_of_eq holen)] at this
            · simp only [List.length_take]; omega
        obtain ⟨h1, h2⟩ := hi.rename ha hlive hn (setRow_same (w := w) _ _) (setRow_size _ _) (setRow_other _ _) hnew hrb
        refine ⟨_, _, g.add fresh ⟨(g.j id).blk, (g.j id).base + off, (g.j id).size⟩, .inl (by rw [Sem.run_bind, hrun]; rfl), ⟨.inr rfl, _, cap', rfl, Nat.le_refl _, hin, .inr ⟨by simp [G.add], ?_⟩⟩, h1, h2, by simp [G.add], by simpa using ha⟩
        simp only [G.add, if_true]; omega
      · -- there is none
        have holdrun : ∃ olda : Array Value, (Builtin.firstCells i.size len (.slice (some a) len cap')).run P w.drew = .ok olda w.drew ∧ Pw (Rep g) old olda.toList ∧ old.length = olda.size ∧ olda.size = len * i.size := by
          have hfc' : firstCells H i.size (.msl id i.size off len cap) = some (old, len, [id]) := by simp [firstCells, hb, hold]
          obtain ⟨_, _, k3⟩ := firstCells_run (P := P) hi.drew (c := .msl id i.size off len cap) (v := .slice (some a) len cap') ⟨ha, a, cap', rfl, hc1, hc2, hc3⟩ hfc'
          obtain ⟨o1, o2, o3, o4, o5⟩ := k3 len (Nat.le_refl _)
          rw [List.take_of_length_le (Nat.le_of_eq holen)] at o3 o4
          exact ⟨o1, o2, o3, o4, o5⟩
        obtain ⟨olda, k1, k2, k3, k4⟩ := holdrun
        obtain ⟨w', u, h1, h2, o, sz, h3, h4, h5⟩ := more (some a) len cap' old olda rfl hin hlim k1 k2 k3 k4
        obtain ⟨i1, e1⟩ := hi.kill id
        obtain ⟨i2, e2⟩ := i1.fresh hn (size := sz) h2 h3 h4
        exact ⟨u, w', _, .inl h1, h5, i2, e1.trans e2, by simp [G.add], by simpa using ha⟩
  · -- to a slice by value
    rename_i cells off len
    split at h
    · rename_i h0
      simp only [Option.some.injEq] at h; subst h
      have key : (sv = .slice none 0 0 ∧ len = 0) ∨ ∃ a cap, sv = .slice (some a) len cap ∧ len ≤ cap := by
        rcases hs with ⟨h1, ⟨a, cap, rfl⟩ | rfl⟩ | ⟨b, base, cap, cs, e, fr, rfl, hc, _, _⟩
        · exact .inr ⟨a, cap, by rw [h1], by omega⟩
        · exact .inl ⟨rfl, h1⟩
        · exact .inr ⟨_, cap, rfl, hc⟩
      rcases key with ⟨rfl, hl0⟩ | ⟨a, cap, rfl, hc⟩
      · subst h0
        have hrun := run_append_there (P := P) (ty := ty) (base := none) (sLen := 0) (sCap := 0) (w' := w) ht0 ht hu0 hu hdu hti hlen (by omega) harr (fun a ha => by cases ha) (fun _ => rfl)
        exact fits_val hi (u := .slice none 0 0) (by rw [Sem.run_bind, hrun]; rfl) hs
      have hrun := run_append_there (P := P) (ty := ty) (base := some a) (sLen := len) (sCap := cap) (w' := w) ht0 ht hu0 hu hdu hti hlen (by omega) harr
        (fun a' _ => by rw [none0 h0]; rfl) (fun h => by cases h)
      rw [h0, Nat.add_zero] at hrun
      exact fits_val hi (by rw [Sem.run_bind, hrun]; rfl) hs
    · simp at h
  · simp at h
end
end Go.Ag
/- Part F: building, copying, cutting, reading. -/
namespace Go.Ag
section
variable {P : Program} {g : G} {H : Nat → AB} {w : World} {fresh : Nat}

theorem run_places {P : Program} : ∀ {fields : List Field} {places : List (Nat × Nat)} (w : World), fields.mapM (fun f => (P.info? f.type).map fun j => (f.offset, j.size)) = some places →
    (fields.mapM (fun f => do pure (f.offset, ← sizeOf f.type)) : Sem (List (Nat × Nat))).run P w = .ok places w
  | [], places, w, h => by
    simp only [List.mapM_nil] at h
    cases h; rfl
  | f :: fs, places, w, h => by
    simp only [List.mapM_cons, Option.bind_eq_bind, Option.bind_eq_some_iff, Option.map_eq_some_iff, Option.pure_def, Option.some.injEq] at h
    obtain ⟨p, ⟨j, hj, rfl⟩, l, hl, rfl⟩ := h
    simp only [List.mapM_cons, Sem.run_bind, run_sizeOf' hj, Result.andThen_ok, Sem.run_pure, run_places w hl]

theorem parts_rep {ρ : Operand → AV} {σ : Operand → Value} (hρ : ∀ x, Rep g (ρ x) (σ x)) (parts : Array (Nat × Operand)) :
    Pw (fun (p : Nat × AV) (q : Nat × Value) => p.1 = q.1 ∧ Rep g p.2 q.2) (partsOf ρ parts) (parts.map fun (i, x) => (i, σ x)).toList ∧ (partsOf ρ parts).length = (parts.map fun (i, x) => (i, σ x)).toList.length := by
  refine ⟨?_, by simp [partsOf]⟩
  unfold partsOf
  rw [Pw.map_left, Array.toList_map, Pw.map_right]
  intro i a ha
  exact ⟨a, ha, rfl, hρ _⟩

theorem sim_build {t : TypeId} {parts : List (Nat × AV)} {vals : Array (Nat × Value)} {v : AV} (hp : Pw (fun (p : Nat × AV) (q : Nat × Value) => p.1 = q.1 ∧ Rep g p.2 q.2) parts vals.toList) (hl : parts.length = vals.toList.length)
    (h : abuild P t parts = some v) : ∃ u, (Instr.build t vals).run P w = .ok u w ∧ Rep g v u := by
  unfold abuild at h
  split at h
  case h_3 => simp at h
  · rename_i z fields hz ht
    split at h
    case h_2 => simp at h
    rename_i places hpl
    simp only [Option.map_eq_some_iff] at h
    obtain ⟨cs, hf, rfl⟩ := h
    obtain ⟨zv, hzr, hzp, hzl⟩ := zeroCells_run (g := g) hz
    obtain ⟨cs', h1, h2, h3, _⟩ := fill_run (g := g) (fun i => places[i]?) parts vals.toList hl hp z cs zv.cells hzp hzl hf
    refine ⟨.agg cs', ?_, rep_mkAgg h2 h3⟩
    have hmap : (fields.mapM (fun f => do pure (f.offset, ← sizeOf f.type)) : Sem (Array (Nat × Nat))).run P w = .ok places.toArray w := by
      rw [Array.mapM_eq_mapM_toList]
      rw [Sem.run_map, run_places w hpl]; rfl
    have e : (fun i : Nat => places.toArray[i]?) = fun i => places[i]? := by funext i; simp
    simp only [Instr.build, Sem.run_bind, hzr, Result.andThen_ok, run_underlying ht, hmap, e, h1, Sem.run_pure]
  · rename_i z n elem hz ht
    split at h
    case h_2 => simp at h
    rename_i i hti
    simp only [Option.map_eq_some_iff] at h
    obtain ⟨cs, hf, rfl⟩ := h
    obtain ⟨zv, hzr, hzp, hzl⟩ := zeroCells_run (g := g) hz
    obtain ⟨cs', h1, h2, h3, _⟩ := fill_run (g := g) _ parts vals.toList hl hp z cs zv.cells hzp hzl hf
    refine ⟨.agg cs', ?_, rep_mkAgg h2 h3⟩
    simp only [Instr.build, Sem.run_bind, hzr, Result.andThen_ok, run_underlying ht, run_sizeOf' hti, h1, Sem.run_pure]

theorem sim_buildSlice (hi : Inv g H w) (hn : ¬ g.A fresh) {t : TypeId} {len : Nat} {parts : List (Nat × AV)} {vals : Array (Nat × Value)} {r : SOut}
    (hp : Pw (fun (p : Nat × AV) (q : Nat × Value) => p.1 = q.1 ∧ Rep g p.2 q.2) parts vals.toList) (hl : parts.length = vals.toList.length) (h : abuildSlice P fresh t len parts = some r) :
    Fits g H w fresh r ((do pure (.value (← Instr.buildSlice t len vals)) : Sem Next).run P w) := by
  unfold abuildSlice at h
  split at h
  case h_2 => simp at h
  rename_i elem ht
  split at h
  case h_2 => simp at h
  rename_i size z hsp hz
  split at h
  case isFalse => simp at h
  rename_i hlim
  split at h
  case h_2 => simp at h
  rename_i cs hf
  split at h
  case isFalse => simp at h
  simp only [Option.some.injEq] at h; subst h
  obtain ⟨i, z', hti, hsz, hne, hbytes, hz', hzs⟩ := slicePart_info hsp
  obtain ⟨i2, z2, hi2, hz2, rfl⟩ := info_zero hz
  have : i2 = i := by rw [hti] at hi2; cases hi2; rfl
  subst this
  have : z2 = z' := by rw [hz'] at hz2; cases hz2; rfl
  subst this
  subst hsz
  obtain ⟨q1, q2⟩ := repeat_rep (g := g) (z := z2.cells) rfl (len * i2.size) (fun _ => by omega)
  obtain ⟨cs', h1, h2, h3, h4⟩ := fill_run (g := g) _ parts vals.toList hl hp _ cs _ q1 q2 hf
  have hcsz : cs'.size = len * i2.size := by rw [h4]; simp
  refine fits_fresh hi hn (size := cs'.size) (o := .cells cs' elem) (u := .slice (some ⟨w.heap.size, 0, none⟩) len len) (w' := w.alloc (.cells cs' elem)) ?_ (alloc_out _) (alloc_heap _) (repB_new hn h2) ?_
  · have hb : ¬ (len * i2.size > 2 ^ 24) := by simp only [limit] at hlim; omega
    by_cases h0 : len * i2.size = 0
    · have er : Array.range 0 = #[] := rfl
      simp only [Instr.buildSlice, Sem.run_bind, run_underlying ht, Result.andThen_ok, run_sizeOf' hti, h0, if_true, Sem.run_pure, er, Array.map_empty]
      rw [h0, er, Array.map_empty] at h1
      simp [h1, run_newRow]
    · simp only [Instr.buildSlice, Sem.run_bind, run_underlying ht, Result.andThen_ok, run_sizeOf' hti, hb, if_false, h0, Sem.run_pure, zeroValue, typeInfo, run_program, hti, hz']
      simp only [h1, Sem.run_bind, run_newRow, Result.andThen_ok, Sem.run_pure]
  · refine ⟨.inr rfl, _, len, rfl, Nat.le_refl _, Nat.le_refl _, .inr ⟨by simp [G.add], ?_⟩⟩
    simp [G.add, hcsz]

theorem bound_run {x : Option AV} {xv : Option Value} {d y n : Nat} (hx : ∀ a, x = some a → ∃ v, xv = some v ∧ Rep g a v) (hno : x = none → xv = none) (h : boundOf x d y = some n) (code : BoundsCode) :
    (match xv with | some v => Instr.sliceBound v y code | none => (pure d : Sem Nat)).run P w = .ok n w ∧ n ≤ y := by
  unfold boundOf at h
  split at h
  · rw [hno rfl]
    split at h
    · simp at h; subst h; exact ⟨rfl, by assumption⟩
    · simp at h
  · rename_i v
    obtain ⟨u, hu, hr⟩ := hx v rfl
    rw [hu]
    split at h
    case h_2 => simp at h
    rename_i i ha
    split at h
    case isFalse => simp at h
    rename_i hb
    simp at h; subst h
    obtain ⟨k, rfl⟩ := rep_toInt hr ha
    refine ⟨?_, by omega⟩
    simp [Instr.sliceBound, asIntOf, hb]

theorem bounds_run {lo hi' mx : Option AV} {lov hiv mxv : Option Value} {len cap : Nat} {b : Nat × Nat × Nat} (isSlice : Bool)
    (h1 : ∀ a, lo = some a → ∃ v, lov = some v ∧ Rep g a v) (n1 : lo = none → lov = none) (h2 : ∀ a, hi' = some a → ∃ v, hiv = some v ∧ Rep g a v) (n2 : hi' = none → hiv = none)
    (h3 : ∀ a, mx = some a → ∃ v, mxv = some v ∧ Rep g a v) (n3 : mx = none → mxv = none) (h : boundsOf len cap lo hi' mx = some b) :
    (Instr.sliceBounds isSlice len cap lov hiv mxv).run P w = .ok b w ∧ b.1 ≤ b.2.1 ∧ b.2.1 ≤ b.2.2 ∧ b.2.2 ≤ cap := by
  unfold boundsOf at h
  split at h
  · simp at h
  rename_i hmx
  split at h
  case h_2 => simp at h
  rename_i m hm
  split at h
  case h_2 => simp at h
  rename_i hh hhb
  split at h
  case h_2 => simp at h
  rename_i l hlb
  simp at h; subst h
  have a1 := fun c => bound_run (P := P) (w := w) h3 n3 hm c
  have a2 := fun c => bound_run (P := P) (w := w) h2 n2 hhb c
  have a3 := fun c => bound_run (P := P) (w := w) h1 n1 hlb c
  refine ⟨?_, (a3 .sliceB).2, (a2 .sliceB).2, (a1 .sliceB).2⟩
  cases mx with
  | none =>
    have := n3 rfl; subst this
    cases hi' with
    | none =>
      have := n2 rfl; subst this
      cases lo with
      | none => have := n1 rfl; subst this; have := (a1 .sliceB).1; have := (a2 .sliceB).1; have := (a3 .sliceB).1; simp_all [Instr.sliceBounds]
      | some lo =>
        obtain ⟨v, hv, _⟩ := h1 lo rfl; subst hv
        have b1 := (a1 .sliceB).1; have b2 := (a2 .sliceB).1; have b3 := (a3 .sliceB).1
        simp only [Sem.run_pure, Result.ok.injEq, and_true] at b1 b2
        subst b1 b2
        simp [Instr.sliceBounds, b3]
    | some hi' =>
      obtain ⟨v, hv, _⟩ := h2 hi' rfl; subst hv
      have b1 := (a1 .sliceB).1
      simp only [Sem.run_pure, Result.ok.injEq, and_true] at b1
      subst b1
      cases lo with
      | none =>
        have := n1 rfl; subst this
        have b3 := (a3 .sliceB).1
        simp only [Sem.run_pure, Result.ok.injEq, and_true] at b3
        subst b3
        cases isSlice
        · have b2 := (a2 .sliceAlen).1; simp [Instr.sliceBounds, b2]
        · have b2 := (a2 .sliceAcap).1; simp [Instr.sliceBounds, b2]
      | some lo =>
        obtain ⟨u, hu, _⟩ := h1 lo rfl; subst hu
        have b3 := (a3 .sliceB).1
        cases isSlice
        · have b2 := (a2 .sliceAlen).1; simp [Instr.sliceBounds, b2, b3]
        · have b2 := (a2 .sliceAcap).1; simp [Instr.sliceBounds, b2, b3]
  | some mx =>
    obtain ⟨z, hz, _⟩ := h3 mx rfl; subst hz
    cases hi' with
    | none => simp at hmx
    | some hi' =>
      obtain ⟨v, hv, _⟩ := h2 hi' rfl; subst hv
      have b2 := (a2 .slice3B).1
      cases lo with
      | none =>
        have := n1 rfl; subst this
        have b3 := (a3 .sliceB).1
        simp only [Sem.run_pure, Result.ok.injEq, and_true] at b3
        subst b3
        cases isSlice
        · have b1 := (a1 .slice3Alen).1; simp [Instr.sliceBounds, b1, b2]
        · have b1 := (a1 .slice3Acap).1; simp [Instr.sliceBounds, b1, b2]
      | some lo =>
        obtain ⟨u, hu, _⟩ := h1 lo rfl; subst hu
        have b3 := (a3 .slice3C).1
        cases isSlice
        · have b1 := (a1 .slice3Alen).1; simp [Instr.sliceBounds, b1, b2, b3]
        · have b1 := (a1 .slice3Acap).1; simp [Instr.sliceBounds, b1, b2, b3]

end
end Go.Ag
/- Part G: cutting, addresses, copying. -/
namespace Go.Ag
section
variable {P : Program} {g : G} {H : Nat → AB} {w : World} {fresh : Nat}

theorem boundOf_le {x : Option AV} {d y n : Nat} (h : boundOf x d y = some n) : n ≤ y := by
  unfold boundOf at h
  split at h
  · split at h
    · simp at h; omega
    · simp at h
  · split at h
    · split at h
      · simp at h; omega
      · simp at h
    · simp at h

theorem boundOf_mono {x : Option AV} {d y y' n : Nat} (h : boundOf x d y = some n) (hy : y ≤ y') : boundOf x d y' = some n := by
  unfold boundOf at h ⊢
  split at h
  · split at h
    · rw [if_pos (by omega)]; exact h
    · simp at h
  · split at h
    · split at h
      · rw [if_pos (by omega)]; exact h
      · simp at h
    · simp at h

theorem boundsOf_mono {len cap cap' : Nat} {lo hi mx : Option AV} {b : Nat × Nat × Nat} (h : boundsOf len cap lo hi mx = some b) (hc : cap ≤ cap') :
    ∃ m', boundsOf len cap' lo hi mx = some (b.1, b.2.1, m') ∧ b.2.2 ≤ m' := by
  unfold boundsOf at h
  split at h
  · simp at h
  rename_i hmx
  split at h
  case h_2 => simp at h
  rename_i m hm
  split at h
  case h_2 => simp at h
  rename_i hh hhb
  split at h
  case h_2 => simp at h
  rename_i l hlb
  simp at h; subst h
  obtain ⟨m', hm', hle⟩ : ∃ m', boundOf mx cap' cap' = some m' ∧ m ≤ m' := by
    cases mx with
    | none => exact ⟨cap', by simp [boundOf], by have := boundOf_le hm; omega⟩
    | some a => exact ⟨m, by have := boundOf_mono hm hc; simpa [boundOf] using this, Nat.le_refl _⟩
  refine ⟨m', ?_, hle⟩
  unfold boundsOf
  rw [if_neg hmx, hm']
  simp only
  rw [boundOf_mono hhb hle]
  simp only
  rw [hlb]

theorem run_sliceAt {t elem : TypeId} {i : TypeInfo} {a : Option Addr} {len cap : Nat} {lov hiv mxv : Option Value} {b : Nat × Nat × Nat} (ht : P.underlying t = some (.slice elem)) (hti : P.info? elem = some i)
    (hb : (Instr.sliceBounds true len cap lov hiv mxv).run P w = .ok b w) :
    (Instr.sliceAt t (.slice a len cap) lov hiv mxv).run P w = .ok (.slice (if b.2.2 = b.1 then a else a.map (·.add (b.1 * i.size))) (b.2.1 - b.1) (b.2.2 - b.1)) w := by
  obtain ⟨l, h, m⟩ := b
  simp [Instr.sliceAt, run_underlying ht, Instr.slice, hb, run_sizeOf' hti]

theorem sim_slice {t : TypeId} {x : AV} {xv : Value} {lo hi' mx : Option AV} {lov hiv mxv : Option Value} {v : AV} (_ : Inv g H w) (hx : Rep g x xv)
    (h1 : ∀ a, lo = some a → ∃ v, lov = some v ∧ Rep g a v) (n1 : lo = none → lov = none) (h2 : ∀ a, hi' = some a → ∃ v, hiv = some v ∧ Rep g a v) (n2 : hi' = none → hiv = none)
    (h3 : ∀ a, mx = some a → ∃ v, mxv = some v ∧ Rep g a v) (n3 : mx = none → mxv = none) (h : aslice P t x lo hi' mx = some v) :
    ∃ u, (Instr.sliceAt t xv lov hiv mxv).run P w = .ok u w ∧ Rep g v u := by
  unfold aslice at h
  split at h
  case h_2 => simp at h
  rename_i elem ht
  split at h
  case h_2 => simp at h
  rename_i size hsp
  obtain ⟨i, z, hti, hsz, hne, _, _, _⟩ := slicePart_info hsp
  subst hsz
  split at h
  · simp only [Option.map_eq_some_iff] at h
    obtain ⟨b, hb, rfl⟩ := h
    simp only [Rep, RepC] at hx; subst hx
    obtain ⟨hr, l1, l2, l3⟩ := bounds_run (P := P) (w := w) true h1 n1 h2 n2 h3 n3 hb
    refine ⟨_, run_sliceAt ht hti hr, ?_⟩
    have e1 : b.2.2 = 0 := by omega
    have e2 : b.2.1 = 0 := by omega
    have e3 : b.1 = 0 := by omega
    simp [e1, e2, e3, Rep, RepC]
  · rename_i cells off len
    split at h
    · simp at h
    rename_i hmx
    have hmx : mx = none := by cases mx <;> simp at hmx ⊢
    subst hmx
    simp only [Option.map_eq_some_iff] at h
    obtain ⟨b, hb, rfl⟩ := h
    have key : (xv = .slice none 0 0 ∧ len = 0) ∨ ∃ a cap, xv = .slice (some a) len cap ∧ len ≤ cap ∧ (len = 0 ∨ ∃ bk base cs e fr, a = ⟨bk, base + off, none⟩ ∧ g.Φ bk = some (.cells cs e fr) ∧ RepP g.Φ cells (cs.toList.drop base)) := by
      rcases hx with ⟨h1, ⟨a, cap, rfl⟩ | rfl⟩ | ⟨bk, base, cap, cs, e, fr, rfl, hc, k1, k2⟩
      · exact .inr ⟨a, cap, by rw [h1], by omega, .inl h1⟩
      · exact .inl ⟨rfl, h1⟩
      · exact .inr ⟨_, cap, rfl, hc, .inr ⟨bk, base, cs, e, fr, rfl, k1, k2⟩⟩
    rcases key with ⟨rfl, hl0⟩ | ⟨a, cap, rfl, hc, hk⟩
    · subst hl0
      obtain ⟨hr, l1, l2, l3⟩ := bounds_run (P := P) (w := w) true h1 n1 h2 n2 (by simp) (fun _ => n3 rfl) hb
      refine ⟨_, by rw [n3 rfl] at hr ⊢; exact run_sliceAt ht hti hr, ?_⟩
      have e1 : b.2.2 = 0 := by omega
      have e2 : b.2.1 = 0 := by omega
      have e3 : b.1 = 0 := by omega
      simp [e1, e2, e3, Rep, RepC]
    obtain ⟨m', hm', hle⟩ := boundsOf_mono hb hc
    obtain ⟨hr, l1, l2, l3⟩ := bounds_run (P := P) (w := w) true h1 n1 h2 n2 (by simp) (fun _ => n3 rfl) hm'
    simp only at l1 l2 l3
    have hlen : b.2.1 ≤ len := by
      have := (bounds_run (P := P) (w := w) true h1 n1 h2 n2 (by simp) (fun _ => n3 rfl) hb).2; omega
    refine ⟨_, by rw [n3 rfl] at hr ⊢; exact run_sliceAt ht hti hr, ?_⟩
    simp only
    by_cases h0 : b.2.1 - b.1 = 0
    · rw [h0]
      left
      refine ⟨rfl, .inl ?_⟩
      split
      · exact ⟨a, _, rfl⟩
      · exact ⟨a.add (b.1 * i.size), _, rfl⟩
    · right
      rw [if_neg (by omega)]
      obtain ⟨bk, base, cs, e, fr, rfl, k1, k2⟩ := hk.resolve_left (by omega)
      refine ⟨bk, base, m' - b.1, cs, e, fr, ?_, by omega, k1, k2⟩
      simp [addr_add, Nat.add_assoc]
  · rename_i id sz off len cap
    split at h
    case isFalse => simp at h
    rename_i hsz
    subst hsz
    simp only [Option.map_eq_some_iff] at h
    obtain ⟨b, hb, rfl⟩ := h
    obtain ⟨ha, a, cap', rfl, c1, c2, c3⟩ := hx
    obtain ⟨m', hm', hle⟩ := boundsOf_mono hb c2
    obtain ⟨hr, l1, l2, l3⟩ := bounds_run (P := P) (w := w) true h1 n1 h2 n2 h3 n3 hm'
    obtain ⟨_, k1, k2, k3⟩ := bounds_run (P := P) (w := w) true h1 n1 h2 n2 h3 n3 hb
    simp only at l1 l2 l3
    refine ⟨_, run_sliceAt ht hti hr, ha, ?_⟩
    simp only
    by_cases h0 : m' = b.1
    · refine ⟨a, m' - b.1, by rw [if_pos h0], by omega, by omega, .inl (by omega)⟩
    · rw [if_neg h0]
      obtain ⟨rfl, hbd⟩ := c3.resolve_left (by omega)
      refine ⟨_, m' - b.1, rfl, by omega, by omega, .inr ⟨by simp [addr_add, Nat.add_assoc], ?_⟩⟩
      have hmul : m' * i.size ≤ cap' * i.size := Nat.mul_le_mul_right _ l3
      have hsub : (m' - b.1) * i.size = m' * i.size - b.1 * i.size := Nat.sub_mul _ _ _
      have hle2 : b.1 * i.size ≤ m' * i.size := Nat.mul_le_mul_right _ (by omega)
      omega
  · simp at h

theorem fieldOf_some {s : TypeId} {f : Nat} {fd : Field} (h : fieldOf P s f = some fd) : ∃ fields, P.underlying s = some (.struct fields) ∧ fields[f]? = some fd := by
  unfold fieldOf at h
  split at h
  · exact ⟨_, by assumption, h⟩
  · simp at h

theorem sim_fieldAddr {s : TypeId} {x v : AV} {xv : Value} {f : Nat} (hx : Rep g x xv) (h : afieldAddr P s x f = some v) : ∃ u, (Instr.fieldAt s xv f).run P w = .ok u w ∧ Rep g v u := by
  unfold afieldAddr at h
  split at h
  case h_2 => simp at h
  rename_i fd hf
  obtain ⟨fields, hs, hfd⟩ := fieldOf_some hf
  split at h
  · simp at h
  rename_i hz
  split at h
  · simp at h; subst h
    obtain ⟨ha, rfl⟩ := hx
    exact ⟨_, run_fieldAt hs hfd hz, ha, by rw [Nat.add_assoc]⟩
  · simp at h; subst h
    obtain ⟨b, base, cs, e, fr, rfl, k1, k2⟩ := hx
    exact ⟨_, run_fieldAt hs hfd hz, b, base, cs, e, fr, by rw [Nat.add_assoc], k1, k2⟩
  · simp at h

theorem sim_field {t : TypeId} {x v : AV} {xv : Value} {f : Nat} (hx : Rep g x xv) (h : afield P t x f = some v) : ∃ u, (Instr.field t xv f).run P w = .ok u w ∧ Rep g v u := by
  unfold afield at h
  split at h
  · rename_i fd cs hf
    obtain ⟨fields, hs, hfd⟩ := fieldOf_some hf
    obtain ⟨cs', rfl, hl, hp⟩ := rep_aggCells hx (.inl ⟨_, rfl⟩)
    obtain ⟨u, hu, hr⟩ := part_run (P := P) (w := w) hp h
    exact ⟨u, by simp [Instr.field, run_underlying hs, hfd, asAgg, hu], hr⟩
  · rename_i fd cs hf
    obtain ⟨fields, hs, hfd⟩ := fieldOf_some hf
    obtain ⟨cs', rfl, hl, hp⟩ := rep_aggCells hx (.inr ⟨_, rfl⟩)
    obtain ⟨u, hu, hr⟩ := part_run (P := P) (w := w) hp h
    exact ⟨u, by simp [Instr.field, run_underlying hs, hfd, asAgg, hu], hr⟩
  · simp at h

theorem sim_index {t : TypeId} {x ix v : AV} {xv iv : Value} (hx : Rep g x xv) (hix : Rep g ix iv) (h : aindex P t x ix = some v) : ∃ u, (Instr.index t xv iv).run P w = .ok u w ∧ Rep g v u := by
  unfold aindex at h
  split at h
  · rename_i i len elem cs hi ht
    split at h
    case h_2 => simp at h
    rename_i inf hinf
    split at h
    case isFalse => simp at h
    rename_i hb
    obtain ⟨k, rfl⟩ := rep_toInt hix hi
    obtain ⟨cs', rfl, hl, hp⟩ := rep_aggCells hx (.inl ⟨_, rfl⟩)
    obtain ⟨u, hu, hr⟩ := part_run (P := P) (w := w) hp h
    exact ⟨u, by simp [Instr.index, asIntOf, run_underlying ht, run_sizeOf' hinf, hb, hu], hr⟩
  · rename_i i len elem cs hi ht
    split at h
    case h_2 => simp at h
    rename_i inf hinf
    split at h
    case isFalse => simp at h
    rename_i hb
    obtain ⟨k, rfl⟩ := rep_toInt hix hi
    obtain ⟨cs', rfl, hl, hp⟩ := rep_aggCells hx (.inr ⟨_, rfl⟩)
    obtain ⟨u, hu, hr⟩ := part_run (P := P) (w := w) hp h
    exact ⟨u, by simp [Instr.index, asIntOf, run_underlying ht, run_sizeOf' hinf, hb, hu], hr⟩
  · simp at h

/-- An outcome: a value, or a panic. -/
def IndexFits (g : G) (w : World) (out : Out) (res : Result Value) : Prop := match out with
  | .simple r => r.upds = [] ∧ r.fresh = none ∧ ∃ u, res = .ok u w ∧ Rep g r.val u
  | .panic v => ∃ u w', res = .halt (.panic u) w' ∧ Rep g v u ∧ SameOut w w' ∧ w'.heap = w.heap
  | _ => False

theorem run_boundsPanic' (k : IntKind) (x y : Int) (code : BoundsCode) : ∃ u w', (boundsPanic k x y code : Sem Value).run P w = .halt (.panic u) w' ∧ SameOut w w' ∧ w'.heap = w.heap := by
  have rp : ∀ (s : Bool) (w : World), ∃ u, (runtimePanic (.bounds (IntKind.i64.wrap x) y s code) : Sem Value).run P w = .halt (.panic u) w := fun s w => ⟨_, by simp [runtimePanic]; rfl⟩
  by_cases hc : (k != .u64 && 0 ≤ x && x ≤ 31) = true
  · obtain ⟨u, hu⟩ := rp ((Question.extern "runtime.boundsError.signed" 2).cut (w.tape w.drawn (.extern "runtime.boundsError.signed" 2)) == 1) w.drew
    refine ⟨u, w.drew, ?_, ⟨rfl, rfl, rfl⟩, rfl⟩
    rw [← hu]
    unfold boundsPanic
    rw [if_pos hc]
    simp [Question.forced]
  · obtain ⟨u, hu⟩ := rp (k != .u64) w
    refine ⟨u, w, ?_, ⟨rfl, rfl, rfl⟩, rfl⟩
    rw [← hu]
    unfold boundsPanic
    rw [if_neg hc]
    simp

theorem sim_indexAddr {t : TypeId} {x ix : AV} {xv iv : Value} {out : Out} (hx : Rep g x xv) (hix : Rep g ix iv) (h : aindexAddr P t x ix = some out) : IndexFits g w out ((Instr.indexAt t xv iv).run P w) := by
  unfold aindexAddr at h
  split at h
  · -- an array of the evaluator's
    rename_i i len elem id off hai ht
    obtain ⟨k, rfl⟩ := rep_toInt hix hai
    split at h
    case h_2 => simp at h
    rename_i size hsp
    obtain ⟨ti, z, hti, hsz, hne, _⟩ := slicePart_info hsp
    split at h
    case isFalse => simp at h
    rename_i hb
    simp only [Option.some.injEq] at h; subst h
    obtain ⟨ha, rfl⟩ := hx
    refine ⟨rfl, rfl, _, ?_, ha, rfl⟩
    have hd : (decide (len ≤ 1)) = false := by simp; omega
    simp [Instr.indexAt, asIntOf, run_underlying ht, Instr.sureAddr, hb.2.1, hb.2.2, run_sizeOf' hti, hsz, addr_add, Nat.add_assoc]
  · rename_i i len elem cs off hai ht
    obtain ⟨k, rfl⟩ := rep_toInt hix hai
    split at h
    case h_2 => simp at h
    rename_i size hsp
    obtain ⟨ti, z, hti, hsz, hne, _⟩ := slicePart_info hsp
    split at h
    case isFalse => simp at h
    rename_i hb
    simp only [Option.some.injEq] at h; subst h
    obtain ⟨b, base, cs', e, fr, rfl, k1, k2⟩ := hx
    refine ⟨rfl, rfl, _, ?_, b, base, cs', e, fr, rfl, k1, k2⟩
    simp [Instr.indexAt, asIntOf, run_underlying ht, Instr.sureAddr, hb.2.1, hb.2.2, run_sizeOf' hti, hsz, addr_add, Nat.add_assoc]
  · rename_i i elem id sz off len cap hai ht
    obtain ⟨k, rfl⟩ := rep_toInt hix hai
    split at h
    case h_2 => simp at h
    rename_i size hsp
    obtain ⟨ti, z, hti, hsz, hne, _⟩ := slicePart_info hsp
    split at h
    case isFalse => simp at h
    rename_i hss
    subst hss
    obtain ⟨ha, a, cap', rfl, c1, c2, c3⟩ := hx
    split at h
    · rename_i hb
      simp only [Option.some.injEq] at h; subst h
      obtain ⟨rfl, hbd⟩ := c3.resolve_left (by omega)
      refine ⟨rfl, rfl, _, ?_, ha, rfl⟩
      simp [Instr.indexAt, asIntOf, run_underlying ht, hb.1, hb.2, run_sizeOf' hti, hsz, addr_add, Nat.add_assoc]
    · rename_i hb
      simp only [Option.some.injEq] at h; subst h
      obtain ⟨u, w', h1, h2, h3⟩ := run_boundsPanic' (P := P) (w := w) k i len .index
      refine ⟨u, w', ?_, trivial, h2, h3⟩
      simp [Instr.indexAt, asIntOf, run_underlying ht, hb, h1]
  · rename_i i elem cs off len hai ht
    obtain ⟨k, rfl⟩ := rep_toInt hix hai
    split at h
    case h_2 => simp at h
    rename_i size hsp
    obtain ⟨ti, z, hti, hsz, hne, _⟩ := slicePart_info hsp
    have key : (xv = .slice none 0 0 ∧ len = 0) ∨ ∃ a cap, xv = .slice (some a) len cap ∧ (len = 0 ∨ ∃ bk base cs' e fr, a = ⟨bk, base + off, none⟩ ∧ g.Φ bk = some (.cells cs' e fr) ∧ RepP g.Φ cs (cs'.toList.drop base)) := by
      rcases hx with ⟨h1, ⟨a, cap, rfl⟩ | rfl⟩ | ⟨bk, base, cap, cs', e, fr, rfl, hc, k1, k2⟩
      · exact .inr ⟨a, cap, by rw [h1], .inl h1⟩
      · exact .inl ⟨rfl, h1⟩
      · exact .inr ⟨_, cap, rfl, .inr ⟨bk, base, cs', e, fr, rfl, k1, k2⟩⟩
    rcases key with ⟨rfl, hl0⟩ | ⟨a, cap, rfl, hk⟩
    · subst hl0
      split at h
      · rename_i hb; exfalso; omega
      · rename_i hb
        simp only [Option.some.injEq] at h; subst h
        obtain ⟨u, w', h1, h2, h3⟩ := run_boundsPanic' (P := P) (w := w) k i 0 .index
        refine ⟨u, w', ?_, trivial, h2, h3⟩
        simp [Instr.indexAt, asIntOf, run_underlying ht, h1]
    split at h
    · rename_i hb
      simp only [Option.some.injEq] at h; subst h
      obtain ⟨bk, base, cs', e, fr, rfl, k1, k2⟩ := hk.resolve_left (by omega)
      refine ⟨rfl, rfl, _, ?_, bk, base, cs', e, fr, rfl, k1, k2⟩
      simp [Instr.indexAt, asIntOf, run_underlying ht, hb.1, hb.2, run_sizeOf' hti, hsz, addr_add, Nat.add_assoc]
    · rename_i hb
      simp only [Option.some.injEq] at h; subst h
      obtain ⟨u, w', h1, h2, h3⟩ := run_boundsPanic' (P := P) (w := w) k i len .index
      refine ⟨u, w', ?_, trivial, h2, h3⟩
      simp [Instr.indexAt, asIntOf, run_underlying ht, hb, h1]
  · rename_i i elem cap hai ht
    obtain ⟨k, rfl⟩ := rep_toInt hix hai
    simp only [Option.some.injEq] at h; subst h
    simp only [Rep, RepC] at hx; subst hx
    obtain ⟨u, w', h1, h2, h3⟩ := run_boundsPanic' (P := P) (w := w) k i 0 .index
    refine ⟨u, w', ?_, trivial, h2, h3⟩
    simp [Instr.indexAt, asIntOf, run_underlying ht, h1]
  · simp at h

theorem sim_arrSlice {t : TypeId} {x : AV} {xv : Value} {lo hi' mx : Option AV} {lov hiv mxv : Option Value} {r : SOut} (hi : Inv g H w) (hx : Rep g x xv)
    (h1 : ∀ a, lo = some a → ∃ v, lov = some v ∧ Rep g a v) (n1 : lo = none → lov = none) (h2 : ∀ a, hi' = some a → ∃ v, hiv = some v ∧ Rep g a v) (n2 : hi' = none → hiv = none)
    (h3 : ∀ a, mx = some a → ∃ v, mxv = some v ∧ Rep g a v) (n3 : mx = none → mxv = none) (h : aarrSlice P H t x lo hi' mx = some r) :
    Fits g H w fresh r ((do pure (.value (← Instr.sliceAt t xv lov hiv mxv)) : Sem Next).run P w) := by
  unfold aarrSlice at h
  split at h
  case h_2 => simp at h
  rename_i len elem ht
  split at h
  · rename_i size id off hsp
    obtain ⟨i, z, hti, hsz, hne, _, _, _⟩ := slicePart_info hsp
    subst hsz
    split at h
    case h_2 => simp at h
    rename_i cells hb
    split at h
    case isFalse => simp at h
    rename_i hle
    simp only [Option.map_eq_some_iff] at h
    obtain ⟨b, hbb, rfl⟩ := h
    obtain ⟨ha, rfl⟩ := hx
    obtain ⟨cs, e, k1, k2, k3⟩ := hi.blk ha hb
    obtain ⟨hr, l1, l2, l3⟩ := bounds_run (P := P) (w := w) false h1 n1 h2 n2 h3 n3 hbb
    have hcs := k3.le
    simp only [List.length_drop, Array.length_toList] at hcs
    have hrun : (Instr.sliceAt t (.pointer (some ⟨(g.j id).blk, (g.j id).base + off, none⟩)) lov hiv mxv).run P w = .ok (.slice (some (if b.2.2 = b.1 then ⟨(g.j id).blk, (g.j id).base + off, none⟩ else (⟨(g.j id).blk, (g.j id).base + off, none⟩ : Addr).add (b.1 * i.size))) (b.2.1 - b.1) (b.2.2 - b.1)) w := by
      obtain ⟨l, h, m⟩ := b
      simp [Instr.sliceAt, run_underlying ht, Instr.sureAddr, hr, run_sizeOf' hti]
    refine fits_val hi (by rw [Sem.run_bind, hrun]; rfl) ⟨ha, ?_⟩
    by_cases h0 : b.2.2 = b.1
    · rw [if_pos h0]
      exact ⟨_, b.2.2 - b.1, rfl, by omega, Nat.le_refl _, .inl (by omega)⟩
    · rw [if_neg h0]
      refine ⟨_, b.2.2 - b.1, rfl, by omega, Nat.le_refl _, .inr ⟨by simp [addr_add, Nat.add_assoc], ?_⟩⟩
      have hmul : b.2.2 * i.size ≤ len * i.size := Nat.mul_le_mul_right _ l3
      have hsub : (b.2.2 - b.1) * i.size = b.2.2 * i.size - b.1 * i.size := Nat.sub_mul _ _ _
      have hle2 : b.1 * i.size ≤ b.2.2 * i.size := Nat.mul_le_mul_right _ (by omega)
      have : cs.size = (g.j id).size := k2
      have hpos : 0 < (b.2.2 - b.1) * i.size := Nat.mul_pos (by omega) (by omega)
      omega
  · rename_i size cells off hsp
    obtain ⟨i, z, hti, hsz, hne, _, _, _⟩ := slicePart_info hsp
    subst hsz
    split at h
    case isFalse => simp at h
    rename_i hle
    simp only [Option.map_eq_some_iff] at h
    obtain ⟨b, hbb, rfl⟩ := h
    obtain ⟨bk, base, cs, e, fr, rfl, k1, k2⟩ := hx
    obtain ⟨hr, l1, l2, l3⟩ := bounds_run (P := P) (w := w) false h1 n1 h2 n2 h3 n3 hbb
    have hrun : (Instr.sliceAt t (.pointer (some ⟨bk, base + off, none⟩)) lov hiv mxv).run P w = .ok (.slice (some (if b.2.2 = b.1 then ⟨bk, base + off, none⟩ else (⟨bk, base + off, none⟩ : Addr).add (b.1 * i.size))) (b.2.1 - b.1) (b.2.2 - b.1)) w := by
      obtain ⟨l, h, m⟩ := b
      simp [Instr.sliceAt, run_underlying ht, Instr.sureAddr, hr, run_sizeOf' hti]
    refine fits_val hi (by rw [Sem.run_bind, hrun]; rfl) ?_
    by_cases h0 : b.2.1 - b.1 = 0
    · refine .inl ⟨h0, .inl ?_⟩
      rw [h0]
      exact ⟨_, _, rfl⟩
    · right
      rw [if_neg (by omega)]
      refine ⟨bk, base, b.2.2 - b.1, cs, e, fr, ?_, by omega, k1, k2⟩
      simp [addr_add, Nat.add_assoc]
  · simp at h

end
end Go.Ag
/- Part H: copy, clear, lengths; maps. -/
namespace Go.Ag
section
variable {P : Program} {g : G} {H : Nat → AB} {w : World} {fresh : Nat}

theorem sim_copy (hi : Inv g H w) {argTypes : Array TypeId} {ty t : TypeId} {d s : AV} {dv sv : Value} {r : SOut} (h0 : argTypes[0]? = some t) (hd : Rep g d dv) (hs : Rep g s sv) (h : acopy P H t d s = some r) :
    Fits g H w fresh r ((do pure (.value (← Builtin.copy_ argTypes ty #[dv, sv])) : Sem Next).run P w) := by
  unfold acopy at h
  split at h
  case h_2 => simp at h
  rename_i elem ht
  split at h
  case h_2 => simp at h
  rename_i size hsp
  obtain ⟨i, z, hti, hsz, hne, hbytes, hz, hzs⟩ := slicePart_info hsp
  subst hsz
  split at h
  · rename_i new n reads id sz off len cap hfc
    split at h
    case isFalse => simp at h
    rename_i hc
    obtain ⟨hss, hcell⟩ := hc
    subst hss
    split at h
    case h_2 => simp at h
    rename_i cells hb
    simp only [Option.map_eq_some_iff] at h
    obtain ⟨cs', hput, rfl⟩ := h
    obtain ⟨ha, a, cap', rfl, c1, c2, c3⟩ := hd
    obtain ⟨hlen, hnl, hfirst⟩ := firstCells_run (P := P) hi hs hfc
    obtain ⟨arr, harr, hpw, hal, has⟩ := hfirst (Nat.min n len) (Nat.min_le_left _ _)
    obtain ⟨cs, e, hg, hzc, hp⟩ := hi.blk ha hb
    have hml : Nat.min n len ≤ len := Nat.min_le_right _ _
    have hone : ∀ y ∈ arr.toList, y.oneCell' = true := all_cellish_one hpw (by simpa using hal) (by
      rw [List.all_eq_true] at hcell ⊢
      exact fun x hx => hcell x (List.mem_of_mem_take hx))
    rcases c3 with c3 | ⟨rfl, hbd⟩
    · have hm0 : Nat.min n len = 0 := by omega
      have harr0 : arr.toList = [] := List.length_eq_zero_iff.1 (by simp [has, hm0])
      rw [hm0] at hput harr
      have hcs : cs' = cells := by
        simp only [Nat.zero_mul, List.take_zero, putAt, List.length_nil, Nat.add_zero, List.append_nil, List.take_append_drop] at hput
        split at hput
        · simpa using hput.symm
        · simp at hput
      subst hcs
      have hrun : (Builtin.copy_ argTypes ty #[.slice (some a) len cap', sv]).run P w = .ok (goInt 0) w := by
        simp [Builtin.copy_, h0, run_underlying ht, hlen, run_sizeOf' hti, hm0, harr, harr0, storeCells]
      rw [hm0]
      refine fits_write hi ha (by rw [hb]; rfl) (w' := w) (.inl (by rw [Sem.run_bind, hrun]; rfl)) (SameOut.refl w) rfl (fun _ _ => rfl) hg ⟨cs, e, rfl, hzc, hp⟩ ?_
      rfl
    · have hmul : Nat.min n len * i.size ≤ cap' * i.size := Nat.mul_le_mul_right _ (by omega)
      have hle : (g.j id).base + off + arr.toList.length ≤ cs.size := by rw [Array.length_toList, has, hzc]; omega
      have hst := store_mid (P := P) (o := (g.j id).base + off) hg hle hone
      have hrun : (Builtin.copy_ argTypes ty #[.slice (some ⟨(g.j id).blk, (g.j id).base + off, none⟩) len cap', sv]).run P w = .ok (goInt (Nat.min n len)) (w.setRow (g.j id).blk (cs.toList.take ((g.j id).base + off) ++ arr.toList ++ cs.toList.drop ((g.j id).base + off + arr.toList.length)).toArray) := by
        simp only [Builtin.copy_, h0, List.getElem?_toArray, List.getElem?_cons_zero, List.getElem?_cons_succ, Sem.run_bind, run_underlying ht, Result.andThen_ok, hlen, run_sizeOf' hti, harr, hst, Sem.run_pure]
      exact fits_mid hi ha hb hg hzc hp hpw (by simpa using hal) hput hle (by rw [Sem.run_bind, hrun]; rfl) rfl
  · rename_i new n reads hfc
    simp only [Option.some.injEq] at h; subst h
    simp only [Rep, RepC] at hd; subst hd
    obtain ⟨hlen, hnl, hfirst⟩ := firstCells_run (P := P) hi hs hfc
    obtain ⟨arr, harr, hpw, hal, has⟩ := hfirst 0 (Nat.zero_le _)
    have hm0 : Nat.min n 0 = 0 := Nat.min_zero n
    have hrun : (Builtin.copy_ argTypes ty #[.slice none 0 0, sv]).run P w = .ok (goInt 0) w := by
      simp [Builtin.copy_, h0, run_underlying ht, hlen, run_sizeOf' hti, harr]
    exact fits_val hi (by rw [Sem.run_bind, hrun]; rfl) rfl
  · simp at h

theorem sim_clear (hi : Inv g H w) {argTypes : Array TypeId} {ty t : TypeId} {x : AV} {xv : Value} {r : SOut} (h0 : argTypes[0]? = some t) (hx : Rep g x xv) (h : aclear P H t x = some r) :
    Fits g H w fresh r ((do pure (.value (← Builtin.clear_ argTypes ty #[xv])) : Sem Next).run P w) := by
  unfold aclear at h
  split at h
  case h_2 => simp at h
  rename_i elem id sz off len cap ht
  split at h
  case h_2 => simp at h
  rename_i size z cells hsp hz hb
  split at h
  case isFalse => simp at h
  rename_i hc
  obtain ⟨hss, hcell⟩ := hc
  subst hss
  obtain ⟨i, z', hti, hsz, hne, hbytes, hz', hzs⟩ := slicePart_info hsp
  obtain ⟨i2, z2, hi2, hz2, rfl⟩ := info_zero hz
  have : i2 = i := by rw [hti] at hi2; cases hi2; rfl
  subst this
  have : z2 = z' := by rw [hz'] at hz2; cases hz2; rfl
  subst this
  simp only [Option.map_eq_some_iff] at h
  obtain ⟨cs', hput, rfl⟩ := h
  obtain ⟨ha, a, cap', rfl, c1, c2, c3⟩ := hx
  obtain ⟨cs, e, hg, hzc, hp⟩ := hi.blk ha hb
  obtain ⟨q1, q2⟩ := repeat_rep (g := g) (z := z2.cells) rfl (len * sz) (fun _ => by omega)
  have hzeq : (Builtin.zeroCells z2.cells len) = (Array.range (len * sz)).map (z2.cells[· % z2.cells.size]!) := by
    simp [Builtin.zeroCells, hzs]
  rcases Nat.eq_zero_or_pos len with hl0 | hpos
  · subst hl0
    have hcs : cs' = cells := by
      simp only [Nat.zero_mul, repeatCells, List.range_zero, List.map_nil, putAt, List.length_nil, Nat.add_zero, List.append_nil, List.take_append_drop] at hput
      split at hput
      · simpa using hput.symm
      · simp at hput
    subst hcs
    have hrun : (Builtin.clear_ argTypes ty #[.slice (some a) 0 cap']).run P w = .ok (.tuple #[]) w := by
      simp [Builtin.clear_, h0, run_underlying ht]
    exact fits_write hi ha (by rw [hb]; rfl) (w' := w) (.inl (by rw [Sem.run_bind, hrun]; rfl)) (SameOut.refl w) rfl (fun _ _ => rfl) hg ⟨cs, e, rfl, hzc, hp⟩ rfl
  · obtain ⟨rfl, hbd⟩ := c3.resolve_left (by omega)
    have hone : ∀ y ∈ ((Array.range (len * sz)).map (z2.cells[· % z2.cells.size]!)).toList, y.oneCell' = true := by
      refine all_cellish_one q1 (by simpa using q2) ?_
      rw [List.all_eq_true] at hcell ⊢
      intro x hx
      simp only [repeatCells, List.mem_map, List.mem_range] at hx
      obtain ⟨k, _, rfl⟩ := hx
      have hlt : k % (z2.cells.toList.map AV.lit).length < (z2.cells.toList.map AV.lit).length := Nat.mod_lt _ (by simp; omega)
      rw [List.getD_eq_getElem?_getD, List.getElem?_eq_getElem hlt]
      exact hcell _ (List.getElem_mem _)
    have hmul : len * sz ≤ cap' * sz := Nat.mul_le_mul_right _ (by omega)
    have hle : (g.j id).base + off + ((Array.range (len * sz)).map (z2.cells[· % z2.cells.size]!)).toList.length ≤ cs.size := by rw [Array.length_toList, Array.size_map, Array.size_range, hzc]; omega
    have hst := store_mid (P := P) (o := (g.j id).base + off) hg hle hone
    have hrun : (Builtin.clear_ argTypes ty #[.slice (some ⟨(g.j id).blk, (g.j id).base + off, none⟩) len cap']).run P w = .ok (.tuple #[]) (w.setRow (g.j id).blk (cs.toList.take ((g.j id).base + off) ++ ((Array.range (len * sz)).map (z2.cells[· % z2.cells.size]!)).toList ++ cs.toList.drop ((g.j id).base + off + ((Array.range (len * sz)).map (z2.cells[· % z2.cells.size]!)).toList.length)).toArray) := by
      obtain ⟨len', rfl⟩ : ∃ l, len = l + 1 := ⟨len - 1, by omega⟩
      simp only [Builtin.clear_, h0, List.getElem?_toArray, List.getElem?_cons_zero, Sem.run_bind, run_underlying ht, Result.andThen_ok, zeroValue, typeInfo, run_program, hti, hz', Sem.run_pure, hzeq, hst]
    exact fits_mid hi ha hb hg hzc hp q1 (by simpa using q2) hput hle (by rw [Sem.run_bind, hrun]; rfl) rfl

theorem sim_len (hi : Inv g H w) {argTypes : Array TypeId} {ty t : TypeId} {x : AV} {xv : Value} {r : SOut} (h0 : argTypes[0]? = some t) (hx : Rep g x xv) (h : alen P H t x = some r) :
    Fits g H w fresh r ((do pure (.value (← Builtin.len_ argTypes ty #[xv])) : Sem Next).run P w) := by
  have fin : ∀ n : Nat, r.val = .int n → r.upds = [] → r.fresh = none → (Builtin.len_ argTypes ty #[xv]).run P w = .ok (goInt n) w → Fits g H w fresh r ((do pure (.value (← Builtin.len_ argTypes ty #[xv])) : Sem Next).run P w) := by
    intro n e1 e2 e3 hr
    obtain ⟨v, rd, us, fr⟩ := r
    simp only at e1 e2 e3
    subst e1 e2 e3
    exact fits_val hi (by rw [Sem.run_bind, hr]; rfl) rfl
  unfold alen at h
  split at h
  · rename_i e ht
    simp only [Option.some.injEq] at h; subst h
    simp only [Rep, RepC] at hx; subst hx
    exact fin 0 rfl rfl rfl (by simp [Builtin.len_, h0, run_underlying ht])
  · rename_i e cs off n ht
    simp only [Option.some.injEq] at h; subst h
    refine fin n rfl rfl rfl ?_
    rcases hx with ⟨h1, ⟨a, cap, rfl⟩ | rfl⟩ | ⟨bk, base, cap, cs', e, fr, rfl, hc, k1, k2⟩
    · subst h1; simp [Builtin.len_, h0, run_underlying ht]
    · subst h1; simp [Builtin.len_, h0, run_underlying ht]
    · simp [Builtin.len_, h0, run_underlying ht]
  · rename_i e id sz off n cap ht
    simp only [Option.some.injEq] at h; subst h
    obtain ⟨ha, a, cap', rfl, _⟩ := hx
    exact fin n rfl rfl rfl (by simp [Builtin.len_, h0, run_underlying ht])
  · rename_i k e keys vals borns clock ht
    simp only [Option.some.injEq] at h; subst h
    obtain ⟨r, es, rfl, h1, h2, h3, h4, h5⟩ := hx
    refine fin keys.length rfl rfl rfl ?_
    have hf := hi.frozen r _ h1
    have hg : (getObj r).run P w = .ok (.map es clock) w := by simp [getObj, Sem.run, hf]
    simp only [Builtin.len_, h0, List.getElem?_toArray, List.getElem?_cons_zero, Sem.run_bind, run_underlying ht, Result.andThen_ok, hg, Sem.run_pure]
    rw [← h2]; simp
  · rename_i k e id ht
    split at h
    case h_2 => simp at h
    rename_i keys vals borns clock hb
    simp only [Option.some.injEq] at h; subst h
    obtain ⟨ha, rfl⟩ := hx
    have hblk := hi.block id ha
    rw [hb] at hblk
    obtain ⟨es, h1, h2, h3, h4, h5⟩ := hblk
    refine fin keys.length rfl rfl rfl ?_
    have hg : (getObj (g.j id).blk).run P w = .ok (.map es clock) w := by simp [getObj, Sem.run, h1]
    simp only [Builtin.len_, h0, List.getElem?_toArray, List.getElem?_cons_zero, Sem.run_bind, run_underlying ht, Result.andThen_ok, hg, Sem.run_pure]
    rw [← h2]; simp
  · simp at h

theorem sim_extract {x v : AV} {xv : Value} {ix : Nat} (hx : Rep g x xv) (h : aextract ix x = some v) : ∃ u, (Instr.extract xv ix).run P w = .ok u w ∧ Rep g v u := by
  unfold aextract at h
  split at h
  · obtain ⟨vs, rfl, hl, hp⟩ := hx
    obtain ⟨u, hu, hr⟩ := reps_iff.1 hp ix v h
    have : vs[ix]? = some u := by simpa using hu
    exact ⟨u, by simp [Instr.extract, this], hr⟩
  · simp only [Option.map_eq_some_iff] at h
    obtain ⟨c, hc, rfl⟩ := h
    obtain ⟨vs, rfl, hl, hp⟩ := hx
    obtain ⟨u, hu, hr⟩ := repP_iff.1 hp ix c hc
    have : vs[ix]? = some u := by simpa using hu
    exact ⟨u, by simp [Instr.extract, this], hr⟩
  · simp at h

theorem elemZero_run {t : TypeId} {v : AV} (h : elemZero P t = some v) : ∃ u, (∀ w, (zeroValue t).run P w = .ok u w) ∧ Rep g v u := by
  unfold elemZero at h
  split at h
  case h_2 => simp at h
  rename_i i hi
  simp only [Option.map_eq_some_iff] at h
  obtain ⟨z, hz, rfl⟩ := h
  exact ⟨z, fun w => by simp [zeroValue, typeInfo, hi, hz], repC_ofVal z⟩

theorem sim_typeAssert {x v : AV} {xv : Value} {xt t : TypeId} {ok : Bool} (hx : Rep g x xv) (h : atypeAssert P x t ok = some v) : ∃ u, (Instr.typeAssert xv xt t ok).run P w = .ok u w ∧ Rep g v u := by
  unfold atypeAssert at h
  split at h
  · simp at h
  · simp at h
  rename_i d hni ht
  have key : ∀ (t' : TypeId) (c : AV) (cv : Value), xv = .iface t' cv → Rep g c cv → (if t' = t then some (if ok then mkTuple [c, .bool true] else c) else none) = some v → ∃ u, (Instr.typeAssert xv xt t ok).run P w = .ok u w ∧ Rep g v u := by
    intro t' c cv hxv hr hq
    split at hq
    case isFalse => simp at hq
    rename_i he
    subst he hxv
    obtain rfl := Option.some.inj hq
    have hrun : (Instr.typeAssert (.iface t' cv) xt t' ok).run P w = .ok (if ok then .tuple #[cv, .bool true] else cv) w := by
      cases d <;> first
        | (exact absurd rfl (hni _))
        | (cases ok <;> simp [Instr.typeAssert, run_underlying ht])
    refine ⟨_, hrun, ?_⟩
    cases ok
    · exact hr
    · refine rep_mkTuple (Pw.cons_iff.2 ⟨hr, Pw.cons_iff.2 ⟨?_, Pw.nil _⟩⟩) rfl
      rfl
  split at h
  · obtain ⟨cv, rfl, hr⟩ := hx
    exact key _ (.c _) cv rfl hr h
  · obtain ⟨cv, rfl, hr⟩ := hx
    exact key _ _ cv rfl hr h
  · split at h
    case h_2 => simp at h
    simp only [Option.map_eq_some_iff] at h
    obtain ⟨z, hz, rfl⟩ := h
    obtain ⟨u, hu, hr⟩ := elemZero_run (g := g) hz
    simp only [Rep, RepC] at hx
    subst hx
    have hrun : (Instr.typeAssert .nilIface xt t true).run P w = .ok (.tuple #[u, .bool false]) w := by
      cases d <;> first
        | (exact absurd rfl (hni _))
        | (simp [Instr.typeAssert, run_underlying ht, hu])
    refine ⟨_, hrun, ?_⟩
    refine rep_mkTuple (Pw.cons_iff.2 ⟨hr, Pw.cons_iff.2 ⟨?_, Pw.nil _⟩⟩) rfl
    rfl
  · simp at h

end
end Go.Ag
/- Part I: maps. -/
namespace Go.Ag
section
variable {P : Program} {g : G} {H : Nat → AB} {w : World} {fresh : Nat}

theorem pureRun_bind {α β : Type} (P : Program) (s : Sem α) (f : α → Sem β) : pureRun P (s >>= f) = (pureRun P s).bind fun a => pureRun P (f a) := by
  show pureRun P (s.bind f) = _
  induction s with
  | pure a => rfl
  | program k ih => simp only [Sem.bind, pureRun]; exact ih P
  | mark m k ih => simp only [Sem.bind, pureRun]; exact ih
  | _ => rfl

theorem pureRun_pure {α : Type} (P : Program) (a : α) : pureRun P (pure a : Sem α) = some a := rfl

def dummy (k : Value) : MapEntry := { key := k, val := Go.undef, born := 0 }

theorem findNow_dummy (kind : TypeDesc) (k : Value) : ∀ (es : List MapEntry) (i : Nat),
    match Instr.findNow kind k (es.map fun e => dummy e.key) i with
    | none => Instr.findNow kind k es i = none
    | some none => Instr.findNow kind k es i = some none
    | some (some (j, _)) => ∃ e, i ≤ j ∧ es[j - i]? = some e ∧ Instr.findNow kind k es i = some (some (j, e.val))
  | [], i => by simp [Instr.findNow]
  | e :: es, i => by
    simp only [List.map_cons, Instr.findNow, dummy]
    cases Instr.sameNow kind k e.key with
    | none => rfl
    | some b =>
      cases b with
      | true => exact ⟨e, Nat.le_refl _, by simp, rfl⟩
      | false =>
        have ih := findNow_dummy kind k es (i + 1)
        simp only [dummy] at ih
        simp only
        split at ih
        · exact ih
        · exact ih
        · rename_i j v h
          obtain ⟨e', h1, h2, h3⟩ := ih
          refine ⟨e', by omega, ?_, h3⟩
          rw [show j - i = (j - (i + 1)) + 1 by omega, List.getElem?_cons_succ]; exact h2

theorem findAsking_dummy (kt : TypeId) (k : Value) : ∀ (es : List MapEntry) (i : Nat) (r : Option (Nat × Value)), pureRun P (Instr.findAsking kt k (es.map fun e => dummy e.key) i) = some r →
    match r with
    | none => pureRun P (Instr.findAsking kt k es i) = some none
    | some (j, _) => ∃ e, i ≤ j ∧ es[j - i]? = some e ∧ pureRun P (Instr.findAsking kt k es i) = some (some (j, e.val))
  | [], i, r, h => by
    simp only [List.map_nil, Instr.findAsking, pureRun_pure, Option.some.injEq] at h
    subst h; rfl
  | e :: es, i, r, h => by
    simp only [List.map_cons, Instr.findAsking, pureRun_bind, Option.bind_eq_some_iff, dummy] at h
    obtain ⟨b, hb, h⟩ := h
    cases b with
    | true =>
      simp only [if_true, pureRun_pure, Option.some.injEq] at h
      subst h
      refine ⟨e, Nat.le_refl _, by simp, ?_⟩
      simp [Instr.findAsking, pureRun_bind, hb, pureRun_pure]
    | false =>
      simp only [Bool.false_eq_true, if_false] at h
      have ih := findAsking_dummy kt k es (i + 1) r h
      split at ih
      · simp [Instr.findAsking, pureRun_bind, hb, ih]
      · rename_i j v
        obtain ⟨e', h1, h2, h3⟩ := ih
        refine ⟨e', by omega, ?_, ?_⟩
        · rw [show j - i = (j - (i + 1)) + 1 by omega, List.getElem?_cons_succ]; exact h2
        · simp [Instr.findAsking, pureRun_bind, hb, h3]

theorem findKey_dummy {kt : TypeId} {k : Value} {es : List MapEntry} {r : Option (Nat × Value)} (h : pureRun P (Instr.findKey kt k (es.map fun e => dummy e.key)) = some r) :
    match r with
    | none => ∀ w, (Instr.findKey kt k es).run P w = .ok none w
    | some (j, _) => ∃ e, es[j]? = some e ∧ ∀ w, (Instr.findKey kt k es).run P w = .ok (some (j, e.val)) w := by
  simp only [Instr.findKey, pureRun_bind, Option.bind_eq_some_iff] at h
  obtain ⟨d, hd, h⟩ := h
  have hn := findNow_dummy d k es 0
  have lift : ∀ x, pureRun P (Instr.findKey kt k es) = some x → ∀ w, (Instr.findKey kt k es).run P w = .ok x w := fun x hx w => pureRun_sound P _ _ hx w
  have step : pureRun P (Instr.findKey kt k es) = match Instr.findNow d k es 0 with
      | some r => some r
      | none => pureRun P (Instr.findAsking kt k es) := by
    simp only [Instr.findKey, pureRun_bind, hd, Option.bind_some]
    cases Instr.findNow d k es 0 <;> rfl
  split at h
  · rename_i r' hr'
    rw [hr'] at hn
    simp only [pureRun_pure, Option.some.injEq] at h
    subst h
    cases r' with
    | none => simp only at hn ⊢; exact lift _ (by rw [step, hn])
    | some p =>
      obtain ⟨j, v⟩ := p
      obtain ⟨e, h1, h2, h3⟩ := hn
      exact ⟨e, by simpa using h2, lift _ (by rw [step, h3])⟩
  · rename_i hr'
    rw [hr'] at hn
    simp only at hn
    have ha := findAsking_dummy kt k es 0 r h
    cases r with
    | none => simp only at ha ⊢; exact lift _ (by rw [step, hn]; exact ha)
    | some p =>
      obtain ⟨j, v⟩ := p
      obtain ⟨e, h1, h2, h3⟩ := ha
      exact ⟨e, by simpa using h2, lift _ (by rw [step, hn]; exact h3)⟩

theorem keyIndex_run {kt : TypeId} {keys : List Value} {es : List MapEntry} {b : Bool} {key : Value} {r : Option Nat} (hk : es.map (·.key) = keys) (h : keyIndex P kt keys b key = some r) :
    (∀ w, (Instr.checkKey b 10000 kt key).run P w = .ok () w) ∧ (match r with
      | none => ∀ w, (Instr.findKey kt key es).run P w = .ok none w
      | some j => ∃ e, es[j]? = some e ∧ ∀ w, (Instr.findKey kt key es).run P w = .ok (some (j, e.val)) w) := by
  unfold keyIndex at h
  split at h
  case h_2 => simp at h
  rename_i hc hf
  simp only [Option.some.injEq] at h; subst h
  refine ⟨fun w => pureRun_sound P _ _ hc w, ?_⟩
  have e : (keys.map fun k => ({ key := k, val := Go.undef, born := 0 } : MapEntry)) = es.map fun e => dummy e.key := by
    rw [← hk, List.map_map]; rfl
  rw [e] at hf
  have := findKey_dummy hf
  rename_i r'
  cases r' with
  | none => exact this
  | some p => exact this

theorem mapType_some {t k e : TypeId} (h : mapType P t = some (k, e)) : P.underlying t = some (.map k e) := by
  unfold mapType at h
  split at h
  · simp at h; obtain ⟨rfl, rfl⟩ := h; assumption
  · simp at h

theorem isEmpty_keys {es : Array MapEntry} {keys : List Value} (h : es.toList.map (·.key) = keys) : es.isEmpty = keys.isEmpty := by
  subst h
  obtain ⟨l⟩ := es
  cases l <;> rfl

theorem lookup_run {t kt et : TypeId} {mv kv u : Value} {es : Array MapEntry} {ok b : Bool} (ht : P.underlying t = some (.map kt et))
    (hm : (mv = .map none ∧ es = #[]) ∨ ∃ r clock, mv = .map (some r) ∧ (getObj r).run P w = .ok (.map es clock) w) (hck : (Instr.checkKey es.isEmpty 10000 kt kv).run P w = .ok () w)
    (hf : (b = true ∧ ∃ j, (Instr.findKey kt kv es.toList).run P w = .ok (some (j, u)) w) ∨ (b = false ∧ (Instr.findKey kt kv es.toList).run P w = .ok none w ∧ (zeroValue et).run P w = .ok u w)) :
    (Instr.lookup t mv kv ok).run P w = .ok (if ok then .tuple #[u, .bool b] else u) w := by
  rcases hm with ⟨rfl, rfl⟩ | ⟨r, clock, rfl, hg⟩
  · have hck' : (Instr.checkKey true 10000 kt kv).run P w = .ok () w := hck
    rcases hf with ⟨rfl, j, hf⟩ | ⟨rfl, hf, hz⟩
    · cases ok <;> simp_all [Instr.lookup, run_underlying ht]
    · cases ok <;> simp_all [Instr.lookup, run_underlying ht]
  · rcases hf with ⟨rfl, j, hf⟩ | ⟨rfl, hf, hz⟩
    · cases ok <;> simp [Instr.lookup, run_underlying ht, hg, hck, hf]
    · cases ok <;> simp [Instr.lookup, run_underlying ht, hg, hck, hf, hz]

theorem getObj_run {r clock : Nat} {es : Array MapEntry} (h : w.heap[r]? = some (.map es clock)) : (getObj r).run P w = .ok (.map es clock) w := by simp [getObj, Sem.run, h]

theorem sim_lookup (hi : Inv g H w) {t : TypeId} {m k : AV} {mv kv : Value} {ok : Bool} {r : SOut} (hm : Rep g m mv) (hk : Rep g k kv) (h : alookup P H t m k ok = some r) :
    Fits g H w fresh r ((do pure (.value (← Instr.lookup t mv kv ok)) : Sem Next).run P w) := by
  unfold alookup at h
  split at h
  case h_2 => simp at h
  rename_i kt et key keys vals reads ht hkv hmo
  obtain rfl := AV.toVal_rep hk hkv
  have ht := mapType_some ht
  -- what the map holds
  have hes : ∃ es : Array MapEntry, ((mv = .map none ∧ es = #[]) ∨ ∃ r clock, mv = .map (some r) ∧ (getObj r).run P w = .ok (.map es clock) w) ∧ es.toList.map (·.key) = keys ∧ Pw (Rep g) vals (es.toList.map (·.val)) := by
    unfold mapOf at hmo
    split at hmo
    · simp only [Option.some.injEq, Prod.mk.injEq] at hmo
      obtain ⟨rfl, rfl, rfl⟩ := hmo
      simp only [Rep, RepC] at hm; subst hm
      exact ⟨#[], .inl ⟨rfl, rfl⟩, rfl, Pw.nil _⟩
    · simp only [Option.some.injEq, Prod.mk.injEq] at hmo
      obtain ⟨rfl, rfl, rfl⟩ := hmo
      obtain ⟨r', es, rfl, h1, h2, h3, h4, h5⟩ := hm
      have hf := hi.frozen r' _ h1
      exact ⟨es, .inr ⟨_, _, rfl, getObj_run hf⟩, h2, Pw.map_left.2 (repP_iff.1 h5)⟩
    · rename_i id
      split at hmo
      case h_2 => simp at hmo
      rename_i keys' vals' borns clock hb
      simp only [Option.some.injEq, Prod.mk.injEq] at hmo
      obtain ⟨rfl, rfl, rfl⟩ := hmo
      obtain ⟨ha, rfl⟩ := hm
      have hblk := hi.block id ha
      rw [hb] at hblk
      obtain ⟨es, h1, h2, h3, h4, h5⟩ := hblk
      exact ⟨es, .inr ⟨_, _, rfl, getObj_run h1⟩, h2, h5⟩
    · simp at hmo
  obtain ⟨es, hget, hkeys, hvp⟩ := hes
  have body : ∀ (v : AV) (u : Value) (b : Bool), (∀ w, (Instr.checkKey keys.isEmpty 10000 kt kv).run P w = .ok () w) →
      ((b = true ∧ ∃ j, (Instr.findKey kt kv es.toList).run P w = .ok (some (j, u)) w) ∨ (b = false ∧ (Instr.findKey kt kv es.toList).run P w = .ok none w ∧ (zeroValue et).run P w = .ok u w)) → Rep g v u →
      Fits g H w fresh { val := if ok then mkTuple [v, .bool b] else v, reads } ((do pure (.value (← Instr.lookup t mv kv ok)) : Sem Next).run P w) := by
    intro v u b hck hf hr
    have hrun := lookup_run (ok := ok) ht hget (by rw [isEmpty_keys hkeys]; exact hck w) hf
    refine fits_val hi (by rw [Sem.run_bind, hrun]; rfl) ?_
    cases ok
    · exact hr
    · exact rep_mkTuple (Pw.cons_iff.2 ⟨hr, Pw.cons_iff.2 ⟨rfl, Pw.nil _⟩⟩) rfl
  split at h
  · rename_i i hki
    split at h
    case h_2 => simp at h
    rename_i v hv
    simp only [Option.some.injEq] at h; subst h
    obtain ⟨hck, e, he, hf⟩ := keyIndex_run (es := es.toList) hkeys hki
    obtain ⟨u, hu, hr⟩ := hvp i v hv
    simp only [List.getElem?_map, he, Option.map_some, Option.some.injEq] at hu
    subst hu
    exact body v e.val true hck (.inl ⟨rfl, _, hf w⟩) hr
  · rename_i hki
    split at h
    case h_2 => simp at h
    rename_i v hz
    simp only [Option.some.injEq] at h; subst h
    obtain ⟨hck, hf⟩ := keyIndex_run (es := es.toList) hkeys hki
    obtain ⟨u, hu, hr⟩ := elemZero_run (g := g) hz
    exact body v u false hck (.inr ⟨rfl, hf w, hu w⟩) hr
  · simp at h

theorem setObj_run {r : Nat} {o o' : Obj} (h : w.heap[r]? = some o) (ho : ∀ c e f, o ≠ .cells c e f) : (setObj r o').run P w = .ok () { w with heap := w.heap.setIfInBounds r o' } := by
  cases o <;> first | exact absurd rfl (ho _ _ _) | simp only [setObj, Sem.run, h]

theorem sim_mapUpdate (hi : Inv g H w) {t : TypeId} {m k v : AV} {mv kv vv : Value} {r : SOut} (hm : Rep g m mv) (hk : Rep g k kv) (hv : Rep g v vv) (h : amapUpdate P H t m k v = some r) :
    Fits g H w fresh r ((do Instr.mapUpdate t mv kv vv; pure .skip : Sem Next).run P w) := by
  unfold amapUpdate at h
  split at h
  case h_2 => simp at h
  rename_i id
  split at h
  case h_2 => simp at h
  rename_i kt et key keys vals borns clock ht hkv hb
  obtain rfl := AV.toVal_rep hk hkv
  have ht := mapType_some ht
  obtain ⟨ha, rfl⟩ := hm
  have hblk := hi.block id ha
  rw [hb] at hblk
  obtain ⟨es, h1, h2, h3, h4, h5⟩ := hblk
  have hget : (getObj (g.j id).blk).run P w = .ok (.map es clock) w := by simp [getObj, Sem.run, h1]
  have hset := fun o' => setObj_run (P := P) (o' := o') h1 (by intro _ _ _ hh; cases hh)
  have hlt : (g.j id).blk < w.heap.size := hi.lt ha (by rw [hb]; rfl)
  have done : ∀ (b : AB) (o' : Obj), (Instr.mapUpdate t (.map (some (g.j id).blk)) kv vv).run P w = .ok () { w with heap := w.heap.setIfInBounds (g.j id).blk o' } → RepB g b (g.j id) (some o') →
      Fits g H w fresh { val := .undef, reads := [id], upds := [(id, b)] } ((do Instr.mapUpdate t (.map (some (g.j id).blk)) kv vv; pure .skip : Sem Next).run P w) := by
    intro b o' hrun hrb
    refine fits_write hi ha (by rw [hb]; rfl) (w' := { w with heap := w.heap.setIfInBounds (g.j id).blk o' }) (.inr ⟨by rw [Sem.run_bind, hrun]; rfl, rfl⟩) ⟨rfl, rfl, rfl⟩ (by simp) (fun k hk => by simp [Ne.symm hk]) (by simp [hlt]) hrb rfl
  split at h
  · rename_i i hki
    split at h
    case h_2 => simp at h
    rename_i old hold
    split at h
    case isFalse => simp at h
    rename_i hsame
    simp only [Option.some.injEq] at h; subst h
    obtain ⟨hck, e, he, hf⟩ := keyIndex_run (es := es.toList) h2 hki
    have he' : es[i]? = some e := by simpa using he
    have hoe : old = e.key := by
      rw [← h2] at hold
      simp only [List.getElem?_map, he, Option.map_some, Option.some.injEq] at hold
      exact hold.symm
    subst hoe
    have hkeep : (Instr.keyThatStays e.key kv).run P w = .ok kv w := by simp [Instr.keyThatStays, hsame]
    refine done _ (.map (es.modify i fun e => { e with key := kv, val := vv }) clock) ?_ ⟨_, rfl, ?_, ?_, ?_, ?_⟩
    · simp [Instr.mapUpdate, run_underlying ht, hget, hck, hf, he', hkeep, hset]
    · rw [← h2]
      apply List.ext_getElem?
      intro n
      simp only [Array.toList_modify, List.getElem?_map, List.getElem?_modify, List.getElem?_set, List.length_map]
      by_cases hn : i = n
      · subst hn; simp [he]; 
        have : i < es.size := by
          rcases Nat.lt_or_ge i es.size with hlt | hge
          · exact hlt
          · simp [Array.getElem?_eq_none hge] at he'
        simpa using this
      · simp [hn]
    · rw [← h3]
      apply List.ext_getElem?
      intro n
      simp only [Array.toList_modify, List.getElem?_map, List.getElem?_modify]
      by_cases hn : i = n
      · subst hn; simp [he]
      · simp [hn]
    · simp [h4]
    · have e1 : (es.modify i fun e => { e with key := kv, val := vv }).toList.map (·.val) = (es.toList.map (·.val)).set i vv := by
        apply List.ext_getElem?
        intro n
        simp only [Array.toList_modify, List.getElem?_map, List.getElem?_modify, List.getElem?_set, List.length_map]
        by_cases hn : i = n
        · subst hn; simp [he]
          rcases Nat.lt_or_ge i es.size with hlt | hge
          · simpa using hlt
          · simp [Array.getElem?_eq_none hge] at he'
        · simp [hn]
      rw [e1]
      exact h5.set i hv
  · rename_i hki
    simp only [Option.some.injEq] at h; subst h
    obtain ⟨hck, hf⟩ := keyIndex_run (es := es.toList) h2 hki
    refine done _ (.map (es.push { key := kv, val := vv, born := clock }) (clock + 1)) ?_ ⟨_, rfl, ?_, ?_, ?_, ?_⟩
    · simp [Instr.mapUpdate, run_underlying ht, hget, hck, hf, hset]
    · simp [h2]
    · simp [h3]
    · simp [h4]
    · rw [Array.toList_push, List.map_append]
      exact Pw.append h5 (Pw.cons_iff.2 ⟨hv, Pw.nil _⟩) (by simpa using h4)
  · simp at h
end
end Go.Ag
/- Part J: every operation: what the evaluator says of it is so. -/
namespace Go.Ag
section
variable {P : Program} {g : G} {H : Nat → AB} {w : World} {fresh : Nat}

/-- What becomes of an operation. -/
def OutFits (P : Program) (g : G) (H : Nat → AB) (w : World) (fresh : Nat) (out : Out) (res : Result Next) : Prop := match out with
  | .simple r => Fits g H w fresh r res
  | .call f args => callable P f = true ∧ ∃ vs : Array Value, res = .ok (.enter f vs) w ∧ args.length = vs.size ∧ Pw (Rep g) args vs.toList
  | .yield id args => g.A id ∧ ∃ vs : Array Value, res = ((Instr.yield (g.j id).blk vs).run P w) ∧ args.length = vs.size ∧ Pw (Rep g) args vs.toList
  | .defer f args => callable P f = true ∧ ∃ (as bs : Array Value), res = .ok (.defer { target := .fn (.func f) bs, args := as }) w ∧ args.length = (as ++ bs).size ∧ Pw (Rep g) args (as ++ bs).toList
  | .recover => res = .ok .recover w
  | .panic v => ∃ u w', res = .halt (.panic u) w' ∧ Rep g v u ∧ SameOut w w' ∧ w'.heap = w.heap

theorem out_val (hi : Inv g H w) {v : AV} {out : Out} (h : val v = some out) {s : Sem Value} (hs : ∃ u, s.run P w = .ok u w ∧ Rep g v u) : OutFits P g H w fresh out ((do pure (.value (← s)) : Sem Next).run P w) := by
  simp only [val, Option.some.injEq] at h; subst h
  obtain ⟨u, h1, h2⟩ := hs
  exact fits_val hi (by rw [Sem.run_bind, h1]; rfl) h2

theorem allVals_spec {ρ : Operand → AV} : ∀ {l : List Operand}, allVals ρ l = true → ∀ x ∈ l, ∃ v, (ρ x).toVal = some v
  | [], _, x, hx => by simp at hx
  | y :: l, h, x, hx => by
    simp only [allVals, Bool.and_eq_true] at h
    rcases List.mem_cons.1 hx with rfl | hx
    · exact Option.isSome_iff_exists.1 h.1
    · exact allVals_spec h.2 x hx

theorem pureOp_sim (hi : Inv g H w) {o : Oper} {ρ : Operand → AV} {σ : Operand → Value} (hρ : ∀ x, Rep g (ρ x) (σ x)) {out : Out} (h : pureOp P o ρ = some out) : OutFits P g H w fresh out ((execOp σ o).run P w) := by
  unfold pureOp at h
  split at h
  case isFalse => simp at h
  rename_i hc
  simp only [Bool.and_eq_true] at hc
  split at h
  case h_2 => simp at h
  rename_i v hr
  simp only [val, Option.some.injEq] at h; subst h
  have e : execOp (fun x => ((ρ x).toVal).getD Go.undef) o = execOp σ o := by
    refine execOp_congr o (fun cs b hb => by rw [hb] at hc; simp [notSelect] at hc) (fun x hx => ?_)
    obtain ⟨u, hu⟩ := allVals_spec hc.1 x (by simpa using hx)
    rw [hu, AV.toVal_rep (hρ x) hu]; rfl
  rw [e] at hr
  exact fits_val hi (pureRun_sound P _ _ hr w) (repC_ofVal v)

theorem callable_spec {f : FuncId} (h : callable P f = true) : ∃ fn, P.funcs[f]? = some fn ∧ fn.body.isSome = true ∧ (fn.name == "runtime.NumGoroutine") = false := by
  unfold callable at h
  split at h
  · rename_i fn hf
    simp only [Bool.and_eq_true, bne_iff_ne, ne_eq] at h
    exact ⟨fn, hf, h.1, by simpa using h.2⟩
  · simp at h

theorem callFunc_run {f : FuncId} (h : callable P f = true) (args : Array Value) : (callFunc f args).run P w = .ok (.enter f args) w := by
  obtain ⟨fn, h1, h2, h3⟩ := callable_spec h
  have h4 : fn.body.isNone = false := by cases hb : fn.body <;> simp [hb] at h2 ⊢
  simp only [callFunc, Sem.run_bind, run_program, Result.andThen_ok, h1, h3, h4, Bool.false_eq_true, if_false, Sem.run_pure]

theorem args_rep {ρ : Operand → AV} {σ : Operand → Value} (hρ : ∀ x, Rep g (ρ x) (σ x)) (args : Array Operand) :
    Pw (Rep g) (args.toList.map ρ) (args.map σ).toList ∧ (args.toList.map ρ).length = (args.map σ).size := by
  refine ⟨?_, by simp⟩
  rw [Pw.map_left, Array.toList_map, Pw.map_right]
  intro i a ha
  exact ⟨a, ha, hρ a⟩

theorem targetOf_run {f : AV} {fv : Value} {args as : List AV} {vs : Array Value} {k : FuncId} (hf : Rep g f fv) (ha : Pw (Rep g) args vs.toList) (hl : args.length = vs.size) (h : targetOf P f args = some (k, as)) :
    callable P k = true ∧ ∃ first captured : Array Value, fv = .func (.func k) first captured ∧ as.length = (first ++ vs ++ captured).size ∧ Pw (Rep g) as (first ++ vs ++ captured).toList := by
  unfold targetOf at h
  split at h
  · rename_i k' a b
    split at h
    case isFalse => simp at h
    rename_i hc
    simp only [Option.some.injEq, Prod.mk.injEq] at h
    obtain ⟨rfl, rfl⟩ := h
    obtain ⟨a', b', rfl, h2, h3, h4, h5⟩ := hf
    refine ⟨hc, a', b', rfl, by simp [h2, hl, h4], ?_⟩
    simp only [Array.toList_append]
    exact Pw.append (Pw.append (Pw.map_left.2 (repP_iff.1 h3)) ha (by simpa using h2)) (Pw.map_left.2 (repP_iff.1 h5)) (by simp [h2, hl])
  · rename_i k' a b
    split at h
    case isFalse => simp at h
    rename_i hc
    simp only [Option.some.injEq, Prod.mk.injEq] at h
    obtain ⟨rfl, rfl⟩ := h
    obtain ⟨a', b', rfl, h2, h3, h4, h5⟩ := hf
    refine ⟨hc, a', b', rfl, by simp [h2, hl, h4], ?_⟩
    simp only [Array.toList_append]
    exact Pw.append (Pw.append (reps_iff.1 h3) ha (by simpa using h2)) (reps_iff.1 h5) (by simp [h2, hl])
  · simp at h

theorem follow_run : ∀ {path : List FieldStep} {t : TypeId} {x : AV} {xv : Value} {xt : TypeId} {y : AV}, Rep g x xv → afollow P path t x = some (xt, y) →
    ∃ yv, (follow path t (.val xv)).run P w = .ok (xt, .val yv) w ∧ Rep g y yv
  | [], t, x, xv, xt, y, hx, h => by
    simp only [afollow, Option.some.injEq, Prod.mk.injEq] at h
    obtain ⟨rfl, rfl⟩ := h
    exact ⟨xv, rfl, hx⟩
  | s :: rest, t, x, xv, xt, y, hx, h => by
    simp only [afollow] at h
    split at h
    case h_2 => simp at h
    rename_i fields hs
    split at h
    case h_2 => simp at h
    rename_i f hf
    split at h
    · simp at h
    rename_i hd
    have go : ∀ {l : List AV}, ((∃ l, x = .agg l) ∨ ∃ l, x = .c (.agg l)) → (match readVar P f.type x.cells f.offset with | some v => afollow P rest f.type v | none => none) = some (xt, y) →
        ∃ yv, (follow (s :: rest) t (.val xv)).run P w = .ok (xt, .val yv) w ∧ Rep g y yv := by
      intro _ hagg h
      split at h
      case h_2 => simp at h
      rename_i v hv
      obtain ⟨cs, rfl, hl, hp⟩ := rep_aggCells hx hagg
      obtain ⟨u, hu, hr⟩ := part_run (P := P) (w := w) hp hv
      obtain ⟨yv, h1, h2⟩ := follow_run hr h
      exact ⟨yv, by simp [follow, run_underlying hs, hf, hd, hu, h1], h2⟩
    split at h
    · exact go (l := []) (.inl ⟨_, rfl⟩) h
    · exact go (l := []) (.inr ⟨_, rfl⟩) h
    · simp at h

theorem method_run {t : TypeId} {v x : AV} {vv : Value} {name : String} {f : FuncId} {n : Nat} (hv : Rep g v vv) (h : amethod P t v name = some (f, x)) :
    ∃ xv, (method (n + 1) t vv name).run P w = .ok (f, xv) w ∧ Rep g x xv := by
  unfold amethod at h
  split at h
  case h_2 => simp at h
  rename_i i hi
  split at h
  case h_2 => simp at h
  rename_i m hm
  split at h
  case h_2 => simp at h
  rename_i xt y f' ptr hfo hfn
  obtain ⟨yv, h1, h2⟩ := follow_run (w := w) hv hfo
  have fin : (f', y) = (f, x) → (receiverAt xt (.val yv) ptr (if m.path.isEmpty then some ((name.splitOn ".").getLastD name) else none)).run P w = .ok yv w →
      ∃ xv, (method (n + 1) t vv name).run P w = .ok (f, xv) w ∧ Rep g x xv := by
    intro e hr
    simp only [Prod.mk.injEq] at e
    obtain ⟨rfl, rfl⟩ := e
    refine ⟨yv, ?_, h2⟩
    simp only [method, Sem.run_bind, typeInfo, run_program, Result.andThen_ok, hi, Sem.run_pure, hm, h1, hfn, hr]
  split at h
  · rename_i e ht
    simp only [Option.some.injEq] at h
    exact fin h (by simp [receiverAt, run_underlying ht, Place.get])
  · simp at h
  · rename_i d hnp ht
    simp only [Option.some.injEq] at h
    refine fin h ?_
    cases d <;> first
      | exact absurd rfl (hnp _)
      | simp [receiverAt, run_underlying ht, Place.get]
  · simp at h

theorem acall_sim (hi : Inv g H w) {o : Oper} {c : Call} (ho : o.op = .call c) {ρ : Operand → AV} {σ : Operand → Value} (hρ : ∀ x, Rep g (ρ x) (σ x)) (hn : ¬ g.A fresh) {out : Out} (h : acall P c ρ H fresh o = some out) :
    OutFits P g H w fresh out ((execOp σ o).run P w) := by
  obtain ⟨hargs, hal⟩ := args_rep hρ c.args
  have pureC : ∀ {out : Out}, pureOp P o ρ = some out → OutFits P g H w fresh out ((execOp σ o).run P w) := fun h => pureOp_sim hi hρ h
  obtain ⟨callee, args, argTypes⟩ := c
  unfold acall at h
  split at h
  · -- a builtin
    rename_i b hb
    simp only at hb; subst hb
    obtain ⟨cs, ex⟩ : ∃ cs, (execOp σ o).run P w = (builtin b argTypes o.type cs (args.map σ)).run P w :=
      ⟨_, by simp only [execOp, ho, resolve, Sem.run_bind, Sem.run_pure, Result.andThen_ok, invoke]; rfl⟩
    have two : ∀ a b, args.toList = [a, b] → args.map σ = #[σ a, σ b] := by
      intro a b hl
      apply Array.ext'
      simp [hl]
    have one : ∀ a, args.toList = [a] → args.map σ = #[σ a] := by
      intro a hl
      apply Array.ext'
      simp [hl]
    split at h
    · rename_i s x hl
      simp only [simp?, Option.map_eq_some_iff] at h
      obtain ⟨r, hr, rfl⟩ := h
      rw [ex, two _ _ hl]
      exact sim_append hi hn (hρ s) (hρ x) hr
    · rename_i x hl
      split at h
      case h_2 => simp at h
      rename_i t ht
      split at h
      · rename_i r hr
        simp only [Option.some.injEq] at h; subst h
        rw [ex, one _ hl]
        exact sim_len hi ht (hρ x) hr
      · exact pureC h
    · rename_i d s hl
      split at h
      case h_2 => simp at h
      rename_i t ht
      simp only [simp?, Option.map_eq_some_iff] at h
      obtain ⟨r, hr, rfl⟩ := h
      rw [ex, two _ _ hl]
      exact sim_copy hi ht (hρ d) (hρ s) hr
    · rename_i x hl
      split at h
      case h_2 => simp at h
      rename_i t ht
      simp only [simp?, Option.map_eq_some_iff] at h
      obtain ⟨r, hr, rfl⟩ := h
      rw [ex, one _ hl]
      exact sim_clear hi ht (hρ x) hr
    · simp only [Option.some.injEq] at h; subst h
      rw [ex]; rfl
    · rename_i x hl
      unfold apanic at h
      split at h
      · rename_i t v hx
        simp only [Option.some.injEq] at h; subst h
        have hr := hρ x
        rw [hx] at hr
        obtain ⟨u, hu, hv⟩ := hr
        refine ⟨σ x, w, ?_, by rw [hu]; exact ⟨u, rfl, hv⟩, SameOut.refl w, rfl⟩
        rw [ex, one _ hl]
        simp [builtin, Instr.panic, hu]
      · simp at h
    · exact pureC h
  · -- a function value
    rename_i f hf
    simp only at hf; subst hf
    have hfr := hρ f
    split at h
    · rename_i id hid
      simp only [Option.some.injEq] at h; subst h
      rw [hid] at hfr
      obtain ⟨ha, hfv⟩ := hfr
      refine ⟨ha, args.map σ, ?_, hal, hargs⟩
      simp [execOp, ho, resolve, Deferred.ofValue, hfv, invoke]
    · simp only [Option.map_eq_some_iff] at h
      obtain ⟨⟨k, as⟩, ht, rfl⟩ := h
      obtain ⟨hc, first, captured, hfv, h1, h2⟩ := targetOf_run hfr hargs hal ht
      refine ⟨hc, _, ?_, h1, h2⟩
      simp [execOp, ho, resolve, Deferred.ofValue, hfv, invoke, callFunc_run hc]
  · -- an interface's method
    rename_i r name hr
    simp only at hr; subst hr
    have hrr := hρ r
    have fin : ∀ (t : TypeId) (v : AV) (vv : Value), σ r = .iface t vv → Rep g v vv → (match amethod P t v name with
        | some (f, x) => if callable P f then some (Out.call f (x :: args.toList.map ρ)) else none
        | none => none) = some out → OutFits P g H w fresh out ((execOp σ o).run P w) := by
      intro t v vv hs hv h
      split at h
      case h_2 => simp at h
      rename_i f x hm
      split at h
      case isFalse => simp at h
      rename_i hc
      simp only [Option.some.injEq] at h; subst h
      have hd : P.types.size + Made.depth = (P.types.size + Made.depth - 1) + 1 := by
        have : 0 < Made.depth := by decide
        omega
      obtain ⟨xv, h1, h2⟩ := method_run (w := w) (n := P.types.size + Made.depth - 1) hv hm
      refine ⟨hc, #[xv] ++ args.map σ, ?_, by simp; omega, ?_⟩
      · simp only [execOp, ho, resolve, hs, Sem.run_bind, Sem.run_pure, Result.andThen_ok, invoke]
        have e0 : ((#[.iface t vv] : Array Value) ++ args.map σ)[0]? = some (.iface t vv) := by
          rw [← Array.getElem?_toList, Array.toList_append]; rfl
        have e1 : ((#[.iface t vv] : Array Value) ++ args.map σ).extract 1 ((#[.iface t vv] : Array Value) ++ args.map σ).size = args.map σ := by
          apply Array.ext'
          rw [Array.toList_extract, List.extract_eq_take_drop, Array.toList_append]
          show ((args.map σ).toList).take _ = _
          rw [List.take_of_length_le]
          simp
        rw [e0]
        simp only [callMethod, e1, Sem.run_bind, run_program, Result.andThen_ok]
        rw [hd, h1]
        simp only [Result.andThen_ok, callFunc_run hc]
      · simp only [Array.toList_append]
        exact Pw.cons_iff.2 ⟨h2, hargs⟩
    split at h
    · rename_i t v hx
      rw [hx] at hrr
      obtain ⟨vv, hs, hv⟩ := hrr
      exact fin t (.c v) vv hs hv h
    · rename_i t v hx
      rw [hx] at hrr
      obtain ⟨vv, hs, hv⟩ := hrr
      exact fin t v vv hs hv h
    · simp at h

/-- EVERY OPERATION. -/
theorem aop_sim (hi : Inv g H w) {o : Oper} {ρ : Operand → AV} {σ : Operand → Value} (hρ : ∀ x, Rep g (ρ x) (σ x)) (hn : ¬ g.A fresh) {out : Out} (h : aop P o ρ H fresh = some out) :
    OutFits P g H w fresh out ((execOp σ o).run P w) := by
  have pureC : ∀ {out : Out}, pureOp P o ρ = some out → OutFits P g H w fresh out ((execOp σ o).run P w) := fun h => pureOp_sim hi hρ h
  have optv : ∀ (x : Option Operand) (a : AV), x.map ρ = some a → ∃ v, x.map σ = some v ∧ Rep g a v := by
    intro x a hx
    cases x with
    | none => simp at hx
    | some x => simp at hx; subst hx; exact ⟨σ x, rfl, hρ x⟩
  have optn : ∀ (x : Option Operand), x.map ρ = none → x.map σ = none := by
    intro x hx; cases x <;> simp at hx ⊢
  have apan : ∀ (x : Operand) (out : Out), apanic (ρ x) = some out → ∃ t v u, ρ x = .c (.iface t v) ∧ σ x = .iface t u ∧ out = .panic (.c (.iface t v)) ∧ Rep g (.c (.iface t v)) (σ x) := by
    intro x out h
    unfold apanic at h
    split at h
    · rename_i t v hx
      simp only [Option.some.injEq] at h
      have hr := hρ x
      rw [hx] at hr
      obtain ⟨u, hu, hv⟩ := hr
      exact ⟨t, v, u, hx, hu, h.symm, by rw [hu]; exact ⟨u, rfl, hv⟩⟩
    · simp at h
  unfold aop at h
  split at h
  all_goals rename_i ho
  · simp only [val, Option.some.injEq] at h; subst h
    exact fits_val hi (by simp only [execOp, ho, Sem.run_pure]) (hρ _)
  · simp only [val, Option.some.injEq] at h; subst h
    exact fits_val hi (by simp only [execOp, ho, Sem.run_pure]) (hρ _)
  · rename_i c a b
    split at h
    case h_2 => simp at h
    rename_i t ht
    have hc := rep_toBool (hρ c) ht
    simp only [val, Option.some.injEq] at h; subst h
    refine fits_val hi (u := if t then σ a else σ b) (by simp [execOp, ho, hc, Go.asBool]) ?_
    cases t
    · exact hρ b
    · exact hρ a
  · split at h
    case h_2 => simp at h
    rename_i cs hz
    simp only [Option.some.injEq] at h; subst h
    simp only [execOp, ho]
    exact sim_alloc hi hn hz
  · rename_i t x
    simp only [simp?, Option.map_eq_some_iff] at h
    obtain ⟨r, hr, rfl⟩ := h
    unfold abox at hr
    split at hr
    case isFalse => simp at hr
    rename_i hc
    simp only [Option.some.injEq] at hr; subst hr
    simp only [execOp, ho]
    exact sim_box hi hn (hρ x) hc
  · rename_i t parts
    simp only [Option.bind_eq_some_iff] at h
    obtain ⟨v, hv, h⟩ := h
    obtain ⟨h1, h2⟩ := parts_rep hρ parts
    simp only [execOp, ho]
    exact out_val hi h (sim_build h1 h2 hv)
  · rename_i t len parts
    simp only [simp?, Option.map_eq_some_iff] at h
    obtain ⟨r, hr, rfl⟩ := h
    obtain ⟨h1, h2⟩ := parts_rep hρ parts
    simp only [execOp, ho]
    exact sim_buildSlice hi hn h1 h2 hr
  · rename_i t a
    simp only [simp?, Option.map_eq_some_iff] at h
    obtain ⟨r, hr, rfl⟩ := h
    unfold aload at hr
    have ha := hρ a
    split at hr
    · rename_i id off hx
      rw [hx] at ha
      split at hr
      case h_2 => simp at hr
      rename_i cells hb
      simp only [Option.map_eq_some_iff] at hr
      obtain ⟨v, hv, rfl⟩ := hr
      simp only [execOp, ho]
      exact sim_load hi ha hb hv
    · rename_i cells off hx
      rw [hx] at ha
      simp only [Option.map_eq_some_iff] at hr
      obtain ⟨v, hv, rfl⟩ := hr
      obtain ⟨u, h1, h2⟩ := sim_loadC (P := P) hi ha hv
      simp only [execOp, ho]
      exact fits_val hi (by rw [Sem.run_bind, h1]; rfl) h2
    · simp at hr
  · rename_i t a x
    simp only [simp?, Option.map_eq_some_iff] at h
    obtain ⟨r, hr, rfl⟩ := h
    unfold astore at hr
    have ha := hρ a
    split at hr
    case h_2 => simp at hr
    rename_i id off hx
    rw [hx] at ha
    split at hr
    case h_2 => simp at hr
    rename_i cells i hb hti
    split at hr
    case isFalse => simp at hr
    rename_i hc
    simp only [Option.map_eq_some_iff] at hr
    obtain ⟨cs, hp, rfl⟩ := hr
    simp only [execOp, ho]
    exact sim_store hi ha (hρ x) hb hti hc.1 hc.2 hp
  · rename_i x
    simp only [Option.bind_eq_some_iff] at h
    obtain ⟨v, hv, h⟩ := h
    simp only [val, Option.some.injEq] at h; subst h
    have hx := hρ x
    unfold anilCheck at hv
    split at hv
    · rename_i id off he
      simp only [Option.some.injEq] at hv; subst hv
      rw [he] at hx
      obtain ⟨ha, hs⟩ := hx
      exact fits_val hi (u := σ x) (by simp [execOp, ho, hs]) (by rw [hs]; exact ⟨ha, rfl⟩)
    · rename_i cs off he
      simp only [Option.some.injEq] at hv; subst hv
      rw [he] at hx
      have hx' := hx
      obtain ⟨b, base, cs', e, fr, hs, _⟩ := hx'
      exact fits_val hi (u := σ x) (by simp [execOp, ho, hs]) hx
    · simp at hv
  · rename_i op t x y t2
    unfold abinOp at h
    split at h
    · rename_i a b ha hb
      split at h
      · rename_i v hl
        simp only [val, Option.some.injEq] at h; subst h
        have e1 := AV.toVal_rep (hρ x) ha
        have e2 := AV.toVal_rep (hρ y) hb
        refine fits_val hi (u := v) ?_ rfl
        simp only [execOp, ho, e1, e2]
        unfold litBin at hl
        split at hl
        all_goals first
          | (simp only [Option.some.injEq, reduceCtorEq] at hl; subst hl; simp [eqGuard, binOp, Op.intArith, Op.intCmp]; done)
          | (split at hl
             · cases hl
             · rename_i hne
               simp only [Option.some.injEq] at hl; subst hl
               simp [eqGuard, binOp, Op.intDiv, hne]
               done)
          | (split at hl
             · cases hl
             · rename_i hne
               simp only [Option.some.injEq] at hl; subst hl
               simp [eqGuard, binOp, Op.shift, hne]
               first | done | rfl)
          | (simp only [Option.some.injEq, reduceCtorEq] at hl; subst hl; simp [eqGuard, binOp, Op.intBits]; first | done | rfl)
          | (cases hl; done)
      · exact pureC h
    · split at h
      case isFalse => simp at h
      rename_i hif
      obtain ⟨ms, ht⟩ : ∃ ms, P.underlying t = some (.interface ms) := by
        unfold isIface at hif
        split at hif
        · exact ⟨_, by assumption⟩
        · simp at hif
      have eqr : ∀ (t' : TypeId) (u : Value), (Op.equal t (.iface t' u) .nilIface).run P w = .ok false w := by
        have h1 : ∀ (d : Nat) (t' : TypeId) (u : Value), (Op.equalIn (d + 1) t (.iface t' u) .nilIface).run P w = .ok false w := fun d t' u => by simp [Op.equalIn, run_underlying ht]
        exact fun t' u => h1 9999 t' u
      have fin : ∀ (vx : AV) (t' : TypeId) (u : Value) (b : Bool), σ x = .iface t' u → σ y = .nilIface → val (.bool b) = some out → (op = .neq ∧ b = true ∨ op = .eql ∧ b = false) → OutFits P g H w fresh out ((execOp σ o).run P w) := by
        intro vx t' u b hx hy hv hop
        simp only [val, Option.some.injEq] at hv; subst hv
        refine fits_val hi (u := .bool b) ?_ rfl
        rcases hop with ⟨rfl, rfl⟩ | ⟨rfl, rfl⟩
        · simp [execOp, ho, hx, hy, eqGuard, binOp, eqr]
        · simp [execOp, ho, hx, hy, eqGuard, binOp, eqr]
      have hxr := hρ x
      have hyr := hρ y
      split at h
      · rename_i hx hy
        rw [hx] at hxr; rw [hy] at hyr
        obtain ⟨u, hu, _⟩ := hxr
        exact fin .undef _ u true hu hyr h (.inl ⟨rfl, rfl⟩)
      · rename_i hx hy
        rw [hx] at hxr; rw [hy] at hyr
        obtain ⟨u, hu, _⟩ := hxr
        exact fin .undef _ u true hu hyr h (.inl ⟨rfl, rfl⟩)
      · rename_i hx hy
        rw [hx] at hxr; rw [hy] at hyr
        obtain ⟨u, hu, _⟩ := hxr
        exact fin .undef _ u false hu hyr h (.inr ⟨rfl, rfl⟩)
      · rename_i hx hy
        rw [hx] at hxr; rw [hy] at hyr
        obtain ⟨u, hu, _⟩ := hxr
        exact fin .undef _ u false hu hyr h (.inr ⟨rfl, rfl⟩)
      · simp at h
  · rename_i s x f
    simp only [Option.bind_eq_some_iff] at h
    obtain ⟨v, hv, h⟩ := h
    simp only [execOp, ho]
    exact out_val hi h (sim_fieldAddr (hρ x) hv)
  · rename_i t x f
    simp only [Option.bind_eq_some_iff] at h
    obtain ⟨v, hv, h⟩ := h
    simp only [execOp, ho]
    exact out_val hi h (sim_field (hρ x) hv)
  · rename_i t x ix
    have hx := sim_indexAddr (P := P) (w := w) (hρ x) (hρ ix) h
    simp only [execOp, ho]
    unfold IndexFits at hx
    split at hx
    · rename_i r
      obtain ⟨h1, h2, u, h3, h4⟩ := hx
      obtain ⟨v, rd, us, fr⟩ := r
      simp only at h1 h2 h4
      subst h1 h2
      exact fits_val hi (by rw [Sem.run_bind, h3]; rfl) h4
    · obtain ⟨u, w', h1, h2, h3, h4⟩ := hx
      exact ⟨u, w', by rw [Sem.run_bind, h1]; rfl, h2, h3, h4⟩
    · exact hx.elim
  · rename_i t x ix
    split at h
    · simp only [Option.bind_eq_some_iff] at h
      obtain ⟨v, hv, h⟩ := h
      simp only [execOp, ho]
      exact out_val hi h (sim_index (hρ x) (hρ ix) hv)
    · exact pureC h
  · rename_i t x lo hi' mx
    split at h
    · simp only [simp?, Option.map_eq_some_iff] at h
      obtain ⟨r, hr, rfl⟩ := h
      simp only [execOp, ho]
      exact sim_arrSlice hi (hρ x) (optv lo) (optn lo) (optv hi') (optn hi') (optv mx) (optn mx) hr
    split at h
    · rename_i v hv
      simp only [execOp, ho]
      exact out_val hi h (sim_slice hi (hρ x) (optv lo) (optn lo) (optv hi') (optn hi') (optv mx) (optn mx) hv)
    · exact pureC h
  · rename_i t x
    split at h
    · simp at h
    · rename_i d hni ht
      simp only [val, Option.some.injEq] at h; subst h
      refine fits_val hi (u := .iface t (σ x)) ?_ (rep_mkIface t (hρ x))
      simp only [execOp, ho, Instr.makeInterface, Sem.run_bind, run_underlying ht, Result.andThen_ok]
      cases d <;> first | exact absurd rfl (hni _) | rfl
    · simp at h
  · rename_i fn first captured
    simp only [val, Option.some.injEq] at h; subst h
    obtain ⟨h1, h2⟩ := args_rep hρ first
    obtain ⟨h3, h4⟩ := args_rep hρ captured
    exact fits_val hi (by simp only [execOp, ho, Instr.makeFunc, Sem.run_bind, Sem.run_pure, Result.andThen_ok]) (rep_mkFunc fn h1 h2 h3 h4)
  · simp only [Option.some.injEq] at h; subst h
    refine fits_fresh hi hn (size := 0) (o := .map #[] 0) (u := .map (some w.heap.size)) (w' := { w with heap := w.heap.push (.map #[] 0) }) (by simp [execOp, ho, Instr.makeMap]) ⟨rfl, rfl, rfl⟩ rfl ⟨#[], rfl, rfl, rfl, rfl, Pw.nil _⟩ ⟨.inr rfl, by simp [G.add]⟩
  · rename_i t l c
    simp only [simp?, Option.map_eq_some_iff] at h
    obtain ⟨r, hr, rfl⟩ := h
    unfold amakeSlice at hr
    split at hr
    case h_2 => simp at hr
    rename_i elem ht
    split at hr
    case h_2 => simp at hr
    rename_i i size z l' c' hti hsp hz hl hc
    split at hr
    case isFalse => simp at hr
    rename_i hb
    simp only [Option.some.injEq] at hr; subst hr
    obtain ⟨k1, e1⟩ := rep_toInt (hρ l) hl
    obtain ⟨k2, e2⟩ := rep_toInt (hρ c) hc
    simp only [execOp, ho]
    refine sim_makeSlice hi hn ht hti hsp e1 e2 hb hz ?_
    intro hze
    obtain ⟨i2, z2, hi2, hz2, he⟩ := info_zero hz
    obtain ⟨i3, z3, hi3, hsz, hne, _, hz3, hzs⟩ := slicePart_info hsp
    have : i3 = i2 := by rw [hi2] at hi3; cases hi3; rfl
    subst this
    have : z3 = z2 := by rw [hz2] at hz3; cases hz3; rfl
    subst this
    rw [hze] at he
    have := congrArg List.length he
    simp at this
    omega
  · rename_i t m k ok
    simp only [simp?, Option.map_eq_some_iff] at h
    obtain ⟨r, hr, rfl⟩ := h
    simp only [execOp, ho]
    exact sim_lookup hi (hρ m) (hρ k) hr
  · rename_i t m k v
    simp only [simp?, Option.map_eq_some_iff] at h
    obtain ⟨r, hr, rfl⟩ := h
    simp only [execOp, ho]
    exact sim_mapUpdate hi (hρ m) (hρ k) (hρ v) hr
  · rename_i t m k v
    simp only [simp?, Option.map_eq_some_iff] at h
    obtain ⟨r, hr, rfl⟩ := h
    simp only [execOp, ho]
    exact sim_mapUpdate hi (hρ m) (hρ k) (hρ v) hr
  · simp at h
  · simp at h
  · rename_i x xt t ok
    simp only [Option.bind_eq_some_iff] at h
    obtain ⟨v, hv, h⟩ := h
    simp only [execOp, ho]
    exact out_val hi h (sim_typeAssert (hρ x) hv)
  · rename_i t ix
    simp only [Option.bind_eq_some_iff] at h
    obtain ⟨v, hv, h⟩ := h
    simp only [execOp, ho]
    exact out_val hi h (sim_extract (hρ t) hv)
  · exact acall_sim hi ho hρ hn h
  · rename_i x
    obtain ⟨t, v, u, h1, h2, rfl, h4⟩ := apan x out h
    exact ⟨σ x, w, by simp [execOp, ho, Instr.panic, h2], h4, SameOut.refl w, rfl⟩
  · rename_i c
    split at h
    case h_2 => simp at h
    rename_i f hf
    simp only [Option.map_eq_some_iff] at h
    obtain ⟨⟨k, as⟩, ht, rfl⟩ := h
    obtain ⟨hargs, hal⟩ := args_rep hρ c.args
    obtain ⟨hc, first, captured, hfv, h1, h2⟩ := targetOf_run (hρ f) hargs hal ht
    refine ⟨hc, first ++ c.args.map σ, captured, ?_, h1, h2⟩
    simp [execOp, ho, resolve, hf, Deferred.ofValue, hfv]
  · exact pureC h
end
end Go.Ag
