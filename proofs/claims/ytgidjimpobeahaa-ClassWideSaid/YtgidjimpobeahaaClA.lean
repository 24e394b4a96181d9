/- What wrong fleeces cost; contracts of functions of layer 6: small functions, arrays, lines, numbers, steps. No conditions. -/
import Derived.Test.YtgidjimpobeahaaAgF
import Derived.Test.YtgidjimpobeahaaProg
/- Layer 6: what numbers cost, and truths (no program here). -/
namespace Go.Ag

def inB' (n lo hi : Int) : Bool := decide (lo ≤ n) && decide (n ≤ hi)
/-- A bale, and a line, as data. -/
structure Bl where
  f : Int
  l : Int
  w : Int
structure Ln where
  bales : List Bl
  may : Int
  drift : Int
  mist : Int
def blOk (b : Bl) : Bool := inB' b.f 1 30 && (inB' b.l 0 b.f && inB' b.w 0 b.l)
def validBs (l : List Bl) : Bool := inB' l.length 1 6 && l.all blOk
def validL (c : Ln) : Bool := validBs c.bales && (inB' c.may 0 30 && (inB' c.drift 0 30 && inB' c.mist 0 6))
structure Bl.Good (b : Bl) : Prop where
  f1 : 1 ≤ b.f
  f2 : b.f ≤ 30
  l0 : 0 ≤ b.l
  l1 : b.l ≤ b.f
  w0 : 0 ≤ b.w
  w1 : b.w ≤ b.l
theorem blOk_good {b : Bl} : blOk b = true ↔ b.Good := by
  simp only [blOk, inB', Bool.and_eq_true, decide_eq_true_eq]
  exact ⟨fun h => ⟨h.1.1, h.1.2, h.2.1.1, h.2.1.2, h.2.2.1, h.2.2.2⟩, fun h => ⟨⟨h.f1, h.f2⟩, ⟨h.l0, h.l1⟩, h.w0, h.w1⟩⟩
structure Ln.Good (c : Ln) : Prop where
  n1 : 1 ≤ c.bales.length
  n6 : c.bales.length ≤ 6
  bl : ∀ b ∈ c.bales, b.Good
  m0 : 0 ≤ c.may
  m1 : c.may ≤ 30
  d0 : 0 ≤ c.drift
  d1 : c.drift ≤ 30
  k0 : 0 ≤ c.mist
  k1 : c.mist ≤ 6
theorem valid_good {c : Ln} : validL c = true ↔ c.Good := by
  simp only [validL, validBs, inB', Bool.and_eq_true, decide_eq_true_eq, List.all_eq_true]
  constructor
  · rintro ⟨⟨⟨h1, h2⟩, h3⟩, ⟨h4, h5⟩, ⟨h6, h7⟩, h8, h9⟩
    exact ⟨by omega, by omega, fun b hb => blOk_good.1 (h3 b hb), h4, h5, h6, h7, h8, h9⟩
  · intro h
    exact ⟨⟨⟨by have := h.n1; omega, by have := h.n6; omega⟩, fun b hb => blOk_good.2 (h.bl b hb)⟩, ⟨h.m0, h.m1⟩, ⟨h.d0, h.d1⟩, h.k0, h.k1⟩

/-- Costs by numbers. -/
abbrev Co := Nat → Int
def costB (b : Bl) : Co := fun w => if b.f - w < 0 then 181 else max (max 0 (b.w - w)) (b.l - b.w - (b.f - w))
theorem costB_0 {b : Bl} (w : Nat) : 0 ≤ costB b w := by unfold costB; split <;> omega
theorem costB_181 {b : Bl} (h : b.Good) (w : Nat) : costB b w ≤ 181 := by
  have := h.f2; have := h.l1; have := h.w0; have := h.w1
  unfold costB; split <;> omega
theorem costB_f {b : Bl} {w : Nat} {m : Int} (h : costB b w ≤ m) (hm : m < 181) : (w : Int) ≤ b.f := by
  unfold costB at h; split at h <;> omega
/-- Numbers of the next bale. -/
def ftN (lo hi : Nat) : List Nat := List.range' lo (hi + 1 - lo)
theorem mem_ft {lo hi n : Nat} : n ∈ ftN lo hi ↔ lo ≤ n ∧ n ≤ hi := by
  unfold ftN; rw [List.mem_range'_1]; omega
theorem ft_cons {lo hi : Nat} (h : lo ≤ hi) : ftN lo hi = lo :: ftN (lo + 1) hi := by
  unfold ftN
  rw [show hi + 1 - lo = (hi + 1 - (lo + 1)) + 1 by omega, List.range'_succ]
theorem ft_nil {lo hi : Nat} (h : hi < lo) : ftN lo hi = [] := by
  unfold ftN; rw [show hi + 1 - lo = 0 by omega]; rfl
def stN (d top : Nat) (w : Nat) : List Nat := ftN (w - d) (min (w + d) top)
def Near (d a b : Nat) : Prop := a ≤ b + d ∧ b ≤ a + d
theorem Near.symm {d a b : Nat} (h : Near d a b) : Near d b a := ⟨h.2, h.1⟩
theorem mem_st {d top w o : Nat} : o ∈ stN d top w ↔ Near d w o ∧ o ≤ top := by
  unfold stN Near; rw [mem_ft]; omega
def leadF (st : Nat → List Nat) (nx : Co) : Co := fun w => (st w).foldl (fun a o => min a (nx o)) 181
theorem foldl_min {l : List Nat} {f : Co} : ∀ {a m : Int}, l.foldl (fun a o => min a (f o)) a ≤ m ↔ a ≤ m ∨ ∃ o ∈ l, f o ≤ m := by
  induction l with
  | nil => intro a m; simp
  | cons x l ih =>
    intro a m
    rw [List.foldl_cons, ih]
    constructor
    · rintro (h | ⟨o, h1, h2⟩)
      · by_cases ha : a ≤ m
        · exact .inl ha
        · exact .inr ⟨x, by simp, by omega⟩
      · exact .inr ⟨o, by simp [h1], h2⟩
    · rintro (h | ⟨o, h1, h2⟩)
      · exact .inl (by omega)
      · rcases List.mem_cons.1 h1 with rfl | h1
        · exact .inl (by omega)
        · exact .inr ⟨o, h1, h2⟩
theorem foldl_min_0 {l : List Nat} {f : Co} (hf : ∀ o, 0 ≤ f o) : ∀ {a : Int}, 0 ≤ a → 0 ≤ l.foldl (fun a o => min a (f o)) a := by
  induction l with
  | nil => intro a h; exact h
  | cons x l ih => intro a h; rw [List.foldl_cons]; exact ih (by have := hf x; omega)
theorem lead_le {st : Nat → List Nat} {nx : Co} {w : Nat} {m : Int} (hm : m < 181) : leadF st nx w ≤ m ↔ ∃ o ∈ st w, nx o ≤ m := by
  unfold leadF; rw [foldl_min]
  exact ⟨fun h => h.elim (fun h => by omega) id, .inr⟩
theorem lead_181 {st : Nat → List Nat} {nx : Co} {w : Nat} : leadF st nx w ≤ 181 := by
  unfold leadF; rw [foldl_min]; exact .inl (Int.le_refl _)
theorem lead_0 {st : Nat → List Nat} {nx : Co} (h : ∀ o, 0 ≤ nx o) {w : Nat} : 0 ≤ leadF st nx w := foldl_min_0 h (by omega)

/-- What the bales on one side cost. -/
def chainF (st : Nat → List Nat) : List Co → Co
  | [] => fun _ => 0
  | o :: os => leadF st fun w => o w + chainF st os w
def costL : List Co → List Nat → Int
  | o :: os, x :: xs => o x + costL os xs
  | _, _ => 0
def Path (d : Nat) : Nat → List Nat → Prop
  | _, [] => True
  | w, x :: xs => Near d w x ∧ Path d x xs
def AdjL (d : Nat) : List Nat → Prop
  | [] => True
  | w :: l => Path d w l
theorem chain_0 {st : Nat → List Nat} : ∀ {l : List Co}, (∀ o ∈ l, ∀ w, 0 ≤ o w) → ∀ w, 0 ≤ chainF st l w
  | [], _, _ => Int.le_refl 0
  | o :: os, h, _ => lead_0 fun x => by have h1 := h o (by simp) x; have h2 := chain_0 (st := st) (l := os) (fun p hp => h p (by simp [hp])) x; omega
theorem chain_181 {st : Nat → List Nat} : ∀ {l : List Co}, ∀ w, chainF st l w ≤ 181
  | [], _ => by show (0 : Int) ≤ 181; omega
  | _ :: _, _ => lead_181
theorem costL_0 : ∀ {l : List Co} {xs : List Nat}, (∀ o ∈ l, ∀ w, 0 ≤ o w) → 0 ≤ costL l xs
  | [], _, _ => Int.le_refl 0
  | _ :: _, [], _ => Int.le_refl 0
  | o :: os, x :: xs, h => by
    have h1 := h o (by simp) x; have h2 := costL_0 (l := os) (xs := xs) (fun p hp => h p (by simp [hp]))
    simp only [costL]; omega
theorem chain_le {d top : Nat} : ∀ {l : List Co} {w : Nat} {m : Int}, (∀ o ∈ l, ∀ w, 0 ≤ o w) → 0 ≤ m → m < 181 → (chainF (stN d top) l w ≤ m ↔ ∃ xs : List Nat, xs.length = l.length ∧ Path d w xs ∧ (∀ x ∈ xs, x ≤ top) ∧ costL l xs ≤ m)
  | [], w, m, _, h0, _ => ⟨fun _ => ⟨[], rfl, trivial, by simp, h0⟩, fun _ => h0⟩
  | o :: os, w, m, ho, h0, h1 => by
    have ho' : ∀ p ∈ os, ∀ w, 0 ≤ p w := fun p hp => ho p (by simp [hp])
    simp only [chainF]
    rw [lead_le h1]
    constructor
    · rintro ⟨x, hx, hc⟩
      have a1 := ho o (by simp) x
      have a2 := chain_0 (st := stN d top) ho' x
      obtain ⟨xs, b1, b2, b3, b4⟩ := (chain_le (d := d) (top := top) (l := os) (w := x) (m := m - o x) ho' (by omega) (by omega)).1 (by omega)
      have := mem_st.1 hx
      refine ⟨x :: xs, by simp [b1], ⟨this.1, b2⟩, fun y hy => ?_, by simp only [costL]; omega⟩
      rcases List.mem_cons.1 hy with rfl | hy
      · exact this.2
      · exact b3 y hy
    · rintro ⟨xs, b1, b2, b3, b4⟩
      cases xs with
      | nil => cases b1
      | cons x xs =>
      simp only [costL] at b4
      have a1 := ho o (by simp) x
      have a2 := costL_0 (l := os) (xs := xs) ho'
      refine ⟨x, mem_st.2 ⟨b2.1, b3 x (by simp)⟩, ?_⟩
      have := (chain_le (d := d) (top := top) (l := os) (w := x) (m := m - o x) ho' (by omega) (by omega)).2 ⟨xs, by simpa using b1, b2.2, fun y hy => b3 y (by simp [hy]), by omega⟩
      omega

theorem adj_split {d : Nat} : ∀ {xs : List Nat} {w : Nat} {l : List Nat}, AdjL d (xs.reverse ++ w :: l) ↔ Path d w xs ∧ Path d w l
  | [], w, l => by simp [AdjL, Path]
  | x :: xs, w, l => by
    rw [List.reverse_cons, List.append_assoc, List.singleton_append, adj_split (xs := xs)]
    simp only [Path]
    exact ⟨fun h => ⟨⟨h.2.1.symm, h.1⟩, h.2.2⟩, fun h => ⟨h.1.2, h.1.1.symm, h.2⟩⟩
theorem costL_app {l1 l2 : List Co} : ∀ {xs ys : List Nat}, l1.length = xs.length → costL (l1 ++ l2) (xs ++ ys) = costL l1 xs + costL l2 ys := by
  induction l1 with
  | nil => intro xs ys h; have : xs = [] := List.length_eq_zero_iff.1 h.symm; subst this; simp [costL]
  | cons o l1 ih =>
    intro xs ys h
    cases xs with
    | nil => cases h
    | cons x xs => simp only [List.cons_append, costL]; rw [ih (by simpa using h)]; omega
theorem costL_rev {l : List Co} : ∀ {xs : List Nat}, l.length = xs.length → costL l.reverse xs.reverse = costL l xs := by
  induction l with
  | nil => intro xs h; have : xs = [] := List.length_eq_zero_iff.1 h.symm; subst this; rfl
  | cons o l ih =>
    intro xs h
    cases xs with
    | nil => cases h
    | cons x xs =>
      have hl : l.length = xs.length := by simpa using h
      rw [List.reverse_cons, List.reverse_cons, costL_app (by simpa using hl), ih hl]
      simp only [costL]; omega

/-- A truth: numbers of wrong fleeces, one for each bale. -/
structure TrL (d : Nat) (os : List Co) (m : Int) (ws : List Nat) : Prop where
  len : ws.length = os.length
  top : ∀ x ∈ ws, x ≤ 30
  adj : AdjL d ws
  cost : costL os ws ≤ m
def bothF (st : Nat → List Nat) (os : List Co) (i : Nat) : Co := fun w => chainF st (os.take i).reverse w + (os.getD i fun _ => 0) w + chainF st (os.drop (i + 1)) w
theorem both_0 {st : Nat → List Nat} {os : List Co} (ho : ∀ o ∈ os, ∀ w, 0 ≤ o w) (i w : Nat) : 0 ≤ bothF st os i w := by
  unfold bothF
  have h1 := chain_0 (st := st) (l := (os.take i).reverse) (fun o h => ho o (List.mem_of_mem_take (List.mem_reverse.1 h))) w
  have h2 := chain_0 (st := st) (l := os.drop (i + 1)) (fun o h => ho o (List.mem_of_mem_drop h)) w
  have h3 : 0 ≤ (os.getD i fun _ => 0) w := by
    rw [List.getD_eq_getElem?_getD]
    cases h : os[i]? with
    | none => simp
    | some o => simpa using ho o (List.mem_of_getElem? h) w
  omega
theorem both_le {d top : Nat} {os : List Co} (ho : ∀ o ∈ os, ∀ w, 0 ≤ o w) {i : Nat} (hi : i < os.length) {w : Nat} {m : Int} (h1 : m < 181) :
    bothF (stN d top) os i w ≤ m ↔ ∃ ws : List Nat, ws.length = os.length ∧ ws[i]? = some w ∧ (∀ j x, ws[j]? = some x → j ≠ i → x ≤ top) ∧ AdjL d ws ∧ costL os ws ≤ m := by
  have hsplit : os = (os.take i).reverse.reverse ++ os[i] :: os.drop (i + 1) := by
    rw [List.reverse_reverse, ← List.drop_eq_getElem_cons hi, List.take_append_drop]
  have hgd : (os.getD i fun _ => 0) = os[i] := by rw [List.getD_eq_getElem?_getD, List.getElem?_eq_getElem hi]; rfl
  have hof : ∀ o ∈ (os.take i).reverse, ∀ w, 0 ≤ o w := fun o h => ho o (List.mem_of_mem_take (List.mem_reverse.1 h))
  have hob : ∀ o ∈ os.drop (i + 1), ∀ w, 0 ≤ o w := fun o h => ho o (List.mem_of_mem_drop h)
  have hoi := ho os[i] (List.getElem_mem _)
  have lf : (os.take i).reverse.length = i := by rw [List.length_reverse, List.length_take]; omega
  have lb : (os.drop (i + 1)).length = os.length - (i + 1) := List.length_drop
  have hcost : ∀ (xs ys : List Nat), xs.length = i → ys.length = os.length - (i + 1) → costL os (xs.reverse ++ w :: ys) = costL (os.take i).reverse xs + os[i] w + costL (os.drop (i + 1)) ys := by
    intro xs ys hx hy
    have e : costL os (xs.reverse ++ w :: ys) = costL ((os.take i).reverse.reverse ++ os[i] :: os.drop (i + 1)) (xs.reverse ++ w :: ys) := by rw [← hsplit]
    rw [e, costL_app (by rw [List.length_reverse, lf, List.length_reverse, hx]), costL_rev (by rw [lf, hx])]
    simp only [costL]; omega
  unfold bothF
  rw [hgd]
  generalize hA : chainF (stN d top) (os.take i).reverse w = a
  generalize hC : chainF (stN d top) (os.drop (i + 1)) w = c
  have a0 : 0 ≤ a := hA ▸ chain_0 hof w
  have c0 : 0 ≤ c := hC ▸ chain_0 hob w
  constructor
  · intro h
    have b0 := hoi w
    obtain ⟨xs, x1, x2, x3, x4⟩ := (chain_le (l := (os.take i).reverse) (w := w) (m := a) (d := d) (top := top) hof a0 (by omega)).1 (by omega)
    obtain ⟨ys, y1, y2, y3, y4⟩ := (chain_le (l := os.drop (i + 1)) (w := w) (m := c) (d := d) (top := top) hob c0 (by omega)).1 (by omega)
    rw [lf] at x1
    rw [lb] at y1
    have hxr : xs.reverse.length = i := by simp [x1]
    refine ⟨xs.reverse ++ w :: ys, by simp only [List.length_append, List.length_cons]; omega, ?_, ?_, adj_split.2 ⟨x2, y2⟩, by rw [hcost xs ys x1 y1]; omega⟩
    · rw [List.getElem?_append_right (by omega), hxr]; simp
    · intro j x hj hne
      by_cases hji : j < i
      · rw [List.getElem?_append_left (by omega)] at hj
        exact x3 x (List.mem_reverse.1 (List.mem_of_getElem? hj))
      · rw [List.getElem?_append_right (by omega), hxr, show j - i = (j - i - 1) + 1 by omega, List.getElem?_cons_succ] at hj
        exact y3 x (List.mem_of_getElem? hj)
  · rintro ⟨ws, w1, w2, w3, w4, w5⟩
    have hil : i < ws.length := by omega
    have hws : ws = (ws.take i).reverse.reverse ++ w :: ws.drop (i + 1) := by
      have : ws[i] = w := by rw [List.getElem?_eq_getElem hil] at w2; exact Option.some.inj w2
      rw [List.reverse_reverse, ← this, ← List.drop_eq_getElem_cons hil, List.take_append_drop]
    have l1 : (ws.take i).reverse.length = i := by rw [List.length_reverse, List.length_take]; omega
    have l2 : (ws.drop (i + 1)).length = os.length - (i + 1) := by rw [List.length_drop]; omega
    rw [hws] at w4 w5
    rw [hcost _ _ l1 l2] at w5
    obtain ⟨p1, p2⟩ := adj_split.1 w4
    have z1 := costL_0 (l := (os.take i).reverse) (xs := (ws.take i).reverse) hof
    have z2 := costL_0 (l := os.drop (i + 1)) (xs := ws.drop (i + 1)) hob
    have z3 := hoi w
    have k1 := (chain_le (l := (os.take i).reverse) (w := w) (m := costL (os.take i).reverse (ws.take i).reverse) (d := d) (top := top) hof z1 (by omega)).2 ⟨_, by rw [l1, lf], p1, fun x hx => by
      obtain ⟨j, hj⟩ := List.mem_iff_getElem?.1 (List.mem_reverse.1 hx)
      rw [List.getElem?_take] at hj
      by_cases hji : j < i
      · rw [if_pos hji] at hj; exact w3 j x hj (by omega)
      · rw [if_neg hji] at hj; exact absurd hj (by simp), Int.le_refl _⟩
    have k2 := (chain_le (l := os.drop (i + 1)) (w := w) (m := costL (os.drop (i + 1)) (ws.drop (i + 1))) (d := d) (top := top) hob z2 (by omega)).2 ⟨_, by rw [l2, lb], p2, fun x hx => by
      obtain ⟨j, hj⟩ := List.mem_iff_getElem?.1 hx
      rw [List.getElem?_drop] at hj
      exact w3 _ x hj (by omega), Int.le_refl _⟩
    omega
/-- THE TRUTHS of a bale's number. -/
theorem both_tr {d : Nat} {os : List Co} (ho : ∀ o ∈ os, ∀ w, 0 ≤ o w) {i : Nat} (hi : i < os.length) {w : Nat} (hw : w ≤ 30) {m : Int} (h1 : m < 181) :
    bothF (stN d 30) os i w ≤ m ↔ ∃ ws, TrL d os m ws ∧ ws[i]? = some w := by
  rw [both_le ho hi h1]
  constructor
  · rintro ⟨ws, a, b, c, e, f⟩
    refine ⟨ws, ⟨a, fun x hx => ?_, e, f⟩, b⟩
    obtain ⟨j, hj⟩ := List.mem_iff_getElem?.1 hx
    by_cases h : j = i
    · subst h; rw [b] at hj; cases hj; exact hw
    · exact c j x hj h
  · rintro ⟨ws, ⟨a, c, e, f⟩, b⟩
    exact ⟨ws, a, b, fun j x hj _ => c x (List.mem_of_getElem? hj), e, f⟩
end Go.Ag
/- Layer 6: small functions; lines as arguments. -/
namespace Go.Ag
open Go.Proofs
set_option maxRecDepth 100000

theorem within_ret (n lo hi : Int) : Ret Try.prog 54 [I n, I lo, I hi] (B (inB' n lo hi)) := by
  refine ret_by (hm := true) Try.func54 rfl ?_
  conv => whnf
  unfold inB'
  cases h : decide (lo ≤ n)
  · conv => whnf
    exact .val
  · conv => whnf
    exact .val
def rowBl (b : Bl) : List CV := [I b.f, I b.l, I b.w]
def blV (b : Bl) : CV := .agg [I b.f, I b.l, I b.w]
/-- The list of a line, as it lies in memory. -/
structure LV where
  sc : List CV
  so : Nat
  sn : Nat
def LV.sl (v : LV) : CV := .sl v.sc v.so v.sn
def LV.cv (v : LV) (c : Ln) : CV := .agg [.sl v.sc v.so v.sn, I c.may, I c.drift, I c.mist]
def LV.blk (v : LV) (c : Ln) : AB := .blk [.c (.sl v.sc v.so v.sn), .c (I c.may), .c (I c.drift), .c (I c.mist)]
structure LV.Is (v : LV) (c : Ln) : Prop where
  s : SlOf 3 (c.bales.map rowBl) v.sc v.so v.sn
  short : c.bales.length ≤ 1000
theorem LV.Is.sn {v : LV} {c : Ln} (h : v.Is c) : v.sn = c.bales.length := by rw [h.s.len]; simp
theorem LV.Is.row {v : LV} {c : Ln} (h : v.Is c) {j : Nat} {b : Bl} (hj : c.bales[j]? = some b) : sliceOf v.sc (v.so + j * 3) 3 = some (rowBl b) := h.s.row j _ (by simp [hj])
theorem rv43 (cells : List CV) (off : Nat) : readVarC Try.prog 43 cells off = (sliceOf cells off 3).map .agg := rfl
theorem rv3 (cells : List CV) (off : Nat) : readVarC Try.prog 3 cells off = cells[off]? := rfl
theorem LV.Is.bale {v : LV} {c : Ln} (h : v.Is c) {k : Nat} {b : Bl} (hk : c.bales[k]? = some b) : readVarC Try.prog 43 v.sc (v.so + (k : Int).toNat * 3) = some (.agg (rowBl b)) := by
  rw [Int.toNat_natCast, rv43, h.row hk]; rfl
theorem get_some {α : Type} {l : List α} {k : Nat} (h : k < l.length) : ∃ x, l[k]? = some x := ⟨l[k], List.getElem?_eq_getElem h⟩
theorem drop_get {α : Type} {l : List α} {k : Nat} {x : α} (h : l[k]? = some x) : l.drop k = x :: l.drop (k + 1) := by
  obtain ⟨hk, rfl⟩ := List.getElem?_eq_some_iff.1 h
  exact List.drop_eq_getElem_cons hk

theorem isBale_ret {v : LV} {c : Ln} (hv : v.Is c) (n : Int) : Ret Try.prog 77 [v.cv c, I n] (B (inB' n 0 ((c.bales.length : Int) - 1))) := by
  have e1 := hv.sn
  have e2 := hv.short
  rw [← e1]
  refine ret_by (hm := true) Try.func77 rfl ?_
  conv => whnf
  refine ⟨(v.sn : Int) - 1, by rw [wrap_eq (by omega) (by omega)], ?_⟩
  conv => whnf
  refine .ret (within_ret _ _ _) rfl ?_
  conv => whnf
  exact .val
theorem validBales_ret {v : LV} {c : Ln} (hv : v.Is c) : Ret Try.prog 53 [v.sl] (B (validBs c.bales)) := by
  have e1 := hv.sn; have e2 := hv.short
  refine ret_by (hm := false) Try.func53 rfl ?_
  conv => whnf
  refine .ret (within_ret _ _ _) rfl ?_
  conv => whnf
  unfold validBs
  rw [← e1]
  cases h : inB' v.sn 1 6
  · conv => whnf
    exact .val
  conv => whnf
  rw [Bool.true_and]
  refine loop_by (I := fun n st => ∃ (q : Nat) (h : Heap), q ≤ c.bales.length ∧ n = c.bales.length - q ∧ c.bales.all blOk = (c.bales.drop q).all blOk ∧ Has st 36 [(9, .c (.sl v.sc v.so v.sn)), (10, .c (I v.sn)), (11, .c (I q))] [] none h) ?_ (k := c.bales.length)
    ⟨0, _, Nat.zero_le _, rfl, rfl, rfl, ⟨rfl, rfl, rfl, trivial⟩, rfl, rfl, rfl, rfl⟩
  rintro n st ⟨q, h, hq, rfl, hall, hs1⟩
  refine hs1.run (hm := false) ?_
  conv => whnf
  cases hc : decide ((q : Int) < (v.sn : Int))
  case true =>
    have hq : q < c.bales.length := by simp at hc; omega
    obtain ⟨r, hr⟩ := get_some hq
    rw [drop_get hr, List.all_cons] at hall
    conv => whnf
    refine ⟨⟨by omega, by omega⟩, ?_⟩
    conv => whnf
    refine ⟨_, hv.bale hr, ?_⟩
    conv => whnf
    refine ⟨_, at_push_self _ _, ?_⟩
    conv => whnf
    refine ⟨_, at_new _ _ _, ?_⟩
    conv => whnf
    refine .ret (within_ret _ _ _) rfl ?_
    conv => whnf
    replace hall : c.bales.all blOk = ((inB' r.f 1 30 && (inB' r.l 0 r.f && inB' r.w 0 r.l)) && (c.bales.drop (q + 1)).all blOk) := hall
    cases h1 : inB' r.f 1 30
    · conv => whnf
      rw [hall, h1]
      exact .val
    rw [h1, Bool.true_and] at hall
    conv => whnf
    refine ⟨_, at_new _ _ _, ?_⟩
    conv => whnf
    refine ⟨_, at_new _ _ _, ?_⟩
    conv => whnf
    refine .ret (within_ret _ _ _) rfl ?_
    conv => whnf
    cases h2 : inB' r.l 0 r.f
    · conv => whnf
      rw [hall, h2]
      exact .val
    rw [h2, Bool.true_and] at hall
    conv => whnf
    refine ⟨_, at_new _ _ _, ?_⟩
    conv => whnf
    refine ⟨_, at_new _ _ _, ?_⟩
    conv => whnf
    refine .ret (within_ret _ _ _) rfl ?_
    conv => whnf
    cases h3 : inB' r.w 0 r.l
    · conv => whnf
      rw [hall, h3]
      exact .val
    rw [h3, Bool.true_and] at hall
    conv => whnf
    refine ⟨((q + 1 : Nat) : Int), by rw [wrap_eq (by omega) (by omega)]; omega, ?_⟩
    conv => whnf
    exact ⟨c.bales.length - (q + 1), by omega, q + 1, _, by omega, rfl, hall, rfl, ⟨rfl, rfl, rfl, trivial⟩, rfl, rfl, rfl, rfl⟩
  have : q = c.bales.length := by simp at hc; omega
  subst this
  rw [List.drop_length] at hall
  rw [hall]
  conv => whnf
  exact .val
theorem valid_ret {v : LV} {c : Ln} (hv : v.Is c) : Ret Try.prog 33 [v.cv c] (B (validL c)) := by
  unfold validL
  refine ret_by (hm := true) Try.func33 rfl ?_
  conv => whnf
  refine .ret (validBales_ret hv) rfl ?_
  conv => whnf
  cases h1 : validBs c.bales
  · conv => whnf
    exact .val
  conv => whnf
  refine .ret (within_ret _ _ _) rfl ?_
  conv => whnf
  cases h2 : inB' c.may 0 30
  · conv => whnf
    exact .val
  conv => whnf
  refine .ret (within_ret _ _ _) rfl ?_
  conv => whnf
  cases h3 : inB' c.drift 0 30
  · conv => whnf
    exact .val
  conv => whnf
  refine .ret (within_ret _ _ _) rfl ?_
  conv => whnf
  cases h4 : inB' c.mist 0 6
  · conv => whnf
    exact .val
  conv => whnf
  exact .val
def sureN (a e : Bool) : Int := if a then 2 else if e then 1 else 0
theorem howSure_ret (a e : Bool) : Ret Try.prog 73 [B a, B e] (I (sureN a e)) := by
  refine ret_by (hm := true) Try.func73 rfl ?_
  cases a
  · cases e
    · conv => whnf
      exact .val
    · conv => whnf
      exact .val
  · conv => whnf
    exact .val
/-- A span. -/
def spV (s : Int × Int) : CV := .agg [I s.1, I s.2]
def noS : Int × Int := (181, -181)
def joinS (a b : Int × Int) : Int × Int := (min a.1 b.1, max a.2 b.2)
theorem nothing_ret : Ret Try.prog 79 [] (spV noS) := by
  refine ret_by (hm := true) Try.func79 rfl ?_
  conv => whnf
  exact .val
theorem exactly_ret (n : Int) : Ret Try.prog 81 [I n] (spV (n, n)) := by
  refine ret_by (hm := true) Try.func81 rfl ?_
  conv => whnf
  exact .val
theorem joined_ret (a b : Int × Int) : Ret Try.prog 80 [spV a, spV b] (spV (joinS a b)) := by
  refine ret_by (hm := true) Try.func80 rfl ?_
  conv => whnf
  exact .val
/-! Sets of bales. -/
theorem has_ret (s n : Nat) (hs : s < 2 ^ 63) (hn : n < 64) : Ret Try.prog 94 [I s, I n] (B (s.testBit n)) := by
  refine ret_by (hm := true) Try.func94 rfl ?_
  conv => whnf
  refine ⟨by omega, _, shr_nat s n hn, ?_⟩
  conv => whnf
  refine ⟨_, and_nat (b := 1) (Nat.lt_of_le_of_lt (Nat.shiftRight_le s n) hs) (by omega), ?_⟩
  conv => whnf
  rw [bit_nat]
  exact .val
/-- The one without the other one. -/
def diffN (a b : Nat) : Nat := a ^^^ (a &&& b)
theorem diffN_bit (a b i : Nat) : (diffN a b).testBit i = (a.testBit i && !b.testBit i) := by
  unfold diffN
  rw [Nat.testBit_xor, Nat.testBit_and]
  cases a.testBit i <;> cases b.testBit i <;> rfl
theorem diffN_lt {a b n : Nat} (ha : a < 2 ^ n) : diffN a b < 2 ^ n := by
  unfold diffN
  exact Nat.xor_lt_two_pow ha (Nat.lt_of_le_of_lt Nat.and_le_left ha)
theorem andNot_nat {a b : Nat} (ha : a < 2 ^ 63) (hb : b < 2 ^ 63) : IntKind.i64.wrap ((BitVec.ofInt 64 (a : Int) &&& ~~~BitVec.ofInt 64 (b : Int)).toNat : Int) = ((diffN a b : Nat) : Int) := by
  have e : (BitVec.ofInt 64 (a : Int) &&& ~~~BitVec.ofInt 64 (b : Int)).toNat = diffN a b := by
    apply Nat.eq_of_testBit_eq
    intro i
    rw [diffN_bit, BitVec.testBit_toNat, BitVec.getLsbD_and, BitVec.getLsbD_not, ← BitVec.testBit_toNat, ← BitVec.testBit_toNat, ofInt_nat a ha, ofInt_nat b hb]
    by_cases hi : i < 64
    · simp [hi]
    · have : a.testBit i = false := Nat.testBit_lt_two_pow (Nat.lt_of_lt_of_le ha (Nat.pow_le_pow_right (by omega) (by omega)))
      rw [this]; rfl
  rw [e]
  exact wrap_nat (diffN_lt (n := 63) ha)
theorem pow_b {n : Nat} (h : n ≤ 6) : 1 ≤ 2 ^ n ∧ 2 ^ n ≤ 64 := ⟨Nat.one_le_two_pow, Nat.pow_le_pow_right (n := 2) (by omega) h⟩
theorem without_ret (a n : Nat) (ha : a < 2 ^ 62) (hn : n ≤ 6) : Ret Try.prog 98 [I a, I n] (I (diffN a (2 ^ n) : Nat)) := by
  have := pow_b hn
  refine ret_by (hm := true) Try.func98 rfl ?_
  conv => whnf
  refine ⟨by omega, _, shl_nat 1 n (by omega) (by omega), ?_⟩
  conv => whnf
  rw [Nat.one_mul]
  refine ⟨_, andNot_nat (b := 2 ^ n) (by omega) (by omega), ?_⟩
  conv => whnf
  exact .val
def lowN (a n : Nat) : Nat := a &&& (2 ^ n - 1)
def highN (a n : Nat) : Nat := diffN a (2 * 2 ^ n - 1)
theorem before_ret (a n : Nat) (ha : a < 2 ^ 62) (hn : n ≤ 6) : Ret Try.prog 86 [I a, I n] (I (lowN a n : Nat)) := by
  have := pow_b hn
  refine ret_by (hm := true) Try.func86 rfl ?_
  conv => whnf
  refine ⟨by omega, _, shl_nat 1 n (by omega) (by omega), ?_⟩
  conv => whnf
  refine ⟨((2 ^ n - 1 : Nat) : Int), by rw [wrap_eq (by omega) (by omega)]; omega, ?_⟩
  conv => whnf
  refine ⟨_, and_nat (b := 2 ^ n - 1) (by omega) (by omega), ?_⟩
  conv => whnf
  exact .val
theorem behind_ret (a n : Nat) (ha : a < 2 ^ 62) (hn : n ≤ 6) : Ret Try.prog 87 [I a, I n] (I (highN a n : Nat)) := by
  have := pow_b hn
  refine ret_by (hm := true) Try.func87 rfl ?_
  conv => whnf
  refine ⟨by omega, _, shl_nat 2 n (by omega) (by omega), ?_⟩
  conv => whnf
  refine ⟨((2 * 2 ^ n - 1 : Nat) : Int), by rw [wrap_eq (by omega) (by omega)]; omega, ?_⟩
  conv => whnf
  refine ⟨_, andNot_nat (b := 2 * 2 ^ n - 1) (by omega) (by omega), ?_⟩
  conv => whnf
  exact .val
end Go.Ag
/- Layer 6: what numbers cost. -/
namespace Go.Ag
open Go.Proofs
set_option maxRecDepth 100000

/-- Costs as cells. -/
def arrC (c : Co) : List CV := (List.range 31).map fun j => I (c j)
def coV (c : Co) : CV := .agg (arrC c)
def arrB (c : Co) : AB := .blk ((arrC c).map .c)
def updC (c : Co) (i : Nat) (x : Int) : Co := fun j => if j = i then x else c j
theorem arrC_len (c : Co) : (arrC c).length = 31 := by simp [arrC]
theorem arrC_get (c : Co) {j : Nat} (h : j < 31) : (arrC c)[j]? = some (I (c j)) := by
  unfold arrC; rw [List.getElem?_map, List.getElem?_range h]; rfl
theorem arrC_congr {c d : Co} (h : ∀ j, j < 31 → c j = d j) : arrC c = arrC d := by
  unfold arrC; apply List.map_congr_left; intro k hk; rw [h k (List.mem_range.1 hk)]
theorem arrB_congr {c d : Co} (h : ∀ j, j < 31 → c j = d j) : arrB c = arrB d := by unfold arrB; rw [arrC_congr h]
theorem coV_congr {c d : Co} (h : ∀ j, j < 31 → c j = d j) : coV c = coV d := by unfold coV; rw [arrC_congr h]
theorem arrC_set (c : Co) {i : Nat} (x : Int) : (arrC c).set i (I x) = arrC (updC c i x) := by
  apply List.ext_getElem?
  intro k
  rw [List.getElem?_set]
  by_cases hk : i = k
  · subst hk
    by_cases h : i < 31
    · rw [if_pos rfl, if_pos (by rw [arrC_len]; exact h), arrC_get _ h]; simp [updC]
    · rw [if_pos rfl, if_neg (by rw [arrC_len]; exact h), List.getElem?_eq_none (by rw [arrC_len]; omega)]
  · rw [if_neg hk]
    by_cases h : k < 31
    · rw [arrC_get _ h, arrC_get _ h]; simp [updC, Ne.symm hk]
    · rw [List.getElem?_eq_none (by rw [arrC_len]; omega), List.getElem?_eq_none (by rw [arrC_len]; omega)]
theorem arrC_cellish (d : Co) : ((arrC d).map AV.c).all AV.cellish = true := by
  rw [List.all_eq_true]
  intro c hc
  obtain ⟨c0, h0, rfl⟩ := List.mem_map.1 hc
  unfold arrC at h0
  obtain ⟨k, -, rfl⟩ := List.mem_map.1 h0
  rfl
theorem readVar_map {P : Program} {t : TypeId} {cells : List CV} {off : Nat} {v : CV} (h : readVarC P t cells off = some v) : readVar P t (cells.map AV.c) off = some (.c v) := by
  unfold readVarC at h
  unfold readVar
  have hall : ∀ l : List CV, allC (l.map AV.c) = some l := by
    intro l
    induction l with
    | nil => rfl
    | cons a l ih => simp [allC, ih]
  have hsl : ∀ (l : List CV) (off n : Nat), sliceOf (l.map AV.c) off n = (sliceOf l off n).map (List.map AV.c) := by
    intro l off n
    unfold sliceOf
    simp only [← List.map_drop, ← List.map_take, List.length_map]
    split <;> rfl
  split at h
  · rename_i ha
    rw [if_pos ha]
    cases hi : P.info? t with
    | none => rw [hi] at h; cases h
    | some i =>
      rw [hi] at h
      simp only [Option.bind_some, hsl] at h ⊢
      cases hs : sliceOf cells off i.size with
      | none => rw [hs] at h; cases h
      | some l =>
        rw [hs] at h
        simp only [Option.map_some, Option.some.injEq] at h ⊢
        unfold mkAgg
        rw [hall]; exact congrArg AV.c h
  · rename_i ha
    rw [if_neg ha]
    split at h
    · rename_i hu
      rw [if_pos hu]
      simp [h]
    · cases h
theorem look_read {P : Program} {t : TypeId} {cells : List AV} {off : Nat} {v : AV} {K : AV → Prop} (h : readVar P t cells off = some v) (k : K v) : match readVar P t cells off with | some v => K v | none => False := by
  rw [h]; exact k
theorem look_put {cells : List AV} {off : Nat} {vs cs : List AV} {K : List AV → Prop} (h : putAt cells off vs = some cs) (k : K cs) : match putAt cells off vs with | some cs => K cs | none => False := by
  rw [h]; exact k
theorem put_one {cells : List AV} {off : Nat} (h : off < cells.length) (x : AV) : putAt cells off [x] = some (cells.set off x) := by
  simp only [putAt]
  rw [if_pos (by simp; omega), List.set_eq_take_append_cons_drop, if_pos h]
  simp
theorem put_all {cells vs : List AV} (h : cells.length = vs.length) : putAt cells 0 vs = some vs := by
  simp only [putAt, Nat.zero_add]
  rw [if_pos (by omega), ← h]
  simp
theorem store_in {c : Prop} [Decidable c] {cells vs cs : List AV} {off : Nat} {K : List AV → Prop} (h0 : c) (h : putAt cells off vs = some cs) (k : K cs) : if c then (match putAt cells off vs with | some cs => K cs | none => False) else False := by
  rw [if_pos h0, h]; exact k
/-- A box of a struct whose cells are not known one by one. -/
theorem box_agg {P : Program} {o : Oper} {t : TypeId} {x : Operand} {σ : Operand → AV} {rd : Nat → AB} {n : Nat} {C : List CV} (ho : o.op = .box t x) (hx : σ x = .c (.agg C)) (hc : (C.map AV.c).all AV.cellish = true) :
    aop P o σ rd n = some (.simple { val := .ptr n 0, fresh := some (.blk (C.map AV.c)) }) := by
  unfold aop
  rw [ho]
  have e : (AV.c (.agg C)).cells = C.map AV.c := rfl
  simp only [hx, abox, e, hc, if_true, simp?, Option.map_some]
theorem sl_take {α : Type} {a b : List α} {n : Nat} (h : a.length = n) : sliceOf (a ++ b) 0 n = some a := by
  simp only [sliceOf, List.drop_zero]
  rw [List.take_append_of_le_length (by omega), List.take_of_length_le (by omega), if_pos h]
theorem sl_all {α : Type} {a : List α} {n : Nat} (h : a.length = n) : sliceOf a 0 n = some a := by
  have := sl_take (b := []) h
  rwa [List.append_nil] at this
theorem read78 {C : List CV} (h : C.length = 31) : readVarC Try.prog 78 C 0 = some (.agg C) := by
  show (sliceOf C 0 31).map CV.agg = _
  rw [sl_all h]; rfl
theorem arr_read (c : Co) {j : Nat} (h : j < 31) : readVar Try.prog 3 ((arrC c).map AV.c) (0 + (j : Int).toNat * 1) = some (.c (I (c j))) := by
  refine readVar_map ?_
  rw [rv3, Int.toNat_natCast, Nat.zero_add, Nat.mul_one]; exact arrC_get c h
theorem arr_put (c : Co) {j : Nat} (h : j < 31) (x : Int) : putAt ((arrC c).map AV.c) (0 + (j : Int).toNat * 1) [.c (I x)] = some ((arrC (updC c j x)).map AV.c) := by
  rw [Int.toNat_natCast, Nat.zero_add, Nat.mul_one, put_one (by rw [List.length_map, arrC_len]; exact h), ← arrC_set, List.map_set]
theorem sz78 {C : List CV} (h : C.length = 31) (hc : (C.map AV.c).all AV.cellish = true) : (AV.c (.agg C)).cells.length = 31 ∧ (AV.c (.agg C)).cells.all AV.cellish = true := ⟨by show (C.map AV.c).length = 31; rw [List.length_map, h], hc⟩

def partC (c d : Co) (q : Nat) : Co := fun j => if j < q then c j else d j
theorem part_upd (c d : Co) (q : Nat) : updC (partC c d q) q (c q) = partC c d (q + 1) := by
  funext j
  unfold updC partC
  by_cases h : j = q
  · subst h; simp
  · simp only [h, if_false]
    by_cases h2 : j < q
    · rw [if_pos h2, if_pos (by omega)]
    · rw [if_neg h2, if_neg (by omega)]
theorem part_all (c d : Co) : arrC (partC c d 31) = arrC c := arrC_congr fun j h => by unfold partC; rw [if_pos h]
theorem part_none (c d : Co) : arrC (partC c d 0) = arrC d := arrC_congr fun j _ => by unfold partC; rw [if_neg (by omega)]
def zeroCo : Co := fun _ => 0

/-- These cells are these costs. -/
def Arr (D : List CV) (c : Co) : Prop := D = arrC c
theorem arr_ex (c : Co) : ∃ D, Arr D c := ⟨_, rfl⟩
theorem Arr.len {D : List CV} {c : Co} (h : Arr D c) : D.length = 31 := by rw [h, arrC_len]
theorem Arr.ce {D : List CV} {c : Co} (h : Arr D c) : (D.map AV.c).all AV.cellish = true := by rw [h]; exact arrC_cellish c
theorem Arr.sz {D : List CV} {c : Co} (h : Arr D c) : (AV.c (.agg D)).cells.length = 31 ∧ (AV.c (.agg D)).cells.all AV.cellish = true := sz78 h.len h.ce
theorem Arr.rd {D : List CV} {c : Co} (h : Arr D c) : readVar Try.prog 78 (D.map AV.c) 0 = some (.c (.agg D)) := readVar_map (read78 h.len)
theorem Arr.put {D E : List CV} {c d : Co} (h : Arr D c) (k : Arr E d) : putAt (E.map AV.c) 0 (D.map AV.c) = some (D.map AV.c) := put_all (by rw [List.length_map, List.length_map, h.len, k.len])
theorem Arr.at {D : List CV} {c : Co} (h : Arr D c) {j : Nat} (hj : j < 31) : readVar Try.prog 3 (D.map AV.c) (0 + (j : Int).toNat * 1) = some (.c (I (c j))) := by rw [h]; exact arr_read c hj
theorem Arr.blk {D : List CV} {c : Co} (h : Arr D c) : AB.blk (D.map .c) = arrB c := by rw [h]; rfl
theorem arrB_ex (c : Co) : ∃ D, Arr D c ∧ arrB c = AB.blk (D.map .c) := ⟨_, rfl, rfl⟩
theorem Arr.congr {D : List CV} {c d : Co} (h : Arr D c) (k : ∀ j, j < 31 → c j = d j) : Arr D d := by unfold Arr; rw [h, arrC_congr k]

theorem Arr.put1 {E : List CV} {c : Co} (h : Arr E c) {j : Nat} (hj : j < 31) (x : Int) : ∃ E', Arr E' (updC c j x) ∧ putAt (E.map AV.c) (0 + (j : Int).toNat * 1) [.c (I x)] = some (E'.map AV.c) := ⟨_, rfl, by rw [h]; exact arr_put c hj x⟩

set_option maxHeartbeats 1000000 in
theorem costsOf_ret {b : Bl} (hb : b.Good) {D : List CV} (hD : Arr D (costB b)) : Ret Try.prog 95 [blV b] (.agg D) := by
  have g1 := hb.f1; have g2 := hb.f2; have g3 := hb.l0; have g4 := hb.l1; have g5 := hb.w0; have g6 := hb.w1
  obtain ⟨Z, hZ, eZ⟩ := arrB_ex zeroCo
  refine ret_by (hm := false) Try.func95 rfl ?_
  conv => whnf
  refine loop_by (I := fun n st => ∃ (q : Nat) (h : Heap), q ≤ 31 ∧ n = 31 - q ∧ Heap.at h 0 = .blk [.c (I b.f), .c (I b.l), .c (I b.w)] ∧ Heap.at h 1 = arrB zeroCo ∧ Heap.at h 2 = arrB (partC (costB b) zeroCo q) ∧ h.n = 3 ∧ Has st 33 [(1, .ptr 0 0), (2, .ptr 1 0), (3, .ptr 2 0), (6, .c (I q))] [] none h) ?_ (k := 31)
    ⟨0, _, Nat.zero_le _, rfl, rfl, by kernel_rfl, by kernel_rfl, rfl, rfl, ⟨rfl, rfl, rfl, rfl, trivial⟩, rfl, rfl, rfl, rfl⟩
  rintro n st ⟨q, h, hq, rfl, h0, hz, h2, hn, hs1⟩
  refine hs1.run (hm := false) ?_
  rw [eZ] at hz
  conv => whnf
  cases hc : decide ((q : Int) < 31)
  case false =>
    have : q = 31 := by simp at hc; omega
    subst this
    rw [arrB, part_all, ← hD] at h2
    conv => whnf
    refine ⟨_, h2, ?_⟩
    conv => whnf
    refine look_read hD.rd ?_
    conv => whnf
    refine ⟨_, hz, ?_⟩
    conv => whnf
    refine store_in hD.sz (hD.put hZ) ?_
    conv => whnf
    refine forceL_intro ?_
    conv => whnf
    refine ⟨_, at_set_self _ _ (i := 1) (by omega), ?_⟩
    conv => whnf
    refine look_read hD.rd ?_
    conv => whnf
    exact .val
  have hq : q < 31 := by simp at hc; omega
  conv => whnf
  refine ⟨_, h0, ?_⟩
  conv => whnf
  refine ⟨b.f - q, by rw [wrap_eq (by omega) (by omega)], ?_⟩
  conv => whnf
  have hval := part_upd (costB b) zeroCo q
  obtain ⟨E, hE, eE⟩ := arrB_ex (partC (costB b) zeroCo q)
  rw [eE] at h2
  obtain ⟨E', hE', pE⟩ := hE.put1 hq (costB b q)
  rw [hval] at hE'
  cases hc2 : decide (b.f - q < 0)
  · have hb1 : costB b q = max (max 0 (b.w - q)) (b.l - b.w - (b.f - q)) := by unfold costB; rw [if_neg (of_decide_eq_false hc2)]
    rw [hb1] at pE
    conv => whnf
    refine ⟨_, h0, ?_⟩
    conv => whnf
    refine ⟨b.w - q, by rw [wrap_eq (by omega) (by omega)], ?_⟩
    conv => whnf
    refine ⟨_, h0, ?_⟩
    conv => whnf
    refine ⟨_, h0, ?_⟩
    conv => whnf
    refine ⟨b.l - b.w, by rw [wrap_eq (by omega) (by omega)], ?_⟩
    conv => whnf
    refine ⟨b.l - b.w - (b.f - q), by rw [wrap_eq (by omega) (by omega)], ?_⟩
    conv => whnf
    refine ⟨⟨by decide, by omega, by omega⟩, ?_⟩
    conv => whnf
    refine ⟨_, h2, ?_⟩
    conv => whnf
    refine look_put (pE) ?_
    conv => whnf
    refine forceL_intro ?_
    conv => whnf
    refine ⟨((q + 1 : Nat) : Int), by rw [wrap_eq (by omega) (by omega)]; omega, ?_⟩
    conv => whnf
    exact ⟨31 - (q + 1), by omega, q + 1, _, by omega, rfl, (at_set_ne _ _ (by decide)).trans h0, (at_set_ne _ _ (by decide)).trans (hz.trans eZ.symm), (at_set_self _ _ (by omega)).trans hE'.blk, by rw [TMap.set_n]; exact hn, rfl, ⟨rfl, rfl, rfl, rfl, trivial⟩, rfl, rfl, rfl, rfl⟩
  · have hb1 : costB b q = 181 := by unfold costB; rw [if_pos (of_decide_eq_true hc2)]
    rw [hb1] at pE
    conv => whnf
    refine ⟨⟨by decide, by omega, by omega⟩, ?_⟩
    conv => whnf
    refine ⟨_, h2, ?_⟩
    conv => whnf
    refine look_put (pE) ?_
    conv => whnf
    refine forceL_intro ?_
    conv => whnf
    refine ⟨((q + 1 : Nat) : Int), by rw [wrap_eq (by omega) (by omega)]; omega, ?_⟩
    conv => whnf
    exact ⟨31 - (q + 1), by omega, q + 1, _, by omega, rfl, (at_set_ne _ _ (by decide)).trans h0, (at_set_ne _ _ (by decide)).trans (hz.trans eZ.symm), (at_set_self _ _ (by omega)).trans hE'.blk, by rw [TMap.set_n]; exact hn, rfl, ⟨rfl, rfl, rfl, rfl, trivial⟩, rfl, rfl, rfl, rfl⟩
end Go.Ag
/- Layer 6: costs together; numbers of a cost. -/
namespace Go.Ag
open Go.Proofs
set_option maxRecDepth 100000

def sumF (ds : List Co) : Co := fun w => ds.foldl (fun a d => a + d w) 0
theorem sumF_snoc (l : List Co) (d : Co) : sumF (l ++ [d]) = fun w => sumF l w + d w := by funext w; simp [sumF]
theorem sumF_take {ds : List Co} {q : Nat} {d : Co} (h : ds[q]? = some d) : sumF (ds.take (q + 1)) = fun w => sumF (ds.take q) w + d w := by
  rw [List.take_add_one, h]; exact sumF_snoc _ _
structure Low (d : Co) : Prop where
  z : ∀ w, 0 ≤ d w
  b : ∀ w, d w ≤ 1000000
theorem sumF_low : ∀ {ds : List Co}, (∀ d ∈ ds, Low d) → ∀ w, 0 ≤ sumF ds w ∧ sumF ds w ≤ ds.length * 1000000 := by
  intro ds h w
  have key : ∀ (l : List Co) (a : Int), (∀ d ∈ l, Low d) → a ≤ l.foldl (fun a d => a + d w) a ∧ l.foldl (fun a d => a + d w) a ≤ a + l.length * 1000000 := by
    intro l
    induction l with
    | nil => intro a _; simp
    | cons x l ih =>
      intro a hl
      have h1 := (hl x (by simp)).z w; have h2 := (hl x (by simp)).b w
      have := ih (a + x w) (fun d hd => hl d (by simp [hd]))
      rw [List.foldl_cons, List.length_cons]
      constructor
      · omega
      · have e : ((l.length + 1 : Nat) : Int) * 1000000 = l.length * 1000000 + 1000000 := by omega
        omega
  have := key ds 0 h
  unfold sumF
  omega
theorem rv78 (cells : List CV) (off : Nat) : readVarC Try.prog 78 cells off = (sliceOf cells off 31).map .agg := rfl
theorem arr_index {D : List CV} {c : Co} (h : Arr D c) {j : Nat} (hj : j < 31) : readVarC Try.prog 3 D (0 + (j : Int).toNat * 1) = some (I (c j)) := by
  rw [h, rv3, Int.toNat_natCast, Nat.zero_add, Nat.mul_one]; exact arrC_get c hj

theorem isArr78 : isArr Try.prog 78 = true := by kernel_rfl
theorem u78 : Try.prog.underlying 78 = some (.array 31 3) := by kernel_rfl
theorem info3 : ∃ inf, Try.prog.info? 3 = some inf ∧ inf.size = 1 := ⟨_, rfl, rfl⟩
theorem aop_index78 {o : Oper} {x y : Operand} {σ : Operand → AV} {rd : Nat → AB} {n : Nat} {D : List CV} {c : Co} {j : Nat} (ho : o.op = .index 78 x y) (hx : σ x = .c (.agg D)) (hy : σ y = .c (I j)) (hD : Arr D c) (hj : j < 31) :
    aop Try.prog o σ rd n = some (.simple { val := .c (I (c j)) }) := by
  obtain ⟨inf, i1, i2⟩ := info3
  have hr := hD.at hj
  rw [Nat.zero_add, ← i2] at hr
  unfold aop
  rw [ho]
  simp only [isArr78, hx, hy, aindex, asInt, u78, i1]
  rw [if_pos (by omega), hr]
  rfl

set_option maxHeartbeats 1000000 in
theorem sum_ret {ds : List Co} {C : List CV} (hs : SlOf 31 (ds.map arrC) C 0 ds.length) (h3 : ds.length ≤ 3) (hl : ∀ d ∈ ds, Low d) {D : List CV} (hD : Arr D (sumF ds)) : Ret Try.prog 88 [.sl C 0 ds.length] (.agg D) := by
  obtain ⟨Z, hZ, eZ⟩ := arrB_ex zeroCo
  refine ret_by (hm := false) Try.func88 rfl ?_
  conv => whnf
  refine loop_by (I := fun n st => ∃ (q : Nat) (h : Heap), q ≤ ds.length ∧ n = ds.length - q ∧ Heap.at h 0 = arrB zeroCo ∧ Heap.at h 1 = arrB (sumF (ds.take q)) ∧ 2 ≤ h.n ∧ Has st 28 [(2, .ptr 0 0), (3, .ptr 1 0), (8, .c (.sl C 0 ds.length)), (9, .c (I ds.length)), (10, .c (I q))] [] none h) ?_ (k := ds.length)
    ⟨0, _, Nat.zero_le _, rfl, by kernel_rfl, by kernel_rfl, Nat.le_refl 2, rfl, ⟨rfl, rfl, rfl, rfl, rfl, trivial⟩, rfl, rfl, rfl, rfl⟩
  rintro n st ⟨q, h, hq, rfl, h0, h1, hn, hs1⟩
  refine hs1.run (hm := false) ?_
  conv => whnf
  cases hc : decide ((q : Int) < (ds.length : Int))
  case false =>
    have : q = ds.length := by simp at hc; omega
    subst this
    rw [List.take_length, ← hD.blk] at h1
    rw [eZ] at h0
    conv => whnf
    refine ⟨_, h1, ?_⟩
    conv => whnf
    refine look_read (hD.rd) ?_
    conv => whnf
    refine ⟨_, h0, ?_⟩
    conv => whnf
    refine store_in hD.sz (hD.put hZ) ?_
    conv => whnf
    refine forceL_intro ?_
    conv => whnf
    refine ⟨_, at_set_self _ _ (i := 0) (by omega), ?_⟩
    conv => whnf
    refine look_read (hD.rd) ?_
    conv => whnf
    exact .val
  have hq : q < ds.length := by simp at hc; omega
  obtain ⟨d, hd⟩ := get_some hq
  obtain ⟨A, hA⟩ := arr_ex d
  have hrow : readVarC Try.prog 78 C (0 + (q : Int).toNat * 31) = some (.agg A) := by
    rw [Int.toNat_natCast, rv78, hs.row q (arrC d) (by simp [hd]), hA]; rfl
  conv => whnf
  refine ⟨⟨by omega, by omega⟩, ?_⟩
  conv => whnf
  refine ⟨_, hrow, ?_⟩
  conv => whnf
  generalize hH : TMap.push AB.dead h _ = H
  have Hn : H.n = h.n + 1 := by rw [← hH]; rfl
  have H0 : Heap.at H 0 = .blk (Z.map .c) := by rw [← hH, ← eZ]; exact (at_push_lt _ _ (by omega)).trans h0
  have H1 : Heap.at H 1 = arrB (sumF (ds.take q)) := by rw [← hH]; exact (at_push_lt _ _ (by omega)).trans h1
  have Hz : Heap.at H h.n = .blk (Z.map .c) := by rw [← hH, ← eZ]; exact (at_push_self _ _).trans (by kernel_rfl)
  clear hH
  refine ⟨_, Hz, ?_⟩
  conv => whnf
  refine store_in hA.sz (hA.put hZ) ?_
  conv => whnf
  refine forceL_intro ?_
  conv => whnf
  refine ⟨_, at_set_self _ _ (by omega), ?_⟩
  conv => whnf
  refine look_read (hA.rd) ?_
  conv => whnf
  have hob : ∀ w, 0 ≤ sumF (ds.take q) w ∧ sumF (ds.take q) w ≤ 3000000 := fun w => by
    have h1 := sumF_low (ds := ds.take q) (fun d hd => hl d (List.mem_of_mem_take hd)) w
    have h2 : (ds.take q).length ≤ 3 := by rw [List.length_take]; omega
    omega
  have hdl := hl d (List.mem_of_getElem? hd)
  have hnext := sumF_take hd
  generalize hN : sumF (ds.take (q + 1)) = N at hnext
  generalize hO : sumF (ds.take q) = O at *
  refine loop_by (I := fun n st => ∃ (r : Nat) (g : Heap), r ≤ 31 ∧ n = 31 - r ∧ Heap.at g 0 = .blk (Z.map .c) ∧ Heap.at g 1 = arrB (partC N O r) ∧ 2 ≤ g.n ∧ Has st 28 [(2, .ptr 0 0), (3, .ptr 1 0), (8, .c (.sl C 0 ds.length)), (9, .c (I ds.length)), (10, .c (I q)), (14, .c (.agg A)), (15, .c (I r))] [] none g) ?_ (k := 31)
    ⟨0, _, Nat.zero_le _, rfl, (at_set_ne _ _ (by omega)).trans H0, (at_set_ne _ _ (by omega)).trans (H1.trans (by unfold arrB; rw [part_none])), by rw [TMap.set_n]; omega, rfl, ⟨rfl, rfl, rfl, rfl, rfl, rfl, rfl, trivial⟩, rfl, rfl, rfl, rfl⟩
  rintro n st ⟨r, g, hr, rfl, g0, g1, gn, hs2⟩
  refine hs2.run (hm := false) ?_
  conv => whnf
  cases hc2 : decide ((r : Int) < 31)
  case false =>
    have : r = 31 := by simp at hc2; omega
    subst this
    conv => whnf
    refine ⟨((q + 1 : Nat) : Int), by rw [wrap_eq (by omega) (by omega)]; omega, ?_⟩
    conv => whnf
    exact ⟨ds.length - (q + 1), by omega, q + 1, _, by omega, rfl, by rw [eZ]; exact g0, by rw [g1, hN]; unfold arrB; rw [part_all], gn, rfl, ⟨rfl, rfl, rfl, rfl, rfl, trivial⟩, rfl, rfl, rfl, rfl⟩
  have hr : r < 31 := by simp at hc2; omega
  conv => whnf
  rw [aop_index78 (D := A) (c := d) (j := r)]; rotate_left; rfl; rfl; rfl; exact hA; exact hr
  obtain ⟨E, hE, eE⟩ := arrB_ex (partC N O r)
  rw [eE] at g1
  have hval := part_upd N O r
  obtain ⟨E', hE', pE⟩ := hE.put1 hr (N r)
  rw [hval] at hE'
  conv => whnf
  refine ⟨⟨by decide, by omega, by omega⟩, ?_⟩
  conv => whnf
  refine ⟨_, g1, ?_⟩
  conv => whnf
  refine look_read (hE.at hr) ?_
  conv => whnf
  have hp : partC N O r r = O r := by unfold partC; rw [if_neg (by omega)]
  have hNr : N r = O r + d r := congrFun hnext r
  have b1 := hob r; have b2 := hdl.z r; have b3 := hdl.b r
  refine ⟨N r, by rw [hp, hNr, wrap_eq (by omega) (by omega)], ?_⟩
  conv => whnf
  refine ⟨⟨by decide, by omega, by omega⟩, ?_⟩
  conv => whnf
  refine ⟨_, g1, ?_⟩
  conv => whnf
  refine look_put (pE) ?_
  conv => whnf
  refine forceL_intro ?_
  conv => whnf
  refine ⟨((r + 1 : Nat) : Int), by rw [wrap_eq (by omega) (by omega)]; omega, ?_⟩
  conv => whnf
  exact ⟨31 - (r + 1), by omega, r + 1, _, by omega, rfl, (at_set_ne _ _ (by omega)).trans g0, (at_set_self _ _ (by omega)).trans hE'.blk, by rw [TMap.set_n]; exact gn, rfl, ⟨rfl, rfl, rfl, rfl, rfl, rfl, rfl, trivial⟩, rfl, rfl, rfl, rfl⟩
/-! The least of some. -/
def minTo (c : Co) : Nat → Int
  | 0 => c 0
  | k + 1 => min (minTo c k) (c (k + 1))
theorem minTo_le {c : Co} {m : Int} : ∀ {k : Nat}, minTo c k ≤ m ↔ ∃ j, j ≤ k ∧ c j ≤ m
  | 0 => ⟨fun h => ⟨0, Nat.le_refl _, h⟩, fun ⟨j, h1, h2⟩ => by have : j = 0 := by omega
                                                                subst this; exact h2⟩
  | k + 1 => by
    have ih := minTo_le (c := c) (m := m) (k := k)
    simp only [minTo]
    constructor
    · intro h
      by_cases h1 : minTo c k ≤ m
      · obtain ⟨j, a, b⟩ := ih.1 h1; exact ⟨j, by omega, b⟩
      · exact ⟨k + 1, by omega, by omega⟩
    · rintro ⟨j, a, b⟩
      by_cases h1 : j ≤ k
      · have := ih.2 ⟨j, h1, b⟩; omega
      · have : j = k + 1 := by omega
        subst this; omega
theorem arr_get3 {D : List CV} {c : Co} (h : Arr D c) {j : Nat} (hj : j < 31) : readVarC Try.prog 3 D (0 + (j : Int).toNat * 1) = some (I (c j)) := arr_index h hj
theorem min_ret {c : Co} {D : List CV} (hD : Arr D c) : Ret Try.prog 89 [.sl D 0 31] (I (minTo c 30)) := by
  refine ret_by (hm := false) Try.func89 rfl ?_
  conv => whnf
  refine ⟨⟨by omega, by omega⟩, ?_⟩
  conv => whnf
  refine ⟨_, arr_get3 hD (j := 0) (by omega), ?_⟩
  conv => whnf
  refine loop_by (I := fun n st => ∃ (q : Nat) (h : Heap), q ≤ 30 ∧ n = 30 - q ∧ Has st 25 [(0, .c (.sl D 0 31)), (3, .c (I (minTo c q))), (4, .c (I (q + 1 : Nat)))] [] none h) ?_ (k := 30)
    ⟨0, _, Nat.zero_le _, rfl, rfl, ⟨rfl, rfl, rfl, trivial⟩, rfl, rfl, rfl, rfl⟩
  rintro n st ⟨q, h, hq, rfl, hs1⟩
  refine hs1.run (hm := false) ?_
  conv => whnf
  cases hc : decide (((q + 1 : Nat) : Int) < 31)
  case false =>
    have : q = 30 := by simp at hc; omega
    subst this
    conv => whnf
    exact .val
  have hq : q < 30 := by simp at hc; omega
  conv => whnf
  refine ⟨⟨by omega, by omega⟩, ?_⟩
  conv => whnf
  refine ⟨_, arr_get3 hD (j := q + 1) (by omega), ?_⟩
  conv => whnf
  refine ⟨((q + 1 + 1 : Nat) : Int), by rw [wrap_eq (by omega) (by omega)]; omega, ?_⟩
  conv => whnf
  exact ⟨30 - (q + 1), by omega, q + 1, _, by omega, rfl, rfl, ⟨rfl, rfl, rfl, trivial⟩, rfl, rfl, rfl, rfl⟩
theorem sp3 : slicePart Try.prog 3 = some 1 := by kernel_rfl
theorem aarr78 {rd : Nat → AB} {id : Nat} {cells : List AV} (hb : rd id = .blk cells) (hl : cells.length = 31) : aarrSlice Try.prog rd 78 (.ptr id 0) none none none = some { val := .msl id 1 0 31 31, reads := [id] } := by
  unfold aarrSlice
  simp only [u78, sp3, hb]
  rw [if_pos (by omega)]
  rfl
theorem can_ret {c : Co} {D : List CV} (hD : Arr D c) (m : Int) : Ret Try.prog 57 [.agg D, I m] (B (decide (minTo c 30 ≤ m))) := by
  have hce := hD.ce
  have hl := hD.len
  refine ret_by (hm := true) Try.func57 rfl ?_
  conv => whnf
  rw [box_agg (C := D)]; rotate_left; rfl; rfl; exact hce
  conv => whnf
  refine forceL_intro ?_
  conv => whnf
  refine ⟨_, aarr78 (cells := D.map .c) rfl (by rw [List.length_map, hl]), ?_⟩
  conv => whnf
  refine CallW.msl (cs := D) rfl (min_ret hD) rfl ?_
  conv => whnf
  exact .val
/-! Numbers, one after the other. -/
def oneL (l : List Nat) : List CV := l.map fun n => I (n : Nat)
theorem oneL_nil : oneL [] = [] := rfl
theorem oneL_cons (x : Nat) (l : List Nat) : oneL (x :: l) = I (x : Nat) :: oneL l := rfl
/-- Those that cost so much at most. -/
def nums (c : Co) (m : Int) (k : Nat) : List Nat := (List.range' k (31 - k)).filter fun w => decide (c w ≤ m)
theorem nums_nil {c : Co} {m : Int} {k : Nat} (h : 31 ≤ k) : nums c m k = [] := by unfold nums; rw [show 31 - k = 0 by omega]; rfl
theorem nums_cons {c : Co} {m : Int} {k : Nat} (h : k < 31) : nums c m k = if decide (c k ≤ m) then k :: nums c m (k + 1) else nums c m (k + 1) := by
  unfold nums
  rw [show 31 - k = (31 - (k + 1)) + 1 by omega, List.range'_succ, List.filter_cons]
theorem mem_nums {c : Co} {m : Int} {k w : Nat} : w ∈ nums c m k ↔ k ≤ w ∧ w < 31 ∧ c w ≤ m := by
  unfold nums; rw [List.mem_filter, List.mem_range'_1]; simp; omega
def numsC (D : List CV) (m : Int) : CV := .func (.func 96) [] [.cptr D 0, .cptr [I m] 0]
theorem snap_nums {H : Nat → AB} {D : List CV} {m : Int} (h0 : H 0 = .blk (D.map .c)) (h1 : H 1 = .blk [.c (I m)]) : snap H (D.length + 40) (.func (.func 96) [] [.ptr 0 0, .ptr 1 0]) = some (numsC D m, [0, 1]) := by
  simp only [snap, snaps, Option.bind_some, Option.map_some, h0, h1]
  rw [snaps_map_c H D _ (by omega)]
  rfl
theorem numbers_ret {D : List CV} {c : Co} (hD : Arr D c) (m : Int) : Ret Try.prog 74 [.agg D, I m] (numsC D m) := by
  have hce := hD.ce
  refine ret_by (hm := true) Try.func74 rfl ?_
  conv => whnf
  rw [box_agg (C := D)]; rotate_left; rfl; rfl; exact hce
  conv => whnf
  refine forceL_intro ?_
  conv => whnf
  exact ⟨_, _, snap_nums rfl rfl⟩
set_option maxHeartbeats 2000000 in
theorem nums_iter {A : List CV} {c : Co} (hA : Arr A c) (m : Int) : IterC Try.prog (numsC A m) (oneL (nums c m 0)) := by
  refine ⟨96, [], [.cptr A 0, .cptr [I m] 0], rfl, by kernel_rfl, fun id n0 J D X R hid h0 hn0 hJ => ?_⟩
  refine call_by (hm := false) Try.func96 rfl ?_
  conv => whnf
  refine ⟨_, read78 hA.len, ?_⟩
  conv => whnf
  refine loop_by (I := fun q s => ∃ (k : Nat) (h : Heap), k ≤ 31 ∧ q = 31 - k ∧ n0 ≤ h.n ∧ J (oneL (nums c m k)) h ∧
    Has s 21 [(0, .yield id), (2, .c (.cptr [I m] 0)), (6, .c (.agg A)), (7, .c (I k))] [] none h) ?_ (k := 31)
    ⟨0, _, Nat.zero_le _, rfl, hn0, hJ, rfl, ⟨rfl, rfl, rfl, rfl, trivial⟩, rfl, rfl, rfl, rfl⟩
  rintro q s ⟨k, h, hk, rfl, hn, hJ, hs⟩
  refine hs.run (hm := false) ?_
  conv => whnf
  cases hc : decide ((k : Int) < 31)
  · have hk : 31 ≤ k := by simp at hc; omega
    rw [nums_nil hk, oneL_nil] at hJ
    conv => whnf
    exact ⟨hn, .inl hJ⟩
  have hk : k < 31 := by simp at hc; omega
  rw [nums_cons hk] at hJ
  conv => whnf
  rw [aop_index78 (D := A) (c := c) (j := k)]; rotate_left; rfl; rfl; rfl; exact hA; exact hk
  conv => whnf
  refine ⟨_, rfl, ?_⟩
  conv => whnf
  cases hp : decide (c k ≤ m)
  · rw [hp] at hJ
    conv => whnf
    refine ⟨((k + 1 : Nat) : Int), by rw [wrap_eq (by omega) (by omega)]; omega, ?_⟩
    conv => whnf
    exact ⟨31 - (k + 1), by omega, k + 1, _, by omega, rfl, hn, hJ, rfl, ⟨rfl, rfl, rfl, rfl, trivial⟩, rfl, rfl, rfl, rfl⟩
  · rw [hp] at hJ
    have hJ2 : J (I (k : Nat) :: oneL (nums c m (k + 1))) h := hJ
    conv => whnf
    refine .mk ((R.round _ _ _ hJ2 hn).mono ?_ ?_)
    · rintro b h' ⟨hf, hk'⟩
      have n' := hf.n
      have n3 : n0 ≤ h'.n := by omega
      cases b
      · conv => whnf
        exact ⟨n3, .inr hk'⟩
      · conv => whnf
        refine ⟨((k + 1 : Nat) : Int), by rw [wrap_eq (by omega) (by omega)]; omega, ?_⟩
        conv => whnf
        exact ⟨31 - (k + 1), by omega, k + 1, h', by omega, rfl, n3, hk', rfl, ⟨rfl, rfl, rfl, rfl, trivial⟩, rfl, rfl, rfl, rfl⟩
    · rintro v h' ⟨hx, hn', hf⟩
      exact ⟨hn', hx⟩
/-- From one number to another one. -/
def ftC (lo hi : Nat) : CV := .func (.func 97) [] [.cptr [I lo] 0, .cptr [I hi] 0]
theorem fromTo_ret (lo hi : Nat) : Ret Try.prog 76 [I lo, I hi] (ftC lo hi) := by
  refine ret_by (hm := true) Try.func76 rfl ?_
  conv => whnf
  exact ⟨10, [0, 1], rfl⟩
set_option maxHeartbeats 2000000 in
theorem ft_iter {lo hi : Nat} (hb : hi < 1000000) (hl : lo ≤ 1000000) : IterC Try.prog (ftC lo hi) (oneL (ftN lo hi)) := by
  refine ⟨97, [], [.cptr [I lo] 0, .cptr [I hi] 0], rfl, by kernel_rfl, fun id n0 J D X R hid h0 hn0 hJ => ?_⟩
  refine call_by (hm := false) Try.func97 rfl ?_
  conv => whnf
  refine ⟨_, rfl, ?_⟩
  conv => whnf
  refine loop_by (I := fun q s => ∃ (k : Nat) (h : Heap), q = hi + 1 - k ∧ k ≤ 1000001 ∧ n0 ≤ h.n ∧ J (oneL (ftN k hi)) h ∧
    Has s 15 [(0, .yield id), (2, .c (.cptr [I hi] 0)), (4, .c (I k))] [] none h) ?_ (k := hi + 1 - lo)
    ⟨lo, _, rfl, by omega, hn0, hJ, rfl, ⟨rfl, rfl, rfl, trivial⟩, rfl, rfl, rfl, rfl⟩
  rintro q s ⟨k, h, rfl, hk1, hn, hJ, hs⟩
  refine hs.run (hm := false) ?_
  conv => whnf
  refine ⟨_, rfl, ?_⟩
  conv => whnf
  cases hc : decide ((k : Int) ≤ (hi : Int))
  · have hk : hi < k := by simp at hc; omega
    rw [ft_nil hk, oneL_nil] at hJ
    conv => whnf
    exact ⟨hn, .inl hJ⟩
  have hk : k ≤ hi := by simp at hc; omega
  rw [ft_cons hk, oneL_cons] at hJ
  conv => whnf
  refine .mk ((R.round _ _ _ hJ hn).mono ?_ ?_)
  · rintro b h' ⟨hf, hk'⟩
    have n' := hf.n
    have n3 : n0 ≤ h'.n := by omega
    cases b
    · conv => whnf
      exact ⟨n3, .inr hk'⟩
    · conv => whnf
      refine ⟨((k + 1 : Nat) : Int), by rw [wrap_eq (by omega) (by omega)]; omega, ?_⟩
      conv => whnf
      exact ⟨hi + 1 - (k + 1), by omega, k + 1, h', rfl, by omega, n3, hk', rfl, ⟨rfl, rfl, rfl, trivial⟩, rfl, rfl, rfl, rfl⟩
  · rintro v h' ⟨hx, hn', hf⟩
    exact ⟨hn', hx⟩
end Go.Ag
/- Layer 6: spans of numbers; whether a bale keeps the line. -/
namespace Go.Ag
open Go.Proofs
set_option maxRecDepth 100000

def spanL (l : List Nat) (s : Int × Int) : Int × Int := l.foldl (fun a w => joinS a ((w : Nat), (w : Nat))) s
def spanF (c : Co) (m : Int) : Int × Int := spanL (nums c m 0) noS
def spB2 (s : Int × Int) : AB := .blk [.c (I s.1), .c (I s.2)]
theorem spanL_app (l r : List Nat) (s : Int × Int) : spanL (l ++ r) s = spanL r (spanL l s) := List.foldl_append

set_option maxHeartbeats 1000000 in
theorem span_ret {D : List CV} {c : Co} (hD : Arr D c) (v : LV) (ln : Ln) : Ret Try.prog 46 [.agg D, v.cv ln] (spV (spanF c ln.mist)) := by
  have hce := hD.ce
  refine ret_then (hm := false) Try.func46 rfl ?_
  conv => whnf
  refine then_seq (hm := true) ?_
  conv => whnf
  rw [box_agg (C := D)]; rotate_left; rfl; rfl; exact hce
  conv => whnf
  refine forceL_intro ?_
  conv => whnf
  refine then_seq (hm := true) ?_
  conv => whnf
  refine .ret (nothing_ret) rfl ?_
  conv => whnf
  refine then_via (hm := true) (fun st => ∃ h : Heap, Heap.at h 2 = spB2 (0, 0) ∧ Heap.at h 3 = spB2 (spanF c ln.mist) ∧ Heap.at h 4 = .coll true ∧ 5 ≤ h.n ∧ Has st 18 [(4, .ptr 2 0), (5, .ptr 3 0)] [.coll 4] none h) ?_ ?_
  · conv => whnf
    refine look_read (hD.rd) ?_
    conv => whnf
    refine .ret (numbers_ret hD ln.mist) rfl ?_
    conv => whnf
    refine range_n (hm := false) 4 rfl rfl (nums_iter hD ln.mist)
      (I := fun ys h1 => ∃ done rest, ys = oneL rest ∧ nums c ln.mist 0 = done ++ rest ∧ Heap.at h1 2 = spB2 (0, 0) ∧ Heap.at h1 3 = spB2 (spanL done noS) ∧ 4 ≤ h1.n)
      (E := fun _ _ => False) (X := fun _ _ => False) ?_ ?_ ?_ ?_ ?_ ?_ ?_
    · rintro ys h1 h2 ⟨done, rest, x1, x2, x3, x4, x5⟩ hn ff
      exact ⟨done, rest, x1, x2, (ff.keep _ (by omega) (by omega)).trans x3, (ff.keep _ (by omega) (by omega)).trans x4, by have := ff.n; omega⟩
    · rintro _ _ _ hx
      exact hx.elim
    · exact ⟨[], _, rfl, rfl, rfl, rfl, Nat.le_refl 4⟩
    · rintro y ys h1 hn ⟨done, rest, x1, x2, x3, x4, x5⟩
      cases rest with
      | nil => cases x1
      | cons w rest =>
      obtain ⟨rfl, rfl⟩ := List.cons.inj x1
      conv => whnf
      refine ⟨rfl, fun hb fb hbn => ?_⟩
      have c2 := (fb.keep 2 (by omega) (by omega)).trans x3
      have c3 := (fb.keep 3 (by omega) (by omega)).trans x4
      have h3 : 3 < hb.n := by omega
      conv => whnf
      refine draw_by (hm := false) (by kernel_rfl) (by kernel_rfl) ?_
      conv => whnf
      refine ⟨_, c3, ?_⟩
      conv => whnf
      refine .pure _ _ rfl (exactly_ret (w : Nat)) ?_
      conv => whnf
      refine .pure _ _ rfl (joined_ret (spanL done noS) ((w : Nat), (w : Nat))) ?_
      conv => whnf
      refine ⟨_, c3, ?_⟩
      conv => whnf
      refine ⟨h3, ?_⟩
      conv => whnf
      refine ⟨by kernel_rfl, ?_⟩
      conv => whnf
      exact ⟨Foot.set (k := 3) (Foot.refl _ _) (.inl (by omega)) _, done ++ [w], rest, rfl, by rw [x2]; simp, (at_set_ne _ _ (i := 2) (k := 3) (by decide)).trans c2, (at_set_self _ _ (i := 3) h3).trans (by rw [spanL_app]; rfl), by show 4 ≤ hb.n; omega⟩
    · rintro h1 hn hc ⟨done, rest, x1, x2, x3, x4, x5⟩
      have : rest = [] := by cases rest with | nil => rfl | cons a l => cases x1
      subst this
      rw [List.append_nil] at x2
      rw [← x2] at x4
      exact ⟨h1, x3, x4, hc, by omega, rfl, ⟨rfl, rfl, trivial⟩, rfl, rfl, rfl, rfl⟩
    · rintro _ _ _ _ hx
      exact hx.elim
    · rintro x h1 _ _ hx
      exact hx.elim
  · rintro st ⟨h, x1, x2, x3, x4, hs1⟩
    refine hs1.then ?_
    conv => whnf
    refine then_end (hm := false) ?_
    conv => whnf
    refine ⟨_, x2, ?_⟩
    conv => whnf
    refine ⟨_, x1, ?_⟩
    conv => whnf
    refine ⟨_, (at_set_ne _ _ (by decide)).trans x3, ?_⟩
    conv => whnf
    refine ⟨_, (at_set_ne _ _ (by decide)).trans (at_set_self _ _ (by omega)), ?_⟩
    conv => whnf
    exact .val
theorem keeps_ret {D : List CV} {c : Co} (hD : Arr D c) (v : LV) (ln : Ln) : Ret Try.prog 48 [.agg D, v.cv ln] (I (sureN (decide ((spanF c ln.mist).2 ≤ ln.may)) (decide ((spanF c ln.mist).1 ≤ ln.may)))) := by
  have hce := hD.ce
  refine ret_by (hm := true) Try.func48 rfl ?_
  conv => whnf
  rw [box_agg (C := D)]; rotate_left; rfl; rfl; exact hce
  conv => whnf
  refine forceL_intro ?_
  conv => whnf
  refine look_read (hD.rd) ?_
  conv => whnf
  refine .ret (span_ret hD v ln) rfl ?_
  conv => whnf
  refine .ret (howSure_ret _ _) rfl ?_
  conv => whnf
  exact .val
end Go.Ag
/- Layer 6: how many bales a set has. -/
namespace Go.Ag
open Go.Proofs
set_option maxRecDepth 100000

/-- How many there are in a set. -/
def popB (n : Nat) : Nat := (List.range 8).countP fun i => n.testBit i
theorem mix : Try.prog.follows .mixedOrders = true := by kernel_rfl
noncomputable def cfg0 : Cfg := { P := Try.prog, pure := fun _ => true, con := fun _ _ => none }
theorem con0 : ConOk cfg0 := fun f args e h => by cases h
def onesE (n c : Nat) : Known := ⟨100, [.lit (.int .u64 n)], I c⟩
theorem onesA0 : ((List.range 16).all fun n => tells cfg0 2000 (onesE (0 + n) (popB (0 + n)))) = true := by kernel_rfl
theorem onesA1 : ((List.range 16).all fun n => tells cfg0 2000 (onesE (16 + n) (popB (16 + n)))) = true := by kernel_rfl
theorem onesA2 : ((List.range 16).all fun n => tells cfg0 2000 (onesE (32 + n) (popB (32 + n)))) = true := by kernel_rfl
theorem onesA3 : ((List.range 16).all fun n => tells cfg0 2000 (onesE (48 + n) (popB (48 + n)))) = true := by kernel_rfl
theorem onesA4 : ((List.range 16).all fun n => tells cfg0 2000 (onesE (64 + n) (popB (64 + n)))) = true := by kernel_rfl
theorem onesA5 : ((List.range 16).all fun n => tells cfg0 2000 (onesE (80 + n) (popB (80 + n)))) = true := by kernel_rfl
theorem onesA6 : ((List.range 16).all fun n => tells cfg0 2000 (onesE (96 + n) (popB (96 + n)))) = true := by kernel_rfl
theorem onesA7 : ((List.range 16).all fun n => tells cfg0 2000 (onesE (112 + n) (popB (112 + n)))) = true := by kernel_rfl
theorem onesA8 : ((List.range 16).all fun n => tells cfg0 2000 (onesE (128 + n) (popB (128 + n)))) = true := by kernel_rfl
theorem onesA9 : ((List.range 16).all fun n => tells cfg0 2000 (onesE (144 + n) (popB (144 + n)))) = true := by kernel_rfl
theorem onesA10 : ((List.range 16).all fun n => tells cfg0 2000 (onesE (160 + n) (popB (160 + n)))) = true := by kernel_rfl
theorem onesA11 : ((List.range 16).all fun n => tells cfg0 2000 (onesE (176 + n) (popB (176 + n)))) = true := by kernel_rfl
theorem onesA12 : ((List.range 16).all fun n => tells cfg0 2000 (onesE (192 + n) (popB (192 + n)))) = true := by kernel_rfl
theorem onesA13 : ((List.range 16).all fun n => tells cfg0 2000 (onesE (208 + n) (popB (208 + n)))) = true := by kernel_rfl
theorem onesA14 : ((List.range 16).all fun n => tells cfg0 2000 (onesE (224 + n) (popB (224 + n)))) = true := by kernel_rfl
theorem onesA15 : ((List.range 16).all fun n => tells cfg0 2000 (onesE (240 + n) (popB (240 + n)))) = true := by kernel_rfl
theorem ones_at {b n : Nat} (h : ((List.range 16).all fun n => tells cfg0 2000 (onesE (b + n) (popB (b + n)))) = true) (h1 : b ≤ n) (h2 : n < b + 16) : (onesE n (popB n)).ok Try.prog := by
  have := List.all_eq_true.1 h (n - b) (List.mem_range.2 (by omega))
  rw [show b + (n - b) = n by omega] at this
  exact tells_ok (C := cfg0) mix con0 this
theorem ones_ret {n : Nat} (h : n < 256) : Ret Try.prog 100 [.lit (.int .u64 n)] (I (popB n)) := by
  by_cases h0 : n < 16
  · exact ones_at onesA0 (by omega) (by omega)
  by_cases h1 : n < 32
  · exact ones_at onesA1 (by omega) (by omega)
  by_cases h2 : n < 48
  · exact ones_at onesA2 (by omega) (by omega)
  by_cases h3 : n < 64
  · exact ones_at onesA3 (by omega) (by omega)
  by_cases h4 : n < 80
  · exact ones_at onesA4 (by omega) (by omega)
  by_cases h5 : n < 96
  · exact ones_at onesA5 (by omega) (by omega)
  by_cases h6 : n < 112
  · exact ones_at onesA6 (by omega) (by omega)
  by_cases h7 : n < 128
  · exact ones_at onesA7 (by omega) (by omega)
  by_cases h8 : n < 144
  · exact ones_at onesA8 (by omega) (by omega)
  by_cases h9 : n < 160
  · exact ones_at onesA9 (by omega) (by omega)
  by_cases h10 : n < 176
  · exact ones_at onesA10 (by omega) (by omega)
  by_cases h11 : n < 192
  · exact ones_at onesA11 (by omega) (by omega)
  by_cases h12 : n < 208
  · exact ones_at onesA12 (by omega) (by omega)
  by_cases h13 : n < 224
  · exact ones_at onesA13 (by omega) (by omega)
  by_cases h14 : n < 240
  · exact ones_at onesA14 (by omega) (by omega)
  exact ones_at onesA15 (by omega) (by omega)
theorem wrap_u64 {j : Nat} (h : j < 2 ^ 63) : IntKind.u64.wrap ((j : Nat) : Int) = ((j : Nat) : Int) := by
  have e : (2 : Int) ^ IntKind.u64.bits = 18446744073709551616 := by decide
  unfold IntKind.wrap
  rw [e]
  have : IntKind.u64.signed = false := rfl
  simp only [this, Bool.false_and, Bool.false_eq_true, if_false]
  omega
theorem ones_conv {n : Nat} (h : n < 256) : Ret Try.prog 100 [CV.ofVal (Value.int .u64 (IntKind.u64.wrap (n : Int)))] (I (popB n)) := by
  rw [wrap_u64 (by omega)]; exact ones_ret h
theorem many_ret {n : Nat} (h : n < 256) : Ret Try.prog 91 [I n] (I (popB n)) := by
  refine ret_by (hm := true) Try.func91 rfl ?_
  conv => whnf
  refine .ret (ones_conv h) rfl ?_
  conv => whnf
  exact .val
end Go.Ag
/- Layer 6: sets by their size. -/
namespace Go.Ag
open Go.Proofs
set_option maxRecDepth 100000

def setsOf (m k j : Nat) : List Nat := (List.range' j (2 ^ m - j)).filter fun s => popB s == k
def sizesFrom (m k : Nat) : List Nat := (List.range' k (m + 1 - k)).flatMap fun k => setsOf m k 0
def bySize (m : Nat) : List Nat := sizesFrom m 0
def bySizeC (m : Nat) : CV := .func (.func 90) [] [.cptr [I m] 0]
theorem sizes_cons {m k : Nat} (h : k ≤ m) : sizesFrom m k = setsOf m k 0 ++ sizesFrom m (k + 1) := by
  unfold sizesFrom
  rw [show m + 1 - k = (m + 1 - (k + 1)) + 1 by omega, List.range'_succ, List.flatMap_cons]
theorem sizes_nil {m k : Nat} (h : m < k) : sizesFrom m k = [] := by
  unfold sizesFrom
  rw [show m + 1 - k = 0 by omega]; rfl
theorem setsOf_cons {m k j : Nat} (h : j < 2 ^ m) : setsOf m k j = if popB j == k then j :: setsOf m k (j + 1) else setsOf m k (j + 1) := by
  unfold setsOf
  rw [show 2 ^ m - j = (2 ^ m - (j + 1)) + 1 by omega, List.range'_succ, List.filter_cons]
theorem setsOf_nil {m k j : Nat} (h : 2 ^ m ≤ j) : setsOf m k j = [] := by
  unfold setsOf
  rw [show 2 ^ m - j = 0 by omega]; rfl
theorem popB_le (n : Nat) : popB n ≤ 8 := by
  unfold popB
  exact Nat.le_trans List.countP_le_length (by simp)
theorem mem_bySize {m s : Nat} : s ∈ bySize m ↔ s < 2 ^ m ∧ popB s ≤ m := by
  unfold bySize sizesFrom setsOf
  simp only [List.mem_flatMap, List.mem_filter, List.mem_range', beq_iff_eq]
  constructor
  · rintro ⟨k, ⟨i, h1, rfl⟩, ⟨j, h2, rfl⟩, h3⟩; omega
  · rintro ⟨h1, h2⟩; exact ⟨popB s, ⟨popB s, by omega, by omega⟩, ⟨s, by omega, by omega⟩, rfl⟩

theorem bySize_ret (m : Nat) : Ret Try.prog 60 [I m] (bySizeC m) := by
  refine ret_by (hm := true) Try.func60 rfl ?_
  conv => whnf
  exact ⟨10, [0], rfl⟩

set_option maxHeartbeats 2000000 in
theorem bySize_iter {m : Nat} (hm8 : m ≤ 6) : IterC Try.prog (bySizeC m) (oneL (bySize m)) := by
  have h32 : 1 ≤ 2 ^ m ∧ 2 ^ m ≤ 64 := pow_b hm8
  refine ⟨90, [], [.cptr [I m] 0], rfl, by kernel_rfl, fun id n0 J D X R hid h0 hn0 hJ => ?_⟩
  refine call_by (hm := false) Try.func90 rfl ?_
  conv => whnf
  refine ⟨_, rfl, ?_⟩
  conv => whnf
  refine ⟨((m + 1 : Nat) : Int), by rw [wrap_eq (by omega) (by omega)]; omega, ?_⟩
  conv => whnf
  refine loop_by (I := fun q s => ∃ (k : Nat) (h : Heap), k ≤ m + 1 ∧ q = m + 1 - k ∧ n0 ≤ h.n ∧ J (oneL (sizesFrom m k)) h ∧
    Has s 27 [(0, .yield id), (1, .c (.cptr [I m] 0)), (6, .c (I ((m + 1 : Nat) : Int))), (7, .c (I k))] [] none h) ?_ (k := m + 1)
    ⟨0, _, Nat.zero_le _, rfl, hn0, hJ, rfl, ⟨rfl, rfl, rfl, rfl, trivial⟩, rfl, rfl, rfl, rfl⟩
  rintro q s ⟨k, h, hk, rfl, hn, hJ, hs⟩
  refine hs.run (hm := false) ?_
  conv => whnf
  cases hc : decide ((k : Int) < ((m + 1 : Nat) : Int))
  · have hkm : m < k := by simp at hc; omega
    rw [sizes_nil hkm, oneL_nil] at hJ
    conv => whnf
    exact ⟨hn, .inl hJ⟩
  have hkm : k ≤ m := by simp at hc; omega
  rw [sizes_cons hkm] at hJ
  conv => whnf
  refine ⟨_, rfl, ?_⟩
  conv => whnf
  refine ⟨by omega, _, shl_nat 1 m (by omega) (by omega), ?_⟩
  conv => whnf
  rw [Nat.one_mul]
  refine loop_by (I := fun q s => ∃ (j : Nat) (h : Heap), j ≤ 2 ^ m ∧ q = 2 ^ m - j ∧ n0 ≤ h.n ∧ J (oneL (setsOf m k j ++ sizesFrom m (k + 1))) h ∧
    Has s 27 [(0, .yield id), (1, .c (.cptr [I m] 0)), (3, .c (I k)), (6, .c (I ((m + 1 : Nat) : Int))), (7, .c (I k)), (11, .c (I ((2 ^ m : Nat) : Int))), (12, .c (I j))] [] none h) ?_ (k := 2 ^ m)
    ⟨0, _, Nat.zero_le _, rfl, hn, hJ, rfl, ⟨rfl, rfl, rfl, rfl, rfl, rfl, rfl, trivial⟩, rfl, rfl, rfl, rfl⟩
  rintro q s ⟨j, h1, hj, rfl, hn1, hJ1, hs1⟩
  refine hs1.run (hm := false) ?_
  conv => whnf
  cases hc1 : decide ((j : Int) < ((2 ^ m : Nat) : Int))
  · have hj2 : 2 ^ m ≤ j := by simp at hc1; exact_mod_cast hc1
    rw [setsOf_nil hj2, List.nil_append] at hJ1
    conv => whnf
    refine ⟨((k + 1 : Nat) : Int), by rw [wrap_eq (by omega) (by omega)]; omega, ?_⟩
    conv => whnf
    exact ⟨m + 1 - (k + 1), by omega, k + 1, h1, by omega, rfl, hn1, hJ1, rfl, ⟨rfl, rfl, rfl, rfl, trivial⟩, rfl, rfl, rfl, rfl⟩
  have hj2 : j < 2 ^ m := by have := of_decide_eq_true hc1; exact_mod_cast this
  rw [setsOf_cons hj2] at hJ1
  conv => whnf
  refine .ret (many_ret (n := j) (by omega)) rfl ?_
  conv => whnf
  cases hp : ((popB j : Int) == (k : Int))
  · have hp' : (popB j == k) = false := by
      have := beq_eq_false_iff_ne.1 hp
      exact beq_eq_false_iff_ne.2 (by omega)
    rw [hp'] at hJ1
    conv => whnf
    refine ⟨((j + 1 : Nat) : Int), by rw [wrap_eq (by omega) (by omega)]; omega, ?_⟩
    conv => whnf
    exact ⟨2 ^ m - (j + 1), by omega, j + 1, _, by omega, rfl, hn1, hJ1, rfl, ⟨rfl, rfl, rfl, rfl, rfl, rfl, rfl, trivial⟩, rfl, rfl, rfl, rfl⟩
  · have hp' : (popB j == k) = true := by
      have := beq_iff_eq.1 hp
      exact beq_iff_eq.2 (by omega)
    rw [hp'] at hJ1
    have hJ2 : J (I (j : Nat) :: oneL (setsOf m k (j + 1) ++ sizesFrom m (k + 1))) h1 := hJ1
    conv => whnf
    refine .mk ((R.round _ _ _ hJ2 hn1).mono ?_ ?_)
    · rintro b h' ⟨hf, hk⟩
      have n' := hf.n
      have n3 : n0 ≤ h'.n := by omega
      cases b
      · conv => whnf
        exact ⟨n3, .inr hk⟩
      · conv => whnf
        refine ⟨((j + 1 : Nat) : Int), by rw [wrap_eq (by omega) (by omega)]; omega, ?_⟩
        conv => whnf
        exact ⟨2 ^ m - (j + 1), by omega, j + 1, h', by omega, rfl, n3, hk, rfl, ⟨rfl, rfl, rfl, rfl, rfl, rfl, rfl, trivial⟩, rfl, rfl, rfl, rfl⟩
    · rintro v h' ⟨hx, hn', hf⟩
      exact ⟨hn', hx⟩
end Go.Ag
/- Layer 6: what is known of a line; a bale by itself; steps. -/
namespace Go.Ag
open Go.Proofs
set_option maxRecDepth 100000

def baleAt (c : Ln) (i : Nat) : Bl := c.bales.getD i ⟨1, 0, 0⟩
def ownB (c : Ln) (s i : Nat) : Bl := if s.testBit i then baleAt c i else ⟨(baleAt c i).f, 0, 0⟩
def ownF (c : Ln) (s i : Nat) : Co := costB (ownB c s i)
theorem bale_get {c : Ln} {i : Nat} (hi : i < c.bales.length) : c.bales[i]? = some (baleAt c i) := by
  unfold baleAt; rw [List.getD_eq_getElem?_getD, List.getElem?_eq_getElem hi]; rfl
theorem bale_good {c : Ln} (hd : c.Good) {i : Nat} (hi : i < c.bales.length) : (baleAt c i).Good := hd.bl _ (List.mem_of_getElem? (bale_get hi))
theorem ownB_good {c : Ln} (hd : c.Good) {i : Nat} (hi : i < c.bales.length) (s : Nat) : (ownB c s i).Good := by
  have h := bale_good hd hi
  unfold ownB
  split
  · exact h
  · exact ⟨h.f1, h.f2, Int.le_refl 0, Int.le_trans (by omega : (0 : Int) ≤ 1) h.f1, Int.le_refl _, Int.le_refl _⟩
def stepC (c : Ln) (k : Bool) : CV := .iface (cond k 128 87) (.agg (cond k [I c.drift, I c.may] [I c.drift]))
def topN (c : Ln) (k : Bool) : Nat := cond k c.may.toNat 30
def stF (c : Ln) (k : Bool) : Nat → List Nat := stN c.drift.toNat (topN c k)
def knL (v : LV) (c : Ln) (k : Bool) (m : Nat) : List AV := [.c (.sl v.sc v.so v.sn), .c (I c.may), .c (I c.drift), .c (I c.mist), .c (stepC c k), .map m]
def knAV (v : LV) (c : Ln) (k : Bool) (m : Nat) : AV := .agg [.c (.sl v.sc v.so v.sn), .c (I c.may), .c (I c.drift), .c (I c.mist), .c (stepC c k), .map m]
def knBlk (v : LV) (c : Ln) (k : Bool) (m : Nat) : AB := .blk [.c (.sl v.sc v.so v.sn), .c (I c.may), .c (I c.drift), .c (I c.mist), .c (stepC c k), .map m]

set_option maxHeartbeats 1000000 in
theorem own_ret {v : LV} {c : Ln} (hv : v.Is c) (hd : c.Good) {i : Nat} (hi : i < c.bales.length) {s : Nat} (hs : s < 2 ^ 62) (k : Bool) (m : Nat) {D : List CV} (hD : Arr D (ownF c s i)) (h : Heap) :
    ∃ e h', CallOk Try.prog 68 [knAV v c k m, .c (I i), .c (I s)] h .no e h' .no ∧ (e = .ret (.c (.agg D)) ∧ Foot none' h h') := by
  have e1 := hv.sn; have n6 := hd.n6
  obtain ⟨Z, hZ, eZ⟩ := arrB_ex zeroCo
  have hbi := bale_get hi
  have hg := ownB_good hd hi s
  have hcost := fun {D : List CV} => costsOf_ret (D := D) hg
  have hDD : Arr D (costB (ownB c s i)) := hD
  replace hcost := hcost hDD
  unfold ownB at hcost
  generalize baleAt c i = b at hbi hcost
  refine call_by (hm := false) Try.func68 rfl ?_
  conv => whnf
  generalize hH : TMap.push AB.dead (TMap.push AB.dead h _) _ = H
  have Hn : H.n = h.n + 2 := by rw [← hH]; rfl
  have b0 : Heap.at H h.n = knBlk v c k m := by rw [← hH]; exact (at_push_lt _ _ (by simp only [push_n]; omega)).trans (at_push_self _ _)
  have b1 : Heap.at H (h.n + 1) = .blk (Z.map .c) := by rw [← hH, ← eZ]; exact (at_push_self _ _).trans (by kernel_rfl)
  have f0 : Foot none' h H := by rw [← hH]; exact ((Foot.refl _ _).push _).push _
  clear hH
  refine ⟨_, b0, ?_⟩
  conv => whnf
  refine ⟨⟨by omega, by omega⟩, ?_⟩
  conv => whnf
  refine ⟨_, hv.bale hbi, ?_⟩
  conv => whnf
  refine ⟨_, at_push_self _ _, ?_⟩
  conv => whnf
  generalize hH2 : TMap.set AB.dead (TMap.push AB.dead H _) _ _ = H2
  have H2n : H2.n = h.n + 3 := by rw [← hH2]; exact (new_n _ _ _).trans (by omega)
  have d1 : Heap.at H2 (h.n + 1) = .blk (Z.map .c) := by rw [← hH2]; exact (at_old _ _ _ (by omega)).trans b1
  have d2 : Heap.at H2 H.n = .blk [.c (I b.f), .c (I b.l), .c (I b.w)] := by rw [← hH2]; exact at_new _ _ _
  have f2 : Foot none' h H2 := by rw [← hH2]; exact Foot.set (f0.push _) (.inr (by omega)) _
  clear hH2
  refine .ret (has_ret s i (by omega) (by omega)) rfl ?_
  conv => whnf
  cases hb : s.testBit i
  · rw [hb] at hcost
    conv => whnf
    refine ⟨_, d2, ?_⟩
    conv => whnf
    refine ⟨_, d2, ?_⟩
    conv => whnf
    refine ⟨_, at_set_self _ _ (i := H.n) (by omega), ?_⟩
    conv => whnf
    refine .ret (hcost) rfl ?_
    conv => whnf
    refine ⟨_, (at_set_ne _ _ (i := h.n + 1) (k := H.n) (by omega)).trans d1, ?_⟩
    conv => whnf
    refine store_in hD.sz (hD.put hZ) ?_
    conv => whnf
    refine forceL_intro ?_
    conv => whnf
    refine ⟨_, at_set_self _ _ (i := h.n + 1) (by rw [TMap.set_n]; omega), ?_⟩
    conv => whnf
    refine look_read (hD.rd) ?_
    conv => whnf
    exact ⟨rfl, Foot.set (k := h.n + 1) (Foot.set (k := H.n) f2 (.inr (by omega)) _) (.inr (by omega)) _⟩
  · rw [hb] at hcost
    conv => whnf
    refine ⟨_, d2, ?_⟩
    conv => whnf
    refine .ret (hcost) rfl ?_
    conv => whnf
    refine ⟨_, d1, ?_⟩
    conv => whnf
    refine store_in hD.sz (hD.put hZ) ?_
    conv => whnf
    refine forceL_intro ?_
    conv => whnf
    refine ⟨_, at_set_self _ _ (i := h.n + 1) (by omega), ?_⟩
    conv => whnf
    refine look_read (hD.rd) ?_
    conv => whnf
    exact ⟨rfl, Foot.set (k := h.n + 1) f2 (.inr (by omega)) _⟩

/-! Steps from a bale to the next one. -/
def stC (c : Ln) (k : Bool) (w : Nat) : CV := ftC (w - c.drift.toNat) (min (w + c.drift.toNat) (topN c k))
theorem upTo_ret (d w t : Nat) (hd : d ≤ 30) (hw : w ≤ 30) (ht : t ≤ 30) : Ret Try.prog 119 [.agg [I d], I w, I t] (ftC (w - d) (min (w + d) t)) := by
  refine ret_by (hm := true) Try.func119 rfl ?_
  conv => whnf
  refine ⟨(w : Int) - d, by rw [wrap_eq (by omega) (by omega)], ?_⟩
  conv => whnf
  refine ⟨(w : Int) + d, by rw [wrap_eq (by omega) (by omega)], ?_⟩
  conv => whnf
  rw [show max (0 : Int) ((w : Int) - d) = ((w - d : Nat) : Int) by omega, show min ((w : Int) + d) (t : Int) = ((min (w + d) t : Nat) : Int) by omega]
  refine .ret (fromTo_ret _ _) rfl ?_
  conv => whnf
  exact .val
theorem nextD_ret (d w : Nat) (hd : d ≤ 30) (hw : w ≤ 30) : Ret Try.prog 118 [.agg [I d], I w] (ftC (w - d) (min (w + d) 30)) := by
  refine ret_by (hm := true) Try.func118 rfl ?_
  conv => whnf
  refine .ret (upTo_ret d w 30 hd hw (by omega)) rfl ?_
  conv => whnf
  exact .val
theorem nextK_ret (d t w : Nat) (hd : d ≤ 30) (hw : w ≤ 30) (ht : t ≤ 30) : Ret Try.prog 120 [.agg [I d, I t], I w] (ftC (w - d) (min (w + d) t)) := by
  refine ret_by (hm := true) Try.func120 rfl ?_
  conv => whnf
  refine .ret (upTo_ret d w t hd hw ht) rfl ?_
  conv => whnf
  exact .val
end Go.Ag
/- Layer 6: what numbers of a bale cost by those of the next one. -/
namespace Go.Ag
open Go.Proofs
set_option maxRecDepth 100000

theorem defW_colls {P : Program} {mode : Option AV} {K : Option AV → Heap → Prop} : ∀ (l : List Nat) (h : Heap), l.Nodup → (∀ i ∈ l, i < h.n ∧ Heap.at h i = .coll true) → (∀ h', Foot (fun i => i ∈ l) h h' → K mode h') → defW false P (l.map .coll) mode h K
  | [], h, _, _, k => k h (Foot.refl _ _)
  | d :: l, h, hn, hc, k => by
    rw [List.nodup_cons] at hn
    obtain ⟨h1, h2⟩ := hc d (by simp)
    refine ⟨.coll true, h2, ?_⟩
    simp only [hSet_eq]
    refine defW_colls l _ hn.2 (fun i hi => ?_) (fun h' f => k h' ?_)
    · have := hc i (List.mem_cons_of_mem _ hi)
      refine ⟨by rw [TMap.set_n]; exact this.1, ?_⟩
      rw [at_set_ne _ _ (by rintro rfl; exact hn.1 hi)]; exact this.2
    · exact Foot.trans (Foot.set (Foot.refl _ _) (.inl (by simp)) _) (f.mono fun i _ hi => List.mem_cons_of_mem _ hi)
/-- Ranges that are over. -/
structure Colls (b : Nat) (l : List Nat) (h : Heap) : Prop where
  nd : l.Nodup
  at' : ∀ i ∈ l, b ≤ i ∧ i < h.n ∧ Heap.at h i = .coll true
theorem Colls.nil (b : Nat) (h : Heap) : Colls b [] h := ⟨List.nodup_nil, by simp⟩
theorem Colls.ext {b : Nat} {l : List Nat} {h h' : Heap} (k : Colls b l h) (hn : h.n ≤ h'.n) (he : ∀ i, b ≤ i → i < h.n → Heap.at h i = .coll true → Heap.at h' i = Heap.at h i) : Colls b l h' :=
  ⟨k.nd, fun i hi => by obtain ⟨a, c, d⟩ := k.at' i hi; exact ⟨a, by omega, (he i a c d).trans d⟩⟩
theorem Colls.foot {b : Nat} {l : List Nat} {h h' : Heap} {W : Nat → Prop} (k : Colls b l h) (f : Foot W h h') (hw : ∀ i, b ≤ i → i < h.n → Heap.at h i = .coll true → ¬ W i) : Colls b l h' := k.ext f.n fun i a c d => f.keep i c (hw i a c d)
theorem Colls.cons {b : Nat} {l : List Nat} {h h' : Heap} (k : Colls b l h) (f : Foot (fun i => i < b ∨ h.n ≤ i) h h') {n : Nat} (h1 : h.n ≤ n) (h0 : b ≤ n) (h2 : n < h'.n) (hc : Heap.at h' n = .coll true) : Colls b (n :: l) h' := by
  refine ⟨List.nodup_cons.2 ⟨fun hi => by have := (k.at' n hi).2.1; omega, k.nd⟩, fun i hi => ?_⟩
  rcases List.mem_cons.1 hi with rfl | hi
  · exact ⟨h0, h2, hc⟩
  · obtain ⟨a, c, d⟩ := k.at' i hi
    exact ⟨a, by have := f.n; omega, (f.keep i c (by omega)).trans d⟩
theorem Colls.run {P : Program} {b : Nat} {l : List Nat} {h : Heap} {mode : Option AV} {K : Option AV → Heap → Prop} (k : Colls b l h) (hk : ∀ h', Foot (fun i => b ≤ i) h h' → K mode h') : defW false P (l.map .coll) mode h K :=
  defW_colls l h k.nd (fun i hi => (k.at' i hi).2) fun h' f => hk h' (f.mono fun i _ hi => (k.at' i hi).1)

theorem nextD_ln {c : Ln} (hd : c.Good) {w : Nat} (hw : w ≤ 30) : Ret Try.prog 118 [.agg [I c.drift], I w] (stC c false w) := by
  have h0 := hd.d0; have h1 := hd.d1
  have := nextD_ret c.drift.toNat w (by omega) hw
  rwa [Int.toNat_of_nonneg h0] at this
theorem nextK_ln {c : Ln} (hd : c.Good) {w : Nat} (hw : w ≤ 30) : Ret Try.prog 120 [.agg [I c.drift, I c.may], I w] (stC c true w) := by
  have h0 := hd.d0; have h1 := hd.d1; have h2 := hd.m0; have h3 := hd.m1
  have := nextK_ret c.drift.toNat c.may.toNat w (by omega) hw (by omega)
  rwa [Int.toNat_of_nonneg h0, Int.toNat_of_nonneg h2] at this
theorem stF_bound {c : Ln} (hd : c.Good) (k : Bool) (w : Nat) : ∀ o ∈ stF c k w, o < 31 := by
  have h3 := hd.m1
  intro o ho
  have := (mem_st.1 ho).2
  unfold topN at this
  cases k
  · simp at this; omega
  · simp at this; omega
theorem top_le {c : Ln} (hd : c.Good) (k : Bool) : topN c k ≤ 30 := by
  have h3 := hd.m1
  unfold topN
  cases k
  · simp
  · simp; omega
theorem st_iter {c : Ln} (hd : c.Good) (k : Bool) {w : Nat} (hw : w ≤ 30) : IterC Try.prog (stC c k w) (oneL (stF c k w)) := by
  have := top_le hd k
  exact ft_iter (lo := w - c.drift.toNat) (hi := min (w + c.drift.toNat) (topN c k)) (by omega) (by omega)
def minL (nx : Co) (l : List Nat) : Int := l.foldl (fun a o => min a (nx o)) 181
theorem minL_snoc (nx : Co) (l : List Nat) (o : Nat) : minL nx (l ++ [o]) = min (minL nx l) (nx o) := by simp [minL]
theorem updC_same (c : Co) (i : Nat) (x y : Int) : updC (updC c i x) i y = updC c i y := by
  funext j; unfold updC; by_cases h : j = i <;> simp [h]
theorem updC_at (c : Co) (i : Nat) (x : Int) : updC c i x i = x := by simp [updC]
end Go.Ag
