/- Arguments read as data, the reference's valid; the law TallyClash returns true for arguments that are not far too long. No conditions. -/
import Derived.Test.YtnmiompeofbagaaTyD
import Derived.Deep.Slices
import Derived.Deep.Strs
import Derived.Lib.SmallJoins
import Derived.WideShapes
import Derived.ChangeSame
import Derived.OpenShut
/- Layer 5: what is valid in the reference; long lists; arguments read as data. -/
namespace Go.Ag
open Go.Proofs Go.ChangeShapes Go.WideShapes Go.Deep Go.RowKit Go.ChangeShapes
set_option maxRecDepth 100000

theorem in_ret (n lo hi : Int) : Ret Try.prog 67 [I n, I lo, I hi] (B (inB' n lo hi)) := by
  refine ret_by (hm := true) Try.func67 rfl ?_
  conv => whnf
  unfold inB'
  cases h : decide (lo ≤ n)
  · conv => whnf
    exact .val
  · conv => whnf
    exact .val
theorem spanR_ret (a b low high : Int) : Ret Try.prog 68 [.agg [I a, I b], I low, I high] (B (spB a b low high)) := by
  refine ret_by (hm := true) Try.func68 rfl ?_
  conv => whnf
  unfold spB
  cases h1 : decide (low ≤ a)
  · conv => whnf
    simp only [Bool.false_and]
    exact .val
  conv => whnf
  cases h2 : decide (a ≤ b)
  · conv => whnf
    simp only [Bool.false_and, Bool.and_false]
    exact .val
  conv => whnf
  simp only [Bool.true_and]
  exact .val
theorem shearerR_ret {v : TV} {n : Int} (hv : v.n = n) (hn : inB' n 1 5 = true) (k : Int) : Ret Try.prog 99 [v.cv, I k] (B (inB' k 0 (n - 1))) := by
  rw [← hv] at hn ⊢
  simp only [inB', Bool.and_eq_true, decide_eq_true_eq] at hn
  refine ret_by (hm := true) Try.func99 rfl ?_
  conv => whnf
  refine ⟨v.n - 1, by rw [wrap_eq (by omega) (by omega)], ?_⟩
  conv => whnf
  refine .ret (in_ret _ _ _) rfl ?_
  conv => whnf
  exact .val
theorem callR_ret {v : TV} {n : Int} (hv : v.n = n) (hn : inB' n 1 5 = true) (c : Cl) : Ret Try.prog 69 [v.cv, clV c] (B (callOk n c)) := by
  refine ret_by (hm := true) Try.func69 rfl ?_
  conv => whnf
  refine .ret (spanR_ret _ _ _ _) rfl ?_
  conv => whnf
  unfold callOk
  have e0 : (c.kind == 0) = decide (c.kind = 0) := rfl
  have e1 : (c.kind == 1) = decide (c.kind = 1) := rfl
  have e2 : (c.kind == 2) = decide (c.kind = 2) := rfl
  cases hs : spB c.lo c.hi 0 300
  · conv => whnf
    cases decide (c.kind = 0) || decide (c.kind = 1)
    · simp only [Bool.and_false]; exact .val
    · simp only [Bool.and_false]; exact .val
  conv => whnf
  simp only [Bool.and_true]
  cases h0 : decide (c.kind = 0)
  · rw [h0] at e0
    rw [e0]
    conv => whnf
    cases h1 : decide (c.kind = 1)
    · rw [h1] at e1
      rw [e1]
      conv => whnf
      cases h2 : decide (c.kind = 2)
      · rw [h2] at e2
        rw [e2]
        conv => whnf
        exact .val
      · rw [h2] at e2
        rw [e2]
        conv => whnf
        exact .val
    · rw [h1] at e1
      rw [e1]
      conv => whnf
      refine .ret (shearerR_ret hv hn _) rfl ?_
      conv => whnf
      exact .val
  · rw [h0] at e0
    rw [e0]
    conv => whnf
    refine .ret (shearerR_ret hv hn _) rfl ?_
    conv => whnf
    exact .val

set_option maxHeartbeats 1000000 in
theorem tallyR_ret {v : TV} {t : Td} (hv : v.Is t) : Ret Try.prog 30 [v.cv] (B (validT t)) := by
  have e1 := hv.n; have e2 := hv.most; have e3 := hv.sn; have e4 := hv.cn; have e5 := hv.short
  have key : validT t = (inB' v.n 1 5 && (inB' v.most 0 60 && (((decide ((v.sn : Int) = v.n - 1)) && t.strays.all fun s => spB s.1 s.2 (-3) 3) && ((!decide ((v.cn : Int) > 8)) && t.calls.all (callOk t.n))))) := by
    have q : (!decide ((v.cn : Int) > 8)) = decide (t.calls.length ≤ 8) := by rw [e4]; by_cases h : t.calls.length ≤ 8 <;> simp [h] <;> omega
    rw [e1, e2, e3, q]; rfl
  rw [key]
  refine ret_by (hm := false) Try.func30 rfl ?_
  conv => whnf
  refine ⟨v.blk, rfl, ?_⟩
  conv => whnf
  refine .ret (in_ret _ _ _) rfl ?_
  conv => whnf
  cases h1 : inB' v.n 1 5
  · conv => whnf
    exact .val
  have hn : inB' t.n 1 5 = true := e1 ▸ h1
  have hn' : 1 ≤ v.n ∧ v.n ≤ 5 := by simpa [inB'] using h1
  conv => whnf
  refine ⟨v.blk, rfl, ?_⟩
  conv => whnf
  refine .ret (in_ret _ _ _) rfl ?_
  conv => whnf
  cases h2 : inB' v.most 0 60
  · conv => whnf
    exact .val
  conv => whnf
  refine ⟨v.blk, rfl, ?_⟩
  conv => whnf
  refine ⟨v.blk, rfl, ?_⟩
  conv => whnf
  refine ⟨v.n - 1, by rw [wrap_eq (by omega) (by omega)], ?_⟩
  conv => whnf
  have hne : ((v.sn : Int) != v.n - 1) = !decide ((v.sn : Int) = v.n - 1) := rfl
  rw [hne]
  cases h3 : decide ((v.sn : Int) = v.n - 1)
  · conv => whnf
    exact .val
  conv => whnf
  refine ⟨v.blk, rfl, ?_⟩
  conv => whnf
  cases h4 : decide ((v.cn : Int) > 8)
  case true =>
    conv => whnf
    simp only [Bool.not_true, Bool.false_and, Bool.and_false]
    exact .val
  conv => whnf
  simp only [Bool.true_and, Bool.not_false]
  refine loop_by (I := fun n st => ∃ (q : Nat) (h : Heap), q ≤ t.strays.length ∧ n = t.strays.length - q ∧ (t.strays.all fun s => spB s.1 s.2 (-3) 3) = ((t.strays.drop q).all fun s => spB s.1 s.2 (-3) 3) ∧ Heap.at h 0 = v.blk ∧ 0 < h.n ∧ Has st 59 [(1, .ptr 0 0), (3, .c (I q))] [] none h) ?_ (k := t.strays.length)
    ⟨0, _, Nat.zero_le _, rfl, rfl, rfl, Nat.lt_succ_self 0, rfl, ⟨rfl, rfl, trivial⟩, rfl, rfl, rfl, rfl⟩
  rintro n st ⟨q, h, hq, rfl, hall, h0, hlt, hs1⟩
  refine hs1.run (hm := false) ?_
  conv => whnf
  refine ⟨_, h0, ?_⟩
  conv => whnf
  cases hc : decide ((q : Int) < (v.sn : Int))
  case true =>
    have hq : q < t.strays.length := by simp at hc; omega
    obtain ⟨r, hr⟩ := get_some hq
    rw [drop_get hr, List.all_cons] at hall
    conv => whnf
    refine ⟨_, h0, ?_⟩
    conv => whnf
    refine ⟨⟨by omega, by omega⟩, ?_⟩
    conv => whnf
    refine ⟨_, hv.stray hr, ?_⟩
    conv => whnf
    refine .ret (spanR_ret _ _ _ _) rfl ?_
    conv => whnf
    cases h2 : spB r.1 r.2 (-3) 3
    · conv => whnf
      rw [hall, h2]
      exact .val
    · conv => whnf
      refine ⟨((q + 1 : Nat) : Int), by rw [wrap_eq (by omega) (by omega)]; omega, ?_⟩
      conv => whnf
      rw [h2, Bool.true_and] at hall
      exact ⟨t.strays.length - (q + 1), by omega, q + 1, _, by omega, rfl, hall, h0, hlt, rfl, ⟨rfl, rfl, trivial⟩, rfl, rfl, rfl, rfl⟩
  have : q = t.strays.length := by simp at hc; omega
  subst this
  rw [List.drop_length] at hall
  rw [hall]
  conv => whnf
  rw [show ([].all fun s : Int × Int => spB s.1 s.2 (-3) 3) = true from rfl, Bool.true_and]
  clear hs1 hall hc hq
  refine loop_by (I := fun n st => ∃ (q : Nat) (h : Heap), q ≤ t.calls.length ∧ n = t.calls.length - q ∧ t.calls.all (callOk t.n) = (t.calls.drop q).all (callOk t.n) ∧ Heap.at h 0 = v.blk ∧ 0 < h.n ∧ Has st 59 [(1, .ptr 0 0), (4, .c (I q))] [] none h) ?_ (k := t.calls.length)
    ⟨0, _, Nat.zero_le _, rfl, rfl, h0, hlt, rfl, ⟨rfl, rfl, trivial⟩, rfl, rfl, rfl, rfl⟩
  clear h0 hlt
  rintro n st ⟨q, h, hq, rfl, hall, h0, hlt, hs1⟩
  refine hs1.run (hm := false) ?_
  conv => whnf
  refine ⟨_, h0, ?_⟩
  conv => whnf
  cases hc : decide ((q : Int) < (v.cn : Int))
  case true =>
    have hq : q < t.calls.length := by simp at hc; omega
    obtain ⟨r, hr⟩ := get_some hq
    rw [drop_get hr, List.all_cons] at hall
    conv => whnf
    refine draw_by (hm := false) (by kernel_rfl) (by kernel_rfl) ?_
    conv => whnf
    refine ⟨_, h0, ?_⟩
    conv => whnf
    refine ⟨_, h0, ?_⟩
    conv => whnf
    refine ⟨⟨by omega, by omega⟩, ?_⟩
    conv => whnf
    refine ⟨_, hv.call hr, ?_⟩
    conv => whnf
    refine .ret (callR_ret e1 hn r) rfl ?_
    conv => whnf
    refine ⟨by kernel_rfl, ?_⟩
    cases h2 : callOk t.n r
    · conv => whnf
      rw [hall, h2]
      exact .val
    · conv => whnf
      refine ⟨((q + 1 : Nat) : Int), by rw [wrap_eq (by omega) (by omega)]; omega, ?_⟩
      conv => whnf
      rw [h2, Bool.true_and] at hall
      exact ⟨t.calls.length - (q + 1), by omega, q + 1, _, by omega, rfl, hall, h0, hlt, rfl, ⟨rfl, rfl, trivial⟩, rfl, rfl, rfl, rfl⟩
  have : q = t.calls.length := by simp at hc; omega
  subst this
  rw [List.drop_length] at hall
  rw [hall]
  conv => whnf
  exact .val

theorem long_ret (v : TV) : Ret Try.prog 29 [v.cv] (B (decide (max (v.sn : Int) (v.cn : Int) > 40))) := by
  refine ret_by (hm := true) Try.func29 rfl ?_
  conv => whnf
  exact .val

/-- The lists may be long. -/
structure TV.IsL (v : TV) (t : Td) : Prop where
  n : v.n = t.n
  most : v.most = t.most
  s : SlOf 2 (t.strays.map rowSp) v.sc v.so v.sn
  c : SlOf 4 (t.calls.map rowCl) v.cc v.co v.cn
/-- Not far too long. -/
structure TV.IsS (v : TV) (t : Td) : Prop extends v.Is t where
  far : Ret Try.prog 29 [v.cv] (B false)
theorem TV.IsL.cases {v : TV} {t : Td} (h : v.IsL t) : v.IsS t ∨ Ret Try.prog 29 [v.cv] (B true) := by
  have e1 : v.sn = t.strays.length := by rw [h.s.len]; simp
  have e2 : v.cn = t.calls.length := by rw [h.c.len]; simp
  have hl := long_ret v
  cases hc : decide (max (v.sn : Int) (v.cn : Int) > 40)
  · left
    rw [hc] at hl
    exact ⟨⟨h.n, h.most, h.s, h.c, by simp at hc; omega⟩, hl⟩
  · right
    rw [hc] at hl
    exact hl

theorem cells3 : Try.prog.cellsOf 3 = 1 := by kernel_rfl
theorem cells22 : Try.prog.cellsOf 22 = 1 := by kernel_rfl
theorem cells23 : Try.prog.cellsOf 23 = 1 := by kernel_rfl
theorem cells25 : Try.prog.cellsOf 25 = 4 := by kernel_rfl
theorem cells36 : Try.prog.cellsOf 36 = 2 := by kernel_rfl
theorem cells46 : Try.prog.cellsOf 46 = 4 := by kernel_rfl
theorem repP_ints {Φ : Nat → Option Obj} : ∀ (zs : List Int) (vs : List Value), (∀ (i : Nat) (z : Int), zs[i]? = some z → vs[i]? = some (Value.int .i64 z)) → RepP Φ (zs.map I) vs
  | [], _, _ => trivial
  | z :: zs, [], h => by have := h 0 z rfl; simp at this
  | z :: zs, v :: vs, h => by
    have h0 := h 0 z rfl
    simp only [List.getElem?_cons_zero, Option.some.injEq] at h0
    exact ⟨h0, repP_ints zs vs fun i y hy => by have := h (i + 1) y (by simpa using hy); simpa using this⟩
theorem flat_get {sz : Nat} : ∀ (rows : List (List Int)) (_ : ∀ r ∈ rows, r.length = sz) (i : Nat) (z : Int), rows.flatten[i]? = some z → ∃ q r j, rows[q]? = some r ∧ r[j]? = some z ∧ i = q * sz + j
  | [], _, i, z, h => by simp at h
  | r :: rows, hr, i, z, h => by
    have hl := hr r (by simp)
    by_cases hi : i < r.length
    · refine ⟨0, r, i, rfl, ?_, by omega⟩
      rw [List.flatten_cons, List.getElem?_append_left hi] at h
      exact h
    · rw [List.flatten_cons, List.getElem?_append_right (by omega)] at h
      obtain ⟨q, r', j, h1, h2, h3⟩ := flat_get rows (fun r hr' => hr r (by simp [hr'])) _ z h
      refine ⟨q + 1, r', j, by simpa using h1, h2, ?_⟩
      rw [Nat.add_mul]; omega

section
variable {H : Type} {enc : TypeId × Value → H} {w : World} {base : Nat} {spare : Nat → Bool} {held : Bool}
theorem one_int {n : Nat} {c : Value} {y : DataW H × List MemPlace} (h : DataW.trod enc Try.prog w base spare held n 3 [c] = some y) : ∃ z : Int, c = .int .i64 z := by
  obtain ⟨z, hz, _⟩ := DataW.trod_int Try.underlying3 h
  exact ⟨z, by simpa using hz⟩
theorem two_int {n : Nat} {cs : List Value} {y : DataW H × List MemPlace} (h : DataW.trod enc Try.prog w base spare held n 36 cs = some y) : ∃ a b : Int, cs = [.int .i64 a, .int .i64 b] := by
  obtain ⟨y0, y1, m, _, hl, h0, h1⟩ := trod_struct2 Try.underlying36 h
  dsimp only at h0 h1
  rw [cells3] at h0 h1
  match cs, hl.trans cells36 with
  | [c0, c1], _ =>
    obtain ⟨a, rfl⟩ := one_int h0
    obtain ⟨b, rfl⟩ := one_int h1
    exact ⟨a, b, rfl⟩
theorem span_int {n : Nat} {cs : List Value} {y : DataW H × List MemPlace} (h : DataW.trod enc Try.prog w base spare held n 36 cs = some y) : ∃ zs : List Int, zs.length = 2 ∧ cs = zs.map (.int .i64) := by
  obtain ⟨a, b, rfl⟩ := two_int h
  exact ⟨[a, b], rfl, rfl⟩
theorem call_int {n : Nat} {cs : List Value} {y : DataW H × List MemPlace} (h : DataW.trod enc Try.prog w base spare held n 46 cs = some y) : ∃ zs : List Int, zs.length = 4 ∧ cs = zs.map (.int .i64) := by
  obtain ⟨y0, y1, y2, m, _, hl, h0, h1, h2⟩ := trod_struct3 Try.underlying46 h
  dsimp only at h0 h1 h2
  rw [cells3] at h0 h1
  rw [cells36] at h2
  match cs, hl.trans cells46 with
  | [c0, c1, c2, c3], _ =>
    obtain ⟨a, rfl⟩ := one_int h0
    obtain ⟨b, rfl⟩ := one_int h1
    obtain ⟨c, d, e⟩ := two_int h2
    simp only [List.drop_succ_cons, List.drop_zero, List.take_succ_cons, List.take_zero, List.cons.injEq, and_true] at e
    obtain ⟨rfl, rfl⟩ := e
    exact ⟨[a, b, c, d], rfl, rfl⟩
theorem open_rows {t e : TypeId} {sz fuel : Nat} {c : Value} {x : DataW H × List MemPlace} (ht : Try.prog.underlying t = some (.slice e)) (hsz : Try.prog.cellsOf e = sz) (hpos : 0 < sz)
    (hrow : ∀ n cs (x : DataW H × List MemPlace), DataW.trod enc Try.prog w base spare held n e cs = some x → ∃ zs : List Int, zs.length = sz ∧ cs = zs.map (.int .i64))
    (h : DataW.trod enc Try.prog w base spare held fuel t [c] = some x) : ∃ rows : List (List Int), (∀ r ∈ rows, r.length = sz) ∧ RepC (allOf w) (.sl (rows.flatten.map I) 0 rows.length) c := by
  rcases open_slice ht h with ⟨h0, _⟩ | ⟨a, len, cap, m, n, D, Pl, hcs, hb, hl, hm, hmm, hx, hi⟩
  · simp only [List.cons.injEq, and_true] at h0
    subst h0
    exact ⟨[], by simp, .inl ⟨rfl, .inr rfl⟩⟩
  · simp only [List.cons.injEq, and_true] at hcs
    subst hcs
    rw [hsz] at hi
    have hlm : len ≤ m := by rw [hmm]; split <;> omega
    have hall : ∀ i, ∃ zs : List Int, i < m → zs.length = sz ∧ ∀ j z, zs[j]? = some z → w.cell? (a.add (i * sz + j)) = some (.int .i64 z) := by
      intro i
      by_cases him : i < m
      · obtain ⟨cs', hc, ht'⟩ := hi i him
        obtain ⟨_, hcl, hat⟩ := World.cells?_some hc
        obtain ⟨zs, hz, rfl⟩ := hrow _ _ _ ht'
        refine ⟨zs, fun _ => ⟨hz, fun j z hj => ?_⟩⟩
        have hjl : j < zs.length := (List.getElem?_eq_some_iff.1 hj).1
        have := hat j (by omega)
        rw [Go.Deep.add_add] at this
        rw [this, List.getElem?_map, hj]
        rfl
      · exact ⟨[], fun h => absurd h him⟩
    obtain ⟨f, hf⟩ := Classical.skolem.1 hall
    by_cases hlen : len = 0
    · subst hlen
      exact ⟨[], by simp, .inl ⟨rfl, .inl ⟨a, cap, rfl⟩⟩⟩
    · have hr : ∀ r ∈ (List.range len).map f, r.length = sz := by
        intro r hr
        obtain ⟨i, hi1, rfl⟩ := List.mem_map.1 hr
        exact (hf i (by have := List.mem_range.1 hi1; omega)).1
      refine ⟨(List.range len).map f, hr, .inr ?_⟩
      obtain ⟨b, off, spot⟩ := a
      obtain ⟨h00, h01⟩ := hf 0 (by omega)
      have hz : ∃ z, (f 0)[0]? = some z := ⟨(f 0)[0], by simp⟩
      obtain ⟨z, hz⟩ := hz
      have hc0 := h01 0 z hz
      have hspot : spot = none := by simpa [Addr.add] using World.cell?_spot hc0
      subst hspot
      have plain : ∀ n, (⟨b, off, none⟩ : Addr).add n = ⟨b, off + n, none⟩ := fun n => by unfold Addr.add; split <;> simp_all
      rw [plain] at hc0
      cases hh : w.heap[b]? with
      | none => simp [World.cell?, hh] at hc0
      | some o =>
        cases o with
        | cells cs e fr =>
          refine ⟨b, off, cap, cs, e, fr, by simp, by simpa using hl, hh, repP_ints _ _ fun i z hz => ?_⟩
          obtain ⟨q, r, j, h1, h2, rfl⟩ := flat_get _ hr i z hz
          have hq : q < len := by have := (List.getElem?_eq_some_iff.1 h1).1; simpa using this
          have hrq : r = f q := by
            simp only [List.getElem?_map, List.getElem?_range hq, Option.map_some, Option.some.injEq] at h1
            exact h1.symm
          subst hrq
          have hc := (hf q (by omega)).2 j z h2
          rw [plain] at hc
          simp only [World.cell?, hh] at hc
          simpa using hc
        | _ => simp [World.cell?, hh] at hc0


def toSp (r : List Int) : Int × Int := (r.getD 0 0, r.getD 1 0)
def toCl (r : List Int) : Cl := ⟨r.getD 0 0, r.getD 1 0, r.getD 2 0, r.getD 3 0⟩
theorem row_sp : ∀ {r : List Int}, r.length = 2 → rowSp (toSp r) = r.map I
  | [_, _], _ => rfl
theorem row_cl : ∀ {r : List Int}, r.length = 4 → rowCl (toCl r) = r.map I
  | [_, _, _, _], _ => rfl
theorem sl_rows {sz : Nat} {rows : List (List Int)} (hr : ∀ r ∈ rows, r.length = sz) {rs : List (List CV)} (he : rs = rows.map (·.map I)) : SlOf sz rs (rows.flatten.map I) 0 rows.length := by
  subst he
  refine ⟨by simp, fun i r h => ?_⟩
  have := Go.Ag.flat_sl (rows.map (·.map I)) (sz := sz) (fun r hr' => by
    obtain ⟨r0, h0, rfl⟩ := List.mem_map.1 hr'
    simpa using hr r0 h0) i r h
  rw [← List.map_flatten] at this
  exact this
theorem open_tally {r : Reach} {b0 : Nat} {v : Value} {x : DataW H} {ps : List MemPlace} (hv : Value.okWide Try.prog w r b0 25 v) (h : DataW.Trod enc Try.prog w base spare held 25 v x ps) : ∃ (tv : TV) (t : Td), tv.IsL t ∧ RepC (allOf w) tv.cv v := by
  obtain ⟨cs, rfl, hsz⟩ := okWide_struct Try.underlying25 hv
  obtain ⟨fuel, hf⟩ := h
  obtain ⟨y0, y1, y2, y3, n, _, hl, h0, h1, h2, h3⟩ := Go.Joins.trod_struct4 Try.underlying25 hf
  dsimp only at h0 h1 h2 h3
  rw [cells3] at h0 h1
  rw [cells22] at h2
  rw [cells23] at h3
  obtain ⟨l⟩ := cs
  match l, hsz.trans cells25 with
  | [c0, c1, c2, c3], _ =>
    obtain ⟨a, rfl⟩ := one_int h0
    obtain ⟨b, rfl⟩ := one_int h1
    obtain ⟨rs, hr1, hr2⟩ := open_rows (c := c2) Try.underlying22 cells36 (by decide) (fun _ _ _ h => span_int h) h2
    obtain ⟨ks, hk1, hk2⟩ := open_rows (c := c3) Try.underlying23 cells46 (by decide) (fun _ _ _ h => call_int h) h3
    have er : (rs.map toSp).map rowSp = rs.map (·.map I) := by
      rw [List.map_map]; exact List.map_congr_left fun r hr => row_sp (hr1 r hr)
    have ek : (ks.map toCl).map rowCl = ks.map (·.map I) := by
      rw [List.map_map]; exact List.map_congr_left fun r hr => row_cl (hk1 r hr)
    exact ⟨⟨a, b, rs.flatten.map I, 0, rs.length, ks.flatten.map I, 0, ks.length⟩, ⟨a, b, rs.map toSp, ks.map toCl⟩, ⟨rfl, rfl, sl_rows hr1 er, sl_rows hk1 ek⟩, ⟨_, rfl, rfl, rfl, rfl, hr2, hk2, trivial⟩⟩
theorem open_call {r : Reach} {b0 : Nat} {v : Value} {x : DataW H} {ps : List MemPlace} (hv : Value.okWide Try.prog w r b0 46 v) (h : DataW.Trod enc Try.prog w base spare held 46 v x ps) : ∃ c : Cl, v = .agg #[.int .i64 c.kind, .int .i64 c.pos, .int .i64 c.lo, .int .i64 c.hi] := by
  obtain ⟨cs, rfl, hsz⟩ := okWide_struct Try.underlying46 hv
  obtain ⟨fuel, hf⟩ := h
  obtain ⟨l⟩ := cs
  obtain ⟨zs, hz, he⟩ := call_int hf
  match zs, hz with
  | [a, b, c, d], _ =>
    have : l = [.int .i64 a, .int .i64 b, .int .i64 c, .int .i64 d] := he
    subst this
    exact ⟨⟨a, b, c, d⟩, rfl⟩
theorem rep_call (w : World) (c : Cl) : RepC (allOf w) (clV c) (.agg #[.int .i64 c.kind, .int .i64 c.pos, .int .i64 c.lo, .int .i64 c.hi]) := ⟨_, rfl, rfl, rfl, rfl, rfl, rfl, trivial⟩
end
theorem law_u8 {n : Int} (hn : (Lit.int .u8 n).wf = true) : ∃ w : Nat, n = w ∧ w < 256 := by
  have h2 : 0 ≤ n ∧ n < 256 := by
    have m0 : IntKind.u8.min = 0 := by decide
    have m1 : IntKind.u8.max = 255 := by decide
    simp [Lit.wf] at hn
    omega
  exact ⟨n.toNat, by omega, by omega⟩
end Go.Ag
/- Layer 5: tallies without some calls. -/
namespace Go.Ag
open Go.Proofs
set_option maxRecDepth 100000

/-- These calls alone. -/
def selF (f : Nat → Bool) : List Cl → Nat → List Cl
  | [], _ => []
  | a :: l, i => if f i then a :: selF f l (i + 1) else selF f l (i + 1)
theorem selF_len (f : Nat → Bool) : ∀ (l : List Cl) (i : Nat), (selF f l i).length ≤ l.length
  | [], _ => Nat.le_refl _
  | a :: l, i => by
    have := selF_len f l (i + 1)
    unfold selF
    split <;> simp <;> omega
theorem selF_mem (f : Nat → Bool) : ∀ (l : List Cl) (i : Nat) (x : Cl), x ∈ selF f l i → x ∈ l
  | [], _, _, h => h
  | a :: l, i, x, h => by
    unfold selF at h
    split at h
    · rcases List.mem_cons.1 h with rfl | h
      · simp
      · exact List.mem_cons_of_mem _ (selF_mem f l (i + 1) x h)
    · exact List.mem_cons_of_mem _ (selF_mem f l (i + 1) x h)
theorem selF_snoc (f : Nat → Bool) (x : Cl) : ∀ (l : List Cl) (i : Nat), selF f (l ++ [x]) i = selF f l i ++ (if f (i + l.length) then [x] else [])
  | [], i => by simp only [List.nil_append, selF, List.length_nil, Nat.add_zero]
  | a :: l, i => by
    simp only [List.cons_append, selF]
    rw [selF_snoc f x l (i + 1), show i + 1 + l.length = i + (a :: l).length by simp; omega]
    split <;> rfl
theorem selF_congr {f g : Nat → Bool} : ∀ (l : List Cl) (i : Nat), (∀ k, i ≤ k → k < i + l.length → f k = g k) → selF f l i = selF g l i
  | [], _, _ => rfl
  | a :: l, i, h => by
    unfold selF
    rw [h i (Nat.le_refl _) (by simp), selF_congr l (i + 1) fun k h1 h2 => h k (by omega) (by simp; omega)]
theorem take_snoc' {L : List Cl} {q : Nat} {x : Cl} (h : L[q]? = some x) : L.take (q + 1) = L.take q ++ [x] := by rw [List.take_add_one, h]; rfl
def selT (t : Td) (f : Nat → Bool) : Td := { t with calls := selF f t.calls 0 }
theorem selT_ok {t : Td} (hd : validT t = true) (f : Nat → Bool) : validT (selT t f) = true := by
  have hl := selF_len f t.calls 0
  simp only [validT, selT, Bool.and_eq_true, decide_eq_true_eq, List.all_eq_true] at hd ⊢
  exact ⟨hd.1, hd.2.1, ⟨decide_eq_true hd.2.2.1.1, hd.2.2.1.2⟩, decide_eq_true (Nat.le_trans hl hd.2.2.2.1), fun c hc => hd.2.2.2.2 c (selF_mem f _ _ c hc)⟩
theorem callsP_sel (n : Int) (set : Nat) : ∀ (l : List Cl) (k : Nat), callsP n set k l = (selF (fun i => set.testBit i) l k).map (callP n)
  | [], _ => rfl
  | c :: l, k => by
    unfold callsP selF
    rw [callsP_sel n set l (k + 1)]
    split <;> simp
theorem selF_all (f : Nat → Bool) : ∀ (l : List Cl) (k : Nat), (∀ i, k ≤ i → i < k + l.length → f i = true) → selF f l k = l
  | [], _, _ => rfl
  | c :: l, k, h => by
    unfold selF
    rw [h k (Nat.le_refl _) (by simp), selF_all f l (k + 1) fun i h1 h2 => h i (by omega) (by simp; omega)]
    simp
theorem bit_all {n i : Nat} : (2 ^ n - 1).testBit i = decide (i < n) := by rw [Nat.testBit_two_pow_sub_one]
theorem allN_bit (t : Td) (i : Nat) : (allN t).testBit i = decide (i < t.calls.length) := bit_all
/-- What is known with these calls alone. -/
theorem lookF_sel (t : Td) (f : Nat → Bool) (set : Nat) (h : ∀ i, i < t.calls.length → f i = set.testBit i) : lookF (selT t f) (allN (selT t f)) = lookF t set := by
  have e1 : prsOf (selT t f) (allN (selT t f)) = prsOf t set := by
    have e2 : callsP t.n (allN (selT t f)) 0 (selF f t.calls 0) = callsP t.n set 0 t.calls := by
      rw [callsP_sel, callsP_sel, selF_all _ _ _ (fun i _ h2 => by rw [allN_bit]; exact decide_eq_true (by rw [Nat.zero_add] at h2; exact h2)), selF_congr (g := fun i => set.testBit i) _ _ fun k _ h2 => h k (by omega)]
    show (List.range (t.n.toNat + 1)).map (strayedP (selT t f)) ++ ((List.range t.n.toNat).flatMap (fun k => [portP k 0 t.most, penP k 0 300]) ++ callsP t.n (allN (selT t f)) 0 (selF f t.calls 0)) = _
    rw [e2]; rfl
  unfold lookF
  rw [e1]
theorem pop_all : ∀ m, m ≤ 8 → popB (2 ^ m - 1) ≤ m := by decide +kernel
theorem clash_some {t : Td} (hd : validT t = true) (h : canB (lookF t (allN t)) = false) : ∃ y, clashS t = some y := by
  have h5 := valid_nums hd
  cases hc : clashS t with
  | some y => exact ⟨y, rfl⟩
  | none =>
    have hm : allN t ∈ bySize t.calls.length := mem_bySize.2 ⟨by unfold allN; have := Nat.one_le_two_pow (n := t.calls.length); omega, pop_all _ h5.2.2.2.2.2⟩
    have := List.find?_eq_none.1 hc _ hm
    rw [h] at this
    simp at this
theorem clashR_err {t : Td} (hd : validT t = true) : ((clashR t).2 == 4) = canB (lookF t (allN t)) := by
  unfold clashR
  rw [hd]
  cases hc : canB (lookF t (allN t))
  · obtain ⟨y, hy⟩ := clash_some hd hc
    rw [hy]; rfl
  · rfl
theorem spanR_err {t : Td} (hd : validT t = true) (f g : Nat) : ((spanR t true f g).2 == 10) = !canB (lookF t (allN t)) := by
  unfold spanR
  rw [hd]
  cases lookF t (allN t) <;> rfl
theorem bit_nat0 (s n : Nat) : (((s >>> n &&& 1 : Nat) : Int) == 0) = !s.testBit n := by
  rw [← bit_nat]
  have : s >>> n &&& 1 = 0 ∨ s >>> n &&& 1 = 1 := by have := Nat.and_le_right (n := s >>> n) (m := 1); omega
  rcases this with h | h <;> rw [h] <;> rfl
theorem snap_t1 {H : Nat → AB} {o n : Nat} {cs : List CV} (hb : H o = .blk (cs.map .c)) (a0 a1 a2 : CV) (rest : List CV) :
    snaps H (cs.length + rest.length + 40) (.agg [.c a0, .c a1, .c a2, .msl o 4 0 n n] :: rest.map .c) = some (.agg [a0, a1, a2, .sl cs 0 n] :: rest, [o]) := by
  have hr : ∀ k, rest.length + 1 < k → snaps H k (rest.map .c) = some (rest, []) := fun k hk => snaps_map_c H rest k hk
  simp only [snap, snaps, Option.bind_some, Option.map_some, hb]
  rw [snaps_map_c H cs _ (by omega), hr _ (by omega)]
  rfl
theorem CV.Le.agg {l m : List CV} (h : Les l m) : (CV.agg l).Le (.agg m) := fun Φ v hv => by
  obtain ⟨cs, h1, h2, h3⟩ := hv
  exact ⟨cs, h1, by rw [← les_len h]; exact h2, les_rep h h3⟩
def tBlk (v : TV) (out : AV) : AB := .blk [.c (I v.n), .c (I v.most), .c (.sl v.sc v.so v.sn), out]

set_option maxHeartbeats 2000000 in
theorem omitted_ret {v : TV} {t : Td} (hv : v.Is t) (hd : validT t = true) {set : Nat} (hs : set < 2 ^ 62) : Ret Try.prog 37 [I set, tP v] (B (canL t set)) := by
  have e1 := hv.cn; have e2 := hv.short
  have h5 := valid_nums hd
  obtain ⟨f, hf⟩ : ∃ f : Nat → Bool, f = fun i => !set.testBit i := ⟨_, rfl⟩
  refine ret_by (hm := false) Try.func37 rfl ?_
  conv => whnf
  refine ⟨_, rfl, ?_⟩
  conv => whnf
  refine ⟨_, at_push_self _ _, ?_⟩
  conv => whnf
  refine ⟨_, at_new _ _ _, ?_⟩
  conv => whnf
  refine ⟨_, rfl, ?_⟩
  conv => whnf
  refine loop_by (I := fun n st => ∃ (q : Nat) (h : Heap) (out : AV), q ≤ t.calls.length ∧ n = t.calls.length - q ∧ Heap.at h 0 = tBlk v out ∧ 0 < h.n ∧ RowsL 4 h out ((selF f (t.calls.take q) 0).map rowCl) ∧ (∀ o, outId out = some o → 0 < o) ∧
    Has st 38 [(0, .c (I set)), (1, .c (tP v)), (4, .ptr 0 0), (12, .c (.sl v.cc v.co v.cn)), (13, .c (I v.cn)), (14, .c (I q))] [] none h) ?_ (k := t.calls.length)
    ⟨0, _, nilA, Nat.zero_le _, rfl, rfl, Nat.lt_succ_self 0, .inl ⟨rfl, rfl⟩, by simp [outId], rfl, ⟨rfl, rfl, rfl, rfl, rfl, rfl, trivial⟩, rfl, rfl, rfl, rfl⟩
  rintro n st ⟨q, h, out, hq, rfl, h0, hn, hR, hout, hs1⟩
  refine hs1.run (hm := false) ?_
  conv => whnf
  cases hc : decide ((q : Int) < (v.cn : Int))
  case true =>
    have hq : q < t.calls.length := by simp at hc; omega
    obtain ⟨r, hr⟩ := get_some hq
    have hsn : selF f (t.calls.take (q + 1)) 0 = selF f (t.calls.take q) 0 ++ (if f q then [r] else []) := by
      rw [take_snoc' hr, selF_snoc, List.length_take, Nat.zero_add, Nat.min_eq_left (by omega)]
    have hlen : (selF f (t.calls.take q) 0).length ≤ 8 := Nat.le_trans (selF_len f _ 0) (by rw [List.length_take]; omega)
    have hrl : ∀ r ∈ (selF f (t.calls.take q) 0).map rowCl, r.length = 4 := rowCl_len _
    have hlim : ((selF f (t.calls.take q) 0).map rowCl).length + 1 ≤ limit := by rw [List.length_map]; unfold limit; omega
    have R1 := fun (y z : AB) => hR.ext (h' := (h.push .dead y).set .dead h.n z) (by rw [new_n]; omega) (fun i hi _ => at_old _ _ _ hi)
    conv => whnf
    refine ⟨⟨by omega, by omega⟩, ?_⟩
    conv => whnf
    refine ⟨_, hv.call hr, ?_⟩
    conv => whnf
    refine ⟨_, at_push_self _ _, ?_⟩
    conv => whnf
    refine ⟨by omega, _, shr_nat set q (by omega), ?_⟩
    conv => whnf
    refine ⟨_, and_nat (b := 1) (Nat.lt_of_le_of_lt (Nat.shiftRight_le set q) (by omega)) (by omega), ?_⟩
    conv => whnf
    rw [bit_nat0]
    have hfq : f q = !set.testBit q := by rw [hf]
    rw [← hfq]
    cases hb : f q
    · rw [hb] at hsn
      simp only [Bool.false_eq_true, if_false, List.append_nil] at hsn
      conv => whnf
      refine ⟨((q + 1 : Nat) : Int), by rw [wrap_eq (by omega) (by omega)]; omega, ?_⟩
      conv => whnf
      exact ⟨t.calls.length - (q + 1), by omega, q + 1, _, out, by omega, rfl, (at_old _ _ _ hn).trans h0, by rw [new_n]; omega, by rw [hsn]; exact R1 _ _, hout, rfl, ⟨rfl, rfl, rfl, rfl, rfl, rfl, trivial⟩, rfl, rfl, rfl, rfl⟩
    · rw [hb] at hsn
      simp only [if_true] at hsn
      rcases hR.shape with rfl | ⟨o, m, rfl⟩
      all_goals
        conv => whnf
        refine ⟨_, (at_old _ _ _ hn).trans h0, ?_⟩
        conv => whnf
        refine ⟨_, at_new _ _ _, ?_⟩
        conv => whnf
        obtain ⟨rr, hrr, hR', hold, hn', hfresh⟩ := rows_append (row := rowCl r) (t := 23) (u := 23) (R1 (.blk [AV.lit (.int .i64 0), AV.lit (.int .i64 0), AV.lit (.int .i64 0), AV.lit (.int .i64 0)]) (.blk [.c (I r.kind), .c (I r.pos), .c (I r.lo), .c (I r.hi)])) U23 U23 rfl S46 rfl hrl rfl hlim
        obtain ⟨rv, rreads, rupds, rfresh⟩ := rr
        have h0' := (hold 0 (by rw [new_n]; omega) (fun e => absurd (hout _ e) (by omega))).trans ((at_old _ _ _ hn).trans h0)
        have hne0 : outId rv ≠ some 0 := fun e => absurd (hfresh _ e) (by rw [new_n]; omega)
        have hR2 := hR'.set (k := 0) hne0 (tBlk v rv)
        rcases hR' with ⟨_, hh⟩ | ⟨o', ho', hb', hlt', hne'⟩
        · exact absurd hh (by simp)
        simp only at ho'
        subst ho'
        refine ⟨_, hrr, ?_⟩
        conv => whnf
        refine ⟨_, h0', ?_⟩
        conv => whnf
        refine ⟨((q + 1 : Nat) : Int), by rw [wrap_eq (by omega) (by omega)]; omega, ?_⟩
        conv => whnf
        rw [new_n] at hn'
        refine ⟨t.calls.length - (q + 1), by omega, q + 1, _, _, by omega, rfl, at_set_self _ _ (i := 0) (Nat.lt_of_lt_of_le (by omega) hn'), by rw [TMap.set_n]; exact Nat.lt_of_lt_of_le (by omega) hn', ?_, fun o2 ho2 => ?_, rfl, ⟨rfl, rfl, rfl, rfl, rfl, rfl, trivial⟩, rfl, rfl, rfl, rfl⟩
        · rw [hsn, List.map_append]
          exact hR2
        · have := hfresh o2 ho2
          rw [new_n] at this
          omega
  have hql : q = t.calls.length := by simp at hc; omega
  subst hql
  rw [List.take_length] at hR
  have hlen : (selF f t.calls 0).length ≤ 8 := Nat.le_trans (selF_len f t.calls 0) (by omega)
  have hVd := selT_ok hd f
  have hiv : (callsV v (selF f t.calls 0)).Is (selT t f) := callsV_is hv (by omega)
  have hlook : lookF (selT t f) (allN (selT t f)) = lookF t (diffN (allN t) set) := lookF_sel t f (diffN (allN t) set) (fun i hi => by rw [hf]; rw [diffN_bit, allN_bit, decide_eq_true hi, Bool.true_and])
  have ht := clash_ret hiv
  have hcode := clashR_err hVd
  rw [hlook] at hcode
  obtain ⟨X, hX⟩ : ∃ X, X = clashR (selT t f) := ⟨_, rfl⟩
  rw [← hX] at hcode ht
  obtain ⟨xa, xc⟩ := X
  dsimp only at hcode
  dsimp only [pairV] at ht
  clear hX
  unfold canL
  rcases hR with ⟨rfl, hd0⟩ | ⟨o, rfl, hb, hlt, hne'⟩
  · have hon : selF f t.calls 0 = [] := by simpa using hd0
    rw [hon] at ht
    conv => whnf
    refine ⟨_, h0, ?_⟩
    conv => whnf
    have ht' : Ret Try.prog 17 [.agg [I v.n, I v.most, .sl v.sc v.so v.sn, nilC]] (.tuple [I xa, I xc]) := ht.args ⟨.agg ⟨.refl _, .refl _, .refl _, .nil _ _, trivial⟩, trivial⟩
    refine .ret ht' rfl ?_
    conv => whnf
    rw [hcode]
    exact .val
  · conv => whnf
    refine ⟨_, h0, ?_⟩
    conv => whnf
    rw [List.length_map] at *
    refine .snapped _ _ [o] _ _ (snap_t1 hb _ _ _ []) ht rfl ?_
    have hk : killed (CV.tuple [I xa, I xc]) [o] = [] := by unfold killed; exact if_pos rfl
    rw [hk]
    conv => whnf
    rw [hcode]
    exact .val

set_option maxHeartbeats 2000000 in
theorem alone_ret {v : TV} {t : Td} (hv : v.Is t) (hd : validT t = true) {set : Nat} (hs : set < 2 ^ 62) : Ret Try.prog 38 [I set, tP v] (B (!canB (lookF t set))) := by
  have e1 := hv.cn; have e2 := hv.short
  have h5 := valid_nums hd
  obtain ⟨f, hf⟩ : ∃ f : Nat → Bool, f = fun i => set.testBit i := ⟨_, rfl⟩
  refine ret_by (hm := false) Try.func38 rfl ?_
  conv => whnf
  refine ⟨_, rfl, ?_⟩
  conv => whnf
  refine ⟨_, at_push_self _ _, ?_⟩
  conv => whnf
  refine ⟨_, at_new _ _ _, ?_⟩
  conv => whnf
  refine ⟨_, rfl, ?_⟩
  conv => whnf
  refine loop_by (I := fun n st => ∃ (q : Nat) (h : Heap) (out : AV), q ≤ t.calls.length ∧ n = t.calls.length - q ∧ Heap.at h 0 = tBlk v out ∧ 0 < h.n ∧ RowsL 4 h out ((selF f (t.calls.take q) 0).map rowCl) ∧ (∀ o, outId out = some o → 0 < o) ∧
    Has st 38 [(0, .c (I set)), (1, .c (tP v)), (4, .ptr 0 0), (12, .c (.sl v.cc v.co v.cn)), (13, .c (I v.cn)), (14, .c (I q))] [] none h) ?_ (k := t.calls.length)
    ⟨0, _, nilA, Nat.zero_le _, rfl, rfl, Nat.lt_succ_self 0, .inl ⟨rfl, rfl⟩, by simp [outId], rfl, ⟨rfl, rfl, rfl, rfl, rfl, rfl, trivial⟩, rfl, rfl, rfl, rfl⟩
  rintro n st ⟨q, h, out, hq, rfl, h0, hn, hR, hout, hs1⟩
  refine hs1.run (hm := false) ?_
  conv => whnf
  cases hc : decide ((q : Int) < (v.cn : Int))
  case true =>
    have hq : q < t.calls.length := by simp at hc; omega
    obtain ⟨r, hr⟩ := get_some hq
    have hsn : selF f (t.calls.take (q + 1)) 0 = selF f (t.calls.take q) 0 ++ (if f q then [r] else []) := by
      rw [take_snoc' hr, selF_snoc, List.length_take, Nat.zero_add, Nat.min_eq_left (by omega)]
    have hlen : (selF f (t.calls.take q) 0).length ≤ 8 := Nat.le_trans (selF_len f _ 0) (by rw [List.length_take]; omega)
    have hrl : ∀ r ∈ (selF f (t.calls.take q) 0).map rowCl, r.length = 4 := rowCl_len _
    have hlim : ((selF f (t.calls.take q) 0).map rowCl).length + 1 ≤ limit := by rw [List.length_map]; unfold limit; omega
    have R1 := fun (y z : AB) => hR.ext (h' := (h.push .dead y).set .dead h.n z) (by rw [new_n]; omega) (fun i hi _ => at_old _ _ _ hi)
    conv => whnf
    refine ⟨⟨by omega, by omega⟩, ?_⟩
    conv => whnf
    refine ⟨_, hv.call hr, ?_⟩
    conv => whnf
    refine ⟨_, at_push_self _ _, ?_⟩
    conv => whnf
    refine ⟨by omega, _, shr_nat set q (by omega), ?_⟩
    conv => whnf
    refine ⟨_, and_nat (b := 1) (Nat.lt_of_le_of_lt (Nat.shiftRight_le set q) (by omega)) (by omega), ?_⟩
    conv => whnf
    rw [bit_nat]
    have hfq : f q = set.testBit q := by rw [hf]
    rw [← hfq]
    cases hb : f q
    · rw [hb] at hsn
      simp only [Bool.false_eq_true, if_false, List.append_nil] at hsn
      conv => whnf
      refine ⟨((q + 1 : Nat) : Int), by rw [wrap_eq (by omega) (by omega)]; omega, ?_⟩
      conv => whnf
      exact ⟨t.calls.length - (q + 1), by omega, q + 1, _, out, by omega, rfl, (at_old _ _ _ hn).trans h0, by rw [new_n]; omega, by rw [hsn]; exact R1 _ _, hout, rfl, ⟨rfl, rfl, rfl, rfl, rfl, rfl, trivial⟩, rfl, rfl, rfl, rfl⟩
    · rw [hb] at hsn
      simp only [if_true] at hsn
      rcases hR.shape with rfl | ⟨o, m, rfl⟩
      all_goals
        conv => whnf
        refine ⟨_, (at_old _ _ _ hn).trans h0, ?_⟩
        conv => whnf
        refine ⟨_, at_new _ _ _, ?_⟩
        conv => whnf
        obtain ⟨rr, hrr, hR', hold, hn', hfresh⟩ := rows_append (row := rowCl r) (t := 23) (u := 23) (R1 (.blk [AV.lit (.int .i64 0), AV.lit (.int .i64 0), AV.lit (.int .i64 0), AV.lit (.int .i64 0)]) (.blk [.c (I r.kind), .c (I r.pos), .c (I r.lo), .c (I r.hi)])) U23 U23 rfl S46 rfl hrl rfl hlim
        obtain ⟨rv, rreads, rupds, rfresh⟩ := rr
        have h0' := (hold 0 (by rw [new_n]; omega) (fun e => absurd (hout _ e) (by omega))).trans ((at_old _ _ _ hn).trans h0)
        have hne0 : outId rv ≠ some 0 := fun e => absurd (hfresh _ e) (by rw [new_n]; omega)
        have hR2 := hR'.set (k := 0) hne0 (tBlk v rv)
        rcases hR' with ⟨_, hh⟩ | ⟨o', ho', hb', hlt', hne'⟩
        · exact absurd hh (by simp)
        simp only at ho'
        subst ho'
        refine ⟨_, hrr, ?_⟩
        conv => whnf
        refine ⟨_, h0', ?_⟩
        conv => whnf
        refine ⟨((q + 1 : Nat) : Int), by rw [wrap_eq (by omega) (by omega)]; omega, ?_⟩
        conv => whnf
        rw [new_n] at hn'
        refine ⟨t.calls.length - (q + 1), by omega, q + 1, _, _, by omega, rfl, at_set_self _ _ (i := 0) (Nat.lt_of_lt_of_le (by omega) hn'), by rw [TMap.set_n]; exact Nat.lt_of_lt_of_le (by omega) hn', ?_, fun o2 ho2 => ?_, rfl, ⟨rfl, rfl, rfl, rfl, rfl, rfl, trivial⟩, rfl, rfl, rfl, rfl⟩
        · rw [hsn, List.map_append]
          exact hR2
        · have := hfresh o2 ho2
          rw [new_n] at this
          omega
  have hql : q = t.calls.length := by simp at hc; omega
  subst hql
  rw [List.take_length] at hR
  have hlen : (selF f t.calls 0).length ≤ 8 := Nat.le_trans (selF_len f t.calls 0) (by omega)
  have hVd := selT_ok hd f
  have hiv : (callsV v (selF f t.calls 0)).Is (selT t f) := callsV_is hv (by omega)
  have hlook : lookF (selT t f) (allN (selT t f)) = lookF t (set) := lookF_sel t f (set) (fun i hi => by rw [hf]; )
  have ht : Ret Try.prog 22 [(callsV v (selF f t.calls 0)).cv, I 0] (spRV (spanR (selT t f) true 0 1)) := by
    have h := shorn_ret hiv 0
    have e : inB' 0 0 ((selT t f).n - 1) = true := by
      have : (selT t f).n = t.n := rfl
      rw [this]; simp [inB']; omega
    rw [e] at h
    exact h
  have hcode := spanR_err hVd 0 1
  rw [hlook] at hcode
  obtain ⟨X, hX⟩ : ∃ X, X = spanR (selT t f) true 0 1 := ⟨_, rfl⟩
  rw [← hX] at hcode ht
  obtain ⟨⟨xa, xb⟩, xc⟩ := X
  dsimp only at hcode
  dsimp only [spRV, spV] at ht
  clear hX
  rcases hR with ⟨rfl, hd0⟩ | ⟨o, rfl, hb, hlt, hne'⟩
  · have hon : selF f t.calls 0 = [] := by simpa using hd0
    rw [hon] at ht
    conv => whnf
    refine ⟨_, h0, ?_⟩
    conv => whnf
    have ht' : Ret Try.prog 22 [.agg [I v.n, I v.most, .sl v.sc v.so v.sn, nilC], I 0] (.tuple [.agg [I xa, I xb], I xc]) := ht.args ⟨.agg ⟨.refl _, .refl _, .refl _, .nil _ _, trivial⟩, .refl _, trivial⟩
    refine .ret ht' rfl ?_
    conv => whnf
    refine ⟨_, at_push_self _ _, ?_⟩
    conv => whnf
    rw [hcode]
    exact .val
  · conv => whnf
    refine ⟨_, h0, ?_⟩
    conv => whnf
    rw [List.length_map] at *
    refine .snapped _ _ [o] _ _ (snap_t1 hb _ _ _ [I 0]) ht rfl ?_
    have hk : killed (CV.tuple [.agg [I xa, I xb], I xc]) [o] = [] := by unfold killed; exact if_pos rfl
    rw [hk]
    conv => whnf
    refine ⟨_, at_push_self _ _, ?_⟩
    conv => whnf
    rw [hcode]
    exact .val
end Go.Ag
/- Layer 5: sets by their size; values that are compared. -/
namespace Go.Ag
open Go.Proofs
set_option maxRecDepth 100000

def Less (a b : Nat) : Prop := popB a < popB b ∨ (popB a = popB b ∧ a < b)
instance (a b : Nat) : Decidable (Less a b) := by unfold Less; infer_instance
/-- Is it so of each one and the next? -/
def chain : List Nat → Bool
  | [] => true
  | [_] => true
  | a :: b :: l => decide (Less a b) && chain (b :: l)
theorem less_trans {a b c : Nat} (h1 : Less a b) (h2 : Less b c) : Less a c := by unfold Less at *; omega
theorem chain_pair : ∀ {l : List Nat}, chain l = true → l.Pairwise Less
  | [], _ => .nil
  | [a], _ => by simp
  | a :: b :: l, h => by
    simp only [chain, Bool.and_eq_true, decide_eq_true_eq] at h
    have ih := chain_pair h.2
    rw [List.pairwise_cons]
    refine ⟨fun x hx => ?_, ih⟩
    rcases List.mem_cons.1 hx with rfl | hx
    · exact h.1
    · exact less_trans h.1 ((List.pairwise_cons.1 ih).1 x hx)
theorem chained : ∀ m, m ≤ 8 → chain (bySize m) = true := by decide +kernel
theorem sorted {m : Nat} (h : m ≤ 8) : (bySize m).Pairwise Less := chain_pair (chained m h)
theorem pop_small : ∀ m, m ≤ 8 → ∀ s, s < 2 ^ m → popB s ≤ m := by decide +kernel
theorem first_least {m s : Nat} {q : Nat → Bool} (hm : m ≤ 8) (h : (bySize m).find? q = some s) : q s = true ∧ s < 2 ^ m ∧ ∀ t, t < 2 ^ m → q t = true → t = s ∨ Less s t := by
  have hs := List.find?_some h
  have hmem := List.mem_of_find?_eq_some h
  refine ⟨hs, (mem_bySize.1 hmem).1, fun t ht hq => ?_⟩
  obtain ⟨_, l1, l2, e, has⟩ := List.find?_eq_some_iff_append.1 h
  have hp := sorted hm
  rw [e, List.pairwise_append] at hp
  have htm : t ∈ bySize m := mem_bySize.2 ⟨ht, pop_small m hm t ht⟩
  rw [e] at htm
  rcases List.mem_append.1 htm with h1 | h1
  · have := has t h1
    rw [hq] at this
    simp at this
  · rcases List.mem_cons.1 h1 with h2 | h2
    · exact .inl h2
    · rw [List.pairwise_cons] at hp
      exact .inr (hp.2.1.1 t h2)
theorem first_none {m : Nat} {q : Nat → Bool} (hm : m ≤ 8) (h : (bySize m).find? q = none) {t : Nat} (ht : t < 2 ^ m) : q t = false := by
  have := List.find?_eq_none.1 h t (mem_bySize.2 ⟨ht, pop_small m hm t ht⟩)
  simpa using this
theorem pop_drop : ∀ s, s < 256 → ∀ p, p < 8 → s.testBit p = true → popB (diffN s (2 ^ p)) < popB s := by decide +kernel
theorem pop_zero : ∀ s, s < 256 → popB s = 0 → s = 0 := by decide +kernel
theorem pop_one : ∀ s, s < 256 → popB s = 1 → ∀ p, p < 8 → s.testBit p = true → s = 2 ^ p := by decide +kernel

/-! The reference's size of a set. -/
def sizeE (n c : Nat) : Known := ⟨36, [I n], I c⟩
theorem sizeA0 : ((List.range 16).all fun n => tells cfg0 2000 (sizeE (0 + n) (popB (0 + n)))) = true := by kernel_rfl
theorem sizeA1 : ((List.range 16).all fun n => tells cfg0 2000 (sizeE (16 + n) (popB (16 + n)))) = true := by kernel_rfl
theorem sizeA2 : ((List.range 16).all fun n => tells cfg0 2000 (sizeE (32 + n) (popB (32 + n)))) = true := by kernel_rfl
theorem sizeA3 : ((List.range 16).all fun n => tells cfg0 2000 (sizeE (48 + n) (popB (48 + n)))) = true := by kernel_rfl
theorem sizeA4 : ((List.range 16).all fun n => tells cfg0 2000 (sizeE (64 + n) (popB (64 + n)))) = true := by kernel_rfl
theorem sizeA5 : ((List.range 16).all fun n => tells cfg0 2000 (sizeE (80 + n) (popB (80 + n)))) = true := by kernel_rfl
theorem sizeA6 : ((List.range 16).all fun n => tells cfg0 2000 (sizeE (96 + n) (popB (96 + n)))) = true := by kernel_rfl
theorem sizeA7 : ((List.range 16).all fun n => tells cfg0 2000 (sizeE (112 + n) (popB (112 + n)))) = true := by kernel_rfl
theorem sizeA8 : ((List.range 16).all fun n => tells cfg0 2000 (sizeE (128 + n) (popB (128 + n)))) = true := by kernel_rfl
theorem sizeA9 : ((List.range 16).all fun n => tells cfg0 2000 (sizeE (144 + n) (popB (144 + n)))) = true := by kernel_rfl
theorem sizeA10 : ((List.range 16).all fun n => tells cfg0 2000 (sizeE (160 + n) (popB (160 + n)))) = true := by kernel_rfl
theorem sizeA11 : ((List.range 16).all fun n => tells cfg0 2000 (sizeE (176 + n) (popB (176 + n)))) = true := by kernel_rfl
theorem sizeA12 : ((List.range 16).all fun n => tells cfg0 2000 (sizeE (192 + n) (popB (192 + n)))) = true := by kernel_rfl
theorem sizeA13 : ((List.range 16).all fun n => tells cfg0 2000 (sizeE (208 + n) (popB (208 + n)))) = true := by kernel_rfl
theorem sizeA14 : ((List.range 16).all fun n => tells cfg0 2000 (sizeE (224 + n) (popB (224 + n)))) = true := by kernel_rfl
theorem sizeA15 : ((List.range 16).all fun n => tells cfg0 2000 (sizeE (240 + n) (popB (240 + n)))) = true := by kernel_rfl
theorem size_at {b n : Nat} (h : ((List.range 16).all fun n => tells cfg0 2000 (sizeE (b + n) (popB (b + n)))) = true) (h1 : b ≤ n) (h2 : n < b + 16) : (sizeE n (popB n)).ok Try.prog := by
  have := List.all_eq_true.1 h (n - b) (List.mem_range.2 (by omega))
  rw [show b + (n - b) = n by omega] at this
  exact tells_ok (C := cfg0) mix con0 this
theorem size_ret {n : Nat} (h : n < 256) : Ret Try.prog 36 [I n] (I (popB n)) := by
  by_cases h0 : n < 16
  · exact size_at sizeA0 (by omega) (by omega)
  by_cases h1 : n < 32
  · exact size_at sizeA1 (by omega) (by omega)
  by_cases h2 : n < 48
  · exact size_at sizeA2 (by omega) (by omega)
  by_cases h3 : n < 64
  · exact size_at sizeA3 (by omega) (by omega)
  by_cases h4 : n < 80
  · exact size_at sizeA4 (by omega) (by omega)
  by_cases h5 : n < 96
  · exact size_at sizeA5 (by omega) (by omega)
  by_cases h6 : n < 112
  · exact size_at sizeA6 (by omega) (by omega)
  by_cases h7 : n < 128
  · exact size_at sizeA7 (by omega) (by omega)
  by_cases h8 : n < 144
  · exact size_at sizeA8 (by omega) (by omega)
  by_cases h9 : n < 160
  · exact size_at sizeA9 (by omega) (by omega)
  by_cases h10 : n < 176
  · exact size_at sizeA10 (by omega) (by omega)
  by_cases h11 : n < 192
  · exact size_at sizeA11 (by omega) (by omega)
  by_cases h12 : n < 208
  · exact size_at sizeA12 (by omega) (by omega)
  by_cases h13 : n < 224
  · exact size_at sizeA13 (by omega) (by omega)
  by_cases h14 : n < 240
  · exact size_at sizeA14 (by omega) (by omega)
  exact size_at sizeA15 (by omega) (by omega)

/-! Comparisons. -/
theorem eg4 : Try.prog.eqGuardType Try.prog.depth 4 = false := by kernel_rfl
theorem eq_bool (a b : Bool) : pureRun Try.prog (Op.equal 4 (.bool a) (.bool b)) = some (a == b) := by
  cases a <;> cases b <;> kernel_rfl
theorem bool_neq {o : Oper} {x y : Operand} {t2 : TypeId} {σ : Operand → AV} {a b : Bool} (ho : o.op = .binOp .neq 4 x y t2) (hx : σ x = .c (B a)) (hy : σ y = .c (B b)) (rd : Nat → AB) (n : Nat) :
    aop Try.prog o σ rd n = some (.simple { val := .c (B (a != b)) }) := by
  have vx : (σ x).toVal = some (.bool a) := by rw [hx]; rfl
  have vy : (σ y).toVal = some (.bool b) := by rw [hy]; rfl
  unfold aop
  rw [ho]
  simp only [abinOp, vx, vy, litBin]
  unfold pureOp
  have hv : (allVals σ o.op.operands.toList && notSelect o.op) = true := by
    rw [ho]; simp [Op.operands, allVals, vx, vy, notSelect]
  rw [if_pos hv]
  have hr : pureRun Try.prog (execOp (fun x => ((σ x).toVal).getD Go.undef) o) = some (.value (.bool (a != b))) := by
    unfold execOp
    rw [ho]
    simp only [vx, vy, Option.getD_some, eqGuard, binOp, pureRun_bind, pureRun_ite]
    simp [eq_bool, pureRun_pure, bne]
  rw [hr]
  rfl
theorem u36 : pureRun Try.prog (underlying 36) = some (.struct #[⟨"Lo", 3, 0, false, "", "", 0⟩, ⟨"Hi", 3, 1, false, "", "", 8⟩]) := by kernel_rfl
theorem st36 : Try.prog.stoodInHeld 36 = false := by kernel_rfl
theorem eq_span (a b a' b' : Int) : pureRun Try.prog (Op.equal 36 (.agg #[.int .i64 a, .int .i64 b]) (.agg #[.int .i64 a', .int .i64 b'])) = some (decide (a = a') && decide (b = b')) := by
  show pureRun Try.prog (Op.equalIn (9998 + 1 + 1) 36 _ _) = _
  rw [Op.equalIn.eq_def]
  simp only [pureRun_bind, u36, Option.bind_some, pp0, pureRun_ite, st36, Bool.false_eq_true, if_false]
  simp [pureRun_bind, pureRun_ite, part3, eq_int, pureRun_pure]
  by_cases h1 : a = a'
  · by_cases h2 : b = b'
    · simp [pureRun_bind, pureRun_ite, part3, eq_int, pureRun_pure, h1, h2]
    · simp [pureRun_bind, pureRun_ite, part3, eq_int, pureRun_pure, h1, h2]
  · simp [pureRun_pure, h1]
theorem eg36 : Try.prog.eqGuardType Try.prog.depth 36 = false := by kernel_rfl
theorem span_eql {o : Oper} {x y : Operand} {t2 : TypeId} {σ : Operand → AV} {a b c e : Int} (ho : o.op = .binOp .eql 36 x y t2) (hx : σ x = .c (.agg [I a, I b])) (hy : σ y = .c (.agg [I c, I e])) (rd : Nat → AB) (n : Nat) :
    aop Try.prog o σ rd n = some (.simple { val := .c (B (decide (a = c) && decide (b = e))) }) := by
  have vx : (σ x).toVal = some (.agg #[.int .i64 a, .int .i64 b]) := by rw [hx]; rfl
  have vy : (σ y).toVal = some (.agg #[.int .i64 c, .int .i64 e]) := by rw [hy]; rfl
  unfold aop
  rw [ho]
  simp only [abinOp, vx, vy, litBin]
  unfold pureOp
  have hv : (allVals σ o.op.operands.toList && notSelect o.op) = true := by
    rw [ho]; simp [Op.operands, allVals, vx, vy, notSelect]
  rw [if_pos hv]
  have hr : pureRun Try.prog (execOp (fun x => ((σ x).toVal).getD Go.undef) o) = some (.value (.bool (decide (a = c) && decide (b = e)))) := by
    unfold execOp
    rw [ho]
    simp only [vx, vy, Option.getD_some, eqGuard, binOp, pureRun_bind, pp0, Option.bind_some, pureRun_ite, eg36]
    simp [eq_span, pureRun_pure]
  rw [hr]
  rfl
theorem span_neq {o : Oper} {x y : Operand} {t2 : TypeId} {σ : Operand → AV} {a b c e : Int} (ho : o.op = .binOp .neq 36 x y t2) (hx : σ x = .c (.agg [I a, I b])) (hy : σ y = .c (.agg [I c, I e])) (rd : Nat → AB) (n : Nat) :
    aop Try.prog o σ rd n = some (.simple { val := .c (B (!(decide (a = c) && decide (b = e)))) }) := by
  have vx : (σ x).toVal = some (.agg #[.int .i64 a, .int .i64 b]) := by rw [hx]; rfl
  have vy : (σ y).toVal = some (.agg #[.int .i64 c, .int .i64 e]) := by rw [hy]; rfl
  unfold aop
  rw [ho]
  simp only [abinOp, vx, vy, litBin]
  unfold pureOp
  have hv : (allVals σ o.op.operands.toList && notSelect o.op) = true := by
    rw [ho]; simp [Op.operands, allVals, vx, vy, notSelect]
  rw [if_pos hv]
  have hr : pureRun Try.prog (execOp (fun x => ((σ x).toVal).getD Go.undef) o) = some (.value (.bool (!(decide (a = c) && decide (b = e))))) := by
    unfold execOp
    rw [ho]
    simp only [vx, vy, Option.getD_some, eqGuard, binOp, pureRun_bind, pp0, Option.bind_some, pureRun_ite, eg36]
    simp [eq_span, pureRun_pure]
  rw [hr]
  rfl
theorem snap_clos {H : Nat → AB} {v : TV} {id : Nat} (hb : H id = v.blk) (x : CV) : snaps H 40 [.c x, .ptr id 0] = some ([x, tP v], [id]) := by
  simp only [snaps, snap, hb, TV.blk]
  rfl
theorem killed_b (b : Bool) (l : List Nat) : killed (B b) l = [] := by unfold killed; exact if_pos rfl
theorem wrap_u8 {w : Nat} (h : w < 256) : IntKind.i64.wrap (w : Int) = (w : Int) := wrap_eq (by omega) (by omega)
end Go.Ag
/- Layer 5: the law TallyClash. -/
namespace Go.Ag
open Go.Proofs
set_option maxRecDepth 100000

theorem can_mono {t : Td} (hd : validT t = true) {a b : Nat} (h : ∀ i, a.testBit i = true → b.testBit i = true) (hb : canB (lookF t b) = true) : canB (lookF t a) = true := by
  obtain ⟨x, hx⟩ := (look_can (validT_X hd) b).1 hb
  exact (look_can (validT_X hd) a).2 ⟨x, tr_mono (validT_X hd) h hx⟩
theorem diff_zero (a : Nat) : diffN a 0 = a := by unfold diffN; simp
theorem diff_self (a : Nat) : diffN a a = 0 := by unfold diffN; simp
theorem bySize_zero (m : Nat) : ∃ l, bySize m = 0 :: l := by
  unfold bySize
  rw [sizes_cons (Nat.zero_le m), setsOf_cons (Nat.two_pow_pos m)]
  exact ⟨_, rfl⟩
theorem false_zero {t : Td} (h : canB (lookF t (allN t)) = true) : falseS t = some 0 := by
  obtain ⟨l, hl⟩ := bySize_zero t.calls.length
  have : canL t 0 = true := by unfold canL; rw [diff_zero]; exact h
  unfold falseS
  rw [hl, List.find?_cons, this]
theorem lt_all {t : Td} {y : Nat} : y < 2 ^ t.calls.length ↔ y ≤ allN t := by
  unfold allN
  have := Nat.one_le_two_pow (n := t.calls.length)
  omega
theorem sub_all {t : Td} {y : Nat} (h : y ≤ allN t) (i : Nat) (hi : y.testBit i = true) : (allN t).testBit i = true := by
  rw [allN_bit]
  apply decide_eq_true
  rcases Nat.lt_or_ge i t.calls.length with h1 | h1
  · exact h1
  · rw [Nat.testBit_lt_two_pow (Nat.lt_of_lt_of_le (lt_all.2 h) (Nat.pow_le_pow_right (by omega) h1))] at hi; cases hi

/-- What is returned of calls that clash. -/
structure ClashIs (t : Td) (y : Nat) : Prop where
  le : y ≤ allN t
  no : canB (lookF t y) = false
  least : ∀ z, z ≤ allN t → canB (lookF t z) = false → z = y ∨ Less y z
theorem clash_is {t : Td} (hd : validT t = true) (h : canB (lookF t (allN t)) = false) : ∃ y, clashS t = some y ∧ ClashIs t y := by
  have h5 := valid_nums hd
  obtain ⟨y, hy⟩ := clash_some hd h
  obtain ⟨q1, q2, q3⟩ := first_least h5.2.2.2.2.2 hy
  exact ⟨y, hy, lt_all.1 q2, by simpa using q1, fun z hz hn => q3 z (lt_all.2 hz) (by simp [hn])⟩
structure FalseIs (t : Td) (y : Nat) : Prop where
  le : y ≤ allN t
  can : canL t y = true
  least : ∀ z, z ≤ allN t → canL t z = true → z = y ∨ Less y z
theorem false_is {t : Td} (hd : validT t = true) {y : Nat} (h : falseS t = some y) : FalseIs t y := by
  have h5 := valid_nums hd
  obtain ⟨q1, q2, q3⟩ := first_least h5.2.2.2.2.2 h
  exact ⟨lt_all.1 q2, q1, fun z hz hn => q3 z (lt_all.2 hz) hn⟩
theorem false_no {t : Td} (hd : validT t = true) (h : falseS t = none) {z : Nat} (hz : z ≤ allN t) : canL t z = false := by
  have h5 := valid_nums hd
  exact first_none h5.2.2.2.2.2 h (lt_all.2 hz)
theorem clash_zero {t : Td} (hd : validT t = true) {y : Nat} (h : ClashIs t y) : y = 0 ↔ falseS t = none := by
  constructor
  · rintro rfl
    cases hf : falseS t with
    | none => rfl
    | some z =>
      have hz := false_is hd hf
      have : canB (lookF t 0) = true := can_mono hd (fun i hi => by simp at hi) hz.can
      rw [h.no] at this; cases this
  · intro hf
    have h0 : canL t (allN t) = false := false_no hd hf (Nat.le_refl _)
    unfold canL at h0
    rw [diff_self] at h0
    rcases h.least 0 (Nat.zero_le _) h0 with h1 | h1
    · exact h1.symm
    · unfold Less at h1
      have : popB 0 = 0 := by decide
      omega
theorem clash_meets {t : Td} (hd : validT t = true) {y z : Nat} (h : ClashIs t y) (hz : FalseIs t z) : y &&& z ≠ 0 := by
  intro h0
  have : canB (lookF t y) = true := by
    refine can_mono hd (fun i hi => ?_) hz.can
    rw [diffN_bit, sub_all h.le i hi, Bool.true_and]
    have : (y &&& z).testBit i = false := by rw [h0]; simp
    rw [Nat.testBit_and, hi, Bool.true_and] at this
    rw [this]; rfl
  rw [h.no] at this; cases this
theorem clash_drop {t : Td} (hd : validT t = true) {y i : Nat} (h : ClashIs t y) (hi : y.testBit i = true) : canB (lookF t (diffN y (2 ^ i))) = true := by
  have h5 := valid_nums hd
  have ha := allN_lt hd
  have hi8 : i < 8 := by
    have := sub_all h.le i hi
    rw [allN_bit] at this
    have := of_decide_eq_true this
    omega
  cases hc : canB (lookF t (diffN y (2 ^ i))) with
  | true => rfl
  | false =>
    have hp := pop_drop y (Nat.lt_of_le_of_lt h.le ha) i hi8 hi
    have hle : diffN y (2 ^ i) ≤ allN t := lt_all.1 (diffN_lt (lt_all.2 h.le))
    rcases h.least _ hle hc with h1 | h1
    · rw [h1] at hp; omega
    · unfold Less at h1; omega

set_option maxHeartbeats 4000000 in
theorem clashLaw_ret {v : TV} {t : Td} (h : v.IsS t) (hA : Ret Try.prog 12 [] (B true)) (w : Nat) (hw : w < 256) : Ret Try.prog 9 [v.cv, .lit (.int .u8 w)] (B true) := by
  have hv := h.toIs
  have e1 := hv.cn; have e2 := hv.short
  refine ret_by (hm := true) Try.func9 rfl ?_
  conv => whnf
  refine .ret h.far rfl ?_
  conv => whnf
  refine .ret (tallyR_ret hv) rfl ?_
  conv => whnf
  cases hd : validT t
  · conv => whnf
    refine .ret hA rfl ?_
    conv => whnf
    exact .val
  have h5 := valid_nums hd
  have ha := allN_lt hd
  have hcl := clash_ret hv
  have hfa := false_ret hv
  have hp : 1 ≤ 2 ^ t.calls.length ∧ 2 ^ t.calls.length ≤ 256 := ⟨Nat.one_le_two_pow, Nat.pow_le_pow_right (n := 2) (by omega) h5.2.2.2.2.2⟩
  have hcal : ∀ x : Nat, x < 256 → Ret Try.prog 38 [I x, tP v] (B (!canB (lookF t x))) := fun x hx => alone_ret hv hd (by omega)
  obtain ⟨N, hN⟩ : ∃ N, N = allN t := ⟨_, rfl⟩
  have hNd : N = 2 ^ t.calls.length - 1 := by rw [hN]; rfl
  cases hcan : canB (lookF t (allN t))
  case true =>
    have c1 : clashR t = (0, 4) := by unfold clashR; rw [hd, hcan]; rfl
    have c2 : falseR t = (0, 0, 0) := by unfold falseR; rw [hd, false_zero hcan]; decide
    rw [c1] at hcl
    rw [c2] at hfa
    have hN1 := hcal N (by omega)
    rw [hN, hcan] at hN1
    rw [← hN] at hN1
    dsimp only [pairV] at hcl
    conv => whnf
    refine .ret hcl rfl ?_
    conv => whnf
    refine .ret hfa rfl ?_
    conv => whnf
    refine ⟨by omega, _, shl_nat 1 v.cn (by omega) (by rw [e1]; omega), ?_⟩
    conv => whnf
    refine ⟨(N : Int), by rw [wrap_eq (by rw [e1]; omega) (by rw [e1]; omega), e1]; omega, ?_⟩
    conv => whnf
    refine .snapped _ _ _ _ _ (snap_clos rfl _) hN1 rfl ?_
    rw [killed_b]
    conv => whnf
    refine ⟨_, bool_neq rfl rfl rfl _ _, ?_⟩
    conv => whnf
    refine .ret hA rfl ?_
    conv => whnf
    exact .val
  obtain ⟨y, hy, hi⟩ := clash_is hd hcan
  have c1 : clashR t = (y, 0) := by unfold clashR; rw [hd, hcan, hy]; rfl
  rw [c1] at hcl
  have hN1 := hcal N (by omega)
  rw [hN, hcan] at hN1
  rw [← hN] at hN1
  have hyN := hi.le
  rw [← hN] at hyN
  have hY1 := hcal y (by omega)
  rw [hi.no] at hY1
  dsimp only [pairV] at hcl
  have hz0 := clash_zero hd hi
  have hmeet : ∀ z, falseS t = some z → y &&& z ≠ 0 := fun z hz => clash_meets hd hi (false_is hd hz)
  obtain ⟨fa, fb, fc, hF, hfc, hfb⟩ : ∃ (fa fb : Nat) (fc : Int), falseR t = (fa, fb, fc) ∧ ((fc == 10) = ((y : Int) == 0)) ∧ ((fc == 0) = true → fb < 2 ^ 63 ∧ y &&& fb ≠ 0) := by
    unfold falseR
    rw [hd]
    cases hf : falseS t with
    | none =>
      refine ⟨0, 0, 10, rfl, ?_, fun h => by simp at h⟩
      rw [hz0.2 hf]; rfl
    | some z =>
      have hz := false_is hd hf
      refine ⟨popB z, z, 0, rfl, ?_, fun _ => ⟨by have := hz.le; omega, hmeet z hf⟩⟩
      have : y ≠ 0 := fun e => by rw [hz0.1 e] at hf; cases hf
      have : ((y : Int) == 0) = false := beq_eq_false_iff_ne.2 (by omega)
      rw [this]; rfl
  rw [hF] at hfa
  dsimp only at hfa
  conv => whnf
  refine .ret hcl rfl ?_
  conv => whnf
  refine .ret hfa rfl ?_
  conv => whnf
  refine ⟨by omega, _, shl_nat 1 v.cn (by omega) (by rw [e1]; omega), ?_⟩
  conv => whnf
  refine ⟨(N : Int), by rw [wrap_eq (by rw [e1]; omega) (by rw [e1]; omega), e1]; omega, ?_⟩
  conv => whnf
  refine .snapped _ _ _ _ _ (snap_clos rfl _) hN1 rfl ?_
  rw [killed_b]
  conv => whnf
  refine ⟨_, bool_neq rfl rfl rfl _ _, ?_⟩
  conv => whnf
  rw [show decide ((y : Int) < 0) = false by simp]
  conv => whnf
  rw [show decide ((y : Int) > (N : Int)) = false by simp; omega]
  conv => whnf
  refine .snapped _ _ _ _ _ (snap_clos rfl _) hY1 rfl ?_
  rw [killed_b]
  conv => whnf
  refine ⟨_, bool_neq rfl rfl rfl _ _, ?_⟩
  conv => whnf
  rw [hfc]
  rw [show (((y : Int) == 0) != ((y : Int) == 0)) = false by simp]
  conv => whnf
  cases hfc0 : (fc == 0)
  case false =>
    conv => whnf
    refine loop_by (I := fun n st => ∃ (q : Nat) (h : Heap), q ≤ t.calls.length ∧ n = t.calls.length - q ∧ Heap.at h 0 = v.blk ∧
      Has st 153 [(1, .c (.lit (.int .u8 w))), (5, .c (I y)), (10, .c (I N)), (11, .c (.func (.func 36) [] [])), (12, .func (.func 38) [] [.ptr 0 0]), (101, .c (I v.cn)), (102, .c (I q))] [] none h) ?_ (k := t.calls.length)
      ⟨0, _, Nat.zero_le _, rfl, rfl, rfl, ⟨rfl, rfl, rfl, rfl, rfl, rfl, rfl, trivial⟩, rfl, rfl, rfl, rfl⟩
    rintro n st ⟨q, h, hq, rfl, h0, hs1⟩
    refine hs1.run (hm := false) ?_
    conv => whnf
    cases hc : decide ((q : Int) < (v.cn : Int))
    case true =>
      have hq : q < t.calls.length := by simp at hc; omega
      conv => whnf
      refine ⟨by omega, _, shr_nat y q (by omega), ?_⟩
      conv => whnf
      refine ⟨_, and_nat (b := 1) (Nat.lt_of_le_of_lt (Nat.shiftRight_le y q) (by omega)) (by omega), ?_⟩
      conv => whnf
      rw [bit_nat]
      cases hb : y.testBit q
      · conv => whnf
        refine ⟨((q + 1 : Nat) : Int), by rw [wrap_eq (by omega) (by omega)]; omega, ?_⟩
        conv => whnf
        exact ⟨t.calls.length - (q + 1), by omega, q + 1, h, by omega, rfl, h0, rfl, ⟨rfl, rfl, rfl, rfl, rfl, rfl, rfl, trivial⟩, rfl, rfl, rfl, rfl⟩
      · have hno := clash_drop hd hi hb
        have h2q : 2 ^ q ≤ 2 ^ 8 := Nat.pow_le_pow_right (by omega) (by omega)
        have hd1 := hcal (diffN y (2 ^ q)) (diffN_lt (n := 8) (by omega))
        rw [hno] at hd1
        conv => whnf
        refine ⟨by omega, ((2 ^ q : Nat) : Int), (shl_nat 1 q (by omega) (by omega)).trans (by rw [Nat.one_mul]), ?_⟩
        conv => whnf
        refine ⟨_, andNot_nat (by omega) (by omega), ?_⟩
        conv => whnf
        refine .snapped _ _ _ _ _ (snap_clos h0 _) hd1 rfl ?_
        rw [killed_b]
        conv => whnf
        refine ⟨((q + 1 : Nat) : Int), by rw [wrap_eq (by omega) (by omega)]; omega, ?_⟩
        conv => whnf
        exact ⟨t.calls.length - (q + 1), by omega, q + 1, _, by omega, rfl, h0, rfl, ⟨rfl, rfl, rfl, rfl, rfl, rfl, rfl, trivial⟩, rfl, rfl, rfl, rfl⟩
    conv => whnf
    rw [wrap_u8 hw]
    refine ⟨_, and_nat (b := N) (by omega) (by omega), ?_⟩
    conv => whnf
    have hand : w &&& N ≤ N := Nat.and_le_right
    generalize w &&& N = X at hand
    have hX := hcal X (by omega)
    refine .snapped _ _ _ _ _ (snap_clos h0 _) hX rfl ?_
    rw [killed_b]
    cases hbx : canB (lookF t X)
    case true =>
      conv => whnf
      refine .ret hA rfl ?_
      conv => whnf
      exact .val
    have hleast := hi.least X (by omega) hbx
    conv => whnf
    refine .ret (size_ret (by omega)) rfl ?_
    conv => whnf
    refine .ret (size_ret (by omega)) rfl ?_
    conv => whnf
    cases hgt : decide ((popB X : Int) > (popB y : Int))
    case true =>
      conv => whnf
      refine .ret hA rfl ?_
      conv => whnf
      exact .val
    have hgt : ¬ popB X > popB y := by simpa using hgt
    have heq : popB y = popB X ∧ y ≤ X := by
      rcases hleast with rfl | h1
      · exact ⟨rfl, Nat.le_refl _⟩
      · unfold Less at h1; omega
    conv => whnf
    refine .ret (size_ret (by omega)) rfl ?_
    conv => whnf
    refine .ret (size_ret (by omega)) rfl ?_
    conv => whnf
    rw [heq.1]
    rw [show ((popB X : Int) == (popB X : Int)) = true by simp]
    conv => whnf
    rw [show decide ((X : Int) ≥ (y : Int)) = true by simp; omega]
    conv => whnf
    refine .ret hA rfl ?_
    conv => whnf
    exact .val
  case true =>
    obtain ⟨hb1, hb2⟩ := hfb hfc0
    conv => whnf
    refine ⟨_, and_nat (b := fb) (by omega) hb1, ?_⟩
    conv => whnf
    rw [show (((y &&& fb : Nat) : Int) == 0) = false by rw [beq_eq_false_iff_ne]; omega]
    conv => whnf
    refine loop_by (I := fun n st => ∃ (q : Nat) (h : Heap), q ≤ t.calls.length ∧ n = t.calls.length - q ∧ Heap.at h 0 = v.blk ∧
      Has st 153 [(1, .c (.lit (.int .u8 w))), (5, .c (I y)), (10, .c (I N)), (11, .c (.func (.func 36) [] [])), (12, .func (.func 38) [] [.ptr 0 0]), (101, .c (I v.cn)), (102, .c (I q))] [] none h) ?_ (k := t.calls.length)
      ⟨0, _, Nat.zero_le _, rfl, rfl, rfl, ⟨rfl, rfl, rfl, rfl, rfl, rfl, rfl, trivial⟩, rfl, rfl, rfl, rfl⟩
    rintro n st ⟨q, h, hq, rfl, h0, hs1⟩
    refine hs1.run (hm := false) ?_
    conv => whnf
    cases hc : decide ((q : Int) < (v.cn : Int))
    case true =>
      have hq : q < t.calls.length := by simp at hc; omega
      conv => whnf
      refine ⟨by omega, _, shr_nat y q (by omega), ?_⟩
      conv => whnf
      refine ⟨_, and_nat (b := 1) (Nat.lt_of_le_of_lt (Nat.shiftRight_le y q) (by omega)) (by omega), ?_⟩
      conv => whnf
      rw [bit_nat]
      cases hb : y.testBit q
      · conv => whnf
        refine ⟨((q + 1 : Nat) : Int), by rw [wrap_eq (by omega) (by omega)]; omega, ?_⟩
        conv => whnf
        exact ⟨t.calls.length - (q + 1), by omega, q + 1, h, by omega, rfl, h0, rfl, ⟨rfl, rfl, rfl, rfl, rfl, rfl, rfl, trivial⟩, rfl, rfl, rfl, rfl⟩
      · have hno := clash_drop hd hi hb
        have h2q : 2 ^ q ≤ 2 ^ 8 := Nat.pow_le_pow_right (by omega) (by omega)
        have hd1 := hcal (diffN y (2 ^ q)) (diffN_lt (n := 8) (by omega))
        rw [hno] at hd1
        conv => whnf
        refine ⟨by omega, ((2 ^ q : Nat) : Int), (shl_nat 1 q (by omega) (by omega)).trans (by rw [Nat.one_mul]), ?_⟩
        conv => whnf
        refine ⟨_, andNot_nat (by omega) (by omega), ?_⟩
        conv => whnf
        refine .snapped _ _ _ _ _ (snap_clos h0 _) hd1 rfl ?_
        rw [killed_b]
        conv => whnf
        refine ⟨((q + 1 : Nat) : Int), by rw [wrap_eq (by omega) (by omega)]; omega, ?_⟩
        conv => whnf
        exact ⟨t.calls.length - (q + 1), by omega, q + 1, _, by omega, rfl, h0, rfl, ⟨rfl, rfl, rfl, rfl, rfl, rfl, rfl, trivial⟩, rfl, rfl, rfl, rfl⟩
    conv => whnf
    rw [wrap_u8 hw]
    refine ⟨_, and_nat (b := N) (by omega) (by omega), ?_⟩
    conv => whnf
    have hand : w &&& N ≤ N := Nat.and_le_right
    generalize w &&& N = X at hand
    have hX := hcal X (by omega)
    refine .snapped _ _ _ _ _ (snap_clos h0 _) hX rfl ?_
    rw [killed_b]
    cases hbx : canB (lookF t X)
    case true =>
      conv => whnf
      refine .ret hA rfl ?_
      conv => whnf
      exact .val
    have hleast := hi.least X (by omega) hbx
    conv => whnf
    refine .ret (size_ret (by omega)) rfl ?_
    conv => whnf
    refine .ret (size_ret (by omega)) rfl ?_
    conv => whnf
    cases hgt : decide ((popB X : Int) > (popB y : Int))
    case true =>
      conv => whnf
      refine .ret hA rfl ?_
      conv => whnf
      exact .val
    have hgt : ¬ popB X > popB y := by simpa using hgt
    have heq : popB y = popB X ∧ y ≤ X := by
      rcases hleast with rfl | h1
      · exact ⟨rfl, Nat.le_refl _⟩
      · unfold Less at h1; omega
    conv => whnf
    refine .ret (size_ret (by omega)) rfl ?_
    conv => whnf
    refine .ret (size_ret (by omega)) rfl ?_
    conv => whnf
    rw [heq.1]
    rw [show ((popB X : Int) == (popB X : Int)) = true by simp]
    conv => whnf
    rw [show decide ((X : Int) ≥ (y : Int)) = true by simp; omega]
    conv => whnf
    refine .ret hA rfl ?_
    conv => whnf
    exact .val
end Go.Ag
