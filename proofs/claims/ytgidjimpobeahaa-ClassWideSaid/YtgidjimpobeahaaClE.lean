/- The chapter's lines: the laws are awake; arguments read as data, the reference's valid; what is told of a line, by its truths. No conditions. -/
import Derived.Test.YtgidjimpobeahaaClD
import Derived.Deep.Slices
import Derived.Deep.Strs
import Derived.Lib.SmallJoins
import Derived.WideShapes
import Derived.ChangeSame
import Derived.OpenShut
/- Layer 6: the laws are awake. -/
namespace Go.Ag
open Go.Proofs
set_option maxRecDepth 100000

def lvOf (c : Ln) : LV := ⟨(c.bales.map rowBl).flatten, 0, c.bales.length⟩
theorem lvOf_is {c : Ln} (h : c.bales.length ≤ 1000) : (lvOf c).Is c := ⟨⟨by simp [lvOf], fun i r hr => flat_sl _ (rowBl_len _) i r hr⟩, h⟩
def cS (a b : Int) : Ln := { bales := [⟨10, 4, 1⟩, ⟨10, 5, 0⟩, ⟨8, 8, a⟩], may := 2, drift := b, mist := 1 }
theorem isS (a b : Int) : (lvOf (cS a b)).Is (cS a b) := lvOf_is (by show 3 ≤ 1000; omega)
set_option maxHeartbeats 4000000 in
theorem sv1 : wrongR (cS 6 2) 1 = ((3, 6), 0) := by kernel_rfl
set_option maxHeartbeats 4000000 in
theorem sv2 : allR (cS 3 2) = ((3, 16), 0) := by kernel_rfl
set_option maxHeartbeats 4000000 in
theorem sv3 : keepsR (cS 3 2) 2 = (1, 0) := by kernel_rfl
set_option maxHeartbeats 4000000 in
theorem sv4 : keptR (cS 3 2) = (1, 0) := by kernel_rfl
set_option maxHeartbeats 4000000 in
theorem sv5 : provR (cS 6 2) = (1, 0) := by kernel_rfl
set_option maxHeartbeats 4000000 in
theorem sv6 : mistR (cS 8 0) = (3, 0) := by kernel_rfl
set_option maxHeartbeats 4000000 in
theorem sv7 : moreR (cS 3 2) 1 = (4, 0) := by kernel_rfl
set_option maxHeartbeats 4000000 in
theorem sv8 : clashR (cS 8 0) = (6, 0) := by kernel_rfl
set_option maxHeartbeats 4000000 in
theorem sv9 : moreR (cS 3 2) 2 = (0, 4) := by kernel_rfl
namespace Awake
def inl : List Nat := []
noncomputable def cfg (es : List Go.Ag.Known) : Go.Ag.Cfg := { P := Try.prog, pure := fun f => !inl.contains f, con := Go.Ag.conTab es }
def vC : CV := (lvOf (cS 3 2)).cv (cS 3 2)
def vD : CV := (lvOf (cS 6 2)).cv (cS 6 2)
def vN : CV := (lvOf (cS 8 0)).cv (cS 8 0)
def e0 : Go.Ag.Known := ⟨18, [vD, I 1], pairS ((3, 6), 0)⟩
theorem k0 : e0.ok Try.prog := by have h := wrongX_ret (isS 6 2) 1; rw [sv1] at h; exact h
def e1 : Go.Ag.Known := ⟨14, [vC], pairS ((3, 16), 0)⟩
theorem k1 : e1.ok Try.prog := by have h := allX_ret (isS 3 2); rw [sv2] at h; exact h
def e2 : Go.Ag.Known := ⟨19, [vC, I 2], pairI (1, 0)⟩
theorem k2 : e2.ok Try.prog := by have h := keepsX_ret (isS 3 2) 2; rw [sv3] at h; exact h
def e3 : Go.Ag.Known := ⟨15, [vC], pairI (1, 0)⟩
theorem k3 : e3.ok Try.prog := by have h := lineX_ret (isS 3 2); rw [sv4] at h; exact h
def e4 : Go.Ag.Known := ⟨16, [vD], pairI (1, 0)⟩
theorem k4 : e4.ok Try.prog := by have h := proofX_ret (isS 6 2); rw [sv5] at h; exact h
def e5 : Go.Ag.Known := ⟨17, [vN], pairI (3, 0)⟩
theorem k5 : e5.ok Try.prog := by have h := mistX_ret (isS 8 0); rw [sv6] at h; exact h
def e6 : Go.Ag.Known := ⟨23, [vC, I 1], pairI (4, 0)⟩
theorem k6 : e6.ok Try.prog := by have h := moreX_ret (isS 3 2) 1; rw [sv7] at h; exact h
def e7 : Go.Ag.Known := ⟨13, [vN], pairI (6, 0)⟩
theorem k7 : e7.ok Try.prog := by have h := clashX_ret (isS 8 0); rw [sv8] at h; exact h
def e8 : Go.Ag.Known := ⟨23, [vC, I 2], pairI (0, 4)⟩
theorem k8 : e8.ok Try.prog := by have h := moreX_ret (isS 3 2) 2; rw [sv9] at h; exact h
def tab : List Go.Ag.Known := [e0, e1, e2, e3, e4, e5, e6, e7, e8]
theorem tabOk : ∀ e ∈ tab, e.ok Try.prog := by
  have c : ∀ {a : Go.Ag.Known} {l : List Go.Ag.Known}, a.ok Try.prog → (∀ e ∈ l, e.ok Try.prog) → ∀ e ∈ a :: l, e.ok Try.prog := fun h1 h2 => List.forall_mem_cons.2 ⟨h1, h2⟩
  exact c k0 (c k1 (c k2 (c k3 (c k4 (c k5 (c k6 (c k7 (c k8 (by simp)))))))))
def eA : Go.Ag.Known := ⟨11, [], B true⟩
theorem kA : eA.ok Try.prog := tells_ok (C := cfg tab) mix (conTab_ok rfl tabOk) (n := 20000) (by kernel_rfl)
theorem alive_ret : Ret Try.prog 11 [] (B true) := kA
end Awake
end Go.Ag
/- Layer 6: what is valid in the reference; long lists; arguments read as data; small functions of the laws. -/
namespace Go.Ag
open Go.Proofs Go.ChangeShapes Go.WideShapes Go.Deep Go.RowKit Go.ChangeShapes
set_option maxRecDepth 100000

theorem in_ret (n lo hi : Int) : Ret Try.prog 49 [I n, I lo, I hi] (B (inB' n lo hi)) := by
  refine ret_by (hm := true) Try.func49 rfl ?_
  conv => whnf
  unfold inB'
  cases h : decide (lo ≤ n)
  · conv => whnf
    exact .val
  · conv => whnf
    exact .val
theorem inside_ret (k : Int) (s : Int × Int) : Ret Try.prog 20 [I k, spV s] (B (decide (s.1 ≤ k) && decide (k ≤ s.2))) := by
  refine ret_by (hm := true) Try.func20 rfl ?_
  conv => whnf
  cases h : decide (s.1 ≤ k)
  · conv => whnf
    exact .val
  · conv => whnf
    exact .val
theorem far_ret (v : LV) (c : Ln) : Ret Try.prog 21 [v.cv c] (B (decide ((v.sn : Int) > 40))) := by
  refine ret_by (hm := true) Try.func21 rfl ?_
  conv => whnf
  exact .val
set_option maxHeartbeats 1000000 in
theorem lineRef_ret {v : LV} {c : Ln} (hv : v.Is c) : Ret Try.prog 22 [v.cv c] (B (validL c)) := by
  have e1 := hv.sn; have e2 := hv.short
  have key : validL c = (inB' v.sn 1 6 && (inB' c.may 0 30 && (inB' c.drift 0 30 && (inB' c.mist 0 6 && c.bales.all blOk)))) := by
    rw [e1]; unfold validL validBs
    cases inB' (c.bales.length) 1 6 <;> cases c.bales.all blOk <;> cases inB' c.may 0 30 <;> cases inB' c.drift 0 30 <;> cases inB' c.mist 0 6 <;> rfl
  rw [key]
  refine ret_by (hm := false) Try.func22 rfl ?_
  conv => whnf
  refine ⟨_, rfl, ?_⟩
  conv => whnf
  refine .ret (in_ret _ _ _) rfl ?_
  conv => whnf
  cases h1 : inB' v.sn 1 6
  · conv => whnf
    exact .val
  conv => whnf
  refine ⟨_, rfl, ?_⟩
  conv => whnf
  refine .ret (in_ret _ _ _) rfl ?_
  conv => whnf
  cases h2 : inB' c.may 0 30
  · conv => whnf
    exact .val
  conv => whnf
  refine ⟨_, rfl, ?_⟩
  conv => whnf
  refine .ret (in_ret _ _ _) rfl ?_
  conv => whnf
  cases h3 : inB' c.drift 0 30
  · conv => whnf
    exact .val
  conv => whnf
  refine ⟨_, rfl, ?_⟩
  conv => whnf
  refine .ret (in_ret _ _ _) rfl ?_
  conv => whnf
  cases h4 : inB' c.mist 0 6
  · conv => whnf
    exact .val
  conv => whnf
  simp only [Bool.true_and]
  refine loop_by (I := fun n st => ∃ (q : Nat) (h : Heap), q ≤ c.bales.length ∧ n = c.bales.length - q ∧ c.bales.all blOk = (c.bales.drop q).all blOk ∧ Heap.at h 0 = v.blk c ∧ 0 < h.n ∧ Has st 60 [(1, .ptr 0 0), (3, .c (I q))] [] none h) ?_ (k := c.bales.length)
    ⟨0, _, Nat.zero_le _, rfl, rfl, rfl, Nat.lt_succ_self 0, rfl, ⟨rfl, rfl, trivial⟩, rfl, rfl, rfl, rfl⟩
  rintro n st ⟨q, h, hq, rfl, hall, h0, hlt, hs1⟩
  refine hs1.run (hm := false) ?_
  conv => whnf
  refine ⟨_, h0, ?_⟩
  conv => whnf
  cases hc : decide ((q : Int) < (v.sn : Int))
  case false =>
    have : q = c.bales.length := by simp at hc; omega
    subst this
    rw [List.drop_length] at hall
    rw [hall]
    conv => whnf
    exact .val
  have hq : q < c.bales.length := by simp at hc; omega
  obtain ⟨r, hr⟩ := get_some hq
  rw [drop_get hr, List.all_cons] at hall
  conv => whnf
  refine ⟨_, h0, ?_⟩
  conv => whnf
  refine ⟨⟨by omega, by omega⟩, ?_⟩
  conv => whnf
  refine ⟨_, hv.bale hr, ?_⟩
  conv => whnf
  refine ⟨_, at_push_self _ _, ?_⟩
  conv => whnf
  generalize hH2 : TMap.set AB.dead (TMap.push AB.dead h _) _ _ = H2
  have d0 : Heap.at H2 0 = v.blk c := by rw [← hH2]; exact (at_old _ _ _ hlt).trans h0
  have d2 : Heap.at H2 h.n = .blk [.c (I r.f), .c (I r.l), .c (I r.w)] := by rw [← hH2]; exact at_new _ _ _
  have d3 : 0 < H2.n := by rw [← hH2, TMap.set_n, push_n]; omega
  clear hH2
  refine ⟨_, d2, ?_⟩
  conv => whnf
  refine .ret (in_ret _ _ _) rfl ?_
  conv => whnf
  have hb : blOk r = (inB' r.f 1 30 && (inB' r.l 0 r.f && inB' r.w 0 r.l)) := rfl
  rw [hb] at hall
  cases h5 : inB' r.f 1 30
  · rw [h5] at hall
    conv => whnf
    rw [hall]
    exact .val
  rw [h5] at hall
  conv => whnf
  refine ⟨_, d2, ?_⟩
  conv => whnf
  refine ⟨_, d2, ?_⟩
  conv => whnf
  refine .ret (in_ret _ _ _) rfl ?_
  conv => whnf
  cases h6 : inB' r.l 0 r.f
  · rw [h6] at hall
    conv => whnf
    rw [hall]
    exact .val
  rw [h6] at hall
  conv => whnf
  refine ⟨_, d2, ?_⟩
  conv => whnf
  refine ⟨_, d2, ?_⟩
  conv => whnf
  refine .ret (in_ret _ _ _) rfl ?_
  conv => whnf
  cases h7 : inB' r.w 0 r.l
  · rw [h7] at hall
    conv => whnf
    rw [hall]
    exact .val
  rw [h7] at hall
  conv => whnf
  refine ⟨((q + 1 : Nat) : Int), by rw [wrap_eq (by omega) (by omega)]; omega, ?_⟩
  conv => whnf
  exact ⟨c.bales.length - (q + 1), by omega, q + 1, _, by omega, rfl, by rw [hall]; rfl, d0, d3, rfl, ⟨rfl, rfl, trivial⟩, rfl, rfl, rfl, rfl⟩
/-- The list may be long. -/
structure LV.IsL (v : LV) (c : Ln) : Prop where
  s : SlOf 3 (c.bales.map rowBl) v.sc v.so v.sn
/-- Not far too long. -/
structure LV.IsS (v : LV) (c : Ln) : Prop extends v.Is c where
  far : Ret Try.prog 21 [v.cv c] (B false)
theorem LV.IsL.cases {v : LV} {c : Ln} (h : v.IsL c) : v.IsS c ∨ Ret Try.prog 21 [v.cv c] (B true) := by
  have e1 : v.sn = c.bales.length := by rw [h.s.len]; simp
  have hl := far_ret v c
  cases hc : decide ((v.sn : Int) > 40)
  · left
    rw [hc] at hl
    exact ⟨⟨h.s, by simp at hc; omega⟩, hl⟩
  · right
    rw [hc] at hl
    exact hl
theorem fine_ret {v : LV} {c : Ln} (hv : v.IsS c) : Ret Try.prog 10 [v.cv c] (B (validL c)) := by
  refine ret_by (hm := true) Try.func10 rfl ?_
  conv => whnf
  refine .ret (hv.far) rfl ?_
  conv => whnf
  refine .ret (lineRef_ret hv.toIs) rfl ?_
  conv => whnf
  exact .val
theorem fine_far {v : LV} {c : Ln} (hv : Ret Try.prog 21 [v.cv c] (B true)) : Ret Try.prog 10 [v.cv c] (B false) := by
  refine ret_by (hm := true) Try.func10 rfl ?_
  conv => whnf
  refine .ret (hv) rfl ?_
  conv => whnf
  exact .val

theorem cells3 : Try.prog.cellsOf 3 = 1 := by kernel_rfl
theorem cells22 : Try.prog.cellsOf 22 = 1 := by kernel_rfl
theorem cells24 : Try.prog.cellsOf 24 = 4 := by kernel_rfl
theorem cells43 : Try.prog.cellsOf 43 = 3 := by kernel_rfl
theorem repP_ints {Φ : Nat → Option Obj} : ∀ (zs : List Int) (vs : List Value), (∀ (i : Nat) (z : Int), zs[i]? = some z → vs[i]? = some (Value.int .i64 z)) → RepP Φ (zs.map I) vs
  | [], _, _ => trivial
  | z :: zs, [], h => by have := h 0 z rfl; simp at this
  | z :: zs, v :: vs, h => by
    have h0 := h 0 z rfl
    simp only [List.getElem?_cons_zero, Option.some.injEq] at h0
    exact ⟨h0, repP_ints zs vs fun i y hy => by have := h (i + 1) y (by simpa using hy); simpa using this⟩
theorem flat_get {sz : Nat} : ∀ (rows : List (List Int)) (_ : ∀ r ∈ rows, r.length = sz) (i : Nat) (z : Int), rows.flatten[i]? = some z → ∃ q r j, rows[q]? = some r ∧ r[j]? = some z ∧ i = q * sz + j
  | [], _, i, z, h => by simp at h
  | r :: rows, hr, i, z, h => by
    have hl := hr r (by simp)
    by_cases hi : i < r.length
    · refine ⟨0, r, i, rfl, ?_, by omega⟩
      rw [List.flatten_cons, List.getElem?_append_left hi] at h
      exact h
    · rw [List.flatten_cons, List.getElem?_append_right (by omega)] at h
      obtain ⟨q, r', j, h1, h2, h3⟩ := flat_get rows (fun r hr' => hr r (by simp [hr'])) _ z h
      refine ⟨q + 1, r', j, by simpa using h1, h2, ?_⟩
      rw [Nat.add_mul]; omega

section
variable {H : Type} {enc : TypeId × Value → H} {w : World} {base : Nat} {spare : Nat → Bool} {held : Bool}
theorem one_int {n : Nat} {c : Value} {y : DataW H × List MemPlace} (h : DataW.trod enc Try.prog w base spare held n 3 [c] = some y) : ∃ z : Int, c = .int .i64 z := by
  obtain ⟨z, hz, _⟩ := DataW.trod_int Try.underlying3 h
  exact ⟨z, by simpa using hz⟩
theorem bale_int {n : Nat} {cs : List Value} {y : DataW H × List MemPlace} (h : DataW.trod enc Try.prog w base spare held n 43 cs = some y) : ∃ zs : List Int, zs.length = 3 ∧ cs = zs.map (.int .i64) := by
  obtain ⟨y0, y1, y2, m, _, hl, h0, h1, h2⟩ := trod_struct3 Try.underlying43 h
  dsimp only at h0 h1 h2
  rw [cells3] at h0 h1 h2
  match cs, hl.trans cells43 with
  | [c0, c1, c2], _ =>
    obtain ⟨a, rfl⟩ := one_int h0
    obtain ⟨b, rfl⟩ := one_int h1
    obtain ⟨c, rfl⟩ := one_int h2
    exact ⟨[a, b, c], rfl, rfl⟩
theorem open_rows {t e : TypeId} {sz fuel : Nat} {c : Value} {x : DataW H × List MemPlace} (ht : Try.prog.underlying t = some (.slice e)) (hsz : Try.prog.cellsOf e = sz) (hpos : 0 < sz)
    (hrow : ∀ n cs (x : DataW H × List MemPlace), DataW.trod enc Try.prog w base spare held n e cs = some x → ∃ zs : List Int, zs.length = sz ∧ cs = zs.map (.int .i64))
    (h : DataW.trod enc Try.prog w base spare held fuel t [c] = some x) : ∃ rows : List (List Int), (∀ r ∈ rows, r.length = sz) ∧ RepC (allOf w) (.sl (rows.flatten.map I) 0 rows.length) c := by
  rcases open_slice ht h with ⟨h0, _⟩ | ⟨a, len, cap, m, n, D, Pl, hcs, hb, hl, hm, hmm, hx, hi⟩
  · simp only [List.cons.injEq, and_true] at h0
    subst h0
    exact ⟨[], by simp, .inl ⟨rfl, .inr rfl⟩⟩
  · simp only [List.cons.injEq, and_true] at hcs
    subst hcs
    rw [hsz] at hi
    have hlm : len ≤ m := by rw [hmm]; split <;> omega
    have hall : ∀ i, ∃ zs : List Int, i < m → zs.length = sz ∧ ∀ j z, zs[j]? = some z → w.cell? (a.add (i * sz + j)) = some (.int .i64 z) := by
      intro i
      by_cases him : i < m
      · obtain ⟨cs', hc, ht'⟩ := hi i him
        obtain ⟨_, hcl, hat⟩ := World.cells?_some hc
        obtain ⟨zs, hz, rfl⟩ := hrow _ _ _ ht'
        refine ⟨zs, fun _ => ⟨hz, fun j z hj => ?_⟩⟩
        have hjl : j < zs.length := (List.getElem?_eq_some_iff.1 hj).1
        have := hat j (by omega)
        rw [Go.Deep.add_add] at this
        rw [this, List.getElem?_map, hj]
        rfl
      · exact ⟨[], fun h => absurd h him⟩
    obtain ⟨f, hf⟩ := Classical.skolem.1 hall
    by_cases hlen : len = 0
    · subst hlen
      exact ⟨[], by simp, .inl ⟨rfl, .inl ⟨a, cap, rfl⟩⟩⟩
    · have hr : ∀ r ∈ (List.range len).map f, r.length = sz := by
        intro r hr
        obtain ⟨i, hi1, rfl⟩ := List.mem_map.1 hr
        exact (hf i (by have := List.mem_range.1 hi1; omega)).1
      refine ⟨(List.range len).map f, hr, .inr ?_⟩
      obtain ⟨b, off, spot⟩ := a
      obtain ⟨h00, h01⟩ := hf 0 (by omega)
      have hz : ∃ z, (f 0)[0]? = some z := ⟨(f 0)[0], by simp⟩
      obtain ⟨z, hz⟩ := hz
      have hc0 := h01 0 z hz
      have hspot : spot = none := by simpa [Addr.add] using World.cell?_spot hc0
      subst hspot
      have plain : ∀ n, (⟨b, off, none⟩ : Addr).add n = ⟨b, off + n, none⟩ := fun n => by unfold Addr.add; split <;> simp_all
      rw [plain] at hc0
      cases hh : w.heap[b]? with
      | none => simp [World.cell?, hh] at hc0
      | some o =>
        cases o with
        | cells cs e fr =>
          refine ⟨b, off, cap, cs, e, fr, by simp, by simpa using hl, hh, repP_ints _ _ fun i z hz => ?_⟩
          obtain ⟨q, r, j, h1, h2, rfl⟩ := flat_get _ hr i z hz
          have hq : q < len := by have := (List.getElem?_eq_some_iff.1 h1).1; simpa using this
          have hrq : r = f q := by
            simp only [List.getElem?_map, List.getElem?_range hq, Option.map_some, Option.some.injEq] at h1
            exact h1.symm
          subst hrq
          have hc := (hf q (by omega)).2 j z h2
          rw [plain] at hc
          simp only [World.cell?, hh] at hc
          simpa using hc
        | _ => simp [World.cell?, hh] at hc0


def toBl (r : List Int) : Bl := ⟨r.getD 0 0, r.getD 1 0, r.getD 2 0⟩
theorem row_bl : ∀ {r : List Int}, r.length = 3 → rowBl (toBl r) = r.map I
  | [_, _, _], _ => rfl
theorem sl_rows {sz : Nat} {rows : List (List Int)} (hr : ∀ r ∈ rows, r.length = sz) {rs : List (List CV)} (he : rs = rows.map (·.map I)) : SlOf sz rs (rows.flatten.map I) 0 rows.length := by
  subst he
  refine ⟨by simp, fun i r h => ?_⟩
  have := Go.Ag.flat_sl (rows.map (·.map I)) (sz := sz) (fun r hr' => by
    obtain ⟨r0, h0, rfl⟩ := List.mem_map.1 hr'
    simpa using hr r0 h0) i r h
  rw [← List.map_flatten] at this
  exact this
theorem open_line {r : Reach} {b0 : Nat} {v : Value} {x : DataW H} {ps : List MemPlace} (hv : Value.okWide Try.prog w r b0 24 v) (h : DataW.Trod enc Try.prog w base spare held 24 v x ps) : ∃ (lv : LV) (c : Ln), lv.IsL c ∧ RepC (allOf w) (lv.cv c) v := by
  obtain ⟨cs, rfl, hsz⟩ := okWide_struct Try.underlying24 hv
  obtain ⟨fuel, hf⟩ := h
  obtain ⟨y0, y1, y2, y3, n, _, hl, h0, h1, h2, h3⟩ := Go.Joins.trod_struct4 Try.underlying24 hf
  dsimp only at h0 h1 h2 h3
  rw [cells3] at h1 h2 h3
  rw [cells22] at h0
  obtain ⟨l⟩ := cs
  match l, hsz.trans cells24 with
  | [c0, c1, c2, c3], _ =>
    obtain ⟨rs, hr1, hr2⟩ := open_rows (c := c0) Try.underlying22 cells43 (by decide) (fun _ _ _ h => bale_int h) h0
    obtain ⟨a, rfl⟩ := one_int h1
    obtain ⟨b, rfl⟩ := one_int h2
    obtain ⟨c, rfl⟩ := one_int h3
    have er : (rs.map toBl).map rowBl = rs.map (·.map I) := by
      rw [List.map_map]; exact List.map_congr_left fun r hr => row_bl (hr1 r hr)
    exact ⟨⟨rs.flatten.map I, 0, rs.length⟩, ⟨rs.map toBl, a, b, c⟩, ⟨sl_rows hr1 er⟩, ⟨_, rfl, rfl, hr2, rfl, rfl, rfl, trivial⟩⟩
end
theorem law_u8 {n : Int} (hn : (Lit.int .u8 n).wf = true) : ∃ w : Nat, n = w ∧ w < 256 := by
  have h2 : 0 ≤ n ∧ n < 256 := by
    have m0 : IntKind.u8.min = 0 := by decide
    have m1 : IntKind.u8.max = 255 := by decide
    simp [Lit.wf] at hn
    omega
  exact ⟨n.toNat, by omega, by omega⟩
end Go.Ag
/- Layer 6: what is told of a line, by its truths (no program here). -/
namespace Go.Ag
open Go.Proofs

theorem hit_span {up : Bool} {v : Int} : ∀ (l : List Nat) (s : Int × Int), Hit up (spanL l s) v ↔ Hit up s v ∨ ∃ w ∈ l, Hit up ((w : Nat), (w : Nat)) v
  | [], s => by simp [spanL]
  | w :: l, s => by
    show Hit up (spanL l (joinS s ((w : Nat), (w : Nat)))) v ↔ _
    rw [hit_span l, hit_join]
    simp only [List.mem_cons, exists_eq_or_imp, or_assoc]
theorem hit_spanF {up : Bool} {f : Co} {m v : Int} (hv : OkV up 0 v) : Hit up (spanF f m) v ↔ ∃ w : Nat, w ≤ 30 ∧ f w ≤ m ∧ Hit up ((w : Nat), (w : Nat)) v := by
  unfold spanF
  rw [hit_span]
  constructor
  · rintro (h | ⟨w, h1, h2⟩)
    · exact absurd h (hit_no hv)
    · have := mem_nums.1 h1
      exact ⟨w, by omega, this.2.2, h2⟩
  · rintro ⟨w, h1, h2, h3⟩
    exact .inr ⟨w, mem_nums.2 ⟨by omega, by omega, h2⟩, h3⟩
theorem spanF_lo {f : Co} {m v : Int} (hv : v < 181) : (spanF f m).1 ≤ v ↔ ∃ w : Nat, w ≤ 30 ∧ f w ≤ m ∧ (w : Int) ≤ v := hit_spanF (up := false) hv
theorem spanF_hi {f : Co} {m v : Int} (hv : -181 < v) : v ≤ (spanF f m).2 ↔ ∃ w : Nat, w ≤ 30 ∧ f w ≤ m ∧ v ≤ (w : Int) := hit_spanF (up := true) (by show -181 + 30 * ((0 : Nat) : Int) < v; omega)
/-- The span of what is not empty. -/
structure SpIs (f : Co) (m : Int) (s : Int × Int) (x y : Nat) : Prop where
  lo : s.1 = x
  hi : s.2 = y
  x30 : x ≤ 30
  y30 : y ≤ 30
  fx : f x ≤ m
  fy : f y ≤ m
  of : ∀ w, w ≤ 30 → f w ≤ m → x ≤ w ∧ w ≤ y
theorem span_is {f : Co} {m : Int} (h : ∃ w, w ≤ 30 ∧ f w ≤ m) : ∃ x y, SpIs f m (spanF f m) x y := by
  obtain ⟨w, hw, hf⟩ := h
  have a1 := (spanF_lo (f := f) (m := m) (v := w) (by omega)).2 ⟨w, hw, hf, Int.le_refl _⟩
  have a2 := (spanF_hi (f := f) (m := m) (v := w) (by omega)).2 ⟨w, hw, hf, Int.le_refl _⟩
  obtain ⟨x, x1, x2, x3⟩ := (spanF_lo (f := f) (m := m) (v := (spanF f m).1) (by omega)).1 (Int.le_refl _)
  obtain ⟨y, y1, y2, y3⟩ := (spanF_hi (f := f) (m := m) (v := (spanF f m).2) (by omega)).1 (Int.le_refl _)
  have b1 := (spanF_lo (f := f) (m := m) (v := x) (by omega)).2 ⟨x, x1, x2, Int.le_refl _⟩
  have b2 := (spanF_hi (f := f) (m := m) (v := y) (by omega)).2 ⟨y, y1, y2, Int.le_refl _⟩
  refine ⟨x, y, ⟨by omega, by omega, x1, y1, x2, y2, fun z z1 z2 => ?_⟩⟩
  have c1 := (spanF_lo (f := f) (m := m) (v := z) (by omega)).2 ⟨z, z1, z2, Int.le_refl _⟩
  have c2 := (spanF_hi (f := f) (m := m) (v := z) (by omega)).2 ⟨z, z1, z2, Int.le_refl _⟩
  omega
theorem can_iff {c : Ln} (hd : c.Good) : canT c = true ↔ ∃ ws, Tru c (allN c) c.mist ws := by
  have hk := hd.k1
  unfold canT possB
  rw [decide_eq_true_eq]
  exact can_tr hd.n1 (by omega)
theorem tru_get {c : Ln} {s : Nat} {m : Int} {ws : List Nat} (h : Tru c s m ws) {i : Nat} (hi : i < c.bales.length) : ∃ w, ws[i]? = some w ∧ w ≤ 30 := by
  have hl : i < ws.length := by rw [h.len, owns_len]; exact hi
  exact ⟨ws[i], List.getElem?_eq_getElem hl, h.top _ (List.getElem_mem _)⟩
/-- What is told of a bale's wrong fleeces. -/
structure WrIs (c : Ln) (i : Nat) (s : Int × Int) (x y : Nat) : Prop where
  lo : s.1 = x
  hi : s.2 = y
  lox : ∃ ws, Tru c (allN c) c.mist ws ∧ ws[i]? = some x
  hix : ∃ ws, Tru c (allN c) c.mist ws ∧ ws[i]? = some y
  of : ∀ ws w, Tru c (allN c) c.mist ws → ws[i]? = some w → x ≤ w ∧ w ≤ y
  le : x ≤ y
  y30 : y ≤ 30
theorem wr_is {c : Ln} (hd : c.Good) (hc : canT c = true) {i : Nat} (hi : i < c.bales.length) : ∃ x y, WrIs c i (spanF (thrF c false i) c.mist) x y := by
  have hk := hd.k1
  obtain ⟨ws, hw⟩ := (can_iff hd).1 hc
  obtain ⟨w, h1, h2⟩ := tru_get hw hi
  obtain ⟨x, y, s⟩ := span_is (f := thrF c false i) (m := c.mist) ⟨w, h2, (thr_tr hi h2 (by omega)).2 ⟨ws, hw, h1⟩⟩
  have ho : ∀ ws w, Tru c (allN c) c.mist ws → ws[i]? = some w → x ≤ w ∧ w ≤ y := fun ws w h1 h2 => by
    have h3 := h1.top w (List.mem_of_getElem? h2)
    exact s.of w h3 ((thr_tr hi h3 (by omega)).2 ⟨ws, h1, h2⟩)
  have := ho ws w hw h1
  exact ⟨x, y, s.lo, s.hi, (thr_tr hi s.x30 (by omega)).1 s.fx, (thr_tr hi s.y30 (by omega)).1 s.fy, ho, by omega, s.y30⟩
theorem costL_mem {l : List Co} (h0 : ∀ o ∈ l, ∀ w, 0 ≤ o w) : ∀ {xs : List Nat} {i : Nat} {o : Co} {x : Nat}, l[i]? = some o → xs[i]? = some x → o x ≤ costL l xs := by
  induction l with
  | nil => intro xs i o x h; simp at h
  | cons p l ih =>
    intro xs i o x h1 h2
    cases xs with
    | nil => simp at h2
    | cons y xs =>
      have z1 := h0 p (by simp) y
      have z2 := costL_0 (l := l) (xs := xs) (fun o ho => h0 o (by simp [ho]))
      cases i with
      | zero =>
        simp only [List.getElem?_cons_zero, Option.some.injEq] at h1 h2
        subst h1; subst h2
        simp only [costL]; omega
      | succ i =>
        have := ih (fun o ho => h0 o (by simp [ho])) (xs := xs) (i := i) (by simpa using h1) (by simpa using h2)
        simp only [costL]; omega
theorem own_at {c : Ln} {s i : Nat} (hi : i < c.bales.length) : (owns c s)[i]? = some (ownF c s i) := by
  unfold owns; rw [List.getElem?_map, List.getElem?_range hi]; rfl
theorem tru_own {c : Ln} {s : Nat} {m : Int} {ws : List Nat} (h : Tru c s m ws) {i w : Nat} (hi : i < c.bales.length) (hw : ws[i]? = some w) : ownF c s i w ≤ m := by
  have := costL_mem (owns_0 c s) (own_at hi) hw
  have := h.cost
  omega
theorem tru_f {c : Ln} {s : Nat} {m : Int} {ws : List Nat} (h : Tru c s m ws) (hm : m < 181) {i w : Nat} (hi : i < c.bales.length) (hw : ws[i]? = some w) : (w : Int) ≤ (baleAt c i).f := by
  have h1 := costB_f (tru_own h hi hw) hm
  unfold ownB at h1
  split at h1 <;> exact h1

/-! How sure. -/
theorem sure_2 (a e : Bool) : (sureN a e == 2) = a := by cases a <;> cases e <;> rfl
theorem sure_0 {a e : Bool} (h : a = true → e = true) : (sureN a e == 0) = !e := by cases a <;> cases e <;> first | rfl | (exact absurd (h rfl) (by decide))
theorem sure_b (a e : Bool) : 0 ≤ sureN a e ∧ sureN a e ≤ 2 := by cases a <;> cases e <;> decide
/-- What is told of a bale. -/
structure BaIs (c : Ln) (i : Nat) (a b k : Int) : Prop where
  wr : wrongR c i = ((a, b), 0)
  kp : keepsR c i = (k, 0)
  a0 : 0 ≤ a
  ab : a ≤ b
  bf : b ≤ (baleAt c i).f
  b30 : b ≤ 30
  k2 : (k == 2) = decide (b ≤ c.may)
  k0 : (k == 0) = decide (a > c.may)
  kb : 0 ≤ k ∧ k ≤ 2
  pr : provP c i = decide (a > c.may)
  lox : ∃ ws w, Tru c (allN c) c.mist ws ∧ ws[i]? = some w ∧ (w : Int) = a
  hix : ∃ ws w, Tru c (allN c) c.mist ws ∧ ws[i]? = some w ∧ (w : Int) = b
  of : ∀ ws w, Tru c (allN c) c.mist ws → ws[i]? = some w → a ≤ w ∧ (w : Int) ≤ b
  kn : keepsN (thrF c false i) c = k
theorem isB_of {c : Ln} {i : Nat} (hi : i < c.bales.length) : isB c i = true := by
  simp only [isB, inB', Bool.and_eq_true, decide_eq_true_eq]; omega
theorem ba_is {c : Ln} (hv : validL c = true) (hc : canT c = true) {i : Nat} (hi : i < c.bales.length) : ∃ a b k, BaIs c i a b k := by
  have hd := valid_good.1 hv
  have hk := hd.k1
  have hb := isB_of hi
  obtain ⟨x, y, h⟩ := wr_is hd hc hi
  obtain ⟨s, hs⟩ : ∃ s, s = spanF (thrF c false i) c.mist := ⟨_, rfl⟩
  have e : keepsN (thrF c false i) c = sureN (decide ((y : Int) ≤ c.may)) (decide ((x : Int) ≤ c.may)) := by unfold keepsN; rw [h.lo, h.hi]
  have himp : decide ((y : Int) ≤ c.may) = true → decide ((x : Int) ≤ c.may) = true := by
    intro h1; have := of_decide_eq_true h1; have := h.le; exact decide_eq_true (by omega)
  obtain ⟨w1, t1, q1⟩ := h.lox
  obtain ⟨w2, t2, q2⟩ := h.hix
  refine ⟨x, y, _, ⟨?_, ?_, by omega, by have := h.le; omega, ?_, by have := h.y30; omega, sure_2 _ _, (sure_0 himp).trans ?_, sure_b _ _, ?_, ⟨w1, x, t1, q1, rfl⟩, ⟨w2, y, t2, q2, rfl⟩, ?_, e⟩⟩
  · unfold wrongR lineRS orT
    rw [hv, hb, hc, Int.toNat_natCast]
    simp only [if_true]
    rw [Prod.ext_iff]
    exact ⟨Prod.ext_iff.2 ⟨h.lo, h.hi⟩, rfl⟩
  · unfold keepsR lineR orT
    rw [hv, hb, hc, Int.toNat_natCast, e]
    simp only [if_true]
  · exact tru_f t2 (by omega) hi q2
  · by_cases h3 : (x : Int) ≤ c.may
    · rw [decide_eq_true h3, decide_eq_false (by omega)]; rfl
    · rw [decide_eq_false h3, decide_eq_true (by omega)]; rfl
  · unfold provP
    by_cases h3 : (x : Int) ≤ c.may
    · rw [decide_eq_false (by omega), List.all_eq_false]
      have hx30 := h.le; have := h.y30
      exact ⟨x, mem_nums.2 ⟨by omega, by omega, (thr_tr hi (by omega) (by omega)).2 ⟨w1, t1, q1⟩⟩, by simp; omega⟩
    · rw [decide_eq_true (by omega), List.all_eq_true]
      intro w hw
      have hm := mem_nums.1 hw
      obtain ⟨ws, t, q⟩ := (thr_tr hi (by omega) (by omega)).1 hm.2.2
      have := h.of ws w t q
      simp; omega
  · intro ws w t q
    have := h.of ws w t q
    omega
/-- What is kept. -/
theorem keptE_ex {c : Ln} (hd : c.Good) (h : keptE c = true) : ∃ ws : List Nat, Tru c (allN c) c.mist ws ∧ ∀ x ∈ ws, (x : Int) ≤ c.may := by
  have hk := hd.k1; have hm := hd.m1; have hm0 := hd.m0
  unfold keptE at h
  obtain ⟨w, h1, h2, h3⟩ := (spanF_lo (by omega)).1 (of_decide_eq_true h)
  unfold thrF at h2
  rw [withF_both hd.n1] at h2
  obtain ⟨ws, q1, q2, q3, q4, q5⟩ := (both_le (owns_0 c _) (by rw [owns_len]; exact hd.n1) (by omega)).1 h2
  have htop : ∀ (j x : Nat), ws[j]? = some x → (x : Int) ≤ c.may := by
    intro j x hj
    by_cases h0 : j = 0
    · subst h0; rw [q2] at hj; cases hj; exact h3
    · have := q3 j x hj h0
      show (x : Int) ≤ c.may
      have : x ≤ c.may.toNat := this
      omega
  refine ⟨ws, ⟨q1, fun x hx => ?_, q4, q5⟩, fun x hx => ?_⟩
  · obtain ⟨j, hj⟩ := List.mem_iff_getElem?.1 hx
    have := htop j x hj; omega
  · obtain ⟨j, hj⟩ := List.mem_iff_getElem?.1 hx
    exact htop j x hj
theorem keptE_of {c : Ln} (hd : c.Good) {ws : List Nat} (h : Tru c (allN c) c.mist ws) (hm : ∀ x ∈ ws, (x : Int) ≤ c.may) : keptE c = true := by
  have hk := hd.k1; have hm1 := hd.m1; have hm0 := hd.m0
  obtain ⟨w, h1, h2⟩ := tru_get h hd.n1
  unfold keptE
  refine decide_eq_true ((spanF_lo (by omega)).2 ⟨w, h2, ?_, hm w (List.mem_of_getElem? h1)⟩)
  unfold thrF
  rw [withF_both hd.n1]
  refine (both_le (owns_0 c _) (by rw [owns_len]; exact hd.n1) (by omega)).2 ⟨ws, h.len, h1, fun j x hj _ => ?_, h.adj, h.cost⟩
  have := hm x (List.mem_of_getElem? hj)
  show x ≤ c.may.toNat
  omega

/-! Sums. -/
def sumF' (f : Nat → Int) : Nat → Int
  | 0 => 0
  | n + 1 => sumF' f n + f n
theorem sum_take_le {f : Nat → Int} {ws : List Nat} (h : ∀ (i w : Nat), ws[i]? = some w → f i ≤ w) : ∀ n, n ≤ ws.length → sumF' f n ≤ ((ws.take n).sum : Nat)
  | 0, _ => by simp [sumF']
  | n + 1, hn => by
    have := sum_take_le h n (by omega)
    obtain ⟨w, hw⟩ := get_some (l := ws) (k := n) (by omega)
    rw [List.take_add_one, hw, List.sum_append]
    have := h n w hw
    simp only [sumF', Option.toList_some, List.sum_cons, List.sum_nil]
    omega
theorem sum_take_ge {f : Nat → Int} {ws : List Nat} (h : ∀ (i w : Nat), ws[i]? = some w → (w : Int) ≤ f i) : ∀ n, n ≤ ws.length → ((ws.take n).sum : Nat) ≤ sumF' f n
  | 0, _ => by simp [sumF']
  | n + 1, hn => by
    have := sum_take_ge h n (by omega)
    obtain ⟨w, hw⟩ := get_some (l := ws) (k := n) (by omega)
    rw [List.take_add_one, hw, List.sum_append]
    have := h n w hw
    simp only [sumF', Option.toList_some, List.sum_cons, List.sum_nil]
    omega
theorem sum_180 {ws : List Nat} (h : ∀ x ∈ ws, x ≤ 30) : ws.sum ≤ 30 * ws.length := by
  induction ws with
  | nil => simp
  | cons x ws ih =>
    have := ih fun y hy => h y (by simp [hy])
    have := h x (by simp)
    simp only [List.sum_cons, List.length_cons]; omega
theorem tru_180 {c : Ln} (hd : c.Good) {s : Nat} {m : Int} {ws : List Nat} (h : Tru c s m ws) : ws.sum ≤ 180 := by
  have := sum_180 h.top
  have h1 := h.len
  rw [owns_len] at h1
  have := hd.n6
  omega
/-- What is told of all fleeces. -/
theorem all_is {c : Ln} (hd : c.Good) (hc : canT c = true) : ∃ x y : Nat, allS c = ((x : Int), (y : Int)) ∧ x ≤ y ∧ y ≤ 180 ∧ (∃ ws, Tru c (allN c) c.mist ws ∧ ws.sum = x) ∧ (∃ ws, Tru c (allN c) c.mist ws ∧ ws.sum = y) ∧ (∀ ws, Tru c (allN c) c.mist ws → x ≤ ws.sum ∧ ws.sum ≤ y) := by
  obtain ⟨ws, hw⟩ := (can_iff hd).1 hc
  have a0 := tru_180 hd hw
  have a1 := (all_lo hd (v := (ws.sum : Nat)) (by omega)).2 ⟨ws, hw, Int.le_refl _⟩
  have a2 := (all_hi hd (v := (ws.sum : Nat)) (by omega)).2 ⟨ws, hw, Int.le_refl _⟩
  obtain ⟨w1, t1, x1⟩ := (all_lo hd (v := (allS c).1) (by omega)).1 (Int.le_refl _)
  obtain ⟨w2, t2, x2⟩ := (all_hi hd (v := (allS c).2) (by omega)).1 (Int.le_refl _)
  have z1 := tru_180 hd t1
  have z2 := tru_180 hd t2
  have b1 := (all_lo hd (v := (w1.sum : Nat)) (by omega)).2 ⟨w1, t1, Int.le_refl _⟩
  have b2 := (all_hi hd (v := (w2.sum : Nat)) (by omega)).2 ⟨w2, t2, Int.le_refl _⟩
  refine ⟨w1.sum, w2.sum, Prod.ext_iff.2 ⟨by show (allS c).1 = ((w1.sum : Nat) : Int); omega, by show (allS c).2 = ((w2.sum : Nat) : Int); omega⟩, by omega, z2, ⟨w1, t1, rfl⟩, ⟨w2, t2, rfl⟩, fun v t => ?_⟩
  have z3 := tru_180 hd t
  have c1 := (all_lo hd (v := (v.sum : Nat)) (by omega)).2 ⟨v, t, Int.le_refl _⟩
  have c2 := (all_hi hd (v := (v.sum : Nat)) (by omega)).2 ⟨v, t, Int.le_refl _⟩
  omega
end Go.Ag
/- Layer 6: values that are compared; the law ClassKeeps. -/
namespace Go.Ag
open Go.Proofs
set_option maxRecDepth 100000

theorem eg4 : Try.prog.eqGuardType Try.prog.depth 4 = false := by kernel_rfl
theorem eq_bool (a b : Bool) : pureRun Try.prog (Op.equal 4 (.bool a) (.bool b)) = some (a == b) := by
  cases a <;> cases b <;> kernel_rfl
theorem bool_neq {o : Oper} {x y : Operand} {t2 : TypeId} {σ : Operand → AV} {a b : Bool} (ho : o.op = .binOp .neq 4 x y t2) (hx : σ x = .c (B a)) (hy : σ y = .c (B b)) (rd : Nat → AB) (n : Nat) :
    aop Try.prog o σ rd n = some (.simple { val := .c (B (a != b)) }) := by
  have vx : (σ x).toVal = some (.bool a) := by rw [hx]; rfl
  have vy : (σ y).toVal = some (.bool b) := by rw [hy]; rfl
  unfold aop
  rw [ho]
  simp only [abinOp, vx, vy, litBin]
  unfold pureOp
  have hv : (allVals σ o.op.operands.toList && notSelect o.op) = true := by
    rw [ho]; simp [Op.operands, allVals, vx, vy, notSelect]
  rw [if_pos hv]
  have hr : pureRun Try.prog (execOp (fun x => ((σ x).toVal).getD Go.undef) o) = some (.value (.bool (a != b))) := by
    unfold execOp
    rw [ho]
    simp only [vx, vy, Option.getD_some, eqGuard, binOp, pureRun_bind, pureRun_ite]
    simp [eq_bool, pureRun_pure, bne]
  rw [hr]
  rfl
theorem u35 : pureRun Try.prog (underlying 35) = some (.struct #[⟨"Lo", 3, 0, false, "", "", 0⟩, ⟨"Hi", 3, 1, false, "", "", 8⟩]) := by kernel_rfl
theorem st35 : Try.prog.stoodInHeld 35 = false := by kernel_rfl
theorem eq_span (a b a' b' : Int) : pureRun Try.prog (Op.equal 35 (.agg #[.int .i64 a, .int .i64 b]) (.agg #[.int .i64 a', .int .i64 b'])) = some (decide (a = a') && decide (b = b')) := by
  show pureRun Try.prog (Op.equalIn (9998 + 1 + 1) 35 _ _) = _
  rw [Op.equalIn.eq_def]
  simp only [pureRun_bind, u35, Option.bind_some, pp0, pureRun_ite, st35, Bool.false_eq_true, if_false]
  simp [pureRun_bind, pureRun_ite, partT ag3, eq_intT u3, pureRun_pure]
  by_cases h1 : a = a'
  · by_cases h2 : b = b'
    · simp [pureRun_bind, pureRun_ite, partT ag3, eq_intT u3, pureRun_pure, h1, h2]
    · simp [pureRun_bind, pureRun_ite, partT ag3, eq_intT u3, pureRun_pure, h1, h2]
  · simp [pureRun_pure, h1]
theorem eg35 : Try.prog.eqGuardType Try.prog.depth 35 = false := by kernel_rfl
theorem span_eql {o : Oper} {x y : Operand} {t2 : TypeId} {σ : Operand → AV} {a b c e : Int} (ho : o.op = .binOp .eql 35 x y t2) (hx : σ x = .c (.agg [I a, I b])) (hy : σ y = .c (.agg [I c, I e])) (rd : Nat → AB) (n : Nat) :
    aop Try.prog o σ rd n = some (.simple { val := .c (B (decide (a = c) && decide (b = e))) }) := by
  have vx : (σ x).toVal = some (.agg #[.int .i64 a, .int .i64 b]) := by rw [hx]; rfl
  have vy : (σ y).toVal = some (.agg #[.int .i64 c, .int .i64 e]) := by rw [hy]; rfl
  unfold aop
  rw [ho]
  simp only [abinOp, vx, vy, litBin]
  unfold pureOp
  have hv : (allVals σ o.op.operands.toList && notSelect o.op) = true := by
    rw [ho]; simp [Op.operands, allVals, vx, vy, notSelect]
  rw [if_pos hv]
  have hr : pureRun Try.prog (execOp (fun x => ((σ x).toVal).getD Go.undef) o) = some (.value (.bool (decide (a = c) && decide (b = e)))) := by
    unfold execOp
    rw [ho]
    simp only [vx, vy, Option.getD_some, eqGuard, binOp, pureRun_bind, pp0, Option.bind_some, pureRun_ite, eg35]
    simp [eq_span, pureRun_pure]
  rw [hr]
  rfl
theorem span_neq {o : Oper} {x y : Operand} {t2 : TypeId} {σ : Operand → AV} {a b c e : Int} (ho : o.op = .binOp .neq 35 x y t2) (hx : σ x = .c (.agg [I a, I b])) (hy : σ y = .c (.agg [I c, I e])) (rd : Nat → AB) (n : Nat) :
    aop Try.prog o σ rd n = some (.simple { val := .c (B (!(decide (a = c) && decide (b = e)))) }) := by
  have vx : (σ x).toVal = some (.agg #[.int .i64 a, .int .i64 b]) := by rw [hx]; rfl
  have vy : (σ y).toVal = some (.agg #[.int .i64 c, .int .i64 e]) := by rw [hy]; rfl
  unfold aop
  rw [ho]
  simp only [abinOp, vx, vy, litBin]
  unfold pureOp
  have hv : (allVals σ o.op.operands.toList && notSelect o.op) = true := by
    rw [ho]; simp [Op.operands, allVals, vx, vy, notSelect]
  rw [if_pos hv]
  have hr : pureRun Try.prog (execOp (fun x => ((σ x).toVal).getD Go.undef) o) = some (.value (.bool (!(decide (a = c) && decide (b = e))))) := by
    unfold execOp
    rw [ho]
    simp only [vx, vy, Option.getD_some, eqGuard, binOp, pureRun_bind, pp0, Option.bind_some, pureRun_ite, eg35]
    simp [eq_span, pureRun_pure]
  rw [hr]
  rfl
theorem bool_eql {o : Oper} {x y : Operand} {t2 : TypeId} {σ : Operand → AV} {a b : Bool} (ho : o.op = .binOp .eql 4 x y t2) (hx : σ x = .c (B a)) (hy : σ y = .c (B b)) (rd : Nat → AB) (n : Nat) :
    aop Try.prog o σ rd n = some (.simple { val := .c (B (a == b)) }) := by
  have vx : (σ x).toVal = some (.bool a) := by rw [hx]; rfl
  have vy : (σ y).toVal = some (.bool b) := by rw [hy]; rfl
  unfold aop
  rw [ho]
  simp only [abinOp, vx, vy, litBin]
  unfold pureOp
  have hv : (allVals σ o.op.operands.toList && notSelect o.op) = true := by
    rw [ho]; simp [Op.operands, allVals, vx, vy, notSelect]
  rw [if_pos hv]
  have hr : pureRun Try.prog (execOp (fun x => ((σ x).toVal).getD Go.undef) o) = some (.value (.bool (a == b))) := by
    unfold execOp
    rw [ho]
    simp only [vx, vy, Option.getD_some, eqGuard, binOp, pureRun_bind, pureRun_ite]
    simp [eq_bool, pureRun_pure, bne]
  rw [hr]
  rfl
theorem plain_val {hm : Bool} {o : Oper} {tmps : TMap AV} {ds : List ADef} {p : Pan} {rd : Option Nat} {h : Heap} {K : ASt → Prop} {X : AV → ASt → Prop} {v : AV} (ha : aop Try.prog o (evalF tmps) (fun _ => .dead) h.n = some (.simple { val := v })) (k : fin tmps ds p rd h o.dst v K) :
    wPlain Try.prog hm o tmps ds p rd h K X := by
  unfold wPlain
  rw [ha]
  exact k
theorem dplain_val {P : Program} {hm : Bool} {ops : Array Oper} {i : Nat} {o : Oper} {tmps : TMap AV} {ds : List ADef} {p : Pan} {rd : Option Nat} {h : Heap} {K : ASt → DRec → Prop} {v : AV} (ha : aop P o (evalF tmps) (fun _ => .dead) h.n = some (.simple { val := v }))
    (k : finD ops i o tmps ds p rd h h.n v [] [] none K) : dPlain P hm ops i o tmps ds p rd h K := by
  unfold dPlain
  rw [ha]
  exact k

/-! A line that no truth fits. -/
theorem no_wrong {c : Ln} (hv : validL c = true) (hc : canT c = false) {i : Nat} (hi : i < c.bales.length) : wrongR c i = ((0, 0), 10) := by
  unfold wrongR lineRS orT errT; rw [hv, isB_of hi, hc]; rfl
theorem no_keeps {c : Ln} (hv : validL c = true) (hc : canT c = false) {i : Nat} (hi : i < c.bales.length) : keepsR c i = (0, 10) := by
  unfold keepsR lineR orT errT; rw [hv, isB_of hi, hc]; rfl
theorem no_all {c : Ln} (hv : validL c = true) (hc : canT c = false) : allR c = ((0, 0), 10) := by
  unfold allR lineRS orT errT; rw [hv, hc]; rfl
theorem no_kept {c : Ln} (hv : validL c = true) (hc : canT c = false) : keptR c = (0, 10) := by
  unfold keptR lineR orT errT; rw [hv, hc]; rfl
theorem no_prov {c : Ln} (hv : validL c = true) (hc : canT c = false) : provR c = (0, 10) := by
  unfold provR lineR orT errT; rw [hv, hc]; rfl
/-- The first proof so far. -/
def prf (c : Ln) (q : Nat) : Int := match (List.range q).find? (provP c) with
  | some i => (i : Nat)
  | none => -1
theorem prf_zero (c : Ln) : prf c 0 = -1 := rfl
theorem prf_succ (c : Ln) (q : Nat) : prf c (q + 1) = if provP c q = true ∧ prf c q < 0 then ((q : Nat) : Int) else prf c q := by
  unfold prf
  rw [List.range_succ, List.find?_append]
  cases h : (List.range q).find? (provP c) with
  | some i => simp; omega
  | none =>
    cases hp : provP c q <;> simp [hp]
theorem prf_b (c : Ln) (q : Nat) : -1 ≤ prf c q ∧ prf c q < q + 1 := by
  unfold prf
  cases h : (List.range q).find? (provP c) with
  | some i =>
    have := List.mem_range.1 (List.mem_of_find?_eq_some h)
    dsimp only; omega
  | none => dsimp only; omega
structure KeepsIs (c : Ln) (t p : Int) (e : Int) (x y : Nat) : Prop where
  kept : keptR c = (t, 0)
  prov : provR c = (p, e)
  all : allR c = (((x : Int), (y : Int)), 0)
  t0 : 0 ≤ t
  t2 : t ≤ 2
  e0 : (e == 0) = decide (prf c c.bales.length ≥ 0)
  e1 : e = 0 → p = prf c c.bales.length
  e2 : e ≠ 0 → e = 4 ∧ p = 0
  tk : (t == 2) = keptA c c.bales.length
  tp : prf c c.bales.length ≥ 0 → t = 0
  xy : x ≤ y
  y180 : y ≤ 180
  lo : ∀ f : Nat → Int, (∀ i, i < c.bales.length → ∃ b k, BaIs c i (f i) b k) → sumF' f c.bales.length ≤ x
  hi : ∀ f : Nat → Int, (∀ i, i < c.bales.length → ∃ a k, BaIs c i a (f i) k) → y ≤ sumF' f c.bales.length
theorem keeps_is {c : Ln} (hv : validL c = true) (hc : canT c = true) : ∃ t p e x y, KeepsIs c t p e x y := by
  have hd := valid_good.1 hv
  obtain ⟨x, y, ha, hxy, h180, ⟨w1, t1, s1⟩, ⟨w2, t2, s2⟩, hof⟩ := all_is hd hc
  have hpr : (provR c).2 = (if prf c c.bales.length ≥ 0 then 0 else 4) ∧ (provR c).1 = (if prf c c.bales.length ≥ 0 then prf c c.bales.length else 0) := by
    unfold provR lineR orT errT prf provN
    rw [hv, hc]
    cases h : (List.range c.bales.length).find? (provP c) with
    | some i => simp [h]
    | none => simp [h]
  have hk : keptR c = (keptN c, 0) := by unfold keptR lineR orT; rw [hv, hc]; rfl
  have hal : allR c = (((x : Int), (y : Int)), 0) := by unfold allR lineRS orT; rw [hv, hc, ha]; rfl
  have hb := sure_b (keptA c c.bales.length) (keptE c)
  obtain ⟨h1, h2⟩ := hpr
  refine ⟨keptN c, (provR c).1, (provR c).2, x, y, ⟨hk, rfl, hal, hb.1, hb.2, ?_, ?_, ?_, sure_2 _ _, ?_, hxy, h180, ?_, ?_⟩⟩
  · rw [h1]; by_cases h : prf c c.bales.length ≥ 0
    · rw [if_pos h, decide_eq_true h]; rfl
    · rw [if_neg h, decide_eq_false h]; rfl
  · rw [h1, h2]; by_cases h : prf c c.bales.length ≥ 0
    · rw [if_pos h, if_pos h]; intro _; rfl
    · rw [if_neg h, if_neg h]; intro h; omega
  · rw [h1, h2]; by_cases h : prf c c.bales.length ≥ 0
    · rw [if_pos h]; intro h; omega
    · rw [if_neg h, if_neg h]; intro _; exact ⟨rfl, rfl⟩
  · intro h
    have : ∃ i, i < c.bales.length ∧ provP c i = true := by
      unfold prf at h
      cases hf : (List.range c.bales.length).find? (provP c) with
      | some i => exact ⟨i, List.mem_range.1 (List.mem_of_find?_eq_some hf), List.find?_some hf⟩
      | none => rw [hf] at h; dsimp only at h; omega
    obtain ⟨i, hi, hp⟩ := this
    obtain ⟨a, b, k, hB⟩ := ba_is hv hc hi
    have hgt : a > c.may := by rw [hB.pr] at hp; exact of_decide_eq_true hp
    have hA : keptA c c.bales.length = false := by
      unfold keptA
      rw [List.all_eq_false]
      refine ⟨i, List.mem_range.2 hi, ?_⟩
      rw [hB.kn, hB.k2]
      have := hB.ab
      simp; omega
    have hE : keptE c = false := by
      cases hE : keptE c with
      | false => rfl
      | true =>
        obtain ⟨ws, t, hm⟩ := keptE_ex hd hE
        obtain ⟨w, hw, _⟩ := tru_get t hi
        have := hB.of ws w t hw
        have := hm w (List.mem_of_getElem? hw)
        omega
    unfold keptN
    rw [hA, hE]; rfl
  · intro f hf
    have hl : w1.length = c.bales.length := by rw [t1.len, owns_len]
    have := sum_take_le (f := f) (ws := w1) (fun i w hw => by
      have hi : i < c.bales.length := by rw [← hl]; exact (List.getElem?_eq_some_iff.1 hw).1
      obtain ⟨b, k, hB⟩ := hf i hi
      exact (hB.of w1 w t1 hw).1) w1.length (Nat.le_refl _)
    rw [List.take_length, hl, s1] at this
    exact this
  · intro f hf
    have hl : w2.length = c.bales.length := by rw [t2.len, owns_len]
    have := sum_take_ge (f := f) (ws := w2) (fun i w hw => by
      have hi : i < c.bales.length := by rw [← hl]; exact (List.getElem?_eq_some_iff.1 hw).1
      obtain ⟨a, k, hB⟩ := hf i hi
      exact (hB.of w2 w t2 hw).2) w2.length (Nat.le_refl _)
    rw [List.take_length, hl, s2] at this
    exact this
end Go.Ag
