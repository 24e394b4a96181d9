/- Arguments of the laws of layer 8 read as data; what the two tables of math/bits hold, where the row lists them. No conditions. -/
import Derived.Test.YtbkbbkkmahenlaaGreatDoorAgC
import Derived.Test.YtbkbbkkmahenlaaGreatDoorPrF
import Derived.Deep.Slices
import Derived.Deep.Strs
import Derived.Lib.SmallJoins
import Derived.WideShapes
import Derived.ChangeSame
import Derived.OpenShut
import Derived.Test.YtbkbbkkmahenlaaGreatDoorRows
import Derived.LaidMore
import Derived.Lay
import Derived.Lib.LaidU8
/- Layer 8: arguments read as data; what the listed variables hold. -/
namespace Go.Ag
open Go.Proofs Go.ChangeShapes Go.WideShapes Go.Deep Go.RowKit
set_option maxRecDepth 100000

def I64 (z : Int) : Prop := -9223372036854775808 ≤ z ∧ z < 9223372036854775808
theorem flat_get {α : Type} {sz : Nat} : ∀ (rows : List (List α)) (_ : ∀ r ∈ rows, r.length = sz) (i : Nat) (z : α), rows.flatten[i]? = some z → ∃ q r j, rows[q]? = some r ∧ r[j]? = some z ∧ i = q * sz + j
  | [], _, i, z, h => by simp at h
  | r :: rows, hr, i, z, h => by
    have hl := hr r (by simp)
    by_cases hi : i < r.length
    · refine ⟨0, r, i, rfl, ?_, by omega⟩
      rw [List.flatten_cons, List.getElem?_append_left hi] at h
      exact h
    · rw [List.flatten_cons, List.getElem?_append_right (by omega)] at h
      obtain ⟨q, r', j, h1, h2, h3⟩ := flat_get rows (fun r hr' => hr r (by simp [hr'])) _ z h
      refine ⟨q + 1, r', j, by simpa using h1, h2, ?_⟩
      rw [Nat.add_mul]; omega
theorem repP_litz {Φ : Nat → Option Obj} : ∀ (zs : List Value) (vs : List Value), (∀ (i : Nat) (z : Value), zs[i]? = some z → vs[i]? = some z) → RepP Φ (zs.map CV.lit) vs
  | [], _, _ => trivial
  | z :: zs, [], h => by have := h 0 z rfl; simp at this
  | z :: zs, v :: vs, h => by
    have h0 := h 0 z rfl
    simp only [List.getElem?_cons_zero, Option.some.injEq] at h0
    exact ⟨h0, repP_litz zs vs fun i y hy => by have := h (i + 1) y (by simpa using hy); simpa using this⟩
theorem cells3 : Tryz.prog.cellsOf 3 = 1 := by kernel_rfl
theorem cells22 : Tryz.prog.cellsOf 22 = 1 := by kernel_rfl
theorem cells23 : Tryz.prog.cellsOf 23 = 1 := by kernel_rfl
theorem cells25 : Tryz.prog.cellsOf 25 = 5 := by kernel_rfl
theorem cells29 : Tryz.prog.cellsOf 29 = 2 := by kernel_rfl
theorem cells56 : Tryz.prog.cellsOf 56 = 3 := by kernel_rfl
theorem cells58 : Tryz.prog.cellsOf 58 = 3 := by kernel_rfl

section
variable {H : Type} {enc : TypeId × Value → H} {w : World} {base : Nat} {spare : Nat → Bool} {held : Bool}
theorem one_int {n : Nat} {c : Value} {y : DataW H × List MemPlace} (h : DataW.trod enc Tryz.prog w base spare held n 3 [c] = some y) : ∃ z : Int, c = .int .i64 z ∧ I64 z := by
  obtain ⟨z, hz, _, hw⟩ := DataW.trod_int Tryz.underlying3 h
  refine ⟨z, by simpa using hz, ?_⟩
  unfold Lit.wf at hw
  rw [Bool.and_eq_true, decide_eq_true_eq, decide_eq_true_eq] at hw
  have e1 : IntKind.i64.min = -9223372036854775808 := by decide
  have e2 : IntKind.i64.max = 9223372036854775807 := by decide
  rw [e1, e2] at hw
  exact ⟨hw.1, by omega⟩
def Q3i (cs : List Value) : Prop := ∃ a b c : Int, cs = [.int .i64 a, .int .i64 b, .int .i64 c]
theorem two_ints {n : Nat} {c d : Value} {y : DataW H × List MemPlace} (h : DataW.trod enc Tryz.prog w base spare held n 29 [c, d] = some y) : ∃ a b : Int, c = .int .i64 a ∧ d = .int .i64 b := by
  obtain ⟨y0, y1, m, _, hl, h0, h1⟩ := trod_struct2 Tryz.underlying29 h
  dsimp only at h0 h1
  rw [cells3] at h0 h1
  obtain ⟨a, rfl, ha⟩ := one_int h0
  obtain ⟨b, rfl, _⟩ := one_int h1
  exact ⟨a, b, rfl, rfl⟩
theorem fleece_row {n : Nat} {cs : List Value} {y : DataW H × List MemPlace} (h : DataW.trod enc Tryz.prog w base spare held n 58 cs = some y) : cs.length = 3 ∧ Q3i cs := by
  obtain ⟨y0, y1, m, _, hl, h0, h1⟩ := trod_struct2 Tryz.underlying58 h
  dsimp only at h0 h1
  rw [cells29] at h0
  rw [cells3] at h1
  match cs, hl.trans cells58 with
  | [c0, c1, c2], _ =>
    obtain ⟨a, b, rfl, rfl⟩ := two_ints h0
    obtain ⟨c, rfl, _⟩ := one_int h1
    exact ⟨rfl, a, b, c, rfl⟩
theorem bale_row {n : Nat} {cs : List Value} {y : DataW H × List MemPlace} (h : DataW.trod enc Tryz.prog w base spare held n 56 cs = some y) : cs.length = 3 ∧ Q3i cs := by
  obtain ⟨y0, y1, m, _, hl, h0, h1⟩ := trod_struct2 Tryz.underlying56 h
  dsimp only at h0 h1
  rw [cells3] at h0
  rw [cells29] at h1
  match cs, hl.trans cells56 with
  | [c0, c1, c2], _ =>
    obtain ⟨a, rfl, _⟩ := one_int h0
    obtain ⟨b, c, rfl, rfl⟩ := two_ints h1
    exact ⟨rfl, a, b, c, rfl⟩
theorem trod_five {P : Program} {t : TypeId} {f0 f1 f2 f3 f4 : Field} {fuel : Nat} {cs : List Value} {x : DataW H × List MemPlace} (ht : P.underlying t = some (.struct #[f0, f1, f2, f3, f4])) (h : DataW.trod enc P w base spare held fuel t cs = some x) :
    ∃ y0 y1 y2 y3 y4 n, cs.length = P.cellsOf t ∧ DataW.trod enc P w base spare held n f0.type ((cs.drop f0.offset).take (P.cellsOf f0.type)) = some y0 ∧
      DataW.trod enc P w base spare held n f1.type ((cs.drop f1.offset).take (P.cellsOf f1.type)) = some y1 ∧ DataW.trod enc P w base spare held n f2.type ((cs.drop f2.offset).take (P.cellsOf f2.type)) = some y2 ∧
      DataW.trod enc P w base spare held n f3.type ((cs.drop f3.offset).take (P.cellsOf f3.type)) = some y3 ∧ DataW.trod enc P w base spare held n f4.type ((cs.drop f4.offset).take (P.cellsOf f4.type)) = some y4 := by
  obtain ⟨xs, n, _, rfl, hl, hlen, hf⟩ := DataW.trod_struct ht h
  match xs, hlen with
  | [y0, y1, y2, y3, y4], _ => exact ⟨y0, y1, y2, y3, y4, n, hl, by simpa using hf 0 f0 rfl, by simpa using hf 1 f1 rfl, by simpa using hf 2 f2 rfl, by simpa using hf 3 f3 rfl, by simpa using hf 4 f4 rfl⟩
theorem open_rows {t e : TypeId} {sz fuel : Nat} {c : Value} {x : DataW H × List MemPlace} (ht : Tryz.prog.underlying t = some (.slice e)) (hsz : Tryz.prog.cellsOf e = sz) (hpos : 0 < sz)
    {Q : List Value → Prop} (hrow : ∀ n cs (x : DataW H × List MemPlace), DataW.trod enc Tryz.prog w base spare held n e cs = some x → cs.length = sz ∧ Q cs)
    (h : DataW.trod enc Tryz.prog w base spare held fuel t [c] = some x) : ∃ rows : List (List Value), (∀ r ∈ rows, r.length = sz ∧ Q r) ∧ RepC (allOf w) (.sl (rows.flatten.map CV.lit) 0 rows.length) c := by
  rcases open_slice ht h with ⟨h0, _⟩ | ⟨a, len, cap, m, n, D, Pl, hcs, hb, hl, hm, hmm, hx, hi⟩
  · simp only [List.cons.injEq, and_true] at h0
    subst h0
    exact ⟨[], by simp, .inl ⟨rfl, .inr rfl⟩⟩
  · simp only [List.cons.injEq, and_true] at hcs
    subst hcs
    rw [hsz] at hi
    have hlm : len ≤ m := by rw [hmm]; split <;> omega
    have hall : ∀ i, ∃ zs : List Value, i < m → (zs.length = sz ∧ Q zs) ∧ ∀ j z, zs[j]? = some z → w.cell? (a.add (i * sz + j)) = some z := by
      intro i
      by_cases him : i < m
      · obtain ⟨cs', hc, ht'⟩ := hi i him
        obtain ⟨_, hcl, hat⟩ := World.cells?_some hc
        refine ⟨cs', fun _ => ⟨hrow _ _ _ ht', fun j z hj => ?_⟩⟩
        have hjl : j < cs'.length := (List.getElem?_eq_some_iff.1 hj).1
        have := hat j (by omega)
        rw [Go.Deep.add_add] at this
        rw [this, hj]
      · exact ⟨[], fun h => absurd h him⟩
    obtain ⟨f, hf⟩ := Classical.skolem.1 hall
    by_cases hlen : len = 0
    · subst hlen
      exact ⟨[], by simp, .inl ⟨rfl, .inl ⟨a, cap, rfl⟩⟩⟩
    · have hr : ∀ r ∈ (List.range len).map f, r.length = sz ∧ Q r := by
        intro r hr
        obtain ⟨i, hi1, rfl⟩ := List.mem_map.1 hr
        exact (hf i (by have := List.mem_range.1 hi1; omega)).1
      refine ⟨(List.range len).map f, hr, .inr ?_⟩
      obtain ⟨b, off, spot⟩ := a
      obtain ⟨⟨h00, _⟩, h01⟩ := hf 0 (by omega)
      have hz : ∃ z, (f 0)[0]? = some z := ⟨(f 0)[0], by simp⟩
      obtain ⟨z, hz⟩ := hz
      have hc0 := h01 0 z hz
      have hspot : spot = none := by simpa [Addr.add] using World.cell?_spot hc0
      subst hspot
      have plain : ∀ n, (⟨b, off, none⟩ : Addr).add n = ⟨b, off + n, none⟩ := fun n => by unfold Addr.add; split <;> simp_all
      rw [plain] at hc0
      cases hh : w.heap[b]? with
      | none => simp [World.cell?, hh] at hc0
      | some o =>
        cases o with
        | cells cs e fr =>
          refine ⟨b, off, cap, cs, e, fr, by simp, by simpa using hl, hh, repP_litz _ _ fun i z hz => ?_⟩
          obtain ⟨q, r, j, h1, h2, rfl⟩ := flat_get _ (fun r h => (hr r h).1) i z hz
          have hq : q < len := by have := (List.getElem?_eq_some_iff.1 h1).1; simpa using this
          have hrq : r = f q := by
            simp only [List.getElem?_map, List.getElem?_range hq, Option.map_some, Option.some.injEq] at h1
            exact h1.symm
          subst hrq
          have hc := (hf q (by omega)).2 j z h2
          rw [plain] at hc
          simp only [World.cell?, hh] at hc
          simpa using hc
        | _ => simp [World.cell?, hh] at hc0
/-- Rows as data. -/
theorem rows_data {α : Type} {sz : Nat} {Q : List Value → Prop} (row : α → List CV) (R : α → Prop) (hQ : ∀ r, Q r → ∃ x, r.map CV.lit = row x ∧ R x) : ∀ rows : List (List Value), (∀ r ∈ rows, r.length = sz ∧ Q r) →
    ∃ l : List α, rows.map (·.map CV.lit) = l.map row ∧ (∀ x ∈ l, R x) ∧ l.length = rows.length
  | [], _ => ⟨[], rfl, by simp, rfl⟩
  | r :: rows, h => by
    obtain ⟨x, h1, h2⟩ := hQ r (h r (by simp)).2
    obtain ⟨l, h3, h4, h5⟩ := rows_data (sz := sz) row R hQ rows (fun r hr => h r (by simp [hr]))
    exact ⟨x :: l, by rw [List.map_cons, List.map_cons, h1, h3], List.forall_mem_cons.2 ⟨h2, h4⟩, by simp [h5]⟩
theorem rows_sl {α : Type} {sz : Nat} {row : α → List CV} {rows : List (List Value)} {l : List α} (hr : ∀ r ∈ rows, r.length = sz) (he : rows.map (·.map CV.lit) = l.map row) : SlOf sz (l.map row) (rows.flatten.map CV.lit) 0 rows.length := by
  rw [← he]
  have := sl_flat (sz := sz) (rows := rows.map (·.map CV.lit)) (fun r h => by
    obtain ⟨r0, h0, rfl⟩ := List.mem_map.1 h
    simpa using hr r0 h0)
  rw [List.length_map, ← List.map_flatten] at this
  exact this
theorem open_press {r : Reach} {b0 : Nat} {v : Value} {x : DataW H} {ps : List MemPlace} (hv : Value.okWide Tryz.prog w r b0 25 v) (h : DataW.Trod enc Tryz.prog w base spare held 25 v x ps) : ∃ (bv : PV) (c : Pr), bv.IsL c ∧ RepC (allOf w) (bv.cv c) v := by
  obtain ⟨cs, rfl, hsz⟩ := okWide_struct Tryz.underlying25 hv
  obtain ⟨fuel, hf⟩ := h
  obtain ⟨y0, y1, y2, y3, y4, n, hl, h0, h1, h2, h3, h4⟩ := trod_five Tryz.underlying25 hf
  dsimp only at h0 h1 h2 h3 h4
  rw [cells22] at h0
  rw [cells3] at h1 h2 h3
  rw [cells23] at h4
  obtain ⟨l⟩ := cs
  match l, hsz.trans cells25 with
  | [c0, c1, c2, c3, c4], _ =>
    obtain ⟨lo, rfl, _⟩ := one_int h1
    obtain ⟨top, rfl, _⟩ := one_int h2
    obtain ⟨bales, rfl, _⟩ := one_int h3
    obtain ⟨rb, hb1, hb2⟩ := open_rows (c := c0) (Q := Q3i) Tryz.underlying22 cells58 (by decide) (fun _ _ _ h => fleece_row h) h0
    obtain ⟨rt, ht1, ht2⟩ := open_rows (c := c4) (Q := Q3i) Tryz.underlying23 cells56 (by decide) (fun _ _ _ h => bale_row h) h4
    obtain ⟨lb, q1, q2, q3⟩ := rows_data rowF (fun _ => True) (fun r ⟨a, b, c, e⟩ => ⟨(a, b, c), by rw [e]; rfl, trivial⟩) rb hb1
    obtain ⟨lt, q4, q5, q6⟩ := rows_data rowF (fun _ => True) (fun r ⟨a, b, c, e⟩ => ⟨(a, b, c), by rw [e]; rfl, trivial⟩) rt ht1
    exact ⟨⟨rb.flatten.map CV.lit, 0, rb.length, rt.flatten.map CV.lit, 0, rt.length⟩, ⟨lb, lo, top, bales, lt⟩, ⟨rows_sl (fun r h => (hb1 r h).1) q1, rows_sl (fun r h => (ht1 r h).1) q4⟩, ⟨_, rfl, rfl, hb2, rfl, rfl, rfl, ht2, trivial⟩⟩
end
abbrev laidD : List (String × DataW Unit) := [("math/bits.deBruijn32tab", YtbkbbkkmahenlaaGreatDoor.Rows.laid_math_bits_deBruijn32tab), ("math/bits.deBruijn64tab", YtbkbbkkmahenlaaGreatDoor.Rows.laid_math_bits_deBruijn64tab)]
def tab64 : List (DataW Unit) := zerosTab.map fun n => .lit (.int .u8 (Int.ofNat n))
theorem tab_eq : (YtbkbbkkmahenlaaGreatDoor.Rows.laid_math_bits_deBruijn64tab : DataW Unit) = .agg tab64 := by rfl
theorem glob_ok {W : World} (h : laidMetH Tryz.prog laidD W) : GlobOk (allOf W) := by
  rw [MakeChecks.laidMetH_plain _ _ _ (by kernel_rfl)] at h
  obtain ⟨g, t, cs, fuel, p, hg, ht, hv, hd⟩ := Go.Lib.laidMet.reads h (n := "math/bits.deBruijn64tab") (d := .agg tab64) (by rw [← tab_eq]; simp [laidD])
  obtain rfl := Option.some.inj ((show Tryz.prog.globalNamed "math/bits.deBruijn64tab" = some 1 by kernel_rfl).symm.trans hg)
  have hu : ((Tryz.prog.globals[1]?).map (·.type)).bind Tryz.prog.underlying = some (.array 64 5) := by kernel_rfl
  rw [ht] at hu
  have hu : Tryz.prog.underlying t = some (.array 64 5) := hu
  have c5 : Tryz.prog.cellsOf 5 = 1 := by kernel_rfl
  have hcell : ∀ i (z : Nat), zerosTab[i]? = some z → W.cell? ⟨1, i, none⟩ = some (.int .u8 (Int.ofNat z)) := by
    intro i z hz
    have hi : i < 64 := (List.getElem?_eq_some_iff.1 hz).1
    obtain ⟨fuel', d, q, h1, h2⟩ := Go.Lib.array_elem hu hd i hi
    rw [c5, Nat.mul_one] at h2
    obtain ⟨y, e1, e2, _⟩ := DataW.trod_int Tryz.underlying5 h2
    obtain ⟨rfl, rfl⟩ := Prod.mk.inj e2
    unfold tab64 at h1
    rw [List.getElem?_map, hz] at h1
    have h1 := Option.some.inj h1
    simp only [DataW.lit.injEq, Lit.int.injEq, true_and] at h1
    rw [World.var?_cell hg hv i]
    have h0 : ((cs.toList.drop i).take 1)[0]? = some (.int .u8 y) := by rw [e1]; rfl
    have : cs.toList[i]? = some (.int .u8 y) := by simpa using h0
    rw [← h1] at this
    simpa using this
  intro k
  match k with
  | 0 => exact trivial
  | 1 =>
    have h0 := hcell 0 0 rfl
    cases hh : W.heap[1]? with
    | none => simp [World.cell?, hh] at h0
    | some o =>
      cases o with
      | cells cs e fr =>
        refine ⟨1, 0, cs, e, fr, rfl, hh, ?_⟩
        have := repP_litz (Φ := allOf W) (zerosTab.map fun n => Value.int .u8 (Int.ofNat n)) (cs.toList.drop 0) (fun i z hz => by
          rw [List.getElem?_map] at hz
          obtain ⟨n, hn, rfl⟩ := Option.map_eq_some_iff.1 hz
          have hc := hcell i n hn
          simp only [World.cell?, hh] at hc
          simpa using hc)
        rw [List.map_map] at this
        exact this
      | _ => simp [World.cell?, hh] at h0
  | k + 2 => exact trivial
end Go.Ag
