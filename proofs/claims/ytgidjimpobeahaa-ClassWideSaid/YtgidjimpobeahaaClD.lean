/- Contracts of functions of layer 6: totals; what All returns, and what that is by the truths. No conditions. -/
import Derived.Test.YtgidjimpobeahaaClC
/- Layer 6: totals, as cells. -/
namespace Go.Ag
open Go.Proofs
set_option maxRecDepth 100000

/-- Totals, by the number of the last bale and by mistakes. -/
abbrev TT := Nat → Nat → Int × Int
def spC (s : Int × Int) : List CV := [I s.1, I s.2]
def rowC (r : Nat → Int × Int) : List CV := ((List.range 7).map fun k => spC (r k)).flatten
def totC (t : TT) : List CV := ((List.range 31).map fun w => rowC (t w)).flatten
theorem flat_split (f : Nat → List CV) {n w : Nat} (h : w < n) : ((List.range n).map f).flatten = ((List.range w).map f).flatten ++ (f w ++ ((List.range' (w + 1) (n - 1 - w)).map f).flatten) := by
  have : List.range n = List.range w ++ w :: List.range' (w + 1) (n - 1 - w) := by
    rw [List.range_eq_range', List.range_eq_range', ← List.range'_succ]
    have := List.range'_append (s := 0) (m := w) (n := n - w) (step := 1)
    simp only [Nat.one_mul, Nat.zero_add] at this
    rw [show n - 1 - w + 1 = n - w by omega, this, show w + (n - w) = n by omega]
  rw [this, List.map_append, List.flatten_append]; simp
theorem flat_n {f : Nat → List CV} {z : Nat} (hf : ∀ k, (f k).length = z) (l : List Nat) : (l.map f).flatten.length = l.length * z := by
  rw [flat_len (sz := z) (l.map f) (fun r hr => by obtain ⟨k, -, rfl⟩ := List.mem_map.1 hr; exact hf k)]; simp
theorem rowC_len (r : Nat → Int × Int) : (rowC r).length = 14 := by unfold rowC; rw [flat_n (z := 2) (fun _ => rfl)]; simp
theorem totC_len (t : TT) : (totC t).length = 434 := by unfold totC; rw [flat_n (z := 14) (fun w => rowC_len (t w))]; simp
theorem row_sl (r : Nat → Int × Int) {k : Nat} (hk : k < 7) : sliceOf (rowC r) (0 + k * 2) 2 = some (spC (r k)) :=
  flat_sl _ (fun x hx => by obtain ⟨k, -, rfl⟩ := List.mem_map.1 hx; rfl) k _ (by rw [List.getElem?_map, List.getElem?_range hk]; rfl)
theorem tot_sl (t : TT) {w : Nat} (hw : w < 31) : sliceOf (totC t) (0 + w * 14) 14 = some (rowC (t w)) :=
  flat_sl _ (fun x hx => by obtain ⟨k, -, rfl⟩ := List.mem_map.1 hx; exact rowC_len _) w _ (by rw [List.getElem?_map, List.getElem?_range hw]; rfl)
def setT (t : TT) (w k : Nat) (x : Int × Int) : TT := fun a b => if a = w ∧ b = k then x else t a b
theorem tot_split (t : TT) {w k : Nat} (hw : w < 31) (hk : k < 7) : ∃ A R : List CV, A.length = w * 14 + k * 2 ∧ ∀ x, totC (setT t w k x) = A ++ (spC x ++ R) := by
  refine ⟨((List.range w).map fun w => rowC (t w)).flatten ++ ((List.range k).map fun j => spC (t w j)).flatten, ((List.range' (k + 1) (7 - 1 - k)).map fun j => spC (t w j)).flatten ++ ((List.range' (w + 1) (31 - 1 - w)).map fun w => rowC (t w)).flatten, ?_, fun x => ?_⟩
  · rw [List.length_append, flat_n (z := 14) (fun w => rowC_len (t w)), flat_n (z := 2) (fun _ => rfl)]; simp
  · unfold totC
    rw [flat_split (fun v => rowC (setT t w k x v)) hw]
    have e1 : (List.range w).map (fun v => rowC (setT t w k x v)) = (List.range w).map fun v => rowC (t v) := List.map_congr_left fun v hv => by
      have := List.mem_range.1 hv
      have : setT t w k x v = t v := by funext j; unfold setT; rw [if_neg (by omega)]
      rw [this]
    have e2 : (List.range' (w + 1) (31 - 1 - w)).map (fun v => rowC (setT t w k x v)) = (List.range' (w + 1) (31 - 1 - w)).map fun v => rowC (t v) := List.map_congr_left fun v hv => by
      have := (List.mem_range'_1.1 hv).1
      have : setT t w k x v = t v := by funext j; unfold setT; rw [if_neg (by omega)]
      rw [this]
    have e3 : rowC (setT t w k x w) = ((List.range k).map fun j => spC (t w j)).flatten ++ (spC x ++ ((List.range' (k + 1) (7 - 1 - k)).map fun j => spC (t w j)).flatten) := by
      unfold rowC
      rw [flat_split (fun j => spC (setT t w k x w j)) hk]
      have f1 : (List.range k).map (fun j => spC (setT t w k x w j)) = (List.range k).map fun j => spC (t w j) := List.map_congr_left fun j hj => by
        have := List.mem_range.1 hj
        have : setT t w k x w j = t w j := by unfold setT; rw [if_neg (by omega)]
        rw [this]
      have f2 : (List.range' (k + 1) (7 - 1 - k)).map (fun j => spC (setT t w k x w j)) = (List.range' (k + 1) (7 - 1 - k)).map fun j => spC (t w j) := List.map_congr_left fun j hj => by
        have := (List.mem_range'_1.1 hj).1
        have : setT t w k x w j = t w j := by unfold setT; rw [if_neg (by omega)]
        rw [this]
      have f3 : setT t w k x w k = x := by unfold setT; rw [if_pos ⟨rfl, rfl⟩]
      rw [f1, f2, f3]
    rw [e1, e2, e3]
    simp only [List.append_assoc]
theorem setT_self (t : TT) (w k : Nat) : setT t w k (t w k) = t := by
  funext a b; unfold setT; split
  · rename_i h; rw [h.1, h.2]
  · rfl
theorem tot_at (t : TT) {w k : Nat} (hw : w < 31) (hk : k < 7) : sliceOf (totC t) (0 + w * 14 + k * 2) 2 = some (spC (t w k)) := by
  obtain ⟨A, R, h1, h2⟩ := tot_split t hw hk
  have := h2 (t w k)
  rw [setT_self] at this
  rw [this]
  unfold sliceOf
  rw [show 0 + w * 14 + k * 2 = A.length by omega, List.drop_left]
  rfl
theorem tot_put (t : TT) {w k : Nat} (hw : w < 31) (hk : k < 7) (x : Int × Int) : putAt ((totC t).map AV.c) (0 + w * 14 + k * 2) [.c (I x.1), .c (I x.2)] = some ((totC (setT t w k x)).map AV.c) := by
  obtain ⟨A, R, h1, h2⟩ := tot_split t hw hk
  have e := h2 (t w k)
  rw [setT_self] at e
  rw [e, h2 x]
  have := put_at (a := A.map AV.c) (b := (spC (t w k)).map AV.c) (r := R.map AV.c) (v := [.c (I x.1), .c (I x.2)]) (n := 0 + w * 14 + k * 2) (by rw [List.length_map]; omega) rfl
  simp only [List.map_append] at this ⊢
  exact this
theorem tot_lits (t : TT) : ∀ x ∈ totC t, ∃ n, x = I n := by
  intro x hx
  unfold totC rowC at hx
  simp only [List.mem_flatten, List.mem_map] at hx
  obtain ⟨_, ⟨w, -, rfl⟩, hx⟩ := hx
  simp only [List.mem_flatten, List.mem_map] at hx
  obtain ⟨_, ⟨k, -, rfl⟩, hx⟩ := hx
  simp only [spC, List.mem_cons, List.not_mem_nil, or_false] at hx
  rcases hx with rfl | rfl <;> exact ⟨_, rfl⟩
theorem ints_ce {l : List CV} (h : ∀ x ∈ l, ∃ n, x = I n) : (l.map AV.c).all AV.cellish = true := by
  rw [List.all_eq_true]
  intro c hc
  obtain ⟨x, hx, rfl⟩ := List.mem_map.1 hc
  obtain ⟨n, rfl⟩ := h x hx
  rfl
theorem ints_plain {l : List CV} (h : ∀ x ∈ l, ∃ n, x = I n) : (CV.agg l).plain = true := by
  show CV.plains l = true
  induction l with
  | nil => rfl
  | cons a l ih =>
    obtain ⟨n, rfl⟩ := h a (by simp)
    exact ih fun x hx => h x (by simp [hx])
/-- These cells are these totals. -/
def Tot (D : List CV) (t : TT) : Prop := D = totC t
theorem tot_ex (t : TT) : ∃ D, Tot D t := ⟨_, rfl⟩
def totB (t : TT) : AB := .blk ((totC t).map .c)
theorem totB_ex (t : TT) : ∃ D, Tot D t ∧ totB t = AB.blk (D.map .c) := ⟨_, rfl, rfl⟩
theorem Tot.blk {D : List CV} {t : TT} (h : Tot D t) : AB.blk (D.map .c) = totB t := by rw [h]; rfl
theorem Tot.len {D : List CV} {t : TT} (h : Tot D t) : D.length = 434 := by rw [h, totC_len]
theorem Tot.lits {D : List CV} {t : TT} (h : Tot D t) : ∀ x ∈ D, ∃ n, x = I n := by rw [h]; exact tot_lits t
theorem Tot.ce {D : List CV} {t : TT} (h : Tot D t) : (D.map AV.c).all AV.cellish = true := ints_ce h.lits
theorem Tot.sz {D : List CV} {t : TT} (h : Tot D t) : (AV.c (.agg D)).cells.length = 434 ∧ (AV.c (.agg D)).cells.all AV.cellish = true := ⟨by show (D.map AV.c).length = 434; rw [List.length_map, h.len], h.ce⟩
theorem rv100 (cells : List CV) (off : Nat) : readVarC Try.prog 100 cells off = (sliceOf cells off 434).map .agg := rfl
theorem rv98 (cells : List CV) (off : Nat) : readVarC Try.prog 98 cells off = (sliceOf cells off 14).map .agg := rfl
theorem rv35 (cells : List CV) (off : Nat) : readVarC Try.prog 35 cells off = (sliceOf cells off 2).map .agg := rfl
theorem Tot.rd {D : List CV} {t : TT} (h : Tot D t) : readVar Try.prog 100 (D.map AV.c) 0 = some (.c (.agg D)) := readVar_map (by rw [rv100, sl_all h.len]; rfl)
theorem Tot.put {D E : List CV} {t u : TT} (h : Tot D t) (k : Tot E u) : putAt (E.map AV.c) 0 (D.map AV.c) = some (D.map AV.c) := put_all (by rw [List.length_map, List.length_map, h.len, k.len])
theorem Tot.at {D : List CV} {t : TT} (h : Tot D t) {w k : Nat} (hw : w < 31) (hk : k < 7) : readVar Try.prog 35 (D.map AV.c) (0 + (w : Int).toNat * 14 + (k : Int).toNat * 2) = some (.c (spV (t w k))) := by
  refine readVar_map ?_
  rw [h, rv35, Int.toNat_natCast, Int.toNat_natCast, tot_at t hw hk]; rfl
theorem Tot.put1 {D : List CV} {t : TT} (h : Tot D t) {w k : Nat} (hw : w < 31) (hk : k < 7) (x : Int × Int) : ∃ E, Tot E (setT t w k x) ∧ putAt (D.map AV.c) (0 + (w : Int).toNat * 14 + (k : Int).toNat * 2) [.c (I x.1), .c (I x.2)] = some (E.map AV.c) :=
  ⟨_, rfl, by rw [h, Int.toNat_natCast, Int.toNat_natCast]; exact tot_put t hw hk x⟩
theorem Tot.congr {D : List CV} {t u : TT} (h : Tot D t) (k : ∀ w j, w < 31 → j < 7 → t w j = u w j) : Tot D u := by
  unfold Tot; rw [h]; unfold totC
  congr 1
  apply List.map_congr_left
  intro w hw
  unfold rowC
  congr 1
  apply List.map_congr_left
  intro j hj
  rw [k w j (List.mem_range.1 hw) (List.mem_range.1 hj)]
/-- A row of totals. -/
def Row (D : List CV) (r : Nat → Int × Int) : Prop := D = rowC r
theorem row_ex (r : Nat → Int × Int) : ∃ D, Row D r := ⟨_, rfl⟩
theorem Row.len {D : List CV} {r : Nat → Int × Int} (h : Row D r) : D.length = 14 := by rw [h, rowC_len]
theorem Row.lits {D : List CV} {r : Nat → Int × Int} (h : Row D r) : ∀ x ∈ D, ∃ n, x = I n := by
  rw [h]
  intro x hx
  unfold rowC at hx
  simp only [List.mem_flatten, List.mem_map] at hx
  obtain ⟨_, ⟨k, -, rfl⟩, hx⟩ := hx
  simp only [spC, List.mem_cons, List.not_mem_nil, or_false] at hx
  rcases hx with rfl | rfl <;> exact ⟨_, rfl⟩
theorem Row.ce {D : List CV} {r : Nat → Int × Int} (h : Row D r) : (D.map AV.c).all AV.cellish = true := ints_ce h.lits
theorem Row.sz {D : List CV} {r : Nat → Int × Int} (h : Row D r) : (AV.c (.agg D)).cells.length = 14 ∧ (AV.c (.agg D)).cells.all AV.cellish = true := ⟨by show (D.map AV.c).length = 14; rw [List.length_map, h.len], h.ce⟩
theorem Row.rd {D : List CV} {r : Nat → Int × Int} (h : Row D r) : readVar Try.prog 98 (D.map AV.c) 0 = some (.c (.agg D)) := readVar_map (by rw [rv98, sl_all h.len]; rfl)
def zT : TT := fun _ _ => (0, 0)
def zR : Nat → Int × Int := fun _ => (0, 0)
theorem Row.put {D E : List CV} {r u : Nat → Int × Int} (h : Row D r) (k : Row E u) : putAt (E.map AV.c) 0 (D.map AV.c) = some (D.map AV.c) := put_all (by rw [List.length_map, List.length_map, h.len, k.len])
theorem isArr100 : isArr Try.prog 100 = true := by kernel_rfl
theorem isArr98 : isArr Try.prog 98 = true := by kernel_rfl
theorem u100 : Try.prog.underlying 100 = some (.array 31 98) := by kernel_rfl
theorem u98 : Try.prog.underlying 98 = some (.array 7 35) := by kernel_rfl
theorem info98 : ∃ inf, Try.prog.info? 98 = some inf ∧ inf.size = 14 := ⟨_, rfl, rfl⟩
theorem info35 : ∃ inf, Try.prog.info? 35 = some inf ∧ inf.size = 2 := ⟨_, rfl, rfl⟩
theorem aop_index100 {o : Oper} {x y : Operand} {σ : Operand → AV} {rd : Nat → AB} {n : Nat} {D R : List CV} {t : TT} {w : Nat} (ho : o.op = .index 100 x y) (hx : σ x = .c (.agg D)) (hy : σ y = .c (I w)) (hD : Tot D t) (hR : Row R (t w)) (hw : w < 31) :
    aop Try.prog o σ rd n = some (.simple { val := .c (.agg R) }) := by
  obtain ⟨inf, i1, i2⟩ := info98
  have hr : readVar Try.prog 98 (D.map AV.c) ((w : Int).toNat * 14) = some (.c (.agg R)) := by
    refine readVar_map ?_
    have := tot_sl t hw
    rw [Nat.zero_add] at this
    rw [hD, rv98, Int.toNat_natCast, this, hR]; rfl
  rw [← i2] at hr
  unfold aop
  rw [ho]
  simp only [isArr100, hx, hy, aindex, asInt, u100, i1]
  rw [if_pos (by omega), hr]
  rfl
theorem aop_index98 {o : Oper} {x y : Operand} {σ : Operand → AV} {rd : Nat → AB} {n : Nat} {R : List CV} {r : Nat → Int × Int} {k : Nat} (ho : o.op = .index 98 x y) (hx : σ x = .c (.agg R)) (hy : σ y = .c (I k)) (hR : Row R r) (hk : k < 7) :
    aop Try.prog o σ rd n = some (.simple { val := .c (spV (r k)) }) := by
  obtain ⟨inf, i1, i2⟩ := info35
  have hr : readVar Try.prog 35 (R.map AV.c) ((k : Int).toNat * 2) = some (.c (spV (r k))) := by
    refine readVar_map ?_
    have := row_sl r hk
    rw [Nat.zero_add] at this
    rw [hR, rv35, Int.toNat_natCast, this]; rfl
  rw [← i2] at hr
  unfold aop
  rw [ho]
  simp only [isArr98, hx, hy, aindex, asInt, u98, i1]
  rw [if_pos (by omega), hr]
  rfl
end Go.Ag
/- Layer 6: totals of nothing, and before the first bale. -/
namespace Go.Ag
open Go.Proofs
set_option maxRecDepth 100000

def noT : TT := fun _ _ => noS
def upT (x : Int × Int) (u : TT) (q r : Nat) : TT := fun w k => if w < q ∨ (w = q ∧ k < r) then x else u w k
theorem upT_set (x : Int × Int) (u : TT) (q r : Nat) : setT (upT x u q r) q r x = upT x u q (r + 1) := by
  funext w k
  unfold setT upT
  by_cases h1 : w = q ∧ k = r
  · rw [if_pos h1, if_pos (by omega)]
  · rw [if_neg h1]
    by_cases h2 : w < q ∨ (w = q ∧ k < r)
    · rw [if_pos h2, if_pos (by omega)]
    · rw [if_neg h2, if_neg (by omega)]
theorem upT_row (x : Int × Int) (u : TT) (q : Nat) : ∀ w j, w < 31 → j < 7 → upT x u q 7 w j = upT x u (q + 1) 0 w j := by
  intro w j _ hj
  unfold upT
  by_cases h2 : w < q ∨ (w = q ∧ j < 7)
  · rw [if_pos h2, if_pos (by omega)]
  · rw [if_neg h2, if_neg (by omega)]
theorem totB_congr {t u : TT} (k : ∀ w j, w < 31 → j < 7 → t w j = u w j) : totB t = totB u := by
  have : Tot (totC t) u := Tot.congr (t := t) rfl k
  unfold totB; rw [this]
set_option maxHeartbeats 2000000 in
theorem noTotals_ret {D : List CV} (hD : Tot D noT) : Ret Try.prog 93 [] (.agg D) := by
  obtain ⟨Z, hZ, eZ⟩ := totB_ex zT
  refine ret_by (hm := false) Try.func93 rfl ?_
  conv => whnf
  refine loop_by (I := fun n st => ∃ (q : Nat) (h : Heap), q ≤ 31 ∧ n = 31 - q ∧ Heap.at h 0 = .blk (Z.map .c) ∧ Heap.at h 1 = totB (upT noS zT q 0) ∧ 2 ≤ h.n ∧ Has st 18 [(0, .ptr 0 0), (1, .ptr 1 0), (4, .c (I q))] [] none h) ?_ (k := 31)
    ⟨0, _, Nat.zero_le _, rfl, by rw [← eZ]; kernel_rfl, by kernel_rfl, Nat.le_refl 2, rfl, ⟨rfl, rfl, rfl, trivial⟩, rfl, rfl, rfl, rfl⟩
  rintro n st ⟨q, h, hq, rfl, h0, h1, hn, hs1⟩
  refine hs1.run (hm := false) ?_
  conv => whnf
  cases hc : decide ((q : Int) < 31)
  case false =>
    have : q = 31 := by simp at hc; omega
    subst this
    have h1' : Heap.at h 1 = .blk (D.map .c) := by
      rw [h1, hD.blk]
      exact totB_congr fun w j hw _ => by unfold upT; rw [if_pos (.inl hw)]; rfl
    conv => whnf
    refine ⟨_, h1', ?_⟩
    conv => whnf
    refine look_read (hD.rd) ?_
    conv => whnf
    refine ⟨_, h0, ?_⟩
    conv => whnf
    refine store_in hD.sz (hD.put hZ) ?_
    conv => whnf
    refine forceL_intro ?_
    conv => whnf
    refine ⟨_, at_set_self _ _ (i := 0) (by omega), ?_⟩
    conv => whnf
    refine look_read (hD.rd) ?_
    conv => whnf
    exact .val
  have hq : q < 31 := by simp at hc; omega
  conv => whnf
  refine loop_by (I := fun n st => ∃ (r : Nat) (h : Heap), r ≤ 7 ∧ n = 7 - r ∧ Heap.at h 0 = .blk (Z.map .c) ∧ Heap.at h 1 = totB (upT noS zT q r) ∧ 2 ≤ h.n ∧ Has st 18 [(0, .ptr 0 0), (1, .ptr 1 0), (2, .c (I q)), (4, .c (I q)), (7, .c (I r))] [] none h) ?_ (k := 7)
    ⟨0, _, Nat.zero_le _, rfl, h0, h1, hn, rfl, ⟨rfl, rfl, rfl, rfl, rfl, trivial⟩, rfl, rfl, rfl, rfl⟩
  clear h0 h1 hn hs1
  rintro n st ⟨r, h, hr, rfl, h0, h1, hn, hs1⟩
  refine hs1.run (hm := false) ?_
  conv => whnf
  cases hc2 : decide ((r : Int) < 7)
  case false =>
    have : r = 7 := by simp at hc2; omega
    subst this
    conv => whnf
    refine ⟨((q + 1 : Nat) : Int), by rw [wrap_eq (by omega) (by omega)]; omega, ?_⟩
    conv => whnf
    exact ⟨31 - (q + 1), by omega, q + 1, h, by omega, rfl, h0, h1.trans (totB_congr (upT_row _ _ _)), hn, rfl, ⟨rfl, rfl, rfl, trivial⟩, rfl, rfl, rfl, rfl⟩
  have hr : r < 7 := by simp at hc2; omega
  obtain ⟨E, hE, eE⟩ := totB_ex (upT noS zT q r)
  rw [eE] at h1
  obtain ⟨E', hE', pE⟩ := hE.put1 hq hr noS
  rw [upT_set] at hE'
  conv => whnf
  refine draw_by (hm := false) (by kernel_rfl) (by kernel_rfl) ?_
  conv => whnf
  refine .pure _ _ rfl (nothing_ret) ?_
  conv => whnf
  refine ⟨⟨by decide, by omega, by omega⟩, ?_⟩
  conv => whnf
  refine ⟨⟨by decide, by omega, by omega⟩, ?_⟩
  conv => whnf
  refine ⟨_, h1, ?_⟩
  conv => whnf
  refine look_put pE ?_
  conv => whnf
  refine ⟨by show 1 < h.n; omega, ?_⟩
  conv => whnf
  refine forceL_intro ?_
  conv => whnf
  refine ⟨by kernel_rfl, ?_⟩
  conv => whnf
  refine ⟨((r + 1 : Nat) : Int), by rw [wrap_eq (by omega) (by omega)]; omega, ?_⟩
  conv => whnf
  exact ⟨7 - (r + 1), by omega, r + 1, _, by omega, rfl, (at_set_ne _ _ (i := 0) (k := 1) (by decide)).trans h0, (at_set_self _ _ (i := 1) (by omega)).trans hE'.blk, by show 2 ≤ h.n; exact hn, rfl, ⟨rfl, rfl, rfl, rfl, rfl, trivial⟩, rfl, rfl, rfl, rfl⟩
/-- Before the first bale. -/
def noB : TT := fun _ k => if k = 0 then (0, 0) else noS
def nbT (q : Nat) : TT := fun w k => if w < q ∧ k = 0 then (0, 0) else noS
theorem nbT_set (q : Nat) : setT (nbT q) q 0 (0, 0) = nbT (q + 1) := by
  funext w k
  unfold setT nbT
  by_cases h1 : w = q ∧ k = 0
  · rw [if_pos h1, if_pos (by omega)]
  · rw [if_neg h1]
    by_cases h2 : w < q ∧ k = 0
    · rw [if_pos h2, if_pos (by omega)]
    · rw [if_neg h2, if_neg (by omega)]
set_option maxHeartbeats 2000000 in
theorem noBales_ret {D : List CV} (hD : Tot D noB) : Ret Try.prog 65 [] (.agg D) := by
  obtain ⟨Z, hZ, eZ⟩ := totB_ex zT
  obtain ⟨N, hN⟩ := tot_ex noT
  refine ret_by (hm := false) Try.func65 rfl ?_
  conv => whnf
  refine .ret (noTotals_ret hN) rfl ?_
  conv => whnf
  generalize hH : TMap.push AB.dead (TMap.push AB.dead TMap.nil _) _ = H
  have Hn : H.n = 2 := by rw [← hH]; rfl
  have b0 : Heap.at H 0 = .blk (Z.map .c) := by rw [← hH, ← eZ]; exact (at_push_lt _ _ (by show 0 < 1; omega)).trans ((at_push_self _ _).trans (by kernel_rfl))
  have b1 : Heap.at H 1 = .blk (Z.map .c) := by rw [← hH, ← eZ]; exact (at_push_self (TMap.push _ TMap.nil _) _).trans (by kernel_rfl)
  clear hH
  refine ⟨_, b1, ?_⟩
  conv => whnf
  refine store_in hN.sz (hN.put hZ) ?_
  conv => whnf
  refine forceL_intro ?_
  conv => whnf
  refine loop_by (I := fun n st => ∃ (q : Nat) (h : Heap), q ≤ 31 ∧ n = 31 - q ∧ Heap.at h 0 = .blk (Z.map .c) ∧ Heap.at h 1 = totB (nbT q) ∧ 2 ≤ h.n ∧ Has st 13 [(0, .ptr 0 0), (1, .ptr 1 0), (4, .c (I q))] [] none h) ?_ (k := 31)
    ⟨0, _, Nat.zero_le _, rfl, (at_set_ne _ _ (i := 0) (k := 1) (by decide)).trans b0, (at_set_self _ _ (i := 1) (by omega)).trans (hN.blk.trans (totB_congr fun w j _ _ => by unfold nbT noT; rw [if_neg (by omega)])), by rw [TMap.set_n]; omega, rfl, ⟨rfl, rfl, rfl, trivial⟩, rfl, rfl, rfl, rfl⟩
  rintro n st ⟨q, h, hq, rfl, h0, h1, hn, hs1⟩
  refine hs1.run (hm := false) ?_
  conv => whnf
  cases hc : decide ((q : Int) < 31)
  case false =>
    have : q = 31 := by simp at hc; omega
    subst this
    have h1' : Heap.at h 1 = .blk (D.map .c) := by
      rw [h1, hD.blk]
      exact totB_congr fun w j hw _ => by
        unfold nbT noB
        by_cases hj : j = 0
        · rw [if_pos ⟨hw, hj⟩, if_pos hj]
        · rw [if_neg (by omega), if_neg hj]
    conv => whnf
    refine ⟨_, h1', ?_⟩
    conv => whnf
    refine look_read (hD.rd) ?_
    conv => whnf
    refine ⟨_, h0, ?_⟩
    conv => whnf
    refine store_in hD.sz (hD.put hZ) ?_
    conv => whnf
    refine forceL_intro ?_
    conv => whnf
    refine ⟨_, at_set_self _ _ (i := 0) (by omega), ?_⟩
    conv => whnf
    refine look_read (hD.rd) ?_
    conv => whnf
    exact .val
  have hq : q < 31 := by simp at hc; omega
  obtain ⟨E, hE, eE⟩ := totB_ex (nbT q)
  rw [eE] at h1
  obtain ⟨E', hE', pE⟩ := hE.put1 (k := 0) hq (by omega) (0, 0)
  rw [nbT_set] at hE'
  conv => whnf
  refine draw_by (hm := false) (by kernel_rfl) (by kernel_rfl) ?_
  conv => whnf
  refine .pure _ _ rfl (exactly_ret 0) ?_
  conv => whnf
  refine ⟨⟨by decide, by omega, by omega⟩, ?_⟩
  conv => whnf
  refine ⟨⟨by decide, by omega, by omega⟩, ?_⟩
  conv => whnf
  refine ⟨_, h1, ?_⟩
  conv => whnf
  refine look_put pE ?_
  conv => whnf
  refine ⟨by show 1 < h.n; omega, ?_⟩
  conv => whnf
  refine forceL_intro ?_
  conv => whnf
  refine ⟨by kernel_rfl, ?_⟩
  conv => whnf
  refine ⟨((q + 1 : Nat) : Int), by rw [wrap_eq (by omega) (by omega)]; omega, ?_⟩
  conv => whnf
  exact ⟨31 - (q + 1), by omega, q + 1, _, by omega, rfl, (at_set_ne _ _ (i := 0) (k := 1) (by decide)).trans h0, (at_set_self _ _ (i := 1) (by omega)).trans hE'.blk, by show 2 ≤ h.n; exact hn, rfl, ⟨rfl, rfl, rfl, trivial⟩, rfl, rfl, rfl, rfl⟩
end Go.Ag
/- Layer 6: totals by the numbers of the next bale. -/
namespace Go.Ag
open Go.Proofs
set_option maxRecDepth 100000

def ldT (st : Nat → List Nat) (t : TT) : Nat → TT
  | 0 => noT
  | q + 1 => fun nx k => if nx ∈ st q then joinS (ldT st t q nx k) (t q k) else ldT st t q nx k
def midT (b t' : TT) (q : Nat) (done : List Nat) (o r : Nat) : TT := fun nx k => if nx ∈ done ∨ (nx = o ∧ k < r) then joinS (b nx k) (t' q k) else b nx k
theorem midT_set {b t : TT} {q : Nat} {done : List Nat} {o : Nat} (ho : o ∉ done) (r : Nat) : setT (midT b t q done o r) o r (joinS (b o r) (t q r)) = midT b t q done o (r + 1) := by
  funext nx k
  unfold setT midT
  by_cases h1 : nx = o ∧ k = r
  · obtain ⟨rfl, rfl⟩ := h1
    rw [if_pos ⟨rfl, rfl⟩, if_pos (.inr ⟨rfl, by omega⟩)]
  · rw [if_neg h1]
    by_cases h2 : nx ∈ done ∨ (nx = o ∧ k < r)
    · rw [if_pos h2, if_pos (by rcases h2 with h | h; exact .inl h; exact .inr ⟨h.1, by omega⟩)]
    · rw [if_neg h2, if_neg (by
        rintro (h | ⟨h, h'⟩)
        · exact h2 (.inl h)
        · exact h2 (.inr ⟨h, by omega⟩))]
theorem midT_at {b t : TT} {q : Nat} {done : List Nat} {o : Nat} (ho : o ∉ done) (r : Nat) : midT b t q done o r o r = b o r := by
  unfold midT; rw [if_neg]; rintro (h | ⟨_, h⟩)
  · exact ho h
  · omega
theorem ft_nodup (lo hi : Nat) : (ftN lo hi).Nodup := List.nodup_range'

set_option maxHeartbeats 4000000 in
theorem leadT_ret {c : Ln} (hd : c.Good) {t : TT} {T D : List CV} (hT : Tot T t) (hD : Tot D (ldT (stF c false) t 31)) : Ret Try.prog 66 [.agg T, stepC c false] (.agg D) := by
  obtain ⟨Z, hZ, eZ⟩ := totB_ex zT
  obtain ⟨N, hN⟩ := tot_ex noT
  have hTc := hT.ce
  refine ret_by (hm := false) Try.func66 rfl ?_
  conv => whnf
  rw [box_agg (C := T)]; rotate_left; rfl; rfl; exact hTc
  conv => whnf
  refine forceL_intro ?_
  conv => whnf
  refine .ret (noTotals_ret hN) rfl ?_
  conv => whnf
  generalize hH : TMap.push AB.dead (TMap.push AB.dead (TMap.push AB.dead TMap.nil _) _) _ = H
  have Hn : H.n = 3 := by rw [← hH]; rfl
  have b0 : Heap.at H 0 = .blk (T.map .c) := by rw [← hH]; exact (at_push_lt _ _ (by show 0 < 2; omega)).trans ((at_push_lt _ _ (by show 0 < 1; omega)).trans (at_push_self _ _))
  have b1 : Heap.at H 1 = .blk (Z.map .c) := by rw [← hH, ← eZ]; exact (at_push_lt _ _ (by show 1 < 2; omega)).trans ((at_push_self (TMap.push _ TMap.nil _) _).trans (by kernel_rfl))
  have b2 : Heap.at H 2 = .blk (Z.map .c) := by rw [← hH, ← eZ]; exact (at_push_self (TMap.push _ (TMap.push _ TMap.nil _) _) _).trans (by kernel_rfl)
  clear hH
  refine ⟨_, b2, ?_⟩
  conv => whnf
  refine store_in hN.sz (hN.put hZ) ?_
  conv => whnf
  refine forceL_intro ?_
  conv => whnf
  refine ⟨_, (at_set_ne _ _ (i := 0) (k := 2) (by decide)).trans b0, ?_⟩
  conv => whnf
  refine look_read (hT.rd) ?_
  conv => whnf
  obtain ⟨st0, hst0⟩ : ∃ st0, st0 = stF c false := ⟨_, rfl⟩
  rw [← hst0] at hD
  refine loop_by (I := fun n st => ∃ (q : Nat) (g : Heap) (l : List Nat), q ≤ 31 ∧ n = 31 - q ∧ Heap.at g 1 = .blk (Z.map .c) ∧ Heap.at g 2 = totB (ldT st0 t q) ∧ 3 ≤ g.n ∧ Colls 3 l g ∧
    Has st 40 [(1, .c (stepC c false)), (4, .ptr 1 0), (5, .ptr 2 0), (12, .c (.agg T)), (13, .c (I q))] (l.map .coll) none g) ?_ (k := 31)
    ⟨0, _, [], Nat.zero_le _, rfl, (at_set_ne _ _ (i := 1) (k := 2) (by decide)).trans b1, (at_set_self _ _ (i := 2) (by omega)).trans hN.blk, by rw [TMap.set_n]; omega, Colls.nil _ _, rfl, ⟨rfl, rfl, rfl, rfl, rfl, trivial⟩, rfl, rfl, rfl, rfl⟩
  rintro n st ⟨q, g, l, hq, rfl, g1, g2, gn, gc, hs1⟩
  refine hs1.run (hm := false) ?_
  conv => whnf
  cases hc : decide ((q : Int) < 31)
  case false =>
    have : q = 31 := by simp at hc; omega
    subst this
    rw [← hD.blk] at g2
    conv => whnf
    refine ⟨_, g2, ?_⟩
    conv => whnf
    refine look_read (hD.rd) ?_
    conv => whnf
    refine ⟨_, g1, ?_⟩
    conv => whnf
    refine store_in hD.sz (hD.put hZ) ?_
    conv => whnf
    refine forceL_intro ?_
    conv => whnf
    refine Colls.run (b := 3) (gc.foot (Foot.set (W := fun i => i = 1) (k := 1) (Foot.refl _ _) (.inl rfl) _) (fun i _ _ _ => by omega)) (fun h' f => ?_)
    conv => whnf
    refine ⟨_, (f.keep 1 (by rw [TMap.set_n]; omega) (by omega)).trans (at_set_self _ _ (i := 1) (by omega)), ?_⟩
    conv => whnf
    refine look_read (hD.rd) ?_
    conv => whnf
    exact .val
  have hq : q < 31 := by simp at hc; omega
  obtain ⟨R, hR⟩ := row_ex (t q)
  obtain ⟨zr, hzr⟩ := row_ex zR
  conv => whnf
  rw [aop_index100 (D := T) (R := R) (t := t) (w := q)]; rotate_left; rfl; rfl; rfl; exact hT; exact hR; exact hq
  conv => whnf
  generalize hG : TMap.push AB.dead g _ = G
  have Gn : G.n = g.n + 1 := by rw [← hG, push_n]
  have ga : ∀ i, i < g.n → Heap.at G i = Heap.at g i := fun i hi => by rw [← hG]; exact at_push_lt _ _ hi
  have gz : Heap.at G g.n = .blk (zr.map .c) := by rw [← hG, hzr]; exact (at_push_self _ _).trans (by kernel_rfl)
  clear hG
  refine ⟨_, gz, ?_⟩
  conv => whnf
  refine store_in hR.sz (hR.put hzr) ?_
  conv => whnf
  refine forceL_intro ?_
  conv => whnf
  generalize hK : TMap.set AB.dead G _ _ = K
  have Kn : K.n = g.n + 1 := by rw [← hK, TMap.set_n]; exact Gn
  have ka : ∀ i, i < g.n → Heap.at K i = Heap.at g i := fun i hi => by rw [← hK]; exact (at_set_ne _ _ (by omega)).trans (ga i hi)
  have kr : Heap.at K g.n = .blk (R.map .c) := by rw [← hK]; exact at_set_self _ _ (by omega)
  have kf : Foot (fun i => g.n ≤ i) g K := ⟨by omega, fun i hi _ => ka i hi⟩
  clear hK
  refine .ret (nextD_ln hd (w := q) (by omega)) rfl ?_
  conv => whnf
  have hb : midT (ldT st0 t q) t q [] 0 0 = ldT st0 t q := by funext nx k; unfold midT; rw [if_neg (by simp)]
  refine range_n (hm := false) (g.n + 1) Kn rfl (st_iter hd false (w := q) (by omega))
    (I := fun ys h1 => ∃ done rest, ys = oneL rest ∧ st0 q = done ++ rest ∧ Heap.at h1 1 = .blk (Z.map .c) ∧ Heap.at h1 2 = totB (midT (ldT st0 t q) t q done 0 0) ∧ Heap.at h1 g.n = .blk (R.map .c) ∧ Foot (fun i => i = 2 ∨ g.n ≤ i) g h1)
    (E := fun _ _ => False) (X := fun _ _ => False) ?_ ?_ ?_ ?_ ?_ ?_ ?_
  · rintro ys h1 h2 ⟨done, rest, x1, x2, x3, x4, x5, x6⟩ hn ff
    exact ⟨done, rest, x1, x2, (ff.keep _ (by omega) (by omega)).trans x3, (ff.keep _ (by omega) (by omega)).trans x4, (ff.keep _ (by omega) (by omega)).trans x5, x6.trans (ff.mono fun i _ hi => .inr (by omega))⟩
  · rintro _ _ _ hx
    exact hx.elim
  · exact ⟨[], _, rfl, by rw [hst0]; rfl, (ka 1 (by omega)).trans g1, (ka 2 (by omega)).trans (g2.trans (by rw [hb])), kr, kf.mono fun i _ hi => .inr hi⟩
  · rintro y ys h1 hn ⟨done, rest, x1, x2, x3, x4, x5, x6⟩
    cases rest with
    | nil => cases x1
    | cons o rest =>
    obtain ⟨rfl, rfl⟩ := List.cons.inj x1
    have ho : o < 31 := stF_bound hd false q o (by rw [← hst0, x2]; simp)
    have hnd : o ∉ done := by
      have := ft_nodup (q - c.drift.toNat) (min (q + c.drift.toNat) (topN c false))
      have e : ftN (q - c.drift.toNat) (min (q + c.drift.toNat) (topN c false)) = done ++ o :: rest := by rw [← x2, hst0]; rfl
      rw [e, List.nodup_append] at this
      intro hmem
      exact this.2.2 o hmem o (by simp) rfl
    conv => whnf
    refine ⟨rfl, fun hb' fb hbn => ?_⟩
    have keep : ∀ i, i < g.n + 1 → Heap.at hb' i = Heap.at h1 i := fun i hi => fb.keep i (by omega) (by omega)
    have c1 := (keep 1 (by omega)).trans x3
    have c2 := (keep 2 (by omega)).trans x4
    have c3 := (keep g.n (by omega)).trans x5
    have c2' : Heap.at hb' 2 = totB (midT (ldT st0 t q) t q done o 0) := c2.trans (totB_congr fun w j _ _ => by
      unfold midT
      have : (w ∈ done ∨ w = 0 ∧ j < 0) ↔ (w ∈ done ∨ w = o ∧ j < 0) := by simp
      simp only [this])
    have hrest : ∃ m, m = g.n + 1 := ⟨_, rfl⟩
    conv => whnf
    refine ⟨_, c3, ?_⟩
    conv => whnf
    refine look_read (hR.rd) ?_
    conv => whnf
    refine loop_by (I := fun n st => ∃ (r : Nat) (f : Heap), r ≤ 7 ∧ n = 7 - r ∧ Heap.at f 1 = .blk (Z.map .c) ∧ Heap.at f 2 = totB (midT (ldT st0 t q) t q done o r) ∧ Heap.at f g.n = .blk (R.map .c) ∧ Foot (fun i => i = 2) hb' f ∧
      Has st 40 [(1, .c (stepC c false)), (4, .ptr 1 0), (5, .ptr 2 0), (7, .ptr g.n 0), (8, .c (I (o : Nat))), (12, .c (.agg T)), (13, .c (I q)), (21, .c (.agg R)), (22, .c (I r))] [] (some (g.n + 1 + 1)) f) ?_ (k := 7)
      ⟨0, _, Nat.zero_le _, rfl, c1, c2', c3, Foot.refl _ _, rfl, ⟨rfl, rfl, rfl, rfl, rfl, rfl, rfl, rfl, rfl, trivial⟩, rfl, rfl, rfl, rfl⟩
    rintro n st ⟨r, f, hr, rfl, f1, f2, f3, ff, hs2⟩
    refine hs2.run (hm := false) ?_
    have fn := ff.n
    conv => whnf
    cases hc2 : decide ((r : Int) < 7)
    case false =>
      have : r = 7 := by simp at hc2; omega
      subst this
      conv => whnf
      refine ⟨ff.mono fun i _ hi => by omega, done ++ [o], rest, rfl, by rw [x2]; simp, f1, f2.trans (totB_congr fun w j _ hj => ?_), f3, x6.trans ((fb.mono fun i _ hi => .inr (by omega)).trans (ff.mono fun i _ hi => .inl hi))⟩
      unfold midT
      have : (w ∈ done ∨ w = o ∧ j < 7) ↔ (w ∈ done ++ [o] ∨ w = 0 ∧ j < 0) := by simp [hj]
      simp only [this]
    have hr : r < 7 := by simp at hc2; omega
    obtain ⟨E, hE, eE⟩ := totB_ex (midT (ldT st0 t q) t q done o r)
    rw [eE] at f2
    have hat := hE.at ho hr
    rw [midT_at hnd] at hat
    obtain ⟨E', hE', pE⟩ := hE.put1 ho hr (joinS (ldT st0 t q o r) (t q r))
    rw [midT_set hnd] at hE'
    conv => whnf
    rw [aop_index98 (R := R) (r := t q) (k := r)]; rotate_left; rfl; rfl; rfl; exact hR; exact hr
    conv => whnf
    refine ⟨_, at_push_self _ _, ?_⟩
    conv => whnf
    generalize hF : TMap.set AB.dead (TMap.push AB.dead f _) _ _ = F
    have Fn : F.n = f.n + 1 := by rw [← hF]; exact new_n _ _ _
    have Fa : ∀ i, i < f.n → Heap.at F i = Heap.at f i := fun i hi => by rw [← hF]; exact at_old _ _ _ hi
    have Fr : Heap.at F f.n = .blk [.c (I (t q r).1), .c (I (t q r).2)] := by rw [← hF]; exact at_new _ _ _
    clear hF
    refine draw_by (hm := false) (by kernel_rfl) (by kernel_rfl) ?_
    conv => whnf
    refine ⟨⟨by decide, by omega, by omega⟩, ?_⟩
    conv => whnf
    refine ⟨⟨by decide, by omega, by omega⟩, ?_⟩
    conv => whnf
    refine ⟨_, (Fa 2 (by omega)).trans f2, ?_⟩
    conv => whnf
    refine look_read (hat) ?_
    conv => whnf
    refine ⟨_, Fr, ?_⟩
    conv => whnf
    refine .pure _ _ rfl (joined_ret (ldT st0 t q o r) (t q r)) ?_
    conv => whnf
    refine ⟨⟨by decide, by omega, by omega⟩, ?_⟩
    conv => whnf
    refine ⟨⟨by decide, by omega, by omega⟩, ?_⟩
    conv => whnf
    refine ⟨_, (Fa 2 (by omega)).trans f2, ?_⟩
    conv => whnf
    refine look_put pE ?_
    conv => whnf
    refine ⟨by show 2 < F.n; omega, ?_⟩
    conv => whnf
    refine forceL_intro ?_
    conv => whnf
    refine ⟨by kernel_rfl, ?_⟩
    conv => whnf
    refine ⟨((r + 1 : Nat) : Int), by rw [wrap_eq (by omega) (by omega)]; omega, ?_⟩
    conv => whnf
    exact ⟨7 - (r + 1), by omega, r + 1, _, by omega, rfl, (at_set_ne _ _ (i := 1) (k := 2) (by decide)).trans ((Fa 1 (by omega)).trans f1), (at_set_self _ _ (i := 2) (by omega)).trans hE'.blk, (at_set_ne _ _ (i := g.n) (k := 2) (by omega)).trans ((Fa g.n (by omega)).trans f3), Foot.set (k := 2) (ff.trans ⟨by omega, fun i hi _ => Fa i hi⟩) (.inl rfl) _, rfl, ⟨rfl, rfl, rfl, rfl, rfl, rfl, rfl, rfl, rfl, trivial⟩, rfl, rfl, rfl, rfl⟩
  · rintro h1 hn hc1 ⟨done, rest, x1, x2, x3, x4, x5, x6⟩
    have : rest = [] := by cases rest with | nil => rfl | cons a l => cases x1
    subst this
    rw [List.append_nil] at x2
    have hnext : midT (ldT st0 t q) t q done 0 0 = ldT st0 t (q + 1) := by
      funext nx k
      unfold midT
      simp only [ldT]
      rw [x2]
      simp
    rw [hnext] at x4
    conv => whnf
    refine ⟨((q + 1 : Nat) : Int), by rw [wrap_eq (by omega) (by omega)]; omega, ?_⟩
    conv => whnf
    exact ⟨31 - (q + 1), by omega, q + 1, h1, (g.n + 1) :: l, by omega, rfl, x3, x4, by omega, gc.cons (x6.mono fun i _ hi => by omega) (by omega) (by omega) (by omega) hc1, rfl, ⟨rfl, rfl, rfl, rfl, rfl, trivial⟩, rfl, rfl, rfl, rfl⟩
  · rintro _ _ _ _ hx
    exact hx.elim
  · rintro x h1 _ _ hx
    exact hx.elim
end Go.Ag
/- Layer 6: totals with the fleeces of the last bale. -/
namespace Go.Ag
open Go.Proofs
set_option maxRecDepth 100000

def wtT (own : Co) (t : TT) : TT := fun w k => if own w ≤ k then ((t w ((k : Int) - own w).toNat).1 + w, (t w ((k : Int) - own w).toNat).2 + w) else noS
def wtP (own : Co) (t : TT) (q r : Nat) : TT := fun w k => if w < q ∨ (w = q ∧ (k : Int) - own q < r) then wtT own t w k else noS
structure Bnd (t : TT) : Prop where
  lo : ∀ w k, -1000 ≤ (t w k).1 ∧ (t w k).1 ≤ 1000
  hi : ∀ w k, -1000 ≤ (t w k).2 ∧ (t w k).2 ≤ 1000
theorem wtP_row0 {own : Co} (h0 : ∀ w, 0 ≤ own w) (t : TT) (q : Nat) : ∀ w j, w < 31 → j < 7 → wtP own t q 7 w j = wtP own t (q + 1) 0 w j := by
  intro w j _ hj
  unfold wtP
  by_cases h1 : w < q ∨ (w = q ∧ (j : Int) - own q < (7 : Nat))
  · rw [if_pos h1, if_pos (by omega)]
  · rw [if_neg h1]
    have := h0 q
    by_cases h2 : w < q + 1 ∨ (w = q + 1 ∧ (j : Int) - own (q + 1) < (0 : Nat))
    · rw [if_pos h2]
      rcases h2 with h2 | ⟨rfl, h2⟩
      · omega
      · unfold wtT; rw [if_neg (by omega)]
    · rw [if_neg h2]
theorem wtP_skip {own : Co} {t : TT} {q r : Nat} (h : (7 : Int) ≤ r + own q) : ∀ w j, w < 31 → j < 7 → wtP own t q r w j = wtP own t q (r + 1) w j := by
  intro w j _ hj
  unfold wtP
  by_cases h1 : w < q ∨ (w = q ∧ (j : Int) - own q < r)
  · rw [if_pos h1, if_pos (by omega)]
  · rw [if_neg h1, if_neg (by omega)]
theorem wtP_set {own : Co} {t : TT} {q r now : Nat} (h : (now : Int) = r + own q) : setT (wtP own t q r) q now ((t q r).1 + q, (t q r).2 + q) = wtP own t q (r + 1) := by
  funext w k
  unfold setT wtP
  by_cases h1 : w = q ∧ k = now
  · obtain ⟨rfl, rfl⟩ := h1
    rw [if_pos ⟨rfl, rfl⟩, if_pos (.inr ⟨rfl, by omega⟩)]
    unfold wtT
    rw [if_pos (by omega), show ((k : Int) - own w).toNat = r by omega]
  · rw [if_neg h1]
    by_cases h2 : w < q ∨ (w = q ∧ (k : Int) - own q < r)
    · rw [if_pos h2, if_pos (by omega)]
    · rw [if_neg h2, if_neg (by omega)]

set_option maxHeartbeats 4000000 in
theorem withT_ret {own : Co} (hl : Low own) {O : List CV} (hO : Arr O own) {t : TT} (hb : Bnd t) {T D : List CV} (hT : Tot T t) (hD : Tot D (wtT own t)) : Ret Try.prog 67 [.agg T, .agg O] (.agg D) := by
  obtain ⟨Z, hZ, eZ⟩ := totB_ex zT
  obtain ⟨N, hN⟩ := tot_ex noT
  have hTc := hT.ce
  have hOc := hO.ce
  refine ret_by (hm := false) Try.func67 rfl ?_
  conv => whnf
  rw [box_agg (C := T)]; rotate_left; rfl; rfl; exact hTc
  conv => whnf
  refine forceL_intro ?_
  conv => whnf
  rw [box_agg (C := O)]; rotate_left; rfl; rfl; exact hOc
  conv => whnf
  refine forceL_intro ?_
  conv => whnf
  refine .ret (noTotals_ret hN) rfl ?_
  conv => whnf
  generalize hH : TMap.push AB.dead (TMap.push AB.dead (TMap.push AB.dead (TMap.push AB.dead TMap.nil _) _) _) _ = H
  have Hn : H.n = 4 := by rw [← hH]; rfl
  have b0 : Heap.at H 0 = .blk (T.map .c) := by rw [← hH]; exact (at_push_lt _ _ (by show 0 < 3; omega)).trans ((at_push_lt _ _ (by show 0 < 2; omega)).trans ((at_push_lt _ _ (by show 0 < 1; omega)).trans (at_push_self _ _)))
  have b1 : Heap.at H 1 = .blk (O.map .c) := by rw [← hH]; exact (at_push_lt _ _ (by show 1 < 3; omega)).trans ((at_push_lt _ _ (by show 1 < 2; omega)).trans (at_push_self (TMap.push _ TMap.nil _) _))
  have b2 : Heap.at H 2 = .blk (Z.map .c) := by rw [← hH, ← eZ]; exact (at_push_lt _ _ (by show 2 < 3; omega)).trans ((at_push_self (TMap.push _ (TMap.push _ TMap.nil _) _) _).trans (by kernel_rfl))
  have b3 : Heap.at H 3 = .blk (Z.map .c) := by rw [← hH, ← eZ]; exact (at_push_self (TMap.push _ (TMap.push _ (TMap.push _ TMap.nil _) _) _) _).trans (by kernel_rfl)
  clear hH
  refine ⟨_, b3, ?_⟩
  conv => whnf
  refine store_in hN.sz (hN.put hZ) ?_
  conv => whnf
  refine forceL_intro ?_
  conv => whnf
  refine ⟨_, (at_set_ne _ _ (i := 0) (k := 3) (by decide)).trans b0, ?_⟩
  conv => whnf
  refine look_read (hT.rd) ?_
  conv => whnf
  have h00 : totB noT = totB (wtP own t 0 0) := totB_congr fun w j _ _ => by
    unfold wtP noT
    by_cases h2 : w < 0 ∨ (w = 0 ∧ (j : Int) - own 0 < (0 : Nat))
    · rw [if_pos h2]
      rcases h2 with h2 | ⟨rfl, h2⟩
      · omega
      · unfold wtT; rw [if_neg (by omega)]
    · rw [if_neg h2]
  refine loop_by (I := fun n st => ∃ (q : Nat) (g : Heap), q ≤ 31 ∧ n = 31 - q ∧ Heap.at g 1 = .blk (O.map .c) ∧ Heap.at g 2 = .blk (Z.map .c) ∧ Heap.at g 3 = totB (wtP own t q 0) ∧ 4 ≤ g.n ∧
    Has st 45 [(3, .ptr 1 0), (4, .ptr 2 0), (5, .ptr 3 0), (12, .c (.agg T)), (13, .c (I q))] [] none g) ?_ (k := 31)
    ⟨0, _, Nat.zero_le _, rfl, (at_set_ne _ _ (i := 1) (k := 3) (by decide)).trans b1, (at_set_ne _ _ (i := 2) (k := 3) (by decide)).trans b2, (at_set_self _ _ (i := 3) (by omega)).trans (hN.blk.trans h00), by rw [TMap.set_n]; omega, rfl, ⟨rfl, rfl, rfl, rfl, rfl, trivial⟩, rfl, rfl, rfl, rfl⟩
  rintro n st ⟨q, g, hq, rfl, g1, g2, g3, gn, hs1⟩
  refine hs1.run (hm := false) ?_
  conv => whnf
  cases hc : decide ((q : Int) < 31)
  case false =>
    have : q = 31 := by simp at hc; omega
    subst this
    have g3' : Heap.at g 3 = .blk (D.map .c) := by
      rw [g3, hD.blk]
      exact totB_congr fun w j hw _ => by unfold wtP; rw [if_pos (.inl hw)]
    conv => whnf
    refine ⟨_, g3', ?_⟩
    conv => whnf
    refine look_read (hD.rd) ?_
    conv => whnf
    refine ⟨_, g2, ?_⟩
    conv => whnf
    refine store_in hD.sz (hD.put hZ) ?_
    conv => whnf
    refine forceL_intro ?_
    conv => whnf
    refine ⟨_, at_set_self _ _ (i := 2) (by omega), ?_⟩
    conv => whnf
    refine look_read (hD.rd) ?_
    conv => whnf
    exact .val
  have hq : q < 31 := by simp at hc; omega
  obtain ⟨R, hR⟩ := row_ex (t q)
  obtain ⟨zr, hzr⟩ := row_ex zR
  conv => whnf
  rw [aop_index100 (D := T) (R := R) (t := t) (w := q)]; rotate_left; rfl; rfl; rfl; exact hT; exact hR; exact hq
  conv => whnf
  generalize hG : TMap.push AB.dead g _ = G
  have Gn : G.n = g.n + 1 := by rw [← hG, push_n]
  have ga : ∀ i, i < g.n → Heap.at G i = Heap.at g i := fun i hi => by rw [← hG]; exact at_push_lt _ _ hi
  have gz : Heap.at G g.n = .blk (zr.map .c) := by rw [← hG, hzr]; exact (at_push_self _ _).trans (by kernel_rfl)
  clear hG
  refine ⟨_, gz, ?_⟩
  conv => whnf
  refine store_in hR.sz (hR.put hzr) ?_
  conv => whnf
  refine forceL_intro ?_
  conv => whnf
  refine ⟨_, at_set_self _ _ (i := g.n) (by omega), ?_⟩
  conv => whnf
  refine look_read (hR.rd) ?_
  conv => whnf
  generalize hK : TMap.set AB.dead G _ _ = K
  have Kn : K.n = g.n + 1 := by rw [← hK, TMap.set_n]; exact Gn
  have ka : ∀ i, i < g.n → Heap.at K i = Heap.at g i := fun i hi => by rw [← hK]; exact (at_set_ne _ _ (by omega)).trans (ga i hi)
  clear hK
  refine loop_by (I := fun n st => ∃ (r : Nat) (f : Heap), r ≤ 7 ∧ n = 7 - r ∧ Heap.at f 1 = .blk (O.map .c) ∧ Heap.at f 2 = .blk (Z.map .c) ∧ Heap.at f 3 = totB (wtP own t q r) ∧ 4 ≤ f.n ∧
    Has st 45 [(3, .ptr 1 0), (4, .ptr 2 0), (5, .ptr 3 0), (6, .c (I q)), (12, .c (.agg T)), (13, .c (I q)), (17, .c (.agg R)), (18, .c (I r))] [] none f) ?_ (k := 7)
    ⟨0, _, Nat.zero_le _, rfl, (ka 1 (by omega)).trans g1, (ka 2 (by omega)).trans g2, (ka 3 (by omega)).trans g3, by omega, rfl, ⟨rfl, rfl, rfl, rfl, rfl, rfl, rfl, rfl, trivial⟩, rfl, rfl, rfl, rfl⟩
  rintro n st ⟨r, f, hr, rfl, f1, f2, f3, fn, hs2⟩
  refine hs2.run (hm := false) ?_
  conv => whnf
  cases hc2 : decide ((r : Int) < 7)
  case false =>
    have : r = 7 := by simp at hc2; omega
    subst this
    conv => whnf
    refine ⟨((q + 1 : Nat) : Int), by rw [wrap_eq (by omega) (by omega)]; omega, ?_⟩
    conv => whnf
    exact ⟨31 - (q + 1), by omega, q + 1, f, by omega, rfl, f1, f2, f3.trans (totB_congr (wtP_row0 hl.z t q)), fn, rfl, ⟨rfl, rfl, rfl, rfl, rfl, trivial⟩, rfl, rfl, rfl, rfl⟩
  have hr : r < 7 := by simp at hc2; omega
  have ho0 := hl.z q
  have ho1 := hl.b q
  conv => whnf
  rw [aop_index98 (R := R) (r := t q) (k := r)]; rotate_left; rfl; rfl; rfl; exact hR; exact hr
  conv => whnf
  refine ⟨_, at_push_self _ _, ?_⟩
  conv => whnf
  generalize hF : TMap.set AB.dead (TMap.push AB.dead f _) _ _ = F
  have Fn : F.n = f.n + 1 := by rw [← hF]; exact new_n _ _ _
  have Fa : ∀ i, i < f.n → Heap.at F i = Heap.at f i := fun i hi => by rw [← hF]; exact at_old _ _ _ hi
  have Fr : Heap.at F f.n = .blk [.c (I (t q r).1), .c (I (t q r).2)] := by rw [← hF]; exact at_new _ _ _
  clear hF
  refine ⟨⟨by decide, by omega, by omega⟩, ?_⟩
  conv => whnf
  refine ⟨_, (Fa 1 (by omega)).trans f1, ?_⟩
  conv => whnf
  refine look_read (hO.at hq) ?_
  conv => whnf
  refine ⟨(r : Int) + own q, by rw [wrap_eq (by omega) (by omega)], ?_⟩
  conv => whnf
  cases hc3 : decide ((r : Int) + own q < 7)
  case false =>
    have hge : (7 : Int) ≤ r + own q := by simp at hc3; omega
    conv => whnf
    refine ⟨((r + 1 : Nat) : Int), by rw [wrap_eq (by omega) (by omega)]; omega, ?_⟩
    conv => whnf
    exact ⟨7 - (r + 1), by omega, r + 1, F, by omega, rfl, (Fa 1 (by omega)).trans f1, (Fa 2 (by omega)).trans f2, ((Fa 3 (by omega)).trans f3).trans (totB_congr (wtP_skip hge)), by omega, rfl, ⟨rfl, rfl, rfl, rfl, rfl, rfl, rfl, rfl, trivial⟩, rfl, rfl, rfl, rfl⟩
  have hlt : (r : Int) + own q < 7 := of_decide_eq_true hc3
  obtain ⟨now, hnow⟩ : ∃ now : Nat, (now : Int) = r + own q := ⟨((r : Int) + own q).toNat, Int.toNat_of_nonneg (by omega)⟩
  obtain ⟨E, hE, eE⟩ := totB_ex (wtP own t q r)
  rw [eE] at f3
  obtain ⟨E', hE', pE⟩ := hE.put1 (w := q) (k := now) hq (by omega) ((t q r).1 + q, (t q r).2 + q)
  rw [wtP_set hnow] at hE'
  have k1 := hb.lo q r
  have k2 := hb.hi q r
  rw [← hnow]
  conv => whnf
  refine draw_by (hm := false) (by kernel_rfl) (by kernel_rfl) ?_
  conv => whnf
  refine ⟨_, Fr, ?_⟩
  conv => whnf
  refine ⟨(t q r).1 + q, by rw [wrap_eq (by omega) (by omega)], ?_⟩
  conv => whnf
  refine ⟨_, Fr, ?_⟩
  conv => whnf
  refine ⟨(t q r).2 + q, by rw [wrap_eq (by omega) (by omega)], ?_⟩
  conv => whnf
  refine ⟨⟨by decide, by omega, by omega⟩, ?_⟩
  conv => whnf
  refine ⟨⟨by decide, by omega, by omega⟩, ?_⟩
  conv => whnf
  refine ⟨_, (Fa 3 (by omega)).trans f3, ?_⟩
  conv => whnf
  refine look_put pE ?_
  conv => whnf
  refine ⟨by show 3 < F.n; omega, ?_⟩
  conv => whnf
  refine forceL_intro ?_
  conv => whnf
  refine ⟨by kernel_rfl, ?_⟩
  conv => whnf
  refine ⟨((r + 1 : Nat) : Int), by rw [wrap_eq (by omega) (by omega)]; omega, ?_⟩
  conv => whnf
  exact ⟨7 - (r + 1), by omega, r + 1, _, by omega, rfl, (at_set_ne _ _ (i := 1) (k := 3) (by decide)).trans ((Fa 1 (by omega)).trans f1), (at_set_ne _ _ (i := 2) (k := 3) (by decide)).trans ((Fa 2 (by omega)).trans f2), (at_set_self _ _ (i := 3) (by omega)).trans hE'.blk, by show 4 ≤ F.n; omega, rfl, ⟨rfl, rfl, rfl, rfl, rfl, rfl, rfl, rfl, trivial⟩, rfl, rfl, rfl, rfl⟩
end Go.Ag
/- Layer 6: all fleeces. -/
namespace Go.Ag
open Go.Proofs
set_option maxRecDepth 100000

/-- All totals with so many mistakes at most. -/
def rowS (r : Nat → Int × Int) (s : Int × Int) : Nat → Int × Int
  | 0 => s
  | k + 1 => joinS (rowS r s k) (r k)
def spT (t : TT) (m : Nat) : Nat → Int × Int
  | 0 => noS
  | q + 1 => rowS (t q) (spT t m q) (m + 1)
theorem row_own {R : List CV} {r : Nat → Int × Int} (hR : Row R r) {k : Nat} (hk : k < 7) : readVar Try.prog 35 (R.map AV.c) (0 + (k : Int).toNat * 2) = some (.c (spV (r k))) := by
  refine readVar_map ?_
  rw [hR, rv35, Int.toNat_natCast, row_sl r hk]; rfl
theorem sp35 : slicePart Try.prog 35 = some 2 := by kernel_rfl
theorem aarr98 {rd : Nat → AB} {id m : Nat} {cells : List AV} (hb : rd id = .blk cells) (hl : cells.length = 14) (hm : m ≤ 7) : aarrSlice Try.prog rd 98 (.ptr id 0) none (some (.c (I m))) none = some { val := .msl id 2 0 m 7, reads := [id] } := by
  unfold aarrSlice
  simp only [u98, sp35, hb]
  rw [if_pos (by omega)]
  have : boundsOf 7 7 none (some (AV.c (I (m : Nat)))) none = some (0, m, 7) := by
    have e7 : boundOf none 7 7 = some 7 := rfl
    have e0 : boundOf none 0 m = some 0 := rfl
    have em : boundOf (some (AV.c (I (m : Nat)))) 7 7 = some m := by
      show (if (0 : Int) ≤ (m : Int) ∧ (m : Int) ≤ 7 then some (Int.toNat (m : Int)) else none) = some m
      rw [if_pos ⟨by omega, by omega⟩, Int.toNat_natCast]
    show (match boundOf none 7 7 with
      | some x => match boundOf (some (AV.c (I (m : Nat)))) 7 x with
        | some h => match boundOf none 0 h with
          | some l => some (l, h, x)
          | none => none
        | none => none
      | none => none) = _
    rw [e7]
    show (match boundOf (some (AV.c (I (m : Nat)))) 7 7 with
        | some h => match boundOf none 0 h with
          | some l => some (l, h, 7)
          | none => none
        | none => none) = _
    rw [em]
    rfl
  rw [this]
  simp
set_option maxHeartbeats 4000000 in
theorem spanT_ret {t : TT} {T : List CV} (hT : Tot T t) {m : Nat} (hm6 : m ≤ 6) : Ret Try.prog 69 [.agg T, I m] (spV (spT t m 31)) := by
  have hTc := hT.ce
  refine ret_by (hm := false) Try.func69 rfl ?_
  conv => whnf
  rw [box_agg (C := T)]; rotate_left; rfl; rfl; exact hTc
  conv => whnf
  refine forceL_intro ?_
  conv => whnf
  refine .ret (nothing_ret) rfl ?_
  conv => whnf
  generalize hH : TMap.push AB.dead (TMap.push AB.dead (TMap.push AB.dead TMap.nil _) _) _ = H
  have Hn : H.n = 3 := by rw [← hH]; rfl
  have b0 : Heap.at H 0 = .blk (T.map .c) := by rw [← hH]; exact (at_push_lt _ _ (by show 0 < 2; omega)).trans ((at_push_lt _ _ (by show 0 < 1; omega)).trans (at_push_self _ _))
  have b1 : Heap.at H 1 = spB2 (0, 0) := by rw [← hH]; exact (at_push_lt _ _ (by show 1 < 2; omega)).trans (at_push_self (TMap.push _ TMap.nil _) _)
  have b2 : Heap.at H 2 = spB2 (0, 0) := by rw [← hH]; exact at_push_self (TMap.push _ (TMap.push _ TMap.nil _) _) _
  clear hH
  refine ⟨_, b2, ?_⟩
  conv => whnf
  refine ⟨_, (at_set_ne _ _ (i := 0) (k := 2) (by decide)).trans b0, ?_⟩
  conv => whnf
  refine look_read (hT.rd) ?_
  conv => whnf
  refine loop_by (I := fun n st => ∃ (q : Nat) (g : Heap), q ≤ 31 ∧ n = 31 - q ∧ Heap.at g 1 = spB2 (0, 0) ∧ Heap.at g 2 = spB2 (spT t m q) ∧ 3 ≤ g.n ∧
    Has st 29 [(1, .c (I m)), (4, .ptr 1 0), (5, .ptr 2 0), (11, .c (.agg T)), (12, .c (I q))] [] none g) ?_ (k := 31)
    ⟨0, _, Nat.zero_le _, rfl, (at_set_ne _ _ (i := 1) (k := 2) (by decide)).trans b1, at_set_self _ _ (i := 2) (by omega), by rw [TMap.set_n]; omega, rfl, ⟨rfl, rfl, rfl, rfl, rfl, trivial⟩, rfl, rfl, rfl, rfl⟩
  rintro n st ⟨q, g, hq, rfl, g1, g2, gn, hs1⟩
  refine hs1.run (hm := false) ?_
  conv => whnf
  cases hc : decide ((q : Int) < 31)
  case false =>
    have : q = 31 := by simp at hc; omega
    subst this
    conv => whnf
    refine ⟨_, g2, ?_⟩
    conv => whnf
    refine ⟨_, g1, ?_⟩
    conv => whnf
    refine ⟨_, at_set_self _ _ (i := 1) (by omega), ?_⟩
    conv => whnf
    exact .val
  have hq : q < 31 := by simp at hc; omega
  obtain ⟨R, hR⟩ := row_ex (t q)
  obtain ⟨zr, hzr⟩ := row_ex zR
  conv => whnf
  rw [aop_index100 (D := T) (R := R) (t := t) (w := q)]; rotate_left; rfl; rfl; rfl; exact hT; exact hR; exact hq
  conv => whnf
  generalize hG : TMap.push AB.dead g _ = G
  have Gn : G.n = g.n + 1 := by rw [← hG, push_n]
  have ga : ∀ i, i < g.n → Heap.at G i = Heap.at g i := fun i hi => by rw [← hG]; exact at_push_lt _ _ hi
  have gz : Heap.at G g.n = .blk (zr.map .c) := by rw [← hG, hzr]; exact (at_push_self _ _).trans (by kernel_rfl)
  clear hG
  refine ⟨_, gz, ?_⟩
  conv => whnf
  refine store_in hR.sz (hR.put hzr) ?_
  conv => whnf
  refine forceL_intro ?_
  conv => whnf
  generalize hK : TMap.set AB.dead G _ _ = K
  have Kn : K.n = g.n + 1 := by rw [← hK, TMap.set_n]; exact Gn
  have ka : ∀ i, i < g.n → Heap.at K i = Heap.at g i := fun i hi => by rw [← hK]; exact (at_set_ne _ _ (by omega)).trans (ga i hi)
  have kr : Heap.at K g.n = .blk (R.map .c) := by rw [← hK]; exact at_set_self _ _ (by omega)
  clear hK
  refine ⟨((m + 1 : Nat) : Int), by rw [wrap_eq (by omega) (by omega)]; omega, ?_⟩
  conv => whnf
  refine ⟨_, aarr98 (m := m + 1) kr (by rw [List.length_map, hR.len]) (by omega), ?_⟩
  conv => whnf
  refine loop_by (I := fun n st => ∃ (r : Nat) (f : Heap), r ≤ m + 1 ∧ n = m + 1 - r ∧ Heap.at f 1 = spB2 (0, 0) ∧ Heap.at f 2 = spB2 (rowS (t q) (spT t m q) r) ∧ Heap.at f g.n = .blk (R.map .c) ∧ g.n + 1 ≤ f.n ∧
    Has st 29 [(1, .c (I m)), (4, .ptr 1 0), (5, .ptr 2 0), (11, .c (.agg T)), (12, .c (I q)), (17, .msl g.n 2 0 (m + 1) 7), (18, .c (I (m + 1 : Nat))), (19, .c (I r))] [] none f) ?_ (k := m + 1)
    ⟨0, _, Nat.zero_le _, rfl, (ka 1 (by omega)).trans g1, (ka 2 (by omega)).trans g2, kr, by omega, rfl, ⟨rfl, rfl, rfl, rfl, rfl, rfl, rfl, rfl, trivial⟩, rfl, rfl, rfl, rfl⟩
  rintro n st ⟨r, f, hr, rfl, f1, f2, f3, fn, hs2⟩
  refine hs2.run (hm := false) ?_
  conv => whnf
  cases hc2 : decide ((r : Int) < ((m + 1 : Nat) : Int))
  case false =>
    have : r = m + 1 := by simp at hc2; omega
    subst this
    conv => whnf
    refine ⟨((q + 1 : Nat) : Int), by rw [wrap_eq (by omega) (by omega)]; omega, ?_⟩
    conv => whnf
    exact ⟨31 - (q + 1), by omega, q + 1, f, by omega, rfl, f1, f2, by omega, rfl, ⟨rfl, rfl, rfl, rfl, rfl, trivial⟩, rfl, rfl, rfl, rfl⟩
  have hr : r < m + 1 := by simp at hc2; omega
  conv => whnf
  refine ⟨⟨rfl, by omega, by omega⟩, ?_⟩
  conv => whnf
  refine ⟨_, f3, ?_⟩
  conv => whnf
  refine look_read (row_own hR (k := r) (by omega)) ?_
  conv => whnf
  refine ⟨_, at_push_self _ _, ?_⟩
  conv => whnf
  generalize hF : TMap.set AB.dead (TMap.push AB.dead f _) _ _ = F
  have Fn : F.n = f.n + 1 := by rw [← hF]; exact new_n _ _ _
  have Fa : ∀ i, i < f.n → Heap.at F i = Heap.at f i := fun i hi => by rw [← hF]; exact at_old _ _ _ hi
  have Fr : Heap.at F f.n = spB2 (t q r) := by rw [← hF]; exact at_new _ _ _
  clear hF
  refine ⟨_, (Fa 2 (by omega)).trans f2, ?_⟩
  conv => whnf
  refine ⟨_, Fr, ?_⟩
  conv => whnf
  refine .ret (joined_ret (rowS (t q) (spT t m q) r) (t q r)) rfl ?_
  conv => whnf
  refine ⟨_, (Fa 2 (by omega)).trans f2, ?_⟩
  conv => whnf
  refine ⟨((r + 1 : Nat) : Int), by rw [wrap_eq (by omega) (by omega)]; omega, ?_⟩
  conv => whnf
  exact ⟨m + 1 - (r + 1), by omega, r + 1, _, by omega, rfl, (at_set_ne _ _ (i := 1) (k := 2) (by decide)).trans ((Fa 1 (by omega)).trans f1), at_set_self _ _ (i := 2) (by omega), (at_set_ne _ _ (i := g.n) (k := 2) (by omega)).trans ((Fa g.n (by omega)).trans f3), by rw [TMap.set_n]; omega, rfl, ⟨rfl, rfl, rfl, rfl, rfl, rfl, rfl, rfl, trivial⟩, rfl, rfl, rfl, rfl⟩
end Go.Ag
/- Layer 6: fleeces of the whole line. -/
namespace Go.Ag
open Go.Proofs
set_option maxRecDepth 100000

def tF (c : Ln) : Nat → TT
  | 0 => noB
  | i + 1 => wtT (ownF c (allN c) i) (ldT (stF c false) (tF c i) 31)
def allS (c : Ln) : Int × Int := spT (tF c c.bales.length) c.mist.toNat 31
def InP (B : Int) (x : Int × Int) : Prop := -B ≤ x.1 ∧ x.1 ≤ B ∧ -B ≤ x.2 ∧ x.2 ≤ B
theorem join_in {B : Int} {x y : Int × Int} (h1 : InP B x) (h2 : InP B y) : InP B (joinS x y) := by
  obtain ⟨a1, a2, a3, a4⟩ := h1
  obtain ⟨b1, b2, b3, b4⟩ := h2
  unfold InP joinS
  dsimp only
  omega
theorem ldT_in {B : Int} (hB : 181 ≤ B) {st : Nat → List Nat} {t : TT} : ∀ (q : Nat), (∀ w k, w < q → InP B (t w k)) → ∀ w k, InP B (ldT st t q w k)
  | 0, _, _, _ => by
    show InP B (181, -181)
    unfold InP; dsimp only; omega
  | q + 1, h, w, k => by
    have ih := ldT_in hB (st := st) q (fun w k hw => h w k (by omega)) w k
    show InP B (if w ∈ st q then joinS (ldT st t q w k) (t q k) else ldT st t q w k)
    split
    · exact join_in ih (h q k (by omega))
    · exact ih
theorem tF_in (c : Ln) (i : Nat) : ∀ w k, w < 31 → InP (181 + 30 * (i : Int)) (tF c i w k) := by
  induction i with
  | zero =>
    intro w k _
    show InP _ (if k = 0 then (0, 0) else (181, -181))
    split <;> (unfold InP; dsimp only; omega)
  | succ i ih =>
    intro w k hw
    have ih := fun k => ldT_in (B := 181 + 30 * (i : Int)) (by omega) (st := stF c false) (t := tF c i) 31 (fun w k hw => ih w k hw) w k
    show InP _ (if ownF c (allN c) i w ≤ k then ((ldT (stF c false) (tF c i) 31 w ((k : Int) - ownF c (allN c) i w).toNat).1 + w, (ldT (stF c false) (tF c i) 31 w ((k : Int) - ownF c (allN c) i w).toNat).2 + w) else (181, -181))
    obtain ⟨a1, a2, a3, a4⟩ := ih ((k : Int) - ownF c (allN c) i w).toNat
    split <;> (unfold InP; dsimp only; omega)
theorem ld_bnd (c : Ln) {i : Nat} (hi : i ≤ 6) : Bnd (ldT (stF c false) (tF c i) 31) := by
  have h := ldT_in (B := 181 + 30 * (i : Int)) (by omega) (st := stF c false) (t := tF c i) 31 (fun w k hw => tF_in c i w k hw)
  exact ⟨fun w k => by obtain ⟨a1, a2, a3, a4⟩ := h w k; omega, fun w k => by obtain ⟨a1, a2, a3, a4⟩ := h w k; omega⟩

set_option maxHeartbeats 4000000 in
theorem all_ret {v : LV} {c : Ln} (hv : v.Is c) (hd : c.Good) {m : Nat} {h : Heap} (hm : m < h.n) :
    ∃ e h', CallOk Try.prog 40 [knAV v c false m] h .no e h' .no ∧ (e = endS (some (allS c)) 10 ∧ Foot (fun i => i = m) h h') := by
  have n6 := hd.n6
  have hk0 := hd.k0; have hk1 := hd.k1
  have ha := allN_lt hd
  have e1 := hv.sn
  obtain ⟨Z, hZ, eZ⟩ := totB_ex zT
  obtain ⟨N, hN⟩ := tot_ex noB
  refine call_by (hm := false) Try.func40 rfl ?_
  conv => whnf
  refine .ret (noBales_ret hN) rfl ?_
  conv => whnf
  generalize hH : TMap.push AB.dead (TMap.push AB.dead (TMap.push AB.dead h _) _) _ = H
  have Hn : H.n = h.n + 3 := by rw [← hH]; rfl
  have b0 : Heap.at H h.n = knBlk v c false m := by rw [← hH]; exact (at_push_lt _ _ (by simp only [push_n]; omega)).trans ((at_push_lt _ _ (by simp only [push_n]; omega)).trans (at_push_self _ _))
  have b1 : Heap.at H (h.n + 1) = spB2 (0, 0) := by rw [← hH]; exact (at_push_lt _ _ (by simp only [push_n]; omega)).trans (at_push_self _ _)
  have b2 : Heap.at H (h.n + 2) = .blk (Z.map .c) := by rw [← hH, ← eZ]; exact (at_push_self _ _).trans (by kernel_rfl)
  have f0 : Foot none' h H := by rw [← hH]; exact (((Foot.refl _ _).push _).push _).push _
  clear hH
  refine ⟨_, b2, ?_⟩
  conv => whnf
  refine store_in hN.sz (hN.put hZ) ?_
  conv => whnf
  refine forceL_intro ?_
  conv => whnf
  generalize hK : TMap.set AB.dead H _ _ = K
  have Kn : K.n = h.n + 3 := by rw [← hK, TMap.set_n]; exact Hn
  have k0 : Heap.at K h.n = knBlk v c false m := by rw [← hK]; exact (at_set_ne _ _ (i := h.n) (k := h.n + 2) (by omega)).trans b0
  have k1 : Heap.at K (h.n + 1) = spB2 (0, 0) := by rw [← hK]; exact (at_set_ne _ _ (i := h.n + 1) (k := h.n + 2) (by omega)).trans b1
  have k2 : Heap.at K (h.n + 2) = totB (tF c 0) := by rw [← hK]; exact (at_set_self _ _ (i := h.n + 2) (by omega)).trans hN.blk
  have fK : Foot none' h K := by rw [← hK]; exact Foot.set (k := h.n + 2) f0 (.inr (by omega)) _
  clear hK
  refine ⟨_, k0, ?_⟩
  conv => whnf
  refine loop_by (I := fun n st => ∃ (i : Nat) (g : Heap), i ≤ c.bales.length ∧ n = c.bales.length - i ∧ Heap.at g h.n = knBlk v c false m ∧ Heap.at g (h.n + 1) = spB2 (0, 0) ∧ Heap.at g (h.n + 2) = totB (tF c i) ∧ h.n + 3 ≤ g.n ∧ Foot none' h g ∧
    Has st 29 [(1, .ptr h.n 0), (2, .ptr (h.n + 1) 0), (3, .ptr (h.n + 2) 0), (9, .c (I v.sn)), (10, .c (I i))] [] none g) ?_ (k := c.bales.length)
    ⟨0, _, Nat.zero_le _, rfl, k0, k1, k2, by omega, fK, rfl, ⟨rfl, rfl, rfl, rfl, rfl, trivial⟩, rfl, rfl, rfl, rfl⟩
  rintro n st ⟨i, g, hi, rfl, g0, g1, g2, gn, gf, hs1⟩
  refine hs1.run (hm := false) ?_
  conv => whnf
  cases hc : decide ((i : Int) < (v.sn : Int))
  case false =>
    have : i = c.bales.length := by simp at hc; omega
    subst this
    obtain ⟨T, hT, eT⟩ := totB_ex (tF c c.bales.length)
    rw [eT] at g2
    obtain ⟨mk, hmk⟩ : ∃ mk : Nat, c.mist = mk := ⟨c.mist.toNat, by omega⟩
    have hsp := spanT_ret hT (m := mk) (by omega)
    rw [show allS c = spT (tF c c.bales.length) mk 31 by unfold allS; rw [hmk, Int.toNat_natCast]]
    rw [← hmk] at hsp
    conv => whnf
    refine ⟨_, g2, ?_⟩
    conv => whnf
    refine look_read (hT.rd) ?_
    conv => whnf
    refine ⟨_, g0, ?_⟩
    conv => whnf
    refine .ret (hsp) rfl ?_
    conv => whnf
    refine ⟨_, g1, ?_⟩
    conv => whnf
    refine ⟨_, at_set_self _ _ (i := h.n + 1) (by omega), ?_⟩
    conv => whnf
    exact ⟨rfl, Foot.set (k := h.n + 1) (gf.mono fun i _ hi => hi.elim) (.inr (by omega)) _⟩
  have hi : i < c.bales.length := by simp at hc; omega
  obtain ⟨T, hT, eT⟩ := totB_ex (tF c i)
  rw [eT] at g2
  obtain ⟨L, hL⟩ := tot_ex (ldT (stF c false) (tF c i) 31)
  obtain ⟨O, hO⟩ := arr_ex (ownF c (allN c) i)
  obtain ⟨W, hW⟩ := tot_ex (tF c (i + 1))
  have hld := leadT_ret hd hT hL
  have hwt := withT_ret (own_low hd hi) hO (ld_bnd c (i := i) (by omega)) hL hW
  obtain ⟨e3, H1, hc1, rfl, f1⟩ := every_ret hv hd false m g
  have n1 := f1.n
  obtain ⟨e2, H2, hc2, rfl, f2⟩ := own_ret hv hd hi (s := allN c) (by omega) false m hO H1
  have n2 := f2.n
  conv => whnf
  refine mixed_by (hm := false) (by kernel_rfl) (by kernel_rfl) ?_
  conv => whnf
  refine ⟨_, g2, ?_⟩
  conv => whnf
  refine look_read (hT.rd) ?_
  conv => whnf
  refine ⟨_, g0, ?_⟩
  conv => whnf
  refine .ret _ _ (hld) rfl ?_
  conv => whnf
  refine ⟨_, g0, ?_⟩
  conv => whnf
  refine ⟨_, g0, ?_⟩
  conv => whnf
  refine .heavy _ H1 (.inl hc1) ?_
  conv => whnf
  refine .heavy _ H2 (.inl hc2) ?_
  conv => whnf
  refine .ret _ _ (hwt) rfl ?_
  conv => whnf
  refine ⟨_, (f2.keep (h.n + 2) (by omega) (fun x => x)).trans ((f1.keep (h.n + 2) (by omega) (fun x => x)).trans g2), ?_⟩
  conv => whnf
  refine store_in hW.sz (hW.put hT) ?_
  conv => whnf
  refine ⟨by show h.n + 2 < H2.n; omega, ?_⟩
  conv => whnf
  refine forceL_intro ?_
  conv => whnf
  refine ⟨by kernel_rfl, ?_, ?_⟩
  · exact heaps_eq (l' := [(h.n, g, H1)]) (by kernel_rfl) (heaps_cons (f1.keep _ (by omega) (fun x => x)) (by simp [HeapsOk]))
  conv => whnf
  refine ⟨((i + 1 : Nat) : Int), by rw [wrap_eq (by omega) (by omega)]; omega, ?_⟩
  conv => whnf
  exact ⟨c.bales.length - (i + 1), by omega, i + 1, _, by omega, rfl, (at_set_ne _ _ (i := h.n) (k := h.n + 2) (by omega)).trans ((f2.keep _ (by omega) (fun x => x)).trans ((f1.keep _ (by omega) (fun x => x)).trans g0)), (at_set_ne _ _ (i := h.n + 1) (k := h.n + 2) (by omega)).trans ((f2.keep _ (by omega) (fun x => x)).trans ((f1.keep _ (by omega) (fun x => x)).trans g1)), (at_set_self _ _ (i := h.n + 2) (by omega)).trans hW.blk, by rw [TMap.set_n]; omega, Foot.set (k := h.n + 2) (gf.trans (f1.trans f2)) (.inr (by omega)) _, rfl, ⟨rfl, rfl, rfl, rfl, rfl, trivial⟩, rfl, rfl, rfl, rfl⟩

def allR (c : Ln) : (Int × Int) × Int := lineRS c (some (allS c)) 10
set_option maxHeartbeats 1000000 in
theorem allX_ret {v : LV} {c : Ln} (hv : v.Is c) : Ret Try.prog 14 [v.cv c] (pairS (allR c)) := by
  refine close_val ?_
  unfold allR
  refine call_by (hm := false) Try.func14 rfl ?_
  conv => whnf
  generalize hH : TMap.push AB.dead (TMap.push AB.dead TMap.nil _) _ = H
  have Hn : H.n = 2 := by rw [← hH]; rfl
  have b0 : Heap.at H 0 = v.blk c := by rw [← hH]; exact (at_push_lt _ _ (by show 0 < 1; omega)).trans (at_push_self _ _)
  have b1 : Heap.at H 1 = spB2 (0, 0) := by rw [← hH]; exact at_push_self (TMap.push _ TMap.nil _) _
  clear hH
  obtain ⟨e1, H1, hc1, rfl, f1⟩ := ofLineS_all hv (h := H) (o := some (allS c)) (err := 10) (fun hd m h1 w1 w2 w3 w4 => all_ret hv hd w2)
  refine ⟨_, b0, ?_⟩
  conv => whnf
  refine .inl _ H1 .no hc1 ?_
  conv => whnf
  refine ⟨_, (f1.keep 1 (by omega) (fun x => x)).trans b1, ?_⟩
  conv => whnf
  refine ⟨_, at_set_self _ _ (i := 1) (by have := f1.n; omega), ?_⟩
  conv => whnf
  rfl
end Go.Ag
/- Layer 6: fleeces of the whole line, by its truths (no program here). -/
namespace Go.Ag
open Go.Proofs

/-- At the low end, or at the high end. -/
def Hit (up : Bool) (x : Int × Int) (v : Int) : Prop := match up with | true => v ≤ x.2 | false => x.1 ≤ v
def Cmp (up : Bool) (s v : Int) : Prop := match up with | true => v ≤ s | false => s ≤ v
def OkV (up : Bool) (i : Nat) (v : Int) : Prop := match up with | true => -181 + 30 * (i : Int) < v | false => v < 181
theorem hit_join {up : Bool} {a b : Int × Int} {v : Int} : Hit up (joinS a b) v ↔ Hit up a v ∨ Hit up b v := by
  cases up <;> (simp only [Hit, joinS]; omega)
theorem hit_add {up : Bool} {a : Int × Int} {w v : Int} : Hit up (a.1 + w, a.2 + w) v ↔ Hit up a (v - w) := by
  cases up <;> (simp only [Hit]; omega)
theorem cmp_add {up : Bool} {s w v : Int} : Cmp up (w + s) v ↔ Cmp up s (v - w) := by
  cases up <;> (simp only [Cmp]; omega)
theorem hit_no {up : Bool} {i : Nat} {v : Int} (h : OkV up i v) : ¬ Hit up noS v := by
  cases up <;> (simp only [Hit, noS, OkV] at *; omega)
theorem ok_sub {up : Bool} {i : Nat} {v : Int} {w : Nat} (h : OkV up (i + 1) v) (hw : w ≤ 30) : OkV up i (v - w) := by
  cases up <;> (simp only [OkV] at *; omega)
theorem hit_zero {up : Bool} {v : Int} : Hit up (0, 0) v ↔ Cmp up 0 v := by
  cases up <;> (simp only [Hit, Cmp])
theorem hit_ld {up : Bool} {st : Nat → List Nat} {t : TT} {w k : Nat} {v : Int} : ∀ q, Hit up (ldT st t q w k) v ↔ Hit up noS v ∨ ∃ x, x < q ∧ w ∈ st x ∧ Hit up (t x k) v
  | 0 => ⟨.inl, fun h => h.elim id fun ⟨x, hx, _⟩ => by omega⟩
  | q + 1 => by
    have ih := hit_ld (up := up) (st := st) (t := t) (w := w) (k := k) (v := v) q
    show Hit up (if w ∈ st q then joinS (ldT st t q w k) (t q k) else ldT st t q w k) v ↔ _
    by_cases hw : w ∈ st q
    · rw [if_pos hw, hit_join, ih]
      constructor
      · rintro ((h | ⟨x, h1, h2, h3⟩) | h)
        · exact .inl h
        · exact .inr ⟨x, by omega, h2, h3⟩
        · exact .inr ⟨q, by omega, hw, h⟩
      · rintro (h | ⟨x, h1, h2, h3⟩)
        · exact .inl (.inl h)
        · by_cases hx : x = q
          · subst hx; exact .inr h3
          · exact .inl (.inr ⟨x, by omega, h2, h3⟩)
    · rw [if_neg hw, ih]
      constructor
      · rintro (h | ⟨x, h1, h2, h3⟩)
        · exact .inl h
        · exact .inr ⟨x, by omega, h2, h3⟩
      · rintro (h | ⟨x, h1, h2, h3⟩)
        · exact .inl h
        · by_cases hx : x = q
          · subst hx; exact absurd h2 hw
          · exact .inr ⟨x, by omega, h2, h3⟩
theorem hit_row {up : Bool} {r : Nat → Int × Int} {s : Int × Int} {v : Int} : ∀ k, Hit up (rowS r s k) v ↔ Hit up s v ∨ ∃ x, x < k ∧ Hit up (r x) v
  | 0 => ⟨.inl, fun h => h.elim id fun ⟨x, hx, _⟩ => by omega⟩
  | k + 1 => by
    have ih := hit_row (up := up) (r := r) (s := s) (v := v) k
    show Hit up (joinS (rowS r s k) (r k)) v ↔ _
    rw [hit_join, ih]
    constructor
    · rintro ((h | ⟨x, h1, h3⟩) | h)
      · exact .inl h
      · exact .inr ⟨x, by omega, h3⟩
      · exact .inr ⟨k, by omega, h⟩
    · rintro (h | ⟨x, h1, h3⟩)
      · exact .inl (.inl h)
      · by_cases hx : x = k
        · subst hx; exact .inr h3
        · exact .inl (.inr ⟨x, by omega, h3⟩)
theorem hit_sp {up : Bool} {t : TT} {m : Nat} {v : Int} : ∀ q, Hit up (spT t m q) v ↔ Hit up noS v ∨ ∃ x k, x < q ∧ k ≤ m ∧ Hit up (t x k) v
  | 0 => ⟨.inl, fun h => h.elim id fun ⟨x, k, hx, _⟩ => by omega⟩
  | q + 1 => by
    have ih := hit_sp (up := up) (t := t) (m := m) (v := v) q
    show Hit up (rowS (t q) (spT t m q) (m + 1)) v ↔ _
    rw [hit_row, ih]
    constructor
    · rintro ((h | ⟨x, k, h1, h2, h3⟩) | ⟨k, h1, h2⟩)
      · exact .inl h
      · exact .inr ⟨x, k, by omega, h2, h3⟩
      · exact .inr ⟨q, k, by omega, by omega, h2⟩
    · rintro (h | ⟨x, k, h1, h2, h3⟩)
      · exact .inl (.inl h)
      · by_cases hx : x = q
        · subst hx; exact .inr ⟨k, by omega, h3⟩
        · exact .inl (.inr ⟨x, k, by omega, h2, h3⟩)

def bk (c : Ln) (i : Nat) : List Co := (List.range i).reverse.map (ownF c (allN c))
theorem bk_succ (c : Ln) (i : Nat) : bk c (i + 1) = ownF c (allN c) i :: bk c i := by
  unfold bk; rw [List.range_succ, List.reverse_append]; rfl
theorem bk_len (c : Ln) (i : Nat) : (bk c i).length = i := by simp [bk]
theorem bk_0 (c : Ln) (i : Nat) : ∀ o ∈ bk c i, ∀ w, 0 ≤ o w := by
  intro o ho w
  obtain ⟨i, -, rfl⟩ := List.mem_map.1 ho
  exact costB_0 w
/-- Truths of the first bales, from the last one back, beside a number. -/
def Sm (c : Ln) (i w k : Nat) (s : Int) : Prop := ∃ rs : List Nat, rs.length = i ∧ Path c.drift.toNat w rs ∧ (∀ x ∈ rs, x ≤ 30) ∧ costL (bk c i) rs = (k : Int) ∧ s = (rs.sum : Nat)
/-- A step. -/
theorem hit_wt {up : Bool} {c : Ln} {i : Nat} (ih : ∀ w k v, w ≤ 30 → OkV up i v → (Hit up (ldT (stF c false) (tF c i) 31 w k) v ↔ ∃ s, Sm c i w k s ∧ Cmp up s v)) {q k : Nat} {v : Int} (hq : q ≤ 30) (hv : OkV up (i + 1) v) :
    Hit up (tF c (i + 1) q k) v ↔ ∃ rs : List Nat, (q :: rs).length = i + 1 ∧ Path c.drift.toNat q rs ∧ (∀ x ∈ q :: rs, x ≤ 30) ∧ costL (bk c (i + 1)) (q :: rs) = (k : Int) ∧ Cmp up ((q :: rs).sum : Nat) v := by
  have h0 : 0 ≤ ownF c (allN c) i q := costB_0 q
  show Hit up (if ownF c (allN c) i q ≤ k then ((ldT (stF c false) (tF c i) 31 q ((k : Int) - ownF c (allN c) i q).toNat).1 + q, (ldT (stF c false) (tF c i) 31 q ((k : Int) - ownF c (allN c) i q).toNat).2 + q) else noS) v ↔ _
  rw [bk_succ]
  by_cases hk : ownF c (allN c) i q ≤ k
  · rw [if_pos hk, hit_add, ih q _ _ hq (ok_sub hv hq)]
    constructor
    · rintro ⟨s, ⟨rs, e1, e2, e3, e4, rfl⟩, h⟩
      refine ⟨rs, by simp [e1], e2, fun x hx => ?_, by simp only [costL]; omega, ?_⟩
      · rcases List.mem_cons.1 hx with rfl | hx
        · exact hq
        · exact e3 x hx
      · rw [List.sum_cons, Int.natCast_add, cmp_add]; exact h
    · rintro ⟨rs, e1, e2, e3, e4, h⟩
      simp only [costL] at e4
      rw [List.sum_cons, Int.natCast_add, cmp_add] at h
      exact ⟨_, ⟨rs, by simpa using e1, e2, fun x hx => e3 x (by simp [hx]), by omega, rfl⟩, h⟩
  · rw [if_neg hk]
    constructor
    · intro h
      exact absurd h (hit_no hv)
    · rintro ⟨rs, e1, e2, e3, e4, h⟩
      simp only [costL] at e4
      have := costL_0 (l := bk c i) (xs := rs) (bk_0 c i)
      omega
theorem hit_ldT {up : Bool} (c : Ln) (i : Nat) : ∀ w k v, w ≤ 30 → OkV up i v → (Hit up (ldT (stF c false) (tF c i) 31 w k) v ↔ ∃ s, Sm c i w k s ∧ Cmp up s v) := by
  induction i with
  | zero =>
    intro w k v hw hv
    rw [hit_ld]
    constructor
    · rintro (h | ⟨x, h1, h2, h3⟩)
      · exact absurd h (hit_no hv)
      · by_cases hk : k = 0
        · subst hk
          exact ⟨0, ⟨[], rfl, trivial, by simp, rfl, rfl⟩, hit_zero.1 h3⟩
        · have : tF c 0 x k = noS := by show (if k = 0 then (0, 0) else noS) = noS; rw [if_neg hk]
          rw [this] at h3
          exact absurd h3 (hit_no hv)
    · rintro ⟨s, ⟨rs, e1, e2, e3, e4, rfl⟩, h⟩
      have : rs = [] := List.length_eq_zero_iff.1 e1
      subst this
      have hk : k = 0 := by simp [costL] at e4; omega
      subst hk
      exact .inr ⟨w, by omega, mem_st.2 ⟨⟨by omega, by omega⟩, hw⟩, hit_zero.2 h⟩
  | succ i ih =>
    intro w k v hw hv
    rw [hit_ld]
    constructor
    · rintro (h | ⟨x, h1, h2, h3⟩)
      · exact absurd h (hit_no hv)
      · obtain ⟨rs, e1, e2, e3, e4, h⟩ := (hit_wt ih (by omega) hv).1 h3
        exact ⟨_, ⟨x :: rs, e1, ⟨(mem_st.1 h2).1.symm, e2⟩, e3, e4, rfl⟩, h⟩
    · rintro ⟨s, ⟨rs, e1, e2, e3, e4, rfl⟩, h⟩
      cases rs with
      | nil => cases e1
      | cons x rs =>
      have hx := e3 x (by simp)
      exact .inr ⟨x, by omega, mem_st.2 ⟨e2.1.symm, hw⟩, (hit_wt ih hx hv).2 ⟨rs, e1, e2.2, e3, e4, h⟩⟩
theorem bk_owns (c : Ln) : bk c c.bales.length = (owns c (allN c)).reverse := by
  unfold bk owns; rw [List.map_reverse]
theorem adj_rev {d : Nat} {w : Nat} {xs : List Nat} : AdjL d (w :: xs).reverse ↔ AdjL d (w :: xs) := by
  rw [List.reverse_cons, adj_split]
  exact ⟨fun h => h.1, fun h => ⟨h, trivial⟩⟩
theorem hit_all {up : Bool} {c : Ln} (hd : c.Good) {v : Int} (hv : OkV up 6 v) : Hit up (allS c) v ↔ ∃ ws, Tru c (allN c) c.mist ws ∧ Cmp up (ws.sum : Nat) v := by
  obtain ⟨i, hi⟩ : ∃ i, c.bales.length = i + 1 := ⟨c.bales.length - 1, by have := hd.n1; omega⟩
  have n6 := hd.n6
  have hk0 := hd.k0
  have hv' : OkV up (i + 1) v := by cases up <;> (simp only [OkV] at *; omega)
  have hb : (owns c (allN c)).reverse = bk c (i + 1) := by rw [← bk_owns, hi]
  have hol : (owns c (allN c)).length = i + 1 := by rw [owns_len, hi]
  unfold allS
  rw [hit_sp, hi]
  constructor
  · rintro (h | ⟨x, k, h1, h2, h3⟩)
    · exact absurd h (hit_no hv)
    · obtain ⟨rs, e1, e2, e3, e4, h⟩ := (hit_wt (hit_ldT c i) (by omega) hv').1 h3
      refine ⟨(x :: rs).reverse, ⟨by rw [List.length_reverse, e1, hol], fun y hy => e3 y (List.mem_reverse.1 hy), adj_rev.2 e2, ?_⟩, by rw [List.sum_reverse]; exact h⟩
      have := costL_rev (l := owns c (allN c)) (xs := (x :: rs).reverse) (by rw [hol, List.length_reverse, e1])
      rw [hb, List.reverse_reverse, e4] at this
      omega
  · rintro ⟨ws, ⟨t1, t2, t3, t4⟩, h⟩
    have hc0 := costL_0 (l := owns c (allN c)) (xs := ws) (owns_0 c _)
    have hrev := costL_rev (l := owns c (allN c)) (xs := ws) (by rw [t1])
    rw [hb] at hrev
    obtain ⟨rs, hrs⟩ : ∃ rs, rs = ws.reverse := ⟨_, rfl⟩
    have hws : ws = rs.reverse := by rw [hrs, List.reverse_reverse]
    rw [← hrs] at hrev
    rw [hws, List.sum_reverse] at h
    have hl : rs.length = i + 1 := by rw [hrs, List.length_reverse, t1, hol]
    cases rs with
    | nil => cases hl
    | cons x rs =>
    rw [hws] at t3
    have h3 := adj_rev.1 t3
    have hm : ∀ y ∈ x :: rs, y ≤ 30 := fun y hy => t2 y (by rw [hws]; exact List.mem_reverse.2 hy)
    have hx := hm x (by simp)
    exact .inr ⟨x, (costL (owns c (allN c)) ws).toNat, by omega, by omega, (hit_wt (hit_ldT c i) hx hv').2 ⟨rs, hl, h3, hm, by rw [hrev]; omega, h⟩⟩
theorem all_lo {c : Ln} (hd : c.Good) {v : Int} (hv : v < 181) : (allS c).1 ≤ v ↔ ∃ ws, Tru c (allN c) c.mist ws ∧ (ws.sum : Nat) ≤ v := hit_all (up := false) hd hv
theorem all_hi {c : Ln} (hd : c.Good) {v : Int} (hv : 0 ≤ v) : v ≤ (allS c).2 ↔ ∃ ws, Tru c (allN c) c.mist ws ∧ v ≤ (ws.sum : Nat) := hit_all (up := true) hd (by show -181 + 30 * ((6 : Nat) : Int) < v; omega)
end Go.Ag
