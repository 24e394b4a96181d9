/- Numbers that are drawn; truths that are made; a slice of small numbers read as data; the law ClassMistaken returns true for arguments that are not far too long. No conditions. -/
import Derived.Test.YtgidjimpobeahaaClI
import Derived.ChangeSlices
import Derived.WideShapes
/- Layer 6: numbers that are drawn by remainders. -/
namespace Go.Ag
open Go.Proofs
set_option maxRecDepth 100000

theorem wrap_u16 {w : Nat} (h : w < 65536) : IntKind.i64.wrap (w : Int) = (w : Int) := wrap_eq (by omega) (by omega)
/-- A slice of small numbers. -/
structure ByL (bc : List CV) (bo bn : Nat) : Prop where
  el : ∀ i, i < bn → ∃ w : Nat, w < 65536 ∧ bc[bo + i]? = some (.lit (.int .u16 w))
theorem rvC83 (cells : List CV) (off : Nat) : readVarC Try.prog 83 cells off = cells[off]? := rfl
def drawC (A Y : Nat) : AV := .func (.func 52) [] [.ptr A 0, .ptr Y 0]

theorem draws_ret (bc : List CV) (bo bn : Nat) (h : Heap) : ∃ e h', CallOk Try.prog 32 [.c (.sl bc bo bn)] h .no e h' .no ∧ (e = .ret (drawC (h.n + 1) h.n) ∧ Heap.at h' h.n = .blk [.c (.sl bc bo bn)] ∧ Heap.at h' (h.n + 1) = .blk [.c (I 0)] ∧ h'.n = h.n + 2 ∧ Foot none' h h') := by
  refine call_by (hm := false) Try.func32 rfl ?_
  conv => whnf
  refine ⟨_, at_push_self _ _, ?_⟩
  conv => whnf
  refine ⟨rfl, (at_old _ _ _ (by rw [push_n]; omega)).trans (at_push_self _ _), at_new _ _ _, by rw [new_n, push_n], ?_⟩
  exact Foot.set (((Foot.refl _ _).push _).push _) (.inr (by rw [push_n]; omega)) _

theorem tmod_nat (a b : Nat) : (a : Int).tmod (b : Int) = ((a % b : Nat) : Int) := by
  rw [Int.tmod_eq_emod_of_nonneg (by omega)]
  omega

set_option maxHeartbeats 2000000 in
theorem draw_ret {bc : List CV} {bo bn : Nat} (hb : ByL bc bo bn) {lo hi : Nat} (h2 : lo ≤ hi) (h3 : hi ≤ 300) {A Y : Nat} {a : Nat} (ha : a ≤ 100) {h : Heap} (hA : Heap.at h A = .blk [.c (I a)]) (hY : Heap.at h Y = .blk [.c (.sl bc bo bn)]) (lA : A < h.n) (hAY : A ≠ Y) :
    ∃ e h', CallOk Try.prog 52 [.c (I lo), .c (I hi), .ptr A 0, .ptr Y 0] h .no e h' .no ∧ ((∃ z : Nat, lo ≤ z ∧ z ≤ hi ∧ e = .ret (.c (I z))) ∧ Heap.at h' A = .blk [.c (I ((a + 1 : Nat) : Int))] ∧ Foot (fun i => i = A) h h') := by
  refine call_by (hm := false) Try.func52 rfl ?_
  conv => whnf
  refine ⟨_, hA, ?_⟩
  conv => whnf
  refine ⟨((a + 1 : Nat) : Int), by rw [wrap_eq (by omega) (by omega)]; omega, ?_⟩
  conv => whnf
  refine ⟨_, hA, ?_⟩
  conv => whnf
  generalize hK : TMap.set AB.dead h A _ = K
  have k1 : Heap.at K A = .blk [.c (I ((a + 1 : Nat) : Int))] := by rw [← hK]; exact at_set_self _ _ lA
  have k2 : Heap.at K Y = .blk [.c (.sl bc bo bn)] := by rw [← hK]; exact (at_set_ne _ _ (Ne.symm hAY)).trans hY
  have kF : Foot (fun i => i = A) h K := by rw [← hK]; exact Foot.set (W := fun i => i = A) (Foot.refl _ _) (.inl rfl) _
  clear hK
  refine ⟨_, k2, ?_⟩
  conv => whnf
  cases hz : ((bn : Int) == 0)
  case true =>
    conv => whnf
    exact ⟨⟨lo, Nat.le_refl _, h2, rfl⟩, k1, kF⟩
  have hbn : bn ≠ 0 := by simp at hz; omega
  obtain ⟨w, hw, hwe⟩ := hb.el ((a + 1) % bn) (Nat.mod_lt _ (by omega))
  conv => whnf
  refine draw_by (hm := false) (by kernel_rfl) (by kernel_rfl) ?_
  conv => whnf
  refine ⟨_, k2, ?_⟩
  conv => whnf
  refine ⟨_, k1, ?_⟩
  conv => whnf
  refine ⟨_, k2, ?_⟩
  conv => whnf
  refine dplain_val (rem_to (((a + 1) % bn : Nat) : Int) rfl rfl rfl (by omega) (tmod_nat _ _) _ _) ?_
  conv => whnf
  have hlt : (a + 1) % bn < bn := Nat.mod_lt _ (by omega)
  refine ⟨⟨by omega, by omega⟩, ?_⟩
  conv => whnf
  have hread : readVarC Try.prog 83 bc (bo + (((a + 1) % bn : Nat) : Int).toNat * 1) = some (.lit (.int .u16 w)) := by
    rw [rvC83, show bo + (((a + 1) % bn : Nat) : Int).toNat * 1 = bo + (a + 1) % bn by omega]; exact hwe
  refine ⟨_, hread, ?_⟩
  conv => whnf
  refine ⟨_, k1, ?_⟩
  conv => whnf
  refine ⟨((53 * (a + 1) : Nat) : Int), by rw [wrap_eq (by omega) (by omega)]; omega, ?_⟩
  conv => whnf
  refine ⟨((w + 53 * (a + 1) : Nat) : Int), by rw [wrap_u16 hw, wrap_eq (by omega) (by omega)]; omega, ?_⟩
  conv => whnf
  refine ⟨((hi - lo : Nat) : Int), by rw [wrap_eq (by omega) (by omega)]; omega, ?_⟩
  conv => whnf
  obtain ⟨m, hm⟩ : ∃ m : Nat, m = hi - lo + 1 := ⟨_, rfl⟩
  refine ⟨((m : Nat) : Int), by rw [wrap_eq (by omega) (by omega)]; omega, ?_⟩
  conv => whnf
  refine dplain_val (rem_to (((w + 53 * (a + 1)) % m : Nat) : Int) rfl rfl rfl (by omega) (tmod_nat _ _) _ _) ?_
  conv => whnf
  have hlm : (w + 53 * (a + 1)) % m < m := Nat.mod_lt _ (by omega)
  generalize (w + 53 * (a + 1)) % m = q at hlm
  refine ⟨((lo + q : Nat) : Int), by rw [wrap_eq (by omega) (by omega)]; omega, ?_⟩
  conv => whnf
  refine ⟨by kernel_rfl, ?_⟩
  conv => whnf
  exact ⟨⟨lo + q, by omega, by omega, rfl⟩, k1, kF⟩
end Go.Ag
/- Layer 6: truths that are made (no program here). -/
namespace Go.Ag
open Go.Proofs
set_option maxRecDepth 100000

def AdjI (d : Nat) (ws : List Nat) : Prop := ∀ (j x y : Nat), ws[j]? = some x → ws[j + 1]? = some y → Near d x y
theorem adj_of {d : Nat} : ∀ {ws : List Nat}, AdjI d ws → AdjL d ws
  | [], _ => trivial
  | [_], _ => trivial
  | x :: y :: l, h => by
    have ih : AdjL d (y :: l) := adj_of fun j a b h1 h2 => h (j + 1) a b (by simpa using h1) (by simpa using h2)
    exact ⟨h 0 x y rfl rfl, ih⟩
theorem adjI_snoc {d : Nat} {ws : List Nat} {x : Nat} (h : AdjI d ws) (hx : ∀ y, ws[ws.length - 1]? = some y → ws ≠ [] → Near d y x) : AdjI d (ws ++ [x]) := by
  intro j a b h1 h2
  have hl := (List.getElem?_eq_some_iff.1 h2).1
  rw [List.length_append, List.length_singleton] at hl
  rw [List.getElem?_append_left (by omega)] at h1
  by_cases hj : j + 1 < ws.length
  · rw [List.getElem?_append_left hj] at h2
    exact h j a b h1 h2
  · rw [List.getElem?_append_right (by omega), show j + 1 - ws.length = 0 by omega] at h2
    have hb : x = b := by simpa using h2
    subst hb
    refine hx a (by rw [show ws.length - 1 = j by omega]; exact h1) (fun e => by rw [e] at hj; rw [e] at h1; simp at h1)
theorem adjI_zero (d n : Nat) : AdjI d (List.replicate n 0) := by
  intro j x y h1 h2
  have e1 := (List.mem_replicate.1 (List.mem_of_getElem? h1)).2
  have e2 := (List.mem_replicate.1 (List.mem_of_getElem? h2)).2
  subst e1; subst e2
  exact ⟨by omega, by omega⟩
theorem costL_range (f : Nat → Co) : ∀ (n : Nat) (ws : List Nat), ws.length = n → costL ((List.range n).map f) ws = sumF' (fun j => f j (ws.getD j 0)) n
  | 0, ws, h => by have : ws = [] := List.length_eq_zero_iff.1 h; subst this; rfl
  | n + 1, ws, h => by
    obtain ⟨x, hx⟩ := get_some (l := ws) (k := n) (by omega)
    have e : ws = ws.take n ++ [x] := by
      have := List.take_append_drop n ws
      rw [drop_get hx, List.drop_eq_nil_of_le (by omega)] at this
      exact this.symm
    have ht : (ws.take n).length = n := by rw [List.length_take]; omega
    have ih := costL_range f n (ws.take n) ht
    have h1 : costL ((List.range (n + 1)).map f) ws = costL ((List.range n).map f) (ws.take n) + costL [f n] [x] := by
      rw [List.range_succ, List.map_append]
      conv => lhs; rw [e]
      exact costL_app (by rw [List.length_map, List.length_range, ht])
    rw [h1, ih]
    have hc : ∀ q, q ≤ n → sumF' (fun j => f j ((ws.take n).getD j 0)) q = sumF' (fun j => f j (ws.getD j 0)) q := by
      intro q hq
      induction q with
      | zero => rfl
      | succ q ihq =>
        simp only [sumF']
        rw [ihq (by omega)]
        have : (ws.take n).getD q 0 = ws.getD q 0 := by rw [List.getD_eq_getElem?_getD, List.getD_eq_getElem?_getD, List.getElem?_take_of_lt (by omega)]
        rw [this]
    rw [hc n (Nat.le_refl _)]
    simp only [sumF', costL]
    rw [show ws.getD n 0 = x by rw [List.getD_eq_getElem?_getD, hx]; rfl]
    omega
/-- What a deviation costs. -/
theorem cost_dev {f l : Int} {x s u : Nat} (hx : (x : Int) ≤ f) (h1 : max 0 ((x : Int) - (f - l)) ≤ s) (h2 : (s : Int) ≤ min l x) : costB ⟨f, l, u⟩ x ≤ max ((u : Int) - s) ((s : Int) - u) := by
  unfold costB
  rw [if_neg (by dsimp only; omega)]
  dsimp only
  omega
/-- The line with looks as they are made, for the first bales. -/
structure MkIs (c k : Ln) (ws : List Nat) (q : Nat) (rem : Nat) : Prop where
  good : k.Good
  len : k.bales.length = c.bales.length
  may : k.may = c.may
  drift : k.drift = c.drift
  mist : k.mist = c.mist
  fl : ∀ j, j < c.bales.length → (baleAt k j).f = (baleAt c j).f
  cost : sumF' (fun j => costB (baleAt k j) (ws.getD j 0)) q + rem ≤ c.mist
theorem mk_zero {c : Ln} (hd : c.Good) (ws : List Nat) {r : Nat} (hr : (r : Int) = c.mist) : MkIs c c ws 0 r := ⟨hd, rfl, rfl, rfl, rfl, fun _ _ => rfl, by simp only [sumF']; omega⟩
def setW (k : Ln) (q u : Nat) : Ln := { k with bales := k.bales.set q { baleAt k q with w := u } }
theorem setW_len (k : Ln) (q u : Nat) : (setW k q u).bales.length = k.bales.length := List.length_set
theorem setW_at {k : Ln} {q u j : Nat} (hq : q < k.bales.length) (hj : j < k.bales.length) : baleAt (setW k q u) j = if q = j then { baleAt k q with w := (u : Int) } else baleAt k j := by
  have h1 : (setW k q u).bales[j]? = some (baleAt (setW k q u) j) := bale_get (by rw [setW_len]; exact hj)
  have h2 : (setW k q u).bales[j]? = (k.bales.set q { baleAt k q with w := (u : Int) })[j]? := rfl
  rw [h2, List.getElem?_set] at h1
  by_cases h : q = j
  · rw [if_pos h, if_pos hq] at h1
    rw [if_pos h]
    exact (Option.some.inj h1).symm
  · rw [if_neg h, bale_get hj] at h1
    rw [if_neg h]
    exact (Option.some.inj h1).symm
theorem mk_succ {c k : Ln} {ws : List Nat} {q r x s u : Nat} (h : MkIs c k ws q r) (hq : q < c.bales.length) (hx : ws[q]? = some x) (hxf : (x : Int) ≤ (baleAt k q).f) (h1 : max 0 ((x : Int) - ((baleAt k q).f - (baleAt k q).l)) ≤ s) (h2 : (s : Int) ≤ min (baleAt k q).l x) (hu : (u : Int) ≤ (baleAt k q).l) {r' : Nat} (hr : (r' : Int) = (r : Int) - max ((u : Int) - s) ((s : Int) - u)) :
    MkIs c (setW k q u) ws (q + 1) r' := by
  have hqk : q < k.bales.length := by rw [h.len]; exact hq
  have hg := bale_good h.good hqk
  refine ⟨⟨by rw [setW_len]; exact h.good.n1, by rw [setW_len]; exact h.good.n6, fun b hb => ?_, h.good.m0, h.good.m1, h.good.d0, h.good.d1, h.good.k0, h.good.k1⟩, by rw [setW_len, h.len], h.may, h.drift, h.mist, fun j hj => ?_, ?_⟩
  · rcases List.mem_or_eq_of_mem_set hb with h' | h'
    · exact h.good.bl b h'
    · subst h'
      exact ⟨hg.f1, hg.f2, hg.l0, hg.l1, by show (0 : Int) ≤ u; omega, hu⟩
  · rw [setW_at hqk (by rw [h.len]; exact hj)]
    by_cases hj' : q = j
    · subst hj'; rw [if_pos rfl]; exact h.fl q hj
    · rw [if_neg hj']; exact h.fl j hj
  · have hsame : ∀ m, m ≤ q → sumF' (fun j => costB (baleAt (setW k q u) j) (ws.getD j 0)) m = sumF' (fun j => costB (baleAt k j) (ws.getD j 0)) m := by
      intro m hm
      induction m with
      | zero => rfl
      | succ m ih =>
        simp only [sumF']
        rw [ih (by omega), setW_at hqk (by rw [h.len]; omega), if_neg (by omega)]
    simp only [sumF']
    rw [hsame q (Nat.le_refl _), setW_at hqk hqk, if_pos rfl, show ws.getD q 0 = x by rw [List.getD_eq_getElem?_getD, hx]; rfl]
    have : costB { baleAt k q with w := (u : Int) } x ≤ max ((u : Int) - s) ((s : Int) - u) := cost_dev (f := (baleAt k q).f) (l := (baleAt k q).l) (u := u) hxf h1 h2
    have hc := h.cost
    omega
theorem mk_tru {c k : Ln} {ws : List Nat} {r : Nat} (h : MkIs c k ws c.bales.length r) (hl : ws.length = c.bales.length) (ha : AdjI c.drift.toNat ws) (hf : ∀ (j x : Nat), ws[j]? = some x → (x : Int) ≤ (baleAt c j).f) (hd : c.Good) : Tru k (allN k) c.mist ws := by
  refine ⟨by rw [owns_len, h.len]; exact hl, fun x hx => ?_, by rw [h.drift]; exact adj_of ha, ?_⟩
  · obtain ⟨j, hj⟩ := List.mem_iff_getElem?.1 hx
    have hjl : j < c.bales.length := by rw [← hl]; exact (List.getElem?_eq_some_iff.1 hj).1
    have := hf j x hj
    have := (bale_good hd hjl).f2
    omega
  · unfold owns
    rw [h.len, costL_range _ _ _ hl]
    have hsame : ∀ m, m ≤ c.bales.length → sumF' (fun j => ownF k (allN k) j (ws.getD j 0)) m = sumF' (fun j => costB (baleAt k j) (ws.getD j 0)) m := by
      intro m hm
      induction m with
      | zero => rfl
      | succ m ih =>
        simp only [sumF']
        rw [ih (by omega), ownAll (by rw [h.len]; omega)]
    rw [hsame _ (Nat.le_refl _)]
    have := h.cost
    omega
end Go.Ag
/- Layer 6: truths that are made, the walk. -/
namespace Go.Ag
open Go.Proofs
set_option maxRecDepth 100000

def row1 (n : Nat) : List CV := [I n]
theorem row1_len (l : List Nat) : ∀ r ∈ l.map row1, r.length = 1 := by intro r hr; obtain ⟨x, _, rfl⟩ := List.mem_map.1 hr; rfl
theorem flat_row1 : ∀ l : List Nat, (l.map row1).flatten = l.map fun n : Nat => I (n : Int)
  | [] => rfl
  | x :: l => by simp only [List.map_cons, List.flatten_cons, flat_row1 l]; rfl
def numB (l : List Nat) : AB := .blk ((l.map fun n : Nat => I (n : Int)).map .c)
theorem RowsL.ints {h : Heap} {o m : Nat} {l : List Nat} (R : RowsL 1 h (.msl o 1 0 m m) (l.map row1)) : m = l.length ∧ Heap.at h o = numB l ∧ o < h.n ∧ l ≠ [] := by
  rcases R with ⟨h1, _⟩ | ⟨o', h1, hb, hlt, hne⟩
  · cases h1
  · simp only [AV.msl.injEq] at h1
    obtain ⟨rfl, _, _, rfl, _⟩ := h1
    exact ⟨by rw [List.length_map], by rw [hb, flat_row1]; rfl, hlt, fun e => hne (by rw [e]; rfl)⟩
theorem U28 : Try.prog.underlying 28 = some (.slice 3) := by kernel_rfl
theorem S3 : slicePart Try.prog 3 = some 1 := by kernel_rfl

/-- Where it is. -/
structure TH (v : LV) (c : Ln) (bc : List CV) (bo bn : Nat) (h : Heap) (k : Ln) (id N0 a : Nat) (ws : List Nat) (oa : AV) (g : Heap) : Prop where
  b0 : Heap.at g h.n = v.blk c
  b1 : Heap.at g (h.n + 1) = .blk (ownA c id)
  bY : Heap.at g (h.n + 2) = .blk [.c (.sl bc bo bn)]
  bA : Heap.at g (h.n + 3) = .blk [.c (I a)]
  bi : Heap.at g id = rowB k
  i0 : h.n + 4 ≤ id
  i1 : id < N0
  n : N0 ≤ g.n
  ra : RowsL 1 g oa (ws.map row1)
  ia : ∀ o, outId oa = some o → N0 ≤ o
  F : Foot none' h g
section
variable {v : LV} {c : Ln} {bc : List CV} {bo bn : Nat} {h : Heap} {k : Ln} {id N0 a : Nat} {ws : List Nat} {oa : AV} {g g' : Heap}
theorem TH.draw (e : TH v c bc bo bn h k id N0 a ws oa g) (F : Foot (fun i => i = h.n + 3) g g') (hA : Heap.at g' (h.n + 3) = .blk [.c (I ((a + 1 : Nat) : Int))]) : TH v c bc bo bn h k id N0 (a + 1) ws oa g' := by
  have q1 := e.i0; have q2 := e.i1; have q3 := e.n; have q4 := F.n
  exact ⟨(F.keep _ (by omega) (by omega)).trans e.b0, (F.keep _ (by omega) (by omega)).trans e.b1, (F.keep _ (by omega) (by omega)).trans e.bY, hA, (F.keep _ (by omega) (by omega)).trans e.bi, q1, q2, by omega,
    e.ra.ext q4 (fun i hi ho => F.keep i hi (by have := e.ia i ho; omega)), e.ia, e.F.trans_up (N := h.n) (F.mono fun i _ hi => by omega) (Nat.le_refl _)⟩
theorem TH.app (e : TH v c bc bo bn h k id N0 a ws oa g) {z : Nat} {rr : SOut} (hR : RowsL 1 (after (g.push .dead (.blk ((row1 z).map .c))) rr) rr.val (ws.map row1 ++ [row1 z])) (hold : ∀ i, i < g.n → outId oa ≠ some i → Heap.at (after (g.push .dead (.blk ((row1 z).map .c))) rr) i = Heap.at g i)
    (hn' : g.n ≤ (after (g.push .dead (.blk ((row1 z).map .c))) rr).n) (hfresh : ∀ o, outId rr.val = some o → g.n ≤ o) : TH v c bc bo bn h k id N0 a (ws ++ [z]) rr.val (after (g.push .dead (.blk ((row1 z).map .c))) rr) := by
  have q1 := e.i0; have q2 := e.i1; have q3 := e.n; have q4 := e.F.n
  have lo : ∀ i, i < N0 → Heap.at (after (g.push .dead (.blk ((row1 z).map .c))) rr) i = Heap.at g i := fun i hi => hold i (by omega) (fun h2 => by have := e.ia _ h2; omega)
  exact ⟨(lo _ (by omega)).trans e.b0, (lo _ (by omega)).trans e.b1, (lo _ (by omega)).trans e.bY, (lo _ (by omega)).trans e.bA, (lo _ (by omega)).trans e.bi, q1, q2, by omega, by rw [List.map_append]; exact hR, fun o ho => Nat.le_trans e.n (hfresh o ho),
    ⟨by omega, fun i hi hw => (lo i (by omega)).trans (e.F.keep i hi hw)⟩⟩
theorem TH.put {o m : Nat} (e : TH v c bc bo bn h k id N0 a ws (.msl o 1 0 m m) g) {q z : Nat} (_ : q < ws.length) : TH v c bc bo bn h k id N0 a (ws.set q z) (.msl o 1 0 m m) (g.set .dead o (numB (ws.set q z))) := by
  have q1 := e.i0; have q2 := e.i1; have q3 := e.n
  obtain ⟨hm, hb, hlt, hne⟩ := e.ra.ints
  have ho := e.ia o rfl
  have K : ∀ i, i ≠ o → Heap.at (g.set .dead o (numB (ws.set q z))) i = Heap.at g i := fun i hi => at_set_ne _ _ hi
  refine ⟨(K _ (by omega)).trans e.b0, (K _ (by omega)).trans e.b1, (K _ (by omega)).trans e.bY, (K _ (by omega)).trans e.bA, (K _ (by omega)).trans e.bi, q1, q2, by rw [TMap.set_n]; exact q3, .inr ⟨o, ?_, ?_, by rw [TMap.set_n]; exact hlt, ?_⟩, e.ia, Foot.set (k := o) e.F (.inr (by omega)) _⟩
  · rw [List.length_map, List.length_set, hm]
  · rw [at_set_self _ _ hlt, flat_row1]; rfl
  · intro h'
    have : (ws.set q z).length = 0 := by have := congrArg List.length h'; rwa [List.length_map] at this
    rw [List.length_set] at this
    exact hne (List.length_eq_zero_iff.1 this)
theorem TH.line (e : TH v c bc bo bn h k id N0 a ws oa g) (k' : Ln) : TH v c bc bo bn h k' id N0 a ws oa (g.set .dead id (rowB k')) := by
  have q1 := e.i0; have q2 := e.i1; have q3 := e.n
  have K : ∀ i, i ≠ id → Heap.at (g.set .dead id (rowB k')) i = Heap.at g i := fun i hi => at_set_ne _ _ hi
  exact ⟨(K _ (by omega)).trans e.b0, (K _ (by omega)).trans e.b1, (K _ (by omega)).trans e.bY, (K _ (by omega)).trans e.bA, at_set_self _ _ (by omega), q1, q2, by rw [TMap.set_n]; exact q3, e.ra.ext (by rw [TMap.set_n]; exact Nat.le_refl _) (fun i hi ho => K i (by have := e.ia i ho; omega)), e.ia, Foot.set (k := id) e.F (.inr (by omega)) _⟩
theorem TH.re (e : TH v c bc bo bn h k id N0 a ws oa g) : TH v c bc bo bn h k id N0 a ws oa (g.set .dead (h.n + 1) (.blk (ownA c id))) := by
  have q1 := e.i0; have q2 := e.i1; have q3 := e.n
  have K : ∀ i, i ≠ h.n + 1 → Heap.at (g.set .dead (h.n + 1) (.blk (ownA c id))) i = Heap.at g i := fun i hi => at_set_ne _ _ hi
  exact ⟨(K _ (by omega)).trans e.b0, at_set_self (i := h.n + 1) _ _ (by omega), (K _ (by omega)).trans e.bY, (K _ (by omega)).trans e.bA, (K _ (by omega)).trans e.bi, q1, q2, by rw [TMap.set_n]; exact q3, e.ra.ext (by rw [TMap.set_n]; exact Nat.le_refl _) (fun i hi ho => K i (by have := e.ia i ho; omega)), e.ia, Foot.set (k := h.n + 1) e.F (.inr (by omega)) _⟩
end
theorem f_snoc {c : Ln} {ws : List Nat} {z : Nat} (h : ∀ (j x : Nat), ws[j]? = some x → (x : Int) ≤ (baleAt c j).f) (hz : (z : Int) ≤ (baleAt c ws.length).f) : ∀ (j x : Nat), (ws ++ [z])[j]? = some x → (x : Int) ≤ (baleAt c j).f := by
  intro j x hj
  by_cases hl : j < ws.length
  · rw [List.getElem?_append_left hl] at hj
    exact h j x hj
  · have hlen := (List.getElem?_eq_some_iff.1 hj).1
    rw [List.length_append, List.length_singleton] at hlen
    have : j = ws.length := by omega
    subst this
    rw [List.getElem?_append_right (Nat.le_refl _), Nat.sub_self] at hj
    have : z = x := by simpa using hj
    subst this
    exact hz
theorem read_num {ws : List Nat} {j x : Nat} (h : ws[j]? = some x) : readVar Try.prog 3 ((ws.map fun n : Nat => I (n : Int)).map .c) (0 + (j : Int).toNat * 1) = some (.c (I x)) := readVar_map (by
    rw [rv3, show 0 + (j : Int).toNat * 1 = j by omega, List.getElem?_map, h]; rfl)
theorem put_num {ws : List Nat} {j : Nat} (z : Nat) (h : j < ws.length) : putAt ((ws.map fun n : Nat => I (n : Int)).map AV.c) (0 + (j : Int).toNat * 1) [.c (I z)] = some (((ws.set j z).map fun n : Nat => I (n : Int)).map AV.c) := by
  rw [show 0 + (j : Int).toNat * 1 = j by omega, put_one (by rw [List.length_map, List.length_map]; exact h), List.map_set, List.map_set]
end Go.Ag
/- Layer 6: truths that are made, the walk. -/
namespace Go.Ag
open Go.Proofs
set_option maxRecDepth 100000

set_option maxHeartbeats 16000000 in
theorem truly_ret {v : LV} {c : Ln} (hv : v.Is c) (hd : c.Good) {bc : List CV} {bo bn : Nat} (hb : ByL bc bo bn) (h : Heap) :
    ∃ e h', CallOk Try.prog 12 [.c (v.cv c), .c (.sl bc bo bn)] h .no e h' .no ∧ ∃ (k : Ln) (id N0 a : Nat) (ws : List Nat) (o r : Nat), e = .ret (mkTuple [ownL c id, .msl o 1 0 c.bales.length c.bales.length]) ∧ TH v c bc bo bn h k id N0 a ws (.msl o 1 0 c.bales.length c.bales.length) h' ∧
      ws.length = c.bales.length ∧ AdjI c.drift.toNat ws ∧ (∀ (j x : Nat), ws[j]? = some x → (x : Int) ≤ (baleAt c j).f) ∧ MkIs c k ws c.bales.length r := by
  have n6 := hd.n6; have n1 := hd.n1
  have e1 := hv.sn
  have hd0 := hd.d0; have hd1 := hd.d1
  have hk0 := hd.k0; have hk1 := hd.k1
  obtain ⟨d, hdd⟩ : ∃ d : Nat, c.drift = d := ⟨c.drift.toNat, by omega⟩
  have hdn : c.drift.toNat = d := by omega
  refine call_then (hm := false) Try.func12 rfl ?_
  conv => whnf
  repeat (refine then_seq (hm := false) ?_; conv => whnf)
  generalize hH : TMap.push AB.dead (TMap.push AB.dead h _) _ = H
  have Hn : H.n = h.n + 2 := by rw [← hH]; rfl
  have b0 : Heap.at H h.n = v.blk c := by rw [← hH]; exact (at_push_lt _ _ (by simp only [push_n]; omega)).trans (at_push_self _ _)
  have b1 : Heap.at H (h.n + 1) = .blk [AV.lit (.slice none 0 0), AV.lit (.int .i64 0), AV.lit (.int .i64 0), AV.lit (.int .i64 0)] := by rw [← hH]; exact at_push_self _ _
  have f0 : Foot none' h H := by rw [← hH]; exact ((Foot.refl _ _).push _).push _
  clear hH
  obtain ⟨e, H1, cd, rfl, dY, dA, dn, dF⟩ := draws_ret bc bo bn H
  rw [Hn] at dY dA cd
  refine .inl _ H1 .no cd ?_
  conv => whnf
  have c0 := (dF.keep h.n (by omega) (fun x => x)).trans b0
  have c1 := (dF.keep (h.n + 1) (by omega) (fun x => x)).trans b1
  obtain ⟨e, H2, hc2, id, rfl, i1, i2, r1, f2⟩ := copied_ret hv hd.n1 hd.n6 H1
  have n2 := f2.n
  repeat (refine then_seq (hm := false) ?_; conv => whnf)
  refine ⟨_, c0, ?_⟩
  conv => whnf
  refine .inl _ H2 .no hc2 ?_
  conv => whnf
  refine ⟨_, (f2.keep (h.n + 1) (by omega) (fun x => x)).trans c1, ?_⟩
  conv => whnf
  generalize hK : TMap.set AB.dead H2 _ _ = K
  have Kn : K.n = H2.n := by rw [← hK, TMap.set_n]
  have Ka : ∀ i, i ≠ h.n + 1 → Heap.at K i = Heap.at H2 i := fun i hi => by rw [← hK]; exact at_set_ne _ _ hi
  have K1 : Heap.at K (h.n + 1) = .blk (ownA c id) := by rw [← hK]; exact at_set_self (i := h.n + 1) _ _ (by omega)
  have fK : Foot none' h K := by rw [← hK]; exact Foot.set (k := h.n + 1) ((f0.trans dF).trans f2) (.inr (by omega)) _
  clear hK
  have hT0 : TH v c bc bo bn h c id H2.n 0 [] nilA K :=
    ⟨(Ka h.n (by omega)).trans ((f2.keep h.n (by omega) (fun x => x)).trans c0), K1, (Ka (h.n + 2) (by omega)).trans ((f2.keep (h.n + 2) (by omega) (fun x => x)).trans dY), (Ka (h.n + 3) (by omega)).trans ((f2.keep (h.n + 3) (by omega) (fun x => x)).trans dA),
      (Ka id (by omega)).trans r1, by omega, i2, by omega, .inl ⟨rfl, rfl⟩, by simp [outId], fK⟩
  obtain ⟨N0, hN0⟩ : ∃ N0, N0 = H2.n := ⟨_, rfl⟩
  rw [← hN0] at hT0
  clear dY dA cd hc2 r1 f2 c0 c1 K1 fK Ka Kn b0 b1 f0 dF
  repeat (refine then_seq (hm := false) ?_; conv => whnf)
  refine ⟨_, hT0.b0, ?_⟩
  conv => whnf
  repeat (refine then_seq (hm := false) ?_; conv => whnf)
  refine ⟨_, hT0.b1, ?_⟩
  conv => whnf
  have hft : ∀ j, j < c.bales.length → ∃ f : Nat, (baleAt c j).f = f ∧ 1 ≤ f ∧ f ≤ 30 := fun j hj => by
    have := bale_good hd hj
    exact ⟨(baleAt c j).f.toNat, by have := this.f1; omega, by have := this.f1; omega, by have := this.f2; omega⟩
  refine loop_by (I := fun n st => ∃ (i a : Nat) (g : Heap) (ws : List Nat) (oa : AV), i ≤ c.bales.length ∧ n = c.bales.length - i ∧ TH v c bc bo bn h c id N0 a ws oa g ∧ a ≤ 2 * i ∧ ws.length = i ∧ AdjI d ws ∧ (∀ (j x : Nat), ws[j]? = some x → (x : Int) ≤ (baleAt c j).f) ∧
    Has st 164 [(2, .ptr h.n 0), (4, .ptr (h.n + 1) 0), (5, oa), (6, drawC (h.n + 3) (h.n + 2)), (7, .c (I c.mist)), (30, .c (I c.bales.length)), (31, .c (I i))] [] none g) ?_ (k := c.bales.length)
    ⟨0, 0, K, [], nilA, Nat.zero_le _, rfl, hT0, Nat.zero_le _, rfl, by intro j x y h1; simp at h1, by intro j x h1; simp at h1, rfl, ⟨rfl, rfl, rfl, rfl, rfl, rfl, rfl, trivial⟩, rfl, rfl, rfl, rfl⟩
  clear hT0
  rintro n st ⟨i, a, g, ws, oa, hi, rfl, hT, ha, hl, hadj, hf, hs1⟩
  refine (hs1.then ?_).1
  conv => whnf
  repeat (refine then_seq (hm := false) ?_; conv => whnf)
  cases hc : decide ((i : Int) < ((c.bales.length : Nat) : Int))
  case false =>
    have : i = c.bales.length := by simp at hc; omega
    subst this
    have hne : ws ≠ [] := fun e => by rw [e] at hl; simp at hl; omega
    have hsh : ∃ o, oa = .msl o 1 0 c.bales.length c.bales.length := by
      rcases hT.ra with ⟨_, h2⟩ | ⟨o, h2, _⟩
      · exact absurd (by simpa using h2) hne
      · exact ⟨o, by rw [h2, List.length_map, hl]⟩
    obtain ⟨o, rfl⟩ := hsh
    obtain ⟨mt, hmt⟩ : ∃ mt : Nat, c.mist = mt := ⟨c.mist.toNat, by omega⟩
    rw [hmt] at hs1
    clear hs1
    conv => whnf
    repeat (refine then_seq (hm := false) ?_; conv => whnf)
    refine ⟨_, hT.b1, ?_⟩
    conv => whnf
    refine loop_by (I := fun n st => ∃ (i a r : Nat) (k : Ln) (g : Heap), i ≤ c.bales.length ∧ n = c.bales.length - i ∧ TH v c bc bo bn h k id N0 a ws (.msl o 1 0 c.bales.length c.bales.length) g ∧ a ≤ 12 + 3 * i ∧ MkIs c k ws i r ∧
      Has st 164 [(2, .ptr h.n 0), (4, .ptr (h.n + 1) 0), (5, .msl o 1 0 c.bales.length c.bales.length), (6, drawC (h.n + 3) (h.n + 2)), (7, .c (I r)), (95, .c (I c.bales.length)), (96, .c (I i))] [] none g) ?_ (k := c.bales.length)
      ⟨0, a, mt, c, g, Nat.zero_le _, rfl, hT, by omega, mk_zero hd ws hmt.symm, rfl, ⟨rfl, rfl, rfl, rfl, by rw [hmt]; rfl, rfl, rfl, trivial⟩, rfl, rfl, rfl, rfl⟩
    clear hT ha
    rintro n st ⟨i, a, r, k, g, hi, rfl, hT, ha, hM, hs1⟩
    refine (hs1.then ?_).1
    conv => whnf
    repeat (refine then_seq (hm := false) ?_; conv => whnf)
    cases hc2 : decide ((i : Int) < ((c.bales.length : Nat) : Int))
    case false =>
      have : i = c.bales.length := by simp at hc2; omega
      subst this
      conv => whnf
      repeat (refine then_seq (hm := false) ?_; conv => whnf)
      refine ⟨_, hT.b1, ?_⟩
      conv => whnf
      refine ⟨_, hT.b1, ?_⟩
      conv => whnf
      refine then_end (hm := false) ?_
      conv => whnf
      have q3 := hT.n; have q1 := hT.i0; have q2 := hT.i1
      refine ⟨_, at_set_self (i := h.n + 1) _ _ (by omega), ?_⟩
      conv => whnf
      exact ⟨k, id, N0, a, ws, o, r, rfl, hT.re, hl, by rw [hdn]; exact hadj, hf, hM⟩
    have hi : i < c.bales.length := by simp at hc2; omega
    have hik : i < k.bales.length := by rw [hM.len]; exact hi
    have hbk := bale_get hik
    have hgk := bale_good hM.good hik
    have g1 := hgk.f1; have g2 := hgk.f2; have g3 := hgk.l0; have g4 := hgk.l1
    obtain ⟨l, hlk⟩ : ∃ l : Nat, (baleAt k i).l = l := ⟨(baleAt k i).l.toNat, by omega⟩
    obtain ⟨f, hfk⟩ : ∃ f : Nat, (baleAt k i).f = f := ⟨(baleAt k i).f.toNat, by omega⟩
    obtain ⟨x, hx⟩ := get_some (l := ws) (k := i) (by omega)
    have hxf : (x : Int) ≤ (baleAt k i).f := by rw [hM.fl i hi]; exact hf i x hx
    obtain ⟨_, hbo, hlo, _⟩ := hT.ra.ints
    have q1 := hT.i0; have q2 := hT.i1; have q3 := hT.n
    have hmc := hM.cost
    have hr6 : r ≤ 6 := by
      have h0 : 0 ≤ sumF' (fun j => costB (baleAt k j) (ws.getD j 0)) i := by
        have : ∀ m, 0 ≤ sumF' (fun j => costB (baleAt k j) (ws.getD j 0)) m := fun m => by
          induction m with
          | zero => exact Int.le_refl 0
          | succ m ih => have := costB_0 (b := baleAt k m) (ws.getD m 0); simp only [sumF']; omega
        exact this i
      omega
    have rf := own_f hbk
    have rl := own_l hbk
    rw [hfk] at rf
    rw [hlk] at rl
    obtain ⟨e, G1, cd1, ⟨s, s1, s2, rfl⟩, A1, F1⟩ := draw_ret hb (lo := x - (f - l)) (hi := min l x) (by omega) (by omega) (a := a) (by omega) hT.bA hT.bY (by omega) (by omega)
    have hT1 := hT.draw F1 A1
    obtain ⟨e, G2, cd2, ⟨t, t1, t2, rfl⟩, A2, F2⟩ := draw_ret hb (lo := 0) (hi := r) (Nat.zero_le _) (by omega) (a := a + 1) (by omega) hT1.bA hT1.bY (by have := hT1.n; omega) (by omega)
    have hT2 := hT1.draw F2 A2
    obtain ⟨e, G3, cd3, ⟨u, u1, u2, rfl⟩, A3, F3⟩ := draw_ret hb (lo := s - t) (hi := min l (s + t)) (by omega) (by omega) (a := a + 1 + 1) (by omega) hT2.bA hT2.bY (by have := hT2.n; omega) (by omega)
    have hT3 := hT2.draw F3 A3
    conv => whnf
    repeat (refine then_seq (hm := false) ?_; conv => whnf)
    refine ⟨_, hT.b1, ?_⟩
    conv => whnf
    refine ⟨⟨rfl, by omega, by omega⟩, ?_⟩
    conv => whnf
    repeat (refine then_seq (hm := false) ?_; conv => whnf)
    refine draw_by (hm := false) (by kernel_rfl) (by kernel_rfl) ?_
    conv => whnf
    refine ⟨⟨rfl, by omega, by omega⟩, ?_⟩
    conv => whnf
    refine ⟨_, hbo, ?_⟩
    conv => whnf
    refine look_read (read_num hx) ?_
    conv => whnf
    refine ⟨_, hT.bi, ?_⟩
    conv => whnf
    refine look_read (rf) ?_
    conv => whnf
    refine ⟨_, hT.bi, ?_⟩
    conv => whnf
    refine look_read (rl) ?_
    conv => whnf
    refine ⟨((f - l : Nat) : Int), by rw [wrap_eq (by omega) (by omega)]; omega, ?_⟩
    conv => whnf
    refine ⟨(x : Int) - ((f - l : Nat) : Int), by rw [wrap_eq (by omega) (by omega)], ?_⟩
    conv => whnf
    refine ⟨_, hT.bi, ?_⟩
    conv => whnf
    refine look_read (rl) ?_
    conv => whnf
    refine ⟨⟨rfl, by omega, by omega⟩, ?_⟩
    conv => whnf
    refine ⟨_, hbo, ?_⟩
    conv => whnf
    refine look_read (read_num hx) ?_
    conv => whnf
    refine ⟨by kernel_rfl, ?_⟩
    conv => whnf
    rw [show max (0 : Int) ((x : Int) - ((f - l : Nat) : Int)) = ((x - (f - l) : Nat) : Int) by omega, show min (l : Int) (x : Int) = ((min l x : Nat) : Int) by omega]
    refine .inl _ G1 .no cd1 ?_
    conv => whnf
    repeat (refine then_seq (hm := false) ?_; conv => whnf)
    refine .inl _ G2 .no cd2 ?_
    conv => whnf
    repeat (refine then_seq (hm := false) ?_; conv => whnf)
    refine ⟨(s : Int) - (t : Int), by rw [wrap_eq (by omega) (by omega)], ?_⟩
    conv => whnf
    refine ⟨_, hT2.bi, ?_⟩
    conv => whnf
    refine look_read (rl) ?_
    conv => whnf
    refine ⟨((s + t : Nat) : Int), by rw [wrap_eq (by omega) (by omega)]; omega, ?_⟩
    conv => whnf
    rw [show max (0 : Int) ((s : Int) - (t : Int)) = ((s - t : Nat) : Int) by omega, show min (l : Int) ((s + t : Nat) : Int) = ((min l (s + t) : Nat) : Int) by omega]
    refine .inl _ G3 .no cd3 ?_
    conv => whnf
    repeat (refine then_seq (hm := false) ?_; conv => whnf)
    refine ⟨_, hT3.bi, ?_⟩
    conv => whnf
    refine look_put (rowsC_put2 u hbk) ?_
    conv => whnf
    refine forceL_intro ?_
    conv => whnf
    have hT4 := hT3.line (setW k i u)
    obtain ⟨r', hr'⟩ : ∃ r' : Nat, (r' : Int) = (r : Int) - max ((u : Int) - s) ((s : Int) - u) := ⟨((r : Int) - max ((u : Int) - s) ((s : Int) - u)).toNat, by omega⟩
    have hM2 := mk_succ hM hi hx hxf (s := s) (u := u) (by omega) (by omega) (by omega) hr'
    repeat (refine then_seq (hm := false) ?_; conv => whnf)
    refine ⟨(u : Int) - (s : Int), by rw [wrap_eq (by omega) (by omega)], ?_⟩
    conv => whnf
    refine ⟨(s : Int) - (u : Int), by rw [wrap_eq (by omega) (by omega)], ?_⟩
    conv => whnf
    refine ⟨(r' : Int), by rw [wrap_eq (by omega) (by omega), hr'], ?_⟩
    conv => whnf
    refine then_end (hm := false) ?_
    conv => whnf
    refine ⟨((i + 1 : Nat) : Int), by rw [wrap_eq (by omega) (by omega)]; omega, ?_⟩
    conv => whnf
    exact ⟨c.bales.length - (i + 1), by omega, i + 1, a + 1 + 1 + 1, r', setW k i u, _, by omega, rfl, hT4, by omega, hM2, rfl, ⟨rfl, rfl, rfl, rfl, rfl, rfl, rfl, trivial⟩, rfl, rfl, rfl, rfl⟩
  have hi : i < c.bales.length := by simp at hc; omega
  have hbi := bale_get hi
  obtain ⟨f, hff, hf1, hf2⟩ := hft i hi
  have q1 := hT.i0; have q2 := hT.i1; have q3 := hT.n
  obtain ⟨e, G, cd1, ⟨z, z1, z2, rfl⟩, A1, F1⟩ := draw_ret hb (lo := 0) (hi := f) (Nat.zero_le _) (by omega) (a := a) (by omega) hT.bA hT.bY (by omega) (by omega)
  have hT1 := hT.draw F1 A1
  have hofl := own_f hbi
  rw [hff] at hofl
  conv => whnf
  repeat (refine then_seq (hm := false) ?_; conv => whnf)
  refine ⟨_, hT.b1, ?_⟩
  conv => whnf
  refine ⟨⟨rfl, by omega, by omega⟩, ?_⟩
  conv => whnf
  repeat (refine then_seq (hm := false) ?_; conv => whnf)
  refine ⟨_, hT.bi, ?_⟩
  conv => whnf
  refine look_read (hofl) ?_
  conv => whnf
  rcases Nat.eq_zero_or_pos i with h0 | h0
  · subst h0
    have hws : ws = [] := List.length_eq_zero_iff.1 hl
    subst hws
    have hoa : oa = nilA := by
      rcases hT1.ra with ⟨h1, _⟩ | ⟨o, _, _, _, hne⟩
      · exact h1
      · exact absurd rfl hne
    subst hoa
    refine .inl _ G .no cd1 ?_
    conv => whnf
    obtain ⟨rr, hrr, hR', hold, hn', hfresh⟩ := rows_append (row := row1 z) (t := 28) (u := 28) hT1.ra U28 U28 rfl S3 rfl (row1_len ([] : List Nat)) rfl (by rw [List.length_map, hl]; unfold limit; omega)
    have hE := hT1.app hR' hold hn' hfresh
    obtain ⟨rv, rreads, rupds, rfresh⟩ := rr
    refine ⟨_, hrr, ?_⟩
    conv => whnf
    refine then_end (hm := false) ?_
    conv => whnf
    refine ⟨((0 + 1 : Nat) : Int), by rw [wrap_eq (by omega) (by omega)]; omega, ?_⟩
    conv => whnf
    exact ⟨c.bales.length - (0 + 1), by omega, 0 + 1, a + 1, _, ([] : List Nat) ++ [z], rv, by omega, rfl, hE, by omega, by rw [List.length_append, hl]; rfl, adjI_snoc hadj (fun y _ hne => absurd rfl hne), f_snoc hf (by rw [hl, hff]; omega), rfl, ⟨rfl, rfl, rfl, rfl, rfl, rfl, rfl, trivial⟩, rfl, rfl, rfl, rfl⟩
  have hsh : ∃ o, oa = .msl o 1 0 i i := by
    rcases hT1.ra.shape with h1 | ⟨o, m, h1⟩
    · rw [h1] at hT1
      rcases hT1.ra with ⟨_, h2⟩ | ⟨o, h2, _⟩
      · have : ws = [] := by simpa using h2
        rw [this] at hl; simp at hl; omega
      · cases h2
    · rw [h1] at hT1
      have := hT1.ra.ints.1
      exact ⟨o, by rw [h1, this, hl]⟩
  obtain ⟨o, rfl⟩ := hsh
  obtain ⟨_, hbo, hlo, _⟩ := hT1.ra.ints
  obtain ⟨y, hy⟩ := get_some (l := ws) (k := i - 1) (by omega)
  refine .inl _ G .no cd1 ?_
  conv => whnf
  rw [decide_eq_true (show (i : Int) > 0 by omega)]
  conv => whnf
  refine ⟨((i - 1 : Nat) : Int), by rw [wrap_eq (by omega) (by omega)]; omega, ?_⟩
  conv => whnf
  refine ⟨⟨rfl, by omega, by omega⟩, ?_⟩
  conv => whnf
  refine ⟨_, hbo, ?_⟩
  conv => whnf
  refine look_read (read_num hy) ?_
  conv => whnf
  refine draw_by (hm := false) (by kernel_rfl) (by kernel_rfl) ?_
  conv => whnf
  refine ⟨_, hT1.b0, ?_⟩
  conv => whnf
  have hyf := hf _ _ hy
  obtain ⟨fp, hfp, _, hfp2⟩ := hft (i - 1) (by omega)
  rw [hdd]
  refine ⟨(y : Int) - (d : Int), by rw [wrap_eq (by omega) (by omega)], ?_⟩
  conv => whnf
  refine ⟨_, hT1.bi, ?_⟩
  conv => whnf
  refine look_read (hofl) ?_
  conv => whnf
  refine ⟨_, hT1.b0, ?_⟩
  conv => whnf
  rw [hdd]
  refine ⟨(y : Int) + (d : Int), by rw [wrap_eq (by omega) (by omega)], ?_⟩
  conv => whnf
  refine ⟨by kernel_rfl, ?_⟩
  conv => whnf
  rw [show max (0 : Int) ((y : Int) - (d : Int)) = ((y - d : Nat) : Int) by omega, show min (f : Int) ((y : Int) + (d : Int)) = ((min f (y + d) : Nat) : Int) by omega]
  cases hgt : decide (((y - d : Nat) : Int) > ((min f (y + d) : Nat) : Int))
  case false =>
    have hgt := of_decide_eq_false hgt
    obtain ⟨e, G2, cd2, ⟨z', y1, y2, rfl⟩, A2, F2⟩ := draw_ret hb (lo := y - d) (hi := min f (y + d)) (by omega) (by omega) (a := a + 1) (by omega) hT1.bA hT1.bY (by have := hT1.n; omega) (by omega)
    have hT2 := hT1.draw F2 A2
    conv => whnf
    refine .inl _ G2 .no cd2 ?_
    conv => whnf
    obtain ⟨rr, hrr, hR', hold, hn', hfresh⟩ := rows_append (row := row1 z') (t := 28) (u := 28) hT2.ra U28 U28 rfl S3 rfl (row1_len ws) rfl (by rw [List.length_map, hl]; unfold limit; omega)
    have hE := hT2.app hR' hold hn' hfresh
    obtain ⟨rv, rreads, rupds, rfresh⟩ := rr
    refine ⟨_, hrr, ?_⟩
    conv => whnf
    refine then_end (hm := false) ?_
    conv => whnf
    refine ⟨((i + 1 : Nat) : Int), by rw [wrap_eq (by omega) (by omega)]; omega, ?_⟩
    conv => whnf
    exact ⟨c.bales.length - (i + 1), by omega, i + 1, a + 1 + 1, _, ws ++ [z'], rv, by omega, rfl, hE, by omega, by rw [List.length_append, hl]; rfl, adjI_snoc hadj (fun y' hy' _ => by rw [hl, hy] at hy'; cases hy'; exact ⟨by omega, by omega⟩), f_snoc hf (by rw [hl, hff]; omega), rfl, ⟨rfl, rfl, rfl, rfl, rfl, rfl, rfl, trivial⟩, rfl, rfl, rfl, rfl⟩
  conv => whnf
  refine loop_by (I := fun n st => ∃ (q : Nat) (K : Heap) (us : List Nat), q ≤ i ∧ n = i - q ∧ us.length = i ∧ (∀ j, j < q → us[j]? = some 0) ∧ TH v c bc bo bn h c id N0 (a + 1) us (.msl o 1 0 i i) K ∧
    Has st 164 [(2, .ptr h.n 0), (4, .ptr (h.n + 1) 0), (5, .msl o 1 0 i i), (6, drawC (h.n + 3) (h.n + 2)), (7, .c (I c.mist)), (9, .ptr id (0 + (i : Int).toNat * 3)), (30, .c (I c.bales.length)), (31, .c (I i)), (69, .c (I i)), (70, .c (I q))] [] none K) ?_ (k := i)
    ⟨0, G, ws, Nat.zero_le _, rfl, hl, fun j hj => absurd hj (by omega), hT1, rfl, ⟨rfl, rfl, rfl, rfl, rfl, rfl, rfl, rfl, rfl, rfl, trivial⟩, rfl, rfl, rfl, rfl⟩
  rintro n st ⟨q, K, us, hq, rfl, hul, hu0, hTq, hs2⟩
  refine hs2.run (hm := false) ?_
  conv => whnf
  cases hcq : decide ((q : Int) < (i : Int))
  case true =>
    have hq : q < i := by simp at hcq; omega
    obtain ⟨_, hbq, hlq, _⟩ := hTq.ra.ints
    conv => whnf
    refine ⟨⟨rfl, by omega, by omega⟩, ?_⟩
    conv => whnf
    refine ⟨_, hbq, ?_⟩
    conv => whnf
    refine look_put (put_num 0 (show q < us.length by omega)) ?_
    conv => whnf
    refine forceL_intro ?_
    conv => whnf
    refine ⟨((q + 1 : Nat) : Int), by rw [wrap_eq (by omega) (by omega)]; omega, ?_⟩
    conv => whnf
    exact ⟨i - (q + 1), by omega, q + 1, _, us.set q 0, by omega, rfl, by rw [List.length_set]; exact hul, fun j hj => by
      rw [List.getElem?_set]
      by_cases h1 : q = j
      · rw [if_pos h1, if_pos (by omega)]
      · rw [if_neg h1]; exact hu0 j (by omega), hTq.put (by omega), rfl, ⟨rfl, rfl, rfl, rfl, rfl, rfl, rfl, rfl, rfl, rfl, trivial⟩, rfl, rfl, rfl, rfl⟩
  have hqi : q = i := by simp at hcq; omega
  subst hqi
  have hus : us = List.replicate q 0 := by
    rw [List.eq_replicate_iff]
    refine ⟨hul, fun b hb => ?_⟩
    obtain ⟨j, hj⟩ := List.mem_iff_getElem?.1 hb
    have hjl := (List.getElem?_eq_some_iff.1 hj).1
    rw [hu0 j (by omega)] at hj
    exact (Option.some.inj hj).symm
  have hadj2 : AdjI d us := by rw [hus]; exact adjI_zero d q
  have hf2' : ∀ (j x : Nat), us[j]? = some x → (x : Int) ≤ (baleAt c j).f := fun j x hj => by
    have hjl := (List.getElem?_eq_some_iff.1 hj).1
    rw [hu0 j (by omega)] at hj
    cases hj
    obtain ⟨f', hf', _, _⟩ := hft j (by omega)
    rw [hf']; omega
  conv => whnf
  refine draw_by (hm := false) (by kernel_rfl) (by kernel_rfl) ?_
  conv => whnf
  refine ⟨_, hTq.bi, ?_⟩
  conv => whnf
  refine look_read (hofl) ?_
  conv => whnf
  refine ⟨_, hTq.b0, ?_⟩
  conv => whnf
  rw [hdd]
  refine ⟨by kernel_rfl, ?_⟩
  conv => whnf
  rw [show min (f : Int) (d : Int) = ((min f d : Nat) : Int) by omega]
  obtain ⟨e, G2, cd2, ⟨z', y1, y2, rfl⟩, A2, F2⟩ := draw_ret hb (lo := 0) (hi := min f d) (Nat.zero_le _) (by omega) (a := a + 1) (by omega) hTq.bA hTq.bY (by have := hTq.n; omega) (by omega)
  have hT2 := hTq.draw F2 A2
  conv => whnf
  refine .inl _ G2 .no cd2 ?_
  conv => whnf
  obtain ⟨rr, hrr, hR', hold, hn', hfresh⟩ := rows_append (row := row1 z') (t := 28) (u := 28) hT2.ra U28 U28 rfl S3 rfl (row1_len us) rfl (by rw [List.length_map, hul]; unfold limit; omega)
  have hE := hT2.app hR' hold hn' hfresh
  obtain ⟨rv, rreads, rupds, rfresh⟩ := rr
  refine ⟨_, hrr, ?_⟩
  conv => whnf
  refine then_end (hm := false) ?_
  conv => whnf
  refine ⟨((q + 1 : Nat) : Int), by rw [wrap_eq (by omega) (by omega)]; omega, ?_⟩
  conv => whnf
  exact ⟨c.bales.length - (q + 1), by omega, q + 1, a + 1 + 1, _, us ++ [z'], rv, by omega, rfl, hE, by omega, by rw [List.length_append, hul]; rfl, adjI_snoc hadj2 (fun y' hy' _ => by rw [hu0 _ (by omega)] at hy'; cases hy'; exact ⟨by omega, by omega⟩), f_snoc hf2' (by rw [hul, hff]; omega), rfl, ⟨rfl, rfl, rfl, rfl, rfl, rfl, rfl, trivial⟩, rfl, rfl, rfl, rfl⟩
end Go.Ag
/- Layer 6: all looked through, as a truth has it (no program here). -/
namespace Go.Ag
open Go.Proofs
set_option maxRecDepth 100000

def pinB (ws : List Nat) (q i : Nat) (b : Bl) : Bl := if i < q then ⟨b.f, b.f, ws.getD i 0⟩ else b
def pinQ (c : Ln) (ws : List Nat) (q : Nat) : Ln := { c with bales := c.bales.mapIdx fun i b => pinB ws q i b }
theorem pinQ_len (c : Ln) (ws : List Nat) (q : Nat) : (pinQ c ws q).bales.length = c.bales.length := List.length_mapIdx
theorem pinQ_get (c : Ln) (ws : List Nat) (q i : Nat) : (pinQ c ws q).bales[i]? = (c.bales[i]?).map (pinB ws q i) := List.getElem?_mapIdx
theorem pinQ_at {c : Ln} (ws : List Nat) (q : Nat) {i : Nat} (hi : i < c.bales.length) : baleAt (pinQ c ws q) i = pinB ws q i (baleAt c i) := by
  have h1 := pinQ_get c ws q i
  rw [bale_get hi, bale_get (by rw [pinQ_len]; exact hi)] at h1
  exact Option.some.inj h1
theorem pinQ_zero (c : Ln) (ws : List Nat) : pinQ c ws 0 = c := by
  obtain ⟨bs, a, b, m⟩ := c
  unfold pinQ
  congr 1
  apply List.ext_getElem?
  intro i
  rw [List.getElem?_mapIdx]
  cases bs[i]? with
  | none => rfl
  | some x => simp [pinB]
theorem pinQ_succ {c : Ln} {ws : List Nat} {q x : Nat} (hq : q < c.bales.length) (hx : ws[q]? = some x) : (pinQ c ws (q + 1)).bales = (pinQ c ws q).bales.set q ⟨(baleAt c q).f, (baleAt c q).f, x⟩ := by
  apply List.ext_getElem?
  intro i
  rw [List.getElem?_set, pinQ_get]
  by_cases hi : q = i
  · subst hi
    rw [if_pos rfl, if_pos (by rw [pinQ_len]; exact hq), bale_get hq]
    simp only [Option.map_some, pinB]
    rw [if_pos (by omega), List.getD_eq_getElem?_getD, hx]; rfl
  · rw [if_neg hi, pinQ_get]
    cases c.bales[i]? with
    | none => rfl
    | some b =>
      simp only [Option.map_some, Option.some.injEq]
      unfold pinB
      by_cases h1 : i < q
      · rw [if_pos h1, if_pos (by omega)]
      · rw [if_neg h1, if_neg (by omega)]
theorem pinQ_good {c : Ln} (hd : c.Good) {ws : List Nat} (hf : ∀ (j x : Nat), ws[j]? = some x → (x : Int) ≤ (baleAt c j).f) (q : Nat) : (pinQ c ws q).Good := by
  refine ⟨by rw [pinQ_len]; exact hd.n1, by rw [pinQ_len]; exact hd.n6, fun b hb => ?_, hd.m0, hd.m1, hd.d0, hd.d1, hd.k0, hd.k1⟩
  obtain ⟨i, hi⟩ := List.mem_iff_getElem?.1 hb
  rw [pinQ_get] at hi
  cases hx : c.bales[i]? with
  | none => rw [hx] at hi; cases hi
  | some y =>
    rw [hx] at hi
    simp only [Option.map_some, Option.some.injEq] at hi
    subst hi
    have hg := hd.bl y (List.mem_of_getElem? hx)
    have hil := (List.getElem?_eq_some_iff.1 hx).1
    have hy : baleAt c i = y := by have := bale_get hil; rw [hx] at this; exact (Option.some.inj this).symm
    unfold pinB
    split
    · have := hg.f1
      refine ⟨hg.f1, hg.f2, by show 0 ≤ y.f; omega, Int.le_refl _, by show (0 : Int) ≤ ((ws.getD i 0 : Nat) : Int); omega, ?_⟩
      show ((ws.getD i 0 : Nat) : Int) ≤ y.f
      rw [List.getD_eq_getElem?_getD]
      cases hw : ws[i]? with
      | none => show ((0 : Nat) : Int) ≤ y.f; omega
      | some x => have := hf i x hw; rw [hy] at this; exact this
    · exact hg
theorem pinQ_mist {c : Ln} (hd : c.Good) {ws : List Nat} (hl : ws.length = c.bales.length) (ha : AdjI c.drift.toNat ws) (hf : ∀ (j x : Nat), ws[j]? = some x → (x : Int) ≤ (baleAt c j).f) : mistN (pinQ c ws c.bales.length) = 0 := by
  have hg := pinQ_good hd hf c.bales.length
  have : mistN (pinQ c ws c.bales.length) ≤ 0 := by
    refine (mist_iff hg (m := 0) (by omega)).2 ⟨ws, tru_zero.2 ⟨by rw [pinQ_len]; exact hl, fun x hx => ?_, adj_of ha, fun i x hi hx => ?_⟩⟩
    · obtain ⟨j, hj⟩ := List.mem_iff_getElem?.1 hx
      have hjl : j < c.bales.length := by rw [← hl]; exact (List.getElem?_eq_some_iff.1 hj).1
      have := hf j x hj
      have := (bale_good hd hjl).f2
      omega
    · rw [pinQ_len] at hi
      rw [pinQ_at _ _ hi]
      unfold pinB
      rw [if_pos hi, List.getD_eq_getElem?_getD, hx]
      exact pin_cost.2 ⟨hf i x hx, rfl⟩
  omega
/-- With so many mistakes. -/
def withM (c : Ln) (q : Nat) : Ln := { c with mist := q }
theorem withM_good {c : Ln} (hd : c.Good) {q : Nat} (hq : q ≤ 6) : (withM c q).Good := ⟨hd.n1, hd.n6, hd.bl, hd.m0, hd.m1, hd.d0, hd.d1, by show (0 : Int) ≤ (q : Int); omega, by show (q : Int) ≤ 6; omega⟩
theorem withM_mist (c : Ln) (q : Nat) : mistN (withM c q) = mistN c := rfl
theorem can_mist {c : Ln} (hd : c.Good) : canT c = decide (((mistN c : Nat) : Int) ≤ c.mist) := by
  have h0 := hd.k0; have h1 := hd.k1
  obtain ⟨m, hm⟩ : ∃ m : Nat, c.mist = m := ⟨c.mist.toNat, by omega⟩
  have h2 := can_iff hd
  have h3 := mist_iff hd (m := m) (by omega)
  rw [hm] at h2 ⊢
  rw [← h3] at h2
  cases hc : canT c
  · rw [hc] at h2
    exact (decide_eq_false (fun h => by have := h2.2 (by omega); cases this)).symm
  · exact (decide_eq_true (by have := h2.1 hc; omega)).symm
theorem all_err {c : Ln} (hd : c.Good) : ∃ s : Int × Int, allR c = (s, if canT c then 0 else 10) := by
  have hv := valid_good.2 hd
  cases hc : canT c
  · exact ⟨_, no_all hv hc⟩
  · exact ⟨allS c, by unfold allR lineRS orT; rw [hv, hc]; rfl⟩
theorem all_mist {c : Ln} (hd : c.Good) : ∃ s1 s2 e : Int, allR c = ((s1, s2), e) ∧ (e == 0) = decide (c.mist ≥ ((mistN c : Nat) : Int)) := by
  obtain ⟨⟨s1, s2⟩, hs⟩ := all_err hd
  refine ⟨s1, s2, _, hs, ?_⟩
  rw [can_mist hd]
  by_cases h : ((mistN c : Nat) : Int) ≤ c.mist
  · have h2 : decide (c.mist ≥ ((mistN c : Nat) : Int)) = true := decide_eq_true h
    rw [h2]; rfl
  · have h2 : decide (c.mist ≥ ((mistN c : Nat) : Int)) = false := decide_eq_false h
    rw [h2]; rfl
theorem clash_mist {c : Ln} (hd : c.Good) : ∃ y e : Int, clashR c = (y, e) ∧ (e == 4) = decide (((mistN c : Nat) : Int) ≤ c.mist) ∧ (e = 4 ∨ e = 0) := by
  obtain ⟨y, hy⟩ := clash_err hd
  refine ⟨y, _, hy, ?_, ?_⟩
  · rw [can_mist hd]
    by_cases h : ((mistN c : Nat) : Int) ≤ c.mist
    · rw [decide_eq_true h]; rfl
    · rw [decide_eq_false h]; rfl
  · cases canT c
    · exact .inr rfl
    · exact .inl rfl
theorem mist_val {c : Ln} (hd : c.Good) : mistR c = (((mistN c : Nat) : Int), 0) := by
  unfold mistR; rw [valid_good.2 hd]; rfl
end Go.Ag
/- Layer 6: the law ClassMistaken. -/
namespace Go.Ag
open Go.Proofs
set_option maxRecDepth 100000

inductive InW (P : Program) (c : Code) (s : ASt) (K : AExit → ASt → Prop) : Prop
  | mk (h : T P (.inLoop c) s K)
theorem loop_first {P : Program} {hm : Bool} {c : Code} {s : ASt} {K : AExit → ASt → Prop} (h : wCode P hm c s fun e s1 => match e with | .normal => InW P c s1 K | e => K e s1) : LoopW P c s K := by
  refine ⟨T_loop (.inl rfl) ((wCode_ok c s _ h).mono ?_)⟩
  intro e s1 h
  cases e with
  | normal => exact h.1
  | exit i => exact h
  | ret => exact h
  | panic v => exact h
theorem loop_next {P : Program} {hm : Bool} {c : Code} {s : ASt} {K : AExit → ASt → Prop} (h : wCode P hm c s fun e s1 => match e with | .normal => InW P c s1 K | e => K e s1) : InW P c s K := by
  refine ⟨T_loop (.inr rfl) ((wCode_ok c s _ h).mono ?_)⟩
  intro e s1 h
  cases e with
  | normal => exact h.1
  | exit i => exact h
  | ret => exact h
  | panic v => exact h
set_option maxHeartbeats 16000000 in
theorem mistLaw_ret {v : LV} {c : Ln} (h : v.IsS c) (hA : Ret Try.prog 11 [] (B true)) {bc : List CV} {bo bn : Nat} (hby : ByL bc bo bn) : Ret Try.prog 5 [v.cv c, .sl bc bo bn] (B true) := by
  have hv := h.toIs
  have e1 := hv.sn
  refine ret_then (hm := true) Try.func5 rfl ?_
  conv => whnf
  repeat (refine then_seq (hm := true) ?_; conv => whnf)
  refine .ret (fine_ret h) rfl ?_
  conv => whnf
  cases hd : validL c
  · conv => whnf
    refine .ret (hA) rfl ?_
    conv => whnf
    exact .val
  have hg := valid_good.1 hd
  have n6 := hg.n6
  have n1 := hg.n1
  have hmi := mistX_ret hv
  rw [mist_val hg] at hmi
  obtain ⟨y, er, hy, her4, her0⟩ := clash_mist hg
  have hcl := clashX_ret hv
  rw [hy] at hcl
  dsimp only [pairI] at hmi hcl
  obtain ⟨M, hM⟩ : ∃ M, M = mistN c := ⟨_, rfl⟩
  rw [← hM] at hmi her4
  conv => whnf
  repeat (refine then_seq (hm := true) ?_; conv => whnf)
  refine .ret (hmi) rfl ?_
  conv => whnf
  repeat (refine then_seq (hm := true) ?_; conv => whnf)
  refine .ret (hcl) rfl ?_
  conv => whnf
  have hq : ∀ q : Nat, q < 7 → ∃ s1 s2 e2 : Int, Ret Try.prog 14 [v.cv (withM c q)] (.tuple [.agg [I s1, I s2], I e2]) ∧ Ret Try.prog 17 [v.cv (withM c q)] (.tuple [I M, I 0]) ∧ ((e2 == 0) != decide ((q : Int) ≥ (M : Int))) = false := fun q hq => by
    have hvq : v.Is (withM c q) := ⟨hv.s, hv.short⟩
    have hgq := withM_good hg (q := q) (by omega)
    obtain ⟨s1, s2, e2, hs, he20⟩ := all_mist hgq
    have c1 := allX_ret hvq
    rw [hs] at c1
    have c2 := mistX_ret hvq
    rw [mist_val hgq, withM_mist, ← hM] at c2
    rw [withM_mist, ← hM] at he20
    have he20 : (e2 == 0) = decide ((q : Int) ≥ (M : Int)) := he20
    exact ⟨s1, s2, e2, c1, c2, by rw [he20]; simp⟩
  have hMM : (((M : Nat) : Int) != (M : Int)) = false := by simp
  refine then_via (hm := true) (fun st => Has st 136 [(1, .c (.sl bc bo bn)), (2, .ptr 0 0), (5, .c (I M)), (56, .c (B false))] [] none (TMap.push .dead TMap.nil (v.blk c))) ?_ ?_
  · conv => whnf
    refine ⟨_, bool_neq rfl rfl rfl _ _, ?_⟩
    conv => whnf
    rw [show ((er == 4) != decide ((M : Int) ≤ c.mist)) = false by rw [her4]; simp]
    rcases her0 with rfl | rfl
    · conv => whnf
      exact ⟨rfl, ⟨rfl, rfl, rfl, rfl, trivial⟩, rfl, rfl, rfl, rfl⟩
    · conv => whnf
      exact ⟨rfl, ⟨rfl, rfl, rfl, rfl, trivial⟩, rfl, rfl, rfl, rfl⟩
  rintro st hs
  refine hs.then ?_
  conv => whnf
  refine then_via (hm := true) (fun st => ∃ g : Heap, Heap.at g 0 = v.blk c ∧ 1 ≤ g.n ∧ Has st 136 [(1, .c (.sl bc bo bn)), (2, .ptr 0 0), (5, .c (I M))] [] none g) ?_ ?_
  · conv => whnf
    refine loop_first (hm := true) ?_
    obtain ⟨s1, s2, e2, c1, c2, hb⟩ := hq 0 (by omega)
    conv => whnf
    refine .ret (c1) rfl ?_
    conv => whnf
    refine .ret (c2) rfl ?_
    conv => whnf
    refine ⟨_, bool_neq (a := (e2 == 0)) (b := decide (((0 : Nat) : Int) ≥ (M : Int))) rfl rfl rfl _ _, ?_⟩
    conv => whnf
    rw [hb]
    conv => whnf
    rw [hMM]
    conv => whnf
    refine ⟨(((1 : Nat) : Nat) : Int), by rw [wrap_eq (by omega) (by omega)]; omega, ?_⟩
    conv => whnf
    clear c1 c2 hb
    refine loop_next (hm := true) ?_
    obtain ⟨s1, s2, e2, c1, c2, hb⟩ := hq 1 (by omega)
    conv => whnf
    refine .ret (c1) rfl ?_
    conv => whnf
    refine .ret (c2) rfl ?_
    conv => whnf
    refine ⟨_, bool_neq (a := (e2 == 0)) (b := decide (((1 : Nat) : Int) ≥ (M : Int))) rfl rfl rfl _ _, ?_⟩
    conv => whnf
    rw [hb]
    conv => whnf
    rw [hMM]
    conv => whnf
    refine ⟨(((2 : Nat) : Nat) : Int), by rw [wrap_eq (by omega) (by omega)]; omega, ?_⟩
    conv => whnf
    clear c1 c2 hb
    refine loop_next (hm := true) ?_
    obtain ⟨s1, s2, e2, c1, c2, hb⟩ := hq 2 (by omega)
    conv => whnf
    refine .ret (c1) rfl ?_
    conv => whnf
    refine .ret (c2) rfl ?_
    conv => whnf
    refine ⟨_, bool_neq (a := (e2 == 0)) (b := decide (((2 : Nat) : Int) ≥ (M : Int))) rfl rfl rfl _ _, ?_⟩
    conv => whnf
    rw [hb]
    conv => whnf
    rw [hMM]
    conv => whnf
    refine ⟨(((3 : Nat) : Nat) : Int), by rw [wrap_eq (by omega) (by omega)]; omega, ?_⟩
    conv => whnf
    clear c1 c2 hb
    refine loop_next (hm := true) ?_
    obtain ⟨s1, s2, e2, c1, c2, hb⟩ := hq 3 (by omega)
    conv => whnf
    refine .ret (c1) rfl ?_
    conv => whnf
    refine .ret (c2) rfl ?_
    conv => whnf
    refine ⟨_, bool_neq (a := (e2 == 0)) (b := decide (((3 : Nat) : Int) ≥ (M : Int))) rfl rfl rfl _ _, ?_⟩
    conv => whnf
    rw [hb]
    conv => whnf
    rw [hMM]
    conv => whnf
    refine ⟨(((4 : Nat) : Nat) : Int), by rw [wrap_eq (by omega) (by omega)]; omega, ?_⟩
    conv => whnf
    clear c1 c2 hb
    refine loop_next (hm := true) ?_
    obtain ⟨s1, s2, e2, c1, c2, hb⟩ := hq 4 (by omega)
    conv => whnf
    refine .ret (c1) rfl ?_
    conv => whnf
    refine .ret (c2) rfl ?_
    conv => whnf
    refine ⟨_, bool_neq (a := (e2 == 0)) (b := decide (((4 : Nat) : Int) ≥ (M : Int))) rfl rfl rfl _ _, ?_⟩
    conv => whnf
    rw [hb]
    conv => whnf
    rw [hMM]
    conv => whnf
    refine ⟨(((5 : Nat) : Nat) : Int), by rw [wrap_eq (by omega) (by omega)]; omega, ?_⟩
    conv => whnf
    clear c1 c2 hb
    refine loop_next (hm := true) ?_
    obtain ⟨s1, s2, e2, c1, c2, hb⟩ := hq 5 (by omega)
    conv => whnf
    refine .ret (c1) rfl ?_
    conv => whnf
    refine .ret (c2) rfl ?_
    conv => whnf
    refine ⟨_, bool_neq (a := (e2 == 0)) (b := decide (((5 : Nat) : Int) ≥ (M : Int))) rfl rfl rfl _ _, ?_⟩
    conv => whnf
    rw [hb]
    conv => whnf
    rw [hMM]
    conv => whnf
    refine ⟨(((6 : Nat) : Nat) : Int), by rw [wrap_eq (by omega) (by omega)]; omega, ?_⟩
    conv => whnf
    clear c1 c2 hb
    refine loop_next (hm := true) ?_
    obtain ⟨s1, s2, e2, c1, c2, hb⟩ := hq 6 (by omega)
    conv => whnf
    refine .ret (c1) rfl ?_
    conv => whnf
    refine .ret (c2) rfl ?_
    conv => whnf
    refine ⟨_, bool_neq (a := (e2 == 0)) (b := decide (((6 : Nat) : Int) ≥ (M : Int))) rfl rfl rfl _ _, ?_⟩
    conv => whnf
    rw [hb]
    conv => whnf
    rw [hMM]
    conv => whnf
    refine ⟨(((7 : Nat) : Nat) : Int), by rw [wrap_eq (by omega) (by omega)]; omega, ?_⟩
    conv => whnf
    clear c1 c2 hb
    refine loop_next (hm := true) ?_
    conv => whnf
    exact ⟨_, rfl, by show 1 ≤ 15; omega, rfl, ⟨rfl, rfl, rfl, trivial⟩, rfl, rfl, rfl, rfl⟩
  rintro st ⟨g, g0, gn, hs⟩
  refine hs.then ?_
  conv => whnf
  repeat (refine then_seq (hm := false) ?_; conv => whnf)
  refine ⟨_, g0, ?_⟩
  conv => whnf
  obtain ⟨e, G, hcG, k, id, N0, a, ws, o, r, rfl, hT, hwl, hadj, hf, hMk⟩ := truly_ret hv hg hby g
  refine .inl _ G .no hcG ?_
  conv => whnf
  refine ⟨_, at_push_self _ _, ?_⟩
  conv => whnf
  have q1 := hT.i0; have q2 := hT.i1; have q3 := hT.n
  have hg0 : Heap.at G 0 = v.blk c := (hT.F.keep 0 (by omega) (fun x => x)).trans g0
  generalize hK : TMap.set AB.dead (TMap.push AB.dead G _) _ _ = K
  have Kn : K.n = G.n + 1 := by rw [← hK]; exact new_n _ _ _
  have Ka : ∀ i, i < G.n → Heap.at K i = Heap.at G i := fun i hi => by rw [← hK]; exact at_old _ _ _ hi
  have Kr : Heap.at K G.n = .blk (ownA c id) := by rw [← hK]; exact at_new _ _ _
  clear hK
  obtain ⟨_, hbo, hlo, _⟩ := hT.ra.ints
  have ho := hT.ia o rfl
  have Kid := (Ka id (by omega)).trans hT.bi
  have Ko := (Ka o hlo).trans hbo
  repeat (refine then_seq (hm := false) ?_; conv => whnf)
  refine ⟨_, Kr, ?_⟩
  conv => whnf
  have hkl := hMk.len
  have hkf : ∀ (j x : Nat), ws[j]? = some x → (x : Int) ≤ (baleAt k j).f := fun j x hj => by
    have hjl : j < c.bales.length := by rw [← hwl]; exact (List.getElem?_eq_some_iff.1 hj).1
    rw [hMk.fl j hjl]; exact hf j x hj
  refine loop_by (I := fun n st => ∃ (q : Nat) (g : Heap), q ≤ c.bales.length ∧ n = c.bales.length - q ∧ Heap.at g 0 = v.blk c ∧ Heap.at g G.n = .blk (ownA c id) ∧ Heap.at g id = rowB (pinQ k ws q) ∧ Heap.at g o = numB ws ∧ G.n + 1 ≤ g.n ∧
    Has st 136 [(2, .ptr 0 0), (15, .ptr G.n 0), (16, .msl o 1 0 c.bales.length c.bales.length), (97, .c (I c.bales.length)), (98, .c (I q))] [] none g) ?_ (k := c.bales.length)
    ⟨0, _, Nat.zero_le _, rfl, (Ka 0 (by omega)).trans hg0, Kr, by rw [pinQ_zero]; exact Kid, Ko, by omega, rfl, ⟨rfl, rfl, rfl, rfl, rfl, trivial⟩, rfl, rfl, rfl, rfl⟩
  clear Kid Ko Kr Ka Kn hbo
  rintro n st ⟨q, g, hq, rfl, g0, gb, gi, go, gn, hs1⟩
  refine (hs1.then ?_).1
  conv => whnf
  repeat (refine then_seq (hm := false) ?_; conv => whnf)
  cases hcq : decide ((q : Int) < ((c.bales.length : Nat) : Int))
  case false =>
    have : q = c.bales.length := by simp at hcq; omega
    subst this
    have hgp := pinQ_good hMk.good hkf c.bales.length
    have c3 := mistX_ret (lvOf_ok hgp)
    rw [mist_val hgp] at c3
    have h0 : mistN (pinQ k ws c.bales.length) = 0 := by
      have := pinQ_mist hMk.good (ws := ws) (by rw [hwl, hkl]) (by rw [hMk.drift]; exact hadj) hkf
      rw [hkl] at this
      exact this
    rw [h0] at c3
    dsimp only [pairI] at c3
    have em : (pinQ k ws c.bales.length).may = c.may := hMk.may
    have ed : (pinQ k ws c.bales.length).drift = c.drift := hMk.drift
    have ei : (pinQ k ws c.bales.length).mist = c.mist := hMk.mist
    conv => whnf
    repeat (refine then_seq (hm := false) ?_; conv => whnf)
    refine ⟨_, gb, ?_⟩
    conv => whnf
    have hcall := fun K' hk => own_call (c := pinQ k ws c.bales.length) (n := c.bales.length) (by rw [pinQ_len, hkl]) gi (cs := []) c3 rfl (K := K') hk
    rw [em, ed, ei] at hcall
    refine hcall _ ?_
    conv => whnf
    repeat (refine then_seq (hm := false) ?_; conv => whnf)
    refine .ret (hA) rfl ?_
    conv => whnf
    refine then_end (hm := false) ?_
    conv => whnf
    exact .val
  have hq : q < c.bales.length := by simp at hcq; omega
  have hqk : q < k.bales.length := by rw [hkl]; exact hq
  obtain ⟨x, hx⟩ := get_some (l := ws) (k := q) (by omega)
  have hbq := bale_get (c := pinQ k ws q) (i := q) (by rw [pinQ_len]; exact hqk)
  have e0 : baleAt (pinQ k ws q) q = baleAt k q := by rw [pinQ_at ws q hqk]; unfold pinB; rw [if_neg (Nat.lt_irrefl _)]
  rw [e0] at hbq
  have hout := pinQ_succ hqk hx
  conv => whnf
  repeat (refine then_seq (hm := false) ?_; conv => whnf)
  refine mixed_by (hm := false) (by kernel_rfl) (by kernel_rfl) ?_
  conv => whnf
  refine ⟨_, gb, ?_⟩
  conv => whnf
  refine ⟨_, gb, ?_⟩
  conv => whnf
  refine ⟨_, gb, ?_⟩
  conv => whnf
  refine ⟨⟨rfl, by omega, by omega⟩, ?_⟩
  conv => whnf
  refine ⟨_, gi, ?_⟩
  conv => whnf
  refine look_read (own_f hbq) ?_
  conv => whnf
  refine ⟨⟨rfl, by omega, by omega⟩, ?_⟩
  conv => whnf
  refine ⟨_, go, ?_⟩
  conv => whnf
  refine look_read (read_num hx) ?_
  conv => whnf
  refine ⟨⟨rfl, by omega, by omega⟩, ?_⟩
  conv => whnf
  refine ⟨_, gi, ?_⟩
  conv => whnf
  refine look_put (rowsC_put1 _ hbq) ?_
  conv => whnf
  refine ⟨by show id < g.n; omega, ?_⟩
  conv => whnf
  refine forceL_intro ?_
  conv => whnf
  refine ⟨⟨rfl, by omega, by omega⟩, ?_⟩
  conv => whnf
  refine ⟨_, at_set_self _ _ (i := id) (by omega), ?_⟩
  conv => whnf
  refine look_put (rowsC_put2 x (List.getElem?_set_self (by rw [pinQ_len]; exact hqk))) ?_
  conv => whnf
  refine ⟨by show id < TMap.n _; rw [TMap.set_n]; omega, ?_⟩
  conv => whnf
  refine forceL_intro ?_
  conv => whnf
  rw [List.set_set]
  refine ⟨by kernel_rfl, ?_, ?_⟩
  · exact heaps_eq (l' := [(G.n, g, TMap.set AB.dead g id (.blk ((rowsC ((pinQ k ws q).bales.set q { baleAt k q with l := (baleAt k q).f })).map .c)))]) (by kernel_rfl) (heaps_cons (at_set_ne _ _ (by omega)) (by simp [HeapsOk]))
  conv => whnf
  refine then_end (hm := false) ?_
  conv => whnf
  refine ⟨((q + 1 : Nat) : Int), by rw [wrap_eq (by omega) (by omega)]; omega, ?_⟩
  conv => whnf
  exact ⟨c.bales.length - (q + 1), by omega, q + 1, _, by omega, rfl, (at_set_ne _ _ (i := 0) (k := id) (by omega)).trans ((at_set_ne _ _ (i := 0) (k := id) (by omega)).trans g0), (at_set_ne _ _ (i := G.n) (k := id) (by omega)).trans ((at_set_ne _ _ (i := G.n) (k := id) (by omega)).trans gb), (at_set_self _ _ (i := id) (by rw [TMap.set_n]; omega)).trans (by unfold rowB; rw [hout]), (at_set_ne _ _ (i := o) (k := id) (by omega)).trans ((at_set_ne _ _ (i := o) (k := id) (by omega)).trans go), by rw [TMap.set_n, TMap.set_n]; exact gn, rfl, ⟨rfl, rfl, rfl, rfl, rfl, trivial⟩, rfl, rfl, rfl, rfl⟩
end Go.Ag
/- Layer 6: a slice of small numbers is read as data. -/
namespace Go.Ag
open Go.Proofs Go.ChangeShapes Go.WideShapes Go.Deep Go.RowKit Go.ChangeShapes
set_option maxRecDepth 100000

theorem law_u16 {n : Int} (hn : (Lit.int .u16 n).wf = true) : ∃ w : Nat, n = w ∧ w < 65536 := by
  have h2 : 0 ≤ n ∧ n < 65536 := by
    have m0 : IntKind.u16.min = 0 := by decide
    have m1 : IntKind.u16.max = 65535 := by decide
    simp [Lit.wf] at hn
    omega
  exact ⟨n.toNat, by omega, by omega⟩
def W16 (z : Int) : CV := .lit (.int .u16 z)
theorem repP_w {Φ : Nat → Option Obj} : ∀ (zs : List Int) (vs : List Value), (∀ (i : Nat) (z : Int), zs[i]? = some z → vs[i]? = some (Value.int .u16 z)) → RepP Φ (zs.map W16) vs
  | [], _, _ => trivial
  | z :: zs, [], h => by have := h 0 z rfl; simp at this
  | z :: zs, v :: vs, h => by
    have h0 := h 0 z rfl
    simp only [List.getElem?_cons_zero, Option.some.injEq] at h0
    exact ⟨h0, repP_w zs vs fun i y hy => by have := h (i + 1) y (by simpa using hy); simpa using this⟩
theorem byL_of {zs : List Int} (hw : ∀ n ∈ zs, (Lit.int .u16 n).wf = true) : ByL (zs.map W16) 0 zs.length := by
  refine ⟨fun i hi => ?_⟩
  obtain ⟨z, hz⟩ := get_some hi
  obtain ⟨w, rfl, h2⟩ := law_u16 (hw z (List.mem_of_getElem? hz))
  exact ⟨w, h2, by rw [Nat.zero_add, List.getElem?_map, hz]; rfl⟩
theorem byL_nil : ByL [] 0 0 := ⟨fun i hi => absurd hi (by omega)⟩

section
variable {H : Type} {enc : TypeId × Value → H} {w : World} {base : Nat} {spare : Nat → Bool} {held : Bool}
theorem cells83 : Try.prog.cellsOf 83 = 1 := by kernel_rfl
theorem open_by {r : Reach} {b0 : Nat} {v : Value} {x : DataW H} {ps : List MemPlace} (hv : Value.okWide Try.prog w r b0 25 v) (h : DataW.Trod enc Try.prog w base spare held 25 v x ps) : ∃ bc bo bn, ByL bc bo bn ∧ RepC (allOf w) (.sl bc bo bn) v := by
  obtain ⟨a, len, cap, rfl⟩ := okWide_slice Try.underlying25 hv
  obtain ⟨fuel, hf⟩ := h
  rcases open_ints Try.underlying25 Try.underlying83 cells83 hf with ⟨h0, _⟩ | ⟨a', len', cap', zs, hcs, hb, hl, hm, hmm, hx, hc, hw⟩
  · have h0 : [Value.slice a len cap] = [.slice none 0 0] := h0
    simp only [List.cons.injEq, and_true] at h0
    rw [h0]
    exact ⟨[], 0, 0, byL_nil, .inl ⟨rfl, .inr rfl⟩⟩
  · have hcs : [Value.slice a len cap] = [.slice (some a') len' cap'] := hcs
    simp only [List.cons.injEq, and_true] at hcs
    rw [hcs]
    clear hcs hx
    have hlm : len' ≤ zs.length := by rw [hmm]; split <;> omega
    by_cases hlen : len' = 0
    · subst hlen
      exact ⟨[], 0, 0, byL_nil, .inl ⟨rfl, .inl ⟨a', cap', rfl⟩⟩⟩
    · have hlt : (zs.take len').length = len' := by rw [List.length_take]; omega
      refine ⟨(zs.take len').map W16, 0, (zs.take len').length, byL_of (fun n hn => hw n (List.mem_of_mem_take hn)), .inr ?_⟩
      obtain ⟨b, off, spot⟩ := a'
      have hc0 := hc 0 (by omega)
      have hspot : spot = none := by simpa [Addr.add] using World.cell?_spot hc0
      subst hspot
      have plain : ∀ n, (⟨b, off, none⟩ : Addr).add n = ⟨b, off + n, none⟩ := fun n => by unfold Addr.add; split <;> simp_all
      rw [plain] at hc0
      cases hh : w.heap[b]? with
      | none => simp [World.cell?, hh] at hc0
      | some o =>
        cases o with
        | cells cs e fr =>
          refine ⟨b, off, cap', cs, e, fr, by simp [hlt], by rw [hlt]; simpa using hl, hh, repP_w _ _ fun i z hz => ?_⟩
          have hi : i < len' := by have := (List.getElem?_eq_some_iff.1 hz).1; omega
          have hz' : zs[i]? = some z := by rw [List.getElem?_take_of_lt hi] at hz; exact hz
          have hci := hc i (by omega)
          rw [show zs.getD i 0 = z by rw [List.getD_eq_getElem?_getD, hz']; rfl, plain] at hci
          simp only [World.cell?, hh] at hci
          simpa using hci
        | _ => simp [World.cell?, hh] at hc0
end
structure By where
  bc : List CV
  bo : Nat
  bn : Nat
def By.ok (b : By) : Prop := ByL b.bc b.bo b.bn
def byW (b : By) : CV := .sl b.bc b.bo b.bn
theorem mistLaw2 {v : LV} {c : Ln} (h : v.IsS c) (hA : Ret Try.prog 11 [] (B true)) (b : By) (hb : b.ok) : Ret Try.prog 5 [v.cv c, byW b] (B true) := mistLaw_ret h hA hb
section
variable {H : Type} {enc : TypeId × Value → H} {w : World} {base : Nat} {spare : Nat → Bool} {held : Bool}
theorem open_by2 {r : Reach} {b0 : Nat} {v : Value} {x : DataW H} {ps : List MemPlace} (hv : Value.okWide Try.prog w r b0 25 v) (h : DataW.Trod enc Try.prog w base spare held 25 v x ps) : ∃ b : By, b.ok ∧ RepC (allOf w) (byW b) v := by
  obtain ⟨bc, bo, bn, h1, h2⟩ := open_by hv h
  exact ⟨⟨bc, bo, bn⟩, h1, h2⟩
end
end Go.Ag
