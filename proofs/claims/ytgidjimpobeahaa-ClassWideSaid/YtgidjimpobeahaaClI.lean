/- A bale that is looked through; the law ClassEnds returns true for arguments that are not far too long. No conditions. -/
import Derived.Test.YtgidjimpobeahaaClH
/- Layer 6: a bale that is looked through. -/
namespace Go.Ag
open Go.Proofs
set_option maxRecDepth 100000

theorem rowsC_w : ∀ {l : List Bl} {i : Nat} {b : Bl}, l[i]? = some b → (rowsC l)[i * 3 + 2]? = some (I b.w)
  | [], i, b, h => by simp at h
  | x :: l, 0, b, h => by simp at h; subst h; rfl
  | x :: l, i + 1, b, h => by
    have h1 := rowsC_w (l := l) (i := i) (b := b) (by simpa using h)
    have : rowsC (x :: l) = rowBl x ++ rowsC l := rfl
    rw [this, List.getElem?_append_right (by show 3 ≤ _; omega), show (i + 1) * 3 + 2 - (rowBl x).length = i * 3 + 2 by show (i + 1) * 3 + 2 - 3 = _; omega]
    exact h1
theorem own_f {l : List Bl} {i : Nat} {b : Bl} (h : l[i]? = some b) : readVar Try.prog 3 ((rowsC l).map AV.c) (0 + (i : Int).toNat * 3 + 0) = some (.c (I b.f)) := by
  refine readVar_map ?_
  rw [rv3, Int.toNat_natCast, Nat.zero_add, Nat.add_zero]
  exact rowsC_f h
theorem own_l {l : List Bl} {i : Nat} {b : Bl} (h : l[i]? = some b) : readVar Try.prog 3 ((rowsC l).map AV.c) (0 + (i : Int).toNat * 3 + 1) = some (.c (I b.l)) := by
  refine readVar_map ?_
  rw [rv3, Int.toNat_natCast, Nat.zero_add]
  exact rowsC_get h
theorem own_w {l : List Bl} {i : Nat} {b : Bl} (h : l[i]? = some b) : readVar Try.prog 3 ((rowsC l).map AV.c) (0 + (i : Int).toNat * 3 + 2) = some (.c (I b.w)) := by
  refine readVar_map ?_
  rw [rv3, Int.toNat_natCast, Nat.zero_add]
  exact rowsC_w h
/-- A bale that is looked through. -/
def pinL (c : Ln) (i w : Nat) : Ln := { c with bales := c.bales.set i ⟨(baleAt c i).f, (baleAt c i).f, w⟩ }
theorem pinL_len (c : Ln) (i w : Nat) : (pinL c i w).bales.length = c.bales.length := List.length_set
def okP (c : Ln) (i w : Nat) : Bool := decide (costB (baleAt c i) w ≤ 0)
theorem okP_iff {c : Ln} (hd : c.Good) {i w : Nat} (hi : i < c.bales.length) (hw : (w : Int) ≤ (baleAt c i).f) : okP c i w = true ↔ ¬ ((baleAt c i).w < max 0 ((w : Int) - ((baleAt c i).f - (baleAt c i).l))) ∧ ¬ ((baleAt c i).w > min (baleAt c i).l w) := by
  have hg := bale_good hd hi
  have := hg.w0; have := hg.w1; have := hg.l1
  unfold okP costB
  rw [if_neg (by omega), decide_eq_true_eq]
  omega
set_option maxHeartbeats 4000000 in
theorem pinned_ret {v : LV} {c : Ln} (hv : v.Is c) (hd : c.Good) {i : Nat} (hi : i < c.bales.length) {w : Nat} (hw : (w : Int) ≤ (baleAt c i).f) (h : Heap) :
    ∃ e h', CallOk Try.prog 24 [.c (v.cv c), .c (I i), .c (I w)] h .no e h' .no ∧ ∃ id, e = .ret (mkTuple [ownL c id, .c (B (okP c i w))]) ∧ id < h'.n ∧ Heap.at h' id = rowB (if okP c i w then pinL c i w else c) ∧ Foot none' h h' := by
  have hg := bale_good hd hi
  have g1 := hg.f1; have g2 := hg.f2; have g3 := hg.l0; have g4 := hg.l1; have g5 := hg.w0; have g6 := hg.w1
  have n6 := hd.n6
  have hok := okP_iff hd hi hw
  have hbi := bale_get hi
  obtain ⟨b, hb⟩ : ∃ b, b = baleAt c i := ⟨_, rfl⟩
  rw [← hb] at g1 g2 g3 g4 g5 g6 hok hbi hw
  refine call_then (hm := false) Try.func24 rfl ?_
  conv => whnf
  repeat (refine then_seq (hm := false) ?_; conv => whnf)
  generalize hH : TMap.push AB.dead (TMap.push AB.dead h _) _ = H
  have Hn : H.n = h.n + 2 := by rw [← hH]; rfl
  have b0 : Heap.at H h.n = v.blk c := by rw [← hH]; exact (at_push_lt _ _ (by simp only [push_n]; omega)).trans (at_push_self _ _)
  have b1 : Heap.at H (h.n + 1) = .blk [AV.lit (.slice none 0 0), AV.lit (.int .i64 0), AV.lit (.int .i64 0), AV.lit (.int .i64 0)] := by rw [← hH]; exact at_push_self _ _
  have f0 : Foot none' h H := by rw [← hH]; exact ((Foot.refl _ _).push _).push _
  clear hH
  obtain ⟨e1, H1, hc1, id, rfl, i1, i2, r1, f1⟩ := copied_ret hv hd.n1 hd.n6 H
  have n1 := f1.n
  refine ⟨_, b0, ?_⟩
  conv => whnf
  refine .inl _ H1 .no hc1 ?_
  conv => whnf
  refine ⟨_, at_push_self _ _, ?_⟩
  conv => whnf
  generalize hG : TMap.set AB.dead (TMap.push AB.dead H1 _) _ _ = G
  have Gn : G.n = H1.n + 1 := by rw [← hG]; exact new_n _ _ _
  have Ga : ∀ i, i < H1.n → Heap.at G i = Heap.at H1 i := fun i hi => by rw [← hG]; exact at_old _ _ _ hi
  have Gr : Heap.at G H1.n = .blk (ownA c id) := by rw [← hG]; exact at_new _ _ _
  have Gf : Foot none' h G := by rw [← hG]; exact Foot.set ((f0.trans f1).push _) (.inr (by omega)) _
  have Gi : Heap.at G id = rowB c := (Ga id (by omega)).trans r1
  have G1 : Heap.at G (h.n + 1) = .blk [AV.lit (.slice none 0 0), AV.lit (.int .i64 0), AV.lit (.int .i64 0), AV.lit (.int .i64 0)] := (Ga _ (by omega)).trans ((f1.keep _ (by omega) (fun x => x)).trans b1)
  clear hG
  repeat (refine then_seq (hm := false) ?_; conv => whnf)
  refine ⟨_, Gr, ?_⟩
  conv => whnf
  refine ⟨⟨rfl, by omega, by omega⟩, ?_⟩
  conv => whnf
  repeat (refine then_seq (hm := false) ?_; conv => whnf)
  refine draw_by (hm := false) (by kernel_rfl) (by kernel_rfl) ?_
  conv => whnf
  refine ⟨_, Gi, ?_⟩
  conv => whnf
  refine look_read (own_f hbi) ?_
  conv => whnf
  refine ⟨_, Gi, ?_⟩
  conv => whnf
  refine look_read (own_l hbi) ?_
  conv => whnf
  refine ⟨b.f - b.l, by rw [wrap_eq (by omega) (by omega)], ?_⟩
  conv => whnf
  refine ⟨(w : Int) - (b.f - b.l), by rw [wrap_eq (by omega) (by omega)], ?_⟩
  conv => whnf
  refine ⟨_, Gi, ?_⟩
  conv => whnf
  refine look_read (own_l hbi) ?_
  conv => whnf
  refine ⟨by kernel_rfl, ?_⟩
  conv => whnf
  repeat (refine then_seq (hm := false) ?_; conv => whnf)
  refine ⟨_, Gi, ?_⟩
  conv => whnf
  refine look_read (own_f hbi) ?_
  conv => whnf
  rw [decide_eq_false (show ¬ (w : Int) > b.f by omega)]
  conv => whnf
  refine ⟨_, Gi, ?_⟩
  conv => whnf
  refine look_read (own_w hbi) ?_
  conv => whnf
  have hcopy : okP c i w = false → (Heap.at G id = rowB (if okP c i w then pinL c i w else c)) := fun h => by rw [h]; exact Gi
  cases h1 : decide (b.w < max 0 ((w : Int) - (b.f - b.l)))
  case true =>
    have hk : okP c i w = false := by
      cases hk : okP c i w with
      | false => rfl
      | true => exact absurd (of_decide_eq_true h1) (hok.1 hk).1
    rw [hk]
    conv => whnf
    refine ⟨_, Gr, ?_⟩
    conv => whnf
    refine ⟨_, G1, ?_⟩
    conv => whnf
    refine ⟨_, at_set_self _ _ (i := h.n + 1) (by omega), ?_⟩
    conv => whnf
    exact ⟨id, rfl, by show id < TMap.n _; rw [TMap.set_n]; omega, (at_set_ne _ _ (i := id) (k := h.n + 1) (by omega)).trans Gi, Foot.set (k := h.n + 1) Gf (.inr (by omega)) _⟩
  conv => whnf
  refine ⟨_, Gi, ?_⟩
  conv => whnf
  refine look_read (own_w hbi) ?_
  conv => whnf
  cases h2 : decide (b.w > min b.l (w : Int))
  case true =>
    have hk : okP c i w = false := by
      cases hk : okP c i w with
      | false => rfl
      | true => exact absurd (of_decide_eq_true h2) (hok.1 hk).2
    rw [hk]
    conv => whnf
    refine ⟨_, Gr, ?_⟩
    conv => whnf
    refine ⟨_, G1, ?_⟩
    conv => whnf
    refine ⟨_, at_set_self _ _ (i := h.n + 1) (by omega), ?_⟩
    conv => whnf
    exact ⟨id, rfl, by show id < TMap.n _; rw [TMap.set_n]; omega, (at_set_ne _ _ (i := id) (k := h.n + 1) (by omega)).trans Gi, Foot.set (k := h.n + 1) Gf (.inr (by omega)) _⟩
  have hk : okP c i w = true := hok.2 ⟨of_decide_eq_false h1, of_decide_eq_false h2⟩
  rw [hk]
  conv => whnf
  repeat (refine then_seq (hm := false) ?_; conv => whnf)
  refine ⟨_, Gi, ?_⟩
  conv => whnf
  refine look_read (own_f hbi) ?_
  conv => whnf
  refine ⟨_, Gi, ?_⟩
  conv => whnf
  refine look_put ((rowsC_put1 b.f hbi)) ?_
  conv => whnf
  refine forceL_intro ?_
  conv => whnf
  refine ⟨_, at_set_self _ _ (i := id) (by omega), ?_⟩
  conv => whnf
  refine look_put ((rowsC_put2 w (List.getElem?_set_self hi))) ?_
  conv => whnf
  refine forceL_intro ?_
  conv => whnf
  rw [List.set_set]
  generalize hK : TMap.set AB.dead (TMap.set AB.dead G id _) id _ = K
  have Kn : K.n = H1.n + 1 := by rw [← hK, TMap.set_n, TMap.set_n]; exact Gn
  have K1 : Heap.at K H1.n = .blk (ownA c id) := by rw [← hK]; exact (at_set_ne _ _ (by omega)).trans ((at_set_ne _ _ (by omega)).trans Gr)
  have K2 : Heap.at K (h.n + 1) = .blk [AV.lit (.slice none 0 0), AV.lit (.int .i64 0), AV.lit (.int .i64 0), AV.lit (.int .i64 0)] := by rw [← hK]; exact (at_set_ne _ _ (by omega)).trans ((at_set_ne _ _ (by omega)).trans G1)
  have K3 : Heap.at K id = rowB (pinL c i w) := by rw [← hK, hb]; exact at_set_self _ _ (by rw [TMap.set_n]; omega)
  have Kf : Foot none' h K := by rw [← hK]; exact Foot.set (Foot.set Gf (.inr (by omega)) _) (.inr (by omega)) _
  clear hK
  repeat (refine then_seq (hm := false) ?_; conv => whnf)
  refine ⟨_, K1, ?_⟩
  conv => whnf
  refine ⟨_, K2, ?_⟩
  conv => whnf
  refine then_end (hm := false) ?_
  conv => whnf
  refine ⟨_, at_set_self _ _ (i := h.n + 1) (by omega), ?_⟩
  conv => whnf
  exact ⟨id, rfl, by show id < TMap.n _; rw [TMap.set_n]; omega, (at_set_ne _ _ (i := id) (k := h.n + 1) (by omega)).trans K3, Foot.set (k := h.n + 1) Kf (.inr (by omega)) _⟩
end Go.Ag
/- Layer 6: a bale that is looked through, by the truths (no program here). -/
namespace Go.Ag
open Go.Proofs
set_option maxRecDepth 100000

theorem pinL_at {c : Ln} {i w j : Nat} (hi : i < c.bales.length) (hj : j < c.bales.length) : baleAt (pinL c i w) j = if i = j then ⟨(baleAt c i).f, (baleAt c i).f, w⟩ else baleAt c j := by
  have h1 : (pinL c i w).bales[j]? = some (baleAt (pinL c i w) j) := bale_get (by rw [pinL_len]; exact hj)
  have h2 : (pinL c i w).bales[j]? = (c.bales.set i ⟨(baleAt c i).f, (baleAt c i).f, w⟩)[j]? := rfl
  rw [h2, List.getElem?_set] at h1
  by_cases h : i = j
  · rw [if_pos h, if_pos hi] at h1
    rw [if_pos h]
    exact (Option.some.inj h1).symm
  · rw [if_neg h, bale_get hj] at h1
    rw [if_neg h]
    exact (Option.some.inj h1).symm
theorem pinL_good {c : Ln} (hd : c.Good) {i w : Nat} (hi : i < c.bales.length) (hw : (w : Int) ≤ (baleAt c i).f) : (pinL c i w).Good := by
  have hg := bale_good hd hi
  refine ⟨by rw [pinL_len]; exact hd.n1, by rw [pinL_len]; exact hd.n6, fun b hb => ?_, hd.m0, hd.m1, hd.d0, hd.d1, hd.k0, hd.k1⟩
  rcases List.mem_or_eq_of_mem_set hb with h | h
  · exact hd.bl b h
  · subst h
    have := hg.f1
    exact ⟨hg.f1, hg.f2, by show 0 ≤ (baleAt c i).f; omega, Int.le_refl _, by show (0 : Int) ≤ w; omega, hw⟩
theorem costL_zero {l : List Co} (h0 : ∀ o ∈ l, ∀ w, 0 ≤ o w) {xs : List Nat} : costL l xs ≤ 0 ↔ ∀ (i : Nat) (o : Co) (x : Nat), l[i]? = some o → xs[i]? = some x → o x ≤ 0 := by
  constructor
  · intro h i o x h1 h2
    have := costL_mem h0 h1 h2
    omega
  · intro h
    have := costL_le (l := l) (B := 0) (xs := xs) h (Int.le_refl _)
    omega
theorem ownAll {c : Ln} {i : Nat} (hi : i < c.bales.length) : ownF c (allN c) i = costB (baleAt c i) := by
  unfold ownF ownB
  rw [allN_bit, decide_eq_true hi, if_pos rfl]
/-- Truths without a mistake. -/
theorem tru_zero {c : Ln} {ws : List Nat} : Tru c (allN c) 0 ws ↔ ws.length = c.bales.length ∧ (∀ x ∈ ws, x ≤ 30) ∧ AdjL c.drift.toNat ws ∧ ∀ i x, i < c.bales.length → ws[i]? = some x → costB (baleAt c i) x ≤ 0 := by
  constructor
  · intro h
    refine ⟨by rw [h.len, owns_len], h.top, h.adj, fun i x hi hx => ?_⟩
    rw [← ownAll hi]
    exact tru_own h hi hx
  · rintro ⟨h1, h2, h3, h4⟩
    refine ⟨by rw [h1, owns_len], h2, h3, (costL_zero (owns_0 c _)).2 fun i o x ho hx => ?_⟩
    obtain ⟨hi, rfl⟩ := own_get ho
    rw [ownAll hi]
    exact h4 i x hi hx
theorem pin_cost {f : Int} {w x : Nat} : costB ⟨f, f, w⟩ x ≤ 0 ↔ (x : Int) ≤ f ∧ x = w := by
  unfold costB
  by_cases h : f - (x : Int) < 0
  · rw [if_pos h]; constructor
    · intro h'; omega
    · rintro ⟨h1, _⟩; omega
  · rw [if_neg h]; dsimp only; omega
theorem pin_tru {c : Ln} {i w : Nat} (hi : i < c.bales.length) (hw : (w : Int) ≤ (baleAt c i).f) : (okP c i w = true ∧ ∃ ws, Tru (pinL c i w) (allN (pinL c i w)) 0 ws) ↔ ∃ ws, Tru c (allN c) 0 ws ∧ ws[i]? = some w := by
  have hok : okP c i w = true ↔ costB (baleAt c i) w ≤ 0 := by unfold okP; rw [decide_eq_true_eq]
  rw [hok]
  constructor
  · rintro ⟨h0, ws, h⟩
    obtain ⟨h1, h2, h3, h4⟩ := tru_zero.1 h
    rw [pinL_len] at h1
    obtain ⟨x, hx⟩ := get_some (l := ws) (k := i) (by omega)
    have h5 := h4 i x (by rw [pinL_len]; exact hi) hx
    rw [pinL_at hi hi, if_pos rfl] at h5
    have hxw := (pin_cost.1 h5).2
    subst hxw
    refine ⟨ws, tru_zero.2 ⟨h1, h2, h3, fun j y hj hy => ?_⟩, hx⟩
    by_cases hij : i = j
    · subst hij
      rw [hx] at hy
      cases hy
      exact h0
    · have := h4 j y (by rw [pinL_len]; exact hj) hy
      rw [pinL_at hi hj, if_neg hij] at this
      exact this
  · rintro ⟨ws, h, hx⟩
    obtain ⟨h1, h2, h3, h4⟩ := tru_zero.1 h
    refine ⟨h4 i w hi hx, ws, tru_zero.2 ⟨by rw [pinL_len]; exact h1, h2, h3, fun j y hj hy => ?_⟩⟩
    rw [pinL_len] at hj
    rw [pinL_at hi hj]
    by_cases hij : i = j
    · subst hij
      rw [hx] at hy
      cases hy
      rw [if_pos rfl]
      exact pin_cost.2 ⟨hw, rfl⟩
    · rw [if_neg hij]
      exact h4 j y hj hy
/-- Without mistakes. -/
def zeroM (c : Ln) : Ln := { c with mist := 0 }
theorem zeroM_good {c : Ln} (hd : c.Good) : (zeroM c).Good := ⟨hd.n1, hd.n6, hd.bl, hd.m0, hd.m1, hd.d0, hd.d1, Int.le_refl 0, by show (0 : Int) ≤ 6; omega⟩
/-- What the law asks of each number. -/
theorem ends_pin {c : Ln} (hv : validL c = true) (hm : c.mist = 0) {i w : Nat} (hi : i < c.bales.length) (hw : (w : Int) ≤ (baleAt c i).f) {a b k : Int} (hB : BaIs c i a b k) :
    ((okP c i w && canT (pinL c i w)) = true → a ≤ w ∧ (w : Int) ≤ b) ∧ ((okP c i w && canT (pinL c i w)) = false → (w : Int) ≠ a ∧ (w : Int) ≠ b) := by
  have hd := valid_good.1 hv
  have hcan : canT (pinL c i w) = true ↔ ∃ ws, Tru (pinL c i w) (allN (pinL c i w)) 0 ws := by
    have := can_iff (pinL_good hd hi hw)
    have e : (pinL c i w).mist = 0 := hm
    rw [e] at this
    exact this
  have hpt := pin_tru hi hw
  rw [← hcan] at hpt
  have hof := hB.of
  have hlo := hB.lox
  have hhi := hB.hix
  rw [hm] at hof hlo hhi
  rw [Bool.and_eq_true]
  constructor
  · intro h
    obtain ⟨ws, t, hx⟩ := hpt.1 h
    exact hof ws w t hx
  · intro h
    have hno : ¬ ∃ ws, Tru c (allN c) 0 ws ∧ ws[i]? = some w := fun hh => by
      have := hpt.2 hh
      rw [this.1, this.2] at h
      cases h
    constructor
    · intro e
      obtain ⟨ws, x, t, hx, hxe⟩ := hlo
      have : x = w := by omega
      subst this
      exact hno ⟨ws, t, hx⟩
    · intro e
      obtain ⟨ws, x, t, hx, hxe⟩ := hhi
      have : x = w := by omega
      subst this
      exact hno ⟨ws, t, hx⟩
theorem clash_err {c : Ln} (hd : c.Good) : ∃ y : Int, clashR c = (y, if canT c then 4 else 0) := by
  have hv := valid_good.2 hd
  cases hc : canT c
  · obtain ⟨y, hy, _⟩ := clash_is hd hc
    exact ⟨y, by unfold clashR; rw [hv, hc, hy]; rfl⟩
  · exact ⟨0, by unfold clashR; rw [hv, hc]; rfl⟩
end Go.Ag
/- Layer 6: the law ClassEnds. -/
namespace Go.Ag
open Go.Proofs
set_option maxRecDepth 100000

theorem none_wrong {c : Ln} (hv : validL c = true) {b : Int} (hb : isB c b = false) : wrongR c b = ((0, 0), 2) := by unfold wrongR; rw [hv, hb]; rfl
theorem none_keeps {c : Ln} (hv : validL c = true) {b : Int} (hb : isB c b = false) : keepsR c b = (0, 2) := by unfold keepsR; rw [hv, hb]; rfl
theorem none_more {c : Ln} (hv : validL c = true) {b : Int} (hb : isB c b = false) : moreR c b = (0, 2) := by unfold moreR; rw [none_wrong hv hb]; rfl
set_option maxHeartbeats 16000000 in
theorem endsLaw_ret {v : LV} {c : Ln} (h : v.IsS c) (hA : Ret Try.prog 11 [] (B true)) (w : Nat) (hw : w < 256) : Ret Try.prog 4 [v.cv c, .lit (.int .u8 w)] (B true) := by
  have hv := h.toIs
  have e1 := hv.sn
  refine ret_then (hm := true) Try.func4 rfl ?_
  conv => whnf
  repeat (refine then_seq (hm := true) ?_; conv => whnf)
  refine .ret (h.far) rfl ?_
  conv => whnf
  repeat (refine then_seq (hm := true) ?_; conv => whnf)
  refine .ret (lineRef_ret hv) rfl ?_
  conv => whnf
  cases hd : validL c
  · have c1 := allX_ret hv
    have c2 := mistX_ret hv
    rw [show allR c = ((0, 0), 1) by unfold allR lineRS; rw [hd]; rfl] at c1
    rw [show mistR c = (0, 1) by unfold mistR; rw [hd]; rfl] at c2
    dsimp only [pairI, pairS, spV] at c1 c2
    conv => whnf
    repeat (refine then_seq (hm := true) ?_; conv => whnf)
    refine .ret (c1) rfl ?_
    conv => whnf
    repeat (refine then_seq (hm := true) ?_; conv => whnf)
    refine .ret (c2) rfl ?_
    conv => whnf
    repeat (refine then_seq (hm := true) ?_; conv => whnf)
    refine ⟨_, span_eql rfl rfl rfl _ _, ?_⟩
    conv => whnf
    refine .ret (hA) rfl ?_
    conv => whnf
    exact .val
  have hg := valid_good.1 hd
  have n6 := hg.n6
  have n1 := hg.n1
  have hn1 : isB c v.sn = false := by unfold isB inB'; rw [e1, decide_eq_false (show ¬ (c.bales.length : Int) ≤ (c.bales.length : Int) - 1 by omega), Bool.and_false]
  have hn2 : isB c (-1) = false := rfl
  have c1 := wrongX_ret hv v.sn
  rw [none_wrong hd hn1] at c1
  have c2 := keepsX_ret hv (-1)
  rw [none_keeps hd hn2] at c2
  have c3 := moreX_ret hv (-1)
  rw [none_more hd hn2] at c3
  dsimp only [pairI, pairS, spV] at c1 c2 c3
  obtain ⟨i, hi⟩ : ∃ i, i = w % c.bales.length := ⟨_, rfl⟩
  have hin : i < c.bales.length := by rw [hi]; exact Nat.mod_lt _ (by omega)
  conv => whnf
  repeat (refine then_seq (hm := true) ?_; conv => whnf)
  refine .ret (c1) rfl ?_
  conv => whnf
  repeat (refine then_seq (hm := true) ?_; conv => whnf)
  refine .ret (c2) rfl ?_
  conv => whnf
  repeat (refine then_seq (hm := true) ?_; conv => whnf)
  refine .ret (c3) rfl ?_
  conv => whnf
  repeat (refine then_seq (hm := true) ?_; conv => whnf)
  refine ⟨by omega, ((i : Nat) : Int), by rw [e1, rem_nat hw, hi], ?_⟩
  conv => whnf
  repeat (refine then_seq (hm := true) ?_; conv => whnf)
  have hv0 : v.Is (zeroM c) := ⟨hv.s, hv.short⟩
  have hg0 := zeroM_good hg
  have hd0 := valid_good.2 hg0
  have w1 := wrongX_ret hv0 (i : Int)
  cases hc : canT (zeroM c)
  · rw [no_wrong hd0 hc hin] at w1
    dsimp only [pairI, pairS, spV] at w1
    refine .ret (w1) rfl ?_
    conv => whnf
    repeat (refine then_seq (hm := true) ?_; conv => whnf)
    refine ⟨_, span_eql rfl rfl rfl _ _, ?_⟩
    conv => whnf
    refine .ret (hA) rfl ?_
    conv => whnf
    exact .val
  obtain ⟨a, b, k, hB⟩ := ba_is hd0 hc hin
  rw [hB.wr] at w1
  dsimp only [pairI, pairS, spV] at w1
  have hbi := bale_get hin
  have hgb := bale_good hg hin
  have hf1 := hgb.f1; have hf2 := hgb.f2
  obtain ⟨F, hF⟩ : ∃ F : Nat, (baleAt c i).f = F := ⟨(baleAt c i).f.toNat, by omega⟩
  have hf := hv.fl hbi
  rw [hF] at hf
  refine .ret (w1) rfl ?_
  conv => whnf
  repeat (refine then_seq (hm := true) ?_; conv => whnf)
  refine ⟨⟨by omega, by omega⟩, ?_⟩
  conv => whnf
  refine ⟨_, hf, ?_⟩
  conv => whnf
  refine ⟨((F + 1 : Nat) : Int), by rw [wrap_eq (by omega) (by omega)]; omega, ?_⟩
  conv => whnf
  refine loop_by (I := fun n st => ∃ (q : Nat) (g : Heap), q ≤ F + 1 ∧ n = F + 1 - q ∧ Heap.at g 0 = v.blk (zeroM c) ∧ Heap.at g 2 = .blk [.c (I a), .c (I b)] ∧ 3 ≤ g.n ∧
    Has st 163 [(2, .ptr 0 0), (15, .c (I i)), (16, .ptr 2 0), (119, .c (I (F + 1 : Nat))), (120, .c (I q))] [] none g) ?_ (k := F + 1)
    ⟨0, _, Nat.zero_le _, rfl, rfl, rfl, Nat.le_refl 3, rfl, ⟨rfl, rfl, rfl, rfl, rfl, trivial⟩, rfl, rfl, rfl, rfl⟩
  rintro n st ⟨q, g, hq, rfl, g0, g2, gn, hs1⟩
  refine hs1.run (hm := false) ?_
  conv => whnf
  cases hcq : decide ((q : Int) < ((F + 1 : Nat) : Int))
  case false =>
    conv => whnf
    repeat (refine then_seq (hm := false) ?_; conv => whnf)
    refine .ret (hA) rfl ?_
    conv => whnf
    refine then_end (hm := false) ?_
    conv => whnf
    exact .val
  have hq : q < F + 1 := by simp at hcq; omega
  have hqf : (q : Int) ≤ (baleAt (zeroM c) i).f := by show (q : Int) ≤ (baleAt c i).f; omega
  obtain ⟨p1, p2⟩ := ends_pin hd0 rfl hin hqf hB
  conv => whnf
  refine ⟨_, g0, ?_⟩
  conv => whnf
  refine callW_ex (pinned_ret hv0 hg0 hin hqf g) ?_
  rintro e1 G ⟨id, rfl, hid, Gid, Gf⟩
  have Gn := Gf.n
  have G0 := (Gf.keep 0 (by omega) (fun x => x)).trans g0
  have G2 := (Gf.keep 2 (by omega) (fun x => x)).trans g2
  conv => whnf
  refine ⟨_, at_push_self _ _, ?_⟩
  conv => whnf
  generalize hK : TMap.set AB.dead (TMap.push AB.dead G _) _ _ = K
  have Kn : K.n = G.n + 1 := by rw [← hK]; exact new_n _ _ _
  have Ka : ∀ i, i < G.n → Heap.at K i = Heap.at G i := fun i hi => by rw [← hK]; exact at_old _ _ _ hi
  have Kr : Heap.at K G.n = .blk (ownA (zeroM c) id) := by rw [← hK]; exact at_new _ _ _
  clear hK
  have K0 := (Ka 0 (by omega)).trans G0
  have K2 := (Ka 2 (by omega)).trans G2
  have Kid := (Ka id hid).trans Gid
  cases hok : okP (zeroM c) i q
  · have hne := p2 (by rw [hok]; rfl)
    conv => whnf
    refine ⟨_, K2, ?_⟩
    conv => whnf
    rw [show ((q : Int) == a) = false from beq_eq_false_iff_ne.2 hne.1]
    conv => whnf
    refine ⟨_, K2, ?_⟩
    conv => whnf
    rw [show ((q : Int) == b) = false from beq_eq_false_iff_ne.2 hne.2]
    conv => whnf
    refine ⟨((q + 1 : Nat) : Int), by rw [wrap_eq (by omega) (by omega)]; omega, ?_⟩
    conv => whnf
    exact ⟨F + 1 - (q + 1), by omega, q + 1, K, by omega, rfl, K0, K2, by omega, rfl, ⟨rfl, rfl, rfl, rfl, rfl, trivial⟩, rfl, rfl, rfl, rfl⟩
  rw [hok, if_pos rfl] at Kid
  have hgp := pinL_good hg0 hin hqf
  obtain ⟨y, hy⟩ := clash_err hgp
  have hcl := clashX_ret (lvOf_ok hgp)
  rw [hy] at hcl
  dsimp only [pairI] at hcl
  conv => whnf
  refine ⟨_, Kr, ?_⟩
  conv => whnf
  refine own_call (c := pinL (zeroM c) i q) (n := (zeroM c).bales.length) (pinL_len _ _ _) Kid (cs := []) hcl rfl ?_
  cases hcp : canT (pinL (zeroM c) i q)
  · have hne := p2 (by rw [hok, hcp]; rfl)
    conv => whnf
    refine ⟨_, K2, ?_⟩
    conv => whnf
    rw [show ((q : Int) == a) = false from beq_eq_false_iff_ne.2 hne.1]
    conv => whnf
    refine ⟨_, K2, ?_⟩
    conv => whnf
    rw [show ((q : Int) == b) = false from beq_eq_false_iff_ne.2 hne.2]
    conv => whnf
    refine ⟨((q + 1 : Nat) : Int), by rw [wrap_eq (by omega) (by omega)]; omega, ?_⟩
    conv => whnf
    exact ⟨F + 1 - (q + 1), by omega, q + 1, K, by omega, rfl, K0, K2, by omega, rfl, ⟨rfl, rfl, rfl, rfl, rfl, trivial⟩, rfl, rfl, rfl, rfl⟩
  · have hin' := p1 (by rw [hok, hcp]; rfl)
    conv => whnf
    refine ⟨_, K2, ?_⟩
    conv => whnf
    refine .ret (inside_ret (q : Int) (a, b)) rfl ?_
    conv => whnf
    rw [show (decide ((a, b).1 ≤ (q : Int)) && decide ((q : Int) ≤ (a, b).2)) = true by rw [decide_eq_true (show (a, b).1 ≤ (q : Int) from hin'.1), decide_eq_true (show (q : Int) ≤ (a, b).2 from hin'.2)]; rfl]
    conv => whnf
    refine ⟨((q + 1 : Nat) : Int), by rw [wrap_eq (by omega) (by omega)]; omega, ?_⟩
    conv => whnf
    exact ⟨F + 1 - (q + 1), by omega, q + 1, K, by omega, rfl, K0, K2, by omega, rfl, ⟨rfl, rfl, rfl, rfl, rfl, trivial⟩, rfl, rfl, rfl, rfl⟩
end Go.Ag
