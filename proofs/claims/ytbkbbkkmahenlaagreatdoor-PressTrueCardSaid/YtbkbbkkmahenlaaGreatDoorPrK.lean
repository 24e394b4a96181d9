/- Layer 8: how heavy fleeces truly are; presses whose weighings are truly made. No conditions. -/
import Derived.Test.YtbkbbkkmahenlaaGreatDoorPrF
import Derived.Test.YtbkbbkkmahenlaaGreatDoorPrG
import Derived.Test.YtbkbbkkmahenlaaGreatDoorPrB2
import Derived.Test.YtbkbbkkmahenlaaGreatDoorPrJ
/- Layer 8: how heavy fleeces truly are, and presses whose weighings are right. -/
namespace Go.Ag
open Go.Proofs
set_option maxRecDepth 100000

/-- The weights of all fleeces, as a function; of those beyond the last one nothing. -/
def wF (ws : List Nat) (i : Nat) : Int := ((ws.getD i 0 : Nat) : Int)
def totW (ws : List Nat) (s : Nat) : Int := totF (wF ws) s 10
/-- They are weights that the fleeces can have. -/
structure TrW (d : Pn) (ws : List Nat) : Prop where
  len : ws.length = d.n
  at' : ∀ i, i < d.n → (d.w' i).lo ≤ wF ws i ∧ wF ws i ≤ (d.w' i).hi
theorem TrW.all {d : Pn} {ws : List Nat} (h : TrW d ws) (i : Nat) : (d.w' i).lo ≤ wF ws i ∧ wF ws i ≤ (d.w' i).hi := by
  rcases Nat.lt_or_ge i d.n with hi | hi
  · exact h.at' i hi
  · have e1 : d.fl[i]? = none := List.getElem?_eq_none hi
    have e2 : ws[i]? = none := List.getElem?_eq_none (by rw [h.len]; exact hi)
    unfold Pn.w' wF
    rw [e1, List.getD_eq_getElem?_getD, e2]
    exact ⟨Int.le_refl 0, Int.le_refl 0⟩
def inW (z : Int) (w : Wt) : Prop := w.lo ≤ z ∧ z ≤ w.hi
theorem T_in {d : Pn} {ws : List Nat} (h : TrW d ws) (s : Nat) : inW (totW ws s) (T' d s) := by
  unfold inW totW
  rw [T_lo, T_hi]
  exact ⟨tot_le (fun i => (h.all i).1) s 10, tot_le (fun i => (h.all i).2) s 10⟩
theorem totW_or (ws : List Nat) {s t : Nat} (h : s &&& t = 0) : totW ws (s ||| t) = totW ws s + totW ws t := tot_or h 10
theorem totW_split (ws : List Nat) (b s : Nat) : totW ws b = totW ws (b &&& s) + totW ws (diffN b s) := by
  rw [← totW_or]
  · congr 1
    refine Nat.eq_of_testBit_eq fun i => ?_
    rw [Nat.testBit_or, Nat.testBit_and, diffN_bit]
    cases b.testBit i <;> cases s.testBit i <;> rfl
  · rw [and_zero]
    intro i hi
    rw [Nat.testBit_and, Bool.and_eq_true] at hi
    rw [diffN_bit, hi.2, Bool.not_true, Bool.and_false]
theorem totW_zero (ws : List Nat) : totW ws 0 = 0 := tot_zero _ 10
/-- A set's weight is that of its parts in bales, and of what is loose. -/
theorem tot_parts (ws : List Nat) : ∀ (l : List (Nat × Int × Int)) (s : Nat), l.Pairwise (fun a b => a.1 &&& b.1 = 0) → totW ws s = (l.map fun b => totW ws (b.1 &&& s)).sum + totW ws (looseN s l)
  | [], s, _ => by simp [looseN]
  | b :: l, s, h => by
    rw [List.pairwise_cons] at h
    have ih := tot_parts ws l (diffN s b.1) h.2
    have e1 : looseN s (b :: l) = looseN (diffN s b.1) l := rfl
    have e2 : l.map (fun c => totW ws (c.1 &&& diffN s b.1)) = l.map fun c => totW ws (c.1 &&& s) := List.map_congr_left fun c hc => by
      congr 1
      refine Nat.eq_of_testBit_eq fun i => ?_
      rw [Nat.testBit_and, Nat.testBit_and, diffN_bit]
      cases hci : c.1.testBit i
      · rfl
      · have := h.1 c hc
        rw [Nat.and_comm, and_zero] at this
        rw [this i hci]; simp
    rw [e2] at ih
    have e3 := totW_split ws s b.1
    rw [Nat.and_comm] at e3
    rw [List.map_cons, List.sum_cons, e1, e3, ih]
    omega
theorem sum_in : ∀ {zs : List Int} {l : List Wt}, zs.length = l.length → (∀ (i : Nat) (z : Int) (w : Wt), zs[i]? = some z → l[i]? = some w → inW z w) → inW zs.sum (sumW l)
  | [], [], _, _ => ⟨Int.le_refl 0, Int.le_refl 0⟩
  | z :: zs, w :: l, hl, h => by
    rw [sumW_cons, List.sum_cons]
    have h1 := h 0 z w rfl rfl
    have h2 := sum_in (zs := zs) (l := l) (by simpa using hl) fun i a b ha hb => h (i + 1) a b (by simpa using ha) (by simpa using hb)
    unfold inW at *
    show w.lo + (sumW l).lo ≤ z + zs.sum ∧ z + zs.sum ≤ w.hi + (sumW l).hi
    omega
  | [], _ :: _, hl, _ => by simp at hl
  | _ :: _, [], hl, _ => by simp at hl
/-- Weighings that are right. -/
def RightW (d : Pn) (ws : List Nat) : Prop := ∀ b ∈ d.wd, b.2.1 ≤ totW ws b.1 ∧ totW ws b.1 ≤ b.2.2
theorem right_can {d : Pn} (hd : d.Good) {ws : List Nat} (h : TrW d ws) (hr : RightW d ws) : canP d = true := can_of hd fun b hb => by
  have h1 := T_in h b.1
  have h2 := hr b hb
  unfold inW at h1
  omega
theorem right_weigh {d : Pn} (hd : d.Good) {ws : List Nat} (h : TrW d ws) (hr : RightW d ws) (s : Nat) : inW (totW ws s) (weigh' d s) := by
  rw [tot_parts ws d.wd s hd.ap]
  have e : (d.wd.map fun b => totW ws (b.1 &&& s)).sum + totW ws (looseN s d.wd) = ((d.wd.map fun b => totW ws (b.1 &&& s)) ++ [totW ws (looseN s d.wd)]).sum := by
    rw [List.sum_append]; simp
  rw [e]
  unfold weigh'
  refine sum_in (by simp) fun i z w hz hw => ?_
  rcases Nat.lt_or_ge i d.wd.length with hi | hi
  · rw [List.getElem?_append_left (by simpa using hi), List.getElem?_map] at hz hw
    obtain ⟨b, hb⟩ := get_some hi
    rw [hb] at hz hw
    simp only [Option.map_some, Option.some.injEq] at hz hw
    subst hz; subst hw
    have hm := List.mem_of_getElem? hb
    have h1 := T_in h (b.1 &&& s)
    have h2 := T_in h (diffN b.1 s)
    have h3 := hr b hm
    have h4 := totW_split ws b.1 s
    unfold inW at *
    unfold part' bothW lessW
    dsimp only
    omega
  · rw [List.getElem?_append_right (by simpa using hi)] at hz hw
    have h0 : i - (d.wd.map fun b => totW ws (b.1 &&& s)).length = 0 := by
      have := (List.getElem?_eq_some_iff.1 hz).1
      simp only [List.length_singleton] at this
      omega
    have h0' : i - (d.wd.map (part' d · s)).length = 0 := by simpa using h0
    rw [h0] at hz
    rw [h0'] at hw
    simp only [List.getElem?_cons_zero, Option.some.injEq] at hz hw
    subst hz; subst hw
    exact T_in h _
end Go.Ag
/- Layer 8: how heavy fleeces truly are: the law's own functions. -/
namespace Go.Ag
open Go.Proofs
set_option maxRecDepth 100000

theorem wF_out {ws : List Nat} {i : Nat} (h : ws.length ≤ i) : wF ws i = 0 := by
  unfold wF
  rw [List.getD_eq_getElem?_getD, List.getElem?_eq_none h]; rfl
theorem wF_get {ws : List Nat} {i x : Nat} (h : ws[i]? = some x) : wF ws i = (x : Int) := by
  unfold wF
  rw [List.getD_eq_getElem?_getD, h]; rfl
theorem totF_out (ws : List Nat) (s : Nat) : ∀ q, ws.length ≤ q → totF (wF ws) s q = totF (wF ws) s ws.length
  | 0, h => by rw [show ws.length = 0 by omega]
  | q + 1, h => by
    rcases Nat.lt_or_ge q ws.length with h1 | h1
    · rw [show q + 1 = ws.length by omega]
    · rw [totF, wF_out h1, totF_out ws s q h1]
      split <;> omega
theorem totW_len {ws : List Nat} (h : ws.length ≤ 10) (s : Nat) : totW ws s = totF (wF ws) s ws.length := totF_out ws s 10 h
theorem tot_small {ws : List Nat} (hw : ∀ x ∈ ws, x ≤ 20) (s : Nat) (q : Nat) : 0 ≤ totF (wF ws) s q ∧ totF (wF ws) s q ≤ q * 20 := tot_bound (fun i => by
  rcases Nat.lt_or_ge i ws.length with h | h
  · obtain ⟨x, hx⟩ := get_some h
    rw [wF_get hx]
    have := hw x (List.mem_of_getElem? hx)
    omega
  · rw [wF_out h]; omega) s q
set_option maxHeartbeats 4000000 in
theorem total_ret {ws : List Nat} (hl : ws.length ≤ 10) (hw : ∀ x ∈ ws, x ≤ 20) {s : Nat} (hs : s < 1024) : Ret Tryz.prog 32 [nsC ws, I s] (I (totW ws s)) := by
  rw [totW_len hl]
  refine ret_by (hm := true) Tryz.func32 rfl ?_
  conv => whnf
  refine loop_by (I := fun z st => ∃ (q : Nat), q ≤ ws.length ∧ z = ws.length - q ∧ Has st 24 [(1, .c (I s)), (4, .c (I (totF (wF ws) s q))), (7, .c (nsC ws)), (8, .c (I ws.length)), (9, .c (I q))] [] none TMap.nil) ?_ (k := ws.length)
    ⟨0, Nat.zero_le _, rfl, rfl, ⟨rfl, rfl, rfl, rfl, rfl, trivial⟩, rfl, rfl, rfl, rfl⟩
  rintro z st ⟨q, hq, rfl, hs1⟩
  refine hs1.run (hm := true) ?_
  conv => whnf
  cases hcq : decide ((q : Int) < (ws.length : Int))
  case false =>
    have : q = ws.length := by simp at hcq; omega
    subst this
    conv => whnf
    exact .val
  have hq : q < ws.length := by simp at hcq; omega
  obtain ⟨x, hx⟩ := get_some hq
  have hx20 := hw x (List.mem_of_getElem? hx)
  have hsm := tot_small hw s q
  have hstep : totF (wF ws) s (q + 1) = if s.testBit q then totF (wF ws) s q + x else totF (wF ws) s q := by rw [totF, wF_get hx]
  conv => whnf
  refine ⟨⟨by omega, by omega⟩, ?_⟩
  conv => whnf
  refine ⟨_, ns_get hx, ?_⟩
  conv => whnf
  refine ⟨by omega, _, shr_nat s q (by omega), ?_⟩
  conv => whnf
  refine ⟨_, and_nat (a := s >>> q) (b := 1) (by have := Nat.shiftRight_le s q; omega) (by omega), ?_⟩
  conv => whnf
  rw [bit_nat]
  cases hbit : s.testBit q
  · rw [hbit, if_neg (by simp)] at hstep
    conv => whnf
    refine ⟨((q + 1 : Nat) : Int), by rw [wrap_eq (by omega) (by omega)]; omega, ?_⟩
    conv => whnf
    exact ⟨ws.length - (q + 1), by omega, q + 1, by omega, rfl, rfl, ⟨rfl, by rw [hstep]; rfl, rfl, rfl, rfl, trivial⟩, rfl, rfl, rfl, rfl⟩
  · rw [hbit, if_pos rfl] at hstep
    conv => whnf
    refine ⟨totF (wF ws) s q + x, by rw [wrap_eq (by omega) (by omega)], ?_⟩
    conv => whnf
    refine ⟨((q + 1 : Nat) : Int), by rw [wrap_eq (by omega) (by omega)]; omega, ?_⟩
    conv => whnf
    exact ⟨ws.length - (q + 1), by omega, q + 1, by omega, rfl, rfl, ⟨rfl, by rw [hstep]; rfl, rfl, rfl, rfl, trivial⟩, rfl, rfl, rfl, rfl⟩
/-- Whether fleeces fit as heavy as they truly are. -/
def rightB (d : Pn) (ws : List Nat) (s : Nat) : Bool := alikeB d s && (decide (totW ws s ≥ d.low) && decide (totW ws s ≤ d.top))
set_option maxHeartbeats 4000000 in
theorem right_ret {v : PV} {d : Pn} (hv : v.Is d.pr) (hd : d.Good) {ws : List Nat} (hl : ws.length ≤ 10) (hw : ∀ x ∈ ws, x ≤ 20) {s : Nat} (hs : s < 2 ^ d.n) : Ret Tryz.prog 31 [I s, .cptr [nsC ws] 0, .cptr (v.cs d.pr) 0] (B (rightB d ws s)) := by
  have p10 := pow10 hd.n10
  have h1 := total_ret hl hw (s := s) (by omega)
  have h2 := alike_ret hv hd hs
  refine ret_then (hm := true) Tryz.func31 rfl ?_
  conv => whnf
  repeat (refine then_seq (hm := true) ?_; conv => whnf)
  refine ⟨_, rfl, ?_⟩
  conv => whnf
  refine .ret (h1) rfl ?_
  conv => whnf
  refine then_seq (hm := true) ?_
  conv => whnf
  refine ⟨_, rfl, ?_⟩
  conv => whnf
  refine .ret (h2) rfl ?_
  conv => whnf
  unfold rightB
  cases alikeB d s
  · conv => whnf
    refine then_end (hm := true) ?_
    conv => whnf
    exact .val
  · conv => whnf
    refine ⟨_, rfl, ?_⟩
    conv => whnf
    cases hlo : decide (totW ws s ≥ d.pr.low)
    · rw [show decide (totW ws s ≥ d.low) = false from hlo]
      conv => whnf
      refine then_end (hm := true) ?_
      conv => whnf
      exact .val
    · rw [show decide (totW ws s ≥ d.low) = true from hlo]
      conv => whnf
      refine ⟨_, rfl, ?_⟩
      conv => whnf
      refine then_end (hm := true) ?_
      conv => whnf
      exact .val
end Go.Ag
/- Layer 8: presses whose weighings are truly made. -/
namespace Go.Ag
open Go.Proofs
set_option maxRecDepth 100000

def wide4 (b : Nat × Int × Int) : Int := min 4 (b.2.2 - b.2.1)
/-- A weighing as wide as it was, of what fleeces truly weigh. -/
def trB (ws : List Nat) (b : Nat × Int × Int) : Nat × Int × Int := (b.1, max 1 (totW ws b.1 - wide4 b / 2), min 200 (totW ws b.1 + wide4 b - wide4 b / 2))
def truP (d : Pn) (ws : List Nat) : Pn := { d with wd := d.wd.map (trB ws) }
def rowsX (ws : List Nat) (l : List (Nat × Int × Int)) : List (List CV) := l.map fun b => rowF (((trB ws b).1 : Int), (trB ws b).2.1, (trB ws b).2.2)
theorem rowsX_all (ws : List Nat) (l : List (Nat × Int × Int)) : ∀ r ∈ rowsX ws l, r.length = 3 := by
  intro r hr; obtain ⟨x, _, rfl⟩ := List.mem_map.1 hr; rfl
theorem rowsX_eq (d : Pn) (ws : List Nat) : (truP d ws).pr.wd.map rowF = rowsX ws d.wd := by
  unfold rowsX truP Pn.pr
  rw [List.map_map, List.map_map]; rfl
theorem total_call {ws : List Nat} (hl : ws.length ≤ 10) (hw : ∀ x ∈ ws, x ≤ 20) {s : Nat} (hs : s < 1024) {h : Heap} {out : AV} (R : RowsL 1 h out (ws.map row1)) {K : AEnd → Heap → Prop} (k : K (.ret (.c (I (totW ws s)))) h) : CallW Tryz.prog 32 [out, .c (I s)] h K := by
  have hr := total_ret hl hw hs
  rcases R with ⟨rfl, hn⟩ | ⟨o, rfl, hb, _, _⟩
  · have hn : ws = [] := by simpa using hn
    subst hn
    exact .pure [nilC, I s] _ rfl (hr.args (args' := [nilC, I s]) ⟨.nil _ _, .refl _, trivial⟩) ⟨_, rfl⟩ k
  · refine CallW.own (rest := [I s]) hb ?_ rfl k
    have e : (ws.map row1).length = ws.length := List.length_map _
    unfold nsC at hr
    rw [e]
    exact hr
/-- The weights of the first q fleeces. -/
structure TrQ (d : Pn) (q : Nat) (ws : List Nat) : Prop where
  len : ws.length = q
  at' : ∀ i, i < q → (d.w' i).lo ≤ wF ws i ∧ wF ws i ≤ (d.w' i).hi
  sm : ∀ x ∈ ws, x ≤ 20
theorem CV.Le.tuple {l m : List CV} (h : Les l m) : (CV.tuple l).Le (.tuple m) := fun Φ v hv => by
  simp only [RepC] at hv ⊢
  obtain ⟨vs, h1, h2, h3⟩ := hv
  exact ⟨vs, h1, (les_len h) ▸ h2, les_rep h h3⟩
theorem RowsL.nilLe {sz : Nat} {h : Heap} {rows : List (List CV)} (R : RowsL sz h nilA rows) : nilC.Le (.sl rows.flatten 0 rows.length) := by
  rcases R with ⟨_, hn⟩ | ⟨_, hh, _⟩
  · subst hn; exact .nil _ _
  · cases hh
/-- A value as it is closed, with fuel enough. -/
def Sn (H : Nat → AB) (u : AV) (x : CV) (ids : List Nat) (M : Nat) : Prop := ∀ m, M ≤ m → snap H m u = some (x, ids)
theorem Sn.c (H : Nat → AB) (c : CV) : Sn H (.c c) c [] 1 := fun m hm => by obtain ⟨m, rfl⟩ : ∃ k, m = k + 1 := ⟨m - 1, by omega⟩; rfl
theorem Sn.agg5 {H : Nat → AB} {u : AV} {x : CV} {ids : List Nat} {M : Nat} (a b c e : CV) (h : Sn H u x ids M) : Sn H (.agg [.c a, .c b, .c c, .c e, u]) (.agg [a, b, c, e, x]) ids (M + 10) := fun m hm => by
  obtain ⟨m, rfl⟩ : ∃ k, m = k + 10 := ⟨m - 10, by omega⟩
  have e1 : ∀ (a : Nat) (c : CV), snap H (a + 1) (.c c) = some (c, []) := fun a c => rfl
  have h0 : snaps H (m + 4) [] = some ([], []) := rfl
  have h1 := snapsCons (h (m + 4) (by omega)) h0
  have h2 := snapsCons (e1 _ a) (snapsCons (e1 _ b) (snapsCons (e1 _ c) (snapsCons (e1 _ e) h1)))
  show (snaps H (m + 9) _).map (fun l => (CV.agg l.1, l.2)) = _
  rw [h2]
  simp
theorem Sn.pair {H : Nat → AB} {u w : AV} {x y : CV} {i j : List Nat} {M N : Nat} (h : Sn H u x i M) (k : Sn H w y j N) : Sn H (.tuple [u, w]) (.tuple [x, y]) (i ++ j) (M + N + 10) := fun m hm => by
  obtain ⟨m, rfl⟩ : ∃ k, m = k + 10 := ⟨m - 10, by omega⟩
  have h0 : snaps H (m + 7) [] = some ([], []) := rfl
  have h1 := snapsCons (k (m + 7) (by omega)) h0
  have h2 := snapsCons (h (m + 8) (by omega)) h1
  show (snaps H (m + 9) _).map (fun l => (CV.tuple l.1, l.2)) = _
  rw [h2]
  simp
theorem Sn.rows {sz : Nat} {H : Heap} {out : AV} {rows : List (List CV)} (R : RowsL sz H out rows) : ∃ x ids, Sn (Heap.at H) out x ids (rows.flatten.length + 20) ∧ x.Le (.sl rows.flatten 0 rows.length) := by
  rcases R with ⟨rfl, hn⟩ | ⟨o, rfl, hb, _, _⟩
  · subst hn
    exact ⟨nilC, [], fun m hm => Sn.c _ _ m (by omega), .nil _ _⟩
  · exact ⟨.sl rows.flatten 0 rows.length, [o], fun m hm => snap_msl hb _ hm, .refl _⟩
theorem Sn.ret {H : Heap} {u : AV} {x : CV} {ids : List Nat} {M : Nat} (h : Sn (Heap.at H) u x ids M) : RetW x u H := ⟨_, _, h M (Nat.le_refl _)⟩
set_option maxHeartbeats 4000000 in
theorem truly_call {v : PV} {d : Pn} (hv : v.Is d.pr) (hd : d.Good) {b : By} (hb : b.ok) :
    ∃ e h', CallOk Tryz.prog 29 [.c (v.cv d.pr), .c (byW b)] TMap.nil .no e h' .no ∧ ∃ ws, TrQ d d.n ws ∧ ∃ u, e = .ret u ∧ ∃ v', RetW v' u h' ∧ v'.Le (.tuple [(v.own (truP d ws).pr.wd).cv (truP d ws).pr, nsC ws]) := by
  have hfn := hv.fn
  rw [pr_len] at hfn
  have hn10 := hd.n10
  have p10 := pow10 hd.n10
  have hbz := hb.sz
  refine call_then (hm := false) Tryz.func29 rfl ?_
  conv => whnf
  refine then_seq (hm := false) ?_
  conv => whnf
  generalize hG : TMap.push AB.dead (TMap.push AB.dead TMap.nil _) _ = G
  have Gn : G.n = 2 := by rw [← hG]; rfl
  have G0 : Heap.at G 0 = v.blk d.pr := by rw [← hG]; exact (at_push_lt _ _ (by show 0 < 1; omega)).trans (at_push_self TMap.nil _)
  obtain ⟨z, hz⟩ : ∃ z : List AV, z = [.c nilC, .c (I 0), .c (I 0), .c (I 0), .c nilC] := ⟨_, rfl⟩
  have G1 : Heap.at G 1 = .blk z := by rw [← hG, hz]; exact at_push_self (TMap.push AB.dead TMap.nil _) _
  clear hG
  refine then_via (hm := false) (fun st => ∃ (h : Heap) (out : AV) (ws : List Nat), TrQ d d.n ws ∧ RowsL 1 h out (ws.map row1) ∧ (∀ o, outId out = some o → 2 ≤ o) ∧ Heap.at h 0 = v.blk d.pr ∧ Heap.at h 1 = .blk z ∧ 2 ≤ h.n ∧ Has st 98 [(2, .ptr 0 0), (4, .ptr 1 0), (5, out)] [] none h) ?_ ?_
  · skip
    conv => whnf
    refine ⟨_, G0, ?_⟩
    conv => whnf
    refine loop_by (I := fun y st => ∃ (q : Nat) (h : Heap) (out : AV) (ws : List Nat), q ≤ d.n ∧ y = d.n - q ∧ TrQ d q ws ∧ RowsL 1 h out (ws.map row1) ∧ (∀ o, outId out = some o → 2 ≤ o) ∧ Heap.at h 0 = v.blk d.pr ∧ Heap.at h 1 = .blk z ∧ 2 ≤ h.n ∧ Has st 98 [(1, .c (byW b)), (2, .ptr 0 0), (4, .ptr 1 0), (5, out), (14, .c (.sl v.fc v.fo v.fn)), (15, .c (I v.fn)), (16, .c (I q))] [] none h) ?_ (k := d.n)
      ⟨0, G, nilA, [], Nat.zero_le _, rfl, ⟨rfl, fun i hi => by omega, fun x hx => by cases hx⟩, .inl ⟨rfl, rfl⟩, (fun o ho => by cases ho), G0, G1, by omega, rfl, ⟨rfl, rfl, rfl, rfl, rfl, rfl, rfl, trivial⟩, rfl, rfl, rfl, rfl⟩
    clear G0 G1 Gn G
    rintro y st ⟨q, h, out, ws, hq, rfl, T, R, ho, h0, h1, hlt, hs⟩
    refine (hs.then ?_).1
    refine then_seq (hm := false) ?_
    conv => whnf
    cases hcq : decide ((q : Int) < (v.fn : Int))
    case false =>
      have : q = d.n := by simp at hcq; omega
      subst this
      refine then_seq (hm := false) ?_
      conv => whnf
      exact ⟨h, out, ws, T, R, ho, h0, h1, hlt, rfl, ⟨rfl, rfl, rfl, trivial⟩, rfl, rfl, rfl, rfl⟩
    have hq : q < d.n := by simp at hcq; omega
    obtain ⟨⟨xl, xh, xk⟩, hx⟩ := get_some (l := d.fl) (k := q) hq
    have hxp : d.pr.fl[q]? = some (xl, xh, (xk : Int)) := by show (d.fl.map _)[q]? = _; rw [List.getElem?_map, hx]; rfl
    have hwq : d.w' q = ⟨xl, xh⟩ := by unfold Pn.w'; rw [hx]
    have hxf := hd.f _ (List.mem_of_getElem? hx)
    dsimp only at hxf
    refine then_seq (hm := false) ?_
    conv => whnf
    refine then_left (then_block ?_)
    refine then_seq (hm := false) ?_
    conv => whnf
    refine ⟨⟨by omega, by omega⟩, ?_⟩
    conv => whnf
    refine ⟨_, hv.fleece hxp, ?_⟩
    conv => whnf
    refine ⟨_, at_push_self _ _, ?_⟩
    conv => whnf
    generalize hH2 : TMap.set AB.dead (TMap.push AB.dead h _) _ _ = H2
    have d0 : Heap.at H2 0 = v.blk d.pr := by rw [← hH2]; exact (at_old _ _ _ (by omega)).trans h0
    have d1 : Heap.at H2 1 = .blk z := by rw [← hH2]; exact (at_old _ _ _ (by omega)).trans h1
    have d4 : Heap.at H2 h.n = .blk [.c (I xl), .c (I xh), .c (I (xk : Nat))] := by rw [← hH2]; exact at_new _ _ _
    have dn : H2.n = h.n + 1 := by rw [← hH2, TMap.set_n, push_n]
    have R2 : RowsL 1 H2 out (ws.map row1) := R.ext (by omega) fun i hi _ => by rw [← hH2]; exact at_old _ _ _ hi
    clear hH2 h0 h1 R
    refine then_seq (hm := false) ?_
    conv => whnf
    refine ⟨_, d4, ?_⟩
    conv => whnf
    refine then_via (hm := false) (fun st => ∃ x : Nat, xl ≤ x ∧ (x : Int) ≤ xh ∧ Has st 98 [(1, .c (byW b)), (2, .ptr 0 0), (4, .ptr 1 0), (5, out), (8, .c (I x)), (14, .c (.sl v.fc v.fo v.fn)), (15, .c (I v.fn)), (16, .c (I q))] [] none H2) ?_ ?_
    · skip
      conv => whnf
      cases hbn : decide ((b.bn : Int) > 0)
      · conv => whnf
        exact ⟨xl.toNat, by omega, by omega, rfl, ⟨rfl, rfl, rfl, rfl, by rw [Int.toNat_of_nonneg (by omega)]; rfl, rfl, rfl, rfl, trivial⟩, rfl, rfl, rfl, rfl⟩
      have hbn : 0 < b.bn := by simp at hbn; omega
      have hbn : 0 < b.bn := by omega
      obtain ⟨w, hw, hwc⟩ := hb.el (q % b.bn) (Nat.mod_lt _ hbn)
      conv => whnf
      refine draw_by (hm := false) (by kernel_rfl) (by kernel_rfl) ?_
      conv => whnf
      have hmod : q % b.bn < b.bn := Nat.mod_lt _ hbn
      obtain ⟨j, hj⟩ : ∃ j, j = q % b.bn := ⟨_, rfl⟩
      rw [← hj] at hwc hmod
      rw [rem_to (a := ((q : Nat) : Int)) (b := ((b.bn : Nat) : Int)) ((j : Nat) : Int)]
      rotate_left
      rfl
      rfl
      rfl
      omega
      rw [hj]; rfl
      conv => whnf
      refine ⟨⟨by omega, by omega⟩, ?_⟩
      conv => whnf
      refine ⟨_, (show readVarC Tryz.prog 46 b.bc (b.bo + (j : Int).toNat * 1) = _ by rw [rvC46, Int.toNat_natCast, Nat.mul_one]; exact hwc), ?_⟩
      conv => whnf
      rw [show IntKind.i64.wrap ((w : Nat) : Int) = (w : Nat) from wrap_eq (by omega) (by omega)]
      refine ⟨7 * (q : Int), by rw [wrap_eq (by omega) (by omega)], ?_⟩
      conv => whnf
      refine ⟨(w : Int) + 7 * (q : Int), by rw [wrap_eq (by omega) (by omega)], ?_⟩
      conv => whnf
      refine ⟨_, d4, ?_⟩
      conv => whnf
      refine ⟨_, d4, ?_⟩
      conv => whnf
      refine ⟨xh - xl, by rw [wrap_eq (by omega) (by omega)], ?_⟩
      conv => whnf
      refine ⟨xh - xl + 1, by rw [wrap_eq (by omega) (by omega)], ?_⟩
      conv => whnf
      have hr1 : 0 ≤ ((w : Int) + 7 * (q : Int)).tmod (xh - xl + 1) := Int.tmod_nonneg _ (by omega)
      have hr2 : ((w : Int) + 7 * (q : Int)).tmod (xh - xl + 1) < xh - xl + 1 := Int.tmod_lt_of_pos _ (by omega)
      rw [rem_to (a := (w : Int) + 7 * (q : Int)) (b := xh - xl + 1) (((w : Int) + 7 * (q : Int)).tmod (xh - xl + 1))]
      rotate_left
      rfl
      rfl
      rfl
      omega
      rfl
      generalize ((w : Int) + 7 * (q : Int)).tmod (xh - xl + 1) = r at hr1 hr2
      conv => whnf
      refine ⟨xl + r, by rw [wrap_eq (by omega) (by omega)], ?_⟩
      conv => whnf
      refine ⟨by kernel_rfl, ?_⟩
      conv => whnf
      exact ⟨(xl + r).toNat, by omega, by omega, rfl, ⟨rfl, rfl, rfl, rfl, by rw [Int.toNat_of_nonneg (by omega)]; rfl, rfl, rfl, rfl, trivial⟩, rfl, rfl, rfl, rfl⟩
    rintro st ⟨x, hx1, hx2, hs2⟩
    refine hs2.then ?_
    have hrl : (ws.map row1).length = q := by rw [List.length_map, T.len]
    obtain ⟨r, hr, hR, hold, hn1, hf⟩ := rows_append (P := Tryz.prog) (row := row1 x) (t := 38) (u := 38) R2 U38 U38 rfl S3 rfl (row1_all _) rfl (by rw [hrl]; unfold limit; omega)
    have k0 := (hold 0 (by omega) (fun e => by have := ho 0 e; omega)).trans d0
    have k1 := (hold 1 (by omega) (fun e => by have := ho 1 e; omega)).trans d1
    have T' : TrQ d (q + 1) (ws ++ [x]) := by
      refine ⟨by rw [List.length_append, T.len]; rfl, fun i hi => ?_, fun y hy => ?_⟩
      · rcases Nat.lt_or_ge i q with h3 | h3
        · have := T.at' i h3
          unfold wF at this ⊢
          rw [List.getD_eq_getElem?_getD, List.getElem?_append_left (by rw [T.len]; exact h3), ← List.getD_eq_getElem?_getD]
          exact this
        · obtain rfl : i = q := by omega
          rw [wF_get (x := x) (by rw [List.getElem?_append_right (by rw [T.len]; omega), T.len, Nat.sub_self]; rfl), hwq]
          exact ⟨hx1, hx2⟩
      · rcases List.mem_append.1 hy with hy | hy
        · exact T.sm y hy
        · rw [List.mem_singleton.1 hy]; omega
    refine then_end (hm := false) ?_
    rcases R2.shape with rfl | ⟨o, m, rfl⟩
    all_goals
      conv => whnf
      rw [push_n]
      refine ⟨_, hr, ?_⟩
      conv => whnf
      generalize hK : TMap.app AB.dead _ _ = K
      rw [show after (H2.push .dead (.blk ((row1 x).map .c))) r = K from hK] at hR k0 k1 hn1
      clear hK hold hr
      obtain ⟨rv, rr, ru, rf⟩ := r
      dsimp only at hR hf ⊢
      rcases hR.shape with rfl | ⟨o', n', rfl⟩
      · rcases hR with ⟨_, hh⟩ | ⟨_, hh, _⟩
        · simp at hh
        · cases hh
      refine then_end (hm := false) ?_
      conv => whnf
      refine ⟨((q + 1 : Nat) : Int), by rw [wrap_eq (by omega) (by omega)]; omega, ?_⟩
      conv => whnf
      exact ⟨d.n - (q + 1), by omega, q + 1, K, _, ws ++ [x], by omega, rfl, T', by rw [List.map_append]; exact hR, fun o ho => by have := hf o ho; omega, k0, k1, by omega, rfl, ⟨rfl, rfl, rfl, rfl, rfl, rfl, rfl, trivial⟩, rfl, rfl, rfl, rfl⟩
  clear G0 G1 Gn G
  rintro st ⟨h, out, ws, T, R, ho, h0, h1, hlt, hs⟩
  refine hs.then ?_
  refine then_seq (hm := false) ?_
  conv => whnf
  refine ⟨_, h0, ?_⟩
  conv => whnf
  rw [hz] at h1
  refine ⟨_, h1, ?_⟩
  conv => whnf
  generalize hG : TMap.set AB.dead h 1 _ = G
  have G0 : Heap.at G 0 = v.blk d.pr := by rw [← hG]; exact (at_set_ne _ _ (by omega)).trans h0
  have G1 := (congrArg (Heap.at · 1) hG.symm).trans (at_set_self _ _ (i := 1) (by omega))
  have Gn : 2 ≤ G.n := by rw [← hG, TMap.set_n]; omega
  have R1 : RowsL 1 G out (ws.map row1) := by rw [← hG]; exact R.set (fun e => by have := ho 1 e; omega) _
  clear hG R h0 h1 hlt hs h
  refine then_seq (hm := false) ?_
  conv => whnf
  refine ⟨_, G1, ?_⟩
  conv => whnf
  generalize hG : TMap.set AB.dead G 1 _ = H
  have h0 : Heap.at H 0 = v.blk d.pr := by rw [← hG]; exact (at_set_ne _ _ (by omega)).trans G0
  have h1 := (congrArg (Heap.at · 1) hG.symm).trans (at_set_self _ _ (i := 1) (by omega))
  have hlt : 2 ≤ H.n := by rw [← hG, TMap.set_n]; omega
  have R : RowsL 1 H out (ws.map row1) := by rw [← hG]; exact R1.set (fun e => by have := ho 1 e; omega) _
  clear hG R1 G0 G1 Gn G hz z
  have hwn : v.wn = d.wd.length := by rw [hv.wn]; show (d.wd.map _).length = _; rw [List.length_map]
  have hw4 := hd.w4
  have hwl : ws.length ≤ 10 := by rw [T.len]; exact hn10
  refine then_via (hm := false) (fun st => ∃ (h : Heap) (out2 : AV), RowsL 1 h out (ws.map row1) ∧ RowsL 3 h out2 (rowsX ws d.wd) ∧ Heap.at h 1 = .blk [.c (.sl v.fc v.fo v.fn), .c (I d.pr.low), .c (I d.pr.top), .c (I d.pr.bales), out2] ∧ 1 < h.n ∧ (∀ o, outId out = some o → 2 ≤ o) ∧ (∀ o, outId out2 = some o → 2 ≤ o) ∧ Has st 98 [(4, .ptr 1 0), (5, out)] [] none h) ?_ ?_
  · skip
    conv => whnf
    refine ⟨_, h0, ?_⟩
    conv => whnf
    refine loop_by (I := fun y st => ∃ (q : Nat) (h : Heap) (out2 : AV), q ≤ d.wd.length ∧ y = d.wd.length - q ∧ RowsL 1 h out (ws.map row1) ∧ RowsL 3 h out2 (rowsX ws (d.wd.take q)) ∧ Heap.at h 0 = v.blk d.pr ∧ Heap.at h 1 = .blk [.c (.sl v.fc v.fo v.fn), .c (I d.pr.low), .c (I d.pr.top), .c (I d.pr.bales), out2] ∧ 2 ≤ h.n ∧ (∀ o, outId out2 = some o → 2 ≤ o ∧ outId out ≠ some o) ∧ Has st 98 [(2, .ptr 0 0), (4, .ptr 1 0), (5, out), (57, .c (.sl v.wc v.ow v.wn)), (58, .c (I v.wn)), (59, .c (I q))] [] none h) ?_ (k := d.wd.length)
      ⟨0, H, nilA, Nat.zero_le _, rfl, R, .inl ⟨rfl, rfl⟩, h0, h1, hlt, (fun o ho => by cases ho), rfl, ⟨rfl, rfl, rfl, rfl, rfl, rfl, trivial⟩, rfl, rfl, rfl, rfl⟩
    clear h0 h1 hlt R H
    rintro y st ⟨q, h, out2, hq, rfl, R, X, h0, h1, hlt, ho2, hs⟩
    refine (hs.then ?_).1
    refine then_seq (hm := false) ?_
    conv => whnf
    cases hcq : decide ((q : Int) < (v.wn : Int))
    case false =>
      have : q = d.wd.length := by simp at hcq; omega
      subst this
      rw [List.take_length] at X
      refine then_seq (hm := false) ?_
      conv => whnf
      exact ⟨h, out2, R, X, h1, by omega, ho, fun o hh => (ho2 o hh).1, rfl, ⟨rfl, rfl, trivial⟩, rfl, rfl, rfl, rfl⟩
    have hq : q < d.wd.length := by simp at hcq; omega
    obtain ⟨b', hb'⟩ := get_some hq
    have hbp : d.pr.wd[q]? = some (((b'.1 : Nat) : Int), b'.2.1, b'.2.2) := by show (d.wd.map _)[q]? = _; rw [List.getElem?_map, hb']; rfl
    have hbw := hd.w b' (List.mem_of_getElem? hb')
    have htot := tot_small T.sm b'.1 10
    rw [show totF (wF ws) b'.1 10 = totW ws b'.1 from rfl] at htot
    refine then_seq (hm := false) ?_
    conv => whnf
    refine then_left (then_block ?_)
    refine then_seq (hm := false) ?_
    conv => whnf
    refine ⟨⟨by omega, by omega⟩, ?_⟩
    conv => whnf
    refine ⟨_, hv.bale hbp, ?_⟩
    conv => whnf
    refine ⟨_, at_push_self _ _, ?_⟩
    conv => whnf
    generalize hH2 : TMap.set AB.dead (TMap.push AB.dead h _) _ _ = H2
    have d0 : Heap.at H2 0 = v.blk d.pr := by rw [← hH2]; exact (at_old _ _ _ (by omega)).trans h0
    have d1 : Heap.at H2 1 = .blk [.c (.sl v.fc v.fo v.fn), .c (I d.pr.low), .c (I d.pr.top), .c (I d.pr.bales), out2] := by rw [← hH2]; exact (at_old _ _ _ (by omega)).trans h1
    have d4 : Heap.at H2 h.n = .blk [.c (I (b'.1 : Nat)), .c (I b'.2.1), .c (I b'.2.2)] := by rw [← hH2]; exact at_new _ _ _
    have dn : H2.n = h.n + 1 := by rw [← hH2, TMap.set_n, push_n]
    have R2 : RowsL 1 H2 out (ws.map row1) := R.ext (by omega) fun i hi _ => by rw [← hH2]; exact at_old _ _ _ hi
    have X2 : RowsL 3 H2 out2 (rowsX ws (d.wd.take q)) := X.ext (by omega) fun i hi _ => by rw [← hH2]; exact at_old _ _ _ hi
    have ho2l : ∀ o, outId out2 = some o → o < h.n := X.lt
    have hol : ∀ o, outId out = some o → o < h.n := R.lt
    clear hH2 h0 h1 R X
    generalize h.n = N at *
    refine then_seq (hm := false) ?_
    conv => whnf
    refine ⟨_, d4, ?_⟩
    conv => whnf
    refine total_call hwl T.sm (by omega) R2 ?_
    conv => whnf
    refine then_seq (hm := false) ?_
    conv => whnf
    refine ⟨_, d4, ?_⟩
    conv => whnf
    refine ⟨_, d4, ?_⟩
    conv => whnf
    refine ⟨b'.2.2 - b'.2.1, by rw [wrap_eq (by omega) (by omega)], ?_⟩
    conv => whnf
    generalize hC : totW ws b'.1 = C at htot
    obtain ⟨W, hW⟩ : ∃ W, W = min 4 (b'.2.2 - b'.2.1) := ⟨_, rfl⟩
    rw [← hW]
    have hW0 : 0 ≤ W ∧ W ≤ 4 := by omega
    have hq2 : IntKind.i64.wrap (W.tdiv 2) = W / 2 := by rw [Int.tdiv_eq_ediv_of_nonneg hW0.1]; exact wrap_eq (by omega) (by omega)
    have hrow : rowsX ws (d.wd.take (q + 1)) = rowsX ws (d.wd.take q) ++ [rowF ((b'.1 : Int), max 1 (C - W / 2), min 200 (C + W - W / 2))] := by
      unfold rowsX
      rw [List.take_add_one, hb', List.map_append]
      congr 1
      simp only [Option.toList, List.map_cons, List.map_nil, trB, wide4, hC, ← hW]
    have hxl : (rowsX ws (d.wd.take q)).length = q := by unfold rowsX; rw [List.length_map, List.length_take]; omega
    obtain ⟨r1, hr1, hR1, hold1, hn1', hfresh1, hupd1, hre1, hup1, bf1, hval1, hnn1⟩ := rows_append2 (P := Tryz.prog) (row := rowF ((b'.1 : Int), max 1 (C - W / 2), min 200 (C + W - W / 2))) (t := 23) (u := 23) X2 U23 U23 rfl S56 rfl (rowsX_all _ _) rfl (by rw [hxl]; unfold limit; omega)
    obtain ⟨K, hK⟩ : ∃ K, K = after (H2.push .dead (.blk ((rowF ((b'.1 : Int), max 1 (C - W / 2), min 200 (C + W - W / 2))).map .c))) r1 := ⟨_, rfl⟩
    rw [← hK] at hR1 hold1 hn1' hnn1
    obtain ⟨rv1, rreads1, rupds1, rfresh1⟩ := r1
    obtain ⟨fb1, bf1⟩ := bf1
    simp only at hval1 hre1 hup1 bf1
    subst bf1
    subst hval1
    subst hre1
    subst hup1
    have k0 := (hold1 0 (by omega) (fun e => by have := ho2 0 e; omega)).trans d0
    have k1 := (hold1 1 (by omega) (fun e => by have := ho2 1 e; omega)).trans d1
    have RK : RowsL 1 K out (ws.map row1) := R2.ext (by omega) fun i hi hio => hold1 i hi (fun e => (ho2 i e).2 hio)
    rw [hxl] at hR1
    refine then_end (hm := false) ?_
    rcases X2.shape with rfl | ⟨o, m, rfl⟩
    · skip
      refine draw_by (hm := false) (by kernel_rfl) (by kernel_rfl) ?_
      conv => whnf
      refine ⟨_, d1, ?_⟩
      conv => whnf
      refine ⟨_, d4, ?_⟩
      conv => whnf
      refine ⟨C - W / 2, by rw [hq2]; exact wrap_eq (by omega) (by omega), ?_⟩
      conv => whnf
      refine ⟨C + W, by rw [wrap_eq (by omega) (by omega)], ?_⟩
      conv => whnf
      refine ⟨C + W - W / 2, by rw [hq2]; exact wrap_eq (by omega) (by omega), ?_⟩
      conv => whnf
      refine .pure _ _ rfl (weighed38_ret _ _ _) ?_
      conv => whnf
      refine dgot (H := K) (got_app rfl hr1) hupd1 hK.symm ?_
      conv => whnf
      refine ⟨_, k1, ?_⟩
      conv => whnf
      refine ⟨by show 1 < K.n; omega, ?_⟩
      conv => whnf
      refine ⟨?_, ?_⟩
      · obtain ⟨π, z0, z1, z2, z3⟩ : ∃ π : Nat → Nat, π 1 = 0 ∧ π N = 1 ∧ π H2.n = 2 ∧ π (H2.n + 1) = 3 := ⟨fun x => if x = 1 then 0 else if x = N then 1 else if x = H2.n then 2 else 3, by dsimp only; repeat (first | rw [if_pos rfl] | rw [if_neg (by omega)]), by dsimp only; repeat (first | rw [if_pos rfl] | rw [if_neg (by omega)]), by dsimp only; repeat (first | rw [if_pos rfl] | rw [if_neg (by omega)]), by dsimp only; repeat (first | rw [if_pos rfl] | rw [if_neg (by omega)])⟩
        exact pairs_via π [⟨0, _, _, [], []⟩, ⟨1, _, _, [π 1], []⟩, ⟨2, _, _, [], []⟩, ⟨3, _, _, [π N], []⟩, ⟨4, _, _, [], []⟩, ⟨5, _, _, [], []⟩, ⟨6, _, _, [], []⟩, ⟨7, _, _, [], []⟩, ⟨8, _, _, [], []⟩, ⟨9, _, _, [], []⟩, ⟨10, _, _, [], []⟩, ⟨11, _, _, [], []⟩, ⟨12, _, _, [], []⟩, ⟨13, _, _, [], []⟩, ⟨14, _, _, [], []⟩, ⟨15, _, _, [], []⟩, ⟨16, _, _, [], []⟩, ⟨17, _, _, [], [π H2.n]⟩, ⟨18, _, _, [π H2.n], [π (H2.n + 1)]⟩, ⟨19, _, _, [], []⟩, ⟨20, _, _, [π 1], [π 1]⟩] rfl (by rw [z0, z1, z2, z3]; kernel_rfl)
      conv => whnf
      rw [hxl]
      refine then_end (hm := false) ?_
      conv => whnf
      refine ⟨((q + 1 : Nat) : Int), by rw [wrap_eq (by omega) (by omega)]; omega, ?_⟩
      conv => whnf
      exact ⟨d.wd.length - (q + 1), by omega, q + 1, _, _, by omega, rfl, RK.set (fun e => by have := ho 1 e; omega) _, by rw [hrow]; exact hR1.set (fun e => by have := Option.some.inj e; omega) _, (at_set_ne _ _ (by omega)).trans k0, at_set_self _ _ (by omega), by rw [TMap.set_n]; omega, (fun o' hh => by have e := Option.some.inj hh; subst e; exact ⟨by omega, fun e2 => by have := hol _ e2; omega⟩), rfl, ⟨rfl, rfl, rfl, rfl, rfl, rfl, trivial⟩, rfl, rfl, rfl, rfl⟩
    · skip
      have j1 := ho2l o rfl
      have j2 := (ho2 o rfl).1
      refine draw_by (hm := false) (by kernel_rfl) (by kernel_rfl) ?_
      conv => whnf
      refine ⟨_, d1, ?_⟩
      conv => whnf
      refine ⟨_, d4, ?_⟩
      conv => whnf
      refine ⟨C - W / 2, by rw [hq2]; exact wrap_eq (by omega) (by omega), ?_⟩
      conv => whnf
      refine ⟨C + W, by rw [wrap_eq (by omega) (by omega)], ?_⟩
      conv => whnf
      refine ⟨C + W - W / 2, by rw [hq2]; exact wrap_eq (by omega) (by omega), ?_⟩
      conv => whnf
      refine .pure _ _ rfl (weighed38_ret _ _ _) ?_
      conv => whnf
      refine dgot (H := K) (got_app rfl hr1) hupd1 hK.symm ?_
      conv => whnf
      refine ⟨_, k1, ?_⟩
      conv => whnf
      refine ⟨by show 1 < K.n; omega, ?_⟩
      conv => whnf
      refine ⟨?_, ?_⟩
      · obtain ⟨π, z0, z1, z2, z3, z4⟩ : ∃ π : Nat → Nat, π 1 = 0 ∧ π N = 1 ∧ π H2.n = 2 ∧ π (H2.n + 1) = 3 ∧ π o = 4 := ⟨fun x => if x = 1 then 0 else if x = N then 1 else if x = H2.n then 2 else if x = H2.n + 1 then 3 else 4, by dsimp only; repeat (first | rw [if_pos rfl] | rw [if_neg (by omega)]), by dsimp only; repeat (first | rw [if_pos rfl] | rw [if_neg (by omega)]), by dsimp only; repeat (first | rw [if_pos rfl] | rw [if_neg (by omega)]), by dsimp only; repeat (first | rw [if_pos rfl] | rw [if_neg (by omega)]), by dsimp only; repeat (first | rw [if_pos rfl] | rw [if_neg (by omega)])⟩
        exact pairs_via π [⟨0, _, _, [], []⟩, ⟨1, _, _, [π 1], []⟩, ⟨2, _, _, [], []⟩, ⟨3, _, _, [π N], []⟩, ⟨4, _, _, [], []⟩, ⟨5, _, _, [], []⟩, ⟨6, _, _, [], []⟩, ⟨7, _, _, [], []⟩, ⟨8, _, _, [], []⟩, ⟨9, _, _, [], []⟩, ⟨10, _, _, [], []⟩, ⟨11, _, _, [], []⟩, ⟨12, _, _, [], []⟩, ⟨13, _, _, [], []⟩, ⟨14, _, _, [], []⟩, ⟨15, _, _, [], []⟩, ⟨16, _, _, [], []⟩, ⟨17, _, _, [], [π H2.n]⟩, ⟨18, _, _, [π o, π H2.n], [π o, π (H2.n + 1)]⟩, ⟨19, _, _, [], []⟩, ⟨20, _, _, [π 1], [π 1]⟩] rfl (by rw [z0, z1, z2, z3, z4]; kernel_rfl)
      conv => whnf
      rw [hxl]
      refine then_end (hm := false) ?_
      conv => whnf
      refine ⟨((q + 1 : Nat) : Int), by rw [wrap_eq (by omega) (by omega)]; omega, ?_⟩
      conv => whnf
      exact ⟨d.wd.length - (q + 1), by omega, q + 1, _, _, by omega, rfl, RK.set (fun e => by have := ho 1 e; omega) _, by rw [hrow]; exact hR1.set (fun e => by have := Option.some.inj e; omega) _, (at_set_ne _ _ (by omega)).trans k0, at_set_self _ _ (by omega), by rw [TMap.set_n]; omega, (fun o' hh => by have e := Option.some.inj hh; subst e; exact ⟨by omega, fun e2 => by have := hol _ e2; omega⟩), rfl, ⟨rfl, rfl, rfl, rfl, rfl, rfl, trivial⟩, rfl, rfl, rfl, rfl⟩
  rintro st ⟨h', out2, R', X', hb1, hn1, ho', ho2', hs'⟩
  refine hs'.then ?_
  have hle : ∀ (x y : CV), x.Le (.sl (rowsX ws d.wd).flatten 0 (rowsX ws d.wd).length) → y.Le (.sl (ws.map row1).flatten 0 (ws.map row1).length) → (CV.tuple [.agg [.sl v.fc v.fo v.fn, I d.pr.low, I d.pr.top, I d.pr.bales, x], y]).Le (.tuple [(v.own (truP d ws).pr.wd).cv (truP d ws).pr, nsC ws]) := fun x y hx hy => by
    refine CV.Le.tuple ⟨CV.Le.agg ⟨.refl _, .refl _, .refl _, .refl _, ?_, trivial⟩, ?_, trivial⟩
    · rw [← rowsX_eq, List.length_map] at hx
      exact hx
    · rw [List.length_map] at hy
      exact hy
  rcases R'.shape with rfl | ⟨o, m, rfl⟩
  · rcases X'.shape with rfl | ⟨o2, m2, rfl⟩
    · refine then_seq (hm := false) ?_
      conv => whnf
      refine ⟨_, hb1, ?_⟩
      conv => whnf
      refine ⟨_, hb1, ?_⟩
      conv => whnf
      refine then_end (hm := false) ?_
      conv => whnf
      refine ⟨_, at_set_self _ _ (i := 1) hn1, ?_⟩
      conv => whnf
      refine ⟨ws, T, .c (.tuple [.agg [.sl v.fc v.fo v.fn, I d.pr.low, I d.pr.top, I d.pr.bales, nilC], nilC]), rfl, ?_⟩
      generalize hM : TMap.set AB.dead h' 1 _ = M
      have R3 : RowsL 1 M nilA (ws.map row1) := by rw [← hM]; exact R'.set (k := 1) (fun e => by have := ho' 1 e; omega) _
      have X3 : RowsL 3 M nilA (rowsX ws d.wd) := by rw [← hM]; exact X'.set (k := 1) (fun e => by have := ho2' 1 e; omega) _
      have X0 := X3.nilLe
      have Y0 := R3.nilLe
      exact ⟨_, ⟨1, [], rfl⟩, hle _ _ X0 Y0⟩
    · refine then_seq (hm := false) ?_
      conv => whnf
      refine ⟨_, hb1, ?_⟩
      conv => whnf
      refine ⟨_, hb1, ?_⟩
      conv => whnf
      refine then_end (hm := false) ?_
      conv => whnf
      refine ⟨_, at_set_self _ _ (i := 1) hn1, ?_⟩
      conv => whnf
      refine ⟨ws, T, .tuple [.agg [.c (.sl v.fc v.fo v.fn), .c (I d.pr.low), .c (I d.pr.top), .c (I d.pr.bales), .msl o2 3 0 m2 m2], .c nilC], rfl, ?_⟩
      generalize hM : TMap.set AB.dead h' 1 _ = M
      have R3 : RowsL 1 M nilA (ws.map row1) := by rw [← hM]; exact R'.set (k := 1) (fun e => by have := ho' 1 e; omega) _
      have X3 : RowsL 3 M (.msl o2 3 0 m2 m2) (rowsX ws d.wd) := by rw [← hM]; exact X'.set (k := 1) (fun e => by have := ho2' 1 e; omega) _
      obtain ⟨x1, i1, hx1, hx2⟩ := Sn.rows X3
      have Y0 := R3.nilLe
      exact ⟨_, Sn.ret (Sn.pair (Sn.agg5 _ _ _ _ hx1) (Sn.c _ _)), hle _ _ hx2 Y0⟩
  · rcases X'.shape with rfl | ⟨o2, m2, rfl⟩
    · refine then_seq (hm := false) ?_
      conv => whnf
      refine ⟨_, hb1, ?_⟩
      conv => whnf
      refine ⟨_, hb1, ?_⟩
      conv => whnf
      refine then_end (hm := false) ?_
      conv => whnf
      refine ⟨_, at_set_self _ _ (i := 1) hn1, ?_⟩
      conv => whnf
      refine ⟨ws, T, .tuple [.c (.agg [.sl v.fc v.fo v.fn, I d.pr.low, I d.pr.top, I d.pr.bales, nilC]), .msl o 1 0 m m], rfl, ?_⟩
      generalize hM : TMap.set AB.dead h' 1 _ = M
      have R3 : RowsL 1 M (.msl o 1 0 m m) (ws.map row1) := by rw [← hM]; exact R'.set (k := 1) (fun e => by have := ho' 1 e; omega) _
      have X3 : RowsL 3 M nilA (rowsX ws d.wd) := by rw [← hM]; exact X'.set (k := 1) (fun e => by have := ho2' 1 e; omega) _
      have X0 := X3.nilLe
      obtain ⟨y1, j1, hy1, hy2⟩ := Sn.rows R3
      exact ⟨_, Sn.ret (Sn.pair (Sn.c _ _) (hy1)), hle _ _ X0 hy2⟩
    · refine then_seq (hm := false) ?_
      conv => whnf
      refine ⟨_, hb1, ?_⟩
      conv => whnf
      refine ⟨_, hb1, ?_⟩
      conv => whnf
      refine then_end (hm := false) ?_
      conv => whnf
      refine ⟨_, at_set_self _ _ (i := 1) hn1, ?_⟩
      conv => whnf
      refine ⟨ws, T, .tuple [.agg [.c (.sl v.fc v.fo v.fn), .c (I d.pr.low), .c (I d.pr.top), .c (I d.pr.bales), .msl o2 3 0 m2 m2], .msl o 1 0 m m], rfl, ?_⟩
      generalize hM : TMap.set AB.dead h' 1 _ = M
      have R3 : RowsL 1 M (.msl o 1 0 m m) (ws.map row1) := by rw [← hM]; exact R'.set (k := 1) (fun e => by have := ho' 1 e; omega) _
      have X3 : RowsL 3 M (.msl o2 3 0 m2 m2) (rowsX ws d.wd) := by rw [← hM]; exact X'.set (k := 1) (fun e => by have := ho2' 1 e; omega) _
      obtain ⟨x1, i1, hx1, hx2⟩ := Sn.rows X3
      obtain ⟨y1, j1, hy1, hy2⟩ := Sn.rows R3
      exact ⟨_, Sn.ret (Sn.pair (Sn.agg5 _ _ _ _ hx1) (hy1)), hle _ _ hx2 hy2⟩
theorem TrQ.tr {d : Pn} {ws : List Nat} (h : TrQ d d.n ws) : TrW d ws := ⟨h.len, h.at'⟩
theorem truly_ex {v : PV} {d : Pn} (hv : v.Is d.pr) (hd : d.Good) {b : By} (hb : b.ok) : ∃ ws, TrQ d d.n ws ∧ Ret Tryz.prog 29 [v.cv d.pr, byW b] (.tuple [(v.own (truP d ws).pr.wd).cv (truP d ws).pr, nsC ws]) := by
  obtain ⟨e, h', hcall, ws, T, u, rfl, v', ⟨fuel, ids, hs⟩, hle⟩ := truly_call hv hd hb
  have : Ret Tryz.prog 29 [v.cv d.pr, byW b] v' := callOk_close (args := [v.cv d.pr, byW b]) hcall (r := (v', ids)) hs
  exact ⟨ws, T, this.weaken hle⟩
theorem tot_ge {f : Nat → Int} (h : ∀ i, 0 ≤ f i) {s i : Nat} (hb : s.testBit i = true) : ∀ q, i < q → f i ≤ totF f s q
  | q + 1, hq => by
    have hn : ∀ q, 0 ≤ totF f s q := by
      intro q
      induction q with
      | zero => exact Int.le_refl 0
      | succ q ih => rw [totF]; have := h q; split <;> omega
    rw [totF]
    rcases Nat.lt_or_ge i q with h1 | h1
    · have := tot_ge h hb q h1
      have := h q
      split <;> omega
    · obtain rfl : i = q := by omega
      rw [hb, if_pos rfl]
      have := hn i
      omega
/-- What is truly made is right. -/
theorem tru_good {d : Pn} (hd : d.Good) {ws : List Nat} (T : TrQ d d.n ws) : (truP d ws).Good ∧ RightW (truP d ws) ws := by
  have hn10 := hd.n10
  have hp : ∀ b ∈ d.wd, 1 ≤ totW ws b.1 ∧ totW ws b.1 ≤ 200 ∧ 0 ≤ wide4 b ∧ wide4 b ≤ 4 := fun b hb => by
    have h3 := hd.w b hb
    have h4 := tot_small T.sm b.1 10
    rw [show totF (wF ws) b.1 10 = totW ws b.1 from rfl] at h4
    refine ⟨?_, by omega, by unfold wide4; omega, by unfold wide4; omega⟩
    have hex : ∃ i, b.1.testBit i = true := by
      apply Classical.byContradiction
      intro hno
      have : b.1 = 0 := bits_zero fun i => by
        cases hbi : b.1.testBit i
        · rfl
        · exact absurd ⟨i, hbi⟩ hno
      omega
    obtain ⟨i, hi⟩ := hex
    have hin := bit_lt h3.2.1 hi
    have hge := tot_ge (f := wF ws) (fun j => by have := T.tr.all j; have := hd.w' j; omega) hi 10 (by omega)
    have h5 := (T.tr.at' i hin).1
    obtain ⟨x, hx⟩ := get_some (l := d.fl) (k := i) hin
    have hwi : d.w' i = ⟨x.1, x.2.1⟩ := by unfold Pn.w'; rw [hx]
    have hxf := hd.f x (List.mem_of_getElem? hx)
    rw [hwi] at h5
    dsimp only at h5
    show 1 ≤ totF (wF ws) b.1 10
    omega
  refine ⟨⟨hd.n10, hd.f, by show (d.wd.map _).length ≤ 4; rw [List.length_map]; exact hd.w4, ?_, ?_, hd.lt, hd.b5⟩, ?_⟩
  · intro c hc
    obtain ⟨b, hb, rfl⟩ := List.mem_map.1 hc
    have h1 := hp b hb
    have h3 := hd.w b hb
    unfold trB
    refine ⟨h3.1, h3.2.1, ?_, ?_, ?_⟩
    all_goals dsimp only; omega
  · show (d.wd.map _).Pairwise _
    rw [List.pairwise_map]
    exact hd.ap
  · intro c hc
    obtain ⟨b, hb, rfl⟩ := List.mem_map.1 hc
    have h1 := hp b hb
    unfold trB
    dsimp only
    omega
end Go.Ag
