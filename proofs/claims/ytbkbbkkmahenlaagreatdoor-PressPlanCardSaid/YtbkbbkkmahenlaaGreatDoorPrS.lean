/- The law PressPlan returns true for arguments that read as data. No conditions. -/
import Derived.Test.YtbkbbkkmahenlaaGreatDoorPrI
/- Layer 8: the law of plans. -/
namespace Go.Ag
open Go.Proofs
set_option maxRecDepth 100000

set_option maxHeartbeats 4000000 in
theorem planLaw_no {v : PV} {c : Pr} (hf : Ret Tryz.prog 28 [v.cv c] (B false)) (b : By) : Ret Tryz.prog 9 [v.cv c, byW b] (B true) := by
  refine ret_by (hm := true) Tryz.func9 rfl ?_
  conv => whnf
  refine .ret (hf) rfl ?_
  conv => whnf
  refine .ret (Awake.alive_ret) rfl ?_
  conv => whnf
  exact .val
set_option maxHeartbeats 4000000 in
theorem planLaw_clash {v : PV} {d : Pn} (hv : v.Is d.pr) (hd : d.Good) (hok : okPr d.pr = true) (hfar : farB d.pr = false) (hc : canP d = false) (b : By) : Ret Tryz.prog 9 [v.cv d.pr, byW b] (B true) := by
  have hfi := fine_ret hv
  rw [hfar, hok] at hfi
  have h1 := planX_ret hv hd hok
  have h2 := mostX_ret hv hd hok
  have h3 := waitX_ret hv hd hok
  unfold lOf eOf at h1
  unfold pOf eOf at h2
  unfold wtOf eOf at h3
  simp only [hc, Bool.false_eq_true, if_false] at h1 h2 h3
  refine ret_then (hm := true) Tryz.func9 rfl ?_
  conv => whnf
  repeat (refine then_seq (hm := true) ?_; conv => whnf)
  refine .ret (hfi) rfl ?_
  conv => whnf
  refine then_seq (hm := true) ?_
  conv => whnf
  refine .ret (h1) rfl ?_
  conv => whnf
  refine then_seq (hm := true) ?_
  conv => whnf
  refine .ret (h2) rfl ?_
  conv => whnf
  refine then_seq (hm := true) ?_
  conv => whnf
  refine .ret (h3) rfl ?_
  conv => whnf
  repeat (refine then_seq (hm := true) ?_; conv => whnf)
  refine ⟨_, arr_eql (a := ((0 : Nat) : Int)) (b := ((0 : Nat) : Int)) (c := ((0 : Nat) : Int)) rfl rfl rfl _ _, ?_⟩
  conv => whnf
  refine .ret (Awake.alive_ret) rfl ?_
  conv => whnf
  exact .val
theorem bit_nat0 (s n : Nat) : ((((s >>> n &&& 1 : Nat)) : Int) == 0) = !s.testBit n := by
  rw [← bit_nat]
  have h : s >>> n &&& 1 = 0 ∨ s >>> n &&& 1 = 1 := by rw [Nat.and_one_is_mod]; omega
  rcases h with h | h <;> rw [h] <;> rfl
theorem shl_one (q : Nat) (h : q < 10) : IntKind.i64.wrap (1 * 2 ^ min (q : Int).toNat 64) = ((2 ^ q : Nat) : Int) := by
  have p : 2 ^ q ≤ 2 ^ 9 := Nat.pow_le_pow_right (by omega) (by omega)
  have := shl_nat 1 q (by omega) (by omega)
  rw [Nat.one_mul] at this
  exact this
def leftB (d : Pn) (u q : Nat) : AB := .blk [.c (I (popN (restQ d u q 0) : Nat)), .c (I (popN (restQ d u q 1) : Nat)), .c (I (popN (restQ d u q 2) : Nat))]
def lineB (d : Pn) (u q : Nat) : AB := .blk [.c (I (restQ d u q 0 : Nat)), .c (I (restQ d u q 1 : Nat)), .c (I (restQ d u q 2 : Nat))]
theorem rest_zero (d : Pn) (u l : Nat) : restQ d u 0 l = 0 := by
  unfold restQ lineQ bitsN diffN
  simp
theorem lineB_zero (d : Pn) (u : Nat) : lineB d u 0 = .blk [.c (I 0), .c (I 0), .c (I 0)] := by
  unfold lineB
  rw [rest_zero, rest_zero, rest_zero]
  rfl
theorem leftB_zero (d : Pn) (u : Nat) : leftB d u 0 = .blk [.c (I 0), .c (I 0), .c (I 0)] := by
  unfold leftB
  rw [rest_zero, rest_zero, rest_zero, show popN 0 = 0 by decide +kernel]
  rfl
set_option maxHeartbeats 16000000 in
theorem planLaw_ok {v : PV} {d : Pn} (hv : v.Is d.pr) (hd : d.Good) (hok : okPr d.pr = true) (hfar : farB d.pr = false) (hc : canP d = true) {b : By} (hb : b.ok) : Ret Tryz.prog 9 [v.cv d.pr, byW b] (B true) := by
  have hfi := fine_ret hv
  rw [hfar, hok] at hfi
  have h1 := planX_ret hv hd hok
  have h2 := mostX_ret hv hd hok
  have h3 := waitX_ret hv hd hok
  unfold lOf eOf at h1
  unfold pOf eOf at h2
  unfold wtOf eOf at h3
  simp only [hc, if_true] at h1 h2 h3
  have p10 := pow10 hd.n10
  have hF : ∀ s : Nat, s < 2 ^ d.n → Ret Tryz.prog 15 [v.cv d.pr, I s] (.tuple [I (sureN (fitsP d s) (meetsP d s)), I 0]) := fun s hs => by
    have := fitsX_ret hv hd hok hs
    unfold fOf eOf at this
    rw [if_pos hc, if_pos hc] at this
    exact this
  obtain ⟨ok, va⟩ := plan_facts hd hc
  have h0f := fits_zero hd hc
  have hal := Awake.alive_ret
  refine ret_then (hm := true) Tryz.func9 rfl ?_
  conv => whnf
  repeat (refine then_seq (hm := true) ?_; conv => whnf)
  refine .ret (hfi) rfl ?_
  conv => whnf
  refine then_seq (hm := true) ?_
  conv => whnf
  refine .ret (h1) rfl ?_
  conv => whnf
  refine then_seq (hm := true) ?_
  conv => whnf
  refine .ret (h2) rfl ?_
  conv => whnf
  refine then_seq (hm := true) ?_
  conv => whnf
  refine .ret (h3) rfl ?_
  conv => whnf
  refine then_seq (hm := true) ?_
  conv => whnf
  refine then_seq (hm := true) ?_
  conv => whnf
  have hmb : (mostP d).b = (planL d).length := by rw [← va, val_b]
  have hlen := okL_len ok
  have hb5 := hd.b5
  have hLlt := planL_lt hd
  have hfx : ∀ x ∈ planL d, Ret Tryz.prog 15 [v.cv d.pr, I (x : Nat)] (.tuple [I 2, I 0]) := fun x hx => by
    have h := okL_mem ok x hx
    have := hF x (h.1.lt (n := d.n) (by omega))
    rw [sure_two.2 h.2] at this
    exact this
  have hadj : ∀ i x y, (planL d)[i]? = some x → (planL d)[i + 1]? = some y → x < y := plan_adj h0f d.bales (2 ^ d.n - 1) (by omega)
  have hdis : ∀ q x, (planL d)[q]? = some x → x &&& orF 0 ((planL d).take q) = 0 := fun q x hx => and_orF _ 0 (Nat.and_zero x) fun y hy => by
    obtain ⟨j, hj⟩ := List.getElem?_of_mem hy
    have hjl := (List.getElem?_eq_some_iff.1 hj).1
    rw [List.length_take] at hjl
    rw [List.getElem?_take_of_lt (by omega)] at hj
    have hql := (List.getElem?_eq_some_iff.1 hx).1
    obtain ⟨h1, e1⟩ := List.getElem?_eq_some_iff.1 hj
    obtain ⟨h2, e2⟩ := List.getElem?_eq_some_iff.1 hx
    have := List.pairwise_iff_getElem.1 (okL_apart ok) j q h1 h2 (by omega)
    rw [e1, e2] at this
    exact this
  have huse : ∀ q, orF 0 ((planL d).take q) < 1024 := fun q => orF_lt (by omega) fun x hx => hLlt x (List.mem_of_mem_take hx)
  generalize hLd : planL d = L at *
  obtain ⟨H1, hH1⟩ : ∃ H1 : Heap, H1 = (TMap.nil.push .dead (v.blk d.pr)).push .dead (.blk [.c (I (waitN d (orF 0 L) 0 : Nat)), .c (I (waitN d (orF 0 L) 1 : Nat)), .c (I (waitN d (orF 0 L) 2 : Nat))]) := ⟨_, rfl⟩
  refine then_via (hm := true) (fun st => Has st 261 [(1, .c (byW b)), (2, .ptr 0 0), (5, .c (nsC L)), (7, .c (I ((mostP d).f : Nat))), (8, .c (I ((mostP d).b : Nat))), (10, .ptr 1 0), (12, .c (I (orF 0 L : Nat)))] [] none H1) ?_ ?_
  · skip
    conv => whnf
    refine loop_by (I := fun z st => ∃ (q : Nat), q ≤ L.length ∧ z = L.length - q ∧ Has st 261 [(1, .c (byW b)), (2, .ptr 0 0), (5, .c (nsC L)), (7, .c (I ((mostP d).f : Nat))), (8, .c (I ((mostP d).b : Nat))), (10, .ptr 1 0), (12, .c (I (orF 0 (L.take q) : Nat))), (93, .c (nsC L)), (94, .c (I L.length)), (95, .c (I q))] [] none H1) ?_ (k := L.length)
      ⟨0, Nat.zero_le _, rfl, by rw [hH1]; exact ⟨rfl, ⟨rfl, rfl, rfl, rfl, rfl, rfl, rfl, rfl, rfl, rfl, trivial⟩, rfl, rfl, rfl, rfl⟩⟩
    have G0 : Heap.at H1 0 = v.blk d.pr := by rw [hH1]; rfl
    clear hH1 h1 h2 h3 hfi
    rintro z st ⟨q, hq, rfl, hs⟩
    refine (hs.then ?_).1
    refine then_seq (hm := false) ?_
    conv => whnf
    cases hcq : decide ((q : Int) < (L.length : Int))
    case false =>
      have : q = L.length := by simp at hcq; omega
      subst this
      refine then_seq (hm := false) ?_
      conv => whnf
      exact ⟨rfl, ⟨rfl, rfl, rfl, rfl, rfl, rfl, by rw [List.take_length]; rfl, trivial⟩, rfl, rfl, rfl, rfl⟩
    have hq : q < L.length := by simp at hcq; omega
    obtain ⟨x, hx⟩ := get_some hq
    have hfx := hfx x (List.mem_of_getElem? hx)
    have hxl := hLlt x (List.mem_of_getElem? hx)
    have hd0 := hdis q x hx
    have hu := huse q
    refine then_seq (hm := false) ?_
    conv => whnf
    refine then_left (then_block ?_)
    refine then_seq (hm := false) ?_
    conv => whnf
    refine ⟨⟨by omega, by omega⟩, ?_⟩
    conv => whnf
    refine ⟨_, ns_get hx, ?_⟩
    conv => whnf
    refine then_seq (hm := false) ?_
    conv => whnf
    refine ⟨_, G0, ?_⟩
    conv => whnf
    refine .ret (hfx) rfl ?_
    conv => whnf
    refine then_via (hm := false) (fun st => Has st 261 [(1, .c (byW b)), (2, .ptr 0 0), (5, .c (nsC L)), (7, .c (I ((mostP d).f : Nat))), (8, .c (I ((mostP d).b : Nat))), (10, .ptr 1 0), (12, .c (I (orF 0 (L.take q) : Nat))), (14, .c (I x)), (93, .c (nsC L)), (94, .c (I L.length)), (95, .c (I q)), (130, .c (B false))] [] none H1) ?_ ?_
    · skip
      conv => whnf
      refine ⟨_, and_nat (a := x) (b := orF 0 (L.take q)) (by omega) (by omega), ?_⟩
      conv => whnf
      rw [hd0]
      conv => whnf
      cases hq0 : decide ((q : Int) > 0)
      · conv => whnf
        exact ⟨rfl, ⟨rfl, rfl, rfl, rfl, rfl, rfl, rfl, rfl, rfl, rfl, rfl, rfl, trivial⟩, rfl, rfl, rfl, rfl⟩
      have hq0 : 0 < q := by simp at hq0; omega
      obtain ⟨y, hy⟩ := get_some (l := L) (k := q - 1) (by omega)
      have hyx := hadj (q - 1) y x hy (by rw [show q - 1 + 1 = q by omega]; exact hx)
      conv => whnf
      refine ⟨((q - 1 : Nat) : Int), by rw [wrap_eq (by omega) (by omega)]; omega, ?_⟩
      conv => whnf
      refine ⟨⟨by omega, by omega⟩, ?_⟩
      conv => whnf
      refine ⟨_, ns_get hy, ?_⟩
      conv => whnf
      rw [show decide ((x : Int) ≤ (y : Int)) = false from decide_eq_false (by omega)]
      exact ⟨rfl, ⟨rfl, rfl, rfl, rfl, rfl, rfl, rfl, rfl, rfl, rfl, rfl, rfl, trivial⟩, rfl, rfl, rfl, rfl⟩
    rintro st hs
    refine hs.then ?_
    refine then_end (hm := false) ?_
    conv => whnf
    refine ⟨_, or_nat (a := orF 0 (L.take q)) (b := x) (by omega) (by omega), ?_⟩
    conv => whnf
    refine then_end (hm := false) ?_
    conv => whnf
    refine ⟨((q + 1 : Nat) : Int), by rw [wrap_eq (by omega) (by omega)]; omega, ?_⟩
    conv => whnf
    refine ⟨L.length - (q + 1), by omega, q + 1, by omega, rfl, rfl, ⟨rfl, rfl, rfl, rfl, rfl, rfl, ?_, rfl, rfl, rfl, trivial⟩, rfl, rfl, rfl, rfl⟩
    rw [List.take_add_one, hx]
    exact congrArg (fun z : Nat => AV.c (I z)) (orF_snoc 0 (L.take q) x).symm
  rintro st hs
  refine hs.then ?_
  have G0 : Heap.at H1 0 = v.blk d.pr := by rw [hH1]; rfl
  have G1 : Heap.at H1 1 = .blk [.c (I (waitN d (orF 0 L) 0 : Nat)), .c (I (waitN d (orF 0 L) 1 : Nat)), .c (I (waitN d (orF 0 L) 2 : Nat))] := by rw [hH1]; rfl
  have G2 : H1.n = 2 := by rw [hH1]; rfl
  clear hH1 h1 h2 h3 hfi
  have hpopf : popN (orF 0 L) = (mostP d).f := by
    have h1 := pop_orF L 0 (fun y _ => Nat.and_zero y) (okL_apart ok)
    have h0 : popN 0 = 0 := by decide +kernel
    rw [h1, h0, Nat.zero_add, va]
  have hU := huse L.length
  rw [List.take_length] at hU
  have hsz := refSize_ret hU
  rw [hpopf] at hsz
  have hbb : d.pr.bales = (d.bales : Int) := rfl
  refine then_via (hm := false) (fun st => Has st 261 [(1, .c (byW b)), (2, .ptr 0 0), (5, .c (nsC L)), (7, .c (I ((mostP d).f : Nat))), (8, .c (I ((mostP d).b : Nat))), (10, .ptr 1 0), (12, .c (I (orF 0 L : Nat)))] [] none H1) ?_ ?_
  · skip
    conv => whnf
    rw [show (((L.length : Nat) : Int) != (((mostP d).b : Nat) : Int)) = false by rw [hmb]; simp]
    conv => whnf
    refine ⟨_, G0, ?_⟩
    conv => whnf
    rw [show decide ((((mostP d).b : Nat) : Int) > d.pr.bales) = false from decide_eq_false (by omega)]
    conv => whnf
    refine .ret (hsz) rfl ?_
    conv => whnf
    rw [show ((((mostP d).f : Nat) : Int) != (((mostP d).f : Nat) : Int)) = false by simp]
    conv => whnf
    exact ⟨rfl, ⟨rfl, rfl, rfl, rfl, rfl, rfl, rfl, trivial⟩, rfl, rfl, rfl, rfl⟩
  clear hsz hs
  rintro st hs
  refine hs.then ?_
  refine then_seq (hm := false) ?_
  conv => whnf
  refine then_seq (hm := false) ?_
  conv => whnf
  obtain ⟨u, hu⟩ : ∃ u, u = orF 0 L := ⟨_, rfl⟩
  rw [← hu] at hs G1 hU ⊢
  generalize hG : TMap.push AB.dead (TMap.push AB.dead H1 _) _ = G
  have g0 : Heap.at G 0 = v.blk d.pr := by rw [← hG]; exact (at_push_lt _ _ (by rw [push_n]; omega)).trans ((at_push_lt _ _ (by omega)).trans G0)
  have g1 : Heap.at G 1 = .blk [.c (I (waitN d u 0 : Nat)), .c (I (waitN d u 1 : Nat)), .c (I (waitN d u 2 : Nat))] := by rw [← hG]; exact (at_push_lt _ _ (by rw [push_n]; omega)).trans ((at_push_lt _ _ (by omega)).trans G1)
  have g2 : Heap.at G 2 = leftB d u 0 := by rw [← hG, leftB_zero]; exact (at_push_lt _ _ (by rw [push_n]; omega)).trans (by rw [← G2]; exact at_push_self _ _)
  have g3 : Heap.at G 3 = lineB d u 0 := by rw [← hG, lineB_zero, show 3 = (TMap.push AB.dead H1 (.blk [.c (I 0), .c (I 0), .c (I 0)])).n by rw [push_n, G2]]; exact at_push_self _ _
  have gn : G.n = 4 := by rw [← hG, push_n, push_n, G2]
  clear hG G0 G1
  refine then_via (hm := false) (fun st => ∃ h : Heap, Heap.at h 0 = v.blk d.pr ∧ Heap.at h 1 = .blk [.c (I (waitN d u 0 : Nat)), .c (I (waitN d u 1 : Nat)), .c (I (waitN d u 2 : Nat))] ∧ Heap.at h 2 = leftB d u d.n ∧ Heap.at h 3 = lineB d u d.n ∧ 4 ≤ h.n ∧ Has st 261 [(1, .c (byW b)), (2, .ptr 0 0), (5, .c (nsC L)), (7, .c (I ((mostP d).f : Nat))), (8, .c (I ((mostP d).b : Nat))), (10, .ptr 1 0), (17, .ptr 2 0), (18, .ptr 3 0)] [] none h) ?_ ?_
  · skip
    conv => whnf
    refine ⟨_, g0, ?_⟩
    conv => whnf
    refine loop_by (I := fun z st => ∃ (q : Nat) (h : Heap), q ≤ d.n ∧ z = d.n - q ∧ Heap.at h 0 = v.blk d.pr ∧ Heap.at h 1 = .blk [.c (I (waitN d u 0 : Nat)), .c (I (waitN d u 1 : Nat)), .c (I (waitN d u 2 : Nat))] ∧ Heap.at h 2 = leftB d u q ∧ Heap.at h 3 = lineB d u q ∧ 4 ≤ h.n ∧ Has st 261 [(1, .c (byW b)), (2, .ptr 0 0), (5, .c (nsC L)), (7, .c (I ((mostP d).f : Nat))), (8, .c (I ((mostP d).b : Nat))), (10, .ptr 1 0), (12, .c (I u)), (17, .ptr 2 0), (18, .ptr 3 0), (152, .c (.sl v.fc v.fo v.fn)), (153, .c (I v.fn)), (154, .c (I q))] [] none h) ?_ (k := d.n)
      ⟨0, G, Nat.zero_le _, rfl, g0, g1, g2, g3, by omega, rfl, ⟨by rfl, by rfl, by rfl, by rfl, by rfl, by rfl, by rfl, by rw [G2]; rfl, by rw [push_n, G2]; rfl, rfl, rfl, rfl, trivial⟩, rfl, rfl, rfl, rfl⟩
    clear g0 g1 g2 g3 gn G hs
    have hfn := hv.fn
    rw [pr_len] at hfn
    have hn10 := hd.n10
    rintro z st ⟨q, h, hq, rfl, g0, g1, g2, g3, gn, hs⟩
    refine (hs.then ?_).1
    refine then_seq (hm := false) ?_
    conv => whnf
    cases hcq : decide ((q : Int) < (v.fn : Int))
    case false =>
      have : q = d.n := by simp at hcq; omega
      subst this
      refine then_seq (hm := false) ?_
      conv => whnf
      exact ⟨h, g0, g1, g2, g3, gn, rfl, ⟨rfl, rfl, rfl, rfl, rfl, rfl, rfl, rfl, trivial⟩, rfl, rfl, rfl, rfl⟩
    have hq : q < d.n := by simp at hcq; omega
    obtain ⟨⟨xl, xh, xk⟩, hx⟩ := get_some (l := d.fl) (k := q) hq
    have hxp : d.pr.fl[q]? = some (xl, xh, (xk : Int)) := by show (d.fl.map _)[q]? = _; rw [List.getElem?_map, hx]; rfl
    have hln : d.ln q = xk := by unfold Pn.ln; rw [hx]
    have hxk := (hd.f _ (List.mem_of_getElem? hx)).2.2.2.2
    dsimp only at hxk
    refine then_seq (hm := false) ?_
    conv => whnf
    refine then_left (then_block ?_)
    refine then_seq (hm := false) ?_
    conv => whnf
    refine ⟨⟨by omega, by omega⟩, ?_⟩
    conv => whnf
    refine ⟨_, hv.fleece hxp, ?_⟩
    conv => whnf
    refine ⟨_, at_push_self _ _, ?_⟩
    conv => whnf
    generalize hH2 : TMap.set AB.dead (TMap.push AB.dead h _) _ _ = H2
    have d0 : Heap.at H2 0 = v.blk d.pr := by rw [← hH2]; exact (at_old _ _ _ (by omega)).trans g0
    have d1 := (congrArg (Heap.at · 1) hH2.symm).trans ((at_old _ _ _ (i := 1) (by omega)).trans g1)
    have d2 : Heap.at H2 2 = leftB d u q := by rw [← hH2]; exact (at_old _ _ _ (by omega)).trans g2
    have d3 : Heap.at H2 3 = lineB d u q := by rw [← hH2]; exact (at_old _ _ _ (by omega)).trans g3
    have d4 : Heap.at H2 h.n = .blk [.c (I xl), .c (I xh), .c (I (xk : Nat))] := by rw [← hH2]; exact at_new _ _ _
    have dn : H2.n = h.n + 1 := by rw [← hH2, TMap.set_n, push_n]
    clear hH2 g0 g1 g2 g3
    refine then_seq (hm := false) ?_
    conv => whnf
    refine ⟨by omega, _, shr_nat u q (by omega), ?_⟩
    conv => whnf
    refine ⟨_, and_nat (a := u >>> q) (b := 1) (by have := Nat.shiftRight_le u q; omega) (by omega), ?_⟩
    conv => whnf
    rw [bit_nat0]
    refine then_at (hm := false) (fun st => ∃ h : Heap, Heap.at h 0 = v.blk d.pr ∧ Heap.at h 1 = .blk [.c (I (waitN d u 0 : Nat)), .c (I (waitN d u 1 : Nat)), .c (I (waitN d u 2 : Nat))] ∧ Heap.at h 2 = leftB d u (q + 1) ∧ Heap.at h 3 = lineB d u (q + 1) ∧ 4 ≤ h.n ∧ Has st 261 [(1, .c (byW b)), (2, .ptr 0 0), (5, .c (nsC L)), (7, .c (I ((mostP d).f : Nat))), (8, .c (I ((mostP d).b : Nat))), (10, .ptr 1 0), (12, .c (I u)), (17, .ptr 2 0), (18, .ptr 3 0), (152, .c (.sl v.fc v.fo v.fn)), (153, .c (I v.fn)), (154, .c (I q))] [] none h) ?_ ?_
    · skip
      cases hbit : u.testBit q
      case true =>
        conv => whnf
        have e1 : ∀ l, restQ d u (q + 1) l = restQ d u q l := fun l => by rw [rest_next, if_neg (by rw [hbit]; simp)]
        refine ⟨H2, d0, d1, by unfold leftB at d2 ⊢; rw [e1, e1, e1]; exact d2, by unfold lineB at d3 ⊢; rw [e1, e1, e1]; exact d3, by omega, rfl, ⟨rfl, rfl, rfl, rfl, rfl, rfl, rfl, rfl, rfl, rfl, rfl, rfl, trivial⟩, rfl, rfl, rfl, rfl⟩
      have e1 : ∀ l, restQ d u (q + 1) l = if l = xk then restQ d u q l ||| 2 ^ q else restQ d u q l := fun l => by rw [rest_next, hln, hbit]; simp
      have e2 : ∀ l, popN (restQ d u (q + 1) l) = if l = xk then popN (restQ d u q l) + 1 else popN (restQ d u q l) := fun l => by rw [rest_pop (by omega), hln, hbit]; simp
      have ple : ∀ l, popN (restQ d u q l) ≤ 10 := fun l => pop_le _
      unfold leftB at d2
      rcases (show xk = 0 ∨ xk = 1 ∨ xk = 2 by omega) with rfl | rfl | rfl
      · skip
        have pk := ple 0
        conv => whnf
        refine ⟨_, d4, ?_⟩
        conv => whnf
        refine ⟨⟨by decide, by omega, by omega⟩, ?_⟩
        conv => whnf
        refine ⟨_, d2, ?_⟩
        conv => whnf
        refine ⟨((popN (restQ d u q 0) + 1 : Nat) : Int), by rw [wrap_eq (by omega) (by omega)]; omega, ?_⟩
        conv => whnf
        refine ⟨⟨by decide, by omega, by omega⟩, ?_⟩
        conv => whnf
        refine ⟨_, d2, ?_⟩
        conv => whnf
        generalize hK : TMap.set AB.dead H2 2 _ = K
        have k0 : Heap.at K 0 = v.blk d.pr := by rw [← hK]; exact (at_set_ne _ _ (by omega)).trans d0
        have k1 := (congrArg (Heap.at · 1) hK.symm).trans ((at_set_ne _ _ (i := 1) (k := 2) (by omega)).trans d1)
        have k2 := (congrArg (Heap.at · 2) hK.symm).trans (at_set_self _ _ (i := 2) (by omega))
        have k3 : Heap.at K 3 = lineB d u q := by rw [← hK]; exact (at_set_ne _ _ (by omega)).trans d3
        have k4 := (congrArg (Heap.at · h.n) hK.symm).trans ((at_set_ne _ _ (i := h.n) (k := 2) (by omega)).trans d4)
        have kn : K.n = h.n + 1 := by rw [← hK, TMap.set_n]; exact dn
        clear hK
        unfold lineB at k3
        refine draw_by (hm := false) (by kernel_rfl) (by kernel_rfl) ?_
        conv => whnf
        refine ⟨_, k4, ?_⟩
        conv => whnf
        refine ⟨⟨by decide, by omega, by omega⟩, ?_⟩
        conv => whnf
        refine ⟨_, k3, ?_⟩
        conv => whnf
        have rl := rest_lt (d := d) (u := u) (q := q) (l := 0)
        have pq : 2 ^ q ≤ 2 ^ 9 := Nat.pow_le_pow_right (by omega) (by omega)
        refine ⟨by omega, _, shl_one q (by omega), ?_⟩
        conv => whnf
        refine ⟨_, or_nat (a := restQ d u q 0) (b := 2 ^ q) (by omega) (by omega), ?_⟩
        conv => whnf
        refine ⟨⟨by decide, by omega, by omega⟩, ?_⟩
        conv => whnf
        refine ⟨_, k3, ?_⟩
        conv => whnf
        refine ⟨(show 3 < K.n by omega), ?_⟩
        conv => whnf
        refine ⟨by kernel_rfl, ?_⟩
        conv => whnf
        generalize hM : TMap.set AB.dead K 3 _ = M
        have m0 : Heap.at M 0 = v.blk d.pr := by rw [← hM]; exact (at_set_ne _ _ (by omega)).trans k0
        have m1 := (congrArg (Heap.at · 1) hM.symm).trans ((at_set_ne _ _ (i := 1) (k := 3) (by omega)).trans k1)
        have m2 := (congrArg (Heap.at · 2) hM.symm).trans ((at_set_ne _ _ (i := 2) (k := 3) (by omega)).trans k2)
        have m3 := (congrArg (Heap.at · 3) hM.symm).trans (at_set_self _ _ (i := 3) (by omega))
        have mn : 4 ≤ M.n := by rw [← hM, TMap.set_n]; omega
        clear hM
        refine ⟨M, m0, m1, ?_, ?_, mn, rfl, ⟨rfl, rfl, rfl, rfl, rfl, rfl, rfl, rfl, rfl, rfl, rfl, rfl, trivial⟩, rfl, rfl, rfl, rfl⟩
        · unfold leftB; rw [e2, e2, e2]; exact m2
        · unfold lineB; rw [e1, e1, e1]; exact m3
      · skip
        have pk := ple 1
        conv => whnf
        refine ⟨_, d4, ?_⟩
        conv => whnf
        refine ⟨⟨by decide, by omega, by omega⟩, ?_⟩
        conv => whnf
        refine ⟨_, d2, ?_⟩
        conv => whnf
        refine ⟨((popN (restQ d u q 1) + 1 : Nat) : Int), by rw [wrap_eq (by omega) (by omega)]; omega, ?_⟩
        conv => whnf
        refine ⟨⟨by decide, by omega, by omega⟩, ?_⟩
        conv => whnf
        refine ⟨_, d2, ?_⟩
        conv => whnf
        generalize hK : TMap.set AB.dead H2 2 _ = K
        have k0 : Heap.at K 0 = v.blk d.pr := by rw [← hK]; exact (at_set_ne _ _ (by omega)).trans d0
        have k1 := (congrArg (Heap.at · 1) hK.symm).trans ((at_set_ne _ _ (i := 1) (k := 2) (by omega)).trans d1)
        have k2 := (congrArg (Heap.at · 2) hK.symm).trans (at_set_self _ _ (i := 2) (by omega))
        have k3 : Heap.at K 3 = lineB d u q := by rw [← hK]; exact (at_set_ne _ _ (by omega)).trans d3
        have k4 := (congrArg (Heap.at · h.n) hK.symm).trans ((at_set_ne _ _ (i := h.n) (k := 2) (by omega)).trans d4)
        have kn : K.n = h.n + 1 := by rw [← hK, TMap.set_n]; exact dn
        clear hK
        unfold lineB at k3
        refine draw_by (hm := false) (by kernel_rfl) (by kernel_rfl) ?_
        conv => whnf
        refine ⟨_, k4, ?_⟩
        conv => whnf
        refine ⟨⟨by decide, by omega, by omega⟩, ?_⟩
        conv => whnf
        refine ⟨_, k3, ?_⟩
        conv => whnf
        have rl := rest_lt (d := d) (u := u) (q := q) (l := 1)
        have pq : 2 ^ q ≤ 2 ^ 9 := Nat.pow_le_pow_right (by omega) (by omega)
        refine ⟨by omega, _, shl_one q (by omega), ?_⟩
        conv => whnf
        refine ⟨_, or_nat (a := restQ d u q 1) (b := 2 ^ q) (by omega) (by omega), ?_⟩
        conv => whnf
        refine ⟨⟨by decide, by omega, by omega⟩, ?_⟩
        conv => whnf
        refine ⟨_, k3, ?_⟩
        conv => whnf
        refine ⟨(show 3 < K.n by omega), ?_⟩
        conv => whnf
        refine ⟨by kernel_rfl, ?_⟩
        conv => whnf
        generalize hM : TMap.set AB.dead K 3 _ = M
        have m0 : Heap.at M 0 = v.blk d.pr := by rw [← hM]; exact (at_set_ne _ _ (by omega)).trans k0
        have m1 := (congrArg (Heap.at · 1) hM.symm).trans ((at_set_ne _ _ (i := 1) (k := 3) (by omega)).trans k1)
        have m2 := (congrArg (Heap.at · 2) hM.symm).trans ((at_set_ne _ _ (i := 2) (k := 3) (by omega)).trans k2)
        have m3 := (congrArg (Heap.at · 3) hM.symm).trans (at_set_self _ _ (i := 3) (by omega))
        have mn : 4 ≤ M.n := by rw [← hM, TMap.set_n]; omega
        clear hM
        refine ⟨M, m0, m1, ?_, ?_, mn, rfl, ⟨rfl, rfl, rfl, rfl, rfl, rfl, rfl, rfl, rfl, rfl, rfl, rfl, trivial⟩, rfl, rfl, rfl, rfl⟩
        · unfold leftB; rw [e2, e2, e2]; exact m2
        · unfold lineB; rw [e1, e1, e1]; exact m3
      · skip
        have pk := ple 2
        conv => whnf
        refine ⟨_, d4, ?_⟩
        conv => whnf
        refine ⟨⟨by decide, by omega, by omega⟩, ?_⟩
        conv => whnf
        refine ⟨_, d2, ?_⟩
        conv => whnf
        refine ⟨((popN (restQ d u q 2) + 1 : Nat) : Int), by rw [wrap_eq (by omega) (by omega)]; omega, ?_⟩
        conv => whnf
        refine ⟨⟨by decide, by omega, by omega⟩, ?_⟩
        conv => whnf
        refine ⟨_, d2, ?_⟩
        conv => whnf
        generalize hK : TMap.set AB.dead H2 2 _ = K
        have k0 : Heap.at K 0 = v.blk d.pr := by rw [← hK]; exact (at_set_ne _ _ (by omega)).trans d0
        have k1 := (congrArg (Heap.at · 1) hK.symm).trans ((at_set_ne _ _ (i := 1) (k := 2) (by omega)).trans d1)
        have k2 := (congrArg (Heap.at · 2) hK.symm).trans (at_set_self _ _ (i := 2) (by omega))
        have k3 : Heap.at K 3 = lineB d u q := by rw [← hK]; exact (at_set_ne _ _ (by omega)).trans d3
        have k4 := (congrArg (Heap.at · h.n) hK.symm).trans ((at_set_ne _ _ (i := h.n) (k := 2) (by omega)).trans d4)
        have kn : K.n = h.n + 1 := by rw [← hK, TMap.set_n]; exact dn
        clear hK
        unfold lineB at k3
        refine draw_by (hm := false) (by kernel_rfl) (by kernel_rfl) ?_
        conv => whnf
        refine ⟨_, k4, ?_⟩
        conv => whnf
        refine ⟨⟨by decide, by omega, by omega⟩, ?_⟩
        conv => whnf
        refine ⟨_, k3, ?_⟩
        conv => whnf
        have rl := rest_lt (d := d) (u := u) (q := q) (l := 2)
        have pq : 2 ^ q ≤ 2 ^ 9 := Nat.pow_le_pow_right (by omega) (by omega)
        refine ⟨by omega, _, shl_one q (by omega), ?_⟩
        conv => whnf
        refine ⟨_, or_nat (a := restQ d u q 2) (b := 2 ^ q) (by omega) (by omega), ?_⟩
        conv => whnf
        refine ⟨⟨by decide, by omega, by omega⟩, ?_⟩
        conv => whnf
        refine ⟨_, k3, ?_⟩
        conv => whnf
        refine ⟨(show 3 < K.n by omega), ?_⟩
        conv => whnf
        refine ⟨by kernel_rfl, ?_⟩
        conv => whnf
        generalize hM : TMap.set AB.dead K 3 _ = M
        have m0 : Heap.at M 0 = v.blk d.pr := by rw [← hM]; exact (at_set_ne _ _ (by omega)).trans k0
        have m1 := (congrArg (Heap.at · 1) hM.symm).trans ((at_set_ne _ _ (i := 1) (k := 3) (by omega)).trans k1)
        have m2 := (congrArg (Heap.at · 2) hM.symm).trans ((at_set_ne _ _ (i := 2) (k := 3) (by omega)).trans k2)
        have m3 := (congrArg (Heap.at · 3) hM.symm).trans (at_set_self _ _ (i := 3) (by omega))
        have mn : 4 ≤ M.n := by rw [← hM, TMap.set_n]; omega
        clear hM
        refine ⟨M, m0, m1, ?_, ?_, mn, rfl, ⟨rfl, rfl, rfl, rfl, rfl, rfl, rfl, rfl, rfl, rfl, rfl, rfl, trivial⟩, rfl, rfl, rfl, rfl⟩
        · unfold leftB; rw [e2, e2, e2]; exact m2
        · unfold lineB; rw [e1, e1, e1]; exact m3
    rintro s1 ⟨h', g0, g1, g2, g3, gn', hs'⟩
    show Then Tryz.prog _ s1 _
    refine hs'.then ?_
    refine then_end (hm := false) ?_
    conv => whnf
    refine ⟨((q + 1 : Nat) : Int), by rw [wrap_eq (by omega) (by omega)]; omega, ?_⟩
    conv => whnf
    exact ⟨d.n - (q + 1), by omega, q + 1, h', by omega, rfl, g0, g1, g2, g3, gn', rfl, ⟨rfl, rfl, rfl, rfl, rfl, rfl, rfl, rfl, rfl, rfl, rfl, rfl, trivial⟩, rfl, rfl, rfl, rfl⟩
  clear g0 g1 g2 g3 gn G hs hfx hadj hdis huse
  rintro st ⟨h, g0, g1, g2, g3, gn, hs⟩
  refine hs.then ?_
  have wrest : ∀ l, waitN d u l = popN (restQ d u d.n l) := fun l => rfl
  unfold leftB at g2
  rw [← wrest, ← wrest, ← wrest] at g2
  unfold lineB at g3
  have hwl : ∀ l, restQ d u d.n l < 2 ^ d.n := fun l => rest_lt
  have hwf : ∀ l, ((mostP d).b : Int) < d.bales → fitsP d (restQ d u d.n l) = false := fun l hlt => wait_fits hd hc (by omega) (line_sub d l u) (by rw [hLd, ← hu]; exact line_apart d l u)
  generalize restQ d u d.n = R at g3 hwl hwf
  generalize waitN d u = wt at g1 g2
  clear wrest
  refine then_seq (hm := false) ?_
  conv => whnf
  refine ⟨_, g1, ?_⟩
  conv => whnf
  refine ⟨_, g2, ?_⟩
  conv => whnf
  refine ⟨_, arr_neq (a := ((wt 0 : Nat) : Int)) (b := ((wt 1 : Nat) : Int)) (c := ((wt 2 : Nat) : Int)) rfl rfl rfl _ _, ?_⟩
  conv => whnf
  refine then_via (hm := false) (fun st => Has st 261 [(1, .c (byW b)), (2, .ptr 0 0), (5, .c (nsC L)), (7, .c (I ((mostP d).f : Nat))), (8, .c (I ((mostP d).b : Nat)))] [] none h) ?_ ?_
  · skip
    conv => whnf
    refine ⟨_, g3, ?_⟩
    conv => whnf
    refine loop_by (I := fun z st => ∃ (q : Nat), q ≤ 3 ∧ z = 3 - q ∧ Has st 261 [(1, .c (byW b)), (2, .ptr 0 0), (5, .c (nsC L)), (7, .c (I ((mostP d).f : Nat))), (8, .c (I ((mostP d).b : Nat))), (182, .c (.agg [I (R 0 : Nat), I (R 1 : Nat), I (R 2 : Nat)])), (183, .c (I q))] [] none h) ?_ (k := 3)
      ⟨0, by omega, rfl, rfl, ⟨rfl, rfl, rfl, rfl, rfl, rfl, rfl, trivial⟩, rfl, rfl, rfl, rfl⟩
    clear hs g1 g2 g3
    rintro z st ⟨q, hq, rfl, hs⟩
    refine (hs.then ?_).1
    refine then_seq (hm := false) ?_
    conv => whnf
    cases hcq : decide ((q : Int) < 3)
    case false =>
      refine then_seq (hm := false) ?_
      conv => whnf
      exact ⟨rfl, ⟨rfl, rfl, rfl, rfl, rfl, trivial⟩, rfl, rfl, rfl, rfl⟩
    have hq : q < 3 := by simp at hcq; omega
    refine then_seq (hm := false) ?_
    conv => whnf
    refine then_left (then_block ?_)
    have hw1 := hwl q
    have hw2 := hF _ hw1
    have hw3 := hwf q
    refine then_via (hm := false) (fun st => Has st 261 [(1, .c (byW b)), (2, .ptr 0 0), (5, .c (nsC L)), (7, .c (I ((mostP d).f : Nat))), (8, .c (I ((mostP d).b : Nat))), (22, .c (I (R q : Nat))), (182, .c (.agg [I (R 0 : Nat), I (R 1 : Nat), I (R 2 : Nat)])), (183, .c (I q))] [] none h) ?_ ?_
    · skip
      rcases (show q = 0 ∨ q = 1 ∨ q = 2 by omega) with rfl | rfl | rfl
      all_goals
        conv => whnf
        exact ⟨rfl, ⟨rfl, rfl, rfl, rfl, rfl, rfl, rfl, rfl, trivial⟩, rfl, rfl, rfl, rfl⟩
    rintro s1 hs'
    refine hs'.then ?_
    refine then_seq (hm := false) ?_
    conv => whnf
    refine ⟨_, g0, ?_⟩
    conv => whnf
    refine .ret (hw2) rfl ?_
    conv => whnf
    refine then_at (hm := false) (fun st => Has st 261 [(1, .c (byW b)), (2, .ptr 0 0), (5, .c (nsC L)), (7, .c (I ((mostP d).f : Nat))), (8, .c (I ((mostP d).b : Nat))), (182, .c (.agg [I (R 0 : Nat), I (R 1 : Nat), I (R 2 : Nat)])), (183, .c (I q))] [] none h) ?_ ?_
    · skip
      conv => whnf
      cases h2 : (sureN (fitsP d (R q)) (meetsP d (R q)) == 2)
      · conv => whnf
        exact ⟨rfl, ⟨rfl, rfl, rfl, rfl, rfl, rfl, rfl, trivial⟩, rfl, rfl, rfl, rfl⟩
      have hfs := sure_two.1 (beq_iff_eq.1 h2)
      have hnb : ¬ ((mostP d).b : Int) < d.bales := fun hlt => by rw [hw3 hlt] at hfs; cases hfs
      conv => whnf
      refine ⟨_, g0, ?_⟩
      conv => whnf
      rw [show decide ((((mostP d).b : Nat) : Int) < d.pr.bales) = false from decide_eq_false hnb]
      conv => whnf
      exact ⟨rfl, ⟨rfl, rfl, rfl, rfl, rfl, rfl, rfl, trivial⟩, rfl, rfl, rfl, rfl⟩
    rintro s1 hs'
    show Then Tryz.prog _ s1 _
    refine hs'.then ?_
    refine then_end (hm := false) ?_
    conv => whnf
    refine ⟨((q + 1 : Nat) : Int), by rw [wrap_eq (by omega) (by omega)]; omega, ?_⟩
    conv => whnf
    exact ⟨3 - (q + 1), by omega, q + 1, by omega, rfl, rfl, ⟨rfl, rfl, rfl, rfl, rfl, rfl, rfl, trivial⟩, rfl, rfl, rfl, rfl⟩
  clear hs
  rintro st hs
  refine hs.then ?_
  obtain ⟨O, hO, okO⟩ := pressing_ex hv hd hok hc hb
  have hOlt : ∀ x ∈ O, x < 1024 := fun x hx => by
    have := (okL_mem okO x hx).1.lt (n := d.n) (by omega)
    omega
  have hOlen := okL_len okO
  have hP := pressed_ret O hOlt (by omega)
  have hge := (most_ge (fitsP d) h0f (2 ^ d.n - 1) (Nat.le_refl _) (by omega) okO).1
  have hge : (mostP d).ge (valL O) := hge
  have hvb := val_b O
  have hleast : valL O = mostP d → ∀ (i x y : Nat), (∀ j, j < i → L[j]? = O[j]?) → L[i]? = some x → O[i]? = some y → x ≤ y := fun he => by
    have := plan_least h0f d.bales (2 ^ d.n - 1) O (by omega) okO he
    rw [← hLd]
    exact this
  unfold Pd.ge at hge
  generalize hVO : valL O = VO at *
  generalize hMP : mostP d = MP at *
  refine then_seq (hm := false) ?_
  conv => whnf
  refine ⟨_, g0, ?_⟩
  conv => whnf
  refine .ret (hO) rfl ?_
  conv => whnf
  refine then_seq (hm := false) ?_
  conv => whnf
  refine .ret (hP) rfl ?_
  conv => whnf
  refine then_via (hm := false) (fun st => Has st 261 [(5, .c (nsC L)), (7, .c (I (MP.f : Nat))), (8, .c (I (MP.b : Nat))), (25, .c (nsC O)), (26, .c (I (VO.f : Nat)))] [] none h) ?_ ?_
  · skip
    conv => whnf
    rw [show decide (((VO.f : Nat) : Int) > ((MP.f : Nat) : Int)) = false from decide_eq_false (by omega)]
    conv => whnf
    cases he : (((VO.f : Nat) : Int) == ((MP.f : Nat) : Int))
    · conv => whnf
      exact ⟨rfl, ⟨rfl, rfl, rfl, rfl, rfl, trivial⟩, rfl, rfl, rfl, rfl⟩
    have he := beq_iff_eq.1 he
    conv => whnf
    rw [show decide (((O.length : Nat) : Int) < ((MP.b : Nat) : Int)) = false from decide_eq_false (by omega)]
    conv => whnf
    exact ⟨rfl, ⟨rfl, rfl, rfl, rfl, rfl, trivial⟩, rfl, rfl, rfl, rfl⟩
  clear hs
  rintro st hs
  refine hs.then ?_
  refine then_via (hm := false) (fun st => Has st 261 [] [] none h) ?_ ?_
  · skip
    conv => whnf
    cases he : (((VO.f : Nat) : Int) == ((MP.f : Nat) : Int))
    · conv => whnf
      exact ⟨rfl, trivial, rfl, rfl, rfl, rfl⟩
    have he := beq_iff_eq.1 he
    conv => whnf
    cases hb' : (((O.length : Nat) : Int) == ((MP.b : Nat) : Int))
    · conv => whnf
      exact ⟨rfl, trivial, rfl, rfl, rfl, rfl⟩
    have hb' := beq_iff_eq.1 hb'
    have hlo : L.length = O.length := by omega
    have hleast := hleast (by cases VO; cases MP; simp only [Pd.mk.injEq]; dsimp only at he hvb hb'; omega)
    conv => whnf
    refine loop_by (I := fun z st => ∃ (q : Nat), q ≤ L.length ∧ z = L.length - q ∧ (∀ j, j < q → L[j]? = O[j]?) ∧ Has st 261 [(5, .c (nsC L)), (25, .c (nsC O)), (234, .c (I L.length)), (235, .c (I q))] [] none h) ?_ (k := L.length)
      ⟨0, Nat.zero_le _, rfl, (fun j hj => by omega), rfl, ⟨rfl, rfl, rfl, rfl, trivial⟩, rfl, rfl, rfl, rfl⟩
    clear hs
    rintro z st ⟨q, hq, rfl, hsame, hs⟩
    refine (hs.then ?_).1
    refine then_seq (hm := false) ?_
    conv => whnf
    cases hcq : decide ((q : Int) < (L.length : Int))
    case false =>
      refine then_seq (hm := false) ?_
      conv => whnf
      exact ⟨rfl, trivial, rfl, rfl, rfl, rfl⟩
    have hq : q < L.length := by simp at hcq; omega
    obtain ⟨x, hx⟩ := get_some hq
    obtain ⟨y, hy⟩ := get_some (l := O) (k := q) (by omega)
    have hxy := hleast q x y hsame hx hy
    refine then_seq (hm := false) ?_
    conv => whnf
    refine then_left (then_block ?_)
    refine then_seq (hm := false) ?_
    conv => whnf
    refine then_seq (hm := false) ?_
    refine draw_by (hm := false) (by kernel_rfl) (by kernel_rfl) ?_
    conv => whnf
    refine ⟨⟨by omega, by omega⟩, ?_⟩
    conv => whnf
    refine ⟨_, ns_get hx, ?_⟩
    conv => whnf
    refine ⟨⟨by omega, by omega⟩, ?_⟩
    conv => whnf
    refine ⟨_, ns_get hy, ?_⟩
    conv => whnf
    refine ⟨by kernel_rfl, ?_⟩
    conv => whnf
    refine then_at (hm := false) (fun st => x = y ∧ Has st 261 [(5, .c (nsC L)), (25, .c (nsC O)), (234, .c (I L.length)), (235, .c (I q))] [] none h) ?_ ?_
    · skip
      conv => whnf
      cases hne : (((x : Nat) : Int) != ((y : Nat) : Int))
      · have : x = y := by simp at hne; omega
        conv => whnf
        exact ⟨this, rfl, ⟨rfl, rfl, rfl, rfl, trivial⟩, rfl, rfl, rfl, rfl⟩
      have hne : x ≠ y := by intro e; simp [e] at hne
      conv => whnf
      refine draw_by (hm := false) (by kernel_rfl) (by kernel_rfl) ?_
      conv => whnf
      refine ⟨⟨by omega, by omega⟩, ?_⟩
      conv => whnf
      refine ⟨_, ns_get hx, ?_⟩
      conv => whnf
      refine ⟨⟨by omega, by omega⟩, ?_⟩
      conv => whnf
      refine ⟨_, ns_get hy, ?_⟩
      conv => whnf
      rw [show decide (((x : Nat) : Int) < ((y : Nat) : Int)) = true from decide_eq_true (by omega)]
      conv => whnf
      refine .pure _ _ rfl (hal) ?_
      conv => whnf
      refine ⟨by kernel_rfl, ?_⟩
      conv => whnf
      exact .val
    rintro s1 ⟨hxy', hs'⟩
    show Then Tryz.prog _ s1 _
    refine hs'.then ?_
    refine then_end (hm := false) ?_
    conv => whnf
    refine ⟨((q + 1 : Nat) : Int), by rw [wrap_eq (by omega) (by omega)]; omega, ?_⟩
    conv => whnf
    refine ⟨L.length - (q + 1), by omega, q + 1, by omega, rfl, fun j hj => ?_, rfl, ⟨rfl, rfl, rfl, rfl, trivial⟩, rfl, rfl, rfl, rfl⟩
    rcases Nat.lt_or_ge j q with h | h
    · exact hsame j h
    · obtain rfl : j = q := by omega
      rw [hx, hy, hxy']
  clear hs
  rintro st hs
  refine hs.then ?_
  refine then_end (hm := false) ?_
  conv => whnf
  refine .ret (hal) rfl ?_
  conv => whnf
  exact .val
theorem planLaw_any {v : PV} {c : Pr} (h : v.IsL c) (b : By) (hb : b.ok) : Ret Tryz.prog 9 [v.cv c, byW b] (B true) := by
  rcases IsL.cases h with hs | hs
  · cases hf : farB c
    · cases hok : okPr c
      · exact planLaw_no (by have := fine_ret hs; rw [hf, hok] at this; exact this) _
      · obtain ⟨d, rfl, hd⟩ := good_of hok
        cases hc : canP d
        · exact planLaw_clash hs hd hok hf hc _
        · exact planLaw_ok hs hd hok hf hc hb
    · exact planLaw_no (fine_far h hf) _
  · exact planLaw_no (fine_far h hs) _
end Go.Ag
