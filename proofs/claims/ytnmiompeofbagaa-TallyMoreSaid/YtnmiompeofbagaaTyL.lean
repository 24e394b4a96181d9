/- The law TallyMore returns true for arguments that are not far too long. No conditions. -/
import Derived.Test.YtnmiompeofbagaaTyK
/- Layer 5: the law TallyMore. -/
namespace Go.Ag
open Go.Proofs
set_option maxRecDepth 100000

theorem copy_app {sz : Nat} {rows : List (List CV)} {cells : List CV} {off len : Nat} (Q : SlOf sz rows cells off len) (hr : ∀ r ∈ rows, r.length = sz) (hc : (rows.flatten.map AV.c).all AV.cellish = true) {h : Heap} {t elem : TypeId} (ht : Try.prog.underlying t = some (.slice elem)) (hs : slicePart Try.prog elem = some sz) (hl : rows.length ≤ limit) :
    ∃ rr o', aappend Try.prog (atF (h.push .dead (.blk []))) (h.n + 1) #[t, t] (.msl h.n sz 0 0 0) (.c (.sl cells off len)) = some rr ∧ rr.val = .msl o' sz 0 len len ∧ Heap.at (after (h.push .dead (.blk [])) rr) o' = .blk (rows.flatten.map .c) ∧ h.n ≤ o' ∧ o' < (after (h.push .dead (.blk [])) rr).n ∧
      (∀ i, i < h.n → Heap.at (after (h.push .dead (.blk [])) rr) i = Heap.at h i) ∧ rr.upds.all (fun p => decide (p.1 < h.n + 1)) = true ∧
      ((rr.reads = [] ∧ rr.upds = [] ∧ rr.fresh = none ∧ (after (h.push .dead (.blk [])) rr).n = h.n + 1) ∨ (rr.reads = [h.n] ∧ rr.upds = [(h.n, .dead)] ∧ (∃ b, rr.fresh = some b) ∧ (after (h.push .dead (.blk [])) rr).n = h.n + 2)) := by
  rw [atF_eq]
  have hf := Q.first hr (Heap.at (h.push .dead (.blk [])))
  have hlen := Q.len
  by_cases h0 : rows = []
  · subst h0
    have hl0 : len = 0 := hlen
    subst hl0
    refine ⟨_, h.n, append_none rfl rfl ht ht rfl hs hf, rfl, ?_, Nat.le_refl _, ?_, fun i hi => ?_, rfl, .inl ⟨rfl, rfl, rfl, rfl⟩⟩
    · exact at_push_self _ _
    · exact Nat.lt_succ_self _
    · exact at_push_lt _ _ hi
  · have hn0 : rows.length ≠ 0 := fun e => h0 (List.length_eq_zero_iff.1 e)
    refine ⟨_, h.n + 1, append_grow (cells := []) rfl rfl ht ht rfl hs hf hc hn0 (by omega) (at_push_self _ _) (by simp), by rw [hlen, Nat.zero_add], ?_, by omega, ?_, fun i hi => ?_, by rw [List.all_cons, List.all_nil, Bool.and_true]; exact decide_eq_true (Nat.lt_succ_self _), .inr ⟨rfl, rfl, ⟨_, rfl⟩, rfl⟩⟩
    · exact (at_push_self _ _).trans (by rw [List.nil_append])
    · show h.n + 1 < ((h.push .dead (.blk [])).set .dead h.n .dead).n + 1
      rw [TMap.set_n, push_n]; omega
    · have hn : ((h.push .dead (.blk [])).set .dead h.n .dead).n = h.n + 1 := by rw [TMap.set_n, push_n]
      exact (at_push_lt _ _ (show i < ((h.push .dead (.blk [])).set .dead h.n .dead).n by omega)).trans ((at_set_ne _ _ (by omega)).trans (at_push_lt _ _ hi))
theorem rowCl_cell (l : List Cl) : ((l.map rowCl).flatten.map AV.c).all AV.cellish = true := by
  rw [List.all_eq_true]
  intro x hx
  obtain ⟨c0, h0, rfl⟩ := List.mem_map.1 hx
  obtain ⟨r, hr, hcr⟩ := List.mem_flatten.1 h0
  obtain ⟨y, _, rfl⟩ := List.mem_map.1 hr
  simp only [rowCl, List.mem_cons, List.not_mem_nil, or_false] at hcr
  rcases hcr with rfl | rfl | rfl | rfl <;> rfl
theorem rowSp_cell (l : List (Int × Int)) : ((l.map rowSp).flatten.map AV.c).all AV.cellish = true := by
  rw [List.all_eq_true]
  intro x hx
  obtain ⟨c0, h0, rfl⟩ := List.mem_map.1 hx
  obtain ⟨r, hr, hcr⟩ := List.mem_flatten.1 h0
  obtain ⟨y, _, rfl⟩ := List.mem_map.1 hr
  simp only [rowSp, List.mem_cons, List.not_mem_nil, or_false] at hcr
  rcases hcr with rfl | rfl <;> rfl
theorem cl_get {l : List Cl} {q : Nat} {c : Cl} (h : l[q]? = some c) {j : Nat} (hj : j < 4) : ((l.map rowCl).flatten)[q * 4 + j]? = (rowCl c)[j]? := by
  have h1 := flat_sl (sz := 4) (l.map rowCl) (rowCl_len l) q (rowCl c) (by rw [List.getElem?_map, h]; rfl)
  have h2 := sliceOf_get h1 hj
  rw [Nat.zero_add] at h2
  exact h2
theorem cl_set : ∀ (l : List Cl) (q : Nat) (c : Cl), l[q]? = some c → ((l.map rowCl).flatten.map AV.c).set (q * 4 + 3) (.c (I (max c.lo (c.hi - 1)))) = (((tightL l q).map rowCl).flatten.map AV.c)
  | [], _, _, h => by simp at h
  | a :: l, 0, c, h => by
    have : a = c := by simpa using h
    subst this
    rfl
  | a :: l, q + 1, c, h => by
    have ih := cl_set l q c (by simpa using h)
    have e : tightL (a :: l) (q + 1) = a :: tightL l q := by unfold tightL; simp
    rw [e, List.map_cons, List.map_cons, List.flatten_cons, List.flatten_cons, List.map_append, List.map_append, ← ih]
    have hl : ((rowCl a).map AV.c).length = 4 := rfl
    rw [List.set_append_right _ _ (by rw [hl]; omega), hl, show (q + 1) * 4 + 3 - 4 = q * 4 + 3 by omega]
set_option maxHeartbeats 32000000 in
theorem moreLaw_ret {v : TV} {t : Td} (h : v.IsS t) (hA : Ret Try.prog 12 [] (B true)) (c : Cl) (w1 : Nat) (hw1 : w1 < 256) : Ret Try.prog 10 [v.cv, clV c, .lit (.int .u8 w1)] (B true) := by
  have hv := h.toIs
  have e2 := hv.most; have e3 := hv.cn; have e4 := hv.sn
  refine ret_then (hm := true) Try.func10 rfl ?_
  conv => whnf
  repeat (refine then_seq (hm := true) ?_; conv => whnf)
  refine .ret h.far rfl ?_
  conv => whnf
  refine .ret (tallyR_ret hv) rfl ?_
  conv => whnf
  cases hd : validT t
  · conv => whnf
    refine .ret hA rfl ?_
    conv => whnf
    exact .val
  have h5 := valid_nums hd
  obtain ⟨N, hN⟩ : ∃ N : Nat, t.n = N := ⟨t.n.toNat, by omega⟩
  have e1 : v.n = (N : Int) := hv.n.trans hN
  obtain ⟨i, hi⟩ : ∃ i, i = w1 % N := ⟨_, rfl⟩
  have hiN : i < N := by rw [hi]; exact Nat.mod_lt _ (by omega)
  have hcel : (callsV v (t.calls ++ [c])).cn = t.calls.length + 1 := by simp [callsV]
  conv => whnf
  repeat (refine then_seq (hm := true) ?_; conv => whnf)
  refine ⟨by omega, ((i : Nat) : Int), by rw [e1, rem_nat hw1, hi], ?_⟩
  conv => whnf
  refine then_via (hm := true) (fun st => ∃ h : Heap, h.n = 5 ∧ Heap.at h 0 = v.blk ∧ Heap.at h 2 = (callsV v (t.calls ++ [c])).blk ∧ Heap.at h 3 = v.blk ∧ Heap.at h 4 = v.blk ∧
      Has st 411 [(2, .c (.lit (.int .u8 w1))), (3, .ptr 0 0), (6, .c (B false)), (7, .c (I v.n)), (8, .c (I i)), (9, .ptr 2 0), (10, .ptr 3 0), (11, .ptr 4 0)] [] none h) ?_ ?_
  · conv => whnf
    refine draw_by (hm := true) (by kernel_rfl) (by kernel_rfl) ?_
    conv => whnf
    refine .pure _ _ rfl (with_ret hv (by omega) c) ?_
    conv => whnf
    refine ⟨(show 2 < 5 by decide), ?_⟩
    conv => whnf
    refine ⟨(show 3 < 5 by decide), ?_⟩
    conv => whnf
    refine ⟨(show 4 < 5 by decide), ?_⟩
    conv => whnf
    refine ⟨by kernel_rfl, ?_⟩
    conv => whnf
    exact ⟨_, rfl, rfl, rfl, rfl, rfl, rfl, ⟨rfl, rfl, rfl, rfl, rfl, rfl, rfl, rfl, trivial⟩, rfl, rfl, rfl, rfl⟩
  rintro st ⟨h, hn, b0, b2, b3, b4, hs1⟩
  refine hs1.then ?_
  conv => whnf
  refine then_via (hm := false) (fun st => ∃ (h : Heap) (o : Nat), Heap.at h 0 = v.blk ∧ Heap.at h 2 = (callsV v (t.calls ++ [c])).blk ∧ Heap.at h 3 = blk4 v (.c (.sl v.sc v.so v.sn)) (.msl o 4 0 v.cn v.cn) ∧ Heap.at h 4 = v.blk ∧ Heap.at h o = .blk ((t.calls.map rowCl).flatten.map .c) ∧ 5 ≤ o ∧ o < h.n ∧
      Has st 411 [(2, .c (.lit (.int .u8 w1))), (3, .ptr 0 0), (6, .c (B false)), (7, .c (I v.n)), (8, .c (I i)), (9, .ptr 2 0), (10, .ptr 3 0), (11, .ptr 4 0)] [] none h) ?_ ?_
  · conv => whnf
    obtain ⟨rr, o, hrr, hval, hblk, ho1, ho2, hold, _, _⟩ := copy_app (h := h) hv.c (rowCl_len t.calls) (rowCl_cell t.calls) U23 S46 (by rw [List.length_map]; unfold limit; omega)
    refine ⟨_, (at_push_lt _ _ (by omega)).trans b0, ?_⟩
    conv => whnf
    obtain ⟨rv, rreads, rupds, rfresh⟩ := rr
    simp only at hval
    subst hval
    refine ⟨_, hrr, ?_⟩
    conv => whnf
    refine ⟨_, (hold 3 (by omega)).trans b3, ?_⟩
    conv => whnf
    refine ⟨_, o, (at_set_ne _ _ (by decide)).trans ((hold 0 (by omega)).trans b0), (at_set_ne _ _ (by decide)).trans ((hold 2 (by omega)).trans b2), at_set_self _ _ (by omega), (at_set_ne _ _ (by decide)).trans ((hold 4 (by omega)).trans b4), (at_set_ne _ _ (by omega)).trans hblk, by omega, by rw [TMap.set_n]; exact ho2, rfl, ⟨rfl, rfl, rfl, rfl, rfl, rfl, rfl, rfl, trivial⟩, rfl, rfl, rfl, rfl⟩
  rintro st ⟨h, o, b0, b2, b3, b4, bo, ho1, ho2, hs1⟩
  refine hs1.then ?_
  conv => whnf
  obtain ⟨q, hq⟩ : ∃ q, q = w1 % t.calls.length := ⟨_, rfl⟩
  refine then_via (hm := false) (fun st => ∃ (h : Heap), Heap.at h 0 = v.blk ∧ Heap.at h 2 = (callsV v (t.calls ++ [c])).blk ∧ Heap.at h 3 = blk4 v (.c (.sl v.sc v.so v.sn)) (.msl o 4 0 v.cn v.cn) ∧ Heap.at h 4 = v.blk ∧ Heap.at h o = .blk (((tightL t.calls q).map rowCl).flatten.map .c) ∧ o < h.n ∧
      Has st 411 [(2, .c (.lit (.int .u8 w1))), (3, .ptr 0 0), (6, .c (B false)), (7, .c (I v.n)), (8, .c (I i)), (9, .ptr 2 0), (10, .ptr 3 0), (11, .ptr 4 0)] [] none h) ?_ ?_
  · conv => whnf
    refine ⟨_, b3, ?_⟩
    conv => whnf
    cases hc : decide ((v.cn : Int) > 0)
    · have hnil : t.calls = [] := List.length_eq_zero_iff.1 (by simp at hc; omega)
      conv => whnf
      refine ⟨h, b0, b2, b3, b4, ?_, ho2, rfl, ⟨rfl, rfl, rfl, rfl, rfl, rfl, rfl, rfl, trivial⟩, rfl, rfl, rfl, rfl⟩
      rw [bo, hnil, show tightL [] q = [] by unfold tightL; simp]
    have hpos : 0 < t.calls.length := by simp at hc; omega
    have hql : q < t.calls.length := by rw [hq]; exact Nat.mod_lt _ hpos
    obtain ⟨l, hl⟩ := get_some hql
    have hlk := valid_call (validT_X hd) (List.mem_of_getElem? hl)
    have hsp : 0 ≤ l.lo ∧ l.lo ≤ l.hi ∧ l.hi ≤ 300 := by
      have hc := hlk
      unfold callOk at hc
      split at hc
      · simp only [inB', spB, Bool.and_eq_true, decide_eq_true_eq] at hc; omega
      · simp only [spB, Bool.and_eq_true, decide_eq_true_eq] at hc; omega
    conv => whnf
    refine draw_by (hm := false) (by kernel_rfl) (by kernel_rfl) ?_
    conv => whnf
    refine ⟨_, b3, ?_⟩
    conv => whnf
    refine ⟨_, b3, ?_⟩
    conv => whnf
    refine dplain_val (rem_to (q : Int) rfl rfl rfl (by omega) (by rw [wrap_u8 hw1, e3, tmod_nat, ← hq]) _ _) ?_
    conv => whnf
    refine ⟨⟨rfl, by omega, by omega⟩, ?_⟩
    conv => whnf
    refine ⟨by kernel_rfl, ?_⟩
    conv => whnf
    refine draw_by (hm := false) (by kernel_rfl) (by kernel_rfl) ?_
    conv => whnf
    have rLo : readVar Try.prog 3 ((t.calls.map rowCl).flatten.map AV.c) (0 + (q : Int).toNat * 4 + 2 + 0) = some (.c (I l.lo)) := readVar_map (by
      rw [rv3, show 0 + (q : Int).toNat * 4 + 2 + 0 = q * 4 + 2 by omega]; exact cl_get hl (by decide))
    have rHi : readVar Try.prog 3 ((t.calls.map rowCl).flatten.map AV.c) (0 + (q : Int).toNat * 4 + 2 + 1) = some (.c (I l.hi)) := readVar_map (by
      rw [rv3, show 0 + (q : Int).toNat * 4 + 2 + 1 = q * 4 + 3 by omega]; exact cl_get hl (by decide))
    have pHi : putAt ((t.calls.map rowCl).flatten.map AV.c) (0 + (q : Int).toNat * 4 + 2 + 1) [.c (I (max l.lo (l.hi - 1)))] = some (((tightL t.calls q).map rowCl).flatten.map AV.c) := by
      rw [show 0 + (q : Int).toNat * 4 + 2 + 1 = q * 4 + 3 by omega, put_one, cl_set _ _ _ hl]
      rw [List.length_map, flat_len _ (rowCl_len t.calls), List.length_map]; omega
    refine ⟨_, bo, look_read rLo ?_⟩
    conv => whnf
    refine ⟨_, bo, look_read rHi ?_⟩
    conv => whnf
    refine ⟨l.hi - 1, by rw [wrap_eq (by omega) (by omega)], ?_⟩
    conv => whnf
    refine ⟨_, bo, look_put pHi ?_⟩
    conv => whnf
    refine ⟨ho2, ?_⟩
    conv => whnf
    refine forceL_intro ?_
    conv => whnf
    refine ⟨by kernel_rfl, ?_⟩
    conv => whnf
    exact ⟨_, (at_set_ne _ _ (by omega)).trans b0, (at_set_ne _ _ (by omega)).trans b2, (at_set_ne _ _ (by omega)).trans b3, (at_set_ne _ _ (by omega)).trans b4, at_set_self _ _ ho2, by rw [TMap.set_n]; exact ho2, rfl, ⟨rfl, rfl, rfl, rfl, rfl, rfl, rfl, rfl, trivial⟩, rfl, rfl, rfl, rfl⟩
  clear bo ho2 b0 b2 b3 b4 hn hs1
  rintro st ⟨h, b0, b2, b3, b4, bo, ho2, hs1⟩
  refine hs1.then ?_
  conv => whnf
  refine then_seq (hm := false) ?_
  conv => whnf
  refine ⟨_, b4, ?_⟩
  conv => whnf
  refine ⟨_, at_set_self _ _ (by omega), ?_⟩
  conv => whnf
  generalize hK : TMap.set AB.dead (TMap.set AB.dead h 4 _) 4 _ = K
  have hM : MH v t c q o [] [] nilA nilA K := by
    rw [← hK]
    exact ⟨(at_set_ne _ _ (by decide)).trans ((at_set_ne _ _ (by decide)).trans b0), (at_set_ne _ _ (by decide)).trans ((at_set_ne _ _ (by decide)).trans b2), (at_set_ne _ _ (by decide)).trans ((at_set_ne _ _ (by decide)).trans b3), (at_set_self _ _ (by rw [TMap.set_n]; omega)).trans rfl,
      (at_set_ne _ _ (by omega)).trans ((at_set_ne _ _ (by omega)).trans bo), ho1, by rw [TMap.set_n, TMap.set_n]; exact ho2, .inl ⟨rfl, rfl⟩, .inl ⟨rfl, rfl⟩, by simp [outId], by simp [outId], by simp [outId]⟩
  clear hK b0 b2 b3 b4 bo hs1
  refine then_via (hm := false) (fun st => ∃ (h : Heap) (os : AV), MH v t c q o (mirS t.strays) [] os nilA h ∧
      Has st 411 [(2, .c (.lit (.int .u8 w1))), (3, .ptr 0 0), (6, .c (B false)), (7, .c (I v.n)), (8, .c (I i)), (9, .ptr 2 0), (10, .ptr 3 0), (11, .ptr 4 0)] [] none h) ?_ ?_
  · conv => whnf
    refine ⟨_, hM.b0, ?_⟩
    conv => whnf
    refine loop_by (I := fun n st => ∃ (k : Nat) (h : Heap) (os : AV), k ≤ t.strays.length ∧ n = t.strays.length - k ∧ MH v t c q o ((mirS t.strays).take k) [] os nilA h ∧
      Has st 411 [(2, .c (.lit (.int .u8 w1))), (3, .ptr 0 0), (6, .c (B false)), (7, .c (I v.n)), (8, .c (I i)), (9, .ptr 2 0), (10, .ptr 3 0), (11, .ptr 4 0), (106, .c (I v.sn)), (107, .c (I k))] [] none h) ?_ (k := t.strays.length)
      ⟨0, _, nilA, Nat.zero_le _, rfl, hM, rfl, ⟨rfl, rfl, rfl, rfl, rfl, rfl, rfl, rfl, rfl, rfl, trivial⟩, rfl, rfl, rfl, rfl⟩
    clear hM
    rintro n st ⟨k, h, os, hk, rfl, hM, hs1⟩
    refine hs1.run (hm := false) ?_
    conv => whnf
    have hml : (mirS t.strays).length = t.strays.length := by simp [mirS]
    cases hc : decide ((k : Int) < (v.sn : Int))
    case false =>
      have hkl : k = t.strays.length := by simp at hc; omega
      rw [hkl, ← hml, List.take_length] at hM
      conv => whnf
      exact ⟨_, os, hM, rfl, ⟨rfl, rfl, rfl, rfl, rfl, rfl, rfl, rfl, trivial⟩, rfl, rfl, rfl, rfl⟩
    have hk : k < t.strays.length := by simp at hc; omega
    obtain ⟨r, hr⟩ := get_some (l := t.strays) (show t.strays.length - 1 - k < t.strays.length by omega)
    conv => whnf
    refine ⟨_, hM.b0, ?_⟩
    conv => whnf
    refine ⟨_, hM.b0, ?_⟩
    conv => whnf
    refine ⟨(t.strays.length : Int) - 1, by rw [e4, wrap_eq (by omega) (by omega)], ?_⟩
    conv => whnf
    refine ⟨((t.strays.length - 1 - k : Nat) : Int), by rw [wrap_eq (by omega) (by omega)]; omega, ?_⟩
    conv => whnf
    refine ⟨⟨by omega, by omega⟩, ?_⟩
    conv => whnf
    refine ⟨_, hv.stray hr, ?_⟩
    conv => whnf
    refine ⟨_, at_push_self _ _, ?_⟩
    conv => whnf
    have hsr := (strays_ok (validT_X hd) (k := t.strays.length - 1 - k + 1) (by omega) (by omega))
    obtain ⟨r', hr', hb1, hb2, hb3⟩ := hsr
    have hrr' : r' = r := by rw [show t.strays.length - 1 - k + 1 - 1 = t.strays.length - 1 - k by omega, hr] at hr'; exact (Option.some.inj hr').symm
    subst hrr'
    have hN := hM.new (.blk [AV.lit (.int .i64 0), AV.lit (.int .i64 0)]) (.blk [.c (I r'.1), .c (I r'.2)])
    have hm1 : Heap.at ((h.push .dead (.blk [AV.lit (.int .i64 0), AV.lit (.int .i64 0)])).set .dead h.n (.blk [.c (I r'.1), .c (I r'.2)])) h.n = .blk [.c (I r'.1), .c (I r'.2)] := at_new _ _ _
    have hgn := new_n h (.blk [AV.lit (.int .i64 0), AV.lit (.int .i64 0)]) (.blk [.c (I r'.1), .c (I r'.2)])
    have hmn := hM.n
    have ho5 := hM.o5
    generalize hG : TMap.set AB.dead (TMap.push AB.dead h _) _ _ = G at hN hm1 hgn ⊢
    clear hG
    have hsn : (mirS t.strays).take (k + 1) = (mirS t.strays).take k ++ [(-r'.2, -r'.1)] := by
      have : (mirS t.strays)[k]? = some (-r'.2, -r'.1) := by
        unfold mirS
        rw [List.getElem?_map, List.getElem?_reverse hk, hr]; rfl
      rw [List.take_add_one, this]; rfl
    have hlim : (((mirS t.strays).take k).map rowSp).length + 1 ≤ limit := by rw [List.length_map, List.length_take]; unfold limit; omega
    rcases hN.rs.shape with rfl | ⟨o2, m2, rfl⟩
    all_goals
      refine draw_by (hm := false) (by kernel_rfl) (by kernel_rfl) ?_
      conv => whnf
      refine ⟨_, hN.b4, ?_⟩
      conv => whnf
      refine ⟨_, hm1, ?_⟩
      conv => whnf
      refine ⟨_, hm1, ?_⟩
      conv => whnf
      rw [show IntKind.i64.wrap (0 - r'.2) = -r'.2 by rw [wrap_eq (by omega) (by omega)]; omega, show IntKind.i64.wrap (0 - r'.1) = -r'.1 by rw [wrap_eq (by omega) (by omega)]; omega]
      refine .pure _ _ rfl (mkspan_ret _ _) ?_
      conv => whnf
      obtain ⟨rr, hrr, hR', hold, hn', hfresh, hupd, hre, hup, bf, hfr'⟩ := rows_append2 (P := Try.prog) (row := rowSp (-r'.2, -r'.1)) (t := 22) (u := 22) hN.rs U22 U22 rfl S36 rfl (rowSp_len _) rfl hlim
      have hE := hN.appS hR' hold hn' hfresh
      have hb4' := (hold 4 (by omega) (fun e => by have := hN.is' 4 e; omega)).trans hN.b4
      rcases hR' with ⟨_, hh⟩ | ⟨o', ho', hb', hlt', hne'⟩
      · exact absurd hh (by simp)
      obtain ⟨H9, hH9⟩ : ∃ H9, H9 = after (G.push .dead (.blk ((rowSp (-r'.2, -r'.1)).map .c))) rr := ⟨_, rfl⟩
      rw [← hH9] at hE hb4' hlt' hn'
      obtain ⟨rv, rreads, rupds, rfresh⟩ := rr
      simp only at ho'
      subst ho'
      refine dgot (H := H9) (got_app rfl hrr) hupd hH9.symm ?_
      conv => whnf
      refine ⟨_, hb4', ?_⟩
      conv => whnf
      refine ⟨show 4 < H9.n by omega, ?_⟩
      conv => whnf
      simp only at hre hup hfr'
      subst hre
      subst hup
      subst hfr'
      refine ⟨?_, ?_⟩
      · first
          | (obtain ⟨π, z4, za, zb, zc⟩ : ∃ π : Nat → Nat, π 4 = 0 ∧ π h.n = 1 ∧ π G.n = 2 ∧ π (G.n + 1) = 3 := ⟨fun x => if x = 4 then 0 else if x = h.n then 1 else if x = G.n then 2 else 3, by dsimp only; rw [if_pos rfl], by dsimp only; rw [if_neg (by omega), if_pos rfl], by dsimp only; rw [if_neg (by omega), if_neg (by omega), if_pos rfl], by dsimp only; rw [if_neg (by omega), if_neg (by omega), if_neg (by omega)]⟩
             exact pairs_via π [⟨0, _, _, [], []⟩, ⟨1, _, _, [π 4], []⟩, ⟨2, _, _, [], []⟩, ⟨3, _, _, [π h.n], []⟩, ⟨4, _, _, [], []⟩, ⟨5, _, _, [], []⟩, ⟨6, _, _, [π h.n], []⟩, ⟨7, _, _, [], []⟩, ⟨8, _, _, [], []⟩, ⟨9, _, _, [], [π G.n]⟩, ⟨10, _, _, [π G.n], [π (G.n + 1)]⟩, ⟨11, _, _, [], []⟩, ⟨12, _, _, [π 4], [π 4]⟩] rfl (by rw [z4, za, zb, zc]; kernel_rfl))
          | (have hlo2 : o2 < h.n := hM.rs.lt o2 rfl
             have hgo2 : o < o2 := hM.is' o2 rfl
             obtain ⟨π, z4, za, zb, zc, zd⟩ : ∃ π : Nat → Nat, π 4 = 0 ∧ π h.n = 1 ∧ π G.n = 2 ∧ π (G.n + 1) = 3 ∧ π o2 = 4 := ⟨fun x => if x = 4 then 0 else if x = h.n then 1 else if x = G.n then 2 else if x = G.n + 1 then 3 else 4, by dsimp only; rw [if_pos rfl], by dsimp only; rw [if_neg (by omega), if_pos rfl], by dsimp only; rw [if_neg (by omega), if_neg (by omega), if_pos rfl], by dsimp only; rw [if_neg (by omega), if_neg (by omega), if_neg (by omega), if_pos rfl], by dsimp only; rw [if_neg (by omega), if_neg (by omega), if_neg (by omega), if_neg (by omega)]⟩
             exact pairs_via π [⟨0, _, _, [], []⟩, ⟨1, _, _, [π 4], []⟩, ⟨2, _, _, [], []⟩, ⟨3, _, _, [π h.n], []⟩, ⟨4, _, _, [], []⟩, ⟨5, _, _, [], []⟩, ⟨6, _, _, [π h.n], []⟩, ⟨7, _, _, [], []⟩, ⟨8, _, _, [], []⟩, ⟨9, _, _, [], [π G.n]⟩, ⟨10, _, _, [π o2, π G.n], [π o2, π (G.n + 1)]⟩, ⟨11, _, _, [], []⟩, ⟨12, _, _, [π 4], [π 4]⟩] rfl (by rw [z4, za, zb, zc, zd]; kernel_rfl))
      conv => whnf
      refine ⟨((k + 1 : Nat) : Int), by rw [wrap_eq (by omega) (by omega)]; omega, ?_⟩
      conv => whnf
      exact ⟨t.strays.length - (k + 1), by omega, k + 1, _, _, by omega, rfl, by rw [hsn]; exact hE, rfl, ⟨rfl, rfl, rfl, rfl, rfl, rfl, rfl, rfl, rfl, rfl, trivial⟩, rfl, rfl, rfl, rfl⟩
  clear hM
  rintro st ⟨h, os, hM, hs1⟩
  refine hs1.then ?_
  conv => whnf
  refine then_via (hm := false) (fun st => ∃ (h : Heap) (os oc : AV), MH v t c q o (mirS t.strays) (t.calls.reverse.map (mirC t.n)) os oc h ∧
      Has st 411 [(2, .c (.lit (.int .u8 w1))), (3, .ptr 0 0), (6, .c (B false)), (7, .c (I v.n)), (8, .c (I i)), (9, .ptr 2 0), (10, .ptr 3 0), (11, .ptr 4 0)] [] none h) ?_ ?_
  · conv => whnf
    refine ⟨_, hM.b0, ?_⟩
    conv => whnf
    have hml : (t.calls.reverse.map (mirC t.n)).length = t.calls.length := by simp
    refine loop_by (I := fun n st => ∃ (k : Nat) (h : Heap) (oc : AV), k ≤ t.calls.length ∧ n = t.calls.length - k ∧ MH v t c q o (mirS t.strays) ((t.calls.reverse.map (mirC t.n)).take k) os oc h ∧
      Has st 411 [(2, .c (.lit (.int .u8 w1))), (3, .ptr 0 0), (6, .c (B false)), (7, .c (I v.n)), (8, .c (I i)), (9, .ptr 2 0), (10, .ptr 3 0), (11, .ptr 4 0), (135, .c (I v.cn)), (136, .c (I k))] [] none h) ?_ (k := t.calls.length)
      ⟨0, _, nilA, Nat.zero_le _, rfl, hM, rfl, ⟨rfl, rfl, rfl, rfl, rfl, rfl, rfl, rfl, rfl, rfl, trivial⟩, rfl, rfl, rfl, rfl⟩
    clear hM
    rintro n st ⟨k, h, oc, hk, rfl, hM, hs1⟩
    refine hs1.run (hm := false) ?_
    conv => whnf
    cases hc : decide ((k : Int) < (v.cn : Int))
    case false =>
      have hkl : k = t.calls.length := by simp at hc; omega
      rw [hkl, ← hml, List.take_length] at hM
      conv => whnf
      exact ⟨_, os, oc, hM, rfl, ⟨rfl, rfl, rfl, rfl, rfl, rfl, rfl, rfl, trivial⟩, rfl, rfl, rfl, rfl⟩
    have hk : k < t.calls.length := by simp at hc; omega
    obtain ⟨r, hr⟩ := get_some (l := t.calls) (show t.calls.length - 1 - k < t.calls.length by omega)
    have hrok := valid_call (validT_X hd) (List.mem_of_getElem? hr)
    conv => whnf
    refine ⟨_, hM.b0, ?_⟩
    conv => whnf
    refine ⟨_, hM.b0, ?_⟩
    conv => whnf
    refine ⟨(t.calls.length : Int) - 1, by rw [e3, wrap_eq (by omega) (by omega)], ?_⟩
    conv => whnf
    refine ⟨((t.calls.length - 1 - k : Nat) : Int), by rw [wrap_eq (by omega) (by omega)]; omega, ?_⟩
    conv => whnf
    refine ⟨⟨by omega, by omega⟩, ?_⟩
    conv => whnf
    refine ⟨_, hv.call hr, ?_⟩
    conv => whnf
    refine ⟨_, at_push_self _ _, ?_⟩
    conv => whnf
    have hNe := hM.new (.blk [AV.lit (.int .i64 0), AV.lit (.int .i64 0), AV.lit (.int .i64 0), AV.lit (.int .i64 0)]) (.blk [.c (I r.kind), .c (I r.pos), .c (I r.lo), .c (I r.hi)])
    have hm1 : Heap.at ((h.push .dead (.blk [AV.lit (.int .i64 0), AV.lit (.int .i64 0), AV.lit (.int .i64 0), AV.lit (.int .i64 0)])).set .dead h.n (.blk [.c (I r.kind), .c (I r.pos), .c (I r.lo), .c (I r.hi)])) h.n = .blk [.c (I r.kind), .c (I r.pos), .c (I r.lo), .c (I r.hi)] := at_new _ _ _
    have hgn := new_n h (.blk [AV.lit (.int .i64 0), AV.lit (.int .i64 0), AV.lit (.int .i64 0), AV.lit (.int .i64 0)]) (.blk [.c (I r.kind), .c (I r.pos), .c (I r.lo), .c (I r.hi)])
    have hmn := hM.n
    have ho5 := hM.o5
    have hln : ∀ k, outId os = some k → k < h.n := hM.rs.lt
    have hln2 : ∀ k, outId oc = some k → k < h.n := hM.rc.lt
    generalize hG : TMap.set AB.dead (TMap.push AB.dead h _) _ _ = G at hNe hm1 hgn ⊢
    clear hG
    refine ⟨_, hm1, ?_⟩
    conv => whnf
    have hsn : (t.calls.reverse.map (mirC t.n)).take (k + 1) = (t.calls.reverse.map (mirC t.n)).take k ++ [mirC t.n r] := by
      have : (t.calls.reverse.map (mirC t.n))[k]? = some (mirC t.n r) := by rw [List.getElem?_map, List.getElem?_reverse hk, hr]; rfl
      rw [List.take_add_one, this]; rfl
    have hlim : (((t.calls.reverse.map (mirC t.n)).take k).map rowCl).length + 1 ≤ limit := by rw [List.length_map, List.length_take]; unfold limit; omega
    cases hk2 : (r.kind != 2)
    · have hmir : mirC t.n r = r := by unfold mirC; rw [if_pos (by simpa using hk2)]
      have hm1 : Heap.at G h.n = .blk ((rowCl (mirC t.n r)).map .c) := by rw [hmir]; exact hm1
      rcases hNe.rc.shape with rfl | ⟨o2, m2, rfl⟩
      all_goals
        conv => whnf
        refine ⟨_, hNe.b4, ?_⟩
        conv => whnf
        refine ⟨_, hm1, ?_⟩
        conv => whnf
        obtain ⟨rr, hrr, hR', hold, hn', hfresh⟩ := rows_append (row := rowCl (mirC t.n r)) (t := 23) (u := 23) hNe.rc U23 U23 rfl S46 rfl (rowCl_len _) rfl hlim
        have hE := hNe.appC hR' hold hn' hfresh
        have hb4' := (hold 4 (by omega) (fun e => by have := hNe.ic 4 e; omega)).trans hNe.b4
        rcases hR' with ⟨_, hh⟩ | ⟨o', ho', hb', hlt', hne'⟩
        · exact absurd hh (by simp)
        obtain ⟨rv, rreads, rupds, rfresh⟩ := rr
        simp only at ho'
        subst ho'
        refine ⟨_, hrr, ?_⟩
        conv => whnf
        refine ⟨_, hb4', ?_⟩
        conv => whnf
        refine ⟨((k + 1 : Nat) : Int), by rw [wrap_eq (by omega) (by omega)]; omega, ?_⟩
        conv => whnf
        exact ⟨t.calls.length - (k + 1), by omega, k + 1, _, _, by omega, rfl, by rw [hsn]; exact hE, rfl, ⟨rfl, rfl, rfl, rfl, rfl, rfl, rfl, rfl, rfl, rfl, trivial⟩, rfl, rfl, rfl, rfl⟩
    · have hkn : r.kind ≠ 2 := by simpa using hk2
      have hmir : mirC t.n r = ⟨r.kind, t.n - 1 - r.pos, r.lo, r.hi⟩ := by unfold mirC; rw [if_neg hkn]
      have hpos : 0 ≤ r.pos ∧ r.pos ≤ t.n - 1 := by
        unfold callOk at hrok
        cases hk : decide (r.kind = 0) || decide (r.kind = 1)
        · rw [hk] at hrok
          exact absurd (show r.kind = 2 by simp at hrok; exact hrok.1) hkn
        · rw [hk] at hrok
          simp only [inB', Bool.and_eq_true, decide_eq_true_eq] at hrok
          omega
      conv => whnf
      refine ⟨t.n - 1, by rw [hv.n, wrap_eq (by omega) (by omega)], ?_⟩
      conv => whnf
      refine ⟨_, hm1, ?_⟩
      conv => whnf
      refine ⟨t.n - 1 - r.pos, by rw [wrap_eq (by omega) (by omega)], ?_⟩
      conv => whnf
      refine ⟨_, hm1, ?_⟩
      conv => whnf
      have hNe' := hNe.put (k := h.n) hmn (fun e => by have := hln _ e; omega) (fun e => by have := hln2 _ e; omega) (.blk [.c (I r.kind), .c (I (t.n - 1 - r.pos)), .c (I r.lo), .c (I r.hi)])
      have hm1' : Heap.at (G.set .dead h.n (.blk [.c (I r.kind), .c (I (t.n - 1 - r.pos)), .c (I r.lo), .c (I r.hi)])) h.n = .blk ((rowCl (mirC t.n r)).map .c) := by rw [hmir]; exact at_set_self _ _ (by omega)
      have hgn' : (G.set .dead h.n (.blk [.c (I r.kind), .c (I (t.n - 1 - r.pos)), .c (I r.lo), .c (I r.hi)])).n = h.n + 1 := by rw [TMap.set_n]; exact hgn
      clear hNe hm1 hgn
      generalize hG : TMap.set AB.dead G h.n _ = G2 at hNe' hm1' hgn' ⊢
      clear hG
      have hNe := hNe'
      have hm1 := hm1'
      have hgn := hgn'
      rcases hNe.rc.shape with rfl | ⟨o2, m2, rfl⟩
      all_goals
        conv => whnf
        refine ⟨_, hNe.b4, ?_⟩
        conv => whnf
        refine ⟨_, hm1, ?_⟩
        conv => whnf
        obtain ⟨rr, hrr, hR', hold, hn', hfresh⟩ := rows_append (row := rowCl (mirC t.n r)) (t := 23) (u := 23) hNe.rc U23 U23 rfl S46 rfl (rowCl_len _) rfl hlim
        have hE := hNe.appC hR' hold hn' hfresh
        have hb4' := (hold 4 (by omega) (fun e => by have := hNe.ic 4 e; omega)).trans hNe.b4
        rcases hR' with ⟨_, hh⟩ | ⟨o', ho', hb', hlt', hne'⟩
        · exact absurd hh (by simp)
        obtain ⟨rv, rreads, rupds, rfresh⟩ := rr
        simp only at ho'
        subst ho'
        refine ⟨_, hrr, ?_⟩
        conv => whnf
        refine ⟨_, hb4', ?_⟩
        conv => whnf
        refine ⟨((k + 1 : Nat) : Int), by rw [wrap_eq (by omega) (by omega)]; omega, ?_⟩
        conv => whnf
        exact ⟨t.calls.length - (k + 1), by omega, k + 1, _, _, by omega, rfl, by rw [hsn]; exact hE, rfl, ⟨rfl, rfl, rfl, rfl, rfl, rfl, rfl, rfl, rfl, rfl, trivial⟩, rfl, rfl, rfl, rfl⟩
  rintro st ⟨h, os, oc, hM, hs1⟩
  refine hs1.then ?_
  conv => whnf
  refine then_via (hm := false) (fun st => ∃ (h : Heap) (p1 p2 : Nat), MH v t c q o (mirS t.strays) (t.calls.reverse.map (mirC t.n)) os oc h ∧ Heap.at h p1 = .blk ((t.strays.map rowSp).flatten.map .c) ∧ Heap.at h p2 = .blk ((t.calls.map rowCl).flatten.map .c) ∧ p1 < h.n ∧ p2 < h.n ∧
      Has st 411 [(2, .c (.lit (.int .u8 w1))), (3, .ptr 0 0), (6, .c (B false)), (7, .c (I v.n)), (8, .c (I i)), (9, .ptr 2 0), (10, .ptr 3 0), (11, .ptr 4 0), (17, .msl p1 2 0 v.sn v.sn), (18, .msl p2 4 0 v.cn v.cn)] [] none h) ?_ ?_
  · conv => whnf
    refine draw_by (hm := false) (by kernel_rfl) (by kernel_rfl) ?_
    conv => whnf
    have hmn := hM.n
    have ho5 := hM.o5
    obtain ⟨r1, p1, hr1, hv1, hb1, hp1, hl1, ho1, hu1, hc1⟩ := copy_app (h := h) hv.s (rowSp_len t.strays) (rowSp_cell t.strays) U22 S36 (by rw [List.length_map]; unfold limit; omega)
    obtain ⟨K1, hK1⟩ : ∃ K1, K1 = after (h.push .dead (.blk [])) r1 := ⟨_, rfl⟩
    rw [← hK1] at hb1 hl1 ho1 hc1
    have hn1 : h.n ≤ K1.n := by omega
    obtain ⟨r2, p2, hr2, hv2, hb2, hp2, hl2, ho2, hu2, hc2⟩ := copy_app (h := K1) hv.c (rowCl_len t.calls) (rowCl_cell t.calls) U23 S46 (by rw [List.length_map]; unfold limit; omega)
    obtain ⟨K2, hK2⟩ : ∃ K2, K2 = after (K1.push .dead (.blk [])) r2 := ⟨_, rfl⟩
    rw [← hK2] at hb2 hl2 ho2
    have hF : Foot none' h K2 := ⟨by omega, fun i hi _ => (ho2 i (by omega)).trans (ho1 i hi)⟩
    rw [atF_eq] at hr1 hr2
    obtain ⟨rv1, rr1, ru1, rf1⟩ := r1
    obtain ⟨rv2, rr2, ru2, rf2⟩ := r2
    simp only at hv1 hv2
    subst hv1
    subst hv2
    simp only at hc1 hc2
    refine ⟨_, (at_push_lt _ _ (by omega)).trans hM.b0, ?_⟩
    conv => whnf
    refine dgot (H := K1) hr1 hu1 hK1.symm ?_
    conv => whnf
    refine ⟨_, (at_push_lt _ _ (by omega)).trans ((ho1 0 (by omega)).trans hM.b0), ?_⟩
    conv => whnf
    refine dgot (H := K2) hr2 hu2 hK2.symm ?_
    conv => whnf
    refine ⟨?_, ?_⟩
    · rcases hc1 with ⟨hx1, hy1, hz1, hw1'⟩ | ⟨hx1, hy1, ⟨c1, hz1⟩, hw1'⟩ <;> rcases hc2 with ⟨hx2, hy2, hz2, hw2'⟩ | ⟨hx2, hy2, ⟨c2, hz2⟩, hw2'⟩ <;> subst hx1 <;> subst hy1 <;> subst hz1 <;> subst hx2 <;> subst hy2 <;> subst hz2
      · obtain ⟨π, z0, zh, zk, zl⟩ : ∃ π : Nat → Nat, π 0 = 0 ∧ π h.n = 1 ∧ π K1.n = 3 ∧ π (K1.n + 1) = 4 := ⟨fun x => if x = 0 then 0 else if x = h.n then 1 else if x = h.n + 1 ∧ x < K1.n then 2 else if x = K1.n then 3 else 4, by dsimp only; rw [if_pos rfl], by dsimp only; rw [if_neg (by omega), if_pos rfl], by dsimp only; rw [if_neg (by omega), if_neg (by omega), if_neg (by omega), if_pos rfl], by dsimp only; rw [if_neg (by omega), if_neg (by omega), if_neg (by omega), if_neg (by omega)]⟩
        exact pairs_via π [⟨0, _, _, [], [π h.n]⟩, ⟨1, _, _, [], []⟩, ⟨2, _, _, [π 0], []⟩, ⟨3, _, _, [], []⟩, ⟨4, _, _, [], [π K1.n]⟩, ⟨5, _, _, [], []⟩, ⟨6, _, _, [π 0], []⟩, ⟨7, _, _, [], []⟩, ⟨8, _, _, [], []⟩, ⟨9, _, _, [], []⟩] rfl (by rw [z0, zh, zk]; kernel_rfl)
      · obtain ⟨π, z0, zh, zk, zl⟩ : ∃ π : Nat → Nat, π 0 = 0 ∧ π h.n = 1 ∧ π K1.n = 3 ∧ π (K1.n + 1) = 4 := ⟨fun x => if x = 0 then 0 else if x = h.n then 1 else if x = h.n + 1 ∧ x < K1.n then 2 else if x = K1.n then 3 else 4, by dsimp only; rw [if_pos rfl], by dsimp only; rw [if_neg (by omega), if_pos rfl], by dsimp only; rw [if_neg (by omega), if_neg (by omega), if_neg (by omega), if_pos rfl], by dsimp only; rw [if_neg (by omega), if_neg (by omega), if_neg (by omega), if_neg (by omega)]⟩
        exact pairs_via π [⟨0, _, _, [], [π h.n]⟩, ⟨1, _, _, [], []⟩, ⟨2, _, _, [π 0], []⟩, ⟨3, _, _, [], []⟩, ⟨4, _, _, [], [π K1.n]⟩, ⟨5, _, _, [], []⟩, ⟨6, _, _, [π 0], []⟩, ⟨7, _, _, [π K1.n], [π K1.n, π (K1.n + 1)]⟩, ⟨8, _, _, [], []⟩, ⟨9, _, _, [], []⟩] rfl (by rw [z0, zh, zk, zl]; kernel_rfl)
      · obtain ⟨π, z0, zh, zk, zl, zi⟩ : ∃ π : Nat → Nat, π 0 = 0 ∧ π h.n = 1 ∧ π K1.n = 3 ∧ π (K1.n + 1) = 4 ∧ π (h.n + 1) = 2 := ⟨fun x => if x = 0 then 0 else if x = h.n then 1 else if x = h.n + 1 ∧ x < K1.n then 2 else if x = K1.n then 3 else 4, by dsimp only; rw [if_pos rfl], by dsimp only; rw [if_neg (by omega), if_pos rfl], by dsimp only; rw [if_neg (by omega), if_neg (by omega), if_neg (by omega), if_pos rfl], by dsimp only; rw [if_neg (by omega), if_neg (by omega), if_neg (by omega), if_neg (by omega)], by dsimp only; rw [if_neg (by omega), if_neg (by omega), if_pos (by omega)]⟩
        exact pairs_via π [⟨0, _, _, [], [π h.n]⟩, ⟨1, _, _, [], []⟩, ⟨2, _, _, [π 0], []⟩, ⟨3, _, _, [π h.n], [π h.n, π (h.n + 1)]⟩, ⟨4, _, _, [], [π K1.n]⟩, ⟨5, _, _, [], []⟩, ⟨6, _, _, [π 0], []⟩, ⟨7, _, _, [], []⟩, ⟨8, _, _, [], []⟩, ⟨9, _, _, [], []⟩] rfl (by rw [z0, zh, zk, zi]; kernel_rfl)
      · obtain ⟨π, z0, zh, zk, zl, zi⟩ : ∃ π : Nat → Nat, π 0 = 0 ∧ π h.n = 1 ∧ π K1.n = 3 ∧ π (K1.n + 1) = 4 ∧ π (h.n + 1) = 2 := ⟨fun x => if x = 0 then 0 else if x = h.n then 1 else if x = h.n + 1 ∧ x < K1.n then 2 else if x = K1.n then 3 else 4, by dsimp only; rw [if_pos rfl], by dsimp only; rw [if_neg (by omega), if_pos rfl], by dsimp only; rw [if_neg (by omega), if_neg (by omega), if_neg (by omega), if_pos rfl], by dsimp only; rw [if_neg (by omega), if_neg (by omega), if_neg (by omega), if_neg (by omega)], by dsimp only; rw [if_neg (by omega), if_neg (by omega), if_pos (by omega)]⟩
        exact pairs_via π [⟨0, _, _, [], [π h.n]⟩, ⟨1, _, _, [], []⟩, ⟨2, _, _, [π 0], []⟩, ⟨3, _, _, [π h.n], [π h.n, π (h.n + 1)]⟩, ⟨4, _, _, [], [π K1.n]⟩, ⟨5, _, _, [], []⟩, ⟨6, _, _, [π 0], []⟩, ⟨7, _, _, [π K1.n], [π K1.n, π (K1.n + 1)]⟩, ⟨8, _, _, [], []⟩, ⟨9, _, _, [], []⟩] rfl (by rw [z0, zh, zk, zl, zi]; kernel_rfl)
    conv => whnf
    exact ⟨_, p1, p2, hM.up hF, (ho2 p1 (by omega)).trans hb1, hb2, by omega, by omega, rfl, ⟨rfl, rfl, rfl, rfl, rfl, rfl, rfl, rfl, rfl, rfl, trivial⟩, rfl, rfl, rfl, rfl⟩
  clear hM
  rintro st ⟨h, p1, p2, hM, hp1, hp2, lp1, lp2, hs1⟩
  refine hs1.then ?_
  conv => whnf
  have inb : ∀ {x a b : Int}, a ≤ x → x ≤ b → inB' x a b = true := fun h1 h2 => by simp [inB', h1, h2]
  obtain ⟨er, s1, s2, s3, her, f1, f2, f3, hz⟩ : ∃ (er : Int) (s1 s2 s3 : Int × Int), (er = 0 ∨ er = 10) ∧ spanR t true i (i + 1) = (s1, er) ∧ spanR t true (6 + i) (6 + (i + 1)) = (s2, er) ∧ spanR t true 0 N = (s3, er) ∧ (er = 0 → ∃ d, lookF t (allN t) = some d ∧ s1 = spanD d i (i + 1) ∧ s2 = spanD d (6 + i) (6 + (i + 1)) ∧ s3 = spanD d 0 N) := by
    cases hl : lookF t (allN t) with
    | none =>
      have c2 : ∀ f g, spanR t true f g = ((0, 0), 10) := fun f g => by unfold spanR; rw [hd, hl]; rfl
      exact ⟨10, (0, 0), (0, 0), (0, 0), .inr rfl, c2 _ _, c2 _ _, c2 _ _, fun h => absurd h (by decide)⟩
    | some d =>
      have c2 : ∀ f g, spanR t true f g = (spanD d f g, 0) := fun f g => by unfold spanR; rw [hd, hl]; rfl
      exact ⟨0, _, _, _, .inl rfl, c2 _ _, c2 _ _, c2 _ _, fun _ => ⟨d, rfl, rfl, rfl, rfl⟩⟩
  have hshT : ∀ {x : TV} {T : Td}, x.Is T → T.n = t.n → ∀ k : Nat, k < N → Ret Try.prog 22 [x.cv, I k] (spRV (spanR T true k (k + 1))) := fun {x T} hx hT k hk => by
    have := shorn_ret hx (k : Int)
    rw [hT, show inB' (k : Int) 0 (t.n - 1) = true from inb (by omega) (by omega), Int.toNat_natCast] at this
    exact this
  have hpeT : ∀ {x : TV} {T : Td}, x.Is T → T.n = t.n → ∀ k : Nat, k < N → Ret Try.prog 23 [x.cv, I k] (spRV (spanR T true (6 + k) (6 + (k + 1)))) := fun {x T} hx hT k hk => by
    have := pen_ret' hx (k : Int)
    rw [hT, show inB' (k : Int) 0 (t.n - 1) = true from inb (by omega) (by omega), Int.toNat_natCast] at this
    exact this
  have htoT : ∀ {x : TV} {T : Td}, x.Is T → T.n = t.n → Ret Try.prog 25 [x.cv, I 0, I ((N : Int) - 1)] (spRV (spanR T true 0 N)) := fun {x T} hx hT => by
    have := together_ret hx 0 ((N : Int) - 1)
    rw [hT, show (inB' 0 0 (t.n - 1) && (inB' ((N : Int) - 1) 0 (t.n - 1) && !decide (0 > (N : Int) - 1))) = true by simp [inB']; omega, show (((N : Int) - 1).toNat + 1) = N by omega, show Int.toNat 0 = 0 from rfl] at this
    exact this
  obtain ⟨⟨n0, y0, x0⟩, hfr⟩ : ∃ p, p = falseR t := ⟨_, rfl⟩
  have g1 := hshT hv rfl i hiN
  have g2 := hpeT hv rfl i hiN
  have g3 := htoT hv rfl
  have g4 := false_ret hv
  rw [f1] at g1
  rw [f2] at g2
  rw [f3] at g3
  rw [← hfr] at g4
  dsimp only [spRV, spV] at g1 g2 g3 g4
  have hNH : NH v t c q o (mirS t.strays) (t.calls.reverse.map (mirC t.n)) os oc [(p1, .blk ((t.strays.map rowSp).flatten.map .c)), (p2, .blk ((t.calls.map rowCl).flatten.map .c))] h := ⟨hM, fun x hx => by
    rcases List.mem_cons.1 hx with rfl | h1
    · exact ⟨lp1, hp1⟩
    · rw [List.mem_singleton] at h1; subst h1; exact ⟨lp2, hp2⟩⟩
  clear hM hp1 hp2 lp1 lp2 hs1
  obtain ⟨B1, hB1⟩ : ∃ B1 : List (Nat × AB), B1 = [(p1, .blk ((t.strays.map rowSp).flatten.map .c)), (p2, .blk ((t.calls.map rowCl).flatten.map .c))] := ⟨_, rfl⟩
  rw [← hB1] at hNH
  obtain ⟨b1, hb1⟩ : ∃ b1 : AB, b1 = .blk [.c (I s1.1), .c (I s1.2)] := ⟨_, rfl⟩
  obtain ⟨b2, hb2⟩ : ∃ b2 : AB, b2 = .blk [.c (I s2.1), .c (I s2.2)] := ⟨_, rfl⟩
  obtain ⟨b3, hb3⟩ : ∃ b3 : AB, b3 = .blk [.c (I s3.1), .c (I s3.2)] := ⟨_, rfl⟩
  refine then_via (hm := false) (fun st => ∃ (h : Heap) (a1 : Nat), NH v t c q o (mirS t.strays) (t.calls.reverse.map (mirC t.n)) os oc ((a1, b1) :: B1) h ∧
      Has st 411 [(2, .c (.lit (.int .u8 w1))), (3, .ptr 0 0), (6, .c (B false)), (7, .c (I v.n)), (8, .c (I i)), (9, .ptr 2 0), (10, .ptr 3 0), (11, .ptr 4 0), (17, .msl p1 2 0 v.sn v.sn), (18, .msl p2 4 0 v.cn v.cn), (19, .ptr a1 0), (20, .c (I er))] [] none h) ?_ ?_
  · conv => whnf
    refine ⟨_, hNH.m.b0, ?_⟩
    conv => whnf
    refine .ret g1 rfl ?_
    conv => whnf
    refine ⟨_, at_push_self _ _, ?_⟩
    conv => whnf
    exact ⟨_, h.n, by rw [hb1]; exact hNH.new _ _, rfl, ⟨rfl, rfl, rfl, rfl, rfl, rfl, rfl, rfl, rfl, rfl, rfl, rfl, trivial⟩, rfl, rfl, rfl, rfl⟩
  clear hNH
  rintro st ⟨h, a1, hNH, hs1⟩
  refine hs1.then ?_
  conv => whnf
  refine then_via (hm := false) (fun st => ∃ (h : Heap) (a2 : Nat), NH v t c q o (mirS t.strays) (t.calls.reverse.map (mirC t.n)) os oc ((a2, b2) :: (a1, b1) :: B1) h ∧
      Has st 411 [(2, .c (.lit (.int .u8 w1))), (3, .ptr 0 0), (6, .c (B false)), (7, .c (I v.n)), (8, .c (I i)), (9, .ptr 2 0), (10, .ptr 3 0), (11, .ptr 4 0), (17, .msl p1 2 0 v.sn v.sn), (18, .msl p2 4 0 v.cn v.cn), (19, .ptr a1 0), (20, .c (I er)), (21, .ptr a2 0), (22, .c (I er))] [] none h) ?_ ?_
  · conv => whnf
    refine ⟨_, hNH.m.b0, ?_⟩
    conv => whnf
    refine .ret g2 rfl ?_
    conv => whnf
    refine ⟨_, at_push_self _ _, ?_⟩
    conv => whnf
    exact ⟨_, h.n, by rw [hb2]; exact hNH.new _ _, rfl, ⟨rfl, rfl, rfl, rfl, rfl, rfl, rfl, rfl, rfl, rfl, rfl, rfl, rfl, rfl, trivial⟩, rfl, rfl, rfl, rfl⟩
  clear hNH
  rintro st ⟨h, a2, hNH, hs1⟩
  refine hs1.then ?_
  conv => whnf
  refine then_via (hm := false) (fun st => ∃ (h : Heap) (a3 : Nat), NH v t c q o (mirS t.strays) (t.calls.reverse.map (mirC t.n)) os oc ((a3, b3) :: (a2, b2) :: (a1, b1) :: B1) h ∧
      Has st 411 [(2, .c (.lit (.int .u8 w1))), (3, .ptr 0 0), (6, .c (B false)), (7, .c (I v.n)), (8, .c (I i)), (9, .ptr 2 0), (10, .ptr 3 0), (11, .ptr 4 0), (17, .msl p1 2 0 v.sn v.sn), (18, .msl p2 4 0 v.cn v.cn), (19, .ptr a1 0), (20, .c (I er)), (21, .ptr a2 0), (22, .c (I er)), (23, .ptr a3 0), (24, .c (I er))] [] none h) ?_ ?_
  · conv => whnf
    refine ⟨_, hNH.m.b0, ?_⟩
    conv => whnf
    refine ⟨(N : Int) - 1, by rw [e1, wrap_eq (by omega) (by omega)], ?_⟩
    conv => whnf
    refine .ret g3 rfl ?_
    conv => whnf
    refine ⟨_, at_push_self _ _, ?_⟩
    conv => whnf
    exact ⟨_, h.n, by rw [hb3]; exact hNH.new _ _, rfl, ⟨rfl, rfl, rfl, rfl, rfl, rfl, rfl, rfl, rfl, rfl, rfl, rfl, rfl, rfl, rfl, rfl, trivial⟩, rfl, rfl, rfl, rfl⟩
  clear hNH
  rintro st ⟨h, a3, hNH, hs1⟩
  refine hs1.then ?_
  conv => whnf
  refine then_seq (hm := false) ?_
  conv => whnf
  refine ⟨_, hNH.m.b0, ?_⟩
  conv => whnf
  refine .ret g4 rfl ?_
  conv => whnf
  refine then_seq (hm := false) ?_
  conv => whnf
  rw [show (er != er) = false by simp]
  conv => whnf
  rw [show (er != er) = false by simp]
  conv => whnf
  refine then_seq (hm := false) ?_
  conv => whnf
  obtain ⟨B3, hB3⟩ : ∃ B3, B3 = (a3, b3) :: (a2, b2) :: (a1, b1) :: B1 := ⟨_, rfl⟩
  rw [← hB3] at hNH
  have hX0 : (callsV v (t.calls ++ [c])).Is (moreT t c) := callsV_is hv (by simp; omega)
  have hX1 : (callsV v (tightL t.calls q)).Is (tightT t q) := callsV_is hv (by rw [tight_len]; omega)
  have htl : (tightL t.calls q).length = v.cn := by rw [tight_len, e3]
  obtain ⟨lit, hlit⟩ : ∃ lit : AB, lit = .blk [.c (I v.n), .c (I v.most), .c (.sl v.sc v.so v.sn), .c (.sl ((t.calls ++ [c]).map rowCl).flatten 0 (t.calls ++ [c]).length), .c (I v.n), .c (I v.most), .c (.sl v.sc v.so v.sn), .msl o 4 0 v.cn v.cn] := ⟨_, rfl⟩
  refine then_via (hm := false) (fun st => ∃ (h : Heap), NH v t c q o (mirS t.strays) (t.calls.reverse.map (mirC t.n)) os oc B3 h ∧
      Has st 411 [(3, .ptr 0 0), (6, .c (B false)), (7, .c (I v.n)), (8, .c (I i)), (11, .ptr 4 0), (17, .msl p1 2 0 v.sn v.sn), (18, .msl p2 4 0 v.cn v.cn), (19, .ptr a1 0), (20, .c (I er)), (21, .ptr a2 0), (22, .c (I er)), (23, .ptr a3 0), (24, .c (I er)), (25, .c (I n0)), (27, .c (I x0))] [] none h) ?_ ?_
  · conv => whnf
    refine ⟨_, hNH.m.b2, ?_⟩
    conv => whnf
    refine ⟨_, hNH.m.b3, ?_⟩
    conv => whnf
    have hNL : NH v t c q o (mirS t.strays) (t.calls.reverse.map (mirC t.n)) os oc ((h.n, lit) :: B3) (h.push .dead lit) := by
      have f := hNH.up (h' := h.push .dead lit) ((Foot.refl _ _).push _)
      refine ⟨f.m, fun z hz => ?_⟩
      rcases List.mem_cons.1 hz with rfl | h1
      · exact ⟨by show h.n < _; rw [push_n]; omega, at_push_self _ _⟩
      · exact f.k z h1
    obtain ⟨sb, hsb⟩ : ∃ sb, sb = h.n := ⟨_, rfl⟩
    rw [← hsb] at hNL
    refine loop_by (I := fun n st => ∃ (k : Nat) (h : Heap), k ≤ 2 ∧ n = 2 - k ∧ NH v t c q o (mirS t.strays) (t.calls.reverse.map (mirC t.n)) os oc ((sb, lit) :: B3) h ∧
      Has st 411 [(3, .ptr 0 0), (6, .c (B false)), (7, .c (I v.n)), (8, .c (I i)), (11, .ptr 4 0), (17, .msl p1 2 0 v.sn v.sn), (18, .msl p2 4 0 v.cn v.cn), (19, .ptr a1 0), (20, .c (I er)), (21, .ptr a2 0), (22, .c (I er)), (23, .ptr a3 0), (24, .c (I er)), (25, .c (I n0)), (27, .c (I x0)), (28, .c (.func (.func 39) [] [])), (208, .msl sb 4 0 2 2), (209, .c (I 2)), (210, .c (I k))] [] none h) ?_ (k := 2)
      ⟨0, _, by omega, rfl, by rw [hlit] at hNL; rw [hlit]; exact hNL, rfl, ⟨rfl, rfl, rfl, rfl, rfl, rfl, rfl, rfl, rfl, rfl, rfl, rfl, rfl, rfl, rfl, rfl, by rw [hsb]; rfl, rfl, rfl, trivial⟩, rfl, rfl, rfl, rfl⟩
    clear hNH hNL
    rintro n st ⟨k, h, hk, rfl, hNH, hs1⟩
    refine hs1.run (hm := false) ?_
    conv => whnf
    cases hc : decide ((k : Int) < 2)
    case false =>
      conv => whnf
      exact ⟨_, hNH.less (fun x hx => List.mem_cons_of_mem _ hx), rfl, ⟨rfl, rfl, rfl, rfl, rfl, rfl, rfl, rfl, rfl, rfl, rfl, rfl, rfl, rfl, rfl, trivial⟩, rfl, rfl, rfl, rfl⟩
    have hk : k < 2 := by simp at hc; omega
    have hL : Heap.at h sb = .blk [.c (I v.n), .c (I v.most), .c (.sl v.sc v.so v.sn), .c (.sl ((t.calls ++ [c]).map rowCl).flatten 0 (t.calls ++ [c]).length), .c (I v.n), .c (I v.most), .c (.sl v.sc v.so v.sn), .msl o 4 0 v.cn v.cn] := by rw [← hlit]; exact (hNH.k (sb, lit) (List.mem_cons_self ..)).2
    obtain rfl | rfl : k = 0 ∨ k = 1 := by omega
    · conv => whnf
      refine ⟨⟨rfl, by omega, by omega⟩, ?_⟩
      conv => whnf
      refine ⟨_, hL, ?_⟩
      conv => whnf
      refine ⟨_, at_push_self _ _, ?_⟩
      conv => whnf
      obtain ⟨cb, hcb⟩ : ∃ cb : AB, cb = .blk [.c (I v.n), .c (I v.most), .c (.sl v.sc v.so v.sn), .c (.sl ((t.calls ++ [c]).map rowCl).flatten 0 (t.calls ++ [c]).length)] := ⟨_, rfl⟩
      have hA1 := hNH.new (.blk [AV.lit (.int .i64 0), AV.lit (.int .i64 0), AV.lit (.slice none 0 0), AV.lit (.slice none 0 0)]) cb
      obtain ⟨d1, hd1⟩ : ∃ d1, d1 = h.n := ⟨_, rfl⟩
      rw [← hd1] at hA1
      rw [← hd1]
      have hA1' := hA1
      rw [hcb] at hA1'
      generalize hG : TMap.set AB.dead (TMap.push AB.dead h _) _ _ = G at hA1' ⊢
      have hA1 : NH v t c q o (mirS t.strays) (t.calls.reverse.map (mirC t.n)) os oc ((d1, cb) :: (sb, lit) :: B3) G := by rw [hcb]; exact hA1'
      clear hG hA1' hNH hL
      have hcell : Heap.at G d1 = .blk [.c (I v.n), .c (I v.most), .c (.sl v.sc v.so v.sn), .c (.sl ((t.calls ++ [c]).map rowCl).flatten 0 (t.calls ++ [c]).length)] := by rw [← hcb]; exact (hA1.k (d1, cb) (List.mem_cons_self ..)).2
      refine ⟨_, hcell, ?_⟩
      conv => whnf
      refine .ret (tallyR_ret hX0) rfl ?_
      conv => whnf
      cases hD : validT (moreT t c)
      · conv => whnf
        refine ⟨((0 + 1 : Nat) : Int), by rfl, ?_⟩
        conv => whnf
        exact ⟨2 - (0 + 1), by omega, 0 + 1, _, by omega, rfl, hA1.less (fun x hx => List.mem_cons_of_mem _ (hx)), rfl, ⟨rfl, rfl, rfl, rfl, rfl, rfl, rfl, rfl, rfl, rfl, rfl, rfl, rfl, rfl, rfl, rfl, rfl, rfl, rfl, trivial⟩, rfl, rfl, rfl, rfl⟩
      obtain ⟨eT, r1, r2, r3, heT, t1, t2, t3, hinc⟩ := sub_tells (more_sub t c) hd hD hN hiN
      have gA := hshT hX0 rfl i hiN
      have gB := hpeT hX0 rfl i hiN
      have gC := htoT hX0 rfl
      have gD := false_ret hX0
      have hsf := sub_false (more_sub t c) hd hD
      have hmf := more_false hd hD
      obtain ⟨⟨nT, yT, xT⟩, hfT⟩ : ∃ p, p = falseR (moreT t c) := ⟨_, rfl⟩
      have hnT : nT ≤ 8 := by have := false_le (moreT t c); rw [← hfT] at this; exact this
      rw [t1] at gA
      rw [t2] at gB
      rw [t3] at gC
      rw [← hfT] at gD hsf hmf
      rw [← hfr] at hsf hmf
      dsimp only [spRV, spV] at gA gB gC gD
      obtain ⟨hx, hle⟩ := hsf
      dsimp only at hx hle hmf
      subst hx
      conv => whnf
      refine ⟨_, hcell, ?_⟩
      conv => whnf
      refine .ret gA rfl ?_
      conv => whnf
      refine ⟨_, at_push_self _ _, ?_⟩
      conv => whnf
      obtain ⟨e1', hee1⟩ : ∃ e, e = G.n := ⟨_, rfl⟩
      have hB := hA1.new (.blk [AV.lit (.int .i64 0), AV.lit (.int .i64 0)]) (.blk [.c (I r1.1), .c (I r1.2)])
      rw [← hee1] at hB
      rw [← hee1]
      generalize hG : TMap.set AB.dead (TMap.push AB.dead G _) _ _ = G1 at hB ⊢
      clear hG hcell hA1
      have hA1 := hB
      have hcell := (hA1.k (d1, cb) (List.mem_cons_of_mem _ (List.mem_cons_self ..))).2
      rw [hcb] at hcell
      clear hB
      refine ⟨_, hcell, ?_⟩
      conv => whnf
      refine .ret gB rfl ?_
      conv => whnf
      refine ⟨_, at_push_self _ _, ?_⟩
      conv => whnf
      obtain ⟨e2, he2⟩ : ∃ e, e = G1.n := ⟨_, rfl⟩
      have hB := hA1.new (.blk [AV.lit (.int .i64 0), AV.lit (.int .i64 0)]) (.blk [.c (I r2.1), .c (I r2.2)])
      rw [← he2] at hB
      rw [← he2]
      generalize hG : TMap.set AB.dead (TMap.push AB.dead G1 _) _ _ = G2 at hB ⊢
      clear hG hcell hA1
      have hA1 := hB
      have hcell := (hA1.k (d1, cb) (List.mem_cons_of_mem _ (List.mem_cons_of_mem _ (List.mem_cons_self ..)))).2
      rw [hcb] at hcell
      clear hB
      refine ⟨_, hcell, ?_⟩
      conv => whnf
      refine ⟨(N : Int) - 1, by rw [e1, wrap_eq (by omega) (by omega)], ?_⟩
      conv => whnf
      refine .ret gC rfl ?_
      conv => whnf
      refine ⟨_, at_push_self _ _, ?_⟩
      conv => whnf
      obtain ⟨e3', he3⟩ : ∃ e, e = G2.n := ⟨_, rfl⟩
      have hB := hA1.new (.blk [AV.lit (.int .i64 0), AV.lit (.int .i64 0)]) (.blk [.c (I r3.1), .c (I r3.2)])
      rw [← he3] at hB
      rw [← he3]
      generalize hG : TMap.set AB.dead (TMap.push AB.dead G2 _) _ _ = G3 at hB ⊢
      clear hG hcell hA1
      have hA1 := hB
      have hcell := (hA1.k (d1, cb) (List.mem_cons_of_mem _ (List.mem_cons_of_mem _ (List.mem_cons_of_mem _ (List.mem_cons_self ..))))).2
      rw [hcb] at hcell
      clear hB
      refine ⟨_, hcell, ?_⟩
      conv => whnf
      refine .ret gD rfl ?_
      conv => whnf
      have hr3 : Heap.at G3 e3' = .blk [.c (I r3.1), .c (I r3.2)] := (hA1.k (e3', _) (List.mem_cons_self ..)).2
      have hr2 : Heap.at G3 e2 = .blk [.c (I r2.1), .c (I r2.2)] := (hA1.k (e2, _) (List.mem_cons_of_mem _ (List.mem_cons_self ..))).2
      have hr1 : Heap.at G3 e1' = .blk [.c (I r1.1), .c (I r1.2)] := (hA1.k (e1', _) (List.mem_cons_of_mem _ (List.mem_cons_of_mem _ (List.mem_cons_self ..)))).2
      have hB3m : ∀ x ∈ B3, Heap.at G3 x.1 = x.2 := fun x hx => (hA1.k x (List.mem_cons_of_mem _ (List.mem_cons_of_mem _ (List.mem_cons_of_mem _ (List.mem_cons_of_mem _ (List.mem_cons_of_mem _ (hx))))))).2
      have hq1 : Heap.at G3 a1 = .blk [.c (I s1.1), .c (I s1.2)] := by rw [← hb1]; exact hB3m (a1, b1) (by rw [hB3]; simp)
      have hq2 : Heap.at G3 a2 = .blk [.c (I s2.1), .c (I s2.2)] := by rw [← hb2]; exact hB3m (a2, b2) (by rw [hB3]; simp)
      have hq3 : Heap.at G3 a3 = .blk [.c (I s3.1), .c (I s3.2)] := by rw [← hb3]; exact hB3m (a3, b3) (by rw [hB3]; simp)
      rcases heT with rfl | rfl
      · obtain ⟨d, hl, i1, i2, i3⟩ := hinc rfl
        have c2 : ∀ f g, spanR t true f g = (spanD d f g, 0) := fun f g => by unfold spanR; rw [hd, hl]; rfl
        rw [c2] at f1 f2 f3
        have her0 : er = 0 := (congrArg Prod.snd f1).symm
        have hs1' : s1 = spanD d i (i + 1) := (congrArg Prod.fst f1).symm
        have hs2' : s2 = spanD d (6 + i) (6 + (i + 1)) := (congrArg Prod.fst f2).symm
        have hs3' : s3 = spanD d 0 N := (congrArg Prod.fst f3).symm
        rw [← hs1'] at i1
        rw [← hs2'] at i2
        rw [← hs3'] at i3
        subst her0
        conv => whnf
        rw [show (xT != xT) = false by simp]
        conv => whnf
        refine ⟨_, hr1, ?_⟩
        conv => whnf
        refine ⟨_, hq1, ?_⟩
        conv => whnf
        refine .ret (inside_span _ _ _ _) rfl ?_
        conv => whnf
        rw [show (decide (s1.1 ≤ r1.1) && decide (r1.2 ≤ s1.2)) = true by simp; omega]
        conv => whnf
        refine ⟨_, hr2, ?_⟩
        conv => whnf
        refine ⟨_, hq2, ?_⟩
        conv => whnf
        refine .ret (inside_span _ _ _ _) rfl ?_
        conv => whnf
        rw [show (decide (s2.1 ≤ r2.1) && decide (r2.2 ≤ s2.2)) = true by simp; omega]
        conv => whnf
        refine ⟨_, hr3, ?_⟩
        conv => whnf
        refine ⟨_, hq3, ?_⟩
        conv => whnf
        refine .ret (inside_span _ _ _ _) rfl ?_
        conv => whnf
        rw [show (decide (s3.1 ≤ r3.1) && decide (r3.2 ≤ s3.2)) = true by simp; omega]
        conv => whnf
        rw [show decide ((nT : Int) < (n0 : Int)) = false by simp; omega]
        conv => whnf
        refine ⟨(n0 : Int) + 1, by rw [wrap_eq (by omega) (by omega)], ?_⟩
        conv => whnf
        rw [show decide ((nT : Int) > (n0 : Int) + 1) = false by simp; omega]
        conv => whnf
        refine ⟨((0 + 1 : Nat) : Int), by rfl, ?_⟩
        conv => whnf
        exact ⟨2 - (0 + 1), by omega, 0 + 1, _, by omega, rfl, hA1.less (fun x hx => List.mem_cons_of_mem _ (List.mem_cons_of_mem _ (List.mem_cons_of_mem _ (List.mem_cons_of_mem _ (hx))))), rfl, ⟨rfl, rfl, rfl, rfl, rfl, rfl, rfl, rfl, rfl, rfl, rfl, rfl, rfl, rfl, rfl, rfl, rfl, rfl, rfl, trivial⟩, rfl, rfl, rfl, rfl⟩
      · conv => whnf
        rw [show (xT != xT) = false by simp]
        conv => whnf
        rw [show decide ((nT : Int) < (n0 : Int)) = false by simp; omega]
        conv => whnf
        refine ⟨(n0 : Int) + 1, by rw [wrap_eq (by omega) (by omega)], ?_⟩
        conv => whnf
        rw [show decide ((nT : Int) > (n0 : Int) + 1) = false by simp; omega]
        conv => whnf
        refine ⟨((0 + 1 : Nat) : Int), by rfl, ?_⟩
        conv => whnf
        exact ⟨2 - (0 + 1), by omega, 0 + 1, _, by omega, rfl, hA1.less (fun x hx => List.mem_cons_of_mem _ (List.mem_cons_of_mem _ (List.mem_cons_of_mem _ (List.mem_cons_of_mem _ (hx))))), rfl, ⟨rfl, rfl, rfl, rfl, rfl, rfl, rfl, rfl, rfl, rfl, rfl, rfl, rfl, rfl, rfl, rfl, rfl, rfl, rfl, trivial⟩, rfl, rfl, rfl, rfl⟩
    · conv => whnf
      refine ⟨⟨rfl, by omega, by omega⟩, ?_⟩
      conv => whnf
      refine ⟨_, hL, ?_⟩
      conv => whnf
      refine ⟨_, at_push_self _ _, ?_⟩
      conv => whnf
      obtain ⟨cb, hcb⟩ : ∃ cb : AB, cb = .blk [.c (I v.n), .c (I v.most), .c (.sl v.sc v.so v.sn), .msl o 4 0 v.cn v.cn] := ⟨_, rfl⟩
      have hA1 := hNH.new (.blk [AV.lit (.int .i64 0), AV.lit (.int .i64 0), AV.lit (.slice none 0 0), AV.lit (.slice none 0 0)]) cb
      obtain ⟨d1, hd1⟩ : ∃ d1, d1 = h.n := ⟨_, rfl⟩
      rw [← hd1] at hA1
      rw [← hd1]
      have hA1' := hA1
      rw [hcb] at hA1'
      generalize hG : TMap.set AB.dead (TMap.push AB.dead h _) _ _ = G at hA1' ⊢
      have hA1 : NH v t c q o (mirS t.strays) (t.calls.reverse.map (mirC t.n)) os oc ((d1, cb) :: (sb, lit) :: B3) G := by rw [hcb]; exact hA1'
      clear hG hA1' hNH hL
      have hcell : Heap.at G d1 = .blk [.c (I v.n), .c (I v.most), .c (.sl v.sc v.so v.sn), .msl o 4 0 v.cn v.cn] := by rw [← hcb]; exact (hA1.k (d1, cb) (List.mem_cons_self ..)).2
      refine ⟨_, hcell, ?_⟩
      conv => whnf
      refine callT hA1.m.bo htl (tallyR_ret hX1) rfl ?_
      conv => whnf
      cases hD : validT (tightT t q)
      · conv => whnf
        refine ⟨((1 + 1 : Nat) : Int), by rfl, ?_⟩
        conv => whnf
        exact ⟨2 - (1 + 1), by omega, 1 + 1, _, by omega, rfl, hA1.less (fun x hx => List.mem_cons_of_mem _ (hx)), rfl, ⟨rfl, rfl, rfl, rfl, rfl, rfl, rfl, rfl, rfl, rfl, rfl, rfl, rfl, rfl, rfl, rfl, rfl, rfl, rfl, trivial⟩, rfl, rfl, rfl, rfl⟩
      obtain ⟨eT, r1, r2, r3, heT, t1, t2, t3, hinc⟩ := sub_tells (tight_sub hd q) hd hD hN hiN
      have gA := hshT hX1 rfl i hiN
      have gB := hpeT hX1 rfl i hiN
      have gC := htoT hX1 rfl
      have gD := false_ret hX1
      have hsf := sub_false (tight_sub hd q) hd hD

      obtain ⟨⟨nT, yT, xT⟩, hfT⟩ : ∃ p, p = falseR (tightT t q) := ⟨_, rfl⟩
      have hnT : nT ≤ 8 := by have := false_le (tightT t q); rw [← hfT] at this; exact this
      rw [t1] at gA
      rw [t2] at gB
      rw [t3] at gC
      rw [← hfT] at gD hsf
      rw [← hfr] at hsf
      dsimp only [spRV, spV] at gA gB gC gD
      obtain ⟨hx, hle⟩ := hsf
      dsimp only at hx hle
      subst hx
      conv => whnf
      refine ⟨_, hcell, ?_⟩
      conv => whnf
      refine callT hA1.m.bo htl gA rfl ?_
      conv => whnf
      refine ⟨_, at_push_self _ _, ?_⟩
      conv => whnf
      obtain ⟨e1', hee1⟩ : ∃ e, e = G.n := ⟨_, rfl⟩
      have hB := hA1.new (.blk [AV.lit (.int .i64 0), AV.lit (.int .i64 0)]) (.blk [.c (I r1.1), .c (I r1.2)])
      rw [← hee1] at hB
      rw [← hee1]
      generalize hG : TMap.set AB.dead (TMap.push AB.dead G _) _ _ = G1 at hB ⊢
      clear hG hcell hA1
      have hA1 := hB
      have hcell := (hA1.k (d1, cb) (List.mem_cons_of_mem _ (List.mem_cons_self ..))).2
      rw [hcb] at hcell
      clear hB
      refine ⟨_, hcell, ?_⟩
      conv => whnf
      refine callT hA1.m.bo htl gB rfl ?_
      conv => whnf
      refine ⟨_, at_push_self _ _, ?_⟩
      conv => whnf
      obtain ⟨e2, he2⟩ : ∃ e, e = G1.n := ⟨_, rfl⟩
      have hB := hA1.new (.blk [AV.lit (.int .i64 0), AV.lit (.int .i64 0)]) (.blk [.c (I r2.1), .c (I r2.2)])
      rw [← he2] at hB
      rw [← he2]
      generalize hG : TMap.set AB.dead (TMap.push AB.dead G1 _) _ _ = G2 at hB ⊢
      clear hG hcell hA1
      have hA1 := hB
      have hcell := (hA1.k (d1, cb) (List.mem_cons_of_mem _ (List.mem_cons_of_mem _ (List.mem_cons_self ..)))).2
      rw [hcb] at hcell
      clear hB
      refine ⟨_, hcell, ?_⟩
      conv => whnf
      refine ⟨(N : Int) - 1, by rw [e1, wrap_eq (by omega) (by omega)], ?_⟩
      conv => whnf
      refine callT hA1.m.bo htl gC rfl ?_
      conv => whnf
      refine ⟨_, at_push_self _ _, ?_⟩
      conv => whnf
      obtain ⟨e3', he3⟩ : ∃ e, e = G2.n := ⟨_, rfl⟩
      have hB := hA1.new (.blk [AV.lit (.int .i64 0), AV.lit (.int .i64 0)]) (.blk [.c (I r3.1), .c (I r3.2)])
      rw [← he3] at hB
      rw [← he3]
      generalize hG : TMap.set AB.dead (TMap.push AB.dead G2 _) _ _ = G3 at hB ⊢
      clear hG hcell hA1
      have hA1 := hB
      have hcell := (hA1.k (d1, cb) (List.mem_cons_of_mem _ (List.mem_cons_of_mem _ (List.mem_cons_of_mem _ (List.mem_cons_self ..))))).2
      rw [hcb] at hcell
      clear hB
      refine ⟨_, hcell, ?_⟩
      conv => whnf
      refine callT hA1.m.bo htl gD rfl ?_
      conv => whnf
      have hr3 : Heap.at G3 e3' = .blk [.c (I r3.1), .c (I r3.2)] := (hA1.k (e3', _) (List.mem_cons_self ..)).2
      have hr2 : Heap.at G3 e2 = .blk [.c (I r2.1), .c (I r2.2)] := (hA1.k (e2, _) (List.mem_cons_of_mem _ (List.mem_cons_self ..))).2
      have hr1 : Heap.at G3 e1' = .blk [.c (I r1.1), .c (I r1.2)] := (hA1.k (e1', _) (List.mem_cons_of_mem _ (List.mem_cons_of_mem _ (List.mem_cons_self ..)))).2
      have hB3m : ∀ x ∈ B3, Heap.at G3 x.1 = x.2 := fun x hx => (hA1.k x (List.mem_cons_of_mem _ (List.mem_cons_of_mem _ (List.mem_cons_of_mem _ (List.mem_cons_of_mem _ (List.mem_cons_of_mem _ (hx))))))).2
      have hq1 : Heap.at G3 a1 = .blk [.c (I s1.1), .c (I s1.2)] := by rw [← hb1]; exact hB3m (a1, b1) (by rw [hB3]; simp)
      have hq2 : Heap.at G3 a2 = .blk [.c (I s2.1), .c (I s2.2)] := by rw [← hb2]; exact hB3m (a2, b2) (by rw [hB3]; simp)
      have hq3 : Heap.at G3 a3 = .blk [.c (I s3.1), .c (I s3.2)] := by rw [← hb3]; exact hB3m (a3, b3) (by rw [hB3]; simp)
      rcases heT with rfl | rfl
      · obtain ⟨d, hl, i1, i2, i3⟩ := hinc rfl
        have c2 : ∀ f g, spanR t true f g = (spanD d f g, 0) := fun f g => by unfold spanR; rw [hd, hl]; rfl
        rw [c2] at f1 f2 f3
        have her0 : er = 0 := (congrArg Prod.snd f1).symm
        have hs1' : s1 = spanD d i (i + 1) := (congrArg Prod.fst f1).symm
        have hs2' : s2 = spanD d (6 + i) (6 + (i + 1)) := (congrArg Prod.fst f2).symm
        have hs3' : s3 = spanD d 0 N := (congrArg Prod.fst f3).symm
        rw [← hs1'] at i1
        rw [← hs2'] at i2
        rw [← hs3'] at i3
        subst her0
        conv => whnf
        rw [show (xT != xT) = false by simp]
        conv => whnf
        refine ⟨_, hr1, ?_⟩
        conv => whnf
        refine ⟨_, hq1, ?_⟩
        conv => whnf
        refine .ret (inside_span _ _ _ _) rfl ?_
        conv => whnf
        rw [show (decide (s1.1 ≤ r1.1) && decide (r1.2 ≤ s1.2)) = true by simp; omega]
        conv => whnf
        refine ⟨_, hr2, ?_⟩
        conv => whnf
        refine ⟨_, hq2, ?_⟩
        conv => whnf
        refine .ret (inside_span _ _ _ _) rfl ?_
        conv => whnf
        rw [show (decide (s2.1 ≤ r2.1) && decide (r2.2 ≤ s2.2)) = true by simp; omega]
        conv => whnf
        refine ⟨_, hr3, ?_⟩
        conv => whnf
        refine ⟨_, hq3, ?_⟩
        conv => whnf
        refine .ret (inside_span _ _ _ _) rfl ?_
        conv => whnf
        rw [show (decide (s3.1 ≤ r3.1) && decide (r3.2 ≤ s3.2)) = true by simp; omega]
        conv => whnf
        rw [show decide ((nT : Int) < (n0 : Int)) = false by simp; omega]
        conv => whnf
        refine ⟨((1 + 1 : Nat) : Int), by rfl, ?_⟩
        conv => whnf
        exact ⟨2 - (1 + 1), by omega, 1 + 1, _, by omega, rfl, hA1.less (fun x hx => List.mem_cons_of_mem _ (List.mem_cons_of_mem _ (List.mem_cons_of_mem _ (List.mem_cons_of_mem _ (hx))))), rfl, ⟨rfl, rfl, rfl, rfl, rfl, rfl, rfl, rfl, rfl, rfl, rfl, rfl, rfl, rfl, rfl, rfl, rfl, rfl, rfl, trivial⟩, rfl, rfl, rfl, rfl⟩
      · conv => whnf
        rw [show (xT != xT) = false by simp]
        conv => whnf
        rw [show decide ((nT : Int) < (n0 : Int)) = false by simp; omega]
        conv => whnf
        refine ⟨((1 + 1 : Nat) : Int), by rfl, ?_⟩
        conv => whnf
        exact ⟨2 - (1 + 1), by omega, 1 + 1, _, by omega, rfl, hA1.less (fun x hx => List.mem_cons_of_mem _ (List.mem_cons_of_mem _ (List.mem_cons_of_mem _ (List.mem_cons_of_mem _ (hx))))), rfl, ⟨rfl, rfl, rfl, rfl, rfl, rfl, rfl, rfl, rfl, rfl, rfl, rfl, rfl, rfl, rfl, rfl, rfl, rfl, rfl, trivial⟩, rfl, rfl, rfl, rfl⟩
  clear hNH
  rintro st ⟨h, hNH, hs1⟩
  refine hs1.then ?_
  conv => whnf
  have hXm := mV_is hv
  have gm1 := hshT hXm rfl (N - 1 - i) (by omega)
  have gm2 := hpeT hXm rfl (N - 1 - i) (by omega)
  have gm3 := htoT hXm rfl
  have gm4 := false_ret hXm
  obtain ⟨k1, k2⟩ := mir_false hd hN
  rw [mir_shorn hd hN hiN, f1] at gm1
  rw [mir_pen hd hN hiN, f2] at gm2
  rw [mir_total hd hN, f3] at gm3
  rw [k1, k2, ← hfr] at gm4
  dsimp only [spRV, spV] at gm1 gm2 gm3 gm4
  obtain ⟨ym, hym⟩ : ∃ ym, ym = (falseR (mirT t)).2.1 := ⟨_, rfl⟩
  rw [← hym] at gm4
  refine then_seq (hm := false) ?_
  rcases hNH.m.rs.shape with rfl | ⟨u1, u2, rfl⟩ <;> rcases hNH.m.rc.shape with rfl | ⟨u3, u4, rfl⟩
  all_goals
    conv => whnf
    refine ⟨_, hNH.m.b4, ?_⟩
    conv => whnf
    refine ⟨(N : Int) - 1, by rw [e1, wrap_eq (by omega) (by omega)], ?_⟩
    conv => whnf
    refine ⟨((N - 1 - i : Nat) : Int), by rw [wrap_eq (by omega) (by omega)]; omega, ?_⟩
    conv => whnf
    refine callM hNH.m.rs hNH.m.rc gm1 rfl ?_
    conv => whnf
    refine ⟨_, at_push_self _ _, ?_⟩
    conv => whnf
    obtain ⟨m1, hm1⟩ : ∃ e, e = h.n := ⟨_, rfl⟩
    have hB := hNH.new (.blk [AV.lit (.int .i64 0), AV.lit (.int .i64 0)]) (.blk [.c (I s1.1), .c (I s1.2)])
    rw [← hm1] at hB
    rw [← hm1]
    generalize hG : TMap.set AB.dead (TMap.push AB.dead h _) _ _ = G1 at hB ⊢
    clear hG hNH
    have hNH := hB
    clear hB
    repeat (refine then_seq (hm := false) ?_; conv => whnf)
    refine ⟨_, hNH.m.b4, ?_⟩
    conv => whnf
    refine ⟨(N : Int) - 1, by rw [e1, wrap_eq (by omega) (by omega)], ?_⟩
    conv => whnf
    refine ⟨((N - 1 - i : Nat) : Int), by rw [wrap_eq (by omega) (by omega)]; omega, ?_⟩
    conv => whnf
    refine callM hNH.m.rs hNH.m.rc gm2 rfl ?_
    conv => whnf
    refine ⟨_, at_push_self _ _, ?_⟩
    conv => whnf
    obtain ⟨m2, hm2⟩ : ∃ e, e = G1.n := ⟨_, rfl⟩
    have hB := hNH.new (.blk [AV.lit (.int .i64 0), AV.lit (.int .i64 0)]) (.blk [.c (I s2.1), .c (I s2.2)])
    rw [← hm2] at hB
    rw [← hm2]
    generalize hG : TMap.set AB.dead (TMap.push AB.dead G1 _) _ _ = G2 at hB ⊢
    clear hG hNH
    have hNH := hB
    clear hB
    repeat (refine then_seq (hm := false) ?_; conv => whnf)
    refine ⟨_, hNH.m.b4, ?_⟩
    conv => whnf
    refine ⟨(N : Int) - 1, by rw [e1, wrap_eq (by omega) (by omega)], ?_⟩
    conv => whnf
    refine callM hNH.m.rs hNH.m.rc gm3 rfl ?_
    conv => whnf
    refine ⟨_, at_push_self _ _, ?_⟩
    conv => whnf
    obtain ⟨m3, hm3⟩ : ∃ e, e = G2.n := ⟨_, rfl⟩
    have hB := hNH.new (.blk [AV.lit (.int .i64 0), AV.lit (.int .i64 0)]) (.blk [.c (I s3.1), .c (I s3.2)])
    rw [← hm3] at hB
    rw [← hm3]
    generalize hG : TMap.set AB.dead (TMap.push AB.dead G2 _) _ _ = G3 at hB ⊢
    clear hG hNH
    have hNH := hB
    clear hB
    repeat (refine then_seq (hm := false) ?_; conv => whnf)
    refine ⟨_, hNH.m.b4, ?_⟩
    conv => whnf
    refine callM hNH.m.rs hNH.m.rc gm4 rfl ?_
    conv => whnf
    have q3 : Heap.at G3 m3 = .blk [.c (I s3.1), .c (I s3.2)] := (hNH.k (m3, _) (List.mem_cons_self ..)).2
    have q2 : Heap.at G3 m2 = .blk [.c (I s2.1), .c (I s2.2)] := (hNH.k (m2, _) (List.mem_cons_of_mem _ (List.mem_cons_self ..))).2
    have q1 : Heap.at G3 m1 = .blk [.c (I s1.1), .c (I s1.2)] := (hNH.k (m1, _) (List.mem_cons_of_mem _ (List.mem_cons_of_mem _ (List.mem_cons_self ..)))).2
    have hNH := hNH.less (l' := B3) (fun x hx => List.mem_cons_of_mem _ (List.mem_cons_of_mem _ (List.mem_cons_of_mem _ hx)))
    have z1 : Heap.at G3 a1 = .blk [.c (I s1.1), .c (I s1.2)] := by rw [← hb1]; exact (hNH.k (a1, b1) (by rw [hB3]; simp)).2
    have z2 : Heap.at G3 a2 = .blk [.c (I s2.1), .c (I s2.2)] := by rw [← hb2]; exact (hNH.k (a2, b2) (by rw [hB3]; simp)).2
    have z3 : Heap.at G3 a3 = .blk [.c (I s3.1), .c (I s3.2)] := by rw [← hb3]; exact (hNH.k (a3, b3) (by rw [hB3]; simp)).2
    have zz : ∀ x y : Int, (!(decide (x = x) && decide (y = y))) = false := fun x y => by simp
    refine then_seq (hm := false) ?_
    conv => whnf
    refine ⟨_, q1, ?_⟩
    conv => whnf
    refine ⟨_, z1, ?_⟩
    conv => whnf
    refine ⟨_, span_neq rfl rfl rfl _ _, ?_⟩
    conv => whnf
    rw [zz]
    conv => whnf
    rw [show (er != er) = false by simp]
    conv => whnf
    refine ⟨_, q2, ?_⟩
    conv => whnf
    refine ⟨_, z2, ?_⟩
    conv => whnf
    refine ⟨_, span_neq rfl rfl rfl _ _, ?_⟩
    conv => whnf
    rw [zz]
    conv => whnf
    rw [show (er != er) = false by simp]
    conv => whnf
    refine ⟨_, q3, ?_⟩
    conv => whnf
    refine ⟨_, z3, ?_⟩
    conv => whnf
    refine ⟨_, span_neq rfl rfl rfl _ _, ?_⟩
    conv => whnf
    rw [zz]
    conv => whnf
    rw [show (er != er) = false by simp]
    conv => whnf
    rw [show ((n0 : Int) != (n0 : Int)) = false by simp]
    conv => whnf
    rw [show (x0 != x0) = false by simp]
    conv => whnf
    have P1 : Heap.at G3 p1 = .blk ((t.strays.map rowSp).flatten.map .c) := (hNH.k (p1, .blk ((t.strays.map rowSp).flatten.map .c)) (by rw [hB3, hB1]; simp)).2
    have P2 : Heap.at G3 p2 = .blk ((t.calls.map rowCl).flatten.map .c) := (hNH.k (p2, .blk ((t.calls.map rowCl).flatten.map .c)) (by rw [hB3, hB1]; simp)).2
    have P0 : Heap.at G3 0 = v.blk := hNH.m.b0
    clear hNH q1 q2 q3 z1 z2 z3
    refine then_via (hm := false) (fun st => ∃ h : Heap, Heap.at h 0 = v.blk ∧ Heap.at h p2 = .blk ((t.calls.map rowCl).flatten.map .c) ∧ Has st 411 [(3, .ptr 0 0), (6, .c (B false)), (18, .msl p2 4 0 v.cn v.cn)] [] none h) ?_ ?_
    · conv => whnf
      refine loop_by (I := fun n st => ∃ (k : Nat) (h : Heap), k ≤ t.strays.length ∧ n = t.strays.length - k ∧ Heap.at h 0 = v.blk ∧ Heap.at h p1 = .blk ((t.strays.map rowSp).flatten.map .c) ∧ Heap.at h p2 = .blk ((t.calls.map rowCl).flatten.map .c) ∧
        Has st 411 [(3, .ptr 0 0), (6, .c (B false)), (17, .msl p1 2 0 v.sn v.sn), (18, .msl p2 4 0 v.cn v.cn), (379, .c (I v.sn)), (380, .c (I k))] [] none h) ?_ (k := t.strays.length)
        ⟨0, _, Nat.zero_le _, rfl, P0, P1, P2, rfl, ⟨rfl, rfl, rfl, rfl, rfl, rfl, trivial⟩, rfl, rfl, rfl, rfl⟩
      clear P0 P1 P2
      rintro n st ⟨k, h, hk, rfl, P0, P1, P2, hs1⟩
      refine hs1.run (hm := false) ?_
      conv => whnf
      cases hc : decide ((k : Int) < (v.sn : Int))
      case false =>
        conv => whnf
        exact ⟨_, P0, P2, rfl, ⟨rfl, rfl, rfl, trivial⟩, rfl, rfl, rfl, rfl⟩
      have hk : k < t.strays.length := by simp at hc; omega
      obtain ⟨r, hr⟩ := get_some hk
      have hrd : readVar Try.prog 36 ((t.strays.map rowSp).flatten.map .c) (0 + (k : Int).toNat * Try.prog.types[36].size) = some (.c (.agg (rowSp r))) := readVar_map (by
        rw [rv36]
        have h1 := flat_sl (sz := 2) (t.strays.map rowSp) (rowSp_len _) k (rowSp r) (by rw [List.getElem?_map, hr]; rfl)
        rw [show 0 + (k : Int).toNat * Try.prog.types[36].size = 0 + k * 2 by show 0 + (k : Int).toNat * 2 = _; omega, h1]; rfl)
      conv => whnf
      refine draw_by (hm := false) (by kernel_rfl) (by kernel_rfl) ?_
      conv => whnf
      refine ⟨⟨rfl, by omega, by omega⟩, ?_⟩
      conv => whnf
      refine ⟨_, P1, ?_⟩
      conv => whnf
      refine look_read hrd ?_
      conv => whnf
      refine ⟨_, P0, ?_⟩
      conv => whnf
      refine ⟨⟨by omega, by omega⟩, ?_⟩
      conv => whnf
      refine ⟨_, hv.stray hr, ?_⟩
      conv => whnf
      refine dplain_val (span_neq rfl rfl rfl _ _) ?_
      conv => whnf
      refine ⟨by kernel_rfl, ?_⟩
      conv => whnf
      rw [zz]
      conv => whnf
      refine ⟨((k + 1 : Nat) : Int), by rw [wrap_eq (by omega) (by omega)]; omega, ?_⟩
      conv => whnf
      exact ⟨t.strays.length - (k + 1), by omega, k + 1, _, by omega, rfl, P0, P1, P2, rfl, ⟨rfl, rfl, rfl, rfl, rfl, rfl, trivial⟩, rfl, rfl, rfl, rfl⟩
    rintro st ⟨h, P0, P2, hs1⟩
    refine hs1.then ?_
    conv => whnf
    refine then_via (hm := false) (fun st => ∃ h : Heap, Has st 411 [(6, .c (B false))] [] none h) ?_ ?_
    · conv => whnf
      refine loop_by (I := fun n st => ∃ (k : Nat) (h : Heap), k ≤ t.calls.length ∧ n = t.calls.length - k ∧ Heap.at h 0 = v.blk ∧ Heap.at h p2 = .blk ((t.calls.map rowCl).flatten.map .c) ∧
        Has st 411 [(3, .ptr 0 0), (6, .c (B false)), (18, .msl p2 4 0 v.cn v.cn), (395, .c (I v.cn)), (396, .c (I k))] [] none h) ?_ (k := t.calls.length)
        ⟨0, _, Nat.zero_le _, rfl, P0, P2, rfl, ⟨rfl, rfl, rfl, rfl, rfl, trivial⟩, rfl, rfl, rfl, rfl⟩
      clear P0 P2
      rintro n st ⟨k, h, hk, rfl, P0, P2, hs1⟩
      refine hs1.run (hm := false) ?_
      conv => whnf
      cases hc : decide ((k : Int) < (v.cn : Int))
      case false =>
        conv => whnf
        exact ⟨_, rfl, ⟨rfl, trivial⟩, rfl, rfl, rfl, rfl⟩
      have hk : k < t.calls.length := by simp at hc; omega
      obtain ⟨r, hr⟩ := get_some hk
      have hrd : readVar Try.prog 46 ((t.calls.map rowCl).flatten.map .c) (0 + (k : Int).toNat * Try.prog.types[46].size) = some (.c (.agg (rowCl r))) := readVar_map (by
        rw [rv46]
        have h1 := flat_sl (sz := 4) (t.calls.map rowCl) (rowCl_len _) k (rowCl r) (by rw [List.getElem?_map, hr]; rfl)
        rw [show 0 + (k : Int).toNat * Try.prog.types[46].size = 0 + k * 4 by show 0 + (k : Int).toNat * 4 = _; omega, h1]; rfl)
      conv => whnf
      refine draw_by (hm := false) (by kernel_rfl) (by kernel_rfl) ?_
      conv => whnf
      refine ⟨⟨rfl, by omega, by omega⟩, ?_⟩
      conv => whnf
      refine ⟨_, P2, ?_⟩
      conv => whnf
      refine look_read hrd ?_
      conv => whnf
      refine ⟨_, P0, ?_⟩
      conv => whnf
      refine ⟨⟨by omega, by omega⟩, ?_⟩
      conv => whnf
      refine ⟨_, hv.call hr, ?_⟩
      conv => whnf
      refine dplain_val (call_neq r.kind r.pos r.lo r.hi rfl rfl rfl _ _) ?_
      conv => whnf
      refine ⟨by kernel_rfl, ?_⟩
      conv => whnf
      refine ⟨((k + 1 : Nat) : Int), by rw [wrap_eq (by omega) (by omega)]; omega, ?_⟩
      conv => whnf
      exact ⟨t.calls.length - (k + 1), by omega, k + 1, _, by omega, rfl, P0, P2, rfl, ⟨rfl, rfl, rfl, rfl, rfl, trivial⟩, rfl, rfl, rfl, rfl⟩
    rintro st ⟨h, hs1⟩
    refine hs1.then ?_
    conv => whnf
    refine then_seq (hm := false) ?_
    conv => whnf
    refine .ret hA rfl ?_
    conv => whnf
    refine then_end (hm := false) ?_
    conv => whnf
    exact .val
end Go.Ag
