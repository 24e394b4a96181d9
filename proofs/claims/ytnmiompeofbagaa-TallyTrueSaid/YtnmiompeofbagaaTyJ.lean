/- The law TallyTrue returns true for arguments that are not far too long. No conditions. -/
import Derived.Test.YtnmiompeofbagaaTyI
/- Layer 5: the law TallyTrue. -/
namespace Go.Ag
open Go.Proofs
set_option maxRecDepth 100000

theorem aop_slice51 {o : Oper} {x l h : Operand} {σ : Operand → AV} {rd : Nat → AB} {n id N A B : Nat} (ho : o.op = .slice 51 x (some l) (some h) none) (hx : σ x = .msl id 1 0 N N) (hl : σ l = .c (I A)) (hh : σ h = .c (I B)) (h1 : A ≤ B) (h2 : B ≤ N) :
    aop Try.prog o σ rd n = some (.simple { val := .msl id 1 A (B - A) (N - A) }) := by
  unfold aop
  rw [ho]
  have a1 : asInt (AV.c (I A)) = some (A : Int) := rfl
  have a2 : asInt (AV.c (I B)) = some (B : Int) := rfl
  simp only [aslice, U51, S3, hx, hl, hh, Option.map_some]
  have hi : isArr Try.prog 51 = false := by kernel_rfl
  have hb : boundsOf N N (some (AV.c (I A))) (some (AV.c (I B))) none = some (A, B, N) := by
    unfold boundsOf
    simp only [boundOf, a1, a2, Option.isSome_none, Bool.false_and, Bool.false_eq_true, if_false]
    rw [if_pos (by omega)]
    dsimp only
    rw [if_pos (by omega)]
    simp only [Int.toNat_natCast]
    rw [if_pos (by omega)]
  rw [hi]
  simp only [Option.map_none, hb, if_true, Option.map_some, Nat.zero_add, Nat.mul_one]
def byV (bc : List CV) (bo bn : Nat) : CV := .sl bc bo bn
set_option maxHeartbeats 32000000 in
theorem trueLaw_ret {v : TV} {t : Td} (h : v.IsS t) (hA : Ret Try.prog 12 [] (B true)) {bc : List CV} {bo bn : Nat} (hby : ByL bc bo bn) (w1 w2 : Nat) (hw1 : w1 < 256) (hw2 : w2 < 256) : Ret Try.prog 5 [v.cv, .sl bc bo bn, .lit (.int .u8 w1), .lit (.int .u8 w2)] (B true) := by
  have hv := h.toIs
  have e2 := hv.most; have e3 := hv.cn; have e4 := hv.sn
  refine ret_then (hm := true) Try.func5 rfl ?_
  conv => whnf
  repeat (refine then_seq (hm := true) ?_; conv => whnf)
  refine .ret h.far rfl ?_
  conv => whnf
  refine .ret (tallyR_ret hv) rfl ?_
  conv => whnf
  cases hd : validT t
  · conv => whnf
    refine .ret hA rfl ?_
    conv => whnf
    exact .val
  have h5 := valid_nums hd
  obtain ⟨N, hN⟩ : ∃ N : Nat, t.n = N := ⟨t.n.toNat, by omega⟩
  have e1 : v.n = (N : Int) := hv.n.trans hN
  conv => whnf
  repeat (refine then_seq (hm := true) ?_; conv => whnf)
  obtain ⟨e, h1, cd, rfl, dY, dA, dn, dF⟩ := draws_ret bc bo bn (TMap.push .dead TMap.nil v.blk)
  refine .inl _ h1 .no cd ?_
  conv => whnf
  have d0 : Heap.at h1 0 = v.blk := (dF.keep 0 (show 0 < 1 by decide) (fun x => x)).trans (at_push_self TMap.nil _)
  have n3 : h1.n = 3 := dn
  refine then_via (hm := false) (fun st => (∃ h : Heap, Has st 324 [(8, .c (B false)), (13, .c (B false))] [] none h) ∨ ∃ (h : Heap) (la lb lc : List Int) (oa ob oc : AV) (a : Nat) (H0 : Heap), TH v bc bo bn H0 2 1 a la lb lc oa ob oc h ∧ H0.n = 3 ∧ Heap.at h 0 = v.blk ∧ a ≤ 10 ∧ la.length = N ∧ lb.length = t.strays.length ∧ lc.length = N ∧
      Tru t N (fun k => la.getD k 0) (fun k => lb.getD k 0) (fun k => lc.getD k 0) ∧
      Has st 324 [(2, .c (.lit (.int .u8 w1))), (3, .c (.lit (.int .u8 w2))), (4, .ptr 0 0), (8, .c (B false)), (9, drawC 2 1), (10, oa), (11, ob), (12, oc), (13, .c (B true))] [] none h) ?_ ?_
  · conv => whnf
    refine ⟨_, d0, ?_⟩
    conv => whnf
    obtain ⟨e, h2, cd2, hor⟩ := truly_ret hv hd hN hby h1 (A := 2) (Y := 1) (by rw [n3]; decide) (by rw [n3]; decide) (by decide) dA dY
    refine .inl _ h2 .no cd2 ?_
    conv => whnf
    rcases hor with rfl | ⟨la, lb, lc, oa, ob, oc, a, hT, ha, hl1, hl2, hl3, hTr, rfl⟩
    · conv => whnf
      exact .inl ⟨_, rfl, ⟨rfl, rfl, trivial⟩, rfl, rfl, rfl, rfl⟩
    · have h0 : Heap.at h2 0 = v.blk := (hT.old 0 (by rw [n3]; decide) (by decide)).trans d0
      rcases hT.ra with ⟨_, hnil⟩ | ⟨ia, hoa, _, _, _⟩
      · exfalso
        have : la = [] := by simpa using hnil
        rw [this] at hl1
        simp at hl1; omega
      subst hoa
      rcases hT.rb.shape with rfl | ⟨o2, m2, rfl⟩ <;> rcases hT.rc.shape with rfl | ⟨o3, m3, rfl⟩
      all_goals
        conv => whnf
        exact .inr ⟨h2, la, lb, lc, _, _, _, a, h1, hT, n3, h0, ha, hl1, hl2, hl3, hTr, rfl, ⟨rfl, rfl, rfl, rfl, rfl, rfl, rfl, rfl, rfl, trivial⟩, rfl, rfl, rfl, rfl⟩
  clear n3
  clear dY dA dn dF d0 cd
  rintro st (⟨h, hs1⟩ | ⟨h, la, lb, lc, oa, ob, oc, a, H0, hT, hH0, h0, ha, hl1, hl2, hl3, hTr, hs1⟩)
  · refine hs1.then ?_
    conv => whnf
    repeat (refine then_seq (hm := false) ?_; conv => whnf)
    refine .ret hA rfl ?_
    conv => whnf
    exact .val
  refine hs1.then ?_
  conv => whnf
  repeat (refine then_seq (hm := false) ?_; conv => whnf)
  have Tn := hT.n
  rw [hH0] at Tn
  refine ⟨_, h0, ?_⟩
  conv => whnf
  refine ⟨_, at_push_self _ _, ?_⟩
  conv => whnf
  repeat (refine then_seq (hm := false) ?_; conv => whnf)
  refine ⟨_, at_new _ _ _, ?_⟩
  conv => whnf
  obtain ⟨X, hX⟩ : ∃ X, X = h.n := ⟨_, rfl⟩
  rw [← hX] at Tn
  generalize hK : TMap.set AB.dead (TMap.set AB.dead (TMap.push AB.dead h _) _ _) _ _ = K
  have hW : WH v bc bo bn X 2 1 a la lb lc oa ob oc [] nilA K := by
    have ids : ∀ {o : AV}, (∀ k, outId o = some k → H0.n + 1 ≤ k) → ∀ {l : List Int}, RowsL 1 h o (l.map row1) → ∀ k, outId o = some k → k < X ∧ 2 < k := fun hi _ R k hk => by
      have := hi k hk; have := R.lt k hk; omega
    have kp : ∀ i, i < X → Heap.at K i = Heap.at h i := fun i hi => by rw [← hK]; exact (at_set_ne _ _ (by omega)).trans ((at_set_ne _ _ (by omega)).trans (at_push_lt _ _ (by omega)))
    have kn : K.n = X + 1 := by rw [← hK, TMap.set_n, TMap.set_n, push_n]; omega
    have kR : ∀ {o : AV} {l : List Int}, RowsL 1 h o (l.map row1) → RowsL 1 K o (l.map row1) := fun R => R.ext (by omega) (fun i hi _ => kp i (by omega))
    refine ⟨(kp 0 (by omega)).trans h0, (kp 2 (by omega)).trans hT.bA, (kp 1 (by omega)).trans hT.bY, ?_, by decide, by decide, by decide, by omega, by omega, by omega, kR hT.ra, kR hT.rb, kR hT.rc, ids hT.ia hT.ra, ids hT.ib hT.rb, ids hT.ic hT.rc, .inl ⟨rfl, rfl⟩, by simp [outId]⟩
    rw [← hK, hX]
    exact (at_set_self _ _ (by rw [TMap.set_n, push_n]; omega)).trans rfl
  clear hK hT hH0 h0
  rcases hW.ra with ⟨_, hnil⟩ | ⟨ia, hoa, _, _, _⟩
  · exfalso
    have : la = [] := by simpa using hnil
    rw [this] at hl1
    simp at hl1; omega
  rcases hW.rc with ⟨_, hnil⟩ | ⟨ic, hoc, _, _, _⟩
  · exfalso
    have : lc = [] := by simpa using hnil
    rw [this] at hl3
    simp at hl3; omega
  rw [List.length_map, hl1] at hoa
  rw [List.length_map, hl3] at hoc
  subst hoa
  subst hoc
  obtain ⟨P, hP⟩ : ∃ P : Nat → Int, P = fun k => la.getD k 0 := ⟨_, rfl⟩
  obtain ⟨S, hS⟩ : ∃ S : Nat → Int, S = fun k => lb.getD k 0 := ⟨_, rfl⟩
  obtain ⟨Q, hQ⟩ : ∃ Q : Nat → Int, Q = fun k => lc.getD k 0 := ⟨_, rfl⟩
  have hcr : ∀ c : Cl, callOk t.n c = true → Ret Try.prog 33 [clV c, .sl (la.map I) 0 N, .sl (lc.map I) 0 N] (I (cnt N P Q c)) := fun c hc => by
    rw [hP, hQ]
    exact counted_ret (by omega) (by omega) hl1 hl3 (fun k hk => by have h1 := (hTr.p k hk).1; have h2 := (hTr.p k hk).2; omega) (by rw [← hN]; exact hc)
  rw [← hP, ← hS, ← hQ] at hTr
  have hbd := hTr.bound hd hN
  have hcb : ∀ c : Cl, callOk t.n c = true → 0 ≤ cnt N P Q c ∧ cnt N P Q c ≤ 300 := fun c hc => by
    unfold cnt
    unfold callOk at hc
    have hN0 := hbd.1 N (Nat.le_refl _)
    by_cases h0 : c.kind = 0
    · rw [if_pos h0]
      rw [h0] at hc
      have hc : (inB' c.pos 0 (t.n - 1) && spB c.lo c.hi 0 300) = true := hc
      simp only [inB', Bool.and_eq_true, decide_eq_true_eq] at hc
      have := hTr.p c.pos.toNat (by omega)
      omega
    · rw [if_neg h0]
      by_cases h1 : c.kind = 1
      · rw [if_pos h1]
        rw [h1] at hc
        have hc : (inB' c.pos 0 (t.n - 1) && spB c.lo c.hi 0 300) = true := hc
        simp only [inB', Bool.and_eq_true, decide_eq_true_eq] at hc
        have := hTr.q0 c.pos.toNat (by omega); have := hbd.2 c.pos.toNat (by omega)
        omega
      · rw [if_neg h1]; omega
  refine then_via (hm := false) (fun st => ∃ (h : Heap) (L : List Cl) (out : AV) (a' : Nat), WH v bc bo bn X 2 1 a' la lb lc (.msl ia 1 0 N N) ob (.msl ic 1 0 N N) L out h ∧ L.length = t.calls.length ∧ (∀ c, c ∈ L → callOk t.n c = true ∧ c.lo ≤ cnt N P Q c ∧ cnt N P Q c ≤ c.hi) ∧
      Has st 324 [(2, .c (.lit (.int .u8 w1))), (3, .c (.lit (.int .u8 w2))), (4, .ptr 0 0), (8, .c (B false)), (10, .msl ia 1 0 N N), (11, ob), (12, .msl ic 1 0 N N), (14, .ptr X 0)] [] none h) ?_ ?_
  · conv => whnf
    refine ⟨_, hW.b0, ?_⟩
    conv => whnf
    refine loop_by (I := fun n st => ∃ (k : Nat) (h : Heap) (L : List Cl) (out : AV), k ≤ t.calls.length ∧ n = t.calls.length - k ∧ WH v bc bo bn X 2 1 (a + k) la lb lc (.msl ia 1 0 N N) ob (.msl ic 1 0 N N) L out h ∧ L.length = k ∧ (∀ c, c ∈ L → callOk t.n c = true ∧ c.lo ≤ cnt N P Q c ∧ cnt N P Q c ≤ c.hi) ∧
      Has st 324 [(2, .c (.lit (.int .u8 w1))), (3, .c (.lit (.int .u8 w2))), (4, .ptr 0 0), (8, .c (B false)), (9, drawC 2 1), (10, .msl ia 1 0 N N), (11, ob), (12, .msl ic 1 0 N N), (14, .ptr X 0), (71, .c (.sl v.cc v.co v.cn)), (72, .c (I v.cn)), (73, .c (I k))] [] none h) ?_ (k := t.calls.length)
      ⟨0, _, [], nilA, Nat.zero_le _, rfl, hW, rfl, by simp, rfl, ⟨rfl, rfl, rfl, rfl, rfl, rfl, rfl, rfl, by rw [hX]; rfl, rfl, rfl, rfl, trivial⟩, rfl, rfl, rfl, rfl⟩
    clear hW
    rintro n st ⟨k, h, L, out, hk, rfl, hW, hLl, hLc, hs1⟩
    refine hs1.run (hm := false) ?_
    conv => whnf
    cases hc : decide ((k : Int) < (v.cn : Int))
    case false =>
      have hkl : k = t.calls.length := by simp at hc; omega
      conv => whnf
      exact ⟨_, L, out, _, hW, by omega, hLc, rfl, ⟨rfl, rfl, rfl, rfl, rfl, rfl, rfl, rfl, trivial⟩, rfl, rfl, rfl, rfl⟩
    have hk : k < t.calls.length := by simp at hc; omega
    obtain ⟨r, hr⟩ := get_some hk
    have hrok := valid_call (validT_X hd) (List.mem_of_getElem? hr)
    have hcnt := hcr r hrok
    have hcb1 := hcb r hrok
    obtain ⟨n, hn⟩ : ∃ n, n = cnt N P Q r := ⟨_, rfl⟩
    rw [← hn] at hcnt hcb1
    have hsp : 0 ≤ r.lo ∧ r.lo ≤ r.hi ∧ r.hi ≤ 300 := by
      have hc := hrok
      unfold callOk at hc
      split at hc
      · simp only [inB', spB, Bool.and_eq_true, decide_eq_true_eq] at hc; omega
      · simp only [spB, Bool.and_eq_true, decide_eq_true_eq] at hc; omega
    conv => whnf
    refine ⟨⟨by omega, by omega⟩, ?_⟩
    conv => whnf
    refine ⟨_, hv.call hr, ?_⟩
    conv => whnf
    refine ⟨_, at_push_self _ _, ?_⟩
    conv => whnf
    have hN1 := hW.new (.blk [AV.lit (.int .i64 0), AV.lit (.int .i64 0), AV.lit (.int .i64 0), AV.lit (.int .i64 0)]) (.blk [.c (I r.kind), .c (I r.pos), .c (I r.lo), .c (I r.hi)])
    have hrm : Heap.at ((h.push .dead (.blk [AV.lit (.int .i64 0), AV.lit (.int .i64 0), AV.lit (.int .i64 0), AV.lit (.int .i64 0)])).set .dead h.n (.blk [.c (I r.kind), .c (I r.pos), .c (I r.lo), .c (I r.hi)])) h.n = .blk [.c (I r.kind), .c (I r.pos), .c (I r.lo), .c (I r.hi)] := at_new _ _ _
    have hwn := hW.n
    have hno : ∀ o, outId out = some o → o < h.n := hW.R.lt
    have hgn := new_n h (.blk [AV.lit (.int .i64 0), AV.lit (.int .i64 0), AV.lit (.int .i64 0), AV.lit (.int .i64 0)]) (.blk [.c (I r.kind), .c (I r.pos), .c (I r.lo), .c (I r.hi)])
    generalize hG : TMap.set AB.dead (TMap.push AB.dead h _) _ _ = G at hN1 hrm hgn ⊢
    clear hG
    refine ⟨_, hrm, ?_⟩
    conv => whnf
    refine .snapped _ _ _ _ _ (snap_two hN1.ra.ints.2 hN1.rc.ints.2 _) hcnt rfl ?_
    rw [show ∀ (z : Int) (ids : List Nat), killed (I z) ids = [] from fun _ _ => rfl]
    conv => whnf
    obtain ⟨W, hW'⟩ : ∃ W, W = min 20 (r.hi - r.lo) := ⟨_, rfl⟩
    obtain ⟨e, h2, cd, ⟨z, z1, z2, rfl⟩, dA2, F2⟩ := draw_ret hby (lo := 0) (hi := W) (by omega) (by omega) (by omega) (a := a + k) (by omega) hN1.bA hN1.bY (by omega) (by omega) (by decide)
    have hD := hN1.draw F2 dA2
    have hrD : Heap.at h2 h.n = .blk [.c (I r.kind), .c (I r.pos), .c (I r.lo), .c (I r.hi)] := (F2.keep _ (by omega) (by omega)).trans hrm
    have h2n : h.n < h2.n := by have := F2.n; omega
    refine ⟨_, hrm, ?_⟩
    conv => whnf
    refine ⟨_, hrm, ?_⟩
    conv => whnf
    refine ⟨r.hi - r.lo, by rw [wrap_eq (by omega) (by omega)], ?_⟩
    conv => whnf
    rw [show min 20 (r.hi - r.lo) = W from hW'.symm]
    refine .ret (mkspan_ret _ _) rfl ?_
    conv => whnf
    refine .inl _ h2 .no cd ?_
    conv => whnf
    refine ⟨n - z, by rw [wrap_eq (by omega) (by omega)], ?_⟩
    conv => whnf
    refine ⟨n + W, by rw [wrap_eq (by omega) (by omega)], ?_⟩
    conv => whnf
    refine .ret (mkspan_ret _ _) rfl ?_
    conv => whnf
    refine ⟨_, hrD, ?_⟩
    conv => whnf
    obtain ⟨c', hc'⟩ : ∃ c' : Cl, c' = ⟨r.kind, r.pos, max 0 (n - z), min 300 (n + W)⟩ := ⟨_, rfl⟩
    have hM := hD.put (k := h.n) hwn (fun e => by have := hno _ e; omega) (.blk [.c (I r.kind), .c (I r.pos), .c (I (max 0 (n - z))), .c (I (min 300 (n + W)))])
    have hMr : Heap.at (h2.set .dead h.n (.blk [.c (I r.kind), .c (I r.pos), .c (I (max 0 (n - z))), .c (I (min 300 (n + W)))])) h.n = .blk ((rowCl c').map .c) := by rw [hc']; exact at_set_self _ _ h2n
    generalize hG : TMap.set AB.dead h2 h.n _ = M at hM hMr ⊢
    clear hG
    have hLc' : callOk t.n c' = true ∧ c'.lo ≤ cnt N P Q c' ∧ cnt N P Q c' ≤ c'.hi := by
      have hcn : cnt N P Q c' = n := by rw [hn, hc']; rfl
      rw [hcn]
      have hlo : c'.lo = max 0 (n - z) := by rw [hc']
      have hhi : c'.hi = min 300 (n + W) := by rw [hc']
      refine ⟨?_, by omega, by omega⟩
      have hok' : spB c'.lo c'.hi 0 300 = true := by
        simp only [spB, Bool.and_eq_true, decide_eq_true_eq]; omega
      have hkk : c'.kind = r.kind := by rw [hc']
      have hpp : c'.pos = r.pos := by rw [hc']
      unfold callOk at hrok ⊢
      rw [hkk, hpp, hok']
      split at hrok
      · simp only [Bool.and_eq_true] at hrok ⊢
        exact ⟨hrok.1, trivial⟩
      · simp only [Bool.and_eq_true] at hrok ⊢
        exact ⟨hrok.1, trivial⟩
    have hrl : ∀ r ∈ L.map rowCl, r.length = 4 := rowCl_len _
    have hlim : (L.map rowCl).length + 1 ≤ limit := by rw [List.length_map]; unfold limit; omega
    rcases hM.R.shape with rfl | ⟨o, m, rfl⟩
    all_goals
      refine ⟨_, hM.bx, ?_⟩
      conv => whnf
      refine ⟨_, hMr, ?_⟩
      conv => whnf
      obtain ⟨rr, hrr, hR', hold, hn', hfresh⟩ := rows_append (row := rowCl c') (t := 23) (u := 23) hM.R U23 U23 rfl S46 rfl hrl rfl hlim
      have hE := hM.app hR' hold hn' hfresh
      have hbx' := (hold X hM.n (fun e => by have := hM.ho X e; omega)).trans hM.bx
      obtain ⟨rv, rreads, rupds, rfresh⟩ := rr
      rcases hR' with ⟨_, hh⟩ | ⟨o', ho', hb', hlt', hne'⟩
      · exact absurd hh (by simp)
      simp only at ho'
      subst ho'
      refine ⟨_, hrr, ?_⟩
      conv => whnf
      refine ⟨_, hbx', ?_⟩
      conv => whnf
      refine ⟨((k + 1 : Nat) : Int), by rw [wrap_eq (by omega) (by omega)]; omega, ?_⟩
      conv => whnf
      refine ⟨t.calls.length - (k + 1), by omega, k + 1, _, L ++ [c'], _, by omega, rfl, hE, by rw [List.length_append, hLl]; rfl, fun y hy => ?_, rfl, ⟨rfl, rfl, rfl, rfl, rfl, rfl, rfl, rfl, rfl, rfl, rfl, rfl, trivial⟩, rfl, rfl, rfl, rfl⟩
      rcases List.mem_append.1 hy with h1 | h1
      · exact hLc y h1
      · rw [List.mem_singleton] at h1; subst h1; exact hLc'
  rintro st ⟨h, L, out, a', hW, hLl, hLc, hs1⟩
  obtain ⟨T, hT⟩ : ∃ T : Td, T = { t with calls := L } := ⟨_, rfl⟩
  have hTn : T.n = t.n := by rw [hT]
  have hTm : T.most = t.most := by rw [hT]
  have hTs : T.strays = t.strays := by rw [hT]
  have hTc : T.calls = L := by rw [hT]
  have hi : (callsV v L).Is T := by rw [hT]; exact callsV_is hv (by omega)
  have hTd : validT T = true := by
    simp only [validT, Bool.and_eq_true, decide_eq_true_eq, List.all_eq_true] at hd ⊢
    obtain ⟨q1, q2, ⟨q3, q4⟩, q5, q6⟩ := hd
    rw [hTn, hTm, hTs, hTc]
    exact ⟨q1, q2, ⟨q3, q4⟩, by omega, fun c hc => (hLc c hc).1⟩
  have hTT : Tru T N P S Q := ⟨fun k hk => by rw [hTm]; exact hTr.p k hk, fun k r hr => hTr.s k r (by rw [← hTs]; exact hr), hTr.s0, hTr.q, hTr.q0⟩
  have hTN : T.n = N := hTn.trans hN
  have hx := tru_tr hTd hTN hTT (fun c hc => (hLc c (by rw [← hTc]; exact hc)).2)
  clear hT
  obtain ⟨f1, f2, f3⟩ := tr_false hTd hx
  have hfa := false_ret hi
  have hsu := susp_ret hi
  have hcl := clash_ret hi
  rw [f1] at hfa
  rw [f2] at hsu
  rw [f3] at hcl
  dsimp only [pairV] at hfa hsu hcl
  have xlo : ∀ k, k ≤ N → xOf N P Q k = sumP P k := fun k hk => x_low (by omega) P Q hk
  have xhi : ∀ k, k ≤ N → xOf N P Q (6 + k) = sumP Q k := fun k hk => x_high P Q hk
  have hPk : ∀ k, k < N → la[k]? = some (P k) := fun k hk => by
    obtain ⟨y, hy⟩ := get_some (l := la) (show k < la.length by omega)
    rw [hy, hP]; dsimp only; rw [List.getD_eq_getElem?_getD, hy]; rfl
  have hQk : ∀ k, k < N → lc[k]? = some (Q k) := fun k hk => by
    obtain ⟨y, hy⟩ := get_some (l := lc) (show k < lc.length by omega)
    rw [hy, hQ]; dsimp only; rw [List.getD_eq_getElem?_getD, hy]; rfl
  obtain ⟨M, hM⟩ : ∃ M, M = t.strays.length := ⟨_, rfl⟩
  have hMN : M = N - 1 := by omega
  rw [← hM] at hl2 e4
  have hSk : ∀ k, k < M → lb[k]? = some (S k) := fun k hk => by
    obtain ⟨y, hy⟩ := get_some (l := lb) (show k < lb.length by omega)
    rw [hy, hS]; dsimp only; rw [List.getD_eq_getElem?_getD, hy]; rfl
  have hrdA : ∀ q, q < N → readVar Try.prog 3 ((la.map I).map .c) (0 + (q : Int).toNat * Try.prog.types[3].size) = some (.c (I (P q))) := fun q hq => readVar_map (by
    show (la.map I)[0 + (q : Int).toNat * 1]? = some (I (P q))
    rw [show 0 + (q : Int).toNat * 1 = q by omega, List.getElem?_map, hPk q hq]; rfl)
  have hrdB : ∀ q, q < M → readVar Try.prog 3 ((lb.map I).map .c) (0 + (q : Int).toNat * Try.prog.types[3].size) = some (.c (I (S q))) := fun q hq => readVar_map (by
    show (lb.map I)[0 + (q : Int).toNat * 1]? = some (I (S q))
    rw [show 0 + (q : Int).toNat * 1 = q by omega, List.getElem?_map, hSk q hq]; rfl)
  have hrdC : ∀ q, q < N → readVar Try.prog 3 ((lc.map I).map .c) (0 + (q : Int).toNat * Try.prog.types[3].size) = some (.c (I (Q q))) := fun q hq => readVar_map (by
    show (lc.map I)[0 + (q : Int).toNat * 1]? = some (I (Q q))
    rw [show 0 + (q : Int).toNat * 1 = q by omega, List.getElem?_map, hQk q hq]; rfl)
  have inb : ∀ {x a b : Int}, a ≤ x → x ≤ b → inB' x a b = true := fun h1 h2 => by simp [inB', h1, h2]
  have hsh : ∀ k, k < N → ∃ a b : Int, Ret Try.prog 22 ((callsV v L).cv :: [I k]) (.tuple [.agg [I a, I b], I 0]) ∧ inB' (P k) a b = true := fun k hk => by
    obtain ⟨a, b, h1, h2, h3⟩ := tr_span hTd hx (f := k) (g := k + 1) (by omega) (by omega)
    have hr := shorn_ret hi (k : Int)
    rw [show inB' (k : Int) 0 (T.n - 1) = true from inb (by omega) (by omega), Int.toNat_natCast, h1] at hr
    rw [xlo k (by omega), xlo (k + 1) (by omega)] at h2 h3
    simp only [sumP] at h2 h3
    exact ⟨a, b, hr, inb (by omega) (by omega)⟩
  have hpe : ∀ k, k < N → ∃ a b : Int, Ret Try.prog 23 ((callsV v L).cv :: [I k]) (.tuple [.agg [I a, I b], I 0]) ∧ inB' (Q k) a b = true := fun k hk => by
    obtain ⟨a, b, h1, h2, h3⟩ := tr_span hTd hx (f := 6 + k) (g := 6 + (k + 1)) (by omega) (by omega)
    have hr := pen_ret' hi (k : Int)
    rw [show inB' (k : Int) 0 (T.n - 1) = true from inb (by omega) (by omega), Int.toNat_natCast, h1] at hr
    rw [xhi k (by omega), xhi (k + 1) (by omega)] at h2 h3
    simp only [sumP] at h2 h3
    exact ⟨a, b, hr, inb (by omega) (by omega)⟩
  have hst : ∀ k, k < M → ∃ a b : Int, Ret Try.prog 24 ((callsV v L).cv :: [I k]) (.tuple [.agg [I a, I b], I 0]) ∧ inB' (S k) a b = true := fun k hk => by
    obtain ⟨a, b, h1, h2, h3⟩ := tr_span hTd hx (f := 6 + (k + 1)) (g := k + 1) (by omega) (by omega)
    have hr := stray_ret hi (k : Int)
    rw [show inB' (k : Int) 0 (T.n - 2) = true from inb (by omega) (by omega), Int.toNat_natCast, h1] at hr
    rw [xhi (k + 1) (by omega), xlo (k + 1) (by omega), hTT.sumQ (k + 1) (by omega), if_neg (by omega), show k + 1 - 1 = k by omega] at h2 h3
    exact ⟨a, b, hr, inb (by omega) (by omega)⟩
  have hto : ∀ k m, k ≤ m → m < N → ∃ a b : Int, Ret Try.prog 25 ((callsV v L).cv :: [I k, I m]) (.tuple [.agg [I a, I b], I 0]) ∧ inB' (sumP P (m + 1) - sumP P k) a b = true := fun k m hkm hm => by
    obtain ⟨a, b, h1, h2, h3⟩ := tr_span hTd hx (f := k) (g := m + 1) (by omega) (by omega)
    have hr := together_ret hi (k : Int) (m : Int)
    rw [show inB' (k : Int) 0 (T.n - 1) = true from inb (by omega) (by omega), show inB' (m : Int) 0 (T.n - 1) = true from inb (by omega) (by omega), show decide ((k : Int) > (m : Int)) = false by simp; omega, Int.toNat_natCast, Int.toNat_natCast] at hr
    rw [show (true && (true && !false)) = true from rfl, h1] at hr
    rw [xlo k (by omega), xlo (m + 1) (by omega)] at h2 h3
    exact ⟨a, b, hr, inb (by omega) (by omega)⟩
  refine hs1.then ?_
  conv => whnf
  obtain ⟨i, hiE⟩ : ∃ i, i = w1 % N := ⟨_, rfl⟩
  obtain ⟨j, hjE⟩ : ∃ j, j = w2 % N := ⟨_, rfl⟩
  have hiN : i < N := by rw [hiE]; exact Nat.mod_lt _ (by omega)
  have hjN : j < N := by rw [hjE]; exact Nat.mod_lt _ (by omega)
  obtain ⟨A, hA'⟩ : ∃ A, A = min i j := ⟨_, rfl⟩
  obtain ⟨C, hC'⟩ : ∃ C, C = max i j := ⟨_, rfl⟩
  have hAC : A ≤ C := by omega
  have hCN : C < N := by omega
  have hob : ob = nilA ∧ M = 0 ∨ ∃ ib, ob = .msl ib 1 0 M M := by
    rcases hW.rb with ⟨h1, h2⟩ | ⟨ib, h1, _⟩
    · refine .inl ⟨h1, ?_⟩
      have : lb = [] := by simpa using h2
      rw [this] at hl2
      simpa using hl2.symm
    · exact .inr ⟨ib, by rw [h1, List.length_map, hl2]⟩
  rcases hW.R.shape with rfl | ⟨o, m, rfl⟩
  · repeat (refine then_seq (hm := false) ?_; conv => whnf)
    refine ⟨_, hW.bx, ?_⟩
    conv => whnf
    refine callW5 hW.R hfa rfl ?_
    conv => whnf
    repeat (refine then_seq (hm := false) ?_; conv => whnf)
    refine ⟨_, hW.bx, ?_⟩
    conv => whnf
    refine callW5 hW.R hsu rfl ?_
    conv => whnf
    repeat (refine then_seq (hm := false) ?_; conv => whnf)
    refine ⟨_, hW.bx, ?_⟩
    conv => whnf
    refine callW5 hW.R hcl rfl ?_
    conv => whnf
    refine then_seq (hm := false) ?_
    conv => whnf
    refine then_via (hm := false) (fun st => ∃ h : Heap, WH v bc bo bn X 2 1 a' la lb lc (.msl ia 1 0 N N) ob (.msl ic 1 0 N N) L nilA h ∧
      Has st 324 [(2, .c (.lit (.int .u8 w1))), (3, .c (.lit (.int .u8 w2))), (4, .ptr 0 0), (8, .c (B false)), (10, .msl ia 1 0 N N), (12, .msl ic 1 0 N N), (14, .ptr X 0)] [] none h) ?_ ?_
    · conv => whnf
      refine loop_by (I := fun n st => ∃ (k : Nat) (h : Heap), k ≤ N ∧ n = N - k ∧ WH v bc bo bn X 2 1 a' la lb lc (.msl ia 1 0 N N) ob (.msl ic 1 0 N N) L nilA h ∧
        Has st 324 [(2, .c (.lit (.int .u8 w1))), (3, .c (.lit (.int .u8 w2))), (4, .ptr 0 0), (8, .c (B false)), (10, .msl ia 1 0 N N), (11, ob), (12, .msl ic 1 0 N N), (14, .ptr X 0), (147, .msl ia 1 0 N N), (148, .c (I N)), (149, .c (I k))] [] none h) ?_ (k := N)
        ⟨0, _, Nat.zero_le _, rfl, hW, rfl, ⟨rfl, rfl, rfl, rfl, rfl, rfl, rfl, rfl, rfl, rfl, rfl, trivial⟩, rfl, rfl, rfl, rfl⟩
      clear hW
      rintro n st ⟨k, h, hk, rfl, hW, hs1⟩
      refine hs1.run (hm := false) ?_
      rcases hob with ⟨rfl, hM0⟩ | ⟨ib, rfl⟩
      · conv => whnf
        cases hc : decide ((k : Int) < (N : Int))
        case false =>
          conv => whnf
          exact ⟨_, hW, rfl, ⟨rfl, rfl, rfl, rfl, rfl, rfl, rfl, trivial⟩, rfl, rfl, rfl, rfl⟩
        have hkN : k < N := by simp at hc; omega
        obtain ⟨a1, b1, hr1, hi1⟩ := hsh k hkN
        obtain ⟨a2, b2, hr2, hi2⟩ := hpe k hkN
        conv => whnf
        refine ⟨⟨rfl, by omega, by omega⟩, ?_⟩
        conv => whnf
        refine ⟨_, hW.ra.ints.2, ?_⟩
        conv => whnf
        refine look_read (hrdA k hkN) ?_
        conv => whnf
        refine ⟨_, hW.bx, ?_⟩
        conv => whnf
        refine callW5 hW.R hr1 rfl ?_
        conv => whnf
        refine ⟨_, at_push_self _ _, ?_⟩
        conv => whnf
        have hN1 := hW.new (.blk [AV.lit (.int .i64 0), AV.lit (.int .i64 0)]) (.blk [.c (I a1), .c (I b1)])
        have hm1 : Heap.at ((h.push .dead (.blk [AV.lit (.int .i64 0), AV.lit (.int .i64 0)])).set .dead h.n (.blk [.c (I a1), .c (I b1)])) h.n = .blk [.c (I a1), .c (I b1)] := at_new _ _ _
        have hgn := new_n h (.blk [AV.lit (.int .i64 0), AV.lit (.int .i64 0)]) (.blk [.c (I a1), .c (I b1)])
        generalize hG : TMap.set AB.dead (TMap.push AB.dead h _) _ _ = G at hN1 hm1 hgn ⊢
        clear hG
        refine ⟨_, hN1.bx, ?_⟩
        conv => whnf
        refine callW5 hN1.R hr2 rfl ?_
        conv => whnf
        refine ⟨_, at_push_self _ _, ?_⟩
        conv => whnf
        have hN2 := hN1.new (.blk [AV.lit (.int .i64 0), AV.lit (.int .i64 0)]) (.blk [.c (I a2), .c (I b2)])
        have hm2 : Heap.at ((G.push .dead (.blk [AV.lit (.int .i64 0), AV.lit (.int .i64 0)])).set .dead G.n (.blk [.c (I a2), .c (I b2)])) h.n = .blk [.c (I a1), .c (I b1)] := (at_old _ _ _ (by omega)).trans hm1
        have hm3 : Heap.at ((G.push .dead (.blk [AV.lit (.int .i64 0), AV.lit (.int .i64 0)])).set .dead G.n (.blk [.c (I a2), .c (I b2)])) G.n = .blk [.c (I a2), .c (I b2)] := at_new _ _ _
        have hgn2 := new_n G (.blk [AV.lit (.int .i64 0), AV.lit (.int .i64 0)]) (.blk [.c (I a2), .c (I b2)])
        generalize hG : TMap.set AB.dead (TMap.push AB.dead G _) _ _ = H at hN2 hm2 hm3 hgn2 ⊢
        clear hG
        refine draw_by (hm := false) (by kernel_rfl) (by kernel_rfl) ?_
        conv => whnf
        refine ⟨_, hm2, ?_⟩
        conv => whnf
        refine .pure _ _ rfl (inside_ret _ _ _) ?_
        rw [hi1]
        conv => whnf
        refine ⟨⟨rfl, by omega, by omega⟩, ?_⟩
        conv => whnf
        refine ⟨_, hN2.rc.ints.2, ?_⟩
        conv => whnf
        refine look_read (hrdC k hkN) ?_
        conv => whnf
        refine ⟨_, hm3, ?_⟩
        conv => whnf
        refine .pure _ _ rfl (inside_ret _ _ _) ?_
        rw [hi2]
        conv => whnf
        refine ⟨by kernel_rfl, ?_⟩
        conv => whnf
        refine ⟨((k + 1 : Nat) : Int), by rw [wrap_eq (by omega) (by omega)]; omega, ?_⟩
        conv => whnf
        exact ⟨N - (k + 1), by omega, k + 1, _, by omega, rfl, hN2, rfl, ⟨rfl, rfl, rfl, rfl, rfl, rfl, rfl, rfl, rfl, rfl, rfl, trivial⟩, rfl, rfl, rfl, rfl⟩
      · conv => whnf
        cases hc : decide ((k : Int) < (N : Int))
        case false =>
          conv => whnf
          exact ⟨_, hW, rfl, ⟨rfl, rfl, rfl, rfl, rfl, rfl, rfl, trivial⟩, rfl, rfl, rfl, rfl⟩
        have hkN : k < N := by simp at hc; omega
        obtain ⟨a1, b1, hr1, hi1⟩ := hsh k hkN
        obtain ⟨a2, b2, hr2, hi2⟩ := hpe k hkN
        conv => whnf
        refine ⟨⟨rfl, by omega, by omega⟩, ?_⟩
        conv => whnf
        refine ⟨_, hW.ra.ints.2, ?_⟩
        conv => whnf
        refine look_read (hrdA k hkN) ?_
        conv => whnf
        refine ⟨_, hW.bx, ?_⟩
        conv => whnf
        refine callW5 hW.R hr1 rfl ?_
        conv => whnf
        refine ⟨_, at_push_self _ _, ?_⟩
        conv => whnf
        have hN1 := hW.new (.blk [AV.lit (.int .i64 0), AV.lit (.int .i64 0)]) (.blk [.c (I a1), .c (I b1)])
        have hm1 : Heap.at ((h.push .dead (.blk [AV.lit (.int .i64 0), AV.lit (.int .i64 0)])).set .dead h.n (.blk [.c (I a1), .c (I b1)])) h.n = .blk [.c (I a1), .c (I b1)] := at_new _ _ _
        have hgn := new_n h (.blk [AV.lit (.int .i64 0), AV.lit (.int .i64 0)]) (.blk [.c (I a1), .c (I b1)])
        generalize hG : TMap.set AB.dead (TMap.push AB.dead h _) _ _ = G at hN1 hm1 hgn ⊢
        clear hG
        refine ⟨_, hN1.bx, ?_⟩
        conv => whnf
        refine callW5 hN1.R hr2 rfl ?_
        conv => whnf
        refine ⟨_, at_push_self _ _, ?_⟩
        conv => whnf
        have hN2 := hN1.new (.blk [AV.lit (.int .i64 0), AV.lit (.int .i64 0)]) (.blk [.c (I a2), .c (I b2)])
        have hm2 : Heap.at ((G.push .dead (.blk [AV.lit (.int .i64 0), AV.lit (.int .i64 0)])).set .dead G.n (.blk [.c (I a2), .c (I b2)])) h.n = .blk [.c (I a1), .c (I b1)] := (at_old _ _ _ (by omega)).trans hm1
        have hm3 : Heap.at ((G.push .dead (.blk [AV.lit (.int .i64 0), AV.lit (.int .i64 0)])).set .dead G.n (.blk [.c (I a2), .c (I b2)])) G.n = .blk [.c (I a2), .c (I b2)] := at_new _ _ _
        have hgn2 := new_n G (.blk [AV.lit (.int .i64 0), AV.lit (.int .i64 0)]) (.blk [.c (I a2), .c (I b2)])
        generalize hG : TMap.set AB.dead (TMap.push AB.dead G _) _ _ = H at hN2 hm2 hm3 hgn2 ⊢
        clear hG
        refine draw_by (hm := false) (by kernel_rfl) (by kernel_rfl) ?_
        conv => whnf
        refine ⟨_, hm2, ?_⟩
        conv => whnf
        refine .pure _ _ rfl (inside_ret _ _ _) ?_
        rw [hi1]
        conv => whnf
        refine ⟨⟨rfl, by omega, by omega⟩, ?_⟩
        conv => whnf
        refine ⟨_, hN2.rc.ints.2, ?_⟩
        conv => whnf
        refine look_read (hrdC k hkN) ?_
        conv => whnf
        refine ⟨_, hm3, ?_⟩
        conv => whnf
        refine .pure _ _ rfl (inside_ret _ _ _) ?_
        rw [hi2]
        conv => whnf
        refine ⟨by kernel_rfl, ?_⟩
        conv => whnf
        cases hkM : decide ((k : Int) < (M : Int))
        · conv => whnf
          refine ⟨((k + 1 : Nat) : Int), by rw [wrap_eq (by omega) (by omega)]; omega, ?_⟩
          conv => whnf
          exact ⟨N - (k + 1), by omega, k + 1, _, by omega, rfl, hN2, rfl, ⟨rfl, rfl, rfl, rfl, rfl, rfl, rfl, rfl, rfl, rfl, rfl, trivial⟩, rfl, rfl, rfl, rfl⟩
        have hkM' : k < M := by simp at hkM; omega
        obtain ⟨a3, b3, hr3, hi3⟩ := hst k hkM'
        conv => whnf
        refine ⟨_, hN2.bx, ?_⟩
        conv => whnf
        refine callW5 hN2.R hr3 rfl ?_
        conv => whnf
        refine ⟨_, at_push_self _ _, ?_⟩
        conv => whnf
        have hN3 := hN2.new (.blk [AV.lit (.int .i64 0), AV.lit (.int .i64 0)]) (.blk [.c (I a3), .c (I b3)])
        have hm4 : Heap.at ((H.push .dead (.blk [AV.lit (.int .i64 0), AV.lit (.int .i64 0)])).set .dead H.n (.blk [.c (I a3), .c (I b3)])) H.n = .blk [.c (I a3), .c (I b3)] := at_new _ _ _
        generalize hG : TMap.set AB.dead (TMap.push AB.dead H _) _ _ = H' at hN3 hm4 ⊢
        clear hG
        refine draw_by (hm := false) (by kernel_rfl) (by kernel_rfl) ?_
        conv => whnf
        refine ⟨⟨rfl, by omega, by omega⟩, ?_⟩
        conv => whnf
        refine ⟨_, hN3.rb.ints.2, ?_⟩
        conv => whnf
        refine look_read (hrdB k hkM') ?_
        conv => whnf
        refine ⟨_, hm4, ?_⟩
        conv => whnf
        refine .pure _ _ rfl (inside_ret _ _ _) ?_
        rw [hi3]
        conv => whnf
        refine ⟨by kernel_rfl, ?_⟩
        conv => whnf
        refine ⟨((k + 1 : Nat) : Int), by rw [wrap_eq (by omega) (by omega)]; omega, ?_⟩
        conv => whnf
        exact ⟨N - (k + 1), by omega, k + 1, _, by omega, rfl, hN3, rfl, ⟨rfl, rfl, rfl, rfl, rfl, rfl, rfl, rfl, rfl, rfl, rfl, trivial⟩, rfl, rfl, rfl, rfl⟩
    rintro st ⟨h, hW, hs1⟩
    refine hs1.then ?_
    conv => whnf
    refine then_seq (hm := false) ?_
    conv => whnf
    refine draw_by (hm := false) (by kernel_rfl) (by kernel_rfl) ?_
    conv => whnf
    refine ⟨_, hW.b0, ?_⟩
    conv => whnf
    refine dplain_val (rem_to ((i : Nat) : Int) rfl rfl rfl (by omega) (by rw [e1, rem_nat hw1, hiE]) _ _) ?_
    conv => whnf
    refine ⟨_, hW.b0, ?_⟩
    conv => whnf
    refine dplain_val (rem_to ((j : Nat) : Int) rfl rfl rfl (by omega) (by rw [e1, rem_nat hw2, hjE]) _ _) ?_
    conv => whnf
    refine ⟨by kernel_rfl, ?_⟩
    conv => whnf
    refine then_seq (hm := false) ?_
    conv => whnf
    rw [show min (i : Int) (j : Int) = (A : Int) by omega, show max (i : Int) (j : Int) = (C : Int) by omega]
    refine then_seq (hm := false) ?_
    conv => whnf
    refine then_via (hm := false) (fun st => ∃ h : Heap, WH v bc bo bn X 2 1 a' la lb lc (.msl ia 1 0 N N) ob (.msl ic 1 0 N N) L nilA h ∧
      Has st 324 [(2, .c (.lit (.int .u8 w1))), (3, .c (.lit (.int .u8 w2))), (4, .ptr 0 0), (8, .c (B false)), (10, .msl ia 1 0 N N), (12, .msl ic 1 0 N N), (14, .ptr X 0), (34, .c (I A)), (35, .c (I C)), (36, .c (I (sumP P (C + 1) - sumP P A)))] [] none h) ?_ ?_
    · conv => whnf
      refine ⟨((C + 1 : Nat) : Int), by rw [wrap_eq (by omega) (by omega)]; omega, ?_⟩
      conv => whnf
      rw [aop_slice51 (id := ia) (N := N) (A := A) (B := C + 1) rfl rfl rfl rfl (by omega) (by omega)]
      conv => whnf
      refine loop_by (I := fun n st => ∃ (k : Nat) (h : Heap), k ≤ C + 1 - A ∧ n = C + 1 - A - k ∧ WH v bc bo bn X 2 1 a' la lb lc (.msl ia 1 0 N N) ob (.msl ic 1 0 N N) L nilA h ∧
        Has st 324 [(2, .c (.lit (.int .u8 w1))), (3, .c (.lit (.int .u8 w2))), (4, .ptr 0 0), (8, .c (B false)), (10, .msl ia 1 0 N N), (12, .msl ic 1 0 N N), (14, .ptr X 0), (34, .c (I A)), (35, .c (I C)), (36, .c (I (sumP P (A + k) - sumP P A))), (229, .msl ia 1 A (C + 1 - A) (N - A)), (230, .c (I (C + 1 - A : Nat))), (231, .c (I k))] [] none h) ?_ (k := C + 1 - A)
        ⟨0, _, Nat.zero_le _, rfl, hW, rfl, ⟨rfl, rfl, rfl, rfl, rfl, rfl, rfl, rfl, rfl, by show _ = AV.c (I (sumP P A - sumP P A)); rw [Int.sub_self]; rfl, rfl, rfl, rfl, trivial⟩, rfl, rfl, rfl, rfl⟩
      clear hW
      rintro n st ⟨k, h, hk, rfl, hW, hs1⟩
      refine hs1.run (hm := false) ?_
      conv => whnf
      cases hc : decide ((k : Int) < ((C + 1 - A : Nat) : Int))
      case false =>
        have hkC : A + k = C + 1 := by simp at hc; omega
        rw [hkC]
        conv => whnf
        exact ⟨_, hW, rfl, ⟨rfl, rfl, rfl, rfl, rfl, rfl, rfl, rfl, rfl, rfl, trivial⟩, rfl, rfl, rfl, rfl⟩
      have hkC : A + k < C + 1 := by simp at hc; omega
      have hrd : readVar Try.prog 3 ((la.map I).map .c) (A + (k : Int).toNat * Try.prog.types[3].size) = some (.c (I (P (A + k)))) := readVar_map (by
        show (la.map I)[A + (k : Int).toNat * 1]? = some (I (P (A + k)))
        rw [show A + (k : Int).toNat * 1 = A + k by omega, List.getElem?_map, hPk (A + k) (by omega)]; rfl)
      have s1 := hbd.1 (A + k) (by omega)
      have s2 := hbd.1 A (by omega)
      have s3 := hTr.p (A + k) (by omega)
      conv => whnf
      refine ⟨⟨rfl, by omega, by omega⟩, ?_⟩
      conv => whnf
      refine ⟨_, hW.ra.ints.2, ?_⟩
      conv => whnf
      refine look_read hrd ?_
      conv => whnf
      refine ⟨sumP P (A + (k + 1)) - sumP P A, by rw [show A + (k + 1) = A + k + 1 by omega]; simp only [sumP]; rw [wrap_eq (by omega) (by omega)]; omega, ?_⟩
      conv => whnf
      refine ⟨((k + 1 : Nat) : Int), by rw [wrap_eq (by omega) (by omega)]; omega, ?_⟩
      conv => whnf
      exact ⟨C + 1 - A - (k + 1), by omega, k + 1, _, by omega, rfl, hW, rfl, ⟨rfl, rfl, rfl, rfl, rfl, rfl, rfl, rfl, rfl, rfl, rfl, rfl, rfl, trivial⟩, rfl, rfl, rfl, rfl⟩
    rintro st ⟨h, hW, hs1⟩
    refine hs1.then ?_
    conv => whnf
    obtain ⟨a4, b4, hr4, hi4⟩ := hto A C hAC hCN
    repeat (refine then_seq (hm := false) ?_; conv => whnf)
    refine ⟨_, hW.bx, ?_⟩
    conv => whnf
    refine callW5 hW.R hr4 rfl ?_
    conv => whnf
    refine ⟨_, at_push_self _ _, ?_⟩
    conv => whnf
    have hN1 := hW.new (.blk [AV.lit (.int .i64 0), AV.lit (.int .i64 0)]) (.blk [.c (I a4), .c (I b4)])
    have hm1 : Heap.at ((h.push .dead (.blk [AV.lit (.int .i64 0), AV.lit (.int .i64 0)])).set .dead h.n (.blk [.c (I a4), .c (I b4)])) h.n = .blk [.c (I a4), .c (I b4)] := at_new _ _ _
    generalize hG : TMap.set AB.dead (TMap.push AB.dead h _) _ _ = G at hN1 hm1 ⊢
    clear hG hW
    repeat (refine then_seq (hm := false) ?_; conv => whnf)
    refine ⟨_, hm1, ?_⟩
    conv => whnf
    refine .ret (inside_ret _ _ _) rfl ?_
    conv => whnf
    rw [hi4]
    conv => whnf
    repeat (refine then_seq (hm := false) ?_; conv => whnf)
    have hk3 : w1 % 3 < 3 := Nat.mod_lt _ (by decide)
    obtain ⟨kd, hkd⟩ : ∃ kd : Nat, kd = w1 % 3 := ⟨_, rfl⟩
    refine ⟨by decide, ((kd : Nat) : Int), by rw [hkd]; exact rem_nat hw1 3, ?_⟩
    conv => whnf
    refine .ret (mkcall_ret _ _ _ _) rfl ?_
    conv => whnf
    refine ⟨_, at_push_self _ _, ?_⟩
    conv => whnf
    have hcok : ∀ x y : Int, 0 ≤ x → x ≤ y → y ≤ 300 → callOk t.n ⟨kd, C, x, y⟩ = true := fun x y h1 h2 h3 => by
      have hsp : spB x y 0 300 = true := by simp [spB, h1, h2, h3]
      have hin : inB' (C : Int) 0 (t.n - 1) = true := inb (by omega) (by omega)
      unfold callOk
      obtain rfl | rfl | rfl : kd = 0 ∨ kd = 1 ∨ kd = 2 := by omega
      · show (inB' (C : Int) 0 (t.n - 1) && spB x y 0 300) = true
        rw [hin, hsp]; rfl
      · show (inB' (C : Int) 0 (t.n - 1) && spB x y 0 300) = true
        rw [hin, hsp]; rfl
      · show (decide ((2 : Int) = 2) && spB x y 0 300) = true
        rw [hsp]; rfl
    obtain ⟨n, hn⟩ : ∃ n, n = cnt N P Q ⟨kd, C, 0, 0⟩ := ⟨_, rfl⟩
    have hcn : ∀ x y : Int, cnt N P Q ⟨kd, C, x, y⟩ = n := fun x y => by rw [hn]; rfl
    have hcnt := hcr ⟨kd, C, 0, 0⟩ (hcok 0 0 (by omega) (by omega) (by omega))
    have hnb := hcb ⟨kd, C, 0, 0⟩ (hcok 0 0 (by omega) (by omega) (by omega))
    rw [← hn] at hcnt hnb
    have hN2 := hN1.new (.blk [AV.lit (.int .i64 0), AV.lit (.int .i64 0), AV.lit (.int .i64 0), AV.lit (.int .i64 0)]) (.blk [.c (I kd), .c (I C), .c (I 0), .c (I 0)])
    have hm2 : Heap.at ((G.push .dead (.blk [AV.lit (.int .i64 0), AV.lit (.int .i64 0), AV.lit (.int .i64 0), AV.lit (.int .i64 0)])).set .dead G.n (.blk [.c (I kd), .c (I C), .c (I 0), .c (I 0)])) G.n = .blk [.c (I kd), .c (I C), .c (I 0), .c (I 0)] := at_new _ _ _
    have hgn2 := new_n G (.blk [AV.lit (.int .i64 0), AV.lit (.int .i64 0), AV.lit (.int .i64 0), AV.lit (.int .i64 0)]) (.blk [.c (I kd), .c (I C), .c (I 0), .c (I 0)])
    have hxg := hN1.n
    obtain ⟨m9, hm9⟩ : ∃ m9, m9 = G.n := ⟨_, rfl⟩
    have hno9 := hN1.R.lt
    rw [← hm9] at hno9
    generalize hG : TMap.set AB.dead (TMap.push AB.dead G _) _ _ = H at hN2 hm2 hgn2 ⊢
    clear hG
    rw [← hm9] at hm2 hgn2 hxg ⊢
    repeat (refine then_seq (hm := false) ?_; conv => whnf)
    refine ⟨_, hm2, ?_⟩
    conv => whnf
    refine .snapped _ _ _ _ _ (snap_two hN2.ra.ints.2 hN2.rc.ints.2 _) hcnt rfl ?_
    rw [show ∀ (z : Int) (ids : List Nat), killed (I z) ids = [] from fun _ _ => rfl]
    conv => whnf
    have hfit : ∀ x y : Int, 0 ≤ x → x ≤ y → y ≤ 300 → ∃ F : Int, Ret Try.prog 26 ((callsV v L).cv :: [clV ⟨kd, C, x, y⟩]) (.tuple [I F, I 0]) ∧ (F = 2 → inB' n x y = true) ∧ (F = 0 → inB' n x y = false) := fun x y h1 h2 h3 => by
      obtain ⟨F, hF, g1, g2⟩ := tr_fits hTd hTN hTT hx (c := ⟨kd, C, x, y⟩) (by rw [hTn]; exact hcok x y h1 h2 h3)
      have hr := fitsAll_ret hi ⟨kd, C, x, y⟩
      rw [hF] at hr
      rw [hcn] at g1 g2
      refine ⟨F, hr, fun h => inb (g1 h).1 (g1 h).2, fun h => ?_⟩
      have hno := g2 h
      cases hin : inB' n x y
      · rfl
      · exfalso
        simp only [inB', Bool.and_eq_true, decide_eq_true_eq] at hin
        exact hno hin
    obtain ⟨F1, hF1, g1, g2⟩ := hfit n n (by omega) (by omega) (by omega)
    have hF1n : F1 ≠ 0 := fun h => by
      have := g2 h
      rw [inb (Int.le_refl n) (Int.le_refl n)] at this
      exact absurd this (by decide)
    repeat (refine then_seq (hm := false) ?_; conv => whnf)
    refine .ret (mkspan_ret _ _) rfl ?_
    conv => whnf
    refine ⟨_, hm2, ?_⟩
    conv => whnf
    have hN3 := hN2.put (k := m9) hxg (fun e => by have := hno9 _ e; omega) (.blk [.c (I kd), .c (I C), .c (I n), .c (I n)])
    have hm3 : Heap.at (H.set .dead m9 (.blk [.c (I kd), .c (I C), .c (I n), .c (I n)])) m9 = .blk [.c (I kd), .c (I C), .c (I n), .c (I n)] := at_set_self _ _ (by omega)
    have hgn3 : (H.set .dead m9 (.blk [.c (I kd), .c (I C), .c (I n), .c (I n)])).n = H.n := TMap.set_n ..
    repeat (refine then_seq (hm := false) ?_; conv => whnf)
    refine ⟨_, hN3.bx, ?_⟩
    conv => whnf
    refine ⟨_, hm3, ?_⟩
    conv => whnf
    refine callW5 hN3.R hF1 rfl ?_
    conv => whnf
    have hmin : min 300 ((w2 : Int) + ((w1 % 40 : Nat) : Int)) = ((min 300 (w2 + w1 % 40) : Nat) : Int) := by omega
    obtain ⟨F2, hF2, g3, g4⟩ := hfit (w2 : Int) ((min 300 (w2 + w1 % 40) : Nat) : Int) (by omega) (by omega) (by omega)
    repeat (refine then_seq (hm := false) ?_; conv => whnf)
    refine ⟨by decide, ((w1 % 40 : Nat) : Int), rem_nat hw1 40, ?_⟩
    conv => whnf
    refine ⟨(w2 : Int) + ((w1 % 40 : Nat) : Int), by have := Nat.mod_lt w1 (show 0 < 40 by decide); rw [wrap_u8 hw2, wrap_eq (by omega) (by omega)], ?_⟩
    conv => whnf
    rw [wrap_u8 hw2, hmin]
    refine .ret (mkspan_ret _ _) rfl ?_
    conv => whnf
    refine ⟨_, hm3, ?_⟩
    conv => whnf
    obtain ⟨up, hup⟩ : ∃ up : Int, up = ((min 300 (w2 + w1 % 40) : Nat) : Int) := ⟨_, rfl⟩
    rw [← hup] at hF2 g3 g4 ⊢
    have hN4 := hN3.put (k := m9) hxg (fun e => by have := hno9 _ e; omega) (.blk [.c (I kd), .c (I C), .c (I w2), .c (I up)])
    have hm4 : Heap.at ((H.set .dead m9 (.blk [.c (I kd), .c (I C), .c (I n), .c (I n)])).set .dead m9 (.blk [.c (I kd), .c (I C), .c (I w2), .c (I up)])) m9 = .blk [.c (I kd), .c (I C), .c (I w2), .c (I up)] := at_set_self _ _ (by rw [TMap.set_n]; omega)
    generalize hG : TMap.set AB.dead (TMap.set AB.dead H m9 _) m9 _ = H4 at hN4 hm4 ⊢
    clear hG
    repeat (refine then_seq (hm := false) ?_; conv => whnf)
    refine ⟨_, hN4.bx, ?_⟩
    conv => whnf
    refine ⟨_, hm4, ?_⟩
    conv => whnf
    refine callW5 hN4.R hF2 rfl ?_
    conv => whnf
    refine then_end (hm := false) ?_
    conv => whnf
    rw [show (F1 != 0) = true by simp [hF1n]]
    conv => whnf
    by_cases q2 : F2 = 2
    · subst q2
      conv => whnf
      refine ⟨_, hm4, ?_⟩
      conv => whnf
      refine .ret (inside_ret _ _ _) rfl ?_
      conv => whnf
      rw [g3 rfl]
      conv => whnf
      refine .ret hA rfl ?_
      conv => whnf
      exact .val
    · rw [show (F2 != 2) = true by simp [q2]]
      conv => whnf
      by_cases q0 : F2 = 0
      · subst q0
        conv => whnf
        refine ⟨_, hm4, ?_⟩
        conv => whnf
        refine .ret (inside_ret _ _ _) rfl ?_
        conv => whnf
        rw [g4 rfl]
        conv => whnf
        refine .ret hA rfl ?_
        conv => whnf
        exact .val
      · rw [show (F2 != 0) = true by simp [q0]]
        conv => whnf
        refine .ret hA rfl ?_
        conv => whnf
        exact .val
  · repeat (refine then_seq (hm := false) ?_; conv => whnf)
    refine ⟨_, hW.bx, ?_⟩
    conv => whnf
    refine callW5 hW.R hfa rfl ?_
    conv => whnf
    repeat (refine then_seq (hm := false) ?_; conv => whnf)
    refine ⟨_, hW.bx, ?_⟩
    conv => whnf
    refine callW5 hW.R hsu rfl ?_
    conv => whnf
    repeat (refine then_seq (hm := false) ?_; conv => whnf)
    refine ⟨_, hW.bx, ?_⟩
    conv => whnf
    refine callW5 hW.R hcl rfl ?_
    conv => whnf
    refine then_seq (hm := false) ?_
    conv => whnf
    refine then_via (hm := false) (fun st => ∃ h : Heap, WH v bc bo bn X 2 1 a' la lb lc (.msl ia 1 0 N N) ob (.msl ic 1 0 N N) L (.msl o 4 0 m m) h ∧
      Has st 324 [(2, .c (.lit (.int .u8 w1))), (3, .c (.lit (.int .u8 w2))), (4, .ptr 0 0), (8, .c (B false)), (10, .msl ia 1 0 N N), (12, .msl ic 1 0 N N), (14, .ptr X 0)] [] none h) ?_ ?_
    · conv => whnf
      refine loop_by (I := fun n st => ∃ (k : Nat) (h : Heap), k ≤ N ∧ n = N - k ∧ WH v bc bo bn X 2 1 a' la lb lc (.msl ia 1 0 N N) ob (.msl ic 1 0 N N) L (.msl o 4 0 m m) h ∧
        Has st 324 [(2, .c (.lit (.int .u8 w1))), (3, .c (.lit (.int .u8 w2))), (4, .ptr 0 0), (8, .c (B false)), (10, .msl ia 1 0 N N), (11, ob), (12, .msl ic 1 0 N N), (14, .ptr X 0), (147, .msl ia 1 0 N N), (148, .c (I N)), (149, .c (I k))] [] none h) ?_ (k := N)
        ⟨0, _, Nat.zero_le _, rfl, hW, rfl, ⟨rfl, rfl, rfl, rfl, rfl, rfl, rfl, rfl, rfl, rfl, rfl, trivial⟩, rfl, rfl, rfl, rfl⟩
      clear hW
      rintro n st ⟨k, h, hk, rfl, hW, hs1⟩
      refine hs1.run (hm := false) ?_
      rcases hob with ⟨rfl, hM0⟩ | ⟨ib, rfl⟩
      · conv => whnf
        cases hc : decide ((k : Int) < (N : Int))
        case false =>
          conv => whnf
          exact ⟨_, hW, rfl, ⟨rfl, rfl, rfl, rfl, rfl, rfl, rfl, trivial⟩, rfl, rfl, rfl, rfl⟩
        have hkN : k < N := by simp at hc; omega
        obtain ⟨a1, b1, hr1, hi1⟩ := hsh k hkN
        obtain ⟨a2, b2, hr2, hi2⟩ := hpe k hkN
        conv => whnf
        refine ⟨⟨rfl, by omega, by omega⟩, ?_⟩
        conv => whnf
        refine ⟨_, hW.ra.ints.2, ?_⟩
        conv => whnf
        refine look_read (hrdA k hkN) ?_
        conv => whnf
        refine ⟨_, hW.bx, ?_⟩
        conv => whnf
        refine callW5 hW.R hr1 rfl ?_
        conv => whnf
        refine ⟨_, at_push_self _ _, ?_⟩
        conv => whnf
        have hN1 := hW.new (.blk [AV.lit (.int .i64 0), AV.lit (.int .i64 0)]) (.blk [.c (I a1), .c (I b1)])
        have hm1 : Heap.at ((h.push .dead (.blk [AV.lit (.int .i64 0), AV.lit (.int .i64 0)])).set .dead h.n (.blk [.c (I a1), .c (I b1)])) h.n = .blk [.c (I a1), .c (I b1)] := at_new _ _ _
        have hgn := new_n h (.blk [AV.lit (.int .i64 0), AV.lit (.int .i64 0)]) (.blk [.c (I a1), .c (I b1)])
        generalize hG : TMap.set AB.dead (TMap.push AB.dead h _) _ _ = G at hN1 hm1 hgn ⊢
        clear hG
        refine ⟨_, hN1.bx, ?_⟩
        conv => whnf
        refine callW5 hN1.R hr2 rfl ?_
        conv => whnf
        refine ⟨_, at_push_self _ _, ?_⟩
        conv => whnf
        have hN2 := hN1.new (.blk [AV.lit (.int .i64 0), AV.lit (.int .i64 0)]) (.blk [.c (I a2), .c (I b2)])
        have hm2 : Heap.at ((G.push .dead (.blk [AV.lit (.int .i64 0), AV.lit (.int .i64 0)])).set .dead G.n (.blk [.c (I a2), .c (I b2)])) h.n = .blk [.c (I a1), .c (I b1)] := (at_old _ _ _ (by omega)).trans hm1
        have hm3 : Heap.at ((G.push .dead (.blk [AV.lit (.int .i64 0), AV.lit (.int .i64 0)])).set .dead G.n (.blk [.c (I a2), .c (I b2)])) G.n = .blk [.c (I a2), .c (I b2)] := at_new _ _ _
        have hgn2 := new_n G (.blk [AV.lit (.int .i64 0), AV.lit (.int .i64 0)]) (.blk [.c (I a2), .c (I b2)])
        generalize hG : TMap.set AB.dead (TMap.push AB.dead G _) _ _ = H at hN2 hm2 hm3 hgn2 ⊢
        clear hG
        refine draw_by (hm := false) (by kernel_rfl) (by kernel_rfl) ?_
        conv => whnf
        refine ⟨_, hm2, ?_⟩
        conv => whnf
        refine .pure _ _ rfl (inside_ret _ _ _) ?_
        rw [hi1]
        conv => whnf
        refine ⟨⟨rfl, by omega, by omega⟩, ?_⟩
        conv => whnf
        refine ⟨_, hN2.rc.ints.2, ?_⟩
        conv => whnf
        refine look_read (hrdC k hkN) ?_
        conv => whnf
        refine ⟨_, hm3, ?_⟩
        conv => whnf
        refine .pure _ _ rfl (inside_ret _ _ _) ?_
        rw [hi2]
        conv => whnf
        refine ⟨by kernel_rfl, ?_⟩
        conv => whnf
        refine ⟨((k + 1 : Nat) : Int), by rw [wrap_eq (by omega) (by omega)]; omega, ?_⟩
        conv => whnf
        exact ⟨N - (k + 1), by omega, k + 1, _, by omega, rfl, hN2, rfl, ⟨rfl, rfl, rfl, rfl, rfl, rfl, rfl, rfl, rfl, rfl, rfl, trivial⟩, rfl, rfl, rfl, rfl⟩
      · conv => whnf
        cases hc : decide ((k : Int) < (N : Int))
        case false =>
          conv => whnf
          exact ⟨_, hW, rfl, ⟨rfl, rfl, rfl, rfl, rfl, rfl, rfl, trivial⟩, rfl, rfl, rfl, rfl⟩
        have hkN : k < N := by simp at hc; omega
        obtain ⟨a1, b1, hr1, hi1⟩ := hsh k hkN
        obtain ⟨a2, b2, hr2, hi2⟩ := hpe k hkN
        conv => whnf
        refine ⟨⟨rfl, by omega, by omega⟩, ?_⟩
        conv => whnf
        refine ⟨_, hW.ra.ints.2, ?_⟩
        conv => whnf
        refine look_read (hrdA k hkN) ?_
        conv => whnf
        refine ⟨_, hW.bx, ?_⟩
        conv => whnf
        refine callW5 hW.R hr1 rfl ?_
        conv => whnf
        refine ⟨_, at_push_self _ _, ?_⟩
        conv => whnf
        have hN1 := hW.new (.blk [AV.lit (.int .i64 0), AV.lit (.int .i64 0)]) (.blk [.c (I a1), .c (I b1)])
        have hm1 : Heap.at ((h.push .dead (.blk [AV.lit (.int .i64 0), AV.lit (.int .i64 0)])).set .dead h.n (.blk [.c (I a1), .c (I b1)])) h.n = .blk [.c (I a1), .c (I b1)] := at_new _ _ _
        have hgn := new_n h (.blk [AV.lit (.int .i64 0), AV.lit (.int .i64 0)]) (.blk [.c (I a1), .c (I b1)])
        generalize hG : TMap.set AB.dead (TMap.push AB.dead h _) _ _ = G at hN1 hm1 hgn ⊢
        clear hG
        refine ⟨_, hN1.bx, ?_⟩
        conv => whnf
        refine callW5 hN1.R hr2 rfl ?_
        conv => whnf
        refine ⟨_, at_push_self _ _, ?_⟩
        conv => whnf
        have hN2 := hN1.new (.blk [AV.lit (.int .i64 0), AV.lit (.int .i64 0)]) (.blk [.c (I a2), .c (I b2)])
        have hm2 : Heap.at ((G.push .dead (.blk [AV.lit (.int .i64 0), AV.lit (.int .i64 0)])).set .dead G.n (.blk [.c (I a2), .c (I b2)])) h.n = .blk [.c (I a1), .c (I b1)] := (at_old _ _ _ (by omega)).trans hm1
        have hm3 : Heap.at ((G.push .dead (.blk [AV.lit (.int .i64 0), AV.lit (.int .i64 0)])).set .dead G.n (.blk [.c (I a2), .c (I b2)])) G.n = .blk [.c (I a2), .c (I b2)] := at_new _ _ _
        have hgn2 := new_n G (.blk [AV.lit (.int .i64 0), AV.lit (.int .i64 0)]) (.blk [.c (I a2), .c (I b2)])
        generalize hG : TMap.set AB.dead (TMap.push AB.dead G _) _ _ = H at hN2 hm2 hm3 hgn2 ⊢
        clear hG
        refine draw_by (hm := false) (by kernel_rfl) (by kernel_rfl) ?_
        conv => whnf
        refine ⟨_, hm2, ?_⟩
        conv => whnf
        refine .pure _ _ rfl (inside_ret _ _ _) ?_
        rw [hi1]
        conv => whnf
        refine ⟨⟨rfl, by omega, by omega⟩, ?_⟩
        conv => whnf
        refine ⟨_, hN2.rc.ints.2, ?_⟩
        conv => whnf
        refine look_read (hrdC k hkN) ?_
        conv => whnf
        refine ⟨_, hm3, ?_⟩
        conv => whnf
        refine .pure _ _ rfl (inside_ret _ _ _) ?_
        rw [hi2]
        conv => whnf
        refine ⟨by kernel_rfl, ?_⟩
        conv => whnf
        cases hkM : decide ((k : Int) < (M : Int))
        · conv => whnf
          refine ⟨((k + 1 : Nat) : Int), by rw [wrap_eq (by omega) (by omega)]; omega, ?_⟩
          conv => whnf
          exact ⟨N - (k + 1), by omega, k + 1, _, by omega, rfl, hN2, rfl, ⟨rfl, rfl, rfl, rfl, rfl, rfl, rfl, rfl, rfl, rfl, rfl, trivial⟩, rfl, rfl, rfl, rfl⟩
        have hkM' : k < M := by simp at hkM; omega
        obtain ⟨a3, b3, hr3, hi3⟩ := hst k hkM'
        conv => whnf
        refine ⟨_, hN2.bx, ?_⟩
        conv => whnf
        refine callW5 hN2.R hr3 rfl ?_
        conv => whnf
        refine ⟨_, at_push_self _ _, ?_⟩
        conv => whnf
        have hN3 := hN2.new (.blk [AV.lit (.int .i64 0), AV.lit (.int .i64 0)]) (.blk [.c (I a3), .c (I b3)])
        have hm4 : Heap.at ((H.push .dead (.blk [AV.lit (.int .i64 0), AV.lit (.int .i64 0)])).set .dead H.n (.blk [.c (I a3), .c (I b3)])) H.n = .blk [.c (I a3), .c (I b3)] := at_new _ _ _
        generalize hG : TMap.set AB.dead (TMap.push AB.dead H _) _ _ = H' at hN3 hm4 ⊢
        clear hG
        refine draw_by (hm := false) (by kernel_rfl) (by kernel_rfl) ?_
        conv => whnf
        refine ⟨⟨rfl, by omega, by omega⟩, ?_⟩
        conv => whnf
        refine ⟨_, hN3.rb.ints.2, ?_⟩
        conv => whnf
        refine look_read (hrdB k hkM') ?_
        conv => whnf
        refine ⟨_, hm4, ?_⟩
        conv => whnf
        refine .pure _ _ rfl (inside_ret _ _ _) ?_
        rw [hi3]
        conv => whnf
        refine ⟨by kernel_rfl, ?_⟩
        conv => whnf
        refine ⟨((k + 1 : Nat) : Int), by rw [wrap_eq (by omega) (by omega)]; omega, ?_⟩
        conv => whnf
        exact ⟨N - (k + 1), by omega, k + 1, _, by omega, rfl, hN3, rfl, ⟨rfl, rfl, rfl, rfl, rfl, rfl, rfl, rfl, rfl, rfl, rfl, trivial⟩, rfl, rfl, rfl, rfl⟩
    rintro st ⟨h, hW, hs1⟩
    refine hs1.then ?_
    conv => whnf
    refine then_seq (hm := false) ?_
    conv => whnf
    refine draw_by (hm := false) (by kernel_rfl) (by kernel_rfl) ?_
    conv => whnf
    refine ⟨_, hW.b0, ?_⟩
    conv => whnf
    refine dplain_val (rem_to ((i : Nat) : Int) rfl rfl rfl (by omega) (by rw [e1, rem_nat hw1, hiE]) _ _) ?_
    conv => whnf
    refine ⟨_, hW.b0, ?_⟩
    conv => whnf
    refine dplain_val (rem_to ((j : Nat) : Int) rfl rfl rfl (by omega) (by rw [e1, rem_nat hw2, hjE]) _ _) ?_
    conv => whnf
    refine ⟨by kernel_rfl, ?_⟩
    conv => whnf
    refine then_seq (hm := false) ?_
    conv => whnf
    rw [show min (i : Int) (j : Int) = (A : Int) by omega, show max (i : Int) (j : Int) = (C : Int) by omega]
    refine then_seq (hm := false) ?_
    conv => whnf
    refine then_via (hm := false) (fun st => ∃ h : Heap, WH v bc bo bn X 2 1 a' la lb lc (.msl ia 1 0 N N) ob (.msl ic 1 0 N N) L (.msl o 4 0 m m) h ∧
      Has st 324 [(2, .c (.lit (.int .u8 w1))), (3, .c (.lit (.int .u8 w2))), (4, .ptr 0 0), (8, .c (B false)), (10, .msl ia 1 0 N N), (12, .msl ic 1 0 N N), (14, .ptr X 0), (34, .c (I A)), (35, .c (I C)), (36, .c (I (sumP P (C + 1) - sumP P A)))] [] none h) ?_ ?_
    · conv => whnf
      refine ⟨((C + 1 : Nat) : Int), by rw [wrap_eq (by omega) (by omega)]; omega, ?_⟩
      conv => whnf
      rw [aop_slice51 (id := ia) (N := N) (A := A) (B := C + 1) rfl rfl rfl rfl (by omega) (by omega)]
      conv => whnf
      refine loop_by (I := fun n st => ∃ (k : Nat) (h : Heap), k ≤ C + 1 - A ∧ n = C + 1 - A - k ∧ WH v bc bo bn X 2 1 a' la lb lc (.msl ia 1 0 N N) ob (.msl ic 1 0 N N) L (.msl o 4 0 m m) h ∧
        Has st 324 [(2, .c (.lit (.int .u8 w1))), (3, .c (.lit (.int .u8 w2))), (4, .ptr 0 0), (8, .c (B false)), (10, .msl ia 1 0 N N), (12, .msl ic 1 0 N N), (14, .ptr X 0), (34, .c (I A)), (35, .c (I C)), (36, .c (I (sumP P (A + k) - sumP P A))), (229, .msl ia 1 A (C + 1 - A) (N - A)), (230, .c (I (C + 1 - A : Nat))), (231, .c (I k))] [] none h) ?_ (k := C + 1 - A)
        ⟨0, _, Nat.zero_le _, rfl, hW, rfl, ⟨rfl, rfl, rfl, rfl, rfl, rfl, rfl, rfl, rfl, by show _ = AV.c (I (sumP P A - sumP P A)); rw [Int.sub_self]; rfl, rfl, rfl, rfl, trivial⟩, rfl, rfl, rfl, rfl⟩
      clear hW
      rintro n st ⟨k, h, hk, rfl, hW, hs1⟩
      refine hs1.run (hm := false) ?_
      conv => whnf
      cases hc : decide ((k : Int) < ((C + 1 - A : Nat) : Int))
      case false =>
        have hkC : A + k = C + 1 := by simp at hc; omega
        rw [hkC]
        conv => whnf
        exact ⟨_, hW, rfl, ⟨rfl, rfl, rfl, rfl, rfl, rfl, rfl, rfl, rfl, rfl, trivial⟩, rfl, rfl, rfl, rfl⟩
      have hkC : A + k < C + 1 := by simp at hc; omega
      have hrd : readVar Try.prog 3 ((la.map I).map .c) (A + (k : Int).toNat * Try.prog.types[3].size) = some (.c (I (P (A + k)))) := readVar_map (by
        show (la.map I)[A + (k : Int).toNat * 1]? = some (I (P (A + k)))
        rw [show A + (k : Int).toNat * 1 = A + k by omega, List.getElem?_map, hPk (A + k) (by omega)]; rfl)
      have s1 := hbd.1 (A + k) (by omega)
      have s2 := hbd.1 A (by omega)
      have s3 := hTr.p (A + k) (by omega)
      conv => whnf
      refine ⟨⟨rfl, by omega, by omega⟩, ?_⟩
      conv => whnf
      refine ⟨_, hW.ra.ints.2, ?_⟩
      conv => whnf
      refine look_read hrd ?_
      conv => whnf
      refine ⟨sumP P (A + (k + 1)) - sumP P A, by rw [show A + (k + 1) = A + k + 1 by omega]; simp only [sumP]; rw [wrap_eq (by omega) (by omega)]; omega, ?_⟩
      conv => whnf
      refine ⟨((k + 1 : Nat) : Int), by rw [wrap_eq (by omega) (by omega)]; omega, ?_⟩
      conv => whnf
      exact ⟨C + 1 - A - (k + 1), by omega, k + 1, _, by omega, rfl, hW, rfl, ⟨rfl, rfl, rfl, rfl, rfl, rfl, rfl, rfl, rfl, rfl, rfl, rfl, rfl, trivial⟩, rfl, rfl, rfl, rfl⟩
    rintro st ⟨h, hW, hs1⟩
    refine hs1.then ?_
    conv => whnf
    obtain ⟨a4, b4, hr4, hi4⟩ := hto A C hAC hCN
    repeat (refine then_seq (hm := false) ?_; conv => whnf)
    refine ⟨_, hW.bx, ?_⟩
    conv => whnf
    refine callW5 hW.R hr4 rfl ?_
    conv => whnf
    refine ⟨_, at_push_self _ _, ?_⟩
    conv => whnf
    have hN1 := hW.new (.blk [AV.lit (.int .i64 0), AV.lit (.int .i64 0)]) (.blk [.c (I a4), .c (I b4)])
    have hm1 : Heap.at ((h.push .dead (.blk [AV.lit (.int .i64 0), AV.lit (.int .i64 0)])).set .dead h.n (.blk [.c (I a4), .c (I b4)])) h.n = .blk [.c (I a4), .c (I b4)] := at_new _ _ _
    generalize hG : TMap.set AB.dead (TMap.push AB.dead h _) _ _ = G at hN1 hm1 ⊢
    clear hG hW
    repeat (refine then_seq (hm := false) ?_; conv => whnf)
    refine ⟨_, hm1, ?_⟩
    conv => whnf
    refine .ret (inside_ret _ _ _) rfl ?_
    conv => whnf
    rw [hi4]
    conv => whnf
    repeat (refine then_seq (hm := false) ?_; conv => whnf)
    have hk3 : w1 % 3 < 3 := Nat.mod_lt _ (by decide)
    obtain ⟨kd, hkd⟩ : ∃ kd : Nat, kd = w1 % 3 := ⟨_, rfl⟩
    refine ⟨by decide, ((kd : Nat) : Int), by rw [hkd]; exact rem_nat hw1 3, ?_⟩
    conv => whnf
    refine .ret (mkcall_ret _ _ _ _) rfl ?_
    conv => whnf
    refine ⟨_, at_push_self _ _, ?_⟩
    conv => whnf
    have hcok : ∀ x y : Int, 0 ≤ x → x ≤ y → y ≤ 300 → callOk t.n ⟨kd, C, x, y⟩ = true := fun x y h1 h2 h3 => by
      have hsp : spB x y 0 300 = true := by simp [spB, h1, h2, h3]
      have hin : inB' (C : Int) 0 (t.n - 1) = true := inb (by omega) (by omega)
      unfold callOk
      obtain rfl | rfl | rfl : kd = 0 ∨ kd = 1 ∨ kd = 2 := by omega
      · show (inB' (C : Int) 0 (t.n - 1) && spB x y 0 300) = true
        rw [hin, hsp]; rfl
      · show (inB' (C : Int) 0 (t.n - 1) && spB x y 0 300) = true
        rw [hin, hsp]; rfl
      · show (decide ((2 : Int) = 2) && spB x y 0 300) = true
        rw [hsp]; rfl
    obtain ⟨n, hn⟩ : ∃ n, n = cnt N P Q ⟨kd, C, 0, 0⟩ := ⟨_, rfl⟩
    have hcn : ∀ x y : Int, cnt N P Q ⟨kd, C, x, y⟩ = n := fun x y => by rw [hn]; rfl
    have hcnt := hcr ⟨kd, C, 0, 0⟩ (hcok 0 0 (by omega) (by omega) (by omega))
    have hnb := hcb ⟨kd, C, 0, 0⟩ (hcok 0 0 (by omega) (by omega) (by omega))
    rw [← hn] at hcnt hnb
    have hN2 := hN1.new (.blk [AV.lit (.int .i64 0), AV.lit (.int .i64 0), AV.lit (.int .i64 0), AV.lit (.int .i64 0)]) (.blk [.c (I kd), .c (I C), .c (I 0), .c (I 0)])
    have hm2 : Heap.at ((G.push .dead (.blk [AV.lit (.int .i64 0), AV.lit (.int .i64 0), AV.lit (.int .i64 0), AV.lit (.int .i64 0)])).set .dead G.n (.blk [.c (I kd), .c (I C), .c (I 0), .c (I 0)])) G.n = .blk [.c (I kd), .c (I C), .c (I 0), .c (I 0)] := at_new _ _ _
    have hgn2 := new_n G (.blk [AV.lit (.int .i64 0), AV.lit (.int .i64 0), AV.lit (.int .i64 0), AV.lit (.int .i64 0)]) (.blk [.c (I kd), .c (I C), .c (I 0), .c (I 0)])
    have hxg := hN1.n
    obtain ⟨m9, hm9⟩ : ∃ m9, m9 = G.n := ⟨_, rfl⟩
    have hno9 := hN1.R.lt
    rw [← hm9] at hno9
    generalize hG : TMap.set AB.dead (TMap.push AB.dead G _) _ _ = H at hN2 hm2 hgn2 ⊢
    clear hG
    rw [← hm9] at hm2 hgn2 hxg ⊢
    repeat (refine then_seq (hm := false) ?_; conv => whnf)
    refine ⟨_, hm2, ?_⟩
    conv => whnf
    refine .snapped _ _ _ _ _ (snap_two hN2.ra.ints.2 hN2.rc.ints.2 _) hcnt rfl ?_
    rw [show ∀ (z : Int) (ids : List Nat), killed (I z) ids = [] from fun _ _ => rfl]
    conv => whnf
    have hfit : ∀ x y : Int, 0 ≤ x → x ≤ y → y ≤ 300 → ∃ F : Int, Ret Try.prog 26 ((callsV v L).cv :: [clV ⟨kd, C, x, y⟩]) (.tuple [I F, I 0]) ∧ (F = 2 → inB' n x y = true) ∧ (F = 0 → inB' n x y = false) := fun x y h1 h2 h3 => by
      obtain ⟨F, hF, g1, g2⟩ := tr_fits hTd hTN hTT hx (c := ⟨kd, C, x, y⟩) (by rw [hTn]; exact hcok x y h1 h2 h3)
      have hr := fitsAll_ret hi ⟨kd, C, x, y⟩
      rw [hF] at hr
      rw [hcn] at g1 g2
      refine ⟨F, hr, fun h => inb (g1 h).1 (g1 h).2, fun h => ?_⟩
      have hno := g2 h
      cases hin : inB' n x y
      · rfl
      · exfalso
        simp only [inB', Bool.and_eq_true, decide_eq_true_eq] at hin
        exact hno hin
    obtain ⟨F1, hF1, g1, g2⟩ := hfit n n (by omega) (by omega) (by omega)
    have hF1n : F1 ≠ 0 := fun h => by
      have := g2 h
      rw [inb (Int.le_refl n) (Int.le_refl n)] at this
      exact absurd this (by decide)
    repeat (refine then_seq (hm := false) ?_; conv => whnf)
    refine .ret (mkspan_ret _ _) rfl ?_
    conv => whnf
    refine ⟨_, hm2, ?_⟩
    conv => whnf
    have hN3 := hN2.put (k := m9) hxg (fun e => by have := hno9 _ e; omega) (.blk [.c (I kd), .c (I C), .c (I n), .c (I n)])
    have hm3 : Heap.at (H.set .dead m9 (.blk [.c (I kd), .c (I C), .c (I n), .c (I n)])) m9 = .blk [.c (I kd), .c (I C), .c (I n), .c (I n)] := at_set_self _ _ (by omega)
    have hgn3 : (H.set .dead m9 (.blk [.c (I kd), .c (I C), .c (I n), .c (I n)])).n = H.n := TMap.set_n ..
    repeat (refine then_seq (hm := false) ?_; conv => whnf)
    refine ⟨_, hN3.bx, ?_⟩
    conv => whnf
    refine ⟨_, hm3, ?_⟩
    conv => whnf
    refine callW5 hN3.R hF1 rfl ?_
    conv => whnf
    have hmin : min 300 ((w2 : Int) + ((w1 % 40 : Nat) : Int)) = ((min 300 (w2 + w1 % 40) : Nat) : Int) := by omega
    obtain ⟨F2, hF2, g3, g4⟩ := hfit (w2 : Int) ((min 300 (w2 + w1 % 40) : Nat) : Int) (by omega) (by omega) (by omega)
    repeat (refine then_seq (hm := false) ?_; conv => whnf)
    refine ⟨by decide, ((w1 % 40 : Nat) : Int), rem_nat hw1 40, ?_⟩
    conv => whnf
    refine ⟨(w2 : Int) + ((w1 % 40 : Nat) : Int), by have := Nat.mod_lt w1 (show 0 < 40 by decide); rw [wrap_u8 hw2, wrap_eq (by omega) (by omega)], ?_⟩
    conv => whnf
    rw [wrap_u8 hw2, hmin]
    refine .ret (mkspan_ret _ _) rfl ?_
    conv => whnf
    refine ⟨_, hm3, ?_⟩
    conv => whnf
    obtain ⟨up, hup⟩ : ∃ up : Int, up = ((min 300 (w2 + w1 % 40) : Nat) : Int) := ⟨_, rfl⟩
    rw [← hup] at hF2 g3 g4 ⊢
    have hN4 := hN3.put (k := m9) hxg (fun e => by have := hno9 _ e; omega) (.blk [.c (I kd), .c (I C), .c (I w2), .c (I up)])
    have hm4 : Heap.at ((H.set .dead m9 (.blk [.c (I kd), .c (I C), .c (I n), .c (I n)])).set .dead m9 (.blk [.c (I kd), .c (I C), .c (I w2), .c (I up)])) m9 = .blk [.c (I kd), .c (I C), .c (I w2), .c (I up)] := at_set_self _ _ (by rw [TMap.set_n]; omega)
    generalize hG : TMap.set AB.dead (TMap.set AB.dead H m9 _) m9 _ = H4 at hN4 hm4 ⊢
    clear hG
    repeat (refine then_seq (hm := false) ?_; conv => whnf)
    refine ⟨_, hN4.bx, ?_⟩
    conv => whnf
    refine ⟨_, hm4, ?_⟩
    conv => whnf
    refine callW5 hN4.R hF2 rfl ?_
    conv => whnf
    refine then_end (hm := false) ?_
    conv => whnf
    rw [show (F1 != 0) = true by simp [hF1n]]
    conv => whnf
    by_cases q2 : F2 = 2
    · subst q2
      conv => whnf
      refine ⟨_, hm4, ?_⟩
      conv => whnf
      refine .ret (inside_ret _ _ _) rfl ?_
      conv => whnf
      rw [g3 rfl]
      conv => whnf
      refine .ret hA rfl ?_
      conv => whnf
      exact .val
    · rw [show (F2 != 2) = true by simp [q2]]
      conv => whnf
      by_cases q0 : F2 = 0
      · subst q0
        conv => whnf
        refine ⟨_, hm4, ?_⟩
        conv => whnf
        refine .ret (inside_ret _ _ _) rfl ?_
        conv => whnf
        rw [g4 rfl]
        conv => whnf
        refine .ret hA rfl ?_
        conv => whnf
        exact .val
      · rw [show (F2 != 0) = true by simp [q0]]
        conv => whnf
        refine .ret hA rfl ?_
        conv => whnf
        exact .val
end Go.Ag
/- Layer 5: the law TallyTrue, over what is read. -/
namespace Go.Ag
open Go.Proofs Go.ChangeShapes Go.WideShapes Go.Deep Go.RowKit Go.ChangeShapes
set_option maxRecDepth 100000
structure By where
  bc : List CV
  bo : Nat
  bn : Nat
def By.ok (b : By) : Prop := ByL b.bc b.bo b.bn
def byW (b : By) : CV := .sl b.bc b.bo b.bn
theorem trueLaw2 {v : TV} {t : Td} (h : v.IsS t) (hA : Ret Try.prog 12 [] (B true)) (b : By) (w2 w3 : Nat) (hb : b.ok) (h2 : w2 < 256) (h3 : w3 < 256) : Ret Try.prog 5 [v.cv, byW b, .lit (.int .u8 w2), .lit (.int .u8 w3)] (B true) := trueLaw_ret h hA hb w2 w3 h2 h3
section
variable {H : Type} {enc : TypeId × Value → H} {w : World} {base : Nat} {spare : Nat → Bool} {held : Bool}
theorem open_by2 {r : Reach} {b0 : Nat} {v : Value} {x : DataW H} {ps : List MemPlace} (hv : Value.okWide Try.prog w r b0 48 v) (h : DataW.Trod enc Try.prog w base spare held 48 v x ps) : ∃ b : By, b.ok ∧ RepC (allOf w) (byW b) v := by
  obtain ⟨bc, bo, bn, h1, h2⟩ := open_by hv h
  exact ⟨⟨bc, bo, bn⟩, h1, h2⟩
end
end Go.Ag
