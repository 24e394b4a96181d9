/- What is told of a line that has a truth; the law ClassTrue returns true for arguments that are not far too long. No conditions. -/
import Derived.Test.YtgidjimpobeahaaClJ
/- Layer 6: what is told of a line that has this truth (no program here). -/
namespace Go.Ag
open Go.Proofs
set_option maxRecDepth 100000

def allMay (c : Ln) (ws : List Nat) : Bool := ws.all fun x => decide ((x : Int) ≤ c.may)
structure ToldIs (c : Ln) (ws : List Nat) (t p e a b : Int) : Prop where
  kept : keptR c = (t, 0)
  prov : provR c = (p, e)
  all : allR c = ((a, b), 0)
  e04 : e = 0 ∨ e = 4
  pr : e = 0 → ∃ (i x : Nat), p = i ∧ i < c.bales.length ∧ ws[i]? = some x ∧ (x : Int) > c.may
  ab : a ≤ (ws.sum : Nat) ∧ ((ws.sum : Nat) : Int) ≤ b
  t2 : t = 2 → allMay c ws = true
  t0 : t = 0 → allMay c ws = false
  mi : ((mistN c : Nat) : Int) ≤ c.mist
theorem told_is {c : Ln} (hv : validL c = true) {ws : List Nat} (ht : Tru c (allN c) c.mist ws) : ∃ t p e a b, ToldIs c ws t p e a b := by
  have hd := valid_good.1 hv
  have hc : canT c = true := (can_iff hd).2 ⟨ws, ht⟩
  obtain ⟨t, p, e, x, y, K⟩ := keeps_is hv hc
  obtain ⟨x', y', ha, _, _, _, _, hof⟩ := all_is hd hc
  have hl : ws.length = c.bales.length := by rw [ht.len, owns_len]
  have hal : allR c = (((x' : Int), (y' : Int)), 0) := by unfold allR lineRS orT; rw [hv, hc, ha]; rfl
  have hk : keptR c = (keptN c, 0) := by unfold keptR lineR orT; rw [hv, hc]; rfl
  have htk : t = keptN c := by have := K.kept; rw [hk] at this; exact (congrArg Prod.fst this).symm
  have hs := hof ws ht
  refine ⟨t, p, e, x', y', ⟨K.kept, K.prov, hal, ?_, ?_, by omega, ?_, ?_, ?_⟩⟩
  · by_cases he : e = 0
    · exact .inl he
    · exact .inr (K.e2 he).1
  · intro he
    have hp := K.e1 he
    have h0 : prf c c.bales.length ≥ 0 := by
      have := K.e0
      rw [he] at this
      exact of_decide_eq_true this.symm
    unfold prf at hp h0
    cases hf : (List.range c.bales.length).find? (provP c) with
    | none => rw [hf] at h0; dsimp only at h0; omega
    | some i =>
      rw [hf] at hp
      have hi := List.mem_range.1 (List.mem_of_find?_eq_some hf)
      have hpi := List.find?_some hf
      obtain ⟨a, b, k, hB⟩ := ba_is hv hc hi
      rw [hB.pr] at hpi
      have hgt := of_decide_eq_true hpi
      obtain ⟨w, hw, _⟩ := tru_get ht hi
      have := hB.of ws w ht hw
      exact ⟨i, w, hp, hi, hw, by omega⟩
  · intro h2
    have hka : keptA c c.bales.length = true := by rw [← K.tk, h2]; rfl
    unfold allMay
    rw [List.all_eq_true]
    intro z hz
    obtain ⟨i, hi⟩ := List.mem_iff_getElem?.1 hz
    have hil : i < c.bales.length := by rw [← hl]; exact (List.getElem?_eq_some_iff.1 hi).1
    obtain ⟨a, b, k, hB⟩ := ba_is hv hc hil
    unfold keptA at hka
    have := List.all_eq_true.1 hka i (List.mem_range.2 hil)
    rw [hB.kn, hB.k2] at this
    have hb := of_decide_eq_true this
    have := hB.of ws z ht hi
    exact decide_eq_true (by omega)
  · intro h0
    have hE : keptE c = false := by
      rw [htk] at h0
      unfold keptN sureN at h0
      split at h0
      · omega
      · split at h0
        · omega
        · rename_i h; simpa using h
    cases hm : allMay c ws with
    | false => rfl
    | true =>
      unfold allMay at hm
      have := keptE_of hd ht (fun z hz => of_decide_eq_true (List.all_eq_true.1 hm z hz))
      rw [hE] at this; cases this
  · have hk0 := hd.k0; have hk1 := hd.k1
    obtain ⟨m, hm⟩ : ∃ m : Nat, c.mist = m := ⟨c.mist.toNat, by omega⟩
    have := (mist_iff hd (m := m) (by omega)).2 ⟨ws, by rw [← hm]; exact ht⟩
    omega
theorem may_snoc {c : Ln} {ws : List Nat} {q x : Nat} (h : ws[q]? = some x) : allMay c (ws.take (q + 1)) = (allMay c (ws.take q) && decide ((x : Int) ≤ c.may)) := by
  unfold allMay
  rw [List.take_add_one, h, List.all_append]
  simp
theorem sum_snoc {ws : List Nat} {q x : Nat} (h : ws[q]? = some x) : (ws.take (q + 1)).sum = (ws.take q).sum + x := by
  rw [List.take_add_one, h, List.sum_append]
  simp
end Go.Ag
/- Layer 6: the law ClassTrue. -/
namespace Go.Ag
open Go.Proofs
set_option maxRecDepth 100000

theorem mk_call {c k : Ln} {ws : List Nat} {q r : Nat} (hM : MkIs c k ws q r) {id : Nat} {g : Heap} (gi : Heap.at g id = rowB k) {f : FuncId} {cs : List CV} {rv : CV} (hr : Ret Try.prog f ((lvOf k).cv k :: cs) rv) (hp : rv.plain = true) {K : AEnd → Heap → Prop} (kk : K (.ret (.c rv)) g) :
    CallW Try.prog f (.agg [.msl id 3 0 c.bales.length c.bales.length, .c (I c.may), .c (I c.drift), .c (I c.mist)] :: cs.map .c) g K := by
  have := own_call (c := k) (n := c.bales.length) hM.len gi hr hp kk
  rw [hM.may, hM.drift, hM.mist] at this
  exact this
set_option maxHeartbeats 16000000 in
theorem trueLaw_ret {v : LV} {c : Ln} (h : v.IsS c) (hA : Ret Try.prog 11 [] (B true)) {bc : List CV} {bo bn : Nat} (hby : ByL bc bo bn) : Ret Try.prog 3 [v.cv c, .sl bc bo bn] (B true) := by
  have hv := h.toIs
  have e1 := hv.sn
  refine ret_then (hm := false) Try.func3 rfl ?_
  conv => whnf
  repeat (refine then_seq (hm := false) ?_; conv => whnf)
  refine ⟨_, at_push_self _ _, ?_⟩
  conv => whnf
  refine .ret (fine_ret h) rfl ?_
  conv => whnf
  cases hd : validL c
  · conv => whnf
    refine .ret (hA) rfl ?_
    conv => whnf
    exact .val
  have hg := valid_good.1 hd
  have n6 := hg.n6
  have n1 := hg.n1
  conv => whnf
  repeat (refine then_seq (hm := false) ?_; conv => whnf)
  generalize hH : TMap.push AB.dead TMap.nil _ = H
  have Hn : H.n = 1 := by rw [← hH]; rfl
  have b0 : Heap.at H 0 = v.blk c := by rw [← hH]; exact at_push_self TMap.nil _
  clear hH
  refine ⟨_, b0, ?_⟩
  conv => whnf
  obtain ⟨e, G, hcG, k, id, N0, a, ws, o, r, rfl, hT, hwl, hadj, hf, hMk⟩ := truly_ret hv hg hby H
  refine .inl _ G .no hcG ?_
  conv => whnf
  have q1 := hT.i0; have q2 := hT.i1; have q3 := hT.n
  have ho := hT.ia o rfl
  obtain ⟨_, hbo, hlo, _⟩ := hT.ra.ints
  have hg0 : Heap.at G 0 = v.blk c := (hT.F.keep 0 (by omega) (fun x => x)).trans b0
  refine ⟨_, at_push_self _ _, ?_⟩
  conv => whnf
  generalize hK : TMap.set AB.dead (TMap.push AB.dead G _) _ _ = K
  have Kn : K.n = G.n + 1 := by rw [← hK]; exact new_n _ _ _
  have Ka : ∀ i, i < G.n → Heap.at K i = Heap.at G i := fun i hi => by rw [← hK]; exact at_old _ _ _ hi
  have Kr : Heap.at K G.n = .blk (ownA c id) := by rw [← hK]; exact at_new _ _ _
  clear hK
  have K0 := (Ka 0 (by omega)).trans hg0
  have Kid := (Ka id (by omega)).trans hT.bi
  have Ko := (Ka o hlo).trans hbo
  have hgk := hMk.good
  have hvk := valid_good.2 hgk
  have htr := mk_tru hMk hwl hadj hf hg
  rw [← hMk.mist] at htr
  obtain ⟨t, p, er, A, B', T⟩ := told_is hvk htr
  have hck : canT k = true := (can_iff hgk).2 ⟨ws, htr⟩
  have isK := lvOf_ok hgk
  have c1 := clashX_ret isK
  rw [show clashR k = (0, 4) by unfold clashR; rw [hvk, hck]; rfl] at c1
  have c2 := allX_ret isK
  rw [T.all] at c2
  have c3 := lineX_ret isK
  rw [T.kept] at c3
  have c4 := proofX_ret isK
  rw [T.prov] at c4
  have c5 := mistX_ret isK
  rw [mist_val hgk] at c5
  have hmi := T.mi
  rw [hMk.mist] at hmi
  obtain ⟨M, hM⟩ : ∃ M, M = mistN k := ⟨_, rfl⟩
  rw [← hM] at c5 hmi
  dsimp only [pairI, pairS, spV] at c1 c2 c3 c4 c5
  repeat (refine then_seq (hm := false) ?_; conv => whnf)
  refine ⟨_, Kr, ?_⟩
  conv => whnf
  refine mk_call hMk Kid (cs := []) c1 rfl ?_
  conv => whnf
  repeat (refine then_seq (hm := false) ?_; conv => whnf)
  refine ⟨_, Kr, ?_⟩
  conv => whnf
  refine mk_call hMk Kid (cs := []) c2 rfl ?_
  conv => whnf
  refine ⟨_, at_push_self _ _, ?_⟩
  conv => whnf
  generalize hJ : TMap.set AB.dead (TMap.push AB.dead K _) _ _ = J
  have Jn : J.n = K.n + 1 := by rw [← hJ]; exact new_n _ _ _
  have Ja : ∀ i, i < K.n → Heap.at J i = Heap.at K i := fun i hi => by rw [← hJ]; exact at_old _ _ _ hi
  have Js : Heap.at J K.n = .blk [.c (I A), .c (I B')] := by rw [← hJ]; exact at_new _ _ _
  clear hJ
  have Jr := (Ja G.n (by omega)).trans Kr
  have Jid := (Ja id (by omega)).trans Kid
  have Jo := (Ja o (by omega)).trans Ko
  have J0 := (Ja 0 (by omega)).trans K0
  repeat (refine then_seq (hm := false) ?_; conv => whnf)
  refine ⟨_, Jr, ?_⟩
  conv => whnf
  refine mk_call hMk Jid (cs := []) c3 rfl ?_
  conv => whnf
  repeat (refine then_seq (hm := false) ?_; conv => whnf)
  refine ⟨_, Jr, ?_⟩
  conv => whnf
  refine mk_call hMk Jid (cs := []) c4 rfl ?_
  conv => whnf
  repeat (refine then_seq (hm := false) ?_; conv => whnf)
  refine ⟨_, Jr, ?_⟩
  conv => whnf
  refine mk_call hMk Jid (cs := []) c5 rfl ?_
  conv => whnf
  refine then_via (hm := false) (fun st => Has st 192 [(2, .ptr 0 0), (5, .ptr G.n 0), (6, .msl o 1 0 c.bales.length c.bales.length), (9, .ptr K.n 0), (11, .c (I t)), (13, .c (I p)), (14, .c (I er))] [] none J) ?_ ?_
  · conv => whnf
    rcases T.e04 with he | he
    · subst he
      conv => whnf
      refine ⟨_, Jr, ?_⟩
      conv => whnf
      rw [decide_eq_false (show ¬ (M : Int) > c.mist by omega)]
      conv => whnf
      exact ⟨rfl, ⟨rfl, rfl, rfl, rfl, rfl, rfl, rfl, trivial⟩, rfl, rfl, rfl, rfl⟩
    · subst he
      conv => whnf
      refine ⟨_, Jr, ?_⟩
      conv => whnf
      rw [decide_eq_false (show ¬ (M : Int) > c.mist by omega)]
      conv => whnf
      exact ⟨rfl, ⟨rfl, rfl, rfl, rfl, rfl, rfl, rfl, trivial⟩, rfl, rfl, rfl, rfl⟩
  rintro st hs
  refine hs.then ?_
  conv => whnf
  repeat (refine then_seq (hm := false) ?_; conv => whnf)
  refine loop_by (I := fun n st => ∃ (q : Nat) (g : Heap), q ≤ c.bales.length ∧ n = c.bales.length - q ∧ Heap.at g 0 = v.blk c ∧ Heap.at g G.n = .blk (ownA c id) ∧ Heap.at g id = rowB k ∧ Heap.at g o = numB ws ∧ Heap.at g K.n = .blk [.c (I A), .c (I B')] ∧ K.n + 1 ≤ g.n ∧
    Has st 192 [(2, .ptr 0 0), (5, .ptr G.n 0), (6, .msl o 1 0 c.bales.length c.bales.length), (9, .ptr K.n 0), (11, .c (I t)), (13, .c (I p)), (14, .c (I er)), (17, .c (I (ws.take q).sum)), (18, .c (B (allMay k (ws.take q)))), (88, .msl o 1 0 c.bales.length c.bales.length), (89, .c (I c.bales.length)), (90, .c (I q))] [] none g) ?_ (k := c.bales.length)
    ⟨0, _, Nat.zero_le _, rfl, J0, Jr, Jid, Jo, Js, by omega, rfl, ⟨rfl, rfl, rfl, rfl, rfl, rfl, rfl, rfl, rfl, rfl, rfl, rfl, trivial⟩, rfl, rfl, rfl, rfl⟩
  clear hs Js Jr Jid Jo J0 Ja Kr Kid Ko K0 Ka hbo
  rintro n st ⟨q, g, hq, rfl, g0, gr, gid, go, gs, gn, hs1⟩
  refine (hs1.then ?_).1
  conv => whnf
  repeat (refine then_seq (hm := false) ?_; conv => whnf)
  cases hcq : decide ((q : Int) < ((c.bales.length : Nat) : Int))
  case false =>
    have : q = c.bales.length := by simp at hcq; omega
    subst this
    have htk : ws.take c.bales.length = ws := by rw [← hwl, List.take_length]
    rw [htk] at hs1
    have ham : allMay k (ws.take c.bales.length) = allMay k ws := by rw [htk]
    have hsm : (ws.take c.bales.length).sum = ws.sum := by rw [htk]
    have hab := T.ab
    rw [← hsm] at hab
    conv => whnf
    refine then_via (hm := false) (fun st => Has st 192 [(9, .ptr K.n 0), (11, .c (I t)), (17, .c (I (ws.take c.bales.length).sum)), (18, .c (B (allMay k (ws.take c.bales.length))))] [] none g) ?_ ?_
    · conv => whnf
      rcases T.e04 with he | he
      · obtain ⟨i, x, hp, hi, hx, hgt⟩ := T.pr he
        subst he
        subst hp
        rw [hMk.len] at hi
        rw [hMk.may] at hgt
        refine draw_by (hm := false) (by kernel_rfl) (by kernel_rfl) ?_
        conv => whnf
        rw [decide_eq_false (show ¬ (i : Int) ≥ ((c.bales.length : Nat) : Int) by omega)]
        conv => whnf
        refine ⟨⟨rfl, by omega, by omega⟩, ?_⟩
        conv => whnf
        refine ⟨_, go, ?_⟩
        conv => whnf
        refine look_read (read_num hx) ?_
        conv => whnf
        refine ⟨_, g0, ?_⟩
        conv => whnf
        rw [decide_eq_false (show ¬ (x : Int) ≤ c.may by omega)]
        conv => whnf
        refine ⟨by kernel_rfl, ?_⟩
        conv => whnf
        exact ⟨rfl, ⟨rfl, rfl, rfl, rfl, trivial⟩, rfl, rfl, rfl, rfl⟩
      · subst he
        refine draw_by (hm := false) (by kernel_rfl) (by kernel_rfl) ?_
        conv => whnf
        refine ⟨by kernel_rfl, ?_⟩
        conv => whnf
        exact ⟨rfl, ⟨rfl, rfl, rfl, rfl, trivial⟩, rfl, rfl, rfl, rfl⟩
    rintro st hs
    refine hs.then ?_
    conv => whnf
    repeat (refine then_seq (hm := false) ?_; conv => whnf)
    refine ⟨_, gs, ?_⟩
    conv => whnf
    refine .ret (inside_ret ((ws.take c.bales.length).sum : Nat) (A, B')) rfl ?_
    conv => whnf
    rw [show (decide ((A, B').1 ≤ (((ws.take c.bales.length).sum : Nat) : Int)) && decide ((((ws.take c.bales.length).sum : Nat) : Int) ≤ (A, B').2)) = true by rw [decide_eq_true (show (A, B').1 ≤ (((ws.take c.bales.length).sum : Nat) : Int) from hab.1), decide_eq_true (show (((ws.take c.bales.length).sum : Nat) : Int) ≤ (A, B').2 from hab.2)]; rfl]
    conv => whnf
    cases h2 : (t != 2)
    · have ht2 : t = 2 := by simpa using h2
      rw [ham, T.t2 ht2]
      subst ht2
      conv => whnf
      refine .ret (hA) rfl ?_
      conv => whnf
      refine then_end (hm := false) ?_
      conv => whnf
      exact .val
    · conv => whnf
      cases h0 : (t != 0)
      · have ht0 : t = 0 := by simpa using h0
        rw [ham, T.t0 ht0]
        conv => whnf
        refine .ret (hA) rfl ?_
        conv => whnf
        refine then_end (hm := false) ?_
        conv => whnf
        exact .val
      · conv => whnf
        refine .ret (hA) rfl ?_
        conv => whnf
        refine then_end (hm := false) ?_
        conv => whnf
        exact .val
  have hq : q < c.bales.length := by simp at hcq; omega
  have hqk : q < k.bales.length := by rw [hMk.len]; exact hq
  obtain ⟨x, hx⟩ := get_some (l := ws) (k := q) (by omega)
  obtain ⟨a', b', kk, hB⟩ := ba_is hvk hck hqk
  have hxo := hB.of ws x htr hx
  have hx30 := htr.top x (List.mem_of_getElem? hx)
  have hs180 : (ws.take q).sum ≤ 180 := by
    have := sum_180 (ws := ws.take q) (fun y hy => htr.top y (List.mem_of_mem_take hy))
    rw [List.length_take] at this
    omega
  have w1 := wrongX_ret isK (q : Int)
  rw [hB.wr] at w1
  have w2 := keepsX_ret isK (q : Int)
  rw [hB.kp] at w2
  have hk2 := hB.k2
  have hk0 := hB.k0
  rw [hMk.may] at hk2 hk0
  dsimp only [pairI, pairS, spV] at w1 w2
  conv => whnf
  repeat (refine then_seq (hm := false) ?_; conv => whnf)
  refine ⟨⟨rfl, by omega, by omega⟩, ?_⟩
  conv => whnf
  refine ⟨_, go, ?_⟩
  conv => whnf
  refine look_read (read_num hx) ?_
  conv => whnf
  repeat (refine then_seq (hm := false) ?_; conv => whnf)
  refine ⟨_, gr, ?_⟩
  conv => whnf
  refine mk_call hMk gid (cs := [I q]) w1 rfl ?_
  conv => whnf
  refine ⟨_, at_push_self _ _, ?_⟩
  conv => whnf
  generalize hL : TMap.set AB.dead (TMap.push AB.dead g _) _ _ = L
  have Ln' : L.n = g.n + 1 := by rw [← hL]; exact new_n _ _ _
  have La : ∀ i, i < g.n → Heap.at L i = Heap.at g i := fun i hi => by rw [← hL]; exact at_old _ _ _ hi
  have Ls : Heap.at L g.n = .blk [.c (I a'), .c (I b')] := by rw [← hL]; exact at_new _ _ _
  clear hL
  have L0 := (La 0 (by omega)).trans g0
  have Lr := (La G.n (by omega)).trans gr
  have Lid := (La id (by omega)).trans gid
  have Lo := (La o (by omega)).trans go
  have Ls0 := (La K.n (by omega)).trans gs
  repeat (refine then_seq (hm := false) ?_; conv => whnf)
  refine ⟨_, Lr, ?_⟩
  conv => whnf
  refine mk_call hMk Lid (cs := [I q]) w2 rfl ?_
  conv => whnf
  repeat (refine then_seq (hm := false) ?_; conv => whnf)
  refine ⟨_, Ls, ?_⟩
  conv => whnf
  refine .ret (inside_ret (x : Int) (a', b')) rfl ?_
  conv => whnf
  rw [show (decide ((a', b').1 ≤ (x : Int)) && decide ((x : Int) ≤ (a', b').2)) = true by rw [decide_eq_true (show (a', b').1 ≤ (x : Int) from hxo.1), decide_eq_true (show (x : Int) ≤ (a', b').2 from hxo.2)]; rfl]
  conv => whnf
  cases h2 : (kk == 2)
  · conv => whnf
    cases h0 : (kk == 0)
    · conv => whnf
      refine draw_by (hm := false) (by kernel_rfl) (by kernel_rfl) ?_
      conv => whnf
      refine ⟨(((ws.take q).sum + x : Nat) : Int), by rw [wrap_eq (by omega) (by omega)]; omega, ?_⟩
      conv => whnf
      cases hmq : allMay k (ws.take q)
      · have hm1 : allMay k (ws.take (q + 1)) = false := by rw [may_snoc hx, hmq]; rfl
        conv => whnf
        refine ⟨by kernel_rfl, ?_⟩
        conv => whnf
        refine then_end (hm := false) ?_
        conv => whnf
        refine ⟨((q + 1 : Nat) : Int), by rw [wrap_eq (by omega) (by omega)]; omega, ?_⟩
        conv => whnf
        exact ⟨c.bales.length - (q + 1), by omega, q + 1, L, by omega, rfl, L0, Lr, Lid, Lo, Ls0, by omega, rfl, ⟨rfl, rfl, rfl, rfl, rfl, rfl, rfl, by rw [sum_snoc hx]; rfl, by rw [hm1]; rfl, rfl, rfl, rfl, trivial⟩, rfl, rfl, rfl, rfl⟩
      · have hm1 : allMay k (ws.take (q + 1)) = decide ((x : Int) ≤ c.may) := by rw [may_snoc hx, hmq, hMk.may]; rfl
        conv => whnf
        refine ⟨_, L0, ?_⟩
        conv => whnf
        refine ⟨by kernel_rfl, ?_⟩
        conv => whnf
        refine then_end (hm := false) ?_
        conv => whnf
        refine ⟨((q + 1 : Nat) : Int), by rw [wrap_eq (by omega) (by omega)]; omega, ?_⟩
        conv => whnf
        exact ⟨c.bales.length - (q + 1), by omega, q + 1, L, by omega, rfl, L0, Lr, Lid, Lo, Ls0, by omega, rfl, ⟨rfl, rfl, rfl, rfl, rfl, rfl, rfl, by rw [sum_snoc hx]; rfl, by rw [hm1]; rfl, rfl, rfl, rfl, trivial⟩, rfl, rfl, rfl, rfl⟩
    · rw [h0] at hk0
      have hgt := of_decide_eq_true hk0.symm
      conv => whnf
      refine ⟨_, L0, ?_⟩
      conv => whnf
      rw [decide_eq_false (show ¬ (x : Int) ≤ c.may by omega)]
      conv => whnf
      refine draw_by (hm := false) (by kernel_rfl) (by kernel_rfl) ?_
      conv => whnf
      refine ⟨(((ws.take q).sum + x : Nat) : Int), by rw [wrap_eq (by omega) (by omega)]; omega, ?_⟩
      conv => whnf
      cases hmq : allMay k (ws.take q)
      · have hm1 : allMay k (ws.take (q + 1)) = false := by rw [may_snoc hx, hmq]; rfl
        conv => whnf
        refine ⟨by kernel_rfl, ?_⟩
        conv => whnf
        refine then_end (hm := false) ?_
        conv => whnf
        refine ⟨((q + 1 : Nat) : Int), by rw [wrap_eq (by omega) (by omega)]; omega, ?_⟩
        conv => whnf
        exact ⟨c.bales.length - (q + 1), by omega, q + 1, L, by omega, rfl, L0, Lr, Lid, Lo, Ls0, by omega, rfl, ⟨rfl, rfl, rfl, rfl, rfl, rfl, rfl, by rw [sum_snoc hx]; rfl, by rw [hm1]; rfl, rfl, rfl, rfl, trivial⟩, rfl, rfl, rfl, rfl⟩
      · have hm1 : allMay k (ws.take (q + 1)) = decide ((x : Int) ≤ c.may) := by rw [may_snoc hx, hmq, hMk.may]; rfl
        conv => whnf
        refine ⟨_, L0, ?_⟩
        conv => whnf
        refine ⟨by kernel_rfl, ?_⟩
        conv => whnf
        refine then_end (hm := false) ?_
        conv => whnf
        refine ⟨((q + 1 : Nat) : Int), by rw [wrap_eq (by omega) (by omega)]; omega, ?_⟩
        conv => whnf
        exact ⟨c.bales.length - (q + 1), by omega, q + 1, L, by omega, rfl, L0, Lr, Lid, Lo, Ls0, by omega, rfl, ⟨rfl, rfl, rfl, rfl, rfl, rfl, rfl, by rw [sum_snoc hx]; rfl, by rw [hm1]; rfl, rfl, rfl, rfl, trivial⟩, rfl, rfl, rfl, rfl⟩
  · rw [h2] at hk2
    have hle := of_decide_eq_true hk2.symm
    have h0 : (kk == 0) = false := by have : kk = 2 := by simpa using h2
                                      rw [this]; rfl
    conv => whnf
    refine ⟨_, L0, ?_⟩
    conv => whnf
    rw [decide_eq_false (show ¬ (x : Int) > c.may by omega)]
    conv => whnf
    rw [h0]
    conv => whnf
    refine draw_by (hm := false) (by kernel_rfl) (by kernel_rfl) ?_
    conv => whnf
    refine ⟨(((ws.take q).sum + x : Nat) : Int), by rw [wrap_eq (by omega) (by omega)]; omega, ?_⟩
    conv => whnf
    cases hmq : allMay k (ws.take q)
    · have hm1 : allMay k (ws.take (q + 1)) = false := by rw [may_snoc hx, hmq]; rfl
      conv => whnf
      refine ⟨by kernel_rfl, ?_⟩
      conv => whnf
      refine then_end (hm := false) ?_
      conv => whnf
      refine ⟨((q + 1 : Nat) : Int), by rw [wrap_eq (by omega) (by omega)]; omega, ?_⟩
      conv => whnf
      exact ⟨c.bales.length - (q + 1), by omega, q + 1, L, by omega, rfl, L0, Lr, Lid, Lo, Ls0, by omega, rfl, ⟨rfl, rfl, rfl, rfl, rfl, rfl, rfl, by rw [sum_snoc hx]; rfl, by rw [hm1]; rfl, rfl, rfl, rfl, trivial⟩, rfl, rfl, rfl, rfl⟩
    · have hm1 : allMay k (ws.take (q + 1)) = decide ((x : Int) ≤ c.may) := by rw [may_snoc hx, hmq, hMk.may]; rfl
      conv => whnf
      refine ⟨_, L0, ?_⟩
      conv => whnf
      refine ⟨by kernel_rfl, ?_⟩
      conv => whnf
      refine then_end (hm := false) ?_
      conv => whnf
      refine ⟨((q + 1 : Nat) : Int), by rw [wrap_eq (by omega) (by omega)]; omega, ?_⟩
      conv => whnf
      exact ⟨c.bales.length - (q + 1), by omega, q + 1, L, by omega, rfl, L0, Lr, Lid, Lo, Ls0, by omega, rfl, ⟨rfl, rfl, rfl, rfl, rfl, rfl, rfl, by rw [sum_snoc hx]; rfl, by rw [hm1]; rfl, rfl, rfl, rfl, trivial⟩, rfl, rfl, rfl, rfl⟩
theorem trueLaw2 {v : LV} {c : Ln} (h : v.IsS c) (hA : Ret Try.prog 11 [] (B true)) (b : By) (hb : b.ok) : Ret Try.prog 3 [v.cv c, byW b] (B true) := trueLaw_ret h hA hb
end Go.Ag
