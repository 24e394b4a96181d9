/- A line of one's own, what more that is looked at does; the law ClassMore returns true for arguments that are not far too long. No conditions. -/
import Derived.Test.YtgidjimpobeahaaClF
/- Layer 6: a line of one's own. -/
namespace Go.Ag
open Go.Proofs
set_option maxRecDepth 100000

theorem got_app {P : Program} {o : Oper} {s x : Operand} {t u : TypeId} {σ : Operand → AV} {H : Nat → AB} {n : Nat} {r : SOut} (ho : o.op = .call ⟨.builtin .append, #[s, x], #[t, u]⟩) (hr : aappend P H n #[t, u] (σ s) (σ x) = some r) :
    (match aop P o σ H n with | some (.simple r) => some r | _ => none) = some r := by
  unfold aop
  rw [ho]
  simp only [acall, hr, simp?, Option.map_some]
/-- A line whose list is at hand. -/
def ownL (c : Ln) (id : Nat) : AV := .agg [.msl id 3 0 c.bales.length c.bales.length, .c (I c.may), .c (I c.drift), .c (I c.mist)]
def ownA (c : Ln) (id : Nat) : List AV := [.msl id 3 0 c.bales.length c.bales.length, .c (I c.may), .c (I c.drift), .c (I c.mist)]
def rowB (c : Ln) : AB := .blk ((rowsC c.bales).map .c)
set_option maxHeartbeats 1000000 in
theorem copied_ret {v : LV} {c : Ln} (hv : v.Is c) (h1 : 1 ≤ c.bales.length) (h6 : c.bales.length ≤ 6) (h : Heap) :
    ∃ e h', CallOk Try.prog 26 [.c (v.cv c)] h .no e h' .no ∧ ∃ id, e = .ret (ownL c id) ∧ h.n ≤ id ∧ id < h'.n ∧ Heap.at h' id = rowB c ∧ Foot none' h h' := by
  have e1 := hv.sn
  have hfirst := fun rd => hv.s.first (rowBl_len c.bales) rd
  rw [List.length_map] at hfirst
  refine call_by (hm := false) Try.func26 rfl ?_
  conv => whnf
  generalize hH : TMap.push AB.dead (TMap.push AB.dead (TMap.push AB.dead h _) _) _ = H
  have Hn : H.n = h.n + 3 := by rw [← hH]; rfl
  have b0 : Heap.at H h.n = v.blk c := by rw [← hH]; exact (at_push_lt _ _ (by simp only [push_n]; omega)).trans ((at_push_lt _ _ (by simp only [push_n]; omega)).trans (at_push_self _ _))
  have b1 : Heap.at H (h.n + 1) = .blk [AV.lit (.slice none 0 0), AV.lit (.int .i64 0), AV.lit (.int .i64 0), AV.lit (.int .i64 0)] := by rw [← hH]; exact (at_push_lt _ _ (by simp only [push_n]; omega)).trans (at_push_self _ _)
  have b2 : Heap.at H (h.n + 2) = .blk [] := by rw [← hH]; exact at_push_self _ _
  have f0 : Foot none' h H := by rw [← hH]; exact (((Foot.refl _ _).push _).push _).push _
  clear hH
  refine ⟨_, b0, ?_⟩
  conv => whnf
  have hce := rowsC_cellish c.bales
  have hrl : ((rowsC c.bales).map AV.c).length = c.bales.length * 3 := by rw [List.length_map, rowsC_len]
  have hfirst : ∀ rd, firstCells rd 3 (.c (.sl v.sc v.so v.sn)) = some ((rowsC c.bales).map .c, c.bales.length, []) := hfirst
  refine ⟨_, append_grow (id := h.n + 2) (len := 0) (cells := []) rfl rfl U22 U22 rfl S43 (hfirst _) hce (by omega) (by unfold limit; omega) (by rw [atF_eq]; exact b2) rfl, ?_⟩
  conv => whnf
  rw [Nat.zero_add]
  generalize hG : TMap.app AB.dead (Heap.upd H _) _ = G
  have hGe : G = (H.set .dead (h.n + 2) .dead).push .dead (.blk ((rowsC c.bales).map .c)) := by rw [← hG]; rfl
  have Gn : G.n = h.n + 4 := by rw [hGe, push_n, TMap.set_n]; omega
  have g0 : Heap.at G h.n = v.blk c := by rw [hGe]; exact (at_push_lt _ _ (by rw [TMap.set_n]; omega)).trans ((at_set_ne _ _ (by omega)).trans b0)
  have g1 : Heap.at G (h.n + 1) = .blk [AV.lit (.slice none 0 0), AV.lit (.int .i64 0), AV.lit (.int .i64 0), AV.lit (.int .i64 0)] := by rw [hGe]; exact (at_push_lt _ _ (by rw [TMap.set_n]; omega)).trans ((at_set_ne _ _ (by omega)).trans b1)
  have g3 : Heap.at G H.n = rowB c := by rw [hGe]; exact (congrArg _ (TMap.set_n _ _ _ _).symm).trans (at_push_self _ _)
  have fG : Foot none' h G := by rw [hGe]; exact (Foot.set (k := h.n + 2) f0 (.inr (by omega)) _).push _
  clear hG hGe
  refine ⟨_, g0, ?_⟩
  conv => whnf
  refine ⟨_, at_set_self _ _ (i := h.n) (by omega), ?_⟩
  conv => whnf
  refine ⟨_, (at_set_ne _ _ (i := h.n + 1) (k := h.n) (by omega)).trans g1, ?_⟩
  conv => whnf
  refine ⟨_, at_set_self _ _ (i := h.n + 1) (by rw [TMap.set_n]; omega), ?_⟩
  conv => whnf
  exact ⟨H.n, rfl, by omega, by show H.n < TMap.n _; rw [TMap.set_n, TMap.set_n]; omega, (at_set_ne _ _ (i := H.n) (k := h.n + 1) (by omega)).trans ((at_set_ne _ _ (i := H.n) (k := h.n) (by omega)).trans g3), Foot.set (k := h.n + 1) (Foot.set (k := h.n) fG (.inr (by omega)) _) (.inr (by omega)) _⟩
end Go.Ag
/- Layer 6: calls with a line of one's own; with more looked at. -/
namespace Go.Ag
open Go.Proofs
set_option maxRecDepth 100000

theorem snapsCons {H : Nat → AB} {n : Nat} {v : AV} {l : List AV} {a : CV} {b : List CV} {i j : List Nat} (h1 : snap H n v = some (a, i)) (h2 : snaps H n l = some (b, j)) : snaps H (n + 1) (v :: l) = some (a :: b, i ++ j) := by
  simp only [snaps, h1, h2, Option.bind_some, Option.map_some]
theorem snap_own {H : Nat → AB} {id : Nat} {c : Ln} (hb : H id = rowB c) (m : Nat) (hm : (rowsC c.bales).length + 20 ≤ m) : snap H m (ownL c id) = some ((lvOf c).cv c, [id]) := by
  obtain ⟨m, rfl⟩ : ∃ k, m = k + 20 := ⟨m - 20, by omega⟩
  unfold ownL
  simp only [snap, snaps, Option.bind_some, Option.map_some, hb, rowB]
  rw [snaps_map_c H (rowsC c.bales) _ (by omega)]
  rfl
theorem own_call {id n : Nat} {c : Ln} (hn : c.bales.length = n) {h : Heap} (hb : Heap.at h id = rowB c) {f : FuncId} {cs : List CV} {r : CV} (hr : Ret Try.prog f ((lvOf c).cv c :: cs) r) (hp : r.plain = true) {K : AEnd → Heap → Prop} (k : K (.ret (.c r)) h) :
    CallW Try.prog f (.agg [.msl id 3 0 n n, .c (I c.may), .c (I c.drift), .c (I c.mist)] :: cs.map .c) h K := by
  subst hn
  have hkl : killed r ([id] ++ []) = [] := by unfold killed; rw [if_pos hp]
  exact .snapped ((rowsC c.bales).length + cs.length + 20 + 1) _ _ _ r (snapsCons (snap_own hb _ (by omega)) (snaps_map_c _ cs _ (by omega))) hr rfl (by rw [hkl]; exact k)
theorem lvOf_ok {c : Ln} (hd : c.Good) : (lvOf c).Is c := lvOf_is (by have := hd.n6; omega)
theorem noS_empty {f : Co} {m : Int} (h : ∀ w, w ≤ 30 → ¬ f w ≤ m) : spanF f m = noS := by
  have : nums f m 0 = [] := by
    rw [List.eq_nil_iff_forall_not_mem]
    intro w hw
    have := mem_nums.1 hw
    exact h w (by omega) this.2.2
  unfold spanF
  rw [this]; rfl
theorem more_val {c : Ln} (hd : c.Good) {i : Nat} (hi : i < c.bales.length) {f : Nat} (hf : (baleAt c i).l + f ≤ (baleAt c i).f) : ∃ k e, keepsR (moreL c i f) i = (k, e) ∧ ((e == 10) || ((e == 0) && (k == 2))) = moreP c i f := by
  have hd2 := moreL_good hd hi hf
  have hi2 : i < (moreL c i f).bales.length := by rw [moreL_len]; exact hi
  have hv2 := valid_good.2 hd2
  have hm : 0 ≤ c.may := hd.m0
  have hk : c.mist ≤ 6 := hd.k1
  cases hc : canT (moreL c i f)
  · refine ⟨0, 10, no_keeps hv2 hc hi2, ?_⟩
    have he : spanF (thrF (moreL c i f) false i) c.mist = noS := noS_empty fun w hw hle => by
      obtain ⟨ws, ht, _⟩ := (thr_tr hi2 hw (by omega)).1 hle
      have : canT (moreL c i f) = true := (can_iff hd2).2 ⟨ws, ht⟩
      rw [hc] at this; cases this
    unfold moreP keepsN
    rw [he]
    rw [decide_eq_true (show noS.2 ≤ c.may by show (-181 : Int) ≤ c.may; omega)]
    rfl
  · obtain ⟨a, b, k, hB⟩ := ba_is hv2 hc hi2
    refine ⟨k, 0, hB.kp, ?_⟩
    have : moreP c i f = (k == 2) := by unfold moreP; rw [← hB.kn]; rfl
    rw [this]; rfl
set_option maxHeartbeats 2000000 in
theorem more_clos {v : LV} {c : Ln} (hv : v.Is c) (hd : c.Good) {i : Nat} (hi : i < c.bales.length) {f : Nat} (hf : (baleAt c i).l + f ≤ (baleAt c i).f) {a b : Nat} {h : Heap} (ha : Heap.at h a = v.blk c) (han : a < h.n) (hb : Heap.at h b = .blk [.c (I i)]) (hbn : b < h.n) :
    ∃ e h', CallOk Try.prog 25 [.c (I f), .ptr a 0, .ptr b 0] h .no e h' .no ∧ (e = .ret (.c (B (moreP c i f))) ∧ Foot none' h h') := by
  have hg := bale_good hd hi
  have g1 := hg.l0; have g2 := hg.f2
  have n6 := hd.n6
  have hd2 := moreL_good hd hi hf
  obtain ⟨k, er, hk, hval⟩ := more_val hd hi hf
  have hkr := keepsX_ret (lvOf_ok hd2) (i : Int)
  rw [hk] at hkr
  dsimp only [pairI] at hkr
  rw [← hval]
  obtain ⟨e1, H1, hc1, id, rfl, i1, i2, r1, f1⟩ := copied_ret hv hd.n1 hd.n6 h
  have n1 := f1.n
  have a1 := (f1.keep a han (fun x => x)).trans ha
  have b1 := (f1.keep b hbn (fun x => x)).trans hb
  have hbi := bale_get hi
  have hget : readVar Try.prog 3 ((rowsC c.bales).map AV.c) (0 + (i : Int).toNat * 3 + 1) = some (.c (I (baleAt c i).l)) := by
    refine readVar_map ?_
    rw [rv3, Int.toNat_natCast, Nat.zero_add]
    exact rowsC_get hbi
  have hput : putAt ((rowsC c.bales).map AV.c) (0 + (i : Int).toNat * 3 + 1) [.c (I ((baleAt c i).l + f))] = some ((rowsC (moreL c i f).bales).map AV.c) := by
    rw [Int.toNat_natCast, Nat.zero_add, put_one (by rw [List.length_map, rowsC_len]; omega)]
    have := rowsC_set ((baleAt c i).l + f) hbi
    show some _ = some ((rowsC (c.bales.set i { baleAt c i with l := (baleAt c i).l + f })).map AV.c)
    rw [← this, List.map_set]
  refine call_by (hm := false) Try.func25 rfl ?_
  conv => whnf
  refine ⟨_, ha, ?_⟩
  conv => whnf
  refine .inl _ H1 .no hc1 ?_
  conv => whnf
  refine ⟨_, at_push_self _ _, ?_⟩
  conv => whnf
  generalize hG : TMap.set AB.dead (TMap.push AB.dead H1 _) _ _ = G
  have Gn : G.n = H1.n + 1 := by rw [← hG]; exact new_n _ _ _
  have Ga : ∀ i, i < H1.n → Heap.at G i = Heap.at H1 i := fun i hi => by rw [← hG]; exact at_old _ _ _ hi
  have Gr : Heap.at G H1.n = .blk (ownA c id) := by rw [← hG]; exact at_new _ _ _
  have Gf : Foot none' h G := by rw [← hG]; exact Foot.set (f1.push _) (.inr (by omega)) _
  clear hG
  refine ⟨_, Gr, ?_⟩
  conv => whnf
  refine ⟨_, (Ga b (by omega)).trans b1, ?_⟩
  conv => whnf
  refine ⟨⟨rfl, by omega, by omega⟩, ?_⟩
  conv => whnf
  refine ⟨_, (Ga id (by omega)).trans r1, ?_⟩
  conv => whnf
  refine look_read (hget) ?_
  conv => whnf
  refine ⟨(baleAt c i).l + f, by rw [wrap_eq (by omega) (by omega)], ?_⟩
  conv => whnf
  refine ⟨⟨rfl, by omega, by omega⟩, ?_⟩
  conv => whnf
  refine ⟨_, (Ga id (by omega)).trans r1, ?_⟩
  conv => whnf
  refine look_put (hput) ?_
  conv => whnf
  refine forceL_intro ?_
  conv => whnf
  generalize hK : TMap.set AB.dead G _ _ = K
  have Kn : K.n = H1.n + 1 := by rw [← hK, TMap.set_n]; exact Gn
  have K1 : Heap.at K H1.n = .blk (ownA c id) := by rw [← hK]; exact (at_set_ne _ _ (by omega)).trans Gr
  have K2 : Heap.at K b = .blk [.c (I i)] := by rw [← hK]; exact (at_set_ne _ _ (by omega)).trans ((Ga b (by omega)).trans b1)
  have K3 : Heap.at K id = rowB (moreL c i f) := by rw [← hK]; exact at_set_self _ _ (by omega)
  have Kf : Foot none' h K := by rw [← hK]; exact Foot.set Gf (.inr (by omega)) _
  clear hK
  refine ⟨_, K1, ?_⟩
  conv => whnf
  refine ⟨_, K2, ?_⟩
  conv => whnf
  refine own_call (c := moreL c i f) (n := c.bales.length) (moreL_len c i f) K3 (cs := [I i]) hkr rfl ?_
  conv => whnf
  cases h10 : (er == 10)
  · conv => whnf
    cases h0 : (er == 0)
    · conv => whnf
      exact ⟨rfl, Kf⟩
    · conv => whnf
      exact ⟨rfl, Kf⟩
  · conv => whnf
    exact ⟨rfl, Kf⟩
end Go.Ag
/- Layer 6: the law ClassMore. -/
namespace Go.Ag
open Go.Proofs
set_option maxRecDepth 100000

theorem rem_aop {P : Program} {o : Oper} {x y : Operand} {t t2 : TypeId} {σ : Operand → AV} {a b : Int} (ho : o.op = .binOp .rem t x y t2) (hx : σ x = .c (.lit (.int .i64 a))) (hy : σ y = .c (.lit (.int .i64 b))) (hb : b ≠ 0) (rd : Nat → AB) (n : Nat) :
    aop P o σ rd n = some (.simple { val := .c (I (a.tmod b)) }) := by
  unfold aop
  rw [ho]
  simp only [abinOp, hx, hy, AV.toVal, CV.toVal, litBin, if_neg hb]
  rfl
theorem rem_to {P : Program} {o : Oper} {x y : Operand} {t t2 : TypeId} {σ : Operand → AV} {a b : Int} (z : Int) (ho : o.op = .binOp .rem t x y t2) (hx : σ x = .c (.lit (.int .i64 a))) (hy : σ y = .c (.lit (.int .i64 b))) (hb : b ≠ 0) (hz : a.tmod b = z) (rd : Nat → AB) (n : Nat) :
    aop P o σ rd n = some (.simple { val := .c (I z) }) := by rw [← hz]; exact rem_aop ho hx hy hb rd n
theorem wrap_u8 {w : Nat} (h : w < 256) : IntKind.i64.wrap (w : Int) = (w : Int) := wrap_eq (by omega) (by omega)
theorem rem_nat {w : Nat} (h : w < 256) (n : Nat) : (IntKind.i64.wrap (w : Int)).tmod (n : Int) = ((w % n : Nat) : Int) := by
  rw [wrap_u8 h, Int.tmod_eq_emod_of_nonneg (by omega)]
  omega
theorem least_of {p : Nat → Bool} : ∀ n, (∃ y, y ≤ n ∧ p y = true ∧ ∀ j, j < y → p j = false) ∨ ∀ j, j ≤ n → p j = false
  | 0 => by
    cases h : p 0
    · exact .inr fun j hj => by rw [show j = 0 by omega]; exact h
    · exact .inl ⟨0, Nat.le_refl _, h, fun j hj => by omega⟩
  | n + 1 => by
    rcases least_of (p := p) n with ⟨y, h1, h2, h3⟩ | h
    · exact .inl ⟨y, by omega, h2, h3⟩
    · cases hn : p (n + 1)
      · exact .inr fun j hj => by
          by_cases hj' : j = n + 1
          · rw [hj']; exact hn
          · exact h j (by omega)
      · exact .inl ⟨n + 1, Nat.le_refl _, hn, fun j hj => h j (by omega)⟩
theorem first_ft (p : Nat → Bool) (n : Nat) : (∃ y, y ≤ n ∧ p y = true ∧ (∀ j, j < y → p j = false) ∧ (ftN 0 n).find? p = some y) ∨ ((∀ j, j ≤ n → p j = false) ∧ (ftN 0 n).find? p = none) := by
  rcases least_of (p := p) n with ⟨y, h1, h2, h3⟩ | h
  · exact .inl ⟨y, h1, h2, h3, find_least h2 h3 _ _ (by omega) (by omega)⟩
  · refine .inr ⟨h, ?_⟩
    rw [List.find?_eq_none]
    intro x hx
    rw [h x (mem_ft.1 hx).2]; simp
theorem more_zero (c : Ln) {i : Nat} (hi : i < c.bales.length) : moreL c i ((0 : Nat) : Int) = c := by
  obtain ⟨bs, a, b, m⟩ := c
  unfold moreL
  have hb := bale_get hi
  dsimp only at hb hi ⊢
  congr 1
  have e : (baleAt ⟨bs, a, b, m⟩ i).l + ((0 : Nat) : Int) = (baleAt ⟨bs, a, b, m⟩ i).l := by omega
  rw [e]
  apply List.ext_getElem?
  intro j
  rw [List.getElem?_set]
  by_cases h : i = j
  · subst h; rw [if_pos rfl, if_pos hi, hb]
  · rw [if_neg h]
theorem callW_ex {P : Program} {f : FuncId} {args : List AV} {h : Heap} {Q K : AEnd → Heap → Prop} (H : ∃ e h', CallOk P f args h .no e h' .no ∧ Q e h') (k : ∀ e h', Q e h' → K e h') : CallW P f args h K := by
  obtain ⟨e, h', hc, hq⟩ := H
  exact .inl e h' .no hc (k e h' hq)
/-- What is told of how many more. -/
theorem more_is {c : Ln} (hv : validL c = true) (hc : canT c = true) {i : Nat} (hi : i < c.bales.length) : ∃ k, keepsR c i = (k, 0) ∧ (k == 2) = moreP c i 0 ∧
    ((∃ y : Nat, moreR c i = (((y : Nat) : Int), 0) ∧ y ≤ leftN c i ∧ moreP c i y = true ∧ (((y : Nat) : Int) == 0) = moreP c i 0 ∧ (∀ j, j < y → moreP c i j = false)) ∨ (moreR c i = (0, 4) ∧ ∀ j, j ≤ leftN c i → moreP c i j = false)) := by
  obtain ⟨a, b, k, hB⟩ := ba_is hv hc hi
  have h0 : (k == 2) = moreP c i 0 := by
    unfold moreP
    rw [more_zero c hi, hB.kn]
  refine ⟨k, hB.kp, h0, ?_⟩
  have hm : moreR c i = (match moreN c i with | some y => (((y : Nat) : Int), 0) | none => (0, 4)) := by
    unfold moreR
    rw [hB.wr, if_pos rfl, Int.toNat_natCast]
    cases moreN c i <;> rfl
  unfold moreN at hm
  rcases first_ft (moreP c i) (leftN c i) with ⟨y, h1, h2, h3, h4⟩ | ⟨h1, h2⟩
  · rw [h4] at hm
    refine .inl ⟨y, hm, h1, h2, ?_, h3⟩
    by_cases hy : y = 0
    · subst hy; rw [h2]; rfl
    · rw [h3 0 (by omega)]; exact beq_eq_false_iff_ne.2 (by omega)
  · rw [h2] at hm
    exact .inr ⟨hm, h1⟩
theorem no_more {c : Ln} (hv : validL c = true) (hc : canT c = false) {i : Nat} (hi : i < c.bales.length) : moreR c i = (0, 10) := by
  unfold moreR; rw [no_wrong hv hc hi]; rfl

set_option maxHeartbeats 8000000 in
theorem moreLaw_ret {v : LV} {c : Ln} (h : v.IsS c) (hA : Ret Try.prog 11 [] (B true)) (w : Nat) (hw : w < 256) : Ret Try.prog 7 [v.cv c, .lit (.int .u8 w)] (B true) := by
  have hv := h.toIs
  have e1 := hv.sn
  refine ret_then (hm := true) Try.func7 rfl ?_
  conv => whnf
  repeat (refine then_seq (hm := true) ?_; conv => whnf)
  refine .ret (fine_ret h) rfl ?_
  conv => whnf
  cases hd : validL c
  · conv => whnf
    refine .ret (hA) rfl ?_
    conv => whnf
    exact .val
  have hg := valid_good.1 hd
  have n6 := hg.n6
  have n1 := hg.n1
  obtain ⟨i, hi⟩ : ∃ i, i = w % c.bales.length := ⟨_, rfl⟩
  have hin : i < c.bales.length := by rw [hi]; exact Nat.mod_lt _ (by omega)
  have hbi := bale_get hin
  have hb := bale_good hg hin
  have hl1 := hb.l1; have hl0 := hb.l0; have hf2 := hb.f2
  have hleft : ((leftN c i : Nat) : Int) = (baleAt c i).f - (baleAt c i).l := Int.toNat_of_nonneg (by omega)
  have m1 := moreX_ret hv (i : Int)
  have k1 := keepsX_ret hv (i : Int)
  conv => whnf
  repeat (refine then_seq (hm := true) ?_; conv => whnf)
  refine ⟨by omega, ((i : Nat) : Int), by rw [e1, rem_nat hw, hi], ?_⟩
  conv => whnf
  repeat (refine then_seq (hm := true) ?_; conv => whnf)
  cases hc : canT c
  · rw [no_more hd hc hin] at m1
    rw [no_keeps hd hc hin] at k1
    dsimp only [pairI] at m1 k1
    refine .ret (m1) rfl ?_
    conv => whnf
    repeat (refine then_seq (hm := true) ?_; conv => whnf)
    refine .ret (k1) rfl ?_
    conv => whnf
    repeat (refine then_seq (hm := true) ?_; conv => whnf)
    refine .ret (hA) rfl ?_
    conv => whnf
    exact .val
  obtain ⟨k, hk, hk2, hor⟩ := more_is hd hc hin
  rw [hk] at k1
  rcases hor with ⟨y, hm, hy, hpy, hy0, hlt⟩ | ⟨hm, hno⟩
  · rw [hm] at m1
    dsimp only [pairI] at m1 k1
    refine .ret (m1) rfl ?_
    conv => whnf
    repeat (refine then_seq (hm := true) ?_; conv => whnf)
    refine .ret (k1) rfl ?_
    conv => whnf
    repeat (refine then_seq (hm := true) ?_; conv => whnf)
    refine draw_by (hm := true) (by kernel_rfl) (by kernel_rfl) ?_
    conv => whnf
    refine ⟨⟨by omega, by omega⟩, ?_⟩
    conv => whnf
    refine ⟨_, hv.fl hbi, ?_⟩
    conv => whnf
    refine ⟨⟨by omega, by omega⟩, ?_⟩
    conv => whnf
    refine ⟨_, hv.lk hbi, ?_⟩
    conv => whnf
    refine ⟨((leftN c i : Nat) : Int), by rw [wrap_eq (by omega) (by omega)]; omega, ?_⟩
    conv => whnf
    refine ⟨by kernel_rfl, ?_⟩
    conv => whnf
    repeat (refine then_seq (hm := true) ?_; conv => whnf)
    rw [decide_eq_false (show ¬ (y : Int) < 0 by omega)]
    conv => whnf
    rw [decide_eq_false (show ¬ (y : Int) > (leftN c i : Nat) by omega)]
    conv => whnf
    refine ⟨_, bool_neq rfl rfl rfl _ _, ?_⟩
    conv => whnf
    rw [show (((y : Nat) : Int) == 0) = (k == 2) by rw [hy0, hk2]]
    rw [show ((k == 2) != (k == 2)) = false by simp]
    conv => whnf
    repeat (refine then_seq (hm := true) ?_; conv => whnf)
    refine callW_ex (more_clos hv hg hin (f := y) (by omega) (a := 0) (b := 1) rfl (Nat.zero_lt_succ _) rfl (Nat.lt_succ_self 1)) ?_
    rintro e1 H1 ⟨he1, f1⟩
    rw [hpy] at he1
    subst he1
    conv => whnf
    cases hyz : (((y : Nat) : Int) == 0)
    · have hy1 : 1 ≤ y := by have := beq_eq_false_iff_ne.1 hyz; omega
      have n1' := f1.n
      conv => whnf
      refine ⟨((y - 1 : Nat) : Int), by rw [wrap_eq (by omega) (by omega)]; omega, ?_⟩
      conv => whnf
      refine callW_ex (more_clos hv hg hin (f := y - 1) (by omega) (a := 0) (b := 1) ((f1.keep 0 (Nat.zero_lt_succ _) (fun x => x)).trans rfl) (Nat.lt_of_lt_of_le (Nat.zero_lt_succ _) n1') ((f1.keep 1 (Nat.lt_succ_self 1) (fun x => x)).trans rfl) (Nat.lt_of_lt_of_le (Nat.lt_succ_self 1) n1')) ?_
      rintro e2 H2 ⟨he2, f2⟩
      rw [hlt _ (by omega)] at he2
      subst he2
      conv => whnf
      refine .ret (hA) rfl ?_
      conv => whnf
      refine then_end (hm := true) ?_
      conv => whnf
      exact .val
    · conv => whnf
      refine .ret (hA) rfl ?_
      conv => whnf
      refine then_end (hm := true) ?_
      conv => whnf
      exact .val
  · rw [hm] at m1
    dsimp only [pairI] at m1 k1
    refine .ret (m1) rfl ?_
    conv => whnf
    repeat (refine then_seq (hm := true) ?_; conv => whnf)
    refine .ret (k1) rfl ?_
    conv => whnf
    repeat (refine then_seq (hm := true) ?_; conv => whnf)
    refine draw_by (hm := true) (by kernel_rfl) (by kernel_rfl) ?_
    conv => whnf
    refine ⟨⟨by omega, by omega⟩, ?_⟩
    conv => whnf
    refine ⟨_, hv.fl hbi, ?_⟩
    conv => whnf
    refine ⟨⟨by omega, by omega⟩, ?_⟩
    conv => whnf
    refine ⟨_, hv.lk hbi, ?_⟩
    conv => whnf
    refine ⟨((leftN c i : Nat) : Int), by rw [wrap_eq (by omega) (by omega)]; omega, ?_⟩
    conv => whnf
    refine ⟨by kernel_rfl, ?_⟩
    conv => whnf
    repeat (refine then_seq (hm := true) ?_; conv => whnf)
    refine ⟨_, bool_neq rfl rfl rfl _ _, ?_⟩
    conv => whnf
    rw [show (false != (k == 2)) = false by rw [hk2, hno 0 (by omega)]; rfl]
    conv => whnf
    repeat (refine then_seq (hm := true) ?_; conv => whnf)
    refine callW_ex (more_clos hv hg hin (f := leftN c i) (by omega) (a := 0) (b := 1) rfl (Nat.zero_lt_succ _) rfl (Nat.lt_succ_self 1)) ?_
    rintro e1 H1 ⟨he1, f1⟩
    rw [hno _ (Nat.le_refl _)] at he1
    subst he1
    conv => whnf
    refine .ret (hA) rfl ?_
    conv => whnf
    exact .val
end Go.Ag
