/- The law TallyEnds returns true for arguments that are not far too long. No conditions. -/
import Derived.Test.YtnmiompeofbagaaTyF
/- Layer 5: a call more, and what can be then. -/
namespace Go.Ag
open Go.Proofs
set_option maxRecDepth 100000

theorem inside_ret (n a b : Int) : Ret Try.prog 34 [I n, .agg [I a, I b]] (B (inB' n a b)) := by
  refine ret_by (hm := true) Try.func34 rfl ?_
  conv => whnf
  unfold inB'
  cases h : decide (a ≤ n)
  · conv => whnf
    exact .val
  · conv => whnf
    exact .val
theorem mkspan_ret (a b : Int) : Ret Try.prog 20 [I a, I b] (.agg [I a, I b]) := by
  refine ret_by (hm := true) Try.func20 rfl ?_
  conv => whnf
  exact .val
theorem mkcall_ret (k a l h : Int) : Ret Try.prog 27 [I k, I a, I l, I h] (.agg [I k, I a, I l, I h]) := by
  refine ret_by (hm := true) Try.func27 rfl ?_
  conv => whnf
  refine .ret (mkspan_ret _ _) rfl ?_
  conv => whnf
  exact .val

theorem callsP_all (n : Int) (l : List Cl) : callsP n (2 ^ l.length - 1) 0 l = l.map (callP n) := by
  rw [callsP_sel, selF_all _ _ _ (fun i _ h => by rw [bit_all]; exact decide_eq_true (by omega))]
theorem more_prs (t : Td) (c : Cl) : prsOf (moreT t c) (allN (moreT t c)) = prsOf t (allN t) ++ [callP t.n c] := by
  have e1 : callsP t.n (allN (moreT t c)) 0 (t.calls ++ [c]) = callsP t.n (allN t) 0 t.calls ++ [callP t.n c] := by
    have h1 := callsP_all t.n (t.calls ++ [c])
    have h2 := callsP_all t.n t.calls
    unfold allN moreT
    dsimp only
    rw [h1, h2]; simp
  show (List.range (t.n.toNat + 1)).map (strayedP (moreT t c)) ++ ((List.range t.n.toNat).flatMap (fun k => [portP k 0 t.most, penP k 0 300]) ++ callsP t.n (allN (moreT t c)) 0 (t.calls ++ [c])) = _
  rw [e1]
  unfold prsOf
  simp only [List.append_assoc]
  rfl
theorem more_look (t : Td) (c : Cl) : lookF (moreT t c) (allN (moreT t c)) = (lookF t (allN t)).bind fun d => stepM d (callP t.n c) := by
  unfold lookF
  rw [more_prs, fold_app]
theorem more_can {t : Td} {c : Cl} {d : M} (h : lookF t (allN t) = some d) : canB (lookF (moreT t c) (allN (moreT t c))) = !exclB d (callP t.n c) := by
  rw [more_look, h, Option.bind_some, step_eq]
  unfold canB
  cases exclB d (callP t.n c)
  · cases missB d (callP t.n c) <;> rfl
  · rfl
theorem exclB_span {d : M} {f g : Nat} {a b lo hi : Int} (h : spanD d f g = (a, b)) : exclB d ⟨f, g, lo, hi⟩ = (decide (hi < a) || decide (b < lo)) := by
  have h1 : -d g f = a := congrArg Prod.fst h
  have h2 : d f g = b := congrArg Prod.snd h
  unfold exclB
  simp only [h2]
  have e1 : decide (d g f + hi < 0) = decide (hi < a) := by rw [← h1]; by_cases h : hi < -d g f <;> simp [h] <;> omega
  have e2 : decide (b + -lo < 0) = decide (b < lo) := by by_cases h : b < lo <;> simp [h] <;> omega
  rw [e1, e2]
/-- Of one number: whether the call can be right, and whether it is. -/
theorem fits_one {t : Td} {d : M} (hl : lookF t (allN t) = some d) {c : Cl} {f g : Nat} {a b v : Int} (hc : callP t.n c = ⟨f, g, v, v⟩) (hs : spanD d f g = (a, b)) : fitsN t c d = (if decide (a = v) && decide (b = v) then 2 else if inB' v a b then 1 else 0) ∨ (a > b) := by
  by_cases hab : a > b
  · exact .inr hab
  left
  unfold fitsN
  rw [more_can hl, hc, missB_span hs, exclB_span hs]
  unfold inB'
  by_cases h1 : v < b
  · have : ¬ b = v := by omega
    by_cases h2 : v < a <;> by_cases h3 : b < v <;> by_cases h4 : a ≤ v <;> by_cases h5 : v ≤ b <;> simp [h1, h2, h3, h4, h5, this] <;> omega
  · by_cases h6 : a < v
    · have : ¬ a = v := by omega
      by_cases h2 : v < a <;> by_cases h3 : b < v <;> by_cases h4 : a ≤ v <;> by_cases h5 : v ≤ b <;> simp [h1, h6, h2, h3, h4, h5, this] <;> omega
    · have e1 : a = v := by omega
      have e2 : b = v := by omega
      simp [e1, e2]
theorem moreT_ok {t : Td} (hd : validT t = true) {c : Cl} (hc : callOk t.n c = true) (h8 : t.calls.length ≠ 8) : validT (moreT t c) = true := by
  have h5 := valid_nums hd
  simp only [validT, moreT, Bool.and_eq_true, decide_eq_true_eq, List.all_append, List.length_append] at hd ⊢
  refine ⟨hd.1, hd.2.1, ⟨decide_eq_true hd.2.2.1.1, hd.2.2.1.2⟩, ?_, hd.2.2.2.2, by simp [hc]⟩
  simp only [List.length_cons, List.length_nil]; omega

theorem got_app {P : Program} {o : Oper} {s x : Operand} {t u : TypeId} {σ : Operand → AV} {H : Nat → AB} {n : Nat} {r : SOut} (ho : o.op = .call ⟨.builtin .append, #[s, x], #[t, u]⟩) (hr : aappend P H n #[t, u] (σ s) (σ x) = some r) :
    (match aop P o σ H n with | some (.simple r) => some r | _ => none) = some r := by
  unfold aop
  rw [ho]
  simp only [acall, hr, simp?, Option.map_some]
theorem snap_end {H : Nat → AB} {id n : Nat} {cells : List CV} (hb : H id = .blk (cells.map .c)) (a b c : CV) : snap H (cells.length + 40) (.agg [.c a, .c b, .c c, .msl id 4 0 n n]) = some (.agg [a, b, c, .sl cells 0 n], [id]) := by
  simp only [snap, snaps, Option.bind_some, Option.map_some, hb]
  rw [snaps_map_c H cells _ (by omega)]
  rfl
def c4 (c : Cl) : List AV := [.c (I c.kind), .c (I c.pos), .c (I c.lo), .c (I c.hi)]
def z4 : List AV := [AV.lit (.int .i64 0), AV.lit (.int .i64 0), AV.lit (.slice none 0 0), AV.lit (.slice none 0 0)]
def wH (v : TV) (c : Cl) : Heap := (((TMap.push .dead TMap.nil v.blk).push .dead (.blk (c4 c))).push .dead (.blk z4)).push .dead (.blk [])
theorem wH_n (v : TV) (c : Cl) : (wH v c).n = 4 := rfl
theorem wH_0 (v : TV) (c : Cl) : Heap.at (wH v c) 0 = v.blk := by unfold wH; simp [at_push, push_n, TMap.nil]
theorem wH_1 (v : TV) (c : Cl) : Heap.at (wH v c) 1 = .blk (c4 c) := by unfold wH; simp [at_push, push_n, TMap.nil]
theorem wH_2 (v : TV) (c : Cl) : Heap.at (wH v c) 2 = .blk z4 := by unfold wH; simp [at_push, push_n, TMap.nil]
theorem wH_3 (v : TV) (c : Cl) : Heap.at (wH v c) 3 = .blk [] := by unfold wH; simp [at_push, push_n, TMap.nil]
set_option maxHeartbeats 1000000 in
theorem with_ret {v : TV} {t : Td} (hv : v.Is t) (h40 : t.calls.length ≤ 40) (c : Cl) : Ret Try.prog 35 [v.cv, clV c] (callsV v (t.calls ++ [c])).cv := by
  have hfirst := fun rd => hv.c.first (rowCl_len t.calls) rd
  have hlen : (t.calls.map rowCl).length = t.calls.length := by simp
  have hce := rowCl_cells t.calls
  obtain ⟨L, hL⟩ : ∃ L, L = (t.calls.map rowCl).flatten := ⟨_, rfl⟩
  have hfl : (L.map AV.c).length = t.calls.length * 4 := by rw [hL, List.length_map, flat_len _ (rowCl_len _), hlen]
  rw [hlen, ← hL] at hfirst
  rw [← hL] at hce
  have hcells : (callsV v (t.calls ++ [c])).cv = .agg [I v.n, I v.most, .sl v.sc v.so v.sn, .sl (L ++ [I c.kind, I c.pos, I c.lo, I c.hi]) 0 (t.calls.length + 1)] := by
    rw [hL]; simp [callsV, TV.cv, rowCl]
  rw [hcells]
  have hmap : (L.map AV.c) ++ c4 c = (L ++ [I c.kind, I c.pos, I c.lo, I c.hi]).map AV.c := by rw [List.map_append]; rfl
  refine ret_by (hm := false) Try.func35 rfl ?_
  conv => whnf
  refine draw_by (hm := false) (by kernel_rfl) (by kernel_rfl) ?_
  conv => whnf
  refine ⟨v.blk, wH_0 v c, ?_⟩
  conv => whnf
  by_cases h0 : t.calls.length = 0
  · have hnil : L = [] := by rw [hL, List.length_eq_zero_iff.1 h0]; rfl
    rw [h0] at hfirst ⊢
    rw [hnil] at hfirst
    refine dgot (H := wH v c) (append_none (id := 3) (len := 0) (cap := 0) rfl rfl U23 U23 rfl S46 (hfirst _)) (by rfl) rfl ?_
    conv => whnf
    refine ⟨_, wH_1 v c, ?_⟩
    conv => whnf
    have hx2 := append_grow (P := Try.prog) (rd := Heap.at ((wH v c).push .dead (.blk (c4 c)))) (fresh := 5) (ts := #[23, 23]) (id := 3) (len := 0) (cells := []) rfl rfl U23 U23 rfl S46 (first_own (id := 4) (sz := 4) (len := 1) (cap := 1) (cells := c4 c) (at_push_self _ _) rfl) rfl (by decide) (by decide)
      ((at_push_lt _ _ (show 3 < 4 by omega)).trans (wH_3 v c)) rfl
    obtain ⟨G3, hG3⟩ : ∃ G3 : Heap, G3 = (((wH v c).push .dead (.blk (c4 c))).set .dead 3 .dead).push .dead (.blk ([] ++ c4 c)) := ⟨_, rfl⟩
    rw [hnil, List.map_nil] at hmap
    have a0 : Heap.at G3 0 = v.blk := by rw [hG3]; exact (at_push_lt _ _ (show 0 < 5 by omega)).trans ((at_set_ne _ _ (by decide)).trans ((at_push_lt _ _ (show 0 < 4 by omega)).trans (wH_0 v c)))
    have a2 : Heap.at G3 2 = .blk z4 := by rw [hG3]; exact (at_push_lt _ _ (show 2 < 5 by omega)).trans ((at_set_ne _ _ (by decide)).trans ((at_push_lt _ _ (show 2 < 4 by omega)).trans (wH_2 v c)))
    have a5 : Heap.at G3 5 = .blk ((L ++ [I c.kind, I c.pos, I c.lo, I c.hi]).map AV.c) := by rw [hG3, hnil, ← hmap]; exact at_push_self _ _
    have n3 : G3.n = 6 := by rw [hG3]; rfl
    refine dgot (H := G3) (got_app rfl hx2) (by rfl) hG3.symm ?_
    conv => whnf
    refine ⟨_, a0, ?_⟩
    conv => whnf
    refine ⟨(show 0 < G3.n by omega), ?_⟩
    conv => whnf
    refine ⟨by kernel_rfl, ?_⟩
    conv => whnf
    refine ⟨_, at_set_self _ _ (i := 0) (by omega), ?_⟩
    conv => whnf
    refine ⟨_, (at_set_ne _ _ (i := 2) (k := 0) (by decide)).trans a2, ?_⟩
    conv => whnf
    refine ⟨_, at_set_self _ _ (i := 2) (by rw [TMap.set_n]; omega), ?_⟩
    conv => whnf
    exact ⟨_, [5], snap_end (cells := L ++ [I c.kind, I c.pos, I c.lo, I c.hi]) ((at_set_ne _ _ (i := 5) (k := 2) (by decide)).trans ((at_set_ne _ _ (i := 5) (k := 0) (by decide)).trans a5)) _ _ _⟩
  · obtain ⟨G1, hG1⟩ : ∃ G1 : Heap, G1 = ((wH v c).set .dead 3 .dead).push .dead (.blk ([] ++ L.map .c)) := ⟨_, rfl⟩
    have n1 : G1.n = 5 := by rw [hG1]; rfl
    have b0 : Heap.at G1 0 = v.blk := by rw [hG1]; exact (at_push_lt _ _ (show 0 < 4 by omega)).trans ((at_set_ne _ _ (by decide)).trans (wH_0 v c))
    have b1 : Heap.at G1 1 = .blk (c4 c) := by rw [hG1]; exact (at_push_lt _ _ (show 1 < 4 by omega)).trans ((at_set_ne _ _ (by decide)).trans (wH_1 v c))
    have b2 : Heap.at G1 2 = .blk z4 := by rw [hG1]; exact (at_push_lt _ _ (show 2 < 4 by omega)).trans ((at_set_ne _ _ (by decide)).trans (wH_2 v c))
    have b4 : Heap.at G1 4 = .blk ([] ++ L.map .c) := by rw [hG1]; exact at_push_self _ _
    refine dgot (H := G1) (append_grow (id := 3) (len := 0) (cells := []) rfl rfl U23 U23 rfl S46 (hfirst _) hce h0 (by unfold limit; omega) (wH_3 v c) rfl) (by rfl) hG1.symm ?_
    conv => whnf
    refine ⟨_, b1, ?_⟩
    conv => whnf
    have hx2 := append_grow (P := Try.prog) (rd := Heap.at (G1.push .dead (.blk (c4 c)))) (fresh := G1.n + 1) (ts := #[23, 23]) (id := 4) (len := 0 + t.calls.length) (cells := [] ++ L.map .c) rfl rfl U23 U23 rfl S46 (first_own (id := G1.n) (sz := 4) (len := 1) (cap := 1) (cells := c4 c) (at_push_self _ _) rfl) rfl (by decide) (by unfold limit; omega)
      ((at_push_lt _ _ (by omega)).trans b4) (by rw [List.nil_append, hfl, Nat.zero_add])
    obtain ⟨G3, hG3⟩ : ∃ G3 : Heap, G3 = ((G1.push .dead (.blk (c4 c))).set .dead 4 .dead).push .dead (.blk (([] ++ L.map .c) ++ c4 c)) := ⟨_, rfl⟩
    have n3 : G3.n = 7 := by rw [hG3, push_n, TMap.set_n, push_n, n1]
    have a0 : Heap.at G3 0 = v.blk := by rw [hG3]; exact (at_push_lt _ _ (by rw [TMap.set_n, push_n]; omega)).trans ((at_set_ne _ _ (by decide)).trans ((at_push_lt _ _ (by omega)).trans b0))
    have a2 : Heap.at G3 2 = .blk z4 := by rw [hG3]; exact (at_push_lt _ _ (by rw [TMap.set_n, push_n]; omega)).trans ((at_set_ne _ _ (by decide)).trans ((at_push_lt _ _ (by omega)).trans b2))
    have a5 : Heap.at G3 (G1.n + 1) = .blk ((L ++ [I c.kind, I c.pos, I c.lo, I c.hi]).map AV.c) := by rw [hG3, List.nil_append, hmap]; exact at_push_self _ _
    refine dgot (H := G3) (got_app rfl hx2) (by rw [List.all_cons, List.all_nil, Bool.and_true]; exact decide_eq_true (show 4 < G1.n + 1 by omega)) hG3.symm ?_
    conv => whnf
    refine ⟨_, a0, ?_⟩
    conv => whnf
    refine ⟨(show 0 < G3.n by omega), ?_⟩
    conv => whnf
    refine ⟨?_, ?_⟩
    · subst hG3; subst hG1; kernel_rfl
    conv => whnf
    refine ⟨_, at_set_self _ _ (i := 0) (by omega), ?_⟩
    conv => whnf
    refine ⟨_, (at_set_ne _ _ (i := 2) (k := 0) (by decide)).trans a2, ?_⟩
    conv => whnf
    refine ⟨_, at_set_self _ _ (i := 2) (by rw [TMap.set_n]; omega), ?_⟩
    conv => whnf
    rw [Nat.zero_add]
    exact ⟨_, [G1.n + 1], snap_end (cells := L ++ [I c.kind, I c.pos, I c.lo, I c.hi]) ((at_set_ne _ _ (i := G1.n + 1) (k := 2) (by omega)).trans ((at_set_ne _ _ (i := G1.n + 1) (k := 0) (by omega)).trans a5)) _ _ _⟩
end Go.Ag
/- Layer 5: the law TallyEnds. -/
namespace Go.Ag
open Go.Proofs
set_option maxRecDepth 100000

theorem plain_val {hm : Bool} {o : Oper} {tmps : TMap AV} {ds : List ADef} {p : Pan} {rd : Option Nat} {h : Heap} {K : ASt → Prop} {X : AV → ASt → Prop} {v : AV} (ha : aop Try.prog o (evalF tmps) (fun _ => .dead) h.n = some (.simple { val := v })) (k : fin tmps ds p rd h o.dst v K) :
    wPlain Try.prog hm o tmps ds p rd h K X := by
  unfold wPlain
  rw [ha]
  exact k

theorem dplain_val {P : Program} {hm : Bool} {ops : Array Oper} {i : Nat} {o : Oper} {tmps : TMap AV} {ds : List ADef} {p : Pan} {rd : Option Nat} {h : Heap} {K : ASt → DRec → Prop} {v : AV} (ha : aop P o (evalF tmps) (fun _ => .dead) h.n = some (.simple { val := v }))
    (k : finD ops i o tmps ds p rd h h.n v [] [] none K) : dPlain P hm ops i o tmps ds p rd h K := by
  unfold dPlain
  rw [ha]
  exact k
theorem rem_aop {P : Program} {o : Oper} {x y : Operand} {t t2 : TypeId} {σ : Operand → AV} {a b : Int} (ho : o.op = .binOp .rem t x y t2) (hx : σ x = .c (.lit (.int .i64 a))) (hy : σ y = .c (.lit (.int .i64 b))) (hb : b ≠ 0) (rd : Nat → AB) (n : Nat) :
    aop P o σ rd n = some (.simple { val := .c (I (a.tmod b)) }) := by
  unfold aop
  rw [ho]
  simp only [abinOp, hx, hy, AV.toVal, CV.toVal, litBin, if_neg hb]
  rfl
theorem rem_to {P : Program} {o : Oper} {x y : Operand} {t t2 : TypeId} {σ : Operand → AV} {a b : Int} (z : Int) (ho : o.op = .binOp .rem t x y t2) (hx : σ x = .c (.lit (.int .i64 a))) (hy : σ y = .c (.lit (.int .i64 b))) (hb : b ≠ 0) (hz : a.tmod b = z) (rd : Nat → AB) (n : Nat) :
    aop P o σ rd n = some (.simple { val := .c (I z) }) := by rw [← hz]; exact rem_aop ho hx hy hb rd n
theorem rem_nat {w : Nat} (h : w < 256) (n : Nat) : (IntKind.i64.wrap (w : Int)).tmod (n : Int) = ((w % n : Nat) : Int) := by
  rw [wrap_u8 h, Int.tmod_eq_emod_of_nonneg (by omega)]
  omega

/-- The facts of all truths that hold whatever was called. -/
theorem shorn_chain {t : Td} {set : Nat} {x : Nat → Int} (hv : validT t = true) (h : Tr t set x) : ∀ {i j : Nat}, i ≤ j → (j : Int) ≤ t.n → 0 ≤ x j - x i := by
  have hb := ((tr_iff (validT_X hv)).1 h).1
  intro i j hij hj
  induction j with
  | zero => have : i = 0 := by omega
            subst this; omega
  | succ j ih =>
    rcases Nat.lt_or_ge i (j + 1) with h1 | h1
    · have := ih (by omega) (by omega)
      have := (hb.port j (by omega)).1
      omega
    · have : i = j + 1 := by omega
      subst this; omega

structure EndsIs (t : Td) (d : M) (i N : Nat) (a b c : Int × Int) : Prop where
  ea : spanD d i (i + 1) = a
  eb : spanD d (6 + i) (6 + (i + 1)) = b
  ec : spanD d 0 N = c
  a1 : 0 ≤ a.1
  a2 : a.1 ≤ a.2
  a3 : a.2 ≤ t.most
  b1 : 0 ≤ b.1
  b2 : b.1 ≤ b.2
  b3 : b.2 ≤ 300
  c1 : a.1 ≤ c.1
  c2 : a.2 ≤ c.2
  c3 : c.1 ≤ c.2
  c4 : c.2 ≤ 300
theorem ends_is {t : Td} (hd : validT t = true) {d : M} (hl : lookF t (allN t) = some d) {i N : Nat} (hN : t.n = N) (hi : i < N) : EndsIs t d i N (spanD d i (i + 1)) (spanD d (6 + i) (6 + (i + 1))) (spanD d 0 N) := by
  have h5 := valid_nums hd
  have sa := span_is (validT_X hd) hl (f := i) (g := i + 1) (by omega) (by omega)
  have sb := span_is (validT_X hd) hl (f := 6 + i) (g := 6 + (i + 1)) (by omega) (by omega)
  have sc := span_is (validT_X hd) hl (f := 0) (g := N) (by omega) (by omega)
  have port : ∀ x, Tr t (allN t) x → 0 ≤ x (i + 1) - x i ∧ x (i + 1) - x i ≤ t.most := fun x hx => ((tr_iff (validT_X hd)).1 hx).1.port i (by omega)
  have pen : ∀ x, Tr t (allN t) x → 0 ≤ x (6 + i + 1) - x (6 + i) ∧ x (6 + i + 1) - x (6 + i) ≤ 300 := fun x hx => ((tr_iff (validT_X hd)).1 hx).1.pen i (by omega)
  have whole : ∀ x, Tr t (allN t) x → x (i + 1) - x i ≤ x N - x 0 ∧ x N - x 0 ≤ 300 := fun x hx => by
    have h1 := shorn_chain hd hx (i := 0) (j := i) (by omega) (by omega)
    have h2 := shorn_chain hd hx (i := i + 1) (j := N) (by omega) (by omega)
    have h3 := hx.sat 0 N (by omega) (by omega)
    have h4 : unkM 0 N ≤ 300 := by unfold unkM; split <;> omega
    omega
  obtain ⟨x1, hx1, ex1'⟩ := sa.ex _ (Int.le_refl _) sa.le
  have ex1 : x1 (i + 1) - x1 i = (spanD d i (i + 1)).1 := ex1'
  have rx1 : (spanD d 0 N).1 ≤ x1 N - x1 0 ∧ x1 N - x1 0 ≤ (spanD d 0 N).2 := sc.of x1 hx1
  have px1 := port x1 hx1
  have wx1 := whole x1 hx1
  obtain ⟨x2, hx2, ex2'⟩ := sa.ex _ sa.le (Int.le_refl _)
  have ex2 : x2 (i + 1) - x2 i = (spanD d i (i + 1)).2 := ex2'
  have rx2 : (spanD d 0 N).1 ≤ x2 N - x2 0 ∧ x2 N - x2 0 ≤ (spanD d 0 N).2 := sc.of x2 hx2
  have px2 := port x2 hx2
  have wx2 := whole x2 hx2
  have la : (spanD d i (i + 1)).1 ≤ (spanD d i (i + 1)).2 := sa.le
  obtain ⟨y1, hy1, ey1'⟩ := sb.ex _ (Int.le_refl _) sb.le
  have ey1 : y1 (6 + (i + 1)) - y1 (6 + i) = (spanD d (6 + i) (6 + (i + 1))).1 := ey1'
  have py1 : 0 ≤ y1 (6 + (i + 1)) - y1 (6 + i) ∧ y1 (6 + (i + 1)) - y1 (6 + i) ≤ 300 := pen y1 hy1
  obtain ⟨y2, hy2, ey2'⟩ := sb.ex _ sb.le (Int.le_refl _)
  have ey2 : y2 (6 + (i + 1)) - y2 (6 + i) = (spanD d (6 + i) (6 + (i + 1))).2 := ey2'
  have py2 : 0 ≤ y2 (6 + (i + 1)) - y2 (6 + i) ∧ y2 (6 + (i + 1)) - y2 (6 + i) ≤ 300 := pen y2 hy2
  have lb : (spanD d (6 + i) (6 + (i + 1))).1 ≤ (spanD d (6 + i) (6 + (i + 1))).2 := sb.le
  obtain ⟨z1, hz1, ez1'⟩ := sc.ex _ (Int.le_refl _) sc.le
  have ez1 : z1 N - z1 0 = (spanD d 0 N).1 := ez1'
  have rz1 : (spanD d i (i + 1)).1 ≤ z1 (i + 1) - z1 i ∧ z1 (i + 1) - z1 i ≤ (spanD d i (i + 1)).2 := sa.of z1 hz1
  have pz1 := port z1 hz1
  have wz1 := whole z1 hz1
  obtain ⟨z2, hz2, ez2'⟩ := sc.ex _ sc.le (Int.le_refl _)
  have ez2 : z2 N - z2 0 = (spanD d 0 N).2 := ez2'
  have rz2 : (spanD d i (i + 1)).1 ≤ z2 (i + 1) - z2 i ∧ z2 (i + 1) - z2 i ≤ (spanD d i (i + 1)).2 := sa.of z2 hz2
  have pz2 := port z2 hz2
  have wz2 := whole z2 hz2
  have lc : (spanD d 0 N).1 ≤ (spanD d 0 N).2 := sc.le
  exact ⟨rfl, rfl, rfl, by omega, by omega, by omega, by omega, by omega, by omega, by omega, by omega, by omega, by omega⟩

/-- What none is is refused. -/
theorem refused {t : Td} (hd : validT t = true) (f g : Nat) : spanR t false f g = ((0, 0), 2) := by unfold spanR; rw [hd]; rfl

def rowsC (i : Nat) (a1 a2 b1 b2 z1 z2 : Int) : List AV := [.c (I 0), .c (I i), .c (I 0), .c (I 0), .c (I a1), .c (I a2), .c (I 1), .c (I i), .c (I 0), .c (I 0), .c (I b1), .c (I b2), .c (I 2), .c (I 0), .c (I 0), .c (I 0), .c (I z1), .c (I z2)]
def rowsB (i : Nat) (a1 a2 b1 b2 z1 z2 : Int) : AB := .blk (rowsC i a1 a2 b1 b2 z1 z2)
def z6 : List AV := [AV.lit (.int .i64 0), AV.lit (.int .i64 0), AV.lit (.int .i64 0), AV.lit (.int .i64 0), AV.lit (.int .i64 0), AV.lit (.int .i64 0)]
def rB (k p x y lo hi : Int) : AB := .blk [.c (I k), .c (I p), .c (I x), .c (I y), .c (I lo), .c (I hi)]
def fiveC (lo r up : Int) : List AV := [.c (I (lo - 1)), .c (I lo), .c (I (lo + r)), .c (I up), .c (I (up + 1))]
theorem five_at (lo r up : Int) (r0 : 0 ≤ r) (r1 : r ≤ up - lo) (j : Nat) (hj : j < 5) : ∃ x, lo - 1 ≤ x ∧ x ≤ up + 1 ∧ readVar Try.prog 3 (fiveC lo r up) (0 + (j : Int).toNat * Try.prog.types[3].size) = some (.c (I x)) := by
  obtain rfl | rfl | rfl | rfl | rfl : j = 0 ∨ j = 1 ∨ j = 2 ∨ j = 3 ∨ j = 4 := by omega
  · exact ⟨_, by omega, by omega, rfl⟩
  · exact ⟨_, by omega, by omega, rfl⟩
  · exact ⟨_, by omega, by omega, rfl⟩
  · exact ⟨_, by omega, by omega, rfl⟩
  · exact ⟨_, by omega, by omega, rfl⟩
theorem fits_tells {F x lo up : Int} (h : (F = if decide (lo = x) && decide (up = x) then 2 else if inB' x lo up then 1 else 0) ∨ lo > up) (h1 : lo ≤ up) : (F == 0) = !inB' x lo up ∧ (F == 2) = (decide (lo = x) && decide (up = x)) := by
  rcases h with rfl | h
  · cases hb : decide (lo = x) && decide (up = x)
    · cases hi : inB' x lo up <;> simp
    · have : inB' x lo up = true := by simp [inB'] at hb ⊢; omega
      simp [this]
  · omega
structure RowE (t : Td) (d : M) (k p : Int) (f g : Nat) (lo hi : Int) : Prop where
  call : ∀ x, callP t.n ⟨k, p, x, x⟩ = ⟨f, g, x, x⟩
  ok : ∀ x, 0 ≤ x → x ≤ 300 → callOk t.n ⟨k, p, x, x⟩ = true
  sp : spanD d f g = (lo, hi)
  l0 : 0 ≤ lo
  l1 : lo ≤ hi
  l2 : hi ≤ 300

theorem rowE_at {t : Td} {d : M} {i N : Nat} (hN : t.n = N) (hi : i < N) (q : Nat) (hq : q < 3) {a1 a2 b1 b2 z1 z2 : Int} (ea : (a1, a2) = spanD d i (i + 1)) (eb : (b1, b2) = spanD d (6 + i) (6 + (i + 1))) (ec : (z1, z2) = spanD d 0 N)
    (k1 : 0 ≤ a1) (k2 : a1 ≤ a2) (k3 : a2 ≤ 300) (k4 : 0 ≤ b1) (k5 : b1 ≤ b2) (k6 : b2 ≤ 300) (k7 : 0 ≤ z1) (k8 : z1 ≤ z2) (k9 : z2 ≤ 300) (hd : validT t = true) :
    ∃ k p f g lo hi, RowE t d k p f g lo hi ∧ readVar Try.prog 57 (rowsC i a1 a2 b1 b2 z1 z2) (0 + (q : Int).toNat * Try.prog.types[57].size) = some (.c (.agg [I k, I p, I 0, I 0, I lo, I hi])) := by
  have hin : inB' (i : Int) 0 (t.n - 1) = true := by simp [inB']; omega
  obtain rfl | rfl | rfl : q = 0 ∨ q = 1 ∨ q = 2 := by omega
  · refine ⟨0, i, i, i + 1, a1, a2, ⟨fun x => rfl, fun x h0 h1 => ?_, ea.symm, k1, k2, k3⟩, by kernel_rfl⟩
    simp [callOk, hin, spB, h0, h1]
  · refine ⟨1, i, 6 + i, 6 + (i + 1), b1, b2, ⟨fun x => rfl, fun x h0 h1 => ?_, eb.symm, k4, k5, k6⟩, by kernel_rfl⟩
    simp [callOk, hin, spB, h0, h1]
  · refine ⟨2, 0, 0, N, z1, z2, ⟨fun x => by simp [callP, hN], fun x h0 h1 => ?_, ec.symm, k7, k8, k9⟩, by kernel_rfl⟩
    simp [callOk, spB, h0, h1]

set_option maxHeartbeats 4000000 in
theorem endsLaw_ret {v : TV} {t : Td} (h : v.IsS t) (hA : Ret Try.prog 12 [] (B true)) (w1 w2 : Nat) (hw1 : w1 < 256) (hw2 : w2 < 256) : Ret Try.prog 6 [v.cv, .lit (.int .u8 w1), .lit (.int .u8 w2)] (B true) := by
  have hv := h.toIs
  have e1 := hv.n; have e2 := hv.most; have e3 := hv.cn
  refine ret_by (hm := true) Try.func6 rfl ?_
  conv => whnf
  refine .ret h.far rfl ?_
  conv => whnf
  refine .ret (tallyR_ret hv) rfl ?_
  conv => whnf
  cases hd : validT t
  · have c1 : clashR t = (0, 1) := by unfold clashR; rw [hd]; rfl
    have c2 : spanR t (inB' 0 0 (t.n - 1)) (Int.toNat 0) (Int.toNat 0 + 1) = ((0, 0), 1) := by unfold spanR; rw [hd]; rfl
    have hcl := clash_ret hv
    have hsh := shorn_ret hv 0
    rw [c1] at hcl
    rw [c2] at hsh
    dsimp only [pairV, spRV, spV] at hcl hsh
    conv => whnf
    refine .ret hsh rfl ?_
    conv => whnf
    refine .ret hcl rfl ?_
    conv => whnf
    refine ⟨_, span_eql rfl rfl rfl _ _, ?_⟩
    conv => whnf
    refine .ret hA rfl ?_
    conv => whnf
    exact .val
  have h5 := valid_nums hd
  obtain ⟨N, hN⟩ : ∃ N : Nat, t.n = N := ⟨t.n.toNat, by omega⟩
  have e1 : v.n = (N : Int) := e1.trans hN
  obtain ⟨i, hi⟩ : ∃ i, i = w1 % N := ⟨_, rfl⟩
  have hiN : i < N := by rw [hi]; exact Nat.mod_lt _ (by omega)
  have hok : ∀ k : Nat, k < N → inB' (k : Int) 0 (t.n - 1) = true := fun k hk => by simp [inB']; omega
  have hsh := shorn_ret hv (i : Int)
  have hpe := pen_ret' hv (i : Int)
  have hto := together_ret hv 0 ((N : Int) - 1)
  have hr1 := shorn_ret hv v.n
  have hr2 := pen_ret' hv (-1)
  have hr3 := stray_ret hv ((N : Int) - 1)
  have hr4 := together_ret hv (i : Int) ((i : Int) - 1)
  have hr5 := fitsAll_ret hv ⟨3, 0, 0, 0⟩
  have hcl := clash_ret hv
  rw [hok i hiN, Int.toNat_natCast] at hsh hpe
  rw [show (inB' 0 0 (t.n - 1) && (inB' ((N : Int) - 1) 0 (t.n - 1) && !decide (0 > (N : Int) - 1))) = true by simp [inB']; omega, show (((N : Int) - 1).toNat + 1) = N by omega, show Int.toNat 0 = 0 from rfl] at hto
  rw [show inB' v.n 0 (t.n - 1) = false by simp [inB']; omega, refused hd] at hr1
  rw [show inB' (-1) 0 (t.n - 1) = false by simp [inB'], refused hd] at hr2
  rw [show inB' ((N : Int) - 1) 0 (t.n - 2) = false by simp [inB']; omega, refused hd] at hr3
  rw [show (inB' (i : Int) 0 (t.n - 1) && (inB' ((i : Int) - 1) 0 (t.n - 1) && !decide ((i : Int) > (i : Int) - 1))) = false by simp; intro _ _; omega, refused hd] at hr4
  rw [show fitsR t ⟨3, 0, 0, 0⟩ = (0, 2) by unfold fitsR; rw [hd]; rfl] at hr5
  dsimp only [spRV, spV] at hr1 hr2 hr3 hr4 hr5
  cases hl : lookF t (allN t) with
  | none =>
    have hcan : canB (lookF t (allN t)) = false := by rw [hl]; rfl
    obtain ⟨y, hy⟩ := clash_some hd hcan
    have c1 : clashR t = (y, 0) := by unfold clashR; rw [hd, hcan, hy]; rfl
    have c2 : ∀ f g, spanR t true f g = ((0, 0), 10) := fun f g => by unfold spanR; rw [hd, hl]; rfl
    rw [c1] at hcl
    rw [c2] at hsh hpe hto
    dsimp only [pairV, spRV, spV] at hcl hsh hpe hto
    conv => whnf
    refine ⟨by omega, (i : Int), by rw [e1, rem_nat hw1, hi], ?_⟩
    refine .ret hsh rfl ?_
    conv => whnf
    refine .ret hpe rfl ?_
    conv => whnf
    refine ⟨(N : Int) - 1, by rw [e1, wrap_eq (by omega) (by omega)], ?_⟩
    conv => whnf
    refine .ret hto rfl ?_
    conv => whnf
    refine .ret hr1 rfl ?_
    conv => whnf
    refine .ret hr2 rfl ?_
    conv => whnf
    refine ⟨(N : Int) - 1, by rw [e1, wrap_eq (by omega) (by omega)], ?_⟩
    conv => whnf
    refine .ret hr3 rfl ?_
    conv => whnf
    refine ⟨(i : Int) - 1, by rw [wrap_eq (by omega) (by omega)], ?_⟩
    conv => whnf
    refine .ret hr4 rfl ?_
    conv => whnf
    refine draw_by (hm := false) (by kernel_rfl) (by kernel_rfl) ?_
    refine ⟨_, rfl, ?_⟩
    conv => whnf
    refine .pure _ _ rfl (mkcall_ret _ _ _ _) ?_
    conv => whnf
    refine .pure _ _ rfl hr5 ?_
    conv => whnf
    refine ⟨by kernel_rfl, ?_⟩
    conv => whnf
    refine .ret hcl rfl ?_
    conv => whnf
    refine ⟨_, bool_neq rfl rfl rfl _ _, ?_⟩
    conv => whnf
    refine ⟨_, span_eql rfl rfl rfl _ _, ?_⟩
    conv => whnf
    refine ⟨_, span_eql rfl rfl rfl _ _, ?_⟩
    conv => whnf
    refine ⟨_, span_eql rfl rfl rfl _ _, ?_⟩
    conv => whnf
    refine .ret hA rfl ?_
    conv => whnf
    exact .val
  | some d =>
    have hcan : canB (lookF t (allN t)) = true := by rw [hl]; rfl
    have hE := ends_is hd hl hN hiN
    obtain ⟨⟨a1, a2⟩, hA'⟩ : ∃ p, p = spanD d i (i + 1) := ⟨_, rfl⟩
    obtain ⟨⟨b1, b2⟩, hB'⟩ : ∃ p, p = spanD d (6 + i) (6 + (i + 1)) := ⟨_, rfl⟩
    obtain ⟨⟨z1, z2⟩, hC'⟩ : ∃ p, p = spanD d 0 N := ⟨_, rfl⟩
    rw [← hA', ← hB', ← hC'] at hE
    obtain ⟨ea, eb, ec, k1, k2, k3, k4, k5, k6, k7, k8, k9, k10⟩ := hE
    dsimp only at k1 k2 k3 k4 k5 k6 k7 k8 k9 k10
    have c1 : clashR t = clashR t := rfl
    have c2 : ∀ f g, spanR t true f g = (spanD d f g, 0) := fun f g => by unfold spanR; rw [hd, hl]; rfl
    have c1 : clashR t = (0, 4) := by unfold clashR; rw [hd, hcan]; rfl
    rw [c1] at hcl
    rw [c2] at hsh hpe hto
    rw [ea] at hsh
    rw [eb] at hpe
    rw [ec] at hto
    dsimp only [pairV, spRV, spV] at hcl hsh hpe hto
    conv => whnf
    refine ⟨by omega, (i : Int), by rw [e1, rem_nat hw1, hi], ?_⟩
    refine .ret hsh rfl ?_
    conv => whnf
    refine .ret hpe rfl ?_
    conv => whnf
    refine ⟨(N : Int) - 1, by rw [e1, wrap_eq (by omega) (by omega)], ?_⟩
    conv => whnf
    refine .ret hto rfl ?_
    conv => whnf
    refine .ret hr1 rfl ?_
    conv => whnf
    refine .ret hr2 rfl ?_
    conv => whnf
    refine ⟨(N : Int) - 1, by rw [e1, wrap_eq (by omega) (by omega)], ?_⟩
    conv => whnf
    refine .ret hr3 rfl ?_
    conv => whnf
    refine ⟨(i : Int) - 1, by rw [wrap_eq (by omega) (by omega)], ?_⟩
    conv => whnf
    refine .ret hr4 rfl ?_
    conv => whnf
    refine draw_by (hm := false) (by kernel_rfl) (by kernel_rfl) ?_
    refine ⟨_, rfl, ?_⟩
    conv => whnf
    refine .pure _ _ rfl (mkcall_ret _ _ _ _) ?_
    conv => whnf
    refine .pure _ _ rfl hr5 ?_
    conv => whnf
    refine ⟨by kernel_rfl, ?_⟩
    conv => whnf
    refine .ret hcl rfl ?_
    conv => whnf
    refine ⟨_, bool_neq rfl rfl rfl _ _, ?_⟩
    conv => whnf
    rw [show decide (a1 < 0) = false by simp; omega]
    conv => whnf
    rw [show decide (a1 > a2) = false by simp; omega]
    conv => whnf
    rw [show decide (a2 > v.most) = false by rw [e2]; simp; omega]
    conv => whnf
    rw [show decide (b1 < 0) = false by simp; omega]
    conv => whnf
    rw [show decide (b1 > b2) = false by simp; omega]
    conv => whnf
    rw [show decide (z1 < a1) = false by simp; omega]
    conv => whnf
    rw [show decide (z2 < a2) = false by simp; omega]
    conv => whnf
    refine draw_by (hm := false) (by kernel_rfl) (by kernel_rfl) ?_
    conv => whnf
    refine .pure _ _ rfl (mkcall_ret _ _ _ _) ?_
    conv => whnf
    refine ⟨_, rfl, ?_⟩
    conv => whnf
    refine .pure _ _ rfl (mkcall_ret _ _ _ _) ?_
    conv => whnf
    refine ⟨_, rfl, ?_⟩
    conv => whnf
    refine .pure _ _ rfl (mkcall_ret _ _ _ _) ?_
    conv => whnf
    refine ⟨_, rfl, ?_⟩
    conv => whnf
    refine ⟨by kernel_rfl, ?_⟩
    conv => whnf
    refine loop_by (I := fun n st => ∃ (q : Nat) (h : Heap), q ≤ 3 ∧ n = 3 - q ∧ Heap.at h 0 = v.blk ∧ Heap.at h 8 = rowsB i a1 a2 b1 b2 z1 z2 ∧ 9 ≤ h.n ∧
      Has st 355 [(2, .c (.lit (.int .u8 w2))), (3, .ptr 0 0), (252, .msl 8 6 0 3 3), (253, .c (I 3)), (254, .c (I q))] [] none h) ?_ (k := 3)
      ⟨0, _, Nat.zero_le _, rfl, rfl, rfl, Nat.le_refl 9, rfl, ⟨rfl, rfl, rfl, rfl, rfl, trivial⟩, rfl, rfl, rfl, rfl⟩
    rintro n st ⟨q, h, hq, rfl, h0, h8, hn, hs1⟩
    refine hs1.run (hm := false) ?_
    conv => whnf
    cases hc : decide ((q : Int) < 3)
    case false =>
      conv => whnf
      refine .ret hA rfl ?_
      conv => whnf
      exact .val
    have hq : q < 3 := by simp at hc; omega
    conv => whnf
    obtain ⟨k, p, f, g, lo, up, hR, hread⟩ := rowE_at hN hiN q hq hA' hB' hC' k1 k2 (by omega) k4 k5 k6 (by omega) k9 k10 hd
    refine ⟨⟨rfl, by omega, by omega⟩, ?_⟩
    conv => whnf
    refine ⟨_, h8, ?_⟩
    conv => whnf
    refine look_read hread ?_
    conv => whnf
    have hsame : Heap.at (TMap.push .dead h (AB.blk z6)) h.n = .blk z6 := at_push_self _ _
    refine ⟨_, hsame, ?_⟩
    conv => whnf
    generalize hH : TMap.set AB.dead (TMap.push AB.dead h _) _ _ = H
    have Hn : H.n = h.n + 1 := by rw [← hH]; rfl
    have H0 : Heap.at H 0 = v.blk := by rw [← hH]; exact (at_set_ne _ _ (by omega)).trans ((at_push_lt _ _ (by omega)).trans h0)
    have H8 : Heap.at H 8 = rowsB i a1 a2 b1 b2 z1 z2 := by rw [← hH]; exact (at_set_ne _ _ (by omega)).trans ((at_push_lt _ _ (by omega)).trans h8)
    have Hr : Heap.at H h.n = rB k p 0 0 lo up := by rw [← hH]; exact at_set_self _ _ (by rw [push_n]; omega)
    clear hH
    have l0 := hR.l0; have l1 := hR.l1; have l2 := hR.l2
    obtain ⟨r, hr, r0, r1⟩ : ∃ r, (IntKind.i64.wrap (w2 : Int)).tmod (up - lo + 1) = r ∧ 0 ≤ r ∧ r ≤ up - lo := ⟨_, rfl, by rw [wrap_u8 hw2, Int.tmod_eq_emod_of_nonneg (by omega)]; exact Int.emod_nonneg _ (by omega), by
      rw [wrap_u8 hw2, Int.tmod_eq_emod_of_nonneg (by omega)]; have := Int.emod_lt_of_pos (w2 : Int) (show 0 < up - lo + 1 by omega); omega⟩
    refine draw_by (hm := false) (by kernel_rfl) (by kernel_rfl) ?_
    conv => whnf
    refine ⟨_, Hr, ?_⟩
    conv => whnf
    refine ⟨lo - 1, by rw [wrap_eq (by omega) (by omega)], ?_⟩
    conv => whnf
    refine ⟨_, Hr, ?_⟩
    conv => whnf
    refine ⟨_, Hr, ?_⟩
    conv => whnf
    refine ⟨_, Hr, ?_⟩
    conv => whnf
    refine ⟨_, Hr, ?_⟩
    conv => whnf
    refine ⟨up - lo, by rw [wrap_eq (by omega) (by omega)], ?_⟩
    conv => whnf
    refine ⟨up - lo + 1, by rw [wrap_eq (by omega) (by omega)], ?_⟩
    conv => whnf
    refine dplain_val (rem_to r rfl rfl rfl (by omega) hr _ _) ?_
    conv => whnf
    refine ⟨lo + r, by rw [wrap_eq (by omega) (by omega)], ?_⟩
    conv => whnf
    refine ⟨_, Hr, ?_⟩
    conv => whnf
    refine ⟨_, Hr, ?_⟩
    conv => whnf
    refine ⟨up + 1, by rw [wrap_eq (by omega) (by omega)], ?_⟩
    conv => whnf
    refine ⟨by kernel_rfl, ?_⟩
    conv => whnf
    obtain ⟨m, hm⟩ : ∃ m, m = h.n := ⟨_, rfl⟩
    rw [← hm] at Hn Hr hn
    refine loop_by (I := fun n st => ∃ (j : Nat) (G : Heap) (x y : Int), j ≤ 5 ∧ n = 5 - j ∧ Heap.at G 0 = v.blk ∧ Heap.at G 8 = rowsB i a1 a2 b1 b2 z1 z2 ∧ Heap.at G m = rB k p x y lo up ∧ Heap.at G (m + 1) = .blk (fiveC lo r up) ∧ m + 2 ≤ G.n ∧
      Has st 355 [(2, .c (.lit (.int .u8 w2))), (3, .ptr 0 0), (31, .ptr m 0), (252, .msl 8 6 0 3 3), (253, .c (I 3)), (254, .c (I q)), (287, .msl (m + 1) 1 0 5 5), (288, .c (I 5)), (289, .c (I j))] [] none G) ?_ (k := 5)
      ⟨0, _, 0, 0, Nat.zero_le _, rfl, (at_push_lt _ _ (by omega)).trans H0, (at_push_lt _ _ (by omega)).trans H8, (at_push_lt _ _ (by omega)).trans Hr, by rw [← Hn]; exact at_push_self _ _, by rw [push_n]; omega, rfl, ⟨rfl, rfl, by rw [hm]; rfl, rfl, rfl, rfl, by rw [← Hn]; rfl, rfl, rfl, trivial⟩, rfl, rfl, rfl, rfl⟩
    rintro n' st' ⟨j, G, x0, y0, hj, rfl, G0, G8, Gm, G5, Gn, hs2⟩
    refine hs2.run (hm := false) ?_
    conv => whnf
    cases hc2 : decide ((j : Int) < 5)
    case false =>
      conv => whnf
      refine ⟨((q + 1 : Nat) : Int), by rw [wrap_eq (by omega) (by omega)]; omega, ?_⟩
      conv => whnf
      exact ⟨3 - (q + 1), by omega, q + 1, _, by omega, rfl, G0, G8, by omega, rfl, ⟨rfl, rfl, rfl, rfl, rfl, trivial⟩, rfl, rfl, rfl, rfl⟩
    have hj5 : j < 5 := by simp at hc2; omega
    obtain ⟨x, hx0, hx1, hxr⟩ := five_at lo r up r0 r1 j hj5
    conv => whnf
    refine ⟨⟨rfl, by omega, by omega⟩, ?_⟩
    conv => whnf
    refine ⟨_, G5, ?_⟩
    conv => whnf
    refine look_read hxr ?_
    conv => whnf
    cases hneg : decide (x < 0)
    case true =>
      conv => whnf
      refine ⟨((j + 1 : Nat) : Int), by rw [wrap_eq (by omega) (by omega)]; omega, ?_⟩
      conv => whnf
      exact ⟨5 - (j + 1), by omega, j + 1, _, x0, y0, by omega, rfl, G0, G8, Gm, G5, Gn, rfl, ⟨rfl, rfl, rfl, rfl, rfl, rfl, rfl, rfl, rfl, trivial⟩, rfl, rfl, rfl, rfl⟩
    conv => whnf
    cases hbig : decide (x > 300)
    case true =>
      conv => whnf
      refine ⟨((j + 1 : Nat) : Int), by rw [wrap_eq (by omega) (by omega)]; omega, ?_⟩
      conv => whnf
      exact ⟨5 - (j + 1), by omega, j + 1, _, x0, y0, by omega, rfl, G0, G8, Gm, G5, Gn, rfl, ⟨rfl, rfl, rfl, rfl, rfl, rfl, rfl, rfl, rfl, trivial⟩, rfl, rfl, rfl, rfl⟩
    have x1 : 0 ≤ x := by simp at hneg; omega
    have x2 : x ≤ 300 := by simp at hbig; omega
    have hft := fitsAll_ret hv ⟨k, p, x, x⟩
    have hcok := hR.ok x x1 x2
    have hfr : fitsR t ⟨k, p, x, x⟩ = (fitsN t ⟨k, p, x, x⟩ d, 0) := fitsR_of hd hcok hl
    rw [hfr] at hft
    conv => whnf
    refine .ret (mkspan_ret _ _) rfl ?_
    conv => whnf
    refine ⟨_, Gm, ?_⟩
    conv => whnf
    generalize hG1 : TMap.set AB.dead G m _ = G1
    have n1 : m + 2 ≤ G1.n := by rw [← hG1, TMap.set_n]; exact Gn
    have g0 : Heap.at G1 0 = v.blk := by rw [← hG1]; exact (at_set_ne _ _ (by omega)).trans G0
    have g8 : Heap.at G1 8 = rowsB i a1 a2 b1 b2 z1 z2 := by rw [← hG1]; exact (at_set_ne _ _ (by omega)).trans G8
    have gm : Heap.at G1 m = rB k p x x lo up := by rw [← hG1]; exact at_set_self _ _ (by omega)
    have g5 : Heap.at G1 (m + 1) = .blk (fiveC lo r up) := by rw [← hG1]; exact (at_set_ne _ _ (by omega)).trans G5
    clear hG1
    refine ⟨_, g0, ?_⟩
    conv => whnf
    refine ⟨_, gm, ?_⟩
    conv => whnf
    refine .ret hft rfl ?_
    conv => whnf
    obtain ⟨F, hF, f0, f2⟩ : ∃ F, fitsN t ⟨k, p, x, x⟩ d = F ∧ (F == 0) = !inB' x lo up ∧ (F == 2) = (decide (lo = x) && decide (up = x)) := ⟨_, rfl, fits_tells (fits_one hl (hR.call x) hR.sp) hR.l1⟩
    rw [hF]
    refine draw_by (hm := false) (by kernel_rfl) (by kernel_rfl) ?_
    conv => whnf
    refine ⟨_, gm, ?_⟩
    conv => whnf
    refine .pure _ _ rfl (inside_ret _ _ _) ?_
    conv => whnf
    rw [show (((F, (0 : Int)).fst == 0) == inB' x lo up) = false by rw [show ((F, (0 : Int)).fst == 0) = !inB' x lo up from f0]; cases inB' x lo up <;> rfl]
    conv => whnf
    refine ⟨_, gm, ?_⟩
    conv => whnf
    refine .pure _ _ rfl (mkspan_ret _ _) ?_
    conv => whnf
    refine dplain_val (span_eql rfl rfl rfl _ _) ?_
    conv => whnf
    refine ⟨by kernel_rfl, ?_⟩
    conv => whnf
    rw [show (!((F, (0 : Int)).fst == 2) == (decide (lo = x) && decide (up = x))) = false by rw [show ((F, (0 : Int)).fst == 2) = _ from f2]; simp]
    conv => whnf
    refine ⟨_, g0, ?_⟩
    conv => whnf
    rw [show ((v.cn : Int) == 8) = decide (t.calls.length = 8) by rw [e3]; by_cases h : t.calls.length = 8 <;> simp [h] <;> omega]
    cases h8' : decide (t.calls.length = 8)
    case true =>
      conv => whnf
      refine ⟨((j + 1 : Nat) : Int), by rw [wrap_eq (by omega) (by omega)]; omega, ?_⟩
      conv => whnf
      exact ⟨5 - (j + 1), by omega, j + 1, _, x, x, by omega, rfl, g0, g8, gm, g5, n1, rfl, ⟨rfl, rfl, rfl, rfl, rfl, rfl, rfl, rfl, rfl, trivial⟩, rfl, rfl, rfl, rfl⟩
    have hnot8 : t.calls.length ≠ 8 := of_decide_eq_false h8'
    have hmd : validT (moreT t ⟨k, p, x, x⟩) = true := moreT_ok hd hcok hnot8
    have hmi : (callsV v (t.calls ++ [⟨k, p, x, x⟩])).Is (moreT t ⟨k, p, x, x⟩) := callsV_is hv (by simp; omega)
    have hmc := clash_ret hmi
    have hmw := with_ret hv (by omega) ⟨k, p, x, x⟩
    have hme := clashR_err hmd
    rw [more_can hl, hR.call, exclB_span hR.sp] at hme
    obtain ⟨⟨X1, X2⟩, hX⟩ : ∃ X, X = clashR (moreT t ⟨k, p, x, x⟩) := ⟨_, rfl⟩
    rw [← hX] at hmc hme
    dsimp only [pairV] at hmc hme
    conv => whnf
    refine ⟨_, g0, ?_⟩
    conv => whnf
    refine ⟨_, gm, ?_⟩
    conv => whnf
    refine .ret hmw rfl ?_
    conv => whnf
    refine .ret hmc rfl ?_
    conv => whnf
    refine ⟨_, gm, ?_⟩
    conv => whnf
    refine .ret (inside_ret _ _ _) rfl ?_
    conv => whnf
    refine ⟨_, bool_neq rfl rfl rfl _ _, ?_⟩
    conv => whnf
    rw [show ((X2 == 4) != inB' x lo up) = false by
      rw [hme]
      unfold inB'
      by_cases h1 : x < lo <;> by_cases h2 : up < x <;> simp [h1, h2] <;> omega]
    conv => whnf
    refine ⟨((j + 1 : Nat) : Int), by rw [wrap_eq (by omega) (by omega)]; omega, ?_⟩
    conv => whnf
    exact ⟨5 - (j + 1), by omega, j + 1, _, x, x, by omega, rfl, g0, g8, gm, g5, n1, rfl, ⟨rfl, rfl, rfl, rfl, rfl, rfl, rfl, rfl, rfl, trivial⟩, rfl, rfl, rfl, rfl⟩
end Go.Ag
