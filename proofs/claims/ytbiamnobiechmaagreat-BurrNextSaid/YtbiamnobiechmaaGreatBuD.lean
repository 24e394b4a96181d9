/- All openings and the first of the best ones; the law BurrNext returns true for arguments that are not far too long. No conditions. -/
import Derived.Test.YtbiamnobiechmaaGreatBuC
/- Layer 7: one test more; all openings. -/
namespace Go.Ag
open Go.Proofs
set_option maxRecDepth 100000

theorem SlOf.first {sz : Nat} {rows : List (List CV)} {cells : List CV} {off len : Nat} (h : SlOf sz rows cells off len) (hsz : ∀ r ∈ rows, r.length = sz) (rd : Nat → AB) : firstCells rd sz (.c (.sl cells off len)) = some (rows.flatten.map .c, rows.length, []) := by
  have key : ∀ (rows : List (List CV)) (off : Nat), (∀ r ∈ rows, r.length = sz) → (∀ i (r : List CV), rows[i]? = some r → sliceOf cells (off + i * sz) sz = some r) → sliceOf cells off (rows.length * sz) = some rows.flatten := by
    intro rows
    induction rows with
    | nil => intro off _ _; simp [sliceOf]
    | cons r rows ih =>
      intro off hs hr
      have h0 := hr 0 r rfl
      rw [Nat.zero_mul, Nat.add_zero] at h0
      have h1 := ih (off + sz) (fun r hr => hs r (by simp [hr])) (fun i r hir => by
        have := hr (i + 1) r (by simpa using hir)
        rw [Nat.add_mul, Nat.one_mul] at this
        rw [show off + sz + i * sz = off + (i * sz + sz) by omega]
        exact this)
      unfold sliceOf at h0 h1 ⊢
      dsimp only at h0 h1 ⊢
      split at h0
      · split at h1
        · simp only [Option.some.injEq] at h0 h1
          have e : List.take ((r :: rows).length * sz) (List.drop off cells) = (r :: rows).flatten := by
            rw [List.length_cons, Nat.add_mul, Nat.one_mul, Nat.add_comm, List.take_add, List.drop_drop, h0, h1, List.flatten_cons]
          rw [e, if_pos]
          rw [List.flatten_cons, List.length_append, ← h1]
          rename_i q1 q2
          rw [q2, hs r (by simp), List.length_cons, Nat.add_mul]
          omega
        · cases h1
      · cases h0
  have := key rows off hsz h.row
  simp only [firstCells]
  rw [h.len, this]
  rfl
theorem put_all {cells vs : List AV} (h : cells.length = vs.length) : putAt cells 0 vs = some vs := by
  simp only [putAt, Nat.zero_add]
  rw [if_pos (by omega), ← h]
  simp
theorem zc42 : zeroCells Tryz.prog 42 = some [AV.lit (.int .i64 0), AV.lit (.bool false)] := by kernel_rfl
theorem i42 : ∃ i, Tryz.prog.info? 42 = some i ∧ i.bytes = 16 := ⟨_, rfl, rfl⟩
def mkZ (n : Nat) : List AV := repeatCells [AV.lit (.int .i64 0), AV.lit (.bool false)] (n * 2)
theorem mkZ_len (n : Nat) : (mkZ n).length = n * 2 := by unfold mkZ repeatCells; simp
theorem aop_make25 {o : Oper} {x : Operand} {σ : Operand → AV} {rd : Nat → AB} {fr n : Nat} (ho : o.op = .makeSlice 25 x x) (hx : σ x = .c (I n)) (hn : n ≤ 1000) :
    aop Tryz.prog o σ rd fr = some (.simple { val := .msl fr 2 0 n n, fresh := some (.blk (mkZ n)) }) := by
  obtain ⟨i, hi, hb⟩ := i42
  unfold aop
  rw [ho]
  have e : asInt (AV.c (I n)) = some (n : Int) := rfl
  simp only [hx, amakeSlice, U25, hi, S42, zc42, e, hb, Int.toNat_natCast]
  rw [if_pos ⟨by omega, by omega, by have : n * 16 ≤ 1000 * 16 := Nat.mul_le_mul_right _ hn; omega, by unfold limit; omega⟩]
  rfl
theorem rowsT_cells (l : List (Nat × Bool)) : ((rowsT l).flatten.map AV.c).all AV.cellish = true := by
  rw [List.all_eq_true]
  intro c hc
  obtain ⟨c0, h0, rfl⟩ := List.mem_map.1 hc
  obtain ⟨r, h1, h2⟩ := List.mem_flatten.1 h0
  obtain ⟨x, _, rfl⟩ := List.mem_map.1 h1
  unfold rowTe at h2
  simp only [List.mem_cons, List.not_mem_nil, or_false] at h2
  rcases h2 with rfl | rfl <;> rfl
theorem rowsT_flat (l : List (Nat × Bool)) : (rowsT l).flatten.length = l.length * 2 := by rw [flat_len _ (rowsT_all l), rowsT_len]
theorem copyT {rd : Nat → AB} {id n : Nat} {s : AV} {rows : List (List CV)} {Z : List AV} (hf : firstCells rd 2 s = some (rows.flatten.map .c, rows.length, [])) (hn : rows.length = n) (hsz : ∀ r ∈ rows, r.length = 2) (hc : (rows.flatten.map AV.c).all AV.cellish = true) (hb : rd id = .blk Z) (hZ : Z.length = n * 2) :
    acopy Tryz.prog rd 25 (.msl id 2 0 n n) s = some { val := .int n, reads := [id], upds := [(id, .blk (rows.flatten.map .c))] } := by
  have hl : (rows.flatten.map AV.c).length = n * 2 := by rw [List.length_map, flat_len _ hsz, hn]
  unfold acopy
  simp only [U25, S42, hf, hc, and_self, if_true, hb, hn, Nat.min_self]
  rw [List.take_of_length_le (by omega), put_all (by omega)]
  rfl
set_option maxHeartbeats 4000000 in
theorem testing_ret {v : BV} {d : Bn} (hv : v.Is d.bu) (h6 : d.tests.length ≤ 7) (i : Nat) (f : Bool) : Ret Tryz.prog 118 [v.cv d.bu, teV (i, f)] ((v.own (d.tests ++ [(i, f)])).cv (d.more i f).bu) := by
  have e3 := hv.tn
  rw [bu_t] at e3
  have hrb := rowsT_bu d
  have hq := hv.t
  rw [hrb, e3] at hq
  have hfirst := hq.first (rowsT_all d.tests)
  rw [rowsT_len] at hfirst
  have hf2 : ∀ rd, firstCells rd 2 (.c (.sl v.tc v.ot v.tn)) = some ((rowsT d.tests).flatten.map .c, (rowsT d.tests).length, []) := by intro rd; rw [rowsT_len, e3]; exact hfirst rd
  refine ret_le (hm := false) Tryz.func118 rfl ?_
  conv => whnf
  refine ⟨_, rfl, ?_⟩
  conv => whnf
  rw [e3, aop_make25 (n := d.tests.length)]; rotate_left; rfl; rfl; omega
  obtain ⟨Z, hZd⟩ : ∃ Z, Z = mkZ d.tests.length := ⟨_, rfl⟩
  have hZ : Z.length = d.tests.length * 2 := by rw [hZd, mkZ_len]
  rw [← hZd]
  conv => whnf
  refine forceL_intro ?_
  conv => whnf
  generalize hH : TMap.push AB.dead (TMap.push AB.dead _ _) _ = H
  have Hn : H.n = 4 := by rw [← hH]; rfl
  have b0 : Heap.at H 0 = v.blk d.bu := by unfold BV.blk; rw [e3, ← hH]; kernel_rfl
  have b1 : Heap.at H 1 = .blk [.c (I i), .c (B f)] := by rw [← hH]; kernel_rfl
  have b2 : Heap.at H 2 = .blk [.c (I 0), .c (I 0), .c (I 0), nilA, .c (I 0), nilA] := by rw [← hH]; kernel_rfl
  have b3 : Heap.at H 3 = .blk Z := by rw [← hH]; kernel_rfl
  clear hH
  refine ⟨_, b0, ?_⟩
  conv => whnf
  refine ⟨_, copyT (rows := rowsT d.tests) (hf2 _) (by rw [rowsT_len]) (rowsT_all _) (rowsT_cells _) b3 hZ, ?_⟩
  conv => whnf
  generalize hG : TMap.app AB.dead _ _ = G
  have hGe : G = H.set .dead 3 (.blk ((rowsT d.tests).flatten.map .c)) := by rw [← hG]; rfl
  have Gn : G.n = 4 := by rw [hGe, TMap.set_n, Hn]
  have c0 : Heap.at G 0 = v.blk d.bu := by rw [hGe]; exact (at_set_ne _ _ (by omega)).trans b0
  have c1 : Heap.at G 1 = .blk [.c (I i), .c (B f)] := by rw [hGe]; exact (at_set_ne _ _ (by omega)).trans b1
  have c2 : Heap.at G 2 = .blk [.c (I 0), .c (I 0), .c (I 0), nilA, .c (I 0), nilA] := by rw [hGe]; exact (at_set_ne _ _ (by omega)).trans b2
  have c3 : Heap.at G 3 = .blk ((rowsT d.tests).flatten.map .c) := by rw [hGe]; exact at_set_self _ _ (by omega)
  clear hG hGe
  refine ⟨_, c1, ?_⟩
  conv => whnf
  have q3 : Heap.at (G.push .dead (.blk [.c (I i), .c (B f)])) G.n = .blk [.c (I i), .c (B f)] := at_push_self _ _
  have hfc : firstCells (atF (G.push .dead (.blk [.c (I i), .c (B f)]))) 2 (.msl G.n 2 0 1 1) = some ([.c (I i), .c (B f)], 1, [G.n]) := by
    rw [atF_eq]; simp only [firstCells, q3]; rfl
  refine ⟨_, append_grow (id := 3) (len := d.tests.length) rfl rfl U25 U25 rfl S42 hfc rfl (by omega) (by unfold limit; omega) (by rw [atF_eq]; exact (at_push_lt _ _ (by omega)).trans c3) (by rw [List.length_map, rowsT_flat]), ?_⟩
  conv => whnf
  generalize hG : TMap.app AB.dead _ _ = K
  have e4 : K = ((G.push .dead (.blk [.c (I i), .c (B f)])).set .dead 3 .dead).push .dead (.blk ((rowsT d.tests).flatten.map .c ++ [.c (I i), .c (B f)])) := by rw [← hG]; rfl
  have hp : ((G.push .dead (.blk [.c (I i), .c (B f)])).set .dead 3 .dead).n = 5 := by rw [TMap.set_n, push_n, Gn]
  have Kn : K.n = 6 := by rw [e4, push_n, hp]
  have k0 : Heap.at K 0 = v.blk d.bu := by rw [e4]; exact (at_push_lt _ _ (by rw [hp]; omega)).trans ((at_set_ne _ _ (by omega)).trans ((at_push_lt _ _ (by omega)).trans c0))
  have k2 : Heap.at K 2 = .blk [.c (I 0), .c (I 0), .c (I 0), nilA, .c (I 0), nilA] := by rw [e4]; exact (at_push_lt _ _ (by rw [hp]; omega)).trans ((at_set_ne _ _ (by omega)).trans ((at_push_lt _ _ (by omega)).trans c2))
  have hrl : rowsT (d.tests ++ [(i, f)]) = rowsT d.tests ++ [[I i, B f]] := by unfold rowsT; simp; rfl
  have hrn : (rowsT (d.tests ++ [(i, f)])).length = d.tests.length + 1 := by rw [rowsT_len]; simp
  have k5 : Heap.at K 5 = .blk ((rowsT (d.tests ++ [(i, f)])).flatten.map .c) := by
    rw [e4, hrl]
    have e5 := at_push_self ((G.push .dead (.blk [.c (I i), .c (B f)])).set .dead 3 .dead) (.blk ((rowsT d.tests).flatten.map .c ++ [.c (I i), .c (B f)]))
    rw [hp] at e5
    rw [e5]
    simp
  have R : RowsL 2 K (.msl 5 2 0 (rowsT (d.tests ++ [(i, f)])).length (rowsT (d.tests ++ [(i, f)])).length) (rowsT (d.tests ++ [(i, f)])) := .inr ⟨5, rfl, k5, by omega, by rw [hrl]; simp⟩
  clear hG e4
  rw [← hrn]
  have gp : (G.push .dead (.blk [.c (I i), .c (B f)])).n = 5 := by rw [push_n, Gn]
  rw [gp]
  refine ⟨_, k0, ?_⟩
  conv => whnf
  refine ⟨_, at_set_self _ _ (i := 0) (show 0 < K.n by omega), ?_⟩
  conv => whnf
  refine ⟨_, (at_set_ne _ _ (i := 2) (k := 0) (by omega)).trans k2, ?_⟩
  conv => whnf
  refine ⟨_, at_set_self _ _ (i := 2) (show 2 < TMap.n _ by rw [TMap.set_n]; omega), ?_⟩
  conv => whnf
  have key : (v.own (d.tests ++ [(i, f)])).cv (d.more i f).bu = .agg [I d.bu.mobs, I d.bu.lo, I d.bu.hi, .sl v.bc v.bo v.bn, I d.bu.top, .sl (rowsT (d.tests ++ [(i, f)])).flatten 0 (rowsT (d.tests ++ [(i, f)])).length] := by
    rw [rowsT_len]; rfl
  rw [key]
  have n0 : ∀ k, k < 5 → outId (.msl 5 2 0 (rowsT (d.tests ++ [(i, f)])).length (rowsT (d.tests ++ [(i, f)])).length) ≠ some k := fun k hk e => by
    have := Option.some.inj e; omega
  exact bu_end ((R.set (n0 0 (by omega)) _).set (n0 2 (by omega)) _) _ _ _ _ _
end Go.Ag
/- Layer 7: all openings. -/
namespace Go.Ag
open Go.Proofs
set_option maxRecDepth 100000

theorem U90 : Tryz.prog.underlying 90 = some (.slice 86) := by kernel_rfl
theorem S86 : slicePart Tryz.prog 86 = some 3 := by kernel_rfl
def opR (d : Bn) (i : Nat) : List CV := [I i, I (countN (d.more i false)), I (countN (d.more i true))]
def opC (d : Bn) (i : Nat) : CV := .agg [I i, .agg [I (countN (d.more i false)), I (countN (d.more i true))]]
def rowsO (d : Bn) (q : Nat) : List (List CV) := (List.range q).map (opR d)
theorem rowsO_all (d : Bn) (q : Nat) : ∀ r ∈ rowsO d q, r.length = 3 := by
  intro r hr; obtain ⟨x, _, rfl⟩ := List.mem_map.1 hr; rfl
theorem rowsO_len (d : Bn) (q : Nat) : (rowsO d q).length = q := by unfold rowsO; simp
theorem rowsO_succ (d : Bn) (q : Nat) : rowsO d (q + 1) = rowsO d q ++ [opR d q] := by unfold rowsO; rw [List.range_succ, List.map_append]; rfl
def opsC (d : Bn) : CV := .sl (rowsO d d.k).flatten 0 d.k
theorem more_len (d : Bn) (i : Nat) (f : Bool) : (d.tests ++ [(i, f)]).length = d.tests.length + 1 := by simp
set_option maxHeartbeats 4000000 in
theorem openings_ret {v : BV} {d : Bn} (hv : v.Is d.bu) (hd : d.Good) (h6 : d.tests.length ≤ 6) : Ret Tryz.prog 71 [v.cv d.bu] (opsC d) := by
  have e2 : v.bn = d.k := hv.bn.trans (bu_k d)
  have k6 : d.k ≤ 6 := hd.k6
  have tn7 := hd.tn
  refine ret_le (hm := false) Tryz.func71 rfl ?_
  conv => whnf
  refine ⟨_, rfl, ?_⟩
  conv => whnf
  refine loop_by (I := fun z st => ∃ (q : Nat) (h : Heap) (out : AV), q ≤ d.k ∧ z = d.k - q ∧ RowsL 3 h out (rowsO d q) ∧ Heap.at h 0 = v.blk d.bu ∧ 1 ≤ h.n ∧ (∀ k, outId out = some k → 1 ≤ k) ∧
      Has st 31 [(1, .ptr 0 0), (3, out), (6, .c (.sl v.bc v.bo v.bn)), (7, .c (I v.bn)), (8, .c (I q))] [] none h) ?_ (k := d.k)
    ⟨0, _, nilA, Nat.zero_le _, rfl, .inl ⟨rfl, rfl⟩, rfl, Nat.le_refl 1, (fun k hk => by cases hk), rfl, ⟨rfl, rfl, rfl, rfl, rfl, trivial⟩, rfl, rfl, rfl, rfl⟩
  rintro z st ⟨q, h, out, hq, rfl, R, h0, hn, ho, hs1⟩
  refine hs1.run (hm := false) ?_
  conv => whnf
  cases hcq : decide ((q : Int) < (v.bn : Int))
  case false =>
    have : q = d.k := by simp at hcq; omega
    subst this
    have hrl := rowsO_len d d.k
    rcases R.shape with rfl | ⟨o, n, rfl⟩
    · conv => whnf
      have hk : d.k = 0 := by
        rcases R with ⟨_, hh⟩ | ⟨o, hx, _⟩
        · rw [hh] at hrl; exact hrl.symm
        · cases hx
      refine ⟨_, .val, ?_⟩
      unfold opsC
      rw [hk]
      exact .nil _ _
    · conv => whnf
      obtain ⟨x, ids, hs, hle⟩ := snap_row R ((rowsO d d.k).flatten.length + 25) (by omega)
      rw [hrl] at hle
      exact ⟨x, ⟨_, ids, hs⟩, hle⟩
  have hq : q < d.k := by simp at hcq; omega
  have hlim : (rowsO d q).length + 1 ≤ limit := by rw [rowsO_len]; unfold limit; omega
  have hlo := R.lt
  have g0 := more_good hd h6 hq false
  have g1 := more_good hd h6 hq true
  rcases R.shape with rfl | ⟨o, n, rfl⟩
  all_goals
    conv => whnf
    refine draw_by (hm := false) (by kernel_rfl) (by kernel_rfl) ?_
    conv => whnf
    refine ⟨_, h0, ?_⟩
    conv => whnf
    refine .pure _ _ rfl (testing_ret hv (by omega) q false) ?_
    conv => whnf
    refine .pure _ _ rfl (know_ret (own_is hv (l := d.tests ++ [(q, false)]) (by rw [more_len]; omega)) g0) ?_
    conv => whnf
    refine .pure _ _ rfl (count_ret g0) ?_
    conv => whnf
    refine ⟨_, h0, ?_⟩
    conv => whnf
    refine .pure _ _ rfl (testing_ret hv (by omega) q true) ?_
    conv => whnf
    refine .pure _ _ rfl (know_ret (own_is hv (l := d.tests ++ [(q, true)]) (by rw [more_len]; omega)) g1) ?_
    conv => whnf
    refine .pure _ _ rfl (count_ret g1) ?_
    conv => whnf
    obtain ⟨r1, hr1, hR1, hold1, hn1', hfresh1, hupd1, hre1, hup1, bf1, hval1, hnn1⟩ := rows_append2 (P := Tryz.prog) (row := opR d q) (t := 90) (u := 90) R U90 U90 rfl S86 rfl (rowsO_all _ _) rfl hlim
    obtain ⟨H1, hH1⟩ : ∃ H1, H1 = after (h.push .dead (.blk ((opR d q).map .c))) r1 := ⟨_, rfl⟩
    rw [← hH1] at hR1 hold1 hn1' hnn1
    obtain ⟨rv1, rreads1, rupds1, rfresh1⟩ := r1
    obtain ⟨fb1, bf1⟩ := bf1
    simp only at hval1 hre1 hup1 bf1 hfresh1 hR1
    subst bf1
    subst hval1
    subst hre1
    subst hup1
    refine dgot (H := H1) (got_app rfl hr1) hupd1 hH1.symm ?_
    conv => whnf
    refine ⟨?_, ?_⟩
    · first
        | (obtain ⟨π, z0, z1, z2⟩ : ∃ π : Nat → Nat, π 0 = 0 ∧ π h.n = 1 ∧ π (h.n + 1) = 2 := ⟨fun x => if x = 0 then 0 else if x = h.n then 1 else 2, by dsimp only; repeat (first | rw [if_pos rfl] | rw [if_neg (by omega)]), by dsimp only; repeat (first | rw [if_pos rfl] | rw [if_neg (by omega)]), by dsimp only; repeat (first | rw [if_pos rfl] | rw [if_neg (by omega)])⟩
           exact pairs_via π [⟨0, _, _, [], []⟩, ⟨1, _, _, [], []⟩, ⟨2, _, _, [π 0], []⟩, ⟨3, _, _, [], []⟩, ⟨4, _, _, [], []⟩, ⟨5, _, _, [], []⟩, ⟨6, _, _, [], []⟩, ⟨7, _, _, [], []⟩, ⟨8, _, _, [π 0], []⟩, ⟨9, _, _, [], []⟩, ⟨10, _, _, [], []⟩, ⟨11, _, _, [], []⟩, ⟨12, _, _, [], []⟩, ⟨13, _, _, [], []⟩, ⟨14, _, _, [], []⟩, ⟨15, _, _, [], []⟩, ⟨16, _, _, [], [π h.n]⟩, ⟨17, _, _, [π h.n], [π (h.n + 1)]⟩, ⟨18, _, _, [], []⟩] rfl (by rw [z0, z1, z2]; kernel_rfl))
        | (have j1 := ho o rfl
           have j2 := hlo o rfl
           obtain ⟨π, z0, z1, z2, z3⟩ : ∃ π : Nat → Nat, π 0 = 0 ∧ π h.n = 1 ∧ π (h.n + 1) = 2 ∧ π o = 3 := ⟨fun x => if x = 0 then 0 else if x = h.n then 1 else if x = h.n + 1 then 2 else 3, by dsimp only; repeat (first | rw [if_pos rfl] | rw [if_neg (by omega)]), by dsimp only; repeat (first | rw [if_pos rfl] | rw [if_neg (by omega)]), by dsimp only; repeat (first | rw [if_pos rfl] | rw [if_neg (by omega)]), by dsimp only; repeat (first | rw [if_pos rfl] | rw [if_neg (by omega)])⟩
           exact pairs_via π [⟨0, _, _, [], []⟩, ⟨1, _, _, [], []⟩, ⟨2, _, _, [π 0], []⟩, ⟨3, _, _, [], []⟩, ⟨4, _, _, [], []⟩, ⟨5, _, _, [], []⟩, ⟨6, _, _, [], []⟩, ⟨7, _, _, [], []⟩, ⟨8, _, _, [π 0], []⟩, ⟨9, _, _, [], []⟩, ⟨10, _, _, [], []⟩, ⟨11, _, _, [], []⟩, ⟨12, _, _, [], []⟩, ⟨13, _, _, [], []⟩, ⟨14, _, _, [], []⟩, ⟨15, _, _, [], []⟩, ⟨16, _, _, [], [π h.n]⟩, ⟨17, _, _, [π o, π h.n], [π o, π (h.n + 1)]⟩, ⟨18, _, _, [], []⟩] rfl (by rw [z0, z1, z2, z3]; kernel_rfl))
    conv => whnf
    refine ⟨((q + 1 : Nat) : Int), by rw [wrap_eq (by omega) (by omega)]; omega, ?_⟩
    conv => whnf
    refine ⟨d.k - (q + 1), by omega, q + 1, H1, _, by omega, rfl, by rw [rowsO_succ]; exact hR1, (hold1 0 (by omega) (fun e => by have := ho 0 e; omega)).trans h0, by omega, (fun k hk => by have := hfresh1 k hk; omega), rfl, ⟨rfl, rfl, rfl, rfl, rfl, trivial⟩, rfl, rfl, rfl, rfl⟩
end Go.Ag
/- Layer 7: the most that is left. -/
namespace Go.Ag
open Go.Proofs
set_option maxRecDepth 100000

set_option maxHeartbeats 2000000 in
theorem max2_ret (a b : Nat) : Ret Tryz.prog 119 [.sl [I a, I b] 0 2] (I (max a b : Nat)) := by
  refine ret_by (hm := false) Tryz.func119 rfl ?_
  conv => whnf
  refine ⟨⟨by omega, by omega⟩, ?_⟩
  conv => whnf
  refine ⟨_, rfl, ?_⟩
  conv => whnf
  refine loop_by (I := fun z st => ∃ (q : Nat) (m : Int), 1 ≤ q ∧ q ≤ 2 ∧ z = 2 - q ∧ (q = 1 → m = a) ∧ (q = 2 → m = (max a b : Nat)) ∧
      Has st 25 [(0, .c (.sl [I a, I b] 0 2)), (3, .c (I m)), (4, .c (I q))] [] none TMap.nil) ?_ (k := 1)
    ⟨1, (a : Int), by omega, by omega, rfl, fun _ => rfl, (fun h => by omega), rfl, ⟨rfl, rfl, rfl, trivial⟩, rfl, rfl, rfl, rfl⟩
  rintro z st ⟨q, m, h1, h2, rfl, hm1, hm2, hs1⟩
  refine hs1.run (hm := false) ?_
  conv => whnf
  cases hcq : decide ((q : Int) < 2)
  case false =>
    have : q = 2 := by simp at hcq; omega
    subst this
    rw [hm2 rfl]
    conv => whnf
    exact .val
  have : q = 1 := by simp at hcq; omega
  subst this
  rw [hm1 rfl]
  conv => whnf
  refine ⟨⟨by omega, by omega⟩, ?_⟩
  conv => whnf
  refine ⟨_, rfl, ?_⟩
  conv => whnf
  refine ⟨((2 : Nat) : Int), by rw [wrap_eq (by omega) (by omega)]; omega, ?_⟩
  conv => whnf
  exact ⟨0, by omega, 2, _, by omega, by omega, rfl, (fun h => by omega), (fun _ => by omega), rfl, ⟨rfl, rfl, rfl, trivial⟩, rfl, rfl, rfl, rfl⟩
set_option maxHeartbeats 2000000 in
theorem most_ret (a b : Nat) : Ret Tryz.prog 72 [.agg [I a, I b]] (I (max a b : Nat)) := by
  refine ret_by (hm := false) Tryz.func72 rfl ?_
  conv => whnf
  refine ⟨_, rfl, ?_⟩
  conv => whnf
  refine CallW.own (cs := [I a, I b]) (rest := []) rfl (max2_ret a b) rfl ?_
  conv => whnf
  exact .val
def worseB (o x : Op) : Bool := decide (max x.n x.y < max o.n o.y)
def opsL (L : List Op) : CV := .sl (L.map rowOp).flatten 0 L.length
theorem op_all (L : List Op) : ∀ r ∈ L.map rowOp, r.length = 3 := by
  intro r hr; obtain ⟨x, _, rfl⟩ := List.mem_map.1 hr; rfl
set_option maxHeartbeats 1000000 in
theorem worse_ret (o x : Op) : Ret Tryz.prog 117 [opV o, opV x] (B (worseB o x)) := by
  refine ret_by (hm := false) Tryz.func117 rfl ?_
  conv => whnf
  refine draw_by (hm := false) (by kernel_rfl) (by kernel_rfl) ?_
  conv => whnf
  refine ⟨_, rfl, ?_⟩
  conv => whnf
  refine .pure _ _ rfl (most_ret _ _) ?_
  conv => whnf
  refine ⟨_, rfl, ?_⟩
  conv => whnf
  refine .pure _ _ rfl (most_ret _ _) ?_
  conv => whnf
  refine ⟨by kernel_rfl, ?_⟩
  conv => whnf
  rw [show decide (((max x.n x.y : Nat) : Int) < ((max o.n o.y : Nat) : Int)) = worseB o x by unfold worseB; rw [decide_eq_decide]; omega]
  exact .val
theorem rv86 (cells : List CV) (i : Nat) : readVarC Tryz.prog 86 cells i = (sliceOf cells i 3).map CV.agg := rfl
theorem ops_get {L : List Op} {k : Nat} {b : Op} (hk : L[k]? = some b) : readVarC Tryz.prog 86 (L.map rowOp).flatten (0 + (k : Int).toNat * 3) = some (opV b) := by
  rw [Int.toNat_natCast, rv86, (sl_flat (op_all L)).row k (rowOp b) (by simp [hk])]; rfl
def wfC (o : Op) : CV := .func (.func 117) [opV o] []
set_option maxHeartbeats 1000000 in
theorem index2_ret (L : List Op) (o : Op) (hlen : L.length ≤ 1000) : Ret Tryz.prog 137 [opsL L, wfC o] (I (idxP (worseB o) L 0)) := by
  refine ret_by (hm := false) Tryz.func137 rfl ?_
  conv => whnf
  refine loop_by (I := fun z st => ∃ (q : Nat) (h : Heap), q ≤ L.length ∧ z = L.length - q ∧ idxP (worseB o) L 0 = idxP (worseB o) (L.drop q) q ∧
      Has st 19 [(0, .c (opsL L)), (1, .c (wfC o)), (7, .c (I L.length)), (8, .c (I q))] [] none h) ?_ (k := L.length)
    ⟨0, _, Nat.zero_le _, rfl, rfl, rfl, ⟨rfl, rfl, rfl, rfl, trivial⟩, rfl, rfl, rfl, rfl⟩
  rintro z st ⟨q, h, hq, rfl, hi, hs1⟩
  refine hs1.run (hm := false) ?_
  conv => whnf
  cases hcq : decide ((q : Int) < (L.length : Int))
  case false =>
    have : q = L.length := by simp at hcq; omega
    subst this
    rw [List.drop_length] at hi
    rw [hi]
    conv => whnf
    exact .val
  have hq : q < L.length := by simp at hcq; omega
  obtain ⟨b, hb⟩ := get_some hq
  rw [drop_get hb, idx_cons] at hi
  conv => whnf
  refine ⟨⟨by omega, by omega⟩, ?_⟩
  conv => whnf
  refine ⟨_, ops_get hb, ?_⟩
  conv => whnf
  refine .ret (worse_ret o b) rfl ?_
  conv => whnf
  cases hp : worseB o b
  · rw [hp, if_neg (by simp)] at hi
    conv => whnf
    refine ⟨((q + 1 : Nat) : Int), by rw [wrap_eq (by omega) (by omega)]; omega, ?_⟩
    conv => whnf
    exact ⟨L.length - (q + 1), by omega, q + 1, _, by omega, rfl, hi, rfl, ⟨rfl, rfl, rfl, rfl, trivial⟩, rfl, rfl, rfl, rfl⟩
  · rw [hp, if_pos rfl] at hi
    conv => whnf
    rw [hi]
    exact .val
theorem contains2_ret (L : List Op) (o : Op) (hlen : L.length ≤ 1000) : Ret Tryz.prog 116 [opsL L, wfC o] (B (L.any (worseB o))) := by
  refine ret_by (hm := true) Tryz.func116 rfl ?_
  conv => whnf
  refine .ret (index2_ret L o hlen) rfl ?_
  conv => whnf
  rw [show decide (idxP (worseB o) L 0 ≥ 0) = L.any (worseB o) from idx_any _ _ _]
  exact .val
def topB (L : List Op) (o : Op) : Bool := !L.any (worseB o)
set_option maxHeartbeats 1000000 in
theorem suits_clos {L : List Op} (hlen : L.length ≤ 1000) (o : Op) {a : Nat} {h : Heap} (ha : Heap.at h a = .blk [.c (opsL L)]) (han : a < h.n) :
    ∃ e h', CallOk Tryz.prog 115 [.c (opV o), .ptr a 0] h .no e h' .no ∧ (e = .ret (.c (B (topB L o))) ∧ Foot none' h h') := by
  refine call_by (hm := false) Tryz.func115 rfl ?_
  conv => whnf
  refine ⟨_, (at_push_lt _ _ han).trans ha, ?_⟩
  conv => whnf
  refine ⟨_, at_push_self _ _, ?_⟩
  conv => whnf
  refine .ret (contains2_ret L o hlen) rfl ?_
  conv => whnf
  exact ⟨rfl, (Foot.refl _ _).push _⟩
def valC (L : List Op) : CV := .func (.func 136) [] [.cptr [opsL L] 0]
theorem values_ret (L : List Op) : Ret Tryz.prog 114 [opsL L] (valC L) := by
  refine ret_by (hm := true) Tryz.func114 rfl ?_
  conv => whnf
  exact ⟨10, [0], rfl⟩
end Go.Ag
/- Layer 7: the best opening. -/
namespace Go.Ag
open Go.Proofs
set_option maxRecDepth 100000

def op1 (L : List Op) : List (List CV) := L.map fun o => [opV o]
def zO : AB := .blk [.c (I 0), .c (I 0), .c (I 0)]
def endO' (err : Int) (o : Option Op) : AEnd := endO o err
set_option maxHeartbeats 2000000 in
theorem values_iter (L : List Op) (hlen : L.length ≤ 1000) : IterA Tryz.prog (fun _ => True) (.c (valC L)) (op1 L) := by
  refine ⟨136, [], [.c (.cptr [opsL L] 0)], fun args => by kernel_rfl, fun id n0 J D X R _ hid h0 hn0 hJ => ?_⟩
  refine call_by (hm := false) Tryz.func136 rfl ?_
  conv => whnf
  refine ⟨_, rfl, ?_⟩
  conv => whnf
  refine loop_by (I := fun q s => ∃ (j : Nat) (h : Heap), j ≤ L.length ∧ q = L.length - j ∧ n0 ≤ h.n ∧ J none' (op1 (L.drop j)) h ∧
    Has s 16 [(0, .yield id), (5, .c (opsL L)), (6, .c (I L.length)), (7, .c (I j))] [] none h) ?_ (k := L.length)
    ⟨0, _, Nat.zero_le _, rfl, hn0, hJ, rfl, ⟨rfl, rfl, rfl, rfl, trivial⟩, rfl, rfl, rfl, rfl⟩
  rintro q s ⟨j, h1, hj, rfl, hn1, hJ1, hs1⟩
  refine hs1.run (hm := false) ?_
  conv => whnf
  cases hc1 : decide ((j : Int) < (L.length : Int))
  · have hj2 : j = L.length := by simp at hc1; omega
    rw [hj2, List.drop_length] at hJ1
    conv => whnf
    exact ⟨hn1, .inl hJ1⟩
  have hj2 : j < L.length := by simp at hc1; omega
  obtain ⟨y, hy⟩ := get_some hj2
  rw [drop_get hy] at hJ1
  conv => whnf
  refine ⟨⟨by omega, by omega⟩, ?_⟩
  conv => whnf
  refine ⟨_, ops_get hy, ?_⟩
  conv => whnf
  refine ⟨_, at_push_self _ _, ?_⟩
  conv => whnf
  generalize hG : TMap.set AB.dead (TMap.push AB.dead h1 _) _ _ = G
  have Gn : G.n = h1.n + 1 := by rw [← hG]; exact new_n _ _ _
  have Gt : Heap.at G h1.n = .blk ((rowOp y).map .c) := by rw [← hG]; exact at_new _ _ _
  have f1 : Foot none' h1 G := by rw [← hG]; exact Foot.set ((Foot.refl _ _).push _) (.inr (Nat.le_refl _)) _
  have hJ2 : J none' ([opV y] :: op1 (L.drop (j + 1))) G := R.mono _ _ _ _ (R.stable _ _ _ _ hJ1 hn1 f1) (fun i hi => hi.elim)
  clear hG
  refine ⟨_, Gt, ?_⟩
  conv => whnf
  refine .mk ((R.round _ _ _ _ hJ2 (by omega) (fun i hi => hi.elim)).mono ?_ ?_)
  · rintro b h' ⟨hf, hk⟩
    have n' := hf.n
    have n3 : n0 ≤ h'.n := by omega
    cases b
    · conv => whnf
      exact ⟨n3, .inr hk⟩
    · conv => whnf
      refine ⟨((j + 1 : Nat) : Int), by rw [wrap_eq (by omega) (by omega)]; omega, ?_⟩
      conv => whnf
      exact ⟨L.length - (j + 1), by omega, j + 1, h', by omega, rfl, n3, hk, rfl, ⟨rfl, rfl, rfl, rfl, trivial⟩, rfl, rfl, rfl, rfl⟩
  · rintro v h' ⟨hx, hn', hf⟩
    exact ⟨hn', hx⟩

set_option maxHeartbeats 1000000 in
theorem first_open {a : Nat} {err : Int} {it : CV} {ys : List Op} (hit : IterA Tryz.prog (fun _ => True) (.c it) (op1 ys)) {p : Op → Bool} {h : Heap}
    (hs : ∀ y, y ∈ ys → ∀ h1, Foot none' h h1 → ∃ e h2, CallOk Tryz.prog 115 [.c (opV y), .ptr a 0] h1 .no e h2 .no ∧ (e = .ret (.c (B (p y))) ∧ Foot none' h1 h2)) :
    ∃ e h', CallOk Tryz.prog 113 [.c it, .agg [.func (.func 115) [] [.ptr a 0], .c (I err)]] h .no e h' .no ∧ (e = endO' err (ys.find? p) ∧ Foot none' h h') := by
  refine call_by (hm := false) Tryz.func113 rfl ?_
  conv => whnf
  refine range_nA (hm := false) (h.n + 2) rfl (ps := [7]) rfl rfl hit
    (I := fun _ l h1 => Heap.at h1 h.n = .blk [.func (.func 115) [] [.ptr a 0], .c (I err)] ∧ Heap.at h1 (h.n + 1) = zO ∧ Foot none' h h1 ∧ ∃ done rest, l = op1 rest ∧ ys = done ++ rest ∧ ∀ y ∈ done, p y = false)
    (E := fun _ e h1 => e = .ret ∧ ∃ y, ys.find? p = some y ∧ Heap.at h1 (h.n + 1) = .blk ((rowOp y).map .c) ∧ Foot none' h h1) (X := fun _ _ _ => False) ?_ ?_ ?_ ?_ ?_ ?_ ?_ ?_ ?_ ?_ ?_ ?_
  · rintro W l h1 h2 ⟨k1, k2, k3, k5⟩ hn hw ff0
    have ff := ff0.high hw
    exact ⟨(ff.below hn (by omega)).trans k1, (ff.below hn (by omega)).trans k2, k3.trans_up ff (by omega), k5⟩
  · rintro W e h1 h2 ⟨k1, y, k2, k3, k4⟩ hn hw ff0
    have ff := ff0.high hw
    exact ⟨k1, y, k2, (ff.below hn (by omega)).trans k3, k4.trans_up ff (by omega)⟩
  · rintro _ _ _ _ hx
    exact hx.elim
  · rintro _ _ _ _ hx _
    exact hx
  · rintro _ _ _ _ hx _
    exact hx
  · rintro _ _ _ _ hx _
    exact hx
  · intro _ _ _ _
    trivial
  · exact ⟨(at_push_lt _ _ (by rw [push_n]; omega)).trans (at_push_self _ _), at_push_self _ _, ((Foot.refl _ _).push _).push _, [], ys, rfl, rfl, by simp⟩
  · rintro W y l h1 hn hw ⟨k1, k2, k3, done, rest, e1, e2, e3⟩
    cases rest with
    | nil => cases e1
    | cons y0 rest =>
    obtain ⟨rfl, rfl⟩ := List.cons.inj e1
    refine ⟨rfl, ?_⟩
    conv => whnf
    refine ⟨_, at_push_self _ _, ?_⟩
    conv => whnf
    refine ⟨Foot.set ((Foot.refl _ _).push _) (.inr (Nat.le_refl _)) _, fun hb fb hbn => ?_⟩
    have n1 : h.n + 2 + 2 ≤ h1.n := hn
    have hbn' : hb.n = h1.n + 1 := by rw [hbn, new_n]
    have b1 : Heap.at hb h.n = .blk [.func (.func 115) [] [.ptr a 0], .c (I err)] := (fb.keep h.n (by rw [new_n]; omega) (by omega)).trans ((at_old _ _ _ (by omega)).trans k1)
    have b2 : Heap.at hb (h.n + 1) = zO := (fb.keep (h.n + 1) (by rw [new_n]; omega) (by omega)).trans ((at_old _ _ _ (by omega)).trans k2)
    have bt : Heap.at hb h1.n = .blk ((rowOp y0).map .c) := (fb.keep h1.n (by rw [new_n]; omega) (by omega)).trans (at_new _ _ _)
    have b3 : Foot none' h hb := k3.trans_up (N := h.n) (Foot.trans ((Foot.set ((Foot.refl _ _).push _) (.inr (Nat.le_refl _)) _)) (fb.mono fun i _ hi => by omega)) (Nat.le_refl _)
    obtain ⟨e, h2, hc, rfl, f2⟩ := hs y0 (by rw [e2]; simp) hb b3
    have c1 := (f2.keep (h.n + 1) (by omega) (fun x => x)).trans b2
    have c0 := (f2.keep h.n (by omega) (fun x => x)).trans b1
    have ct := (f2.keep h1.n (by omega) (fun x => x)).trans bt
    have hn2 := f2.n
    conv => whnf
    refine ⟨_, b1, ?_⟩
    conv => whnf
    refine ⟨_, bt, ?_⟩
    conv => whnf
    refine .inl _ h2 .no hc ?_
    conv => whnf
    have fend : Foot (apart W (h.n + 2)) hb h2 := f2.mono fun i _ hi => hi.elim
    cases hp : p y0
    · conv => whnf
      exact ⟨fend, c0, c1, b3.trans f2, done ++ [y0], rest, rfl, by rw [e2]; simp, fun z hz => by
        rcases List.mem_append.1 hz with h | h
        · exact e3 z h
        · rw [List.mem_singleton] at h; rw [h]; exact hp⟩
    · conv => whnf
      refine ⟨_, ct, ?_⟩
      conv => whnf
      refine ⟨_, c1, ?_⟩
      conv => whnf
      refine ⟨Foot.set (W := apart W (h.n + 2)) (k := h.n + 1) fend (.inl (apart_lt (fun i hi => (hw i hi).1) (by omega))) _, rfl, y0, ?_, at_set_self _ _ (i := h.n + 1) (by omega), Foot.set (W := none') (k := h.n + 1) (b3.trans f2) (.inr (by omega)) _⟩
      rw [e2, List.find?_append]
      have : done.find? p = none := List.find?_eq_none.2 fun x hx => by rw [e3 x hx]; simp
      rw [this]
      simp [hp]
  · rintro h1 hn hc ⟨k1, k2, k3, done, rest, e1, e2, e3⟩
    have : rest = [] := by cases rest with | nil => rfl | cons a l => cases e1
    subst this
    have hnone : ys.find? p = none := List.find?_eq_none.2 fun x hx => by rw [e2, List.append_nil] at hx; rw [e3 x hx]; simp
    rw [hnone]
    conv => whnf
    refine ⟨_, k1, ?_⟩
    conv => whnf
    refine ⟨_, hc, ?_⟩
    conv => whnf
    exact ⟨rfl, Foot.set (W := none') (k := h.n + 2) k3 (.inr (by omega)) _⟩
  · rintro e h1 hn hc ⟨rfl, y, k2, k3, k4⟩ _
    rw [k2]
    conv => whnf
    refine ⟨_, hc, ?_⟩
    conv => whnf
    refine ⟨_, (at_set_ne _ _ (i := h.n + 1) (k := h.n + 2) (by omega)).trans k3, ?_⟩
    conv => whnf
    exact ⟨rfl, Foot.set (W := none') (k := h.n + 2) k4 (.inr (by omega)) _⟩
  · rintro x h1 _ _ hx
    exact hx.elim
set_option maxHeartbeats 1000000 in
theorem best_call (L : List Op) (hlen : L.length ≤ 1000) (h : Heap) :
    ∃ e h', CallOk Tryz.prog 70 [.c (opsL L)] h .no e h' .no ∧ (e = endO (L.find? (topB L)) 4 ∧ Foot none' h h') := by
  refine call_by (hm := false) Tryz.func70 rfl ?_
  conv => whnf
  generalize hH : TMap.push AB.dead (TMap.push AB.dead h _) _ = H
  have Hn : H.n = h.n + 2 := by rw [← hH]; rfl
  have b0 : Heap.at H h.n = .blk [.c (opsL L)] := by rw [← hH]; exact (at_push_lt _ _ (by rw [push_n]; omega)).trans (at_push_self _ _)
  have b1 : Heap.at H (h.n + 1) = zO := by rw [← hH]; exact at_push_self _ _
  have fH : Foot none' h H := by rw [← hH]; exact ((Foot.refl _ _).push _).push _
  clear hH
  refine ⟨_, b0, ?_⟩
  conv => whnf
  refine .ret (values_ret L) rfl ?_
  conv => whnf
  obtain ⟨e2, H2, hc2, rfl, f2⟩ := first_open (a := h.n) (err := 4) (h := H) (values_iter L hlen) (p := topB L) (fun y _ h1 fx => suits_clos hlen y ((fx.keep h.n (by omega) (fun x => x)).trans b0) (by have := fx.n; omega))
  have f2n := f2.n
  have c1 := (f2.keep (h.n + 1) (by omega) (fun x => x)).trans b1
  refine .inl _ H2 .no hc2 ?_
  conv => whnf
  cases hf : L.find? (topB L) with
  | none =>
    conv => whnf
    exact ⟨rfl, fH.trans f2⟩
  | some y =>
    conv => whnf
    refine ⟨_, c1, ?_⟩
    conv => whnf
    refine ⟨_, at_set_self _ _ (i := h.n + 1) (by omega), ?_⟩
    conv => whnf
    exact ⟨rfl, Foot.set (W := none') (k := h.n + 1) (fH.trans f2) (.inr (by omega)) _⟩
def opO (d : Bn) (i : Nat) : Op := ⟨i, countN (d.more i false), countN (d.more i true)⟩
def opsD (d : Bn) : List Op := (List.range d.k).map (opO d)
theorem opsC_eq (d : Bn) : opsC d = opsL (opsD d) := by
  unfold opsC opsL opsD rowsO
  rw [List.map_map, List.length_map, List.length_range]
  rfl
theorem worse_op (d : Bn) (i j : Nat) : worseB (opO d i) (opO d j) = decide (leftN d j < leftN d i) := rfl
theorem best_op (d : Bn) : (opsD d).find? (topB (opsD d)) = (bestN d).map (opO d) := by
  unfold bestN
  rw [show (opsD d).find? (topB (opsD d)) = ((List.range d.k).find? ((topB (opsD d)) ∘ opO d)).map (opO d) from List.find?_map ..]
  congr 2
  funext i
  show (!(opsD d).any (worseB (opO d i))) = _
  unfold opsD
  rw [List.any_map]
  rfl
set_option maxHeartbeats 1000000 in
theorem next_clos {v : BV} {d : Bn} (hv : v.Is d.bu) (hd : d.Good) (h6 : d.tests.length ≤ 6) {p : Nat} {h : Heap} (hp : Heap.at h p = v.blk d.bu) (hpn : p < h.n) :
    ∃ e h', CallOk Tryz.prog 69 [.c (knC d), .ptr p 0] h .no e h' .no ∧ (e = endO ((bestN d).map (opO d)) 4 ∧ Foot none' h h') := by
  have ho := openings_ret hv hd h6
  have hk : d.k ≤ 6 := hd.k6
  rw [opsC_eq] at ho
  rw [← best_op]
  refine call_by (hm := false) Tryz.func69 rfl ?_
  conv => whnf
  generalize hH : TMap.push AB.dead (TMap.push AB.dead h _) _ = H
  have Hn : H.n = h.n + 2 := by rw [← hH]; rfl
  have b0 : Heap.at H p = v.blk d.bu := by rw [← hH]; exact (at_push_lt _ _ (by rw [push_n]; omega)).trans ((at_push_lt _ _ hpn).trans hp)
  have b1 : Heap.at H (h.n + 1) = zO := by rw [← hH]; exact at_push_self _ _
  have fH : Foot none' h H := by rw [← hH]; exact ((Foot.refl _ _).push _).push _
  clear hH
  refine ⟨_, b0, ?_⟩
  conv => whnf
  refine .ret (ho) rfl ?_
  conv => whnf
  obtain ⟨e2, H2, hc2, rfl, f2⟩ := best_call (opsD d) (by unfold opsD; rw [List.length_map, List.length_range]; omega) H
  have f2n := f2.n
  have c1 := (f2.keep (h.n + 1) (by omega) (fun x => x)).trans b1
  refine .inl _ H2 .no hc2 ?_
  conv => whnf
  cases hf : (opsD d).find? (topB (opsD d)) with
  | none =>
    conv => whnf
    exact ⟨rfl, fH.trans f2⟩
  | some y =>
    conv => whnf
    refine ⟨_, c1, ?_⟩
    conv => whnf
    refine ⟨_, at_set_self _ _ (i := h.n + 1) (by omega), ?_⟩
    conv => whnf
    exact ⟨rfl, Foot.set (W := none') (k := h.n + 1) (fH.trans f2) (.inr (by omega)) _⟩
end Go.Ag
/- Layer 7: the next bale. -/
namespace Go.Ag
open Go.Proofs
set_option maxRecDepth 100000

set_option maxHeartbeats 1000000 in
theorem kn_open {v : BV} {d : Bn} (hv : v.Is d.bu) (hd : d.Good) {p : Nat} {a b : Nat} {o : Option Op} {err : Int} {h : Heap} (ha : Heap.at h a = .blk [.func (.func 69) [] [.ptr p 0]]) (hb : Heap.at h b = v.blk d.bu) (han : a < h.n) (hbn : b < h.n)
    (hG : canB d = true → ∀ h1, h.n ≤ h1.n → (∀ i, i < h.n → Heap.at h1 i = Heap.at h i) → ∃ e h2, CallOk Tryz.prog 69 [.c (knC d), .ptr p 0] h1 .no e h2 .no ∧ (e = endO o err ∧ Foot none' h1 h2)) :
    ∃ e h', CallOk Tryz.prog 112 [.ptr a 0, .ptr b 0] h .no e h' .no ∧ (e = endO (orO d o) (erO d err) ∧ Foot none' h h') := by
  have hk := know_ret hv hd
  unfold orO erO
  refine call_by (hm := false) Tryz.func112 rfl ?_
  conv => whnf
  generalize hH : TMap.push AB.dead h _ = H
  have Hn : H.n = h.n + 1 := by rw [← hH]; rfl
  have Ha : ∀ i, i < h.n → Heap.at H i = Heap.at h i := fun i hi => by rw [← hH]; exact at_push_lt _ _ hi
  have Hz : Heap.at H h.n = .blk [.c (I 0), .c (I 0), .c (I 0)] := by rw [← hH]; exact at_push_self _ _
  have FH : Foot none' h H := by rw [← hH]; exact (Foot.refl _ _).push _
  clear hH
  cases hc : canB d
  · obtain ⟨e1, H1, hc1, rfl, f1⟩ := sure_no hc H
    refine mixed_by (hm := false) (by kernel_rfl) (by kernel_rfl) ?_
    conv => whnf
    refine ⟨_, (Ha a han).trans ha, ?_⟩
    conv => whnf
    refine ⟨_, (Ha b hbn).trans hb, ?_⟩
    conv => whnf
    refine .ret _ _ (hk) rfl ?_
    conv => whnf
    refine .heavy _ H1 (.inl hc1) ?_
    conv => whnf
    refine mOps_list (l' := []) (by kernel_rfl) ?_
    conv => whnf
    refine ⟨by kernel_rfl, heaps_eq (l' := [(a, H, H1)]) (by kernel_rfl) (heaps_cons (f1.keep a (by omega) (fun x => x)) (by simp [HeapsOk])), ?_⟩
    intro ds
    conv => whnf
    exact ⟨rfl, FH.trans f1⟩
  · obtain ⟨e2, H2, hc2, he2, f2⟩ := hG hc H (by omega) Ha
    refine mixed_by (hm := false) (by kernel_rfl) (by kernel_rfl) ?_
    conv => whnf
    refine ⟨_, (Ha a han).trans ha, ?_⟩
    conv => whnf
    refine ⟨_, (Ha b hbn).trans hb, ?_⟩
    conv => whnf
    refine .ret _ _ (hk) rfl ?_
    conv => whnf
    refine .ret _ _ (sure_ok hc) rfl ?_
    conv => whnf
    refine .heavy _ H2 (.inl hc2) ?_
    subst he2
    rw [if_pos rfl, if_pos rfl]
    cases o with
    | none =>
      conv => whnf
      refine mOps_list (l' := []) (by kernel_rfl) ?_
      conv => whnf
      refine ⟨by kernel_rfl, heaps_nil (by kernel_rfl), ?_⟩
      intro ds
      conv => whnf
      exact ⟨rfl, FH.trans f2⟩
    | some y =>
      conv => whnf
      have f2n := f2.n
      have Hz2 := (f2.keep h.n (by omega) (fun x => x)).trans Hz
      refine ⟨_, Hz2, ?_⟩
      conv => whnf
      refine ⟨by show h.n < H2.n; omega, ?_⟩
      conv => whnf
      refine ⟨by kernel_rfl, heaps_nil (by kernel_rfl), ?_⟩
      conv => whnf
      refine ⟨_, at_set_self _ _ (i := h.n) (by omega), ?_⟩
      conv => whnf
      exact ⟨rfl, Foot.set (k := h.n) (FH.trans f2) (.inr (Nat.le_refl _)) _⟩
set_option maxHeartbeats 1000000 in
theorem of_open_bad {v : BV} {c : Bu} (hv : v.Is c) (hc : validB c = false) {p : Nat} (h : Heap) :
    ∃ e h', CallOk Tryz.prog 68 [.c (v.cv c), .func (.func 69) [] [.ptr p 0]] h .no e h' .no ∧ (e = .ret (.c (.tuple [opV ⟨0, 0, 0⟩, I 1])) ∧ Foot none' h h') := by
  have hval := valid_ret hv
  rw [hc] at hval
  refine call_by (hm := false) Tryz.func68 rfl ?_
  conv => whnf
  generalize hH : TMap.push AB.dead (TMap.push AB.dead (TMap.push AB.dead h _) _) _ = H
  have Hn : H.n = h.n + 3 := by rw [← hH]; rfl
  have b0 : Heap.at H h.n = v.blk c := by rw [← hH]; exact (at_push_lt _ _ (by simp only [push_n]; omega)).trans ((at_push_lt _ _ (by simp only [push_n]; omega)).trans (at_push_self _ _))
  have b1 : Heap.at H (h.n + 1) = .blk [.func (.func 69) [] [.ptr p 0]] := by rw [← hH]; exact (at_push_lt _ _ (by simp only [push_n]; omega)).trans (at_push_self _ _)
  have b2 : Heap.at H (h.n + 2) = .blk [.c (I 0), .c (I 0), .c (I 0)] := by rw [← hH]; exact at_push_self _ _
  have ha : ∀ i, i < h.n → Heap.at H i = Heap.at h i := fun i hi => by rw [← hH]; exact (at_push_lt _ _ (by simp only [push_n]; omega)).trans ((at_push_lt _ _ (by simp only [push_n]; omega)).trans (at_push_lt _ _ hi))
  have f0 : Foot none' h H := by rw [← hH]; exact (((Foot.refl _ _).push _).push _).push _
  clear hH
  refine ⟨_, b0, ?_⟩
  conv => whnf
  refine .ret (hval) rfl ?_
  conv => whnf
  refine ⟨_, b2, ?_⟩
  conv => whnf
  refine ⟨_, b2, ?_⟩
  conv => whnf
  refine ⟨_, at_set_self _ _ (i := h.n + 2) (by omega), ?_⟩
  conv => whnf
  exact ⟨rfl, Foot.set (k := h.n + 2) f0 (.inr (by omega)) _⟩
set_option maxHeartbeats 1000000 in
theorem of_open_ok {v : BV} {d : Bn} (hv : v.Is d.bu) (hd : d.Good) (h6 : d.tests.length ≤ 6) {p : Nat} {o : Option Op} {err : Int} {h : Heap}
    (hG : canB d = true → ∀ h1, h.n ≤ h1.n → (∀ i, i < h.n → Heap.at h1 i = Heap.at h i) → ∃ e h2, CallOk Tryz.prog 69 [.c (knC d), .ptr p 0] h1 .no e h2 .no ∧ (e = endO o err ∧ Foot none' h1 h2)) :
    ∃ e h', CallOk Tryz.prog 68 [.c (v.cv d.bu), .func (.func 69) [] [.ptr p 0]] h .no e h' .no ∧ (e = .ret (.c (ansO (orO d o) (erO d err))) ∧ Foot none' h h') := by
  have hval := valid_ret hv
  rw [valid_yes hd h6 hv] at hval
  refine call_by (hm := false) Tryz.func68 rfl ?_
  conv => whnf
  generalize hH : TMap.push AB.dead (TMap.push AB.dead (TMap.push AB.dead h _) _) _ = H
  have Hn : H.n = h.n + 3 := by rw [← hH]; rfl
  have b0 : Heap.at H h.n = v.blk d.bu := by rw [← hH]; exact (at_push_lt _ _ (by simp only [push_n]; omega)).trans ((at_push_lt _ _ (by simp only [push_n]; omega)).trans (at_push_self _ _))
  have b1 : Heap.at H (h.n + 1) = .blk [.func (.func 69) [] [.ptr p 0]] := by rw [← hH]; exact (at_push_lt _ _ (by simp only [push_n]; omega)).trans (at_push_self _ _)
  have b2 : Heap.at H (h.n + 2) = .blk [.c (I 0), .c (I 0), .c (I 0)] := by rw [← hH]; exact at_push_self _ _
  have ha : ∀ i, i < h.n → Heap.at H i = Heap.at h i := fun i hi => by rw [← hH]; exact (at_push_lt _ _ (by simp only [push_n]; omega)).trans ((at_push_lt _ _ (by simp only [push_n]; omega)).trans (at_push_lt _ _ hi))
  have f0 : Foot none' h H := by rw [← hH]; exact (((Foot.refl _ _).push _).push _).push _
  clear hH
  refine ⟨_, b0, ?_⟩
  conv => whnf
  refine .ret (hval) rfl ?_
  conv => whnf
  obtain ⟨e2, H2, hc2, rfl, f2⟩ := ans_open (a := h.n + 1) (b := h.n) (h := H) (o := orO d o) (err := erO d err) (fun h1 h1n h1a => kn_open hv hd ((h1a (h.n + 1) (by omega)).trans b1) ((h1a h.n (by omega)).trans b0) (by omega) (by omega) (fun hc g gn ga => hG hc g (by omega) (fun i hi => (ga i (by omega)).trans ((h1a i (by omega)).trans (ha i hi)))))
  refine .inl _ H2 .no hc2 ?_
  conv => whnf
  have f2n := f2.n
  cases ho : orO d o with
  | none =>
    conv => whnf
    refine ⟨_, (f2.keep (h.n + 2) (by omega) (fun x => x)).trans b2, ?_⟩
    conv => whnf
    refine ⟨_, at_set_self _ _ (i := h.n + 2) (by omega), ?_⟩
    conv => whnf
    exact ⟨rfl, Foot.set (k := h.n + 2) (f0.trans f2) (.inr (by omega)) _⟩
  | some y =>
    conv => whnf
    refine ⟨_, (f2.keep (h.n + 2) (by omega) (fun x => x)).trans b2, ?_⟩
    conv => whnf
    refine ⟨_, at_set_self _ _ (i := h.n + 2) (by omega), ?_⟩
    conv => whnf
    exact ⟨rfl, Foot.set (k := h.n + 2) (f0.trans f2) (.inr (by omega)) _⟩
set_option maxHeartbeats 1000000 in
theorem nextX_bad {v : BV} {c : Bu} (hv : v.Is c) (hc : validB c = false) : Ret Tryz.prog 27 [v.cv c] (.tuple [I 0, I 0, I 1]) := by
  refine close_val ?_
  refine call_by (hm := false) Tryz.func27 rfl ?_
  conv => whnf
  refine ⟨v.blk c, at_push_self _ _, ?_⟩
  conv => whnf
  obtain ⟨e1, H1, hc1, rfl, f1⟩ := of_open_bad hv hc (p := 0) (TMap.push .dead TMap.nil (v.blk c))
  refine .inl _ H1 .no hc1 ?_
  conv => whnf
  refine ⟨_, at_push_self _ _, ?_⟩
  conv => whnf
  refine draw_by (hm := false) (by kernel_rfl) (by kernel_rfl) ?_
  conv => whnf
  refine ⟨_, at_new _ _ _, ?_⟩
  conv => whnf
  refine ⟨_, at_new _ _ _, ?_⟩
  conv => whnf
  refine .pure _ _ rfl (most_ret 0 0) ?_
  conv => whnf
  refine ⟨by kernel_rfl, ?_⟩
  conv => whnf
  rfl
/-- What Next answers. -/
def nextC (d : Bn) : CV := if canB d then (match bestN d with | some i => .tuple [I i, I (leftN d i : Nat), I 0] | none => .tuple [I 0, I 0, I 4]) else .tuple [I 0, I 0, I 10]
set_option maxHeartbeats 1000000 in
theorem nextX_ret {v : BV} {d : Bn} (hv : v.Is d.bu) (hd : d.Good) (h6 : d.tests.length ≤ 6) : Ret Tryz.prog 27 [v.cv d.bu] (nextC d) := by
  refine close_val ?_
  refine call_by (hm := false) Tryz.func27 rfl ?_
  conv => whnf
  refine ⟨v.blk d.bu, at_push_self _ _, ?_⟩
  conv => whnf
  obtain ⟨e1, H1, hc1, rfl, f1⟩ := of_open_ok hv hd h6 (p := 0) (h := TMap.push .dead TMap.nil (v.blk d.bu)) (o := (bestN d).map (opO d)) (err := 4) (fun hc h1 h1n h1a => next_clos hv hd h6 ((h1a 0 (Nat.lt_succ_self 0)).trans (at_push_self TMap.nil (v.blk d.bu))) (Nat.lt_of_lt_of_le (Nat.lt_succ_self 0) h1n))
  refine .inl _ H1 .no hc1 ?_
  conv => whnf
  unfold orO erO nextC
  cases hcan : canB d
  · conv => whnf
    refine ⟨_, at_push_self _ _, ?_⟩
    conv => whnf
    refine draw_by (hm := false) (by kernel_rfl) (by kernel_rfl) ?_
    conv => whnf
    refine ⟨_, at_new _ _ _, ?_⟩
    conv => whnf
    refine ⟨_, at_new _ _ _, ?_⟩
    conv => whnf
    refine .pure _ _ rfl (most_ret 0 0) ?_
    conv => whnf
    refine ⟨by kernel_rfl, ?_⟩
    conv => whnf
    rfl
  · cases hb : bestN d with
    | none =>
      conv => whnf
      refine ⟨_, at_push_self _ _, ?_⟩
      conv => whnf
      refine draw_by (hm := false) (by kernel_rfl) (by kernel_rfl) ?_
      conv => whnf
      refine ⟨_, at_new _ _ _, ?_⟩
      conv => whnf
      refine ⟨_, at_new _ _ _, ?_⟩
      conv => whnf
      refine .pure _ _ rfl (most_ret 0 0) ?_
      conv => whnf
      refine ⟨by kernel_rfl, ?_⟩
      conv => whnf
      rfl
    | some i =>
      conv => whnf
      refine ⟨_, at_push_self _ _, ?_⟩
      conv => whnf
      refine draw_by (hm := false) (by kernel_rfl) (by kernel_rfl) ?_
      conv => whnf
      refine ⟨_, at_new _ _ _, ?_⟩
      conv => whnf
      refine ⟨_, at_new _ _ _, ?_⟩
      conv => whnf
      refine .pure _ _ rfl (most_ret _ _) ?_
      conv => whnf
      refine ⟨by kernel_rfl, ?_⟩
      conv => whnf
      rfl
end Go.Ag
/- Layer 7: how many truths are left (the law's). -/
namespace Go.Ag
open Go.Proofs
set_option maxRecDepth 100000

set_option maxHeartbeats 4000000 in
theorem more_clos {v : BV} {d : Bn} (hv : v.Is d.bu) (hd : d.Good) (h5 : d.tests.length ≤ 5) {i : Nat} (hi : i < d.k) (f : Bool) {a : Nat} {h : Heap} (ha : Heap.at h a = v.blk d.bu) (han : a < h.n) :
    ∃ e h', CallOk Tryz.prog 43 [.c (I i), .c (B f), .ptr a 0] h .no e h' .no ∧ (e = .ret (.c (I (countN (d.more i f) : Nat))) ∧ Foot none' h h') := by
  have e3 := hv.tn
  rw [bu_t] at e3
  have hcount := countX_ret (own_is hv (l := d.tests ++ [(i, f)]) (by rw [more_len]; omega)) (more_good hd (by omega) hi f) (by show (d.tests ++ [(i, f)]).length ≤ 6; rw [more_len]; omega)
  have hrb := rowsT_bu d
  have hq := hv.t
  rw [hrb, e3] at hq
  have hfirst := hq.first (rowsT_all d.tests)
  rw [rowsT_len, ← e3] at hfirst
  refine call_then (hm := false) Tryz.func43 rfl ?_
  conv => whnf
  repeat (refine then_seq (hm := false) ?_; conv => whnf)
  refine ⟨_, ha, ?_⟩
  conv => whnf
  refine ⟨_, at_push_self _ _, ?_⟩
  conv => whnf
  generalize hG : TMap.set AB.dead (TMap.push AB.dead h _) _ _ = G
  have Gn : G.n = h.n + 1 := by rw [← hG]; exact new_n _ _ _
  have Gt : Heap.at G h.n = v.blk d.bu := by rw [← hG]; exact at_new _ _ _
  have GF : Foot none' h G := by rw [← hG]; exact footNew _ _ _
  clear hG
  obtain ⟨N, hN⟩ : ∃ N, N = h.n := ⟨_, rfl⟩
  rw [← hN] at Gn Gt ⊢
  have Ga : Heap.at G a = v.blk d.bu := (GF.keep a han (fun x => x)).trans ha
  repeat (refine then_seq (hm := false) ?_; conv => whnf)
  refine ⟨_, (at_push_lt _ _ (by omega)).trans Ga, ?_⟩
  conv => whnf
  generalize hH : TMap.push AB.dead G _ = H
  have Hn : H.n = N + 2 := by rw [← hH, push_n, Gn]
  have H1 : Heap.at H (N + 1) = .blk [] := by rw [← hH, ← Gn]; exact at_push_self _ _
  have Ha : ∀ i, i ≤ N → Heap.at H i = Heap.at G i := fun i hi => by rw [← hH]; exact at_push_lt _ _ (by omega)
  have FH : Foot none' h H := by rw [← hH]; exact GF.push _
  clear hH
  rw [Gn]
  obtain ⟨r, o, hr, hval, ho1, ho2, hob, hlow⟩ : ∃ r o, aappend Tryz.prog (atF H) H.n #[25, 25] (.msl (N + 1) 2 0 0 0) (.c (.sl v.tc v.ot v.tn)) = some r ∧ r.val = .msl o 2 0 d.tests.length d.tests.length ∧ N < o ∧ o < (after H r).n ∧
      Heap.at (after H r) o = .blk ((rowsT d.tests).flatten.map .c) ∧ (∀ i, i ≤ N → Heap.at (after H r) i = Heap.at H i) := by
    by_cases h0 : v.tn = 0
    · have hnil : d.tests = [] := List.length_eq_zero_iff.1 (by omega)
      have hfn := hfirst (atF H)
      rw [h0, hnil] at hfn
      rw [h0]
      refine ⟨_, N + 1, append_none rfl rfl U25 U25 rfl S42 hfn, by rw [hnil]; rfl, by omega, by show N + 1 < H.n; omega, ?_, fun i _ => rfl⟩
      rw [hnil]
      exact H1
    · refine ⟨_, H.n, append_grow (id := N + 1) (len := 0) (cells := []) rfl rfl U25 U25 rfl S42 (hfirst _) (rowsT_cells _) h0 (by unfold limit; omega) (by rw [atF_eq]; exact H1) rfl, ?_, by omega, ?_, ?_, ?_⟩
      · rw [Nat.zero_add, e3]
      · show H.n < TMap.n (TMap.push .dead (TMap.set .dead H (N + 1) .dead) _)
        rw [push_n, TMap.set_n]; omega
      · show Heap.at (TMap.push .dead (TMap.set .dead H (N + 1) .dead) _) H.n = _
        exact (congrArg _ (TMap.set_n _ _ _ _).symm).trans (at_push_self _ _)
      · intro i hi
        show Heap.at (TMap.push .dead (TMap.set .dead H (N + 1) .dead) _) i = _
        exact (at_push_lt _ _ (by rw [TMap.set_n]; omega)).trans (at_set_ne _ _ (by omega))
  have hKn : N + 1 ≤ (after H r).n := by omega
  obtain ⟨K, hK⟩ : ∃ K, K = after H r := ⟨_, rfl⟩
  rw [← hK] at ho2 hob hlow
  obtain ⟨rv, rreads, rupds, rfresh⟩ := r
  simp only at hval
  subst hval
  refine ⟨_, hr, ?_⟩
  conv => whnf
  rw [show TMap.app AB.dead (Heap.upd H rupds) rfresh.toList = K from hK.symm]
  have KN : Heap.at K N = v.blk d.bu := (hlow N (Nat.le_refl _)).trans ((Ha N (Nat.le_refl _)).trans Gt)
  have FK : Foot none' h K := ⟨by omega, fun i hi hw => (hlow i (by omega)).trans (FH.keep i hi hw)⟩
  clear hK hr
  refine .ret (test_ret i f) rfl ?_
  conv => whnf
  have q3 : Heap.at (K.push .dead (.blk [.c (I i), .c (B f)])) K.n = .blk [.c (I i), .c (B f)] := at_push_self _ _
  have hfc : firstCells (atF (K.push .dead (.blk [.c (I i), .c (B f)]))) 2 (.msl K.n 2 0 1 1) = some ([.c (I i), .c (B f)], 1, [K.n]) := by
    rw [atF_eq]; simp only [firstCells, q3]; rfl
  refine ⟨_, append_grow (id := o) (len := d.tests.length) rfl rfl U25 U25 rfl S42 hfc rfl (by omega) (by unfold limit; omega) (by rw [atF_eq]; exact (at_push_lt _ _ ho2).trans hob) (by rw [List.length_map, rowsT_flat]), ?_⟩
  conv => whnf
  generalize hM : TMap.app AB.dead _ _ = M
  have e4 : M = ((K.push .dead (.blk [.c (I i), .c (B f)])).set .dead o .dead).push .dead (.blk ((rowsT d.tests).flatten.map .c ++ [.c (I i), .c (B f)])) := by rw [← hM]; rfl
  have hp : ((K.push .dead (.blk [.c (I i), .c (B f)])).set .dead o .dead).n = K.n + 1 := by rw [TMap.set_n, push_n]
  have Mn : M.n = K.n + 2 := by rw [e4, push_n, hp]
  have MN : Heap.at M N = v.blk d.bu := by rw [e4]; exact (at_push_lt _ _ (by rw [hp]; omega)).trans ((at_set_ne _ _ (by omega)).trans ((at_push_lt _ _ (by omega)).trans KN))
  have hrl : rowsT (d.tests ++ [(i, f)]) = rowsT d.tests ++ [[I i, B f]] := by unfold rowsT; simp; rfl
  have hrn : (rowsT (d.tests ++ [(i, f)])).length = d.tests.length + 1 := by rw [rowsT_len]; simp
  have Mo : Heap.at M (K.n + 1) = .blk ((rowsT (d.tests ++ [(i, f)])).flatten.map .c) := by
    rw [e4, hrl]
    have e5 := at_push_self ((K.push .dead (.blk [.c (I i), .c (B f)])).set .dead o .dead) (.blk ((rowsT d.tests).flatten.map .c ++ [.c (I i), .c (B f)]))
    rw [hp] at e5
    rw [e5]
    simp
  have FM : Foot none' h M := by rw [e4]; exact (Foot.set (k := o) (FK.push _) (.inr (by omega)) _).push _
  clear hM e4
  rw [← hrn]
  have gp : (K.push .dead (.blk [.c (I i), .c (B f)])).n = K.n + 1 := push_n _ _
  rw [gp]
  refine ⟨_, MN, ?_⟩
  conv => whnf
  repeat (refine then_seq (hm := false) ?_; conv => whnf)
  refine ⟨_, at_set_self _ _ (i := N) (by omega), ?_⟩
  conv => whnf
  refine bu_call (c := (d.more i f).bu) (L := d.tests ++ [(i, f)]) ((at_set_ne _ _ (i := K.n + 1) (k := N) (by omega)).trans Mo) hcount rfl ?_
  conv => whnf
  repeat (refine then_seq (hm := false) ?_; conv => whnf)
  refine then_end (hm := false) ?_
  conv => whnf
  exact ⟨rfl, Foot.set (k := N) FM (.inr (by omega)) _⟩
end Go.Ag
/- Layer 7: the law BurrNext. -/
namespace Go.Ag
open Go.Proofs
set_option maxRecDepth 100000

theorem min4_val {P : Program} {o : Oper} {σ : Operand → AV} {x y z u : Operand} {ts : Array TypeId} {a b c e : Int} (ho : o.op = .call ⟨.builtin .min, #[x, y, z, u], ts⟩) (hx : σ x = .c (.lit (.int .i64 a))) (hy : σ y = .c (.lit (.int .i64 b))) (hz : σ z = .c (.lit (.int .i64 c))) (hu : σ u = .c (.lit (.int .i64 e))) (rd : Nat → AB) (n : Nat) :
    aop P o σ rd n = some (.simple { val := .int (min (min (min a b) c) e) }) := by
  have hp : pureOp P o σ = some (.simple { val := .int (min (min (min a b) c) e) }) := by
    unfold pureOp
    have h0 : allVals σ [x, y, z, u] = true := by simp only [allVals, hx, hy, hz, hu]; rfl
    have h1 : (allVals σ o.op.operands.toList && notSelect o.op) = true := by
      rw [ho]
      show (allVals σ [x, y, z, u] && true) = true
      rw [h0]; rfl
    rw [if_pos h1]
    have hf : ∀ cs : Array Bool, pureRun P (builtin .min ts o.type cs #[.int .i64 a, .int .i64 b, .int .i64 c, .int .i64 e]) = some (.value (.int .i64 (min (min (min a b) c) e))) := by
      intro cs
      have e1 : min a b = if b < a then b else a := by split <;> omega
      have e2 : min (min a b) c = if c < min a b then c else min a b := by split <;> omega
      have e3 : min (min (min a b) c) e = if e < min (min a b) c then e else min (min a b) c := by split <;> omega
      rw [e3, e2, e1]
      rfl
    have h2 : pureRun P (execOp (fun x => ((σ x).toVal).getD Go.undef) o) = some (.value (.int .i64 (min (min (min a b) c) e))) := by
      have gen : ∀ (ρ : Operand → Value), ρ x = .int .i64 a → ρ y = .int .i64 b → ρ z = .int .i64 c → ρ u = .int .i64 e → pureRun P (execOp ρ o) = some (.value (.int .i64 (min (min (min a b) c) e))) := by
        intro ρ h1 h2 h3 h4
        unfold execOp
        rw [ho]
        show pureRun P (resolve ρ ⟨.builtin .min, #[x, y, z, u], ts⟩ o.type >>= fun d => invoke d.target d.args) = _
        rw [pureRun_bind]
        have e : #[x, y, z, u].map ρ = #[ρ x, ρ y, ρ z, ρ u] := by simp
        obtain ⟨cs, hr⟩ : ∃ cs, pureRun P (resolve ρ ⟨.builtin .min, #[x, y, z, u], ts⟩ o.type) = some ⟨.builtin .min ts o.type cs, #[ρ x, ρ y, ρ z, ρ u]⟩ := ⟨_, by rw [← e]; rfl⟩
        rw [hr, h1, h2, h3, h4]
        exact hf cs
      exact gen _ (by simp only [hx]; rfl) (by simp only [hy]; rfl) (by simp only [hz]; rfl) (by simp only [hu]; rfl)
    rw [h2]
    rfl
  unfold aop
  rw [ho]
  simp only [acall, hp]
theorem rem_nat {w : Nat} (h : w < 256) (n : Nat) : (IntKind.i64.wrap (w : Int)).tmod (n : Int) = ((w % n : Nat) : Int) := by
  rw [wrap_u8i h, Int.tmod_eq_emod_of_nonneg (by omega)]
  omega
theorem count_top {d : Bn} (hd : d.Good) : countN d ≤ 8192 := by
  have h1 := sum_le (knB d)
  have h2 : (knB d).length ≤ 32 := by unfold knB; rw [List.length_map]; exact know_len hd
  rw [countN_eq]; omega
set_option maxHeartbeats 8000000 in
theorem nextLaw_ret {v : BV} {c : Bu} (h : v.IsS c) (hA : Ret Tryz.prog 13 [] (B true)) (w : Nat) (hw : w < 256) : Ret Tryz.prog 9 [v.cv c, .lit (.int .u8 w)] (B true) := by
  have hv := h.toIs
  have r6 := ref_ret hv
  refine ret_then (hm := true) Tryz.func9 rfl ?_
  conv => whnf
  repeat (refine then_seq (hm := true) ?_; conv => whnf)
  refine .ret (h.far) rfl ?_
  conv => whnf
  refine .ret (r6) rfl ?_
  conv => whnf
  cases hval : validB c
  · conv => whnf
    repeat (refine then_seq (hm := true) ?_; conv => whnf)
    refine .ret (hA) rfl ?_
    conv => whnf
    exact .val
  obtain ⟨d, hd, h6, rfl⟩ := (valid_iff hv.rg).1 hval
  have e3 := hv.tn
  rw [bu_t] at e3
  have e2 : v.bn = d.k := hv.bn.trans (bu_k d)
  have k6 : d.k ≤ 6 := hd.k6
  have hn := nextX_ret hv hd h6
  have hct := countX_ret hv hd h6
  conv => whnf
  cases hb0 : ((v.bn : Int) == 0)
  case true =>
    conv => whnf
    repeat (refine then_seq (hm := true) ?_; conv => whnf)
    refine .ret (hA) rfl ?_
    conv => whnf
    exact .val
  conv => whnf
  cases ht6 : ((v.tn : Int) == 6)
  case true =>
    conv => whnf
    repeat (refine then_seq (hm := true) ?_; conv => whnf)
    refine .ret (hA) rfl ?_
    conv => whnf
    exact .val
  have hk0 : 0 < d.k := by have := beq_eq_false_iff_ne.1 hb0; omega
  have h5 : d.tests.length ≤ 5 := by have := beq_eq_false_iff_ne.1 ht6; omega
  conv => whnf
  repeat (refine then_seq (hm := true) ?_; conv => whnf)
  cases hcan : canB d
  case false =>
    have hz : countN d = 0 := by
      have := can_count hd
      rw [hcan] at this
      have := of_decide_eq_false this.symm
      omega
    have hn : Ret Tryz.prog 27 [v.cv d.bu] (.tuple [I 0, I 0, I 10]) := by unfold nextC at hn; rw [hcan] at hn; exact hn
    rw [hz] at hct
    refine .ret (hn) rfl ?_
    conv => whnf
    repeat (refine then_seq (hm := true) ?_; conv => whnf)
    refine .ret (hct) rfl ?_
    conv => whnf
    repeat (refine then_seq (hm := true) ?_; conv => whnf)
    refine ⟨_, bool_neq rfl rfl rfl _ _, ?_⟩
    conv => whnf
    repeat (refine then_seq (hm := true) ?_; conv => whnf)
    refine .ret (hA) rfl ?_
    conv => whnf
    exact .val
  have hpos : 0 < countN d := by
    have := can_count hd
    rw [hcan] at this
    exact of_decide_eq_true this.symm
  cases hb : bestN d with
  | none => exact absurd (best_none.1 hb) (by omega)
  | some b =>
  obtain ⟨hbk, hmin, hfst⟩ := best_some hb
  have hn : Ret Tryz.prog 27 [v.cv d.bu] (.tuple [I b, I (leftN d b : Nat), I 0]) := by unfold nextC at hn; rw [hcan, hb] at hn; exact hn
  refine .ret (hn) rfl ?_
  conv => whnf
  repeat (refine then_seq (hm := true) ?_; conv => whnf)
  refine .ret (hct) rfl ?_
  conv => whnf
  repeat (refine then_seq (hm := true) ?_; conv => whnf)
  rw [show decide ((countN d : Int) > 0) = true by simp; omega]
  refine ⟨_, bool_neq rfl rfl rfl _ _, ?_⟩
  conv => whnf
  repeat (refine then_seq (hm := true) ?_; conv => whnf)
  rw [decide_eq_false (show ¬ (b : Int) ≥ (v.bn : Int) by omega)]
  conv => whnf
  repeat (refine then_seq (hm := true) ?_; conv => whnf)
  obtain ⟨j, hj⟩ : ∃ j, j = w % d.k := ⟨_, rfl⟩
  have hjk : j < d.k := by rw [hj]; exact Nat.mod_lt _ hk0
  refine ⟨by omega, ((j : Nat) : Int), by rw [e2, rem_nat hw, hj], ?_⟩
  conv => whnf
  have ct := count_top hd
  have sb := more_count hd h6 hbk
  have sj := more_count hd h6 hjk
  have hm := hmin j hjk
  have hf := hfst j
  unfold leftN at hm hf
  repeat (refine then_seq (hm := true) ?_; conv => whnf)
  refine callW_ex (more_clos hv hd h5 hbk true (a := 0) rfl (Nat.zero_lt_succ _)) ?_
  rintro e1 H1 ⟨rfl, f1⟩
  have n1 : 0 < H1.n := Nat.lt_of_lt_of_le (Nat.zero_lt_succ _) f1.n
  have b1 : Heap.at H1 0 = v.blk d.bu := (f1.keep 0 (Nat.zero_lt_succ _) (fun x => x)).trans rfl
  conv => whnf
  refine callW_ex (more_clos hv hd h5 hbk false (a := 0) b1 n1) ?_
  rintro e1 H2 ⟨rfl, f2⟩
  have n2 : 0 < H2.n := Nat.lt_of_lt_of_le n1 f2.n
  have b2 : Heap.at H2 0 = v.blk d.bu := (f2.keep 0 n1 (fun x => x)).trans b1
  conv => whnf
  refine callW_ex (more_clos hv hd h5 hjk true (a := 0) b2 n2) ?_
  rintro e1 H3 ⟨rfl, f3⟩
  have n3 : 0 < H3.n := Nat.lt_of_lt_of_le n2 f3.n
  have b3 : Heap.at H3 0 = v.blk d.bu := (f3.keep 0 n2 (fun x => x)).trans b2
  conv => whnf
  refine callW_ex (more_clos hv hd h5 hjk false (a := 0) b3 n3) ?_
  rintro e1 H4 ⟨rfl, f4⟩
  have n4 : 0 < H4.n := Nat.lt_of_lt_of_le n3 f4.n
  conv => whnf
  generalize hA1 : countN (d.more b true) = x1 at *
  generalize hA2 : countN (d.more b false) = x2 at *
  generalize hA3 : countN (d.more j true) = x3 at *
  generalize hA4 : countN (d.more j false) = x4 at *
  repeat (refine then_seq (hm := true) ?_; conv => whnf)
  refine ⟨((countN d : Nat) : Int), by rw [wrap_eq (by omega) (by omega)]; omega, ?_⟩
  conv => whnf
  rw [show (((countN d : Nat) : Int) != ((countN d : Nat) : Int)) = false by simp]
  conv => whnf
  refine ⟨((countN d : Nat) : Int), by rw [wrap_eq (by omega) (by omega)]; omega, ?_⟩
  conv => whnf
  rw [show (((countN d : Nat) : Int) != ((countN d : Nat) : Int)) = false by simp]
  conv => whnf
  refine plain_val (min4_val rfl rfl rfl rfl rfl _ _) ?_
  conv => whnf
  rw [decide_eq_false (show ¬ min (min (min (x1 : Int) x2) x3) x4 < 0 by omega)]
  have hlf : ((leftN d b : Nat) : Int) = max (x1 : Int) (x2 : Int) := by unfold leftN; rw [hA1, hA2]; omega
  generalize leftN d b = lf at *
  conv => whnf
  rw [show (max (x1 : Int) (x2 : Int) != (lf : Int)) = false by rw [hlf]; simp]
  conv => whnf
  repeat (refine then_seq (hm := true) ?_; conv => whnf)
  cases hgt : decide (max (x3 : Int) (x4 : Int) > (lf : Int))
  case true =>
    conv => whnf
    refine .ret (hA) rfl ?_
    conv => whnf
    refine then_end (hm := true) ?_
    conv => whnf
    exact .val
  have hgt : ¬ max (x3 : Int) (x4 : Int) > (lf : Int) := of_decide_eq_false hgt
  conv => whnf
  rw [show (max (x3 : Int) (x4 : Int) == (lf : Int)) = true by rw [beq_iff_eq]; omega]
  conv => whnf
  rw [show decide ((j : Int) ≥ (b : Int)) = true by rw [decide_eq_true_eq]; apply Classical.byContradiction; intro hx; have := hf (by omega); omega]
  conv => whnf
  refine .ret (hA) rfl ?_
  conv => whnf
  refine then_end (hm := true) ?_
  conv => whnf
  exact .val
end Go.Ag
