/- The law PressParts returns true for arguments that read as data. No conditions. -/
import Derived.Test.YtbkbbkkmahenlaaGreatDoorPrA
import Derived.Test.YtbkbbkkmahenlaaGreatDoorPrF
import Derived.Test.YtbkbbkkmahenlaaGreatDoorPrN
/- Layer 8: the law of parts. -/
namespace Go.Ag
open Go.Proofs
set_option maxRecDepth 100000

set_option maxHeartbeats 4000000 in
theorem partsLaw_no {v : PV} {c : Pr} (hf : Ret Tryz.prog 28 [v.cv c] (B false)) (w o : Int) : Ret Tryz.prog 7 [v.cv c, .lit (.int .u16 w), .lit (.int .u8 o)] (B true) := by
  refine ret_by (hm := true) Tryz.func7 rfl ?_
  conv => whnf
  refine .ret (hf) rfl ?_
  conv => whnf
  refine .ret (Awake.alive_ret) rfl ?_
  conv => whnf
  exact .val
set_option maxHeartbeats 4000000 in
theorem partsLaw_clash {v : PV} {d : Pn} (hv : v.Is d.pr) (hd : d.Good) (hok : okPr d.pr = true) (hfar : farB d.pr = false) (hc : canP d = false) {w o : Nat} (hw : w < 65536) (ho : o < 256) : Ret Tryz.prog 7 [v.cv d.pr, .lit (.int .u16 w), .lit (.int .u8 o)] (B true) := by
  have hfi := fine_ret hv
  rw [hfar, hok] at hfi
  have p10 := pow10 hd.n10
  have hev := every_ret hv (by rw [pr_len]; exact hd.n10)
  rw [pr_len] at hev
  have hW : ∀ s : Nat, s < 2 ^ d.n → Ret Tryz.prog 13 [v.cv d.pr, I s] (.tuple [.agg [I 0, I 0], I 10]) := fun s hs => by
    have := weightX_ret hv hd hok hs
    unfold wOf eOf at this
    rw [if_neg (by rw [hc]; simp), if_neg (by rw [hc]; simp)] at this
    exact this
  have hal := Awake.alive_ret
  have hs1 : w &&& (2 ^ d.n - 1) < 2 ^ d.n := by have := Nat.and_le_right (n := w) (m := 2 ^ d.n - 1); omega
  have hs2 : diffN (2 ^ d.n - 1) (w &&& (2 ^ d.n - 1)) < 2 ^ d.n := diffN_lt (by omega)
  refine ret_then (hm := true) Tryz.func7 rfl ?_
  conv => whnf
  refine then_seq (hm := true) ?_
  conv => whnf
  refine then_seq (hm := true) ?_
  conv => whnf
  refine .ret (hfi) rfl ?_
  conv => whnf
  refine then_seq (hm := true) ?_
  conv => whnf
  rw [show IntKind.i64.wrap ((w : Nat) : Int) = (w : Nat) from wrap_eq (by omega) (by omega)]
  refine .ret (hev) rfl ?_
  conv => whnf
  refine ⟨_, and_nat (a := w) (b := 2 ^ d.n - 1) (by omega) (by omega), ?_⟩
  conv => whnf
  generalize w &&& (2 ^ d.n - 1) = s at *
  refine then_seq (hm := true) ?_
  conv => whnf
  refine .ret (hW s hs1) rfl ?_
  conv => whnf
  refine then_seq (hm := true) ?_
  refine draw_by (hm := true) (by kernel_rfl) (by kernel_rfl) ?_
  conv => whnf
  refine .pure _ _ rfl (hev) ?_
  conv => whnf
  refine ⟨_, andNot_nat (a := 2 ^ d.n - 1) (b := s) (by omega) (by omega), ?_⟩
  conv => whnf
  refine .pure _ _ rfl (hW _ hs2) ?_
  conv => whnf
  refine ⟨Nat.lt_succ_self _, ?_⟩
  conv => whnf
  refine ⟨by kernel_rfl, ?_⟩
  conv => whnf
  refine then_seq (hm := true) ?_
  refine draw_by (hm := true) (by kernel_rfl) (by kernel_rfl) ?_
  conv => whnf
  refine .pure _ _ rfl (hev) ?_
  conv => whnf
  refine .pure _ _ rfl (hW _ (by omega)) ?_
  conv => whnf
  refine ⟨Nat.lt_succ_self _, ?_⟩
  conv => whnf
  refine ⟨by kernel_rfl, ?_⟩
  conv => whnf
  refine then_seq (hm := true) ?_
  conv => whnf
  refine ⟨_, span_eql rfl rfl rfl _ _, ?_⟩
  conv => whnf
  refine ⟨_, span_eql rfl rfl rfl _ _, ?_⟩
  conv => whnf
  refine .ret (hal) rfl ?_
  conv => whnf
  exact .val
set_option maxHeartbeats 4000000 in
theorem partsLaw_ok {v : PV} {d : Pn} (hv : v.Is d.pr) (hd : d.Good) (hok : okPr d.pr = true) (hfar : farB d.pr = false) (hc : canP d = true) {w o : Nat} (hw : w < 65536) (ho : o < 256) : Ret Tryz.prog 7 [v.cv d.pr, .lit (.int .u16 w), .lit (.int .u8 o)] (B true) := by
  have hfi := fine_ret hv
  rw [hfar, hok] at hfi
  have p10 := pow10 hd.n10
  have hev := every_ret hv (by rw [pr_len]; exact hd.n10)
  rw [pr_len] at hev
  have hW : ∀ s : Nat, s < 2 ^ d.n → Ret Tryz.prog 13 [v.cv d.pr, I s] (.tuple [.agg [I (weigh' d s).lo, I (weigh' d s).hi], I 0]) := fun s hs => by
    have := weightX_ret hv hd hok hs
    unfold wOf eOf at this
    rw [if_pos hc, if_pos hc] at this
    exact this
  have hal := Awake.alive_ret
  have hs1 : w &&& (2 ^ d.n - 1) < 2 ^ d.n := by have := Nat.and_le_right (n := w) (m := 2 ^ d.n - 1); omega
  obtain ⟨s, hse⟩ : ∃ s, s = w &&& (2 ^ d.n - 1) := ⟨_, rfl⟩
  rw [← hse] at hs1
  have hs2 : diffN (2 ^ d.n - 1) s < 2 ^ d.n := diffN_lt (by omega)
  have hrel := parts_rel hd hc hs1
  have hnone := fun h => parts_none (d := d) h hs1
  have b1 := weigh_Sm hd s
  have b2 := weigh_Sm hd (diffN (2 ^ d.n - 1) s)
  have b3 := weigh_Sm hd (2 ^ d.n - 1)
  have hW1 := hW s hs1
  have hW2 := hW _ hs2
  have hW3 := hW (2 ^ d.n - 1) (by omega)
  generalize weigh' d s = A at hW1 hrel hnone b1
  generalize weigh' d (diffN (2 ^ d.n - 1) s) = C at hW2 hrel hnone b2
  generalize weigh' d (2 ^ d.n - 1) = D at hW3 hrel hnone b3
  obtain ⟨a1, a2⟩ := A; obtain ⟨c1, c2⟩ := C; obtain ⟨d1, d2⟩ := D
  unfold relW at hrel
  dsimp only at hrel b1 b2 b3 hW1 hW2 hW3
  have hwl : d.pr.wd.length = d.wd.length := by show (d.wd.map _).length = _; rw [List.length_map]
  have hwn := hv.wn
  rw [hwl] at hwn
  refine ret_then (hm := true) Tryz.func7 rfl ?_
  conv => whnf
  refine then_seq (hm := true) ?_
  conv => whnf
  refine then_seq (hm := true) ?_
  conv => whnf
  refine .ret (hfi) rfl ?_
  conv => whnf
  refine then_seq (hm := true) ?_
  conv => whnf
  rw [show IntKind.i64.wrap ((w : Nat) : Int) = (w : Nat) from wrap_eq (by omega) (by omega)]
  refine .ret (hev) rfl ?_
  conv => whnf
  refine ⟨_, and_nat (a := w) (b := 2 ^ d.n - 1) (by omega) (by omega), ?_⟩
  conv => whnf
  rw [← hse]
  refine then_seq (hm := true) ?_
  conv => whnf
  refine .ret (hW1) rfl ?_
  conv => whnf
  refine then_seq (hm := true) ?_
  refine draw_by (hm := true) (by kernel_rfl) (by kernel_rfl) ?_
  conv => whnf
  refine .pure _ _ rfl (hev) ?_
  conv => whnf
  refine ⟨_, andNot_nat (a := 2 ^ d.n - 1) (b := s) (by omega) (by omega), ?_⟩
  conv => whnf
  refine .pure _ _ rfl (hW2) ?_
  conv => whnf
  refine ⟨Nat.lt_succ_self _, ?_⟩
  conv => whnf
  refine ⟨by kernel_rfl, ?_⟩
  conv => whnf
  refine then_seq (hm := true) ?_
  refine draw_by (hm := true) (by kernel_rfl) (by kernel_rfl) ?_
  conv => whnf
  refine .pure _ _ rfl (hev) ?_
  conv => whnf
  refine .pure _ _ rfl (hW3) ?_
  conv => whnf
  refine ⟨Nat.lt_succ_self _, ?_⟩
  conv => whnf
  refine ⟨by kernel_rfl, ?_⟩
  conv => whnf
  refine then_seq (hm := true) ?_
  conv => whnf
  refine then_seq (hm := true) ?_
  refine draw_by (hm := true) (by kernel_rfl) (by kernel_rfl) ?_
  conv => whnf
  refine ⟨a1 + c1, by rw [wrap_eq (by omega) (by omega)], ?_⟩
  conv => whnf
  rw [show decide (d1 < a1 + c1) = false from decide_eq_false (by omega)]
  conv => whnf
  refine ⟨a2 + c2, by rw [wrap_eq (by omega) (by omega)], ?_⟩
  conv => whnf
  rw [show decide (d2 > a2 + c2) = false from decide_eq_false (by omega)]
  conv => whnf
  refine ⟨a1 + c2, by rw [wrap_eq (by omega) (by omega)], ?_⟩
  conv => whnf
  rw [show decide (d1 > a1 + c2) = false from decide_eq_false (by omega)]
  conv => whnf
  refine ⟨a2 + c1, by rw [wrap_eq (by omega) (by omega)], ?_⟩
  conv => whnf
  rw [show decide (d2 < a2 + c1) = false from decide_eq_false (by omega)]
  conv => whnf
  rw [hwn]
  cases h0 : (((d.wd.length : Nat) : Int) == 0)
  case true =>
    have hwz : d.wd = [] := List.length_eq_zero_iff.1 (by rw [beq_iff_eq] at h0; omega)
    have hn := hnone hwz
    unfold addW at hn
    simp only [Wt.mk.injEq] at hn
    obtain ⟨rfl, rfl⟩ := hn
    conv => whnf
    refine ⟨a1 + c1, by rw [wrap_eq (by omega) (by omega)], ?_⟩
    conv => whnf
    refine ⟨a2 + c2, by rw [wrap_eq (by omega) (by omega)], ?_⟩
    conv => whnf
    refine .pure _ _ rfl (span37_ret _ _) ?_
    conv => whnf
    rw [span_neq (a := a1 + c1) (b := a2 + c2) (c := a1 + c1) (e := a2 + c2)]
    rotate_left
    rfl
    rfl
    rfl
    rw [show (!(decide (a1 + c1 = a1 + c1) && decide (a2 + c2 = a2 + c2))) = false by simp]
    conv => whnf
    refine ⟨by kernel_rfl, ?_⟩
    conv => whnf
    refine then_seq (hm := true) ?_
    conv => whnf
    rw [h0]
    conv => whnf
    refine .ret (hal) rfl ?_
    conv => whnf
    exact .val
  conv => whnf
  refine ⟨by kernel_rfl, ?_⟩
  conv => whnf
  refine then_seq (hm := true) ?_
  conv => whnf
  rw [h0]
  conv => whnf
  refine then_seq (hm := true) ?_
  conv => whnf
  have hwp : d.wd.length ≠ 0 := by rw [beq_eq_false_iff_ne] at h0; omega
  have hw4 := hd.w4
  have hfirst : ∀ rd, firstCells rd 3 (.c (.sl v.wc v.ow d.wd.length)) = some ((d.pr.wd.map rowF).flatten.map .c, d.wd.length, []) := fun rd => by
    have := SlOf.first hv.w (rowF_all _) rd
    rw [hwn, List.length_map, hwl] at this
    exact this
  have hlen3 : (d.pr.wd.map rowF).flatten.length = d.wd.length * 3 := by rw [flat_len _ (rowF_all _), List.length_map, hwl]
  refine then_via (hm := false) (fun st => ∃ H : Heap, H.n = 7 ∧ Heap.at H 4 = .blk [.c (.sl v.fc v.fo v.fn), .c (I d.pr.low), .c (I d.pr.top), .c (I d.pr.bales), .msl 6 3 0 d.wd.length d.wd.length] ∧ Heap.at H 6 = .blk ((d.pr.wd.map rowF).flatten.map .c) ∧ Has st 235 [(2, .c (.lit (.int .u8 o))), (7, .c (I s)), (14, .ptr 4 0)] [] none H) ?_ ?_
  · skip
    conv => whnf
    refine ⟨_, rfl, ?_⟩
    conv => whnf
    refine ⟨_, append_grow (id := 5) (len := 0) (cells := []) rfl rfl U23 U23 rfl S56 (hfirst _) cells_ce hwp (by unfold limit; omega) rfl rfl, ?_⟩
    conv => whnf
    refine ⟨.blk [.c (.sl v.fc v.fo v.fn), .c (I d.pr.low), .c (I d.pr.top), .c (I d.pr.bales), .c (.sl v.wc v.ow d.wd.length)], by kernel_rfl, ?_⟩
    conv => whnf
    rw [show 0 + d.wd.length = d.wd.length from Nat.zero_add _]
    exact ⟨_, by kernel_rfl, by kernel_rfl, by kernel_rfl, rfl, ⟨rfl, rfl, rfl, trivial⟩, rfl, rfl, rfl, rfl⟩
  rintro st ⟨H, Hn, H4, H6, hs⟩
  clear hW1 hW2 hW3 hrel hnone b1 b2 b3
  refine hs.then ?_
  have hos : IntKind.i64.wrap ((o : Nat) : Int) = (o : Nat) := wrap_eq (by omega) (by omega)
  obtain ⟨k, hk⟩ : ∃ k, k = o % d.wd.length := ⟨_, rfl⟩
  have hkl : k < d.wd.length := by rw [hk]; exact Nat.mod_lt _ (by omega)
  refine then_seq (hm := false) ?_
  refine draw_by (hm := false) (by kernel_rfl) (by kernel_rfl) ?_
  conv => whnf
  refine ⟨_, H4, ?_⟩
  conv => whnf
  refine ⟨_, H4, ?_⟩
  conv => whnf
  rw [rem_to (a := IntKind.i64.wrap ((o : Nat) : Int)) (b := ((d.wd.length : Nat) : Int)) ((k : Nat) : Int)]
  rotate_left
  rfl
  rfl
  rfl
  omega
  rw [hos, hk]; rfl
  conv => whnf
  refine ⟨⟨by decide, by omega, by omega⟩, ?_⟩
  conv => whnf
  refine ⟨by kernel_rfl, ?_⟩
  conv => whnf
  obtain ⟨b, hb⟩ := get_some (l := d.wd) (k := k) hkl
  have hbp : d.pr.wd[k]? = some (((b.1 : Nat) : Int), b.2.1, b.2.2) := by show (d.wd.map _)[k]? = _; rw [List.getElem?_map, hb]; rfl
  have hgood := exact_good hd hb
  have hbw := hd.w b (List.mem_of_getElem? hb)
  have hEpr : (exact' d k b).pr.wd = d.pr.wd.set k (((b.1 : Nat) : Int), b.2.1, b.2.1) := by
    show (d.wd.set k (b.1, b.2.1, b.2.1)).map _ = (d.wd.map _).set k _
    rw [List.map_set]
  have hEl : (exact' d k b).pr.wd.length = d.wd.length := by rw [hEpr, List.length_set, hwl]
  have hrow := (sl_flat (rowF_all d.pr.wd)).row k (rowF (((b.1 : Nat) : Int), b.2.1, b.2.2)) (by rw [List.getElem?_map, hbp]; rfl)
  have hcell : ∀ j, j < 3 → readVarC Tryz.prog 3 (d.pr.wd.map rowF).flatten (0 + k * 3 + j) = (rowF (((b.1 : Nat) : Int), b.2.1, b.2.2))[j]? := fun j hj => by rw [rv3]; exact sliceOf_get hrow hj
  have hput := put_hi hbp b.2.1
  rw [← hEpr] at hput
  refine then_seq (hm := false) ?_
  conv => whnf
  refine ⟨_, H6, ?_⟩
  conv => whnf
  refine look_read (readVar_map (v := I b.2.1) (by rw [Int.toNat_natCast]; exact hcell 1 (by omega))) ?_
  conv => whnf
  refine ⟨_, H6, ?_⟩
  conv => whnf
  refine look_put (cs := ((exact' d k b).pr.wd.map rowF).flatten.map .c) (by have h5 := hput; rw [show k * 3 + 2 = 0 + k * 3 + 1 + 1 by omega] at h5; rw [Int.toNat_natCast]; exact h5) ?_
  conv => whnf
  refine forceL_intro ?_
  conv => whnf
  generalize hG : TMap.set AB.dead H 6 _ = G
  have G4 : Heap.at G 4 = .blk [.c (.sl v.fc v.fo v.fn), .c (I d.pr.low), .c (I d.pr.top), .c (I d.pr.bales), .msl 6 3 0 d.wd.length d.wd.length] := by rw [← hG]; exact (at_set_ne _ _ (by omega)).trans H4
  have G6 : Heap.at G 6 = .blk (((exact' d k b).pr.wd.map rowF).flatten.map .c) := by rw [← hG]; exact at_set_self _ _ (by omega)
  have Gn : G.n = 7 := by rw [← hG, TMap.set_n]; exact Hn
  clear hG H4 H6 Hn hput
  have hrow := (sl_flat (rowF_all (exact' d k b).pr.wd)).row k (rowF (((b.1 : Nat) : Int), b.2.1, b.2.1)) (by rw [List.getElem?_map, hEpr, List.getElem?_set_self (by rw [hwl]; exact hkl)]; rfl)
  have hcell : ∀ j, j < 3 → readVarC Tryz.prog 3 ((exact' d k b).pr.wd.map rowF).flatten (0 + k * 3 + j) = (rowF (((b.1 : Nat) : Int), b.2.1, b.2.1))[j]? := fun j hj => by rw [rv3]; exact sliceOf_get hrow hj
  have hEis : (v.own (exact' d k b).pr.wd).Is (exact' d k b).pr := own_is (c := d.pr) hv rfl (by rw [hEl]; omega)
  have hEok := ok_of_good hgood
  have hE : ∀ z : Nat, z < 2 ^ d.n → Ret Tryz.prog 13 [(v.own (exact' d k b).pr.wd).cv (exact' d k b).pr, I z] (.tuple [wV (wOf (exact' d k b) z), I (eOf (exact' d k b))]) := fun z hz => weightX_ret hEis hgood hEok hz
  have hpt := exact_parts hd hb (s := s)
  have hsn : ∀ (h : Heap) (z : Int), Heap.at h 6 = .blk (((exact' d k b).pr.wd.map rowF).flatten.map .c) → snaps (Heap.at h) (((exact' d k b).pr.wd.map rowF).flatten.length + 33) [.agg [.c (.sl v.fc v.fo v.fn), .c (I d.pr.low), .c (I d.pr.top), .c (I d.pr.bales), .msl 6 3 0 d.wd.length d.wd.length], .c (I z)] = some ([(v.own (exact' d k b).pr.wd).cv (exact' d k b).pr, I z], [6]) := fun h z hb => by
    have := pr_snap (v := v) (c := (exact' d k b).pr) hb z
    rw [hEl] at this
    exact this
  have hsl : s &&& b.1 < 2 ^ d.n := Nat.lt_of_le_of_lt Nat.and_le_right hbw.2.1
  have hdl : diffN b.1 s < 2 ^ d.n := diffN_lt hbw.2.1
  obtain ⟨gn, gt⟩ := G
  obtain rfl : gn = 7 := Gn
  refine then_seq (hm := false) ?_
  refine draw_by (hm := false) (by kernel_rfl) (by kernel_rfl) ?_
  conv => whnf
  refine ⟨_, G4, ?_⟩
  conv => whnf
  refine ⟨_, G6, ?_⟩
  conv => whnf
  refine look_read (readVar_map (v := I (b.1 : Nat)) (by rw [Int.toNat_natCast]; exact hcell 0 (by omega))) ?_
  conv => whnf
  refine ⟨_, and_nat (a := s) (b := b.1) (by omega) (by omega), ?_⟩
  conv => whnf
  have hkl : ∀ (w : Wt) (e : Int), killed (.tuple [wV w, I e]) [6] = [] := fun _ _ => rfl
  have hup : ∀ (h : Heap), Heap.upd h [] = h := fun _ => rfl
  refine .snapped _ _ _ _ (hsn _ _ G6) (hE (s &&& b.1) hsl) ?_
  rw [hkl, hup]
  conv => whnf
  refine ⟨_, at_push_self _ _, ?_⟩
  conv => whnf
  refine ⟨Nat.lt_succ_self _, ?_⟩
  conv => whnf
  refine ⟨by kernel_rfl, ?_⟩
  conv => whnf
  generalize hG : TMap.set AB.dead (TMap.push AB.dead _ _) _ _ = G
  have K4 := (congrArg (Heap.at · 4) hG.symm).trans ((at_old _ _ _ (i := 4) (show 4 < 7 by omega)).trans G4)
  have K6 := (congrArg (Heap.at · 6) hG.symm).trans ((at_old _ _ _ (i := 6) (show 6 < 7 by omega)).trans G6)
  have K7 : Heap.at G 7 = .blk [.c (I (wOf (exact' d k b) (s &&& b.1)).lo), .c (I (wOf (exact' d k b) (s &&& b.1)).hi)] := by rw [← hG]; exact at_new _ _ _
  have Kn : G.n = 8 := by rw [← hG]; rfl
  clear hG G4 G6
  obtain ⟨gn, gt⟩ := G
  obtain rfl : gn = 8 := Kn
  refine then_seq (hm := false) ?_
  refine draw_by (hm := false) (by kernel_rfl) (by kernel_rfl) ?_
  conv => whnf
  refine ⟨_, K4, ?_⟩
  conv => whnf
  refine ⟨_, K6, ?_⟩
  conv => whnf
  refine look_read (readVar_map (v := I (b.1 : Nat)) (by rw [Int.toNat_natCast]; exact hcell 0 (by omega))) ?_
  conv => whnf
  refine ⟨_, andNot_nat (a := b.1) (b := s) (by omega) (by omega), ?_⟩
  conv => whnf
  refine .snapped _ _ _ _ (hsn _ _ K6) (hE (diffN b.1 s) hdl) ?_
  rw [hkl, hup]
  conv => whnf
  refine ⟨_, at_push_self _ _, ?_⟩
  conv => whnf
  refine ⟨Nat.lt_succ_self _, ?_⟩
  conv => whnf
  refine ⟨by kernel_rfl, ?_⟩
  conv => whnf
  generalize hG : TMap.set AB.dead (TMap.push AB.dead _ _) _ _ = G
  have M6 := (congrArg (Heap.at · 6) hG.symm).trans ((at_old _ _ _ (i := 6) (show 6 < 8 by omega)).trans K6)
  have M7 := (congrArg (Heap.at · 7) hG.symm).trans ((at_old _ _ _ (i := 7) (show 7 < 8 by omega)).trans K7)
  have M8 : Heap.at G 8 = .blk [.c (I (wOf (exact' d k b) (diffN b.1 s)).lo), .c (I (wOf (exact' d k b) (diffN b.1 s)).hi)] := by rw [← hG]; exact at_new _ _ _
  have Mn : G.n = 9 := by rw [← hG]; rfl
  clear hG K4 K6 K7
  refine then_seq (hm := false) ?_
  conv => whnf
  unfold wOf at M7 M8
  unfold eOf
  cases hc' : canP (exact' d k b)
  · conv => whnf
    refine then_seq (hm := false) ?_
    conv => whnf
    refine .ret (hal) rfl ?_
    conv => whnf
    exact .val
  rw [if_pos hc'] at M7 M8
  have hpt := hpt hc'
  have q1 := weigh_Sm hgood (s &&& b.1)
  have q2 := weigh_Sm hgood (diffN b.1 s)
  generalize weigh' (exact' d k b) (s &&& b.1) = A at *
  generalize weigh' (exact' d k b) (diffN b.1 s) = C at *
  obtain ⟨a1, a2⟩ := A; obtain ⟨c1, c2⟩ := C
  dsimp only at hpt q1 q2 M7 M8
  conv => whnf
  refine then_seq (hm := false) ?_
  conv => whnf
  refine then_seq (hm := false) ?_
  refine draw_by (hm := false) (by kernel_rfl) (by kernel_rfl) ?_
  conv => whnf
  refine ⟨_, M7, ?_⟩
  conv => whnf
  refine ⟨_, M8, ?_⟩
  conv => whnf
  refine ⟨a1 + c2, by rw [wrap_eq (by omega) (by omega)], ?_⟩
  conv => whnf
  refine ⟨_, M6, ?_⟩
  conv => whnf
  refine look_read (readVar_map (v := I b.2.1) (by rw [Int.toNat_natCast]; exact hcell 1 (by omega))) ?_
  conv => whnf
  rw [show (a1 + c2 == b.2.1) = true by rw [beq_iff_eq]; omega]
  conv => whnf
  refine ⟨_, M7, ?_⟩
  conv => whnf
  refine ⟨_, M8, ?_⟩
  conv => whnf
  refine ⟨a2 + c1, by rw [wrap_eq (by omega) (by omega)], ?_⟩
  conv => whnf
  refine ⟨_, M6, ?_⟩
  conv => whnf
  refine look_read (readVar_map (v := I b.2.1) (by rw [Int.toNat_natCast]; exact hcell 1 (by omega))) ?_
  conv => whnf
  rw [show (a2 + c1 == b.2.1) = true by rw [beq_iff_eq]; omega]
  conv => whnf
  refine .pure _ _ rfl (hal) ?_
  conv => whnf
  refine ⟨by kernel_rfl, ?_⟩
  conv => whnf
  refine then_end (hm := false) ?_
  conv => whnf
  exact .val
theorem partsLaw_any {v : PV} {c : Pr} (h : v.IsL c) {n1 n2 : Int} (h1 : (Lit.int .u16 n1).wf = true) (h2 : (Lit.int .u8 n2).wf = true) : Ret Tryz.prog 7 [v.cv c, .lit (.int .u16 n1), .lit (.int .u8 n2)] (B true) := by
  rcases IsL.cases h with hs | hs
  · cases hf : farB c
    · cases hok : okPr c
      · exact partsLaw_no (by have := fine_ret hs; rw [hf, hok] at this; exact this) _ _
      · obtain ⟨d, rfl, hd⟩ := good_of hok
        obtain ⟨w1, rfl, hw1⟩ := law_u16 h1
        obtain ⟨w2, rfl, hw2⟩ := law_u8 h2
        cases hc : canP d
        · exact partsLaw_clash hs hd hok hf hc hw1 hw2
        · exact partsLaw_ok hs hd hok hf hc hw1 hw2
    · exact partsLaw_no (fine_far h hf) _ _
  · exact partsLaw_no (fine_far h hs) _ _
end Go.Ag
