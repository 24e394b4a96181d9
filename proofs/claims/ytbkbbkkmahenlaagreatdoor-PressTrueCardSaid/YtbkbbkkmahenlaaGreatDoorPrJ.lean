/- Layer 8: the numbers in a set, one after the other; the first fleece that makes others fit; fleeces of one line; what fits, by its weight. No conditions. -/
import Derived.Test.YtbkbbkkmahenlaaGreatDoorAgF
import Derived.Test.YtbkbbkkmahenlaaGreatDoorPrA
import Derived.Test.YtbkbbkkmahenlaaGreatDoorPrE
import Derived.Test.YtbkbbkkmahenlaaGreatDoorPrF
import Derived.Test.YtbkbbkkmahenlaaGreatDoorPrG
/- Layer 8: the numbers in a set, the least one first. -/
namespace Go.Ag
open Go.Proofs
set_option maxRecDepth 100000

def numsL (s : Nat) : List Nat := (List.range 10).filter fun i => s.testBit i
def tzN (s : Nat) : Nat := ((List.range 10).find? fun i => s.testBit i).getD 0
theorem low_tz : ∀ s : Nat, s < 1024 → s = 0 ∨ (lowN s = 2 ^ tzN s ∧ tzN s < 10) := by decide +kernel
theorem nums_tab : ∀ s : Nat, s < 1024 → s = 0 ∨ (numsL s = tzN s :: numsL (s &&& (s - 1)) ∧ s &&& (s - 1) < 1024) := by decide +kernel
theorem u64_wrap {n : Int} (h0 : 0 ≤ n) (h1 : n < 2 ^ 64) : IntKind.u64.wrap n = n := by
  have e64 : ((2 : Int) ^ 64) = 18446744073709551616 := by decide
  have : IntKind.u64.wrap n = n % 18446744073709551616 := rfl
  rw [this]
  omega
theorem low_wrap {s : Nat} (hs : s < 1024) (h0 : s ≠ 0) : IntKind.u64.wrap ((BitVec.ofInt IntKind.u64.bits (s : Int) &&& BitVec.ofInt IntKind.u64.bits (IntKind.u64.wrap (0 - (s : Int)))).toNat : Int) = ((lowN s : Nat) : Int) := by
  have e64 : ((2 ^ 64 : Nat) : Int) = 18446744073709551616 := by decide
  have e64' : (2 : Nat) ^ 64 = 18446744073709551616 := by decide
  have hb : IntKind.u64.bits = 64 := rfl
  rw [hb]
  have hw : IntKind.u64.wrap (0 - (s : Int)) = ((2 ^ 64 - s : Nat) : Int) := by
    have : IntKind.u64.wrap (0 - (s : Int)) = (0 - (s : Int)) % 18446744073709551616 := rfl
    rw [this, e64']
    omega
  have e : (BitVec.ofInt 64 (s : Int) &&& BitVec.ofInt 64 (((2 ^ 64 - s : Nat) : Int))).toNat = lowN s := by
    rw [BitVec.toNat_and, BitVec.toNat_ofInt, BitVec.toNat_ofInt]
    unfold lowN
    rw [show ((s : Int) % ((2 ^ 64 : Nat) : Int)).toNat = s by rw [e64]; omega]
    rw [show (((2 ^ 64 - s : Nat) : Int) % ((2 ^ 64 : Nat) : Int)).toNat = 2 ^ 64 - s by rw [e64, e64']; omega]
  rw [hw, e]
  have : lowN s ≤ s := Nat.and_le_left
  exact u64_wrap (by omega) (by omega)
set_option maxHeartbeats 4000000 in
theorem tz64_ret {s : Nat} (hs : s < 1024) (h0 : s ≠ 0) : Ret Tryz.prog 135 [.lit (.int .u64 s)] (I (tzN s : Nat)) := by
  obtain ⟨h1, h2⟩ := (low_tz s hs).resolve_left h0
  refine ret_by (hm := true) Tryz.func135 rfl ?_
  conv => whnf
  rw [show (((s : Nat) : Int) == 0) = false by rw [beq_eq_false_iff_ne]; omega]
  conv => whnf
  have hw := low_wrap hs h0
  rw [h1] at hw
  rw [hw]
  generalize tzN s = k at h2
  rcases (show k = 0 ∨ k = 1 ∨ k = 2 ∨ k = 3 ∨ k = 4 ∨ k = 5 ∨ k = 6 ∨ k = 7 ∨ k = 8 ∨ k = 9 by omega) with rfl | rfl | rfl | rfl | rfl | rfl | rfl | rfl | rfl | rfl
  · skip
    conv => whnf
    refine ⟨by decide, ?_⟩
    conv => whnf
    refine ⟨.lit (.int .u8 (0 : Int)), by kernel_rfl, ?_⟩
    conv => whnf
    exact .val
  · skip
    conv => whnf
    refine ⟨by decide, ?_⟩
    conv => whnf
    refine ⟨.lit (.int .u8 (1 : Int)), by kernel_rfl, ?_⟩
    conv => whnf
    exact .val
  · skip
    conv => whnf
    refine ⟨by decide, ?_⟩
    conv => whnf
    refine ⟨.lit (.int .u8 (2 : Int)), by kernel_rfl, ?_⟩
    conv => whnf
    exact .val
  · skip
    conv => whnf
    refine ⟨by decide, ?_⟩
    conv => whnf
    refine ⟨.lit (.int .u8 (3 : Int)), by kernel_rfl, ?_⟩
    conv => whnf
    exact .val
  · skip
    conv => whnf
    refine ⟨by decide, ?_⟩
    conv => whnf
    refine ⟨.lit (.int .u8 (4 : Int)), by kernel_rfl, ?_⟩
    conv => whnf
    exact .val
  · skip
    conv => whnf
    refine ⟨by decide, ?_⟩
    conv => whnf
    refine ⟨.lit (.int .u8 (5 : Int)), by kernel_rfl, ?_⟩
    conv => whnf
    exact .val
  · skip
    conv => whnf
    refine ⟨by decide, ?_⟩
    conv => whnf
    refine ⟨.lit (.int .u8 (6 : Int)), by kernel_rfl, ?_⟩
    conv => whnf
    exact .val
  · skip
    conv => whnf
    refine ⟨by decide, ?_⟩
    conv => whnf
    refine ⟨.lit (.int .u8 (7 : Int)), by kernel_rfl, ?_⟩
    conv => whnf
    exact .val
  · skip
    conv => whnf
    refine ⟨by decide, ?_⟩
    conv => whnf
    refine ⟨.lit (.int .u8 (8 : Int)), by kernel_rfl, ?_⟩
    conv => whnf
    exact .val
  · skip
    conv => whnf
    refine ⟨by decide, ?_⟩
    conv => whnf
    refine ⟨.lit (.int .u8 (9 : Int)), by kernel_rfl, ?_⟩
    conv => whnf
    exact .val
theorem tz_ret {s : Nat} (hs : s < 1024) (h0 : s ≠ 0) : Ret Tryz.prog 123 [.lit (.int .u64 s)] (I (tzN s : Nat)) := by
  have h := tz64_ret hs h0
  refine ret_by (hm := true) Tryz.func123 rfl ?_
  conv => whnf
  refine .ret (h) rfl ?_
  conv => whnf
  exact .val
theorem numbers_call (s : Nat) (H : Heap) : ∃ e h', CallOk Tryz.prog 93 [.c (I s)] H .no e h' .no ∧ (e = .ret (.func (.func 122) [] [.ptr H.n 0]) ∧ Heap.at h' H.n = .blk [.c (I s)] ∧ h'.n = H.n + 1 ∧ Foot none' H h') := by
  refine call_by (hm := false) Tryz.func93 rfl ?_
  conv => whnf
  exact ⟨rfl, at_push_self _ _, push_n _ _, (Foot.refl _ _).push _⟩
def nsY (l : List Nat) : List (List CV) := l.map fun s => [I (s : Nat)]
set_option maxHeartbeats 4000000 in
theorem nums_iter {s : Nat} (hs : s < 1024) (B : Nat) : IterB Tryz.prog B (.blk [.c (I s)]) (fun _ => True) (.func (.func 122) [] [.ptr B 0]) (nsY (numsL s)) := by
  refine ⟨122, [], [.ptr B 0], fun args => by kernel_rfl, fun id n0 J D X R _ hid hBi h0 hn0 hB0 hJ => ?_⟩
  refine call_by (hm := false) Tryz.func122 rfl ?_
  conv => whnf
  refine loop_by (I := fun z st => ∃ (t : Nat) (h : Heap), t = z ∧ t < 1024 ∧ Heap.at h B = .blk [.c (I t)] ∧ n0 ≤ h.n ∧ J (own1 B) (nsY (numsL t)) h ∧
    Has st 15 [(0, .yield id), (1, .ptr B 0)] [] none h) ?_ (k := s)
    ⟨s, _, rfl, hs, hB0, hn0, hJ, rfl, ⟨rfl, rfl, trivial⟩, rfl, rfl, rfl, rfl⟩
  rintro z st ⟨t, h, rfl, ht, hb, hn, hJ, hs1⟩
  refine hs1.run (hm := false) ?_
  conv => whnf
  refine ⟨_, hb, ?_⟩
  conv => whnf
  cases hz : (((t : Nat) : Int) != 0)
  case false =>
    have : t = 0 := by simp at hz; omega
    subst this
    conv => whnf
    exact ⟨hn, .inl hJ⟩
  have hz : t ≠ 0 := by intro e; simp [e] at hz
  obtain ⟨n1, n2⟩ := (nums_tab t ht).resolve_left hz
  have n3 : t &&& (t - 1) < t := by have := Nat.and_le_right (n := t) (m := t - 1); omega
  rw [n1] at hJ
  conv => whnf
  refine ⟨_, hb, ?_⟩
  conv => whnf
  rw [u64_wrap (n := (t : Int)) (by omega) (by omega)]
  refine .ret (tz_ret ht hz) rfl ?_
  conv => whnf
  refine .mk ((R.round _ _ _ _ hJ hn (fun i hi => .inl hi)).mono ?_ ?_)
  · rintro y h' ⟨hf, hk⟩
    have n' := hf.n
    have hb' := (hf.keep B (by omega) (fun x => x rfl)).trans hb
    cases y
    · conv => whnf
      exact ⟨by show n0 ≤ h'.n; omega, .inr hk⟩
    · conv => whnf
      refine ⟨_, hb', ?_⟩
      conv => whnf
      refine ⟨_, hb', ?_⟩
      conv => whnf
      refine ⟨(t : Int) - 1, by rw [wrap_eq (by omega) (by omega)], ?_⟩
      conv => whnf
      refine ⟨((t &&& (t - 1) : Nat) : Int), by rw [show (t : Int) - 1 = ((t - 1 : Nat) : Int) by omega]; exact and_nat (by omega) (by omega), ?_⟩
      conv => whnf
      refine ⟨_, hb', ?_⟩
      conv => whnf
      refine ⟨t &&& (t - 1), n3, t &&& (t - 1), _, rfl, n2, at_set_self _ _ (by omega), by rw [TMap.set_n]; omega, R.mono _ _ _ _ (R.stable _ _ _ _ hk (by omega) (Foot.set (W := own1 B) (k := B) (Foot.refl _ _) (.inl rfl) _)) (fun i hi => .inl hi), rfl, ⟨rfl, rfl, trivial⟩, rfl, rfl, rfl, rfl⟩
  · rintro v' h' ⟨hx, hn', hf⟩
    exact ⟨hn', hx⟩
end Go.Ag
/- Layer 8: the first fleece that makes others fit. -/
namespace Go.Ag
open Go.Proofs
set_option maxRecDepth 100000

theorem shl_one62 (q : Nat) (h : q < 62) : IntKind.i64.wrap (1 * 2 ^ min (q : Int).toNat 64) = ((2 ^ q : Nat) : Int) := by
  have p : 2 ^ q ≤ 2 ^ 61 := Nat.pow_le_pow_right (by omega) (by omega)
  have := shl_nat 1 q (by omega) (by omega)
  rw [Nat.one_mul] at this
  exact this
theorem suits94_ret {v : PV} {d : Pn} (hv : v.IsL d.pr) (hd : d.Good) {C : List CV} (hC : Pile v d C) {f x : Nat} (hf : f < 1024) (hx : x < 10) : Ret Tryz.prog 94 [I x, .cptr C 0, .cptr [I f] 0] (B (fitsP d (f ||| 2 ^ x))) := by
  have pq : 2 ^ x ≤ 2 ^ 9 := Nat.pow_le_pow_right (by omega) (by omega)
  have hor : f ||| 2 ^ x < 2 ^ 10 := Nat.or_lt_two_pow (by omega) (by omega)
  have h1 := fits_ret hv hd hC (s := f ||| 2 ^ x) (by omega)
  refine ret_by (hm := true) Tryz.func94 rfl ?_
  conv => whnf
  refine draw_by (hm := true) (by kernel_rfl) (by kernel_rfl) ?_
  conv => whnf
  refine ⟨_, read80 hC.len, ?_⟩
  conv => whnf
  refine ⟨_, rfl, ?_⟩
  conv => whnf
  refine ⟨by omega, _, shl_one62 x (by omega), ?_⟩
  conv => whnf
  refine ⟨_, or_nat (a := f) (b := 2 ^ x) (by omega) (by omega), ?_⟩
  conv => whnf
  refine .pure _ _ rfl (h1) ?_
  conv => whnf
  refine ⟨by kernel_rfl, ?_⟩
  conv => whnf
  exact .val
theorem nums_lt {s x : Nat} (h : x ∈ numsL s) : x < 10 := by
  unfold numsL at h
  exact List.mem_range.1 (List.mem_filter.1 h).1
theorem snap_ptr {H : Nat → AB} {id off : Nat} {cs : List CV} (hb : H id = .blk (cs.map .c)) (m : Nat) (hm : cs.length + 20 ≤ m) : snap H m (.ptr id off) = some (.cptr cs off, [id]) := by
  obtain ⟨m, rfl⟩ : ∃ k, m = k + 20 := ⟨m - 20, by omega⟩
  simp only [snap, hb]
  rw [snaps_map_c H cs _ (by omega)]
  rfl
theorem call_two {x : Int} {p q : Nat} {C D : List CV} {f : FuncId} {h : Heap} (hp : Heap.at h p = .blk (C.map .c)) (hq : Heap.at h q = .blk (D.map .c)) {v : CV} (hk : Ret Tryz.prog f [I x, .cptr C 0, .cptr D 0] v) (hv : v.plain = true) {K : AEnd → Heap → Prop} (k : K (.ret (.c v)) h) : CallW Tryz.prog f [.c (I x), .ptr p 0, .ptr q 0] h K := by
  have e0 : ∀ a : Nat, snaps (Heap.at h) (a + 1) [] = some ([], []) := fun a => rfl
  have e1 : ∀ (a : Nat) (c : CV), snap (Heap.at h) (a + 1) (.c c) = some (c, []) := fun a c => rfl
  have h1 := snapsCons (snap_ptr (off := 0) hq (D.length + C.length + 20) (by omega)) (e0 _)
  have h2 := snapsCons (snap_ptr (off := 0) hp (D.length + C.length + 20 + 1) (by omega)) h1
  have h3 := snapsCons (e1 _ (I x)) h2
  have hkl : ∀ ids, killed v ids = [] := fun ids => by unfold killed; rw [if_pos hv]
  exact .snapped _ _ _ _ v h3 hk rfl (by rw [hkl]; exact k)
/-- What holds while the first one is looked for. -/
structure FH (C : List CV) (f N p q : Nat) (g : Heap) : Prop where
  bp : Heap.at g p = .blk (C.map .c)
  bq : Heap.at g q = .blk [.c (I f)]
  bw : Heap.at g N = .blk [.func (.func 94) [] [.ptr p 0, .ptr q 0], .c (I 4)]
  br : Heap.at g (N + 1) = .blk [.c (I 0)]
  gn : N + 2 ≤ g.n
theorem FH.ext {C : List CV} {f N p q : Nat} {g g' : Heap} (e : FH C f N p q g) {W : Nat → Prop} (ff : Foot W g g') (hp : p < N) (hq : q < N) (hW : ∀ i, W i → i ≠ p ∧ i ≠ q ∧ i ≠ N ∧ i ≠ N + 1) : FH C f N p q g' := by
  have := e.gn; have := ff.n
  exact ⟨(ff.keep p (by omega) (fun x => (hW p x).1 rfl)).trans e.bp, (ff.keep q (by omega) (fun x => (hW q x).2.1 rfl)).trans e.bq, (ff.keep N (by omega) (fun x => (hW N x).2.2.1 rfl)).trans e.bw, (ff.keep (N + 1) (by omega) (fun x => (hW (N + 1) x).2.2.2 rfl)).trans e.br, by omega⟩
set_option maxHeartbeats 4000000 in
theorem first_call {v : PV} {d : Pn} (hv : v.IsL d.pr) (hd : d.Good) {C : List CV} (hC : Pile v d C) {s f : Nat} (hs : s < 1024) (hf : f < 1024) {b p q : Nat} {H : Heap} (hb : Heap.at H b = .blk [.c (I s)]) (hp : Heap.at H p = .blk (C.map .c)) (hq : Heap.at H q = .blk [.c (I f)])
    (lb : b < H.n) (lp : p < H.n) (lq : q < H.n) (nbp : b ≠ p) (nbq : b ≠ q) :
    ∃ e h', CallOk Tryz.prog 92 [.func (.func 122) [] [.ptr b 0], .agg [.func (.func 94) [] [.ptr p 0, .ptr q 0], .c (I 4)]] H .no e h' .no ∧ (match (numsL s).find? (fun x => fitsP d (f ||| 2 ^ x)) with | some x => e = .ret (.c (I x)) | none => e = .panic (errV 4)) := by
  refine call_by (hm := false) Tryz.func92 rfl ?_
  conv => whnf
  rw [push_n]
  generalize hG : TMap.push AB.dead (TMap.push AB.dead H _) _ = G
  have gp : Heap.at G p = .blk (C.map .c) := by rw [← hG]; exact (at_push_lt _ _ (by rw [push_n]; omega)).trans ((at_push_lt _ _ lp).trans hp)
  have gq : Heap.at G q = .blk [.c (I f)] := by rw [← hG]; exact (at_push_lt _ _ (by rw [push_n]; omega)).trans ((at_push_lt _ _ lq).trans hq)
  have gb : Heap.at G b = .blk [.c (I s)] := by rw [← hG]; exact (at_push_lt _ _ (by rw [push_n]; omega)).trans ((at_push_lt _ _ lb).trans hb)
  have gw : Heap.at G H.n = .blk [.func (.func 94) [] [.ptr p 0, .ptr q 0], .c (I 4)] := by rw [← hG]; exact (at_push_lt _ _ (by rw [push_n]; omega)).trans (at_push_self _ _)
  have gr : Heap.at G (H.n + 1) = .blk [.c (I 0)] := by rw [← hG, ← push_n]; exact at_push_self _ _
  have gn : G.n = H.n + 2 := by rw [← hG, push_n, push_n]
  clear hG
  have hne : ∀ {W : Nat → Prop}, (∀ i, W i → i = b ∨ H.n + 2 + 2 ≤ i) → ∀ i, (W i ∨ i = H.n + 2 ∨ i = H.n + 2 + 1) → i ≠ p ∧ i ≠ q ∧ i ≠ H.n ∧ i ≠ H.n + 1 := fun hw i hi => by
    rcases hi with hi | hi | hi
    · rcases hw i hi with rfl | hi
      · exact ⟨nbp, nbq, by omega, by omega⟩
      · exact ⟨by omega, by omega, by omega, by omega⟩
    · exact ⟨by omega, by omega, by omega, by omega⟩
    · exact ⟨by omega, by omega, by omega, by omega⟩
  refine range_nB (hm := false) (B := b) (b0 := .blk [.c (I s)]) (H.n + 2) gn (ps := [7]) rfl rfl (nums_iter hs b) (by omega) gb
    (I := fun W ys g => ∃ done rest, ys = nsY rest ∧ numsL s = done ++ rest ∧ (∀ x ∈ done, fitsP d (f ||| 2 ^ x) = false) ∧ FH C f H.n p q g)
    (E := fun _ e g => ∃ x, e = .ret ∧ (numsL s).find? (fun x => fitsP d (f ||| 2 ^ x)) = some x ∧ Heap.at g (H.n + 1) = .blk [.c (I x)] ∧ H.n + 2 ≤ g.n) (X := fun _ _ _ => False) ?_ ?_ ?_ ?_ ?_ ?_ ?_ ?_ ?_ ?_ ?_ ?_
  · rintro W ys g g' ⟨done, rest, x1, x2, x3, M⟩ hn hw ff
    exact ⟨done, rest, x1, x2, x3, M.ext ff lp lq (hne hw)⟩
  · rintro W e g g' ⟨x, x1, x2, x3, x4⟩ hn hw ff
    exact ⟨x, x1, x2, (ff.keep _ (by omega) (fun hx => (hne hw _ hx).2.2.2 rfl)).trans x3, by have := ff.n; omega⟩
  · rintro _ _ _ _ hx
    exact hx.elim
  · rintro W W' ys g hx _
    exact hx
  · rintro W W' e g hx _
    exact hx
  · rintro _ _ _ _ hx _
    exact hx
  · intros; trivial
  · exact ⟨[], _, rfl, rfl, (fun x hx => by cases hx), ⟨gp, gq, gw, gr, by omega⟩⟩
  · rintro W y ys g hn hw ⟨done, rest, x1, x2, x3, M⟩
    cases rest with
    | nil => cases x1
    | cons x rest =>
    obtain ⟨rfl, rfl⟩ := List.cons.inj x1
    refine ⟨rfl, ?_⟩
    conv => whnf
    refine ⟨Foot.refl _ _, fun hb' fb hbn' => ?_⟩
    have M0 := M.ext fb lp lq (fun i hi => ⟨by omega, by omega, by omega, by omega⟩)
    have hx10 : x < 10 := nums_lt (s := s) (by rw [x2]; simp)
    have hsu := suits94_ret hv hd hC hf hx10
    conv => whnf
    refine ⟨_, M0.bw, ?_⟩
    conv => whnf
    refine call_two M0.bp (D := [I f]) M0.bq hsu rfl ?_
    have nap : apart W (H.n + 2) (H.n + 1) := fun hx => (hne (fun i hi => by rcases hw i hi with h | h; exact .inl h; exact .inr h.1) _ hx).2.2.2 rfl
    have m4 := M0.gn
    cases hfit : fitsP d (f ||| 2 ^ x)
    · conv => whnf
      exact ⟨Foot.refl _ _, done ++ [x], rest, rfl, by rw [x2, List.append_assoc]; rfl, fun y hy => by rcases List.mem_append.1 hy with hy | hy; exact x3 y hy; rw [List.mem_singleton.1 hy]; exact hfit, M0⟩
    · conv => whnf
      refine ⟨_, M0.br, ?_⟩
      conv => whnf
      exact ⟨Foot.set (k := H.n + 1) (Foot.refl _ _) (.inl nap) _, x, rfl, by rw [x2]; exact find_at x3 hfit, at_set_self _ _ (by omega), by rw [TMap.set_n]; omega⟩
  · rintro g hn hc ⟨done, rest, x1, x2, x3, M⟩
    have hr : rest = [] := by
      cases rest with
      | nil => rfl
      | cons _ _ => cases x1
    subst hr
    rw [List.append_nil] at x2
    have hnone : (numsL s).find? (fun x => fitsP d (f ||| 2 ^ x)) = none := List.find?_eq_none.2 fun y hy => by rw [x2] at hy; rw [x3 y hy]; simp
    rw [hnone]
    conv => whnf
    refine ⟨_, M.bw, ?_⟩
    conv => whnf
    refine ⟨_, hc, ?_⟩
    conv => whnf
    rfl
  · rintro e g hn hc ⟨x, rfl, x2, x3, x4⟩ hj
    rw [x2]
    conv => whnf
    refine ⟨_, hc, ?_⟩
    conv => whnf
    refine ⟨_, (at_set_ne _ _ (i := H.n + 1) (k := H.n + 2) (by omega)).trans x3, ?_⟩
    conv => whnf
    rfl
  · rintro _ _ _ _ hx
    exact hx.elim
/-- The first fleece that makes others fit. -/
def addO (d : Pn) (s : Nat) : Option Nat := (numsL (diffN (2 ^ d.n - 1) s)).find? fun x => fitsP d (s ||| 2 ^ x)
set_option maxHeartbeats 4000000 in
theorem adding_call {v : PV} {d : Pn} (hv : v.IsL d.pr) (hd : d.Good) {C : List CV} (hC : Pile v d C) {s : Nat} (hs : s < 1024) :
    ∃ e h', CallOk Tryz.prog 57 [.c (.agg C), .c (I s)] TMap.nil .no e h' .no ∧ (match addO d s with | some x => e = .ret (.c (I x)) | none => e = .panic (errV 4)) := by
  have hCc := hC.ce
  have p10 := pow10 hd.n10
  have hdl : diffN (2 ^ d.n - 1) s < 1024 := diffN_lt (n := 10) (by omega)
  refine call_then (hm := false) Tryz.func57 rfl ?_
  conv => whnf
  refine then_seq (hm := false) ?_
  conv => whnf
  rw [box_agg (C := C)]; rotate_left; rfl; rfl; exact hCc
  conv => whnf
  refine forceL_intro ?_
  conv => whnf
  generalize hG : TMap.push AB.dead (TMap.push AB.dead TMap.nil _) _ = G
  have G0 : Heap.at G 0 = .blk (C.map .c) := by rw [← hG]; exact (at_push_lt _ _ (by show 0 < 1; omega)).trans (at_push_self _ _)
  have G1 : Heap.at G 1 = .blk [.c (I s)] := by rw [← hG]; exact at_push_self (TMap.push AB.dead TMap.nil _) _
  have Gn : G.n = 2 := by rw [← hG]; rfl
  clear hG
  refine then_seq (hm := false) ?_
  conv => whnf
  refine ⟨_, G0, ?_⟩
  conv => whnf
  refine look_read (hC.rd3) ?_
  conv => whnf
  refine ⟨_, G1, ?_⟩
  conv => whnf
  refine ⟨_, andNot_nat (a := 2 ^ d.n - 1) (b := s) (by omega) (by omega), ?_⟩
  conv => whnf
  refine callW_ex (numbers_call _ _) ?_
  rintro e K ⟨rfl, K2, Kn, Kf⟩
  rw [Gn] at K2 Kn ⊢
  conv => whnf
  refine callW_ex (first_call hv hd hC hdl hs (b := 2) (p := 0) (q := 1) K2 ((Kf.keep 0 (by omega) (fun x => x)).trans G0) ((Kf.keep 1 (by omega) (fun x => x)).trans G1) (by omega) (by omega) (by omega) (by omega) (by omega)) ?_
  intro e M he
  unfold addO
  cases hf : (numsL (diffN (2 ^ d.n - 1) s)).find? (fun x => fitsP d (s ||| 2 ^ x)) with
  | none =>
    rw [hf] at he
    subst he
    conv => whnf
  | some x =>
    rw [hf] at he
    subst he
    conv => whnf
    refine then_end (hm := false) ?_
    conv => whnf
    rfl
theorem adding_ok {v : PV} {d : Pn} (hv : v.IsL d.pr) (hd : d.Good) {C : List CV} (hC : Pile v d C) {s x : Nat} (hs : s < 1024) (h : addO d s = some x) : Ret Tryz.prog 57 [.agg C, I s] (I x) := by
  obtain ⟨e, h', h1, h2⟩ := adding_call hv hd hC hs
  rw [h] at h2
  exact close_val ⟨e, h', h1, h2⟩
theorem adding_no {v : PV} {d : Pn} (hv : v.IsL d.pr) (hd : d.Good) {C : List CV} (hC : Pile v d C) {s : Nat} (hs : s < 1024) (h : addO d s = none) : Falls Tryz.prog 57 [.agg C, I s] (eC 4) := by
  obtain ⟨e, h', h1, h2⟩ := adding_call hv hd hC hs
  rw [h] at h2
  exact close_pan ⟨e, h', h1, h2⟩
theorem add_clos {v : PV} {d : Pn} (hv : v.IsL d.pr) (hd : d.Good) {C : List CV} (hC : Pile v d C) {s x : Nat} (hs : s < 1024) (h : addO d s = some x) : Ret Tryz.prog 56 [.agg C, .cptr [I s] 0] (I x) := by
  have hCc := hC.ce
  have hw := adding_ok hv hd hC hs h
  refine ret_then (hm := true) Tryz.func56 rfl ?_
  conv => whnf
  refine then_seq (hm := true) ?_
  conv => whnf
  rw [box_agg (C := C)]; rotate_left; rfl; rfl; exact hCc
  conv => whnf
  refine forceL_intro ?_
  conv => whnf
  refine then_seq (hm := true) ?_
  conv => whnf
  refine look_read (hC.rd) ?_
  conv => whnf
  refine ⟨_, rfl, ?_⟩
  conv => whnf
  refine .ret (hw) rfl ?_
  conv => whnf
  refine then_end (hm := true) ?_
  conv => whnf
  exact .val
theorem add_clos_no {v : PV} {d : Pn} (hv : v.IsL d.pr) (hd : d.Good) {C : List CV} (hC : Pile v d C) {s : Nat} (hs : s < 1024) (h : addO d s = none) : Falls Tryz.prog 56 [.agg C, .cptr [I s] 0] (eC 4) := by
  have hCc := hC.ce
  have hw := adding_no hv hd hC hs h
  refine close_pan ?_
  refine call_then (hm := true) Tryz.func56 rfl ?_
  conv => whnf
  refine then_seq (hm := true) ?_
  conv => whnf
  rw [box_agg (C := C)]; rotate_left; rfl; rfl; exact hCc
  conv => whnf
  refine forceL_intro ?_
  conv => whnf
  refine then_seq (hm := true) ?_
  conv => whnf
  refine look_read (hC.rd) ?_
  conv => whnf
  refine ⟨_, rfl, ?_⟩
  conv => whnf
  refine CallW.falls hw rfl ?_
  conv => whnf
theorem in56_ok {v : PV} {d : Pn} (hv : v.IsL d.pr) (hd : d.Good) (hc : canP d = true) {s x : Nat} (hs : s < 1024) (h : addO d s = some x) : Ret Tryz.prog 87 (cs79 v d.pr (c56 s)) (I x) := by
  obtain ⟨C, hC⟩ := pile_ex v d
  have hp := pileOf_ret hv hd hC
  have hsu := sure_ok hv hd hC hc
  have hw := add_clos hv hd hC hs h
  refine ret_then (hm := true) Tryz.func87 rfl ?_
  conv => whnf
  refine then_seq (hm := true) ?_
  conv => whnf
  refine then_seq (hm := true) ?_
  refine draw_by (hm := true) (by kernel_rfl) (by kernel_rfl) ?_
  conv => whnf
  refine ⟨_, rfl, ?_⟩
  conv => whnf
  refine ⟨_, rfl, ?_⟩
  conv => whnf
  refine .pure _ _ rfl (hp) ?_
  conv => whnf
  refine .pure _ _ rfl (hsu) ?_
  conv => whnf
  refine .pure _ _ rfl (hw) ?_
  conv => whnf
  refine ⟨by kernel_rfl, ?_⟩
  conv => whnf
  refine then_end (hm := true) ?_
  conv => whnf
  exact .val
theorem in56_none {v : PV} {d : Pn} (hv : v.IsL d.pr) (hd : d.Good) (hc : canP d = true) {s : Nat} (hs : s < 1024) (h : addO d s = none) : Falls Tryz.prog 87 (cs79 v d.pr (c56 s)) (eC 4) := by
  obtain ⟨C, hC⟩ := pile_ex v d
  have hp := pileOf_ret hv hd hC
  have hsu := sure_ok hv hd hC hc
  have hw := add_clos_no hv hd hC hs h
  refine close_pan ?_
  refine call_then (hm := true) Tryz.func87 rfl ?_
  conv => whnf
  refine then_seq (hm := true) ?_
  conv => whnf
  refine then_seq (hm := true) ?_
  refine mixed_by (hm := true) (by kernel_rfl) (by kernel_rfl) ?_
  conv => whnf
  refine ⟨_, rfl, ?_⟩
  conv => whnf
  refine ⟨_, rfl, ?_⟩
  conv => whnf
  refine .ret _ _ (hp) rfl ?_
  conv => whnf
  refine .ret _ _ (hsu) rfl ?_
  conv => whnf
  refine .heavy (.panic (.c (eC 4))) TMap.nil (.inl hw) ?_
  conv => whnf
  refine mOps_list (l' := []) (by kernel_rfl) ?_
  conv => whnf
  refine ⟨by kernel_rfl, heaps_nil (by kernel_rfl), ?_⟩
  intro ds
  conv => whnf
set_option maxHeartbeats 1000000 in
theorem in56_no {v : PV} {d : Pn} (hv : v.IsL d.pr) (hd : d.Good) (hc : canP d = false) (s : Int) : Falls Tryz.prog 87 (cs79 v d.pr (c56 s)) (eC 10) := by
  obtain ⟨C, hC⟩ := pile_ex v d
  have hp := pileOf_ret hv hd hC
  have hsu := sure_falls hv hd hC hc
  refine close_pan ?_
  refine call_then (hm := true) Tryz.func87 rfl ?_
  conv => whnf
  refine then_seq (hm := true) ?_
  conv => whnf
  refine then_seq (hm := true) ?_
  refine mixed_by (hm := true) (by kernel_rfl) (by kernel_rfl) ?_
  conv => whnf
  refine ⟨_, rfl, ?_⟩
  conv => whnf
  refine ⟨_, rfl, ?_⟩
  conv => whnf
  refine .ret _ _ (hp) rfl ?_
  conv => whnf
  obtain ⟨e1, H1, hc1, rfl, f1⟩ := sure_no hv hd hC hc (TMap.nil)
  refine .heavy _ H1 (.inl hc1) ?_
  conv => whnf
  refine mOps_list (l' := []) (by kernel_rfl) ?_
  conv => whnf
  refine ⟨by kernel_rfl, heaps_nil (by kernel_rfl), ?_⟩
  intro ds
  conv => whnf
  rfl
set_option maxHeartbeats 1000000 in
theorem of56_in {v : PV} {c : Pr} (hv : v.Is c) (hc : okPr c = true) {s : Int} (hs : setB s c.fl.length = true) {x : Int} {e : Int} (h : Ret Tryz.prog 86 [.func (.func 87) [] (cs79 v c (c56 s))] (.tuple [I x, I e])) : Ret Tryz.prog 50 [v.cv c, I s, c56 s] (.tuple [I x, I e]) := by
  have hval := valid_ret hv
  rw [hc] at hval
  have h10 : c.fl.length ≤ 10 := by unfold okPr at hc; rw [Bool.and_eq_true] at hc; exact okFs_len hc.1
  have hset := isSet_ret s c.fl.length h10
  rw [hs, ← hv.fn] at hset
  refine ret_by (hm := true) Tryz.func50 rfl ?_
  conv => whnf
  refine .ret (hval) rfl ?_
  conv => whnf
  refine .ret (hset) rfl ?_
  conv => whnf
  refine .snapped 100 [.func (.func 87) [] (cs79 v c (c56 s))] [1, 0] _ _ rfl h rfl ?_
  conv => whnf
  exact .val
/-- What Add answers. -/
def adN (d : Pn) (s : Nat) : Nat := if canP d then (addO d s).getD 0 else 0
def adE (d : Pn) (s : Nat) : Int := if canP d then (if (addO d s).isSome then 0 else 4) else 10
theorem addX_ret {v : PV} {d : Pn} (hv : v.Is d.pr) (hd : d.Good) (hok : okPr d.pr = true) {s : Nat} (hs : s < 2 ^ d.n) : Ret Tryz.prog 17 [v.cv d.pr, I s] (.tuple [I (adN d s : Nat), I (adE d s)]) := by
  have p10 := pow10 hd.n10
  have hset : setB (s : Int) d.pr.fl.length = true := setB_iff.2 ⟨s, rfl, by rw [pr_len]; exact hs⟩
  unfold adN adE
  cases hc : canP d
  · exact addX_of (of56_in hv hok hset (ansI_no (in56_no hv.toIsL hd hc _)))
  · cases ha : addO d s with
    | none => exact addX_of (of56_in hv hok hset (ansI_no (in56_none hv.toIsL hd hc (by omega) ha)))
    | some x => exact addX_of (of56_in hv hok hset (ansI_ok (in56_ok hv.toIsL hd hc (by omega) ha)))
end Go.Ag
/- Layer 8: fleeces of one line; what fits, by its weight. -/
namespace Go.Ag
open Go.Proofs
set_option maxRecDepth 100000

theorem lineOk_iff {d : Pn} (hd : d.Good) {s : Nat} (hs : s < 2 ^ d.n) : lineOk d s = true ↔ ∃ l, l ≤ 2 ∧ ∀ i, s.testBit i = true → d.ln i = l := by
  have one : ∀ l, (diffN s (lineN d l) == 0) = true ↔ ∀ i, s.testBit i = true → d.ln i = l := fun l => by
    rw [beq_iff_eq, diff_zero]
    constructor
    · intro h i hi
      have := h i hi
      unfold lineN at this
      rw [lineQ_bit, Bool.and_eq_true, beq_iff_eq] at this
      exact this.2
    · intro h i hi
      unfold lineN
      rw [lineQ_bit, Bool.and_eq_true, beq_iff_eq, decide_eq_true_eq]
      exact ⟨bit_lt hs hi, h i hi⟩
  unfold lineOk linesL
  simp only [List.any_cons, List.any_nil, Bool.or_false, Bool.or_eq_true]
  rw [one 0, one 1, one 2]
  constructor
  · rintro (h | h | h)
    · exact ⟨0, by omega, h⟩
    · exact ⟨1, by omega, h⟩
    · exact ⟨2, by omega, h⟩
  · rintro ⟨l, hl, h⟩
    rcases (show l = 0 ∨ l = 1 ∨ l = 2 by omega) with rfl | rfl | rfl
    · exact .inl h
    · exact .inr (.inl h)
    · exact .inr (.inr h)
/-- What the search for one line knows. -/
def LnI (d : Pn) (s q : Nat) (L : Int) : Prop := (L = -1 ∧ ∀ i, i < q → s.testBit i = false) ∨ ∃ l : Nat, L = l ∧ l ≤ 2 ∧ (∃ i, i < q ∧ s.testBit i = true) ∧ ∀ i, i < q → s.testBit i = true → d.ln i = l
def alikeB (d : Pn) (s : Nat) : Bool := lineOk d s && s != 0
set_option maxHeartbeats 4000000 in
theorem alike_ret {v : PV} {d : Pn} (hv : v.Is d.pr) (hd : d.Good) {s : Nat} (hs : s < 2 ^ d.n) : Ret Tryz.prog 33 [v.cv d.pr, I s] (B (alikeB d s)) := by
  have hfn := hv.fn
  rw [pr_len] at hfn
  have hn10 := hd.n10
  have p10 := pow10 hd.n10
  have hiff := lineOk_iff hd hs
  refine ret_then (hm := false) Tryz.func33 rfl ?_
  conv => whnf
  refine then_seq (hm := false) ?_
  conv => whnf
  generalize hG : TMap.push AB.dead TMap.nil _ = G
  have Gn : G.n = 1 := by rw [← hG]; rfl
  have G0 : Heap.at G 0 = v.blk d.pr := by rw [← hG]; exact at_push_self TMap.nil _
  clear hG
  refine then_seq (hm := false) ?_
  conv => whnf
  refine then_via (hm := false) (fun st => ∃ (L : Int) (h : Heap), LnI d s d.n L ∧ Has st 34 [(5, .c (I L))] [] none h) ?_ ?_
  · skip
    conv => whnf
    refine ⟨_, G0, ?_⟩
    conv => whnf
    refine loop_by (I := fun z st => ∃ (q : Nat) (h : Heap) (L : Int), q ≤ d.n ∧ z = d.n - q ∧ Heap.at h 0 = v.blk d.pr ∧ 0 < h.n ∧ LnI d s q L ∧ Has st 34 [(1, .c (I s)), (5, .c (I L)), (9, .c (.sl v.fc v.fo v.fn)), (10, .c (I v.fn)), (11, .c (I q))] [] none h) ?_ (k := d.n)
      ⟨0, G, -1, Nat.zero_le _, rfl, G0, by omega, .inl ⟨rfl, fun i hi => by omega⟩, rfl, ⟨rfl, rfl, rfl, rfl, rfl, trivial⟩, rfl, rfl, rfl, rfl⟩
    clear G0 Gn G
    rintro z st ⟨q, h, L, hq, rfl, h0, hlt, hL, hs1⟩
    refine (hs1.then ?_).1
    refine then_seq (hm := false) ?_
    conv => whnf
    cases hcq : decide ((q : Int) < (v.fn : Int))
    case false =>
      have : q = d.n := by simp at hcq; omega
      subst this
      refine then_seq (hm := false) ?_
      conv => whnf
      exact ⟨L, h, hL, rfl, ⟨rfl, trivial⟩, rfl, rfl, rfl, rfl⟩
    have hq : q < d.n := by simp at hcq; omega
    obtain ⟨⟨xl, xh, xk⟩, hx⟩ := get_some (l := d.fl) (k := q) hq
    have hxp : d.pr.fl[q]? = some (xl, xh, (xk : Int)) := by show (d.fl.map _)[q]? = _; rw [List.getElem?_map, hx]; rfl
    have hln : d.ln q = xk := by unfold Pn.ln; rw [hx]
    have hxk := (hd.f _ (List.mem_of_getElem? hx)).2.2.2.2
    dsimp only at hxk
    refine then_seq (hm := false) ?_
    conv => whnf
    refine then_left (then_block ?_)
    refine then_seq (hm := false) ?_
    conv => whnf
    refine ⟨⟨by omega, by omega⟩, ?_⟩
    conv => whnf
    refine ⟨_, hv.fleece hxp, ?_⟩
    conv => whnf
    refine ⟨_, at_push_self _ _, ?_⟩
    conv => whnf
    generalize hH2 : TMap.set AB.dead (TMap.push AB.dead h _) _ _ = H2
    have d0 : Heap.at H2 0 = v.blk d.pr := by rw [← hH2]; exact (at_old _ _ _ (by omega)).trans h0
    have d4 : Heap.at H2 h.n = .blk [.c (I xl), .c (I xh), .c (I (xk : Nat))] := by rw [← hH2]; exact at_new _ _ _
    have dn : 0 < H2.n := by rw [← hH2, TMap.set_n, push_n]; omega
    clear hH2 h0
    refine then_seq (hm := false) ?_
    conv => whnf
    refine ⟨by omega, _, shr_nat s q (by omega), ?_⟩
    conv => whnf
    refine ⟨_, and_nat (a := s >>> q) (b := 1) (by have := Nat.shiftRight_le s q; omega) (by omega), ?_⟩
    conv => whnf
    rw [bit_nat0]
    have step : s.testBit q = false → ∀ i, i < q + 1 → s.testBit i = true → i < q := fun hbit i hi hb => by
      rcases Nat.lt_or_ge i q with h | h
      · exact h
      · obtain rfl : i = q := by omega
        rw [hbit] at hb; cases hb
    cases hbit : s.testBit q
    case false =>
      have step := step hbit
      conv => whnf
      refine then_end (hm := false) ?_
      conv => whnf
      refine ⟨((q + 1 : Nat) : Int), by rw [wrap_eq (by omega) (by omega)]; omega, ?_⟩
      conv => whnf
      refine ⟨d.n - (q + 1), by omega, q + 1, H2, L, by omega, rfl, d0, dn, ?_, rfl, ⟨rfl, rfl, rfl, rfl, rfl, trivial⟩, rfl, rfl, rfl, rfl⟩
      rcases hL with ⟨h1, h2⟩ | ⟨l, h1, h2, ⟨i, hi, hb⟩, h4⟩
      · refine .inl ⟨h1, fun i hi => ?_⟩
        rcases Nat.lt_or_ge i q with h | h
        · exact h2 i h
        · obtain rfl : i = q := by omega
          exact hbit
      · exact .inr ⟨l, h1, h2, ⟨i, by omega, hb⟩, fun j hj hb => h4 j (step j hj hb) hb⟩
    conv => whnf
    refine then_via (hm := false) (fun st => (L = -1 ∨ L = (xk : Int)) ∧ Has st 34 [(1, .c (I s)), (7, .ptr h.n 0), (9, .c (.sl v.fc v.fo v.fn)), (10, .c (I v.fn)), (11, .c (I q))] [] none H2) ?_ ?_
    · skip
      conv => whnf
      rcases hL with ⟨rfl, h2⟩ | ⟨l, rfl, h2, ⟨i, hi, hb⟩, h4⟩
      · conv => whnf
        exact ⟨.inl rfl, rfl, ⟨rfl, rfl, rfl, rfl, rfl, trivial⟩, rfl, rfl, rfl, rfl⟩
      rw [show decide ((l : Int) ≥ 0) = true from decide_eq_true (by omega)]
      conv => whnf
      refine ⟨_, d4, ?_⟩
      conv => whnf
      cases hne : (((xk : Nat) : Int) != ((l : Nat) : Int))
      · have : xk = l := by simp at hne; omega
        subst this
        conv => whnf
        exact ⟨.inr rfl, rfl, ⟨rfl, rfl, rfl, rfl, rfl, trivial⟩, rfl, rfl, rfl, rfl⟩
      have hne : xk ≠ l := by intro e; simp [e] at hne
      have hno : lineOk d s = false := by
        cases ho : lineOk d s
        · rfl
        · obtain ⟨m, _, hm⟩ := hiff.1 ho
          have e1 := hm i hb
          have e2 := hm q hbit
          have e3 := h4 i hi hb
          omega
      conv => whnf
      unfold alikeB
      rw [hno]
      exact .val
    rintro st ⟨hLx, hs2⟩
    refine hs2.then ?_
    refine then_end (hm := false) ?_
    conv => whnf
    refine ⟨_, d4, ?_⟩
    conv => whnf
    refine then_end (hm := false) ?_
    conv => whnf
    refine ⟨((q + 1 : Nat) : Int), by rw [wrap_eq (by omega) (by omega)]; omega, ?_⟩
    conv => whnf
    refine ⟨d.n - (q + 1), by omega, q + 1, H2, (xk : Int), by omega, rfl, d0, dn, ?_, rfl, ⟨rfl, rfl, rfl, rfl, rfl, trivial⟩, rfl, rfl, rfl, rfl⟩
    refine .inr ⟨xk, rfl, hxk, ⟨q, by omega, hbit⟩, fun j hj hb => ?_⟩
    rcases Nat.lt_or_ge j q with h | h
    · rcases hL with ⟨h1, h2⟩ | ⟨l, h1, h2, ⟨i, hi, hb'⟩, h4⟩
      · rw [h2 j h] at hb; cases hb
      · rw [h4 j h hb]
        rcases hLx with h5 | h5 <;> omega
    · obtain rfl : j = q := by omega
      exact hln
  rintro st ⟨L, h, hL, hs2⟩
  refine hs2.then ?_
  refine then_end (hm := false) ?_
  conv => whnf
  have hval : alikeB d s = decide (L ≥ 0) := by
    unfold alikeB
    rcases hL with ⟨rfl, h2⟩ | ⟨l, rfl, h2, ⟨i, hi, hb⟩, h4⟩
    · have : s = 0 := bits_zero fun i => by
        cases hb : s.testBit i
        · rfl
        · rw [h2 i (bit_lt hs hb)] at hb; cases hb
      subst this
      simp
    · have hne : s ≠ 0 := fun e => by rw [e, Nat.zero_testBit] at hb; cases hb
      rw [hiff.2 ⟨l, h2, fun j hj => h4 j (bit_lt hs hj) hj⟩]
      simp [hne]
  rw [hval]
  exact .val
end Go.Ag
/- Layer 8: the law of what fits. -/
namespace Go.Ag
open Go.Proofs
set_option maxRecDepth 100000

theorem sum_le : ∀ {l : List Wt}, (∀ x ∈ l, x.lo ≤ x.hi) → (sumW l).lo ≤ (sumW l).hi
  | [], _ => Int.le_refl 0
  | x :: l, h => by
    rw [sumW_cons]
    have h1 := h x (by simp)
    have h2 := sum_le (l := l) fun y hy => h y (by simp [hy])
    show x.lo + (sumW l).lo ≤ x.hi + (sumW l).hi
    omega
theorem part_le {d : Pn} (hd : d.Good) (hc : canP d = true) {b : Nat × Int × Int} (hb : b ∈ d.wd) (s : Nat) : (part' d b s).lo ≤ (part' d b s).hi := by
  have h1 := can_bale hd hc hb
  rw [split_T d b.1 s] at h1
  have h2 := (T_bound hd (b.1 &&& s)).2.1
  have h3 := (T_bound hd (diffN b.1 s)).2.1
  have h4 := (hd.w b hb).2.2.2.1
  unfold part' bothW lessW
  generalize T' d (b.1 &&& s) = A at *
  generalize T' d (diffN b.1 s) = B at *
  unfold addW at h1
  dsimp only at h1 ⊢
  omega
theorem weigh_le {d : Pn} (hd : d.Good) (hc : canP d = true) (s : Nat) : (weigh' d s).lo ≤ (weigh' d s).hi := by
  refine sum_le fun x hx => ?_
  rcases List.mem_append.1 hx with hx | hx
  · obtain ⟨b, hb, rfl⟩ := List.mem_map.1 hx
    exact part_le hd hc hb s
  · rw [List.mem_singleton.1 hx]
    exact (T_bound hd _).2.1
/-- Whether fleeces always fit, and whether they never do, by their weight. -/
theorem fits_says {d : Pn} (hd : d.Good) (hc : canP d = true) (s : Nat) : fitsP d s = (alikeB d s && (decide ((weigh' d s).lo ≥ d.low) && decide ((weigh' d s).hi ≤ d.top))) := by
  unfold fitsP alikeB holdsW
  dsimp only
  by_cases h0 : s = 0
  · subst h0
    rw [weigh_zero hd hc]
    have := hd.lt.1
    rw [show decide (d.low ≤ (⟨0, 0⟩ : Wt).lo) = false from decide_eq_false (by show ¬ d.low ≤ 0; omega)]
    simp
  · rw [show (s != 0) = true by simp [h0], Bool.and_true]
theorem never_says {d : Pn} (hd : d.Good) (hc : canP d = true) (s : Nat) : (sureN (fitsP d s) (meetsP d s) == 0) = (!alikeB d s || (decide ((weigh' d s).hi < d.low) || decide ((weigh' d s).lo > d.top))) := by
  have hw := weigh_le hd hc s
  have hl := hd.lt
  have hm : meetsP d s = (lineOk d s && (decide (d.low ≤ (weigh' d s).hi) && decide ((weigh' d s).lo ≤ d.top))) := by
    unfold meetsP meetsW tornW bothW
    dsimp only
    generalize weigh' d s = W at *
    cases lineOk d s
    · rfl
    · simp only [Bool.true_and]
      rw [← Bool.decide_and, ← decide_not]
      exact decide_eq_decide.2 (by omega)
  have hf : fitsP d s = true → meetsP d s = true := fun h => by
    rw [hm]
    unfold fitsP holdsW at h
    simp only [Bool.and_eq_true, decide_eq_true_eq] at h ⊢
    exact ⟨h.1, by omega, by omega⟩
  have h1 : (sureN (fitsP d s) (meetsP d s) == 0) = !meetsP d s := by
    unfold sureN
    cases hfp : fitsP d s
    · cases meetsP d s <;> rfl
    · rw [hf hfp]; rfl
  rw [h1, hm]
  unfold alikeB
  by_cases h0 : s = 0
  · subst h0
    rw [weigh_zero hd hc]
    rw [show decide (d.low ≤ (⟨0, 0⟩ : Wt).hi) = false from decide_eq_false (by show ¬ d.low ≤ 0; omega)]
    simp
  · rw [show (s != 0) = true by simp [h0], Bool.and_true]
    generalize weigh' d s = W at *
    cases lineOk d s
    · rfl
    · simp only [Bool.true_and, Bool.not_true, Bool.false_or, Bool.not_and]
      rw [← decide_not, ← decide_not]
      congr 1
      · exact decide_eq_decide.2 (by omega)
      · exact decide_eq_decide.2 (by omega)
/-- The first fleece that makes others fit, found one by one. -/
def goF (d : Pn) (s i : Nat) : Bool := !s.testBit i && fitsP d (s ||| 2 ^ i)
def firstQ (d : Pn) (s q : Nat) : Option Nat := (List.range q).find? (goF d s)
theorem firstQ_succ (d : Pn) (s q : Nat) : firstQ d s (q + 1) = (firstQ d s q).or (if goF d s q then some q else none) := by
  unfold firstQ
  rw [List.range_succ, List.find?_append]
  cases h : goF d s q <;> simp [h]
theorem add_first {d : Pn} (hd : d.Good) (s : Nat) : addO d s = firstQ d s d.n := by
  have h10 := hd.n10
  unfold addO numsL firstQ
  rw [List.find?_filter]
  have e : List.range 10 = List.range d.n ++ (List.range' d.n (10 - d.n)) := range_split h10
  have hp : ∀ i, ((diffN (2 ^ d.n - 1) s).testBit i && fitsP d (s ||| 2 ^ i)) = (decide (i < d.n) && goF d s i) := fun i => by
    rw [diffN_bit, Nat.testBit_two_pow_sub_one]
    unfold goF
    rw [Bool.and_assoc]
  have hfun : (fun a => decide ((diffN (2 ^ d.n - 1) s).testBit a = true ∧ fitsP d (s ||| 2 ^ a) = true)) = fun i => decide (i < d.n) && goF d s i := by
    funext i
    rw [← hp i]
    simp
  first
    | rw [hfun]
    | (rw [show (fun a => (diffN (2 ^ d.n - 1) s).testBit a && fitsP d (s ||| 2 ^ a)) = fun i => decide (i < d.n) && goF d s i from funext hp])
  rw [e, List.find?_append]
  have h2 : (List.range' d.n (10 - d.n)).find? (fun i => decide (i < d.n) && goF d s i) = none := List.find?_eq_none.2 fun x hx => by
    have := (List.mem_range'.1 hx)
    obtain ⟨j, _, rfl⟩ := this
    rw [show decide (d.n + 1 * j < d.n) = false from decide_eq_false (by omega)]
    simp
  rw [h2, Option.or_none]
  have key : ∀ (l : List Nat), (∀ i ∈ l, i < d.n) → l.find? (fun i => decide (i < d.n) && goF d s i) = l.find? (goF d s) := by
    intro l hl
    induction l with
    | nil => rfl
    | cons a l ih =>
      rw [List.find?_cons, List.find?_cons, show decide (a < d.n) = true from decide_eq_true (hl a (by simp)), Bool.true_and, ih fun i hi => hl i (by simp [hi])]
  exact key _ fun i hi => List.mem_range.1 hi
end Go.Ag
