/- The law TallySums returns true for arguments that are not far too long. No conditions. -/
import Derived.Test.YtnmiompeofbagaaTyG
/- Layer 5: of a tally without strays whose calls are all of single shearers, the sums are told by the parts. -/
namespace Go.Ag
open Go.Proofs

def sumP (f : Nat → Int) : Nat → Int
  | 0 => 0
  | k + 1 => sumP f k + f k
theorem sumP_le {f g : Nat → Int} : ∀ n : Nat, (∀ k, k < n → f k ≤ g k) → sumP f n ≤ sumP g n
  | 0, _ => Int.le_refl _
  | n + 1, h => by
    have := sumP_le n fun k hk => h k (by omega)
    have := h n (by omega)
    simp only [sumP]; omega
theorem sumP_eq {f g : Nat → Int} : ∀ n : Nat, (∀ k, k < n → f k = g k) → sumP f n = sumP g n
  | 0, _ => rfl
  | n + 1, h => by
    have := sumP_eq n fun k hk => h k (by omega)
    have := h n (by omega)
    simp only [sumP]; omega
theorem sumP_tel (x : Nat → Int) (lo : Nat) : ∀ n : Nat, sumP (fun k => x (lo + k + 1) - x (lo + k)) n = x (lo + n) - x lo
  | 0 => by simp only [sumP, Nat.add_zero]; omega
  | n + 1 => by
    simp only [sumP, sumP_tel x lo n]
    rw [show lo + (n + 1) = lo + n + 1 by omega]; omega
theorem sumP_ge {f : Nat → Int} : ∀ n : Nat, (∀ k, k < n → 0 ≤ f k) → 0 ≤ sumP f n
  | 0, _ => Int.le_refl _
  | n + 1, h => by
    have := sumP_ge n fun k hk => h k (by omega)
    have := h n (by omega)
    simp only [sumP]; omega
theorem sumP_bound {f : Nat → Int} {m : Int} : ∀ n : Nat, (∀ k, k < n → f k ≤ m) → sumP f n ≤ n * m
  | 0, _ => by simp [sumP]
  | n + 1, h => by
    have := sumP_bound n fun k hk => h k (by omega)
    have := h n (by omega)
    simp only [sumP]
    rw [show ((n + 1 : Nat) : Int) * m = n * m + m by rw [Int.natCast_add, Int.add_mul]; simp]
    omega
theorem sumP_mono {f : Nat → Int} {i : Nat} : ∀ {j : Nat}, (∀ k, k < j → 0 ≤ f k) → i ≤ j → sumP f i ≤ sumP f j
  | 0, _, h => by have : i = 0 := by omega
                  subst this; exact Int.le_refl _
  | j + 1, hf, h => by
    rcases Nat.lt_or_ge i (j + 1) with h1 | h1
    · have := sumP_mono (i := i) (j := j) (fun k hk => hf k (by omega)) (by omega)
      have := hf j (by omega)
      simp only [sumP]; omega
    · have : i = j + 1 := by omega
      subst this; exact Int.le_refl _

/-- Whatever was called: together is no more than the parts' sum. -/
theorem part_sum {t : Td} (hd : validT t = true) {d : M} (hl : lookF t (allN t) = some d) {lo m : Nat} (hm : (lo + m : Int) ≤ t.n) :
    sumP (fun k => (spanD d (lo + k) (lo + k + 1)).1) m ≤ (spanD d lo (lo + m)).1 ∧ (spanD d lo (lo + m)).2 ≤ sumP (fun k => (spanD d (lo + k) (lo + k + 1)).2) m := by
  have h5 := valid_nums hd
  have s0 := span_is (validT_X hd) hl (f := lo) (g := lo + m) (by omega) (by omega)
  have sk : ∀ k, k < m → IsSpan t (allN t) (fun x => x (lo + k + 1) - x (lo + k)) (spanD d (lo + k) (lo + k + 1)) := fun k hk => span_is (validT_X hd) hl (by omega) (by omega)
  constructor
  · obtain ⟨x, hx, e⟩ := s0.ex _ (Int.le_refl _) s0.le
    have e : x (lo + m) - x lo = (spanD d lo (lo + m)).1 := e
    rw [← e, ← sumP_tel x lo m]
    exact sumP_le m fun k hk => ((sk k hk).of x hx).1
  · obtain ⟨x, hx, e⟩ := s0.ex _ s0.le (Int.le_refl _)
    have e : x (lo + m) - x lo = (spanD d lo (lo + m)).2 := e
    rw [← e, ← sumP_tel x lo m]
    exact sumP_le m fun k hk => ((sk k hk).of x hx).2
/-- Two parts. -/
theorem two_parts {t : Td} (hd : validT t = true) {d : M} (hl : lookF t (allN t) = some d) {a b c : Nat} (ha : a < 12) (hb : b < 12) (hc : c < 12) :
    (spanD d a b).1 + (spanD d b c).1 ≤ (spanD d a c).1 ∧ (spanD d a c).2 ≤ (spanD d a b).2 + (spanD d b c).2 ∧ (spanD d a b).2 + (spanD d b c).1 ≤ (spanD d a c).2 ∧ (spanD d a c).1 ≤ (spanD d a b).1 + (spanD d b c).2 := by
  have sA := span_is (validT_X hd) hl (f := a) (g := b) ha hb
  have sB := span_is (validT_X hd) hl (f := b) (g := c) hb hc
  have sC := span_is (validT_X hd) hl (f := a) (g := c) ha hc
  have A : ∀ x, Tr t (allN t) x → (spanD d a b).1 ≤ x b - x a ∧ x b - x a ≤ (spanD d a b).2 := sA.of
  have B : ∀ x, Tr t (allN t) x → (spanD d b c).1 ≤ x c - x b ∧ x c - x b ≤ (spanD d b c).2 := sB.of
  have C : ∀ x, Tr t (allN t) x → (spanD d a c).1 ≤ x c - x a ∧ x c - x a ≤ (spanD d a c).2 := sC.of
  obtain ⟨x1, h1, e1⟩ := sC.ex _ (Int.le_refl _) sC.le
  obtain ⟨x2, h2, e2⟩ := sC.ex _ sC.le (Int.le_refl _)
  obtain ⟨x3, h3, e3⟩ := sA.ex _ (Int.le_refl _) sA.le
  obtain ⟨x4, h4, e4⟩ := sA.ex _ sA.le (Int.le_refl _)
  have e1 : x1 c - x1 a = (spanD d a c).1 := e1
  have e2 : x2 c - x2 a = (spanD d a c).2 := e2
  have e3 : x3 b - x3 a = (spanD d a b).1 := e3
  have e4 : x4 b - x4 a = (spanD d a b).2 := e4
  have := A x1 h1; have := A x2 h2; have := B x1 h1; have := B x2 h2; have := B x3 h3; have := B x4 h4; have := C x3 h3; have := C x4 h4
  refine ⟨by omega, by omega, by omega, by omega⟩

def portsL (l : List Cl) : List Cl := l.filter fun c => decide (c.kind = 0)
def portsT (t : Td) : Td := ⟨t.n, t.most, List.replicate t.strays.length (0, 0), portsL t.calls⟩
theorem ports_ok {t : Td} (hd : validT t = true) : validT (portsT t) = true := by
  simp only [validT, Bool.and_eq_true, decide_eq_true_eq, List.all_eq_true] at hd ⊢
  obtain ⟨h1, h2, ⟨h3, h4⟩, h5, h6⟩ := hd
  refine ⟨h1, h2, ⟨by simpa [portsT] using h3, ?_⟩, ?_, ?_⟩
  · intro s hs
    have : s = (0, 0) := (List.mem_replicate.1 hs).2
    subst this; rfl
  · exact Nat.le_trans (List.length_filter_le _ _) h5
  · intro c hc
    exact h6 c (List.mem_filter.1 hc).1
theorem ports_stray (t : Td) (k : Nat) : strayP (portsT t) k = (0, 0) := by
  unfold strayP
  split
  · simp only [portsT, List.getD_eq_getElem?_getD, List.getElem?_replicate]
    split <;> rfl
  · rfl
theorem ports_same {t : Td} (hd : validT t = true) {x : Nat → Int} (hx : Tr (portsT t) (allN (portsT t)) x) (k : Nat) (hk : (k : Int) ≤ t.n) : x (6 + k) = x k := by
  have := ((tr_iff (validT_X (ports_ok hd))).1 hx).1.stray k hk
  rw [ports_stray] at this
  dsimp only at this
  omega
/-- A truth may be put together of single numbers. -/
theorem ports_make {t : Td} (hd : validT t = true) {N : Nat} (hN : t.n = N) {d : M} (hl : lookF (portsT t) (allN (portsT t)) = some d) (c : Nat → Int) (hc : ∀ k, k < N → (spanD d k (k + 1)).1 ≤ c k ∧ c k ≤ (spanD d k (k + 1)).2) :
    ∃ x, Tr (portsT t) (allN (portsT t)) x ∧ x N - x 0 = sumP c N := by
  have hv := validT_X (ports_ok hd)
  have h5 := valid_nums hd
  have hex : ∀ k, k < N → ∃ x, Tr (portsT t) (allN (portsT t)) x ∧ x (k + 1) - x k = c k := fun k hk => (span_is hv hl (f := k) (g := k + 1) (by omega) (by omega)).ex _ (hc k hk).1 (hc k hk).2
  have hb : ∀ k, k < N → 0 ≤ c k ∧ c k ≤ t.most := fun k hk => by
    obtain ⟨x, hx, e⟩ := hex k hk
    have : 0 ≤ x (k + 1) - x k ∧ x (k + 1) - x k ≤ t.most := ((tr_iff hv).1 hx).1.port k (by show (k : Int) < t.n; omega)
    omega
  obtain ⟨y, hy⟩ : ∃ y : Nat → Int, y = fun i => sumP c (min (i % 6) N) := ⟨_, rfl⟩
  have y0 : ∀ k, k ≤ N → y k = sumP c k := fun k hk => by rw [hy]; dsimp only; rw [Nat.mod_eq_of_lt (by omega), Nat.min_eq_left hk]
  have y6 : ∀ k, k ≤ N → y (6 + k) = sumP c k := fun k hk => by rw [hy]; dsimp only; rw [Nat.add_mod_left, Nat.mod_eq_of_lt (by omega), Nat.min_eq_left hk]
  have yb : ∀ i, 0 ≤ y i ∧ y i ≤ 300 := fun i => by
    rw [hy]
    have h1 := sumP_ge (f := c) (min (i % 6) N) fun k hk => (hb k (by omega)).1
    have h2 := sumP_bound (f := c) (m := 60) (min (i % 6) N) fun k hk => by have := hb k (by omega); omega
    dsimp only
    constructor
    · exact h1
    · omega
  refine ⟨y, (tr_iff hv).2 ⟨⟨?_, ?_, ?_, ?_⟩, ?_⟩, by rw [y0 N (Nat.le_refl _), y0 0 (Nat.zero_le _)]; simp [sumP]⟩
  · intro i j hi hj
    have := yb i; have := yb j
    unfold unkM
    split
    · rename_i h; subst h; omega
    · omega
  · intro k hk
    have hk : (k : Int) ≤ t.n := hk
    rw [ports_stray, y0 k (by omega), y6 k (by omega)]
    simp
  · intro k hk
    have hk : (k : Int) < t.n := hk
    rw [y0 k (by omega), y0 (k + 1) (by omega)]
    have : c k ≤ (portsT t).most := (hb k (by omega)).2
    have := (hb k (by omega)).1
    simp only [sumP]
    omega
  · intro k hk
    have hk : (k : Int) < t.n := hk
    rw [show 6 + k + 1 = 6 + (k + 1) by omega, y6 k (by omega), y6 (k + 1) (by omega)]
    have := hb k (by omega)
    simp only [sumP]
    omega
  · intro i cl hi hbit
    have hmem := List.mem_of_getElem? hi
    have hk0 : cl.kind = 0 := by simpa using (List.mem_filter.1 hmem).2
    have hok := valid_call hv hmem
    have hpos : 0 ≤ cl.pos ∧ cl.pos < t.n := by
      unfold callOk at hok
      rw [hk0] at hok
      have hok : (inB' cl.pos 0 (t.n - 1) && spB cl.lo cl.hi 0 300) = true := hok
      simp only [inB', Bool.and_eq_true, decide_eq_true_eq] at hok
      omega
    obtain ⟨x, hx, e⟩ := hex cl.pos.toNat (by omega)
    have h1 := ((tr_iff hv).1 hx).2 i cl hi hbit
    unfold callP at h1 ⊢
    rw [if_pos hk0] at h1 ⊢
    have h1 : cl.lo ≤ x (cl.pos.toNat + 1) - x cl.pos.toNat ∧ x (cl.pos.toNat + 1) - x cl.pos.toNat ≤ cl.hi := h1
    show cl.lo ≤ y (cl.pos.toNat + 1) - y cl.pos.toNat ∧ y (cl.pos.toNat + 1) - y cl.pos.toNat ≤ cl.hi
    rw [y0 (cl.pos.toNat + 1) (by omega), y0 cl.pos.toNat (by omega)]
    simp only [sumP]
    omega
theorem ports_sum {t : Td} (hd : validT t = true) {N : Nat} (hN : t.n = N) {d : M} (hl : lookF (portsT t) (allN (portsT t)) = some d) :
    spanD d 0 N = (sumP (fun k => (spanD d k (k + 1)).1) N, sumP (fun k => (spanD d k (k + 1)).2) N) := by
  have hv := validT_X (ports_ok hd)
  have h5 := valid_nums hd
  have hp := part_sum (ports_ok hd) hl (lo := 0) (m := N) (by show ((0 : Nat) : Int) + N ≤ t.n; omega)
  simp only [Nat.zero_add] at hp
  have sk : ∀ k, k < N → (spanD d k (k + 1)).1 ≤ (spanD d k (k + 1)).2 := fun k hk => (span_is hv hl (f := k) (g := k + 1) (by omega) (by omega)).le
  have s0 := span_is hv hl (f := 0) (g := N) (by omega) (by omega)
  obtain ⟨x1, h1, e1⟩ := ports_make hd hN hl (fun k => (spanD d k (k + 1)).1) fun k hk => ⟨Int.le_refl _, sk k hk⟩
  obtain ⟨x2, h2, e2⟩ := ports_make hd hN hl (fun k => (spanD d k (k + 1)).2) fun k hk => ⟨sk k hk, Int.le_refl _⟩
  have q1 : (spanD d 0 N).1 ≤ x1 N - x1 0 ∧ x1 N - x1 0 ≤ (spanD d 0 N).2 := s0.of x1 h1
  have q2 : (spanD d 0 N).1 ≤ x2 N - x2 0 ∧ x2 N - x2 0 ≤ (spanD d 0 N).2 := s0.of x2 h2
  apply Prod.ext <;> dsimp only <;> omega
theorem ports_pen {t : Td} (hd : validT t = true) {N : Nat} (hN : t.n = N) {d : M} (hl : lookF (portsT t) (allN (portsT t)) = some d) {i : Nat} (hi : i < N) : spanD d (6 + i) (6 + (i + 1)) = spanD d i (i + 1) := by
  have hv := validT_X (ports_ok hd)
  have h5 := valid_nums hd
  have sa := span_is hv hl (f := 6 + i) (g := 6 + (i + 1)) (by omega) (by omega)
  have sb := span_is hv hl (f := i) (g := i + 1) (by omega) (by omega)
  have same : ∀ x, Tr (portsT t) (allN (portsT t)) x → x (6 + (i + 1)) - x (6 + i) = x (i + 1) - x i := fun x hx => by rw [ports_same hd hx i (by omega), ports_same hd hx (i + 1) (by omega)]
  refine span_unique (t := portsT t) (set := allN (portsT t)) (m := fun x => x (i + 1) - x i) ⟨fun x hx => ?_, fun w h1 h2 => ?_, sa.le⟩ sb
  · have := sa.of x hx
    rw [← same x hx]; exact this
  · obtain ⟨x, hx, e⟩ := sa.ex w h1 h2
    exact ⟨x, hx, by rw [← same x hx]; exact e⟩
end Go.Ag
/- Layer 5: a tally of one's own. -/
namespace Go.Ag
open Go.Proofs
set_option maxRecDepth 100000

theorem U22 : Try.prog.underlying 22 = some (.slice 36) := by kernel_rfl
theorem S36 : slicePart Try.prog 36 = some 2 := by kernel_rfl
theorem zc36 : zeroCells Try.prog 36 = some [AV.lit (.int .i64 0), AV.lit (.int .i64 0)] := by kernel_rfl
theorem i36 : ∃ i, Try.prog.info? 36 = some i ∧ i.bytes = 16 := ⟨_, rfl, rfl⟩
def mkZ2 (n : Nat) : List AV := repeatCells [AV.lit (.int .i64 0), AV.lit (.int .i64 0)] (n * 2)
theorem aop_make22 {o : Oper} {x : Operand} {σ : Operand → AV} {rd : Nat → AB} {fr n : Nat} (ho : o.op = .makeSlice 22 x x) (hx : σ x = .c (I n)) (hn : n ≤ 1000) :
    aop Try.prog o σ rd fr = some (.simple { val := .msl fr 2 0 n n, fresh := some (.blk (mkZ2 n)) }) := by
  obtain ⟨i, hi, hb⟩ := i36
  unfold aop
  rw [ho]
  have e : asInt (AV.c (I n)) = some (n : Int) := rfl
  simp only [hx, amakeSlice, U22, hi, S36, zc36, e, hb, Int.toNat_natCast]
  rw [if_pos ⟨by omega, by omega, by have : n * 16 ≤ 1000 * 16 := Nat.mul_le_mul_right _ hn; omega, by unfold limit; omega⟩]
  rfl
def zs (n : Nat) : List CV := (List.replicate n [I 0, I 0]).flatten
theorem zs_rep : ∀ n : Nat, zs n = List.replicate (n * 2) (I 0)
  | 0 => rfl
  | n + 1 => by
    have h := zs_rep n
    unfold zs at h ⊢
    rw [List.replicate_succ, List.flatten_cons, h, show (n + 1) * 2 = n * 2 + 1 + 1 by omega, List.replicate_succ, List.replicate_succ]
    rfl
theorem mkZ2_map (n : Nat) : mkZ2 n = (zs n).map .c := by
  rw [zs_rep, List.map_replicate]
  unfold mkZ2 repeatCells
  rw [List.eq_replicate_iff]
  refine ⟨by simp, fun b hb => ?_⟩
  obtain ⟨i, _, rfl⟩ := List.mem_map.1 hb
  have h2 : i % 2 = 0 ∨ i % 2 = 1 := by omega
  have e : ([AV.lit (.int .i64 0), AV.lit (.int .i64 0)] : List AV).length = 2 := rfl
  rw [e]
  rcases h2 with h | h <;> rw [h] <;> rfl
/-- The tally with no strays and these calls. -/
def prV (v : TV) (m : Nat) (L : List Cl) : TV := ⟨v.n, v.most, zs m, 0, m, (L.map rowCl).flatten, 0, L.length⟩
theorem prV_is {v : TV} {t : Td} (hv : v.Is t) {L : List Cl} (hl : L.length ≤ 1000) : (prV v t.strays.length L).Is ⟨t.n, t.most, List.replicate t.strays.length (0, 0), L⟩ := by
  refine ⟨hv.n, hv.most, ⟨by simp [prV], fun i r hr => ?_⟩, ⟨by simp [prV], fun i r hr => flat_sl _ (rowCl_len L) i r hr⟩, by simpa using hv.short.1, hl⟩
  have e : (List.replicate t.strays.length ((0 : Int), (0 : Int))).map rowSp = List.replicate t.strays.length [I 0, I 0] := by simp [rowSp]
  rw [e] at hr
  exact flat_sl _ (fun r hr => by rw [(List.mem_replicate.1 hr).2]; rfl) i r hr
def prAV (v : TV) (X m : Nat) (out : AV) : AV := mkAgg [.c (I v.n), .c (I v.most), .msl (X + 1) 2 0 m m, out]
theorem allCmap : ∀ cs : List CV, allC (cs.map .c) = some cs
  | [] => rfl
  | c :: cs => by
    simp only [List.map_cons, allC, allCmap cs, Option.map_some]
theorem snapsCons {H : Nat → AB} {n : Nat} {v : AV} {l : List AV} {a : CV} {b : List CV} {i j : List Nat} (h1 : snap H n v = some (a, i)) (h2 : snaps H n l = some (b, j)) : snaps H (n + 1) (v :: l) = some (a :: b, i ++ j) := by
  simp only [snaps, h1, h2, Option.bind_some, Option.map_some]
theorem snap_prN {H : Nat → AB} {X : Nat} {cs : List CV} (hb : H (X + 1) = .blk (cs.map .c)) (a0 a1 a3 : CV) (m n : Nat) (hm : cs.length + 20 ≤ m) :
    snap H m (.agg [.c a0, .c a1, .msl (X + 1) 2 0 n n, .c a3]) = some (.agg [a0, a1, .sl cs 0 n, a3], [X + 1]) := by
  obtain ⟨m, rfl⟩ : ∃ k, m = k + 20 := ⟨m - 20, by omega⟩
  simp only [snap, snaps, Option.bind_some, Option.map_some, hb]
  rw [snaps_map_c H cs _ (by omega)]
  rfl
theorem snap_prS {H : Nat → AB} {X o : Nat} {cs ds : List CV} (hb : H (X + 1) = .blk (cs.map .c)) (hd : H o = .blk (ds.map .c)) (a0 a1 : CV) (m n k : Nat) (hm : cs.length + ds.length + 20 ≤ m) :
    snap H m (.agg [.c a0, .c a1, .msl (X + 1) 2 0 n n, .msl o 4 0 k k]) = some (.agg [a0, a1, .sl cs 0 n, .sl ds 0 k], [X + 1, o]) := by
  obtain ⟨m, rfl⟩ : ∃ k, m = k + 20 := ⟨m - 20, by omega⟩
  simp only [snap, snaps, Option.bind_some, Option.map_some, hb, hd]
  rw [snaps_map_c H cs _ (by omega), snaps_map_c H ds _ (by omega)]
  rfl
theorem callP5 {v : TV} {out : AV} {h : Heap} {X m : Nat} {L : List Cl} (hz : Heap.at h (X + 1) = .blk ((zs m).map .c)) (R : RowsL 4 h out (L.map rowCl)) {f : FuncId} {cs : List CV} {r : CV} (hr : Ret Try.prog f ((prV v m L).cv :: cs) r) (hp : r.plain = true) {K : AEnd → Heap → Prop} (k : K (.ret (.c r)) h) :
    CallW Try.prog f (prAV v X m out :: cs.map .c) h K := by
  rcases R with ⟨rfl, hn⟩ | ⟨o, rfl, hb, _, _⟩
  · have : L = [] := by simpa using hn
    subst this
    have hr' : Ret Try.prog f (.agg [I v.n, I v.most, .sl (zs m) 0 m, nilC] :: cs) r :=
      hr.args ⟨.agg ⟨.refl _, .refl _, .refl _, .nil _ _, trivial⟩, Les.refl _⟩
    have hkl : killed r ([X + 1] ++ []) = [] := by unfold killed; rw [if_pos hp]
    exact .snapped ((zs m).length + cs.length + 20 + 1) _ _ _ r (snapsCons (snap_prN hz _ _ _ _ _ (by omega)) (snaps_map_c _ cs _ (by omega))) hr' rfl (by rw [hkl]; exact k)
  · have hkl : killed r ([X + 1, o] ++ []) = [] := by unfold killed; rw [if_pos hp]
    refine .snapped ((zs m).length + (L.map rowCl).flatten.length + cs.length + 20 + 1) _ _ _ r (snapsCons (snap_prS hz hb _ _ _ _ _ (by omega)) (snaps_map_c _ cs _ (by omega))) ?_ rfl (by rw [hkl]; exact k)
    rw [List.length_map]
    exact hr

/-- What the law has at hand. -/
structure XH (v : TV) (m X : Nat) (L : List Cl) (out : AV) (p q : Int) (h : Heap) : Prop where
  b0 : Heap.at h 0 = v.blk
  b2 : Heap.at h 2 = .blk [.c (I p), .c (I q)]
  bx : Heap.at h X = .blk [.c (I v.n), .c (I v.most), .msl (X + 1) 2 0 m m, out]
  bz : Heap.at h (X + 1) = .blk ((zs m).map .c)
  hX : 3 ≤ X
  hn : X + 2 ≤ h.n
  R : RowsL 4 h out (L.map rowCl)
  ho : ∀ o, outId out = some o → X + 2 ≤ o
theorem XH.up {v : TV} {m X : Nat} {L : List Cl} {out : AV} {p q : Int} {h h' : Heap} (e : XH v m X L out p q h) (f : Foot none' h h') : XH v m X L out p q h' := by
  have := e.hX; have := e.hn
  exact ⟨(f.keep _ (by omega) (fun x => x)).trans e.b0, (f.keep _ (by omega) (fun x => x)).trans e.b2, (f.keep _ (by omega) (fun x => x)).trans e.bx, (f.keep _ (by omega) (fun x => x)).trans e.bz, e.hX, Nat.le_trans e.hn f.n, e.R.ext f.n (fun i hi _ => f.keep i hi (fun x => x)), e.ho⟩
theorem footNew (h : Heap) (x y : AB) : Foot none' h ((h.push .dead x).set .dead h.n y) := Foot.set ((Foot.refl _ _).push _) (.inr (Nat.le_refl _)) _
theorem XH.new {v : TV} {m X : Nat} {L : List Cl} {out : AV} {p q : Int} {h : Heap} (e : XH v m X L out p q h) (x y : AB) : XH v m X L out p q ((h.push .dead x).set .dead h.n y) := e.up (footNew h x y)
theorem XH.two {v : TV} {m X : Nat} {L : List Cl} {out : AV} {p q : Int} {h : Heap} (e : XH v m X L out p q h) (p' q' : Int) : XH v m X L out p' q' (h.set .dead 2 (.blk [.c (I p'), .c (I q')])) := by
  have hX := e.hX; have := e.hn
  exact ⟨(at_set_ne _ _ (by decide)).trans e.b0, at_set_self _ _ (by omega), (at_set_ne _ _ (by omega)).trans e.bx, (at_set_ne _ _ (by omega)).trans e.bz, e.hX, by rw [TMap.set_n]; exact e.hn, e.R.set (k := 2) (fun h2 => by have := e.ho 2 h2; omega) _, e.ho⟩
end Go.Ag
/- Layer 5: the law TallySums. -/
namespace Go.Ag
open Go.Proofs
set_option maxRecDepth 100000

theorem span_300 {t : Td} (hd : validT t = true) {d : M} (hl : lookF t (allN t) = some d) {f g : Nat} (hf : f ≤ g) (hg : (g : Int) ≤ t.n) : 0 ≤ (spanD d f g).1 ∧ (spanD d f g).1 ≤ (spanD d f g).2 ∧ (spanD d f g).2 ≤ 300 := by
  have h5 := valid_nums hd
  have s := span_is (validT_X hd) hl (f := f) (g := g) (by omega) (by omega)
  obtain ⟨x, hx, ex⟩ := s.ex _ (Int.le_refl _) s.le
  obtain ⟨y, hy, ey⟩ := s.ex _ s.le (Int.le_refl _)
  have ex : x g - x f = (spanD d f g).1 := ex
  have ey : y g - y f = (spanD d f g).2 := ey
  have h1 := shorn_chain hd hx hf hg
  have h2 := hy.sat f g (by omega) (by omega)
  have h3 : unkM f g ≤ 300 := by unfold unkM; split <;> omega
  have := s.le
  omega
theorem bool_eql {o : Oper} {x y : Operand} {t2 : TypeId} {σ : Operand → AV} {a b : Bool} (ho : o.op = .binOp .eql 4 x y t2) (hx : σ x = .c (B a)) (hy : σ y = .c (B b)) (rd : Nat → AB) (n : Nat) :
    aop Try.prog o σ rd n = some (.simple { val := .c (B (a == b)) }) := by
  have vx : (σ x).toVal = some (.bool a) := by rw [hx]; rfl
  have vy : (σ y).toVal = some (.bool b) := by rw [hy]; rfl
  unfold aop
  rw [ho]
  simp only [abinOp, vx, vy, litBin]
  unfold pureOp
  have hv : (allVals σ o.op.operands.toList && notSelect o.op) = true := by
    rw [ho]; simp [Op.operands, allVals, vx, vy, notSelect]
  rw [if_pos hv]
  have hr : pureRun Try.prog (execOp (fun x => ((σ x).toVal).getD Go.undef) o) = some (.value (.bool (a == b))) := by
    unfold execOp
    rw [ho]
    simp only [vx, vy, Option.getD_some, eqGuard, binOp, pureRun_bind, pureRun_ite]
    simp [eq_bool, pureRun_pure, bne]
  rw [hr]
  rfl
theorem ports_facts {t : Td} (hd : validT t = true) {N : Nat} (hN : t.n = N) : ∃ (er : Int) (sp : Nat → Int × Int) (w : Int × Int), (er = 0 ∨ er = 10) ∧ (∀ i, i < N → spanR (portsT t) true i (i + 1) = (sp i, er) ∧ spanR (portsT t) true (6 + i) (6 + (i + 1)) = (sp i, er)) ∧
    spanR (portsT t) true 0 N = (w, er) ∧ (er = 0 → w = (sumP (fun k => (sp k).1) N, sumP (fun k => (sp k).2) N)) ∧ (∀ i, i < N → 0 ≤ (sp i).1 ∧ (sp i).1 ≤ 60 ∧ 0 ≤ (sp i).2 ∧ (sp i).2 ≤ 60) := by
  have h5 := valid_nums hd
  have hd' := ports_ok hd
  cases hl : lookF (portsT t) (allN (portsT t)) with
  | none =>
    have c2 : ∀ f g, spanR (portsT t) true f g = ((0, 0), 10) := fun f g => by unfold spanR; rw [hd', hl]; rfl
    exact ⟨10, fun _ => (0, 0), (0, 0), .inr rfl, fun i _ => ⟨c2 _ _, c2 _ _⟩, c2 _ _, fun h => absurd h (by decide), fun i _ => by simp⟩
  | some d =>
    have c2 : ∀ f g, spanR (portsT t) true f g = (spanD d f g, 0) := fun f g => by unfold spanR; rw [hd', hl]; rfl
    refine ⟨0, fun k => spanD d k (k + 1), spanD d 0 N, .inl rfl, fun i hi => ⟨c2 _ _, ?_⟩, c2 _ _, fun _ => ports_sum hd hN hl, fun i hi => ?_⟩
    · rw [c2, ports_pen hd hN hl hi]
    · have hE := ends_is hd' hl (N := N) hN hi
      have := hE.a1; have := hE.a2
      have a3 : (spanD d i (i + 1)).2 ≤ t.most := hE.a3
      dsimp only
      omega
theorem quo_to {P : Program} {o : Oper} {x y : Operand} {t t2 : TypeId} {σ : Operand → AV} {a b : Int} (z : Int) (ho : o.op = .binOp .quo t x y t2) (hx : σ x = .c (.lit (.int .i64 a))) (hy : σ y = .c (.lit (.int .i64 b))) (hb : b ≠ 0) (hz : IntKind.i64.wrap (a.tdiv b) = z) (rd : Nat → AB) (n : Nat) :
    aop P o σ rd n = some (.simple { val := .c (I z) }) := by
  rw [← hz]
  unfold aop
  rw [ho]
  simp only [abinOp, hx, hy, AV.toVal, CV.toVal, litBin, if_neg hb]
  rfl
theorem half (w : Int) (h0 : 0 ≤ w) (h1 : w ≤ 100) : IntKind.i64.wrap (w.tdiv 2) = w / 2 := by
  rw [Int.tdiv_eq_ediv_of_nonneg h0, wrap_eq (by omega) (by omega)]
set_option maxHeartbeats 16000000 in
theorem sumsLaw_ret {v : TV} {t : Td} (h : v.IsS t) (hA : Ret Try.prog 12 [] (B true)) (w1 w2 : Nat) (hw1 : w1 < 256) (hw2 : w2 < 256) : Ret Try.prog 7 [v.cv, .lit (.int .u8 w1), .lit (.int .u8 w2)] (B true) := by
  have hv := h.toIs
  have e1 := hv.n; have e2 := hv.most; have e3 := hv.cn
  refine ret_then (hm := true) Try.func7 rfl ?_
  conv => whnf
  repeat (refine then_seq (hm := true) ?_; conv => whnf)
  refine .ret h.far rfl ?_
  conv => whnf
  refine .ret (tallyR_ret hv) rfl ?_
  conv => whnf
  cases hd : validT t
  · conv => whnf
    refine .ret hA rfl ?_
    conv => whnf
    exact .val
  have h5 := valid_nums hd
  obtain ⟨N, hN⟩ : ∃ N : Nat, t.n = N := ⟨t.n.toNat, by omega⟩
  have e1 : v.n = (N : Int) := e1.trans hN
  obtain ⟨i, hi⟩ : ∃ i, i = w1 % N := ⟨_, rfl⟩
  obtain ⟨j, hj⟩ : ∃ j, j = w2 % N := ⟨_, rfl⟩
  have hiN : i < N := by rw [hi]; exact Nat.mod_lt _ (by omega)
  have hjN : j < N := by rw [hj]; exact Nat.mod_lt _ (by omega)
  conv => whnf
  repeat (refine then_seq (hm := true) ?_; conv => whnf)
  refine draw_by (hm := true) (by kernel_rfl) (by kernel_rfl) ?_
  conv => whnf
  refine dplain_val (rem_to ((i : Nat) : Int) rfl rfl rfl (by omega) (by rw [e1, rem_nat hw1, hi]) _ _) ?_
  conv => whnf
  refine dplain_val (rem_to ((j : Nat) : Int) rfl rfl rfl (by omega) (by rw [e1, rem_nat hw2, hj]) _ _) ?_
  conv => whnf
  refine ⟨by kernel_rfl, ?_⟩
  conv => whnf
  repeat (refine then_seq (hm := true) ?_; conv => whnf)
  obtain ⟨A, hA'⟩ : ∃ A, A = min i j := ⟨_, rfl⟩
  obtain ⟨C, hC'⟩ : ∃ C, C = max i j := ⟨_, rfl⟩
  rw [show min (i : Int) (j : Int) = (A : Int) by omega, show max (i : Int) (j : Int) = (C : Int) by omega]
  have hAC : A ≤ C := by omega
  have hCN : C < N := by omega
  have hok : ∀ k : Nat, k < N → inB' (k : Int) 0 (t.n - 1) = true := fun k hk => by simp [inB']; omega
  have hto : ∀ a b : Nat, a ≤ b → b < N → Ret Try.prog 25 [v.cv, I a, I b] (spRV (spanR t true a (b + 1))) := fun a b h1 h2 => by
    have := together_ret hv (a : Int) (b : Int)
    rw [hok a (by omega), hok b h2, show decide ((a : Int) > (b : Int)) = false by simp; omega] at this
    exact this
  have hsh : ∀ a : Nat, a < N → Ret Try.prog 22 [v.cv, I a] (spRV (spanR t true a (a + 1))) := fun a h1 => by
    have := shorn_ret hv (a : Int)
    rw [hok a h1] at this
    exact this
  cases hl : lookF t (allN t) with
  | none =>
    have c2 : ∀ f g, spanR t true f g = ((0, 0), 10) := fun f g => by unfold spanR; rw [hd, hl]; rfl
    have hto := hto A C hAC hCN
    rw [c2] at hto
    dsimp only [spRV, spV] at hto
    refine .ret hto rfl ?_
    conv => whnf
    repeat (refine then_seq (hm := true) ?_; conv => whnf)
    refine ⟨_, span_eql rfl rfl rfl _ _, ?_⟩
    conv => whnf
    refine .ret hA rfl ?_
    conv => whnf
    exact .val
  | some d =>
    have c2 : ∀ f g, spanR t true f g = (spanD d f g, 0) := fun f g => by unfold spanR; rw [hd, hl]; rfl
    simp only [c2] at hto hsh
    dsimp only [spRV, spV] at hto hsh
    have hto0 := hto A C hAC hCN
    obtain ⟨⟨a1, a2⟩, hS⟩ : ∃ p, p = spanD d A (C + 1) := ⟨_, rfl⟩
    rw [← hS] at hto0
    refine .ret hto0 rfl ?_
    conv => whnf
    repeat (refine then_seq (hm := true) ?_; conv => whnf)
    refine .ret (mkspan_ret _ _) rfl ?_
    conv => whnf
    conv => whnf
    have hb : ∀ k, k < N → 0 ≤ (spanD d k (k + 1)).1 ∧ (spanD d k (k + 1)).1 ≤ (spanD d k (k + 1)).2 ∧ (spanD d k (k + 1)).2 ≤ 60 := fun k hk => by
      have hE := ends_is hd hl hN hk
      have := hE.a1; have := hE.a2; have := hE.a3
      omega
    obtain ⟨L, hL⟩ : ∃ L : Nat → Int, L = fun k => (spanD d (A + k) (A + k + 1)).1 := ⟨_, rfl⟩
    obtain ⟨U, hU⟩ : ∃ U : Nat → Int, U = fun k => (spanD d (A + k) (A + k + 1)).2 := ⟨_, rfl⟩
    have hLb : ∀ k, A + k ≤ C → 0 ≤ L k ∧ L k ≤ 60 := fun k hk => by
      have := hb (A + k) (by omega)
      rw [hL]; dsimp only; omega
    have hUb : ∀ k, A + k ≤ C → 0 ≤ U k ∧ U k ≤ 60 := fun k hk => by
      have := hb (A + k) (by omega)
      rw [hU]; dsimp only; omega
    have sL : ∀ m, A + m ≤ C + 1 → 0 ≤ sumP L m ∧ sumP L m ≤ 300 := fun m hm => by
      have := sumP_ge (f := L) m fun k hk => (hLb k (by omega)).1
      have := sumP_bound (f := L) (m := 60) m fun k hk => (hLb k (by omega)).2
      omega
    have sU : ∀ m, A + m ≤ C + 1 → 0 ≤ sumP U m ∧ sumP U m ≤ 300 := fun m hm => by
      have := sumP_ge (f := U) m fun k hk => (hUb k (by omega)).1
      have := sumP_bound (f := U) (m := 60) m fun k hk => (hUb k (by omega)).2
      omega
    refine then_via (hm := true) (fun st => ∃ (h : Heap), Heap.at h 0 = v.blk ∧ Heap.at h 1 = .blk [.c (I a1), .c (I a2)] ∧ Heap.at h 2 = .blk [.c (I (sumP L (C + 1 - A))), .c (I (sumP U (C + 1 - A)))] ∧ 3 ≤ h.n ∧
      Has st 288 [(3, .ptr 0 0), (6, .c (B false)), (7, .c (I A)), (8, .c (I C)), (9, .ptr 1 0), (11, .ptr 2 0)] [] none h) ?_ ?_
    · conv => whnf
      refine loop_by (I := fun n st => ∃ (m : Nat) (h : Heap), A + m ≤ C + 1 ∧ n = C + 1 - A - m ∧ Heap.at h 0 = v.blk ∧ Heap.at h 1 = .blk [.c (I a1), .c (I a2)] ∧ Heap.at h 2 = .blk [.c (I (sumP L m)), .c (I (sumP U m))] ∧ 3 ≤ h.n ∧
        Has st 288 [(3, .ptr 0 0), (6, .c (B false)), (7, .c (I A)), (8, .c (I C)), (9, .ptr 1 0), (11, .ptr 2 0), (12, .c (I (A + m : Nat)))] [] none h) ?_ (k := C + 1 - A)
        ⟨0, _, by omega, rfl, rfl, rfl, rfl, Nat.le_refl 3, rfl, ⟨rfl, rfl, rfl, rfl, rfl, rfl, rfl, trivial⟩, rfl, rfl, rfl, rfl⟩
      rintro n st ⟨m, h, hm, rfl, h0, h1, h2, hn, hs1⟩
      refine hs1.run (hm := false) ?_
      conv => whnf
      cases hc : decide (((A + m : Nat) : Int) ≤ (C : Int))
      case true =>
        have hm1 : A + m ≤ C := by simp at hc; omega
        have hx := hsh (A + m) (by omega)
        obtain ⟨⟨p1, p2⟩, hp⟩ : ∃ p, p = spanD d (A + m) (A + m + 1) := ⟨_, rfl⟩
        rw [← hp] at hx
        have hp1 : L m = p1 := by rw [hL]; dsimp only; rw [← hp]
        have hp2 : U m = p2 := by rw [hU]; dsimp only; rw [← hp]
        have b1 := sL m hm; have b2 := sU m hm
        have b3 := sL (m + 1) (by omega); have b4 := sU (m + 1) (by omega)
        simp only [sumP] at b3 b4
        rw [hp1] at b3
        rw [hp2] at b4
        conv => whnf
        refine ⟨_, h0, ?_⟩
        conv => whnf
        refine .ret hx rfl ?_
        conv => whnf
        refine ⟨_, at_push_self _ _, ?_⟩
        conv => whnf
        generalize hG : TMap.set AB.dead (TMap.push AB.dead h _) _ _ = G
        have G0 : Heap.at G 0 = v.blk := by rw [← hG]; exact (at_set_ne _ _ (by omega)).trans ((at_push_lt _ _ (by omega)).trans h0)
        have G1 : Heap.at G 1 = .blk [.c (I a1), .c (I a2)] := by rw [← hG]; exact (at_set_ne _ _ (by omega)).trans ((at_push_lt _ _ (by omega)).trans h1)
        have G2 : Heap.at G 2 = .blk [.c (I (sumP L m)), .c (I (sumP U m))] := by rw [← hG]; exact (at_set_ne _ _ (by omega)).trans ((at_push_lt _ _ (by omega)).trans h2)
        have Gr : Heap.at G h.n = .blk [.c (I p1), .c (I p2)] := by rw [← hG]; exact at_set_self _ _ (by rw [push_n]; omega)
        have Gn : 3 ≤ G.n := by rw [← hG, TMap.set_n, push_n]; omega
        clear hG
        refine ⟨_, G2, ?_⟩
        conv => whnf
        refine ⟨_, Gr, ?_⟩
        conv => whnf
        refine ⟨sumP L (m + 1), by simp only [sumP]; rw [hp1, wrap_eq (by omega) (by omega)], ?_⟩
        conv => whnf
        refine ⟨_, G2, ?_⟩
        conv => whnf
        refine ⟨_, Gr, ?_⟩
        conv => whnf
        refine ⟨sumP U (m + 1), by simp only [sumP]; rw [hp2, wrap_eq (by omega) (by omega)], ?_⟩
        conv => whnf
        refine .ret (mkspan_ret _ _) rfl ?_
        conv => whnf
        refine ⟨_, G2, ?_⟩
        conv => whnf
        refine ⟨((A + (m + 1) : Nat) : Int), by rw [wrap_eq (by omega) (by omega)]; omega, ?_⟩
        conv => whnf
        exact ⟨C + 1 - A - (m + 1), by omega, m + 1, _, by omega, rfl, (at_set_ne _ _ (by omega)).trans G0, (at_set_ne _ _ (by omega)).trans G1, at_set_self _ _ (by omega), by rw [TMap.set_n]; exact Gn, rfl, ⟨rfl, rfl, rfl, rfl, rfl, rfl, rfl, trivial⟩, rfl, rfl, rfl, rfl⟩
      case false =>
        have hmE : C + 1 - A = m := by simp at hc; omega
        conv => whnf
        rw [hmE]
        exact ⟨_, h0, h1, h2, hn, rfl, ⟨rfl, rfl, rfl, rfl, rfl, rfl, trivial⟩, rfl, rfl, rfl, rfl⟩
    rintro st ⟨h, h0, h1, h2, hn, hs1⟩
    refine hs1.then ?_
    conv => whnf
    have hps := part_sum hd hl (lo := A) (m := C + 1 - A) (by omega)
    rw [show A + (C + 1 - A) = C + 1 by omega, ← hS] at hps
    have hwle : a1 ≤ a2 := by
      have := (span_is (validT_X hd) hl (f := A) (g := C + 1) (by omega) (by omega)).le
      rw [← hS] at this
      exact this
    have q1 : sumP L (C + 1 - A) ≤ a1 := by rw [hL]; exact hps.1
    have q2 : a2 ≤ sumP U (C + 1 - A) := by rw [hU]; exact hps.2
    repeat (refine then_seq (hm := false) ?_; conv => whnf)
    refine ⟨_, h1, ?_⟩
    conv => whnf
    refine ⟨_, h2, ?_⟩
    conv => whnf
    rw [show decide (a1 < sumP L (C + 1 - A)) = false by simp; omega]
    conv => whnf
    refine ⟨_, h1, ?_⟩
    conv => whnf
    refine ⟨_, h2, ?_⟩
    conv => whnf
    rw [show decide (a2 > sumP U (C + 1 - A)) = false by simp; omega]
    conv => whnf
    refine ⟨_, h1, ?_⟩
    conv => whnf
    refine ⟨_, h1, ?_⟩
    conv => whnf
    rw [show decide (a1 > a2) = false by simp; omega]
    conv => whnf
    refine then_via (hm := false) (fun st => ∃ (h : Heap) (p q : Int), Heap.at h 0 = v.blk ∧ Heap.at h 2 = .blk [.c (I p), .c (I q)] ∧ 3 ≤ h.n ∧
      Has st 288 [(3, .ptr 0 0), (6, .c (B false)), (11, .ptr 2 0)] [] none h) ?_ ?_
    · conv => whnf
      cases hlt : decide ((A : Int) < (C : Int))
      · conv => whnf
        exact ⟨_, _, _, h0, h2, hn, rfl, ⟨rfl, rfl, rfl, trivial⟩, rfl, rfl, rfl, rfl⟩
      have hlt' : A < C := by simp at hlt; omega
      obtain ⟨m, hm⟩ : ∃ m, m = (C - A) / 2 := ⟨_, rfl⟩
      have hto1 := hto A (A + m) (by omega) (by omega)
      have hto2 := hto (A + m + 1) C (by omega) (by omega)
      have h2p := two_parts hd hl (a := A) (b := A + m + 1) (c := C + 1) (by omega) (by omega) (by omega)
      rw [← hS] at h2p
      obtain ⟨⟨b1, b2⟩, hB'⟩ : ∃ p, p = spanD d A (A + m + 1) := ⟨_, rfl⟩
      obtain ⟨⟨c1, c2⟩, hC''⟩ : ∃ p, p = spanD d (A + m + 1) (C + 1) := ⟨_, rfl⟩
      rw [← hB'] at hto1 h2p
      rw [← hC''] at hto2 h2p
      dsimp only at hto1 hto2 h2p
      conv => whnf
      refine ⟨(C : Int) - A, by rw [wrap_eq (by omega) (by omega)], ?_⟩
      conv => whnf
      refine ⟨by decide, (m : Int), by first | (rw [half _ (by omega) (by omega)]; omega) | (rw [Int.tdiv_eq_ediv_of_nonneg (by omega)]; omega), ?_⟩
      conv => whnf
      refine ⟨((A + m : Nat) : Int), by rw [wrap_eq (by omega) (by omega)]; omega, ?_⟩
      conv => whnf
      refine ⟨_, h0, ?_⟩
      conv => whnf
      refine .ret hto1 rfl ?_
      conv => whnf
      refine ⟨_, at_push_self _ _, ?_⟩
      conv => whnf
      generalize hG : TMap.set AB.dead (TMap.push AB.dead h _) _ _ = G
      have G0 : Heap.at G 0 = v.blk := by rw [← hG]; exact (at_set_ne _ _ (by omega)).trans ((at_push_lt _ _ (by omega)).trans h0)
      have G1 : Heap.at G 1 = .blk [.c (I a1), .c (I a2)] := by rw [← hG]; exact (at_set_ne _ _ (by omega)).trans ((at_push_lt _ _ (by omega)).trans h1)
      have G2 : Heap.at G 2 = .blk [.c (I (sumP L (C + 1 - A))), .c (I (sumP U (C + 1 - A)))] := by rw [← hG]; exact (at_set_ne _ _ (by omega)).trans ((at_push_lt _ _ (by omega)).trans h2)
      have Gr : Heap.at G h.n = .blk [.c (I b1), .c (I b2)] := by rw [← hG]; exact at_set_self _ _ (by rw [push_n]; omega)
      have Gn : G.n = h.n + 1 := by rw [← hG, TMap.set_n, push_n]
      clear hG
      refine ⟨_, G0, ?_⟩
      conv => whnf
      refine ⟨((A + m + 1 : Nat) : Int), by rw [wrap_eq (by omega) (by omega)]; omega, ?_⟩
      conv => whnf
      refine .ret hto2 rfl ?_
      conv => whnf
      refine ⟨_, at_push_self _ _, ?_⟩
      conv => whnf
      generalize hH : TMap.set AB.dead (TMap.push AB.dead G _) _ _ = H
      have H0 : Heap.at H 0 = v.blk := by rw [← hH]; exact (at_set_ne _ _ (by omega)).trans ((at_push_lt _ _ (by omega)).trans G0)
      have H1 : Heap.at H 1 = .blk [.c (I a1), .c (I a2)] := by rw [← hH]; exact (at_set_ne _ _ (by omega)).trans ((at_push_lt _ _ (by omega)).trans G1)
      have H2 : Heap.at H 2 = .blk [.c (I (sumP L (C + 1 - A))), .c (I (sumP U (C + 1 - A)))] := by rw [← hH]; exact (at_set_ne _ _ (by omega)).trans ((at_push_lt _ _ (by omega)).trans G2)
      have Hr : Heap.at H h.n = .blk [.c (I b1), .c (I b2)] := by rw [← hH]; exact (at_set_ne _ _ (by omega)).trans ((at_push_lt _ _ (by omega)).trans Gr)
      have Hq : Heap.at H G.n = .blk [.c (I c1), .c (I c2)] := by rw [← hH]; exact at_set_self _ _ (by rw [push_n]; omega)
      have Hn : H.n = h.n + 2 := by rw [← hH, TMap.set_n, push_n]; omega
      clear hH
      have hb1 := span_300 hd hl (f := A) (g := A + m + 1) (by omega) (by omega)
      have hb2 := span_300 hd hl (f := A + m + 1) (g := C + 1) (by omega) (by omega)
      rw [← hB'] at hb1
      rw [← hC''] at hb2
      dsimp only at hb1 hb2
      refine ⟨_, H1, ?_⟩
      conv => whnf
      refine ⟨_, Hr, ?_⟩
      conv => whnf
      refine ⟨_, Hq, ?_⟩
      conv => whnf
      refine ⟨b1 + c1, by rw [wrap_eq (by omega) (by omega)], ?_⟩
      conv => whnf
      rw [show decide (a1 < b1 + c1) = false by simp; omega]
      conv => whnf
      refine ⟨_, H1, ?_⟩
      conv => whnf
      refine ⟨_, Hr, ?_⟩
      conv => whnf
      refine ⟨_, Hq, ?_⟩
      conv => whnf
      refine ⟨b2 + c2, by rw [wrap_eq (by omega) (by omega)], ?_⟩
      conv => whnf
      rw [show decide (a2 > b2 + c2) = false by simp; omega]
      conv => whnf
      refine ⟨_, H1, ?_⟩
      conv => whnf
      refine ⟨_, Hr, ?_⟩
      conv => whnf
      refine ⟨_, Hq, ?_⟩
      conv => whnf
      refine ⟨b2 + c1, by rw [wrap_eq (by omega) (by omega)], ?_⟩
      conv => whnf
      rw [show decide (a2 < b2 + c1) = false by simp; omega]
      conv => whnf
      refine ⟨_, H1, ?_⟩
      conv => whnf
      refine ⟨_, Hr, ?_⟩
      conv => whnf
      refine ⟨_, Hq, ?_⟩
      conv => whnf
      refine ⟨b1 + c2, by rw [wrap_eq (by omega) (by omega)], ?_⟩
      conv => whnf
      rw [show decide (a1 > b1 + c2) = false by simp; omega]
      conv => whnf
      exact ⟨_, _, _, H0, H2, by omega, rfl, ⟨rfl, rfl, rfl, trivial⟩, rfl, rfl, rfl, rfl⟩
    rintro st ⟨h, p, q, h0, h2, hn, hs1⟩
    refine hs1.then ?_
    conv => whnf
    repeat (refine then_seq (hm := false) ?_; conv => whnf)
    refine ⟨_, h0, ?_⟩
    conv => whnf
    refine ⟨_, at_push_self _ _, ?_⟩
    conv => whnf
    repeat (refine then_seq (hm := false) ?_; conv => whnf)
    have e4 := hv.sn
    obtain ⟨M, hM⟩ : ∃ M, M = t.strays.length := ⟨_, rfl⟩
    rw [← hM] at e4
    generalize hG : TMap.set AB.dead (TMap.push AB.dead h _) _ _ = G
    have G0 : Heap.at G 0 = v.blk := by rw [← hG]; exact (at_set_ne _ _ (by omega)).trans ((at_push_lt _ _ (by omega)).trans h0)
    have G2 : Heap.at G 2 = .blk [.c (I p), .c (I q)] := by rw [← hG]; exact (at_set_ne _ _ (by omega)).trans ((at_push_lt _ _ (by omega)).trans h2)
    have Gx : Heap.at G h.n = v.blk := by rw [← hG]; exact at_set_self _ _ (by rw [push_n]; omega)
    have Gn : G.n = h.n + 1 := by rw [← hG, TMap.set_n, push_n]
    clear hG
    obtain ⟨X, hX⟩ : ∃ X, X = h.n := ⟨_, rfl⟩
    rw [← hX] at Gx Gn hn
    refine ⟨_, G0, ?_⟩
    conv => whnf
    rw [e4]
    rw [aop_make22 (n := M)]; rotate_left; rfl; rfl; omega
    rw [mkZ2_map]
    obtain ⟨Z, hZ⟩ : ∃ Z, Z = (zs M).map AV.c := ⟨_, rfl⟩
    rw [← hZ]
    conv => whnf
    refine forceL_intro ?_
    conv => whnf
    rw [← hX]
    refine ⟨_, (at_push_lt _ _ (by omega)).trans Gx, ?_⟩
    conv => whnf
    refine ⟨_, at_set_self _ _ (by rw [push_n]; omega), ?_⟩
    conv => whnf
    generalize hK : TMap.set AB.dead (TMap.set AB.dead (TMap.push AB.dead G _) _ _) _ _ = K
    have hXK : XH v M X [] nilA p q K := by
      rw [← hK]
      refine ⟨(at_set_ne _ _ (by omega)).trans ((at_set_ne _ _ (by omega)).trans ((at_push_lt _ _ (by omega)).trans G0)), (at_set_ne _ _ (by omega)).trans ((at_set_ne _ _ (by omega)).trans ((at_push_lt _ _ (by omega)).trans G2)),
        (at_set_self _ _ (by rw [TMap.set_n, push_n]; omega)).trans (by rw [Gn]; rfl), (at_set_ne _ _ (by omega)).trans ((at_set_ne _ _ (by omega)).trans ?_), hn, by rw [TMap.set_n, TMap.set_n, push_n]; omega, .inl ⟨rfl, rfl⟩, by simp [outId]⟩
      rw [← Gn, hZ]
      exact at_push_self _ _
    clear hK
    have kx := hXK.hX
    refine then_via (hm := false) (fun st => ∃ (h : Heap) (out : AV), XH v M X (portsL t.calls) out p q h ∧
      Has st 288 [(3, .ptr 0 0), (6, .c (B false)), (11, .ptr 2 0), (20, .ptr X 0)] [] none h) ?_ ?_
    · conv => whnf
      refine ⟨_, hXK.b0, ?_⟩
      conv => whnf
      refine loop_by (I := fun n st => ∃ (k : Nat) (h : Heap) (out : AV), k ≤ t.calls.length ∧ n = t.calls.length - k ∧ XH v M X (portsL (t.calls.take k)) out p q h ∧
        Has st 288 [(3, .ptr 0 0), (6, .c (B false)), (11, .ptr 2 0), (20, .ptr X 0), (197, .c (.sl v.cc v.co v.cn)), (198, .c (I v.cn)), (199, .c (I k))] [] none h) ?_ (k := t.calls.length)
        ⟨0, _, nilA, Nat.zero_le _, rfl, hXK, rfl, ⟨rfl, rfl, rfl, rfl, rfl, rfl, rfl, trivial⟩, rfl, rfl, rfl, rfl⟩
      rintro n st ⟨k, h, out, hk, rfl, hXH, hs1⟩
      refine hs1.run (hm := false) ?_
      conv => whnf
      cases hc : decide ((k : Int) < (v.cn : Int))
      case false =>
        have hkl : k = t.calls.length := by simp at hc; omega
        subst hkl
        rw [List.take_length] at hXH
        conv => whnf
        exact ⟨_, out, hXH, rfl, ⟨rfl, rfl, rfl, rfl, trivial⟩, rfl, rfl, rfl, rfl⟩
      have hk : k < t.calls.length := by simp at hc; omega
      obtain ⟨r, hr⟩ := get_some hk
      have hsn : portsL (t.calls.take (k + 1)) = portsL (t.calls.take k) ++ (if r.kind == 0 then [r] else []) := by
        rw [take_snoc' hr]
        unfold portsL
        rw [List.filter_append]
        by_cases h0 : r.kind = 0 <;> simp [h0]
      have hlen : (portsL (t.calls.take k)).length ≤ 8 := Nat.le_trans (List.length_filter_le _ _) (by rw [List.length_take]; omega)
      have hrl : ∀ r ∈ (portsL (t.calls.take k)).map rowCl, r.length = 4 := rowCl_len _
      have hlim : ((portsL (t.calls.take k)).map rowCl).length + 1 ≤ limit := by rw [List.length_map]; unfold limit; omega
      conv => whnf
      refine ⟨⟨by omega, by omega⟩, ?_⟩
      conv => whnf
      refine ⟨_, hv.call hr, ?_⟩
      conv => whnf
      refine ⟨_, at_push_self _ _, ?_⟩
      conv => whnf
      have hN1 := hXH.new (.blk [AV.lit (.int .i64 0), AV.lit (.int .i64 0), AV.lit (.int .i64 0), AV.lit (.int .i64 0)]) (.blk [.c (I r.kind), .c (I r.pos), .c (I r.lo), .c (I r.hi)])
      refine ⟨_, at_new _ _ _, ?_⟩
      conv => whnf
      cases hb : r.kind == 0
      · rw [hb] at hsn
        simp only [Bool.false_eq_true, if_false, List.append_nil] at hsn
        conv => whnf
        refine ⟨((k + 1 : Nat) : Int), by rw [wrap_eq (by omega) (by omega)]; omega, ?_⟩
        conv => whnf
        exact ⟨t.calls.length - (k + 1), by omega, k + 1, _, out, by omega, rfl, by rw [hsn]; exact hN1, rfl, ⟨rfl, rfl, rfl, rfl, rfl, rfl, rfl, trivial⟩, rfl, rfl, rfl, rfl⟩
      rw [hb] at hsn
      simp only [if_true] at hsn
      have hR := hN1.R
      have hxn := hXH.hn
      rcases hR.shape with rfl | ⟨o, m, rfl⟩
      all_goals
        conv => whnf
        refine ⟨_, hN1.bx, ?_⟩
        conv => whnf
        refine ⟨_, at_new _ _ _, ?_⟩
        conv => whnf
        obtain ⟨rr, hrr, hR', hold, hn', hfresh⟩ := rows_append (row := rowCl r) (t := 23) (u := 23) hR U23 U23 rfl S46 rfl hrl rfl hlim
        obtain ⟨rv, rreads, rupds, rfresh⟩ := rr
        have hXa : XH v M X (portsL (t.calls.take (k + 1))) rv p q (TMap.set AB.dead (after (((h.push .dead (.blk [AV.lit (.int .i64 0), AV.lit (.int .i64 0), AV.lit (.int .i64 0), AV.lit (.int .i64 0)])).set .dead h.n (.blk [.c (I r.kind), .c (I r.pos), .c (I r.lo), .c (I r.hi)])).push .dead (.blk ((rowCl r).map .c))) ⟨rv, rreads, rupds, rfresh⟩) X (.blk [.c (I v.n), .c (I v.most), .msl (X + 1) 2 0 M M, rv])) := by
          have keep : ∀ i, i < X + 2 → Heap.at (after (((h.push .dead (.blk [AV.lit (.int .i64 0), AV.lit (.int .i64 0), AV.lit (.int .i64 0), AV.lit (.int .i64 0)])).set .dead h.n (.blk [.c (I r.kind), .c (I r.pos), .c (I r.lo), .c (I r.hi)])).push .dead (.blk ((rowCl r).map .c))) ⟨rv, rreads, rupds, rfresh⟩) i = Heap.at ((h.push .dead (.blk [AV.lit (.int .i64 0), AV.lit (.int .i64 0), AV.lit (.int .i64 0), AV.lit (.int .i64 0)])).set .dead h.n (.blk [.c (I r.kind), .c (I r.pos), .c (I r.lo), .c (I r.hi)])) i :=
            fun i hi => hold i (by rw [new_n]; omega) (fun e => by have := hN1.ho i e; omega)
          rw [new_n] at hn'
          refine ⟨(at_set_ne _ _ (by omega)).trans ((keep 0 (by omega)).trans hN1.b0), (at_set_ne _ _ (by omega)).trans ((keep 2 (by omega)).trans hN1.b2), at_set_self _ _ (by omega), (at_set_ne _ _ (by omega)).trans ((keep (X + 1) (by omega)).trans hN1.bz), kx, by rw [TMap.set_n]; omega, ?_, fun o ho => ?_⟩
          · rw [hsn, List.map_append]
            exact hR'.set (fun e => by have := hfresh _ e; rw [new_n] at this; omega) _
          · have := hfresh o ho
            rw [new_n] at this
            omega
        have hbx' : Heap.at (after (((h.push .dead (.blk [AV.lit (.int .i64 0), AV.lit (.int .i64 0), AV.lit (.int .i64 0), AV.lit (.int .i64 0)])).set .dead h.n (.blk [.c (I r.kind), .c (I r.pos), .c (I r.lo), .c (I r.hi)])).push .dead (.blk ((rowCl r).map .c))) ⟨rv, rreads, rupds, rfresh⟩) X = _ := (hold X (by rw [new_n]; omega) (fun e => by have := hN1.ho X e; omega)).trans hN1.bx
        rcases hR' with ⟨_, hh⟩ | ⟨o', ho', hb', hlt', hne'⟩
        · exact absurd hh (by simp)
        simp only at ho'
        subst ho'
        refine ⟨_, hrr, ?_⟩
        conv => whnf
        refine ⟨_, hbx', ?_⟩
        conv => whnf
        refine ⟨((k + 1 : Nat) : Int), by rw [wrap_eq (by omega) (by omega)]; omega, ?_⟩
        conv => whnf
        exact ⟨t.calls.length - (k + 1), by omega, k + 1, _, _, by omega, rfl, hXa, rfl, ⟨rfl, rfl, rfl, rfl, rfl, rfl, rfl, trivial⟩, rfl, rfl, rfl, rfl⟩
    rintro st ⟨h, out, hXH, hs1⟩
    refine hs1.then ?_
    conv => whnf
    repeat (refine then_seq (hm := false) ?_; conv => whnf)
    refine .ret (mkspan_ret _ _) rfl ?_
    conv => whnf
    refine ⟨_, hXH.b2, ?_⟩
    conv => whnf
    have hX0 := hXH.two 0 0
    have hpi : (prV v M (portsL t.calls)).Is (portsT t) := by rw [hM]; exact prV_is hv (Nat.le_trans (List.length_filter_le _ _) (by omega))
    obtain ⟨er, sp, w, her, hsp, hw0, hwe, hsb⟩ := ports_facts hd hN
    have hsx : ∀ i : Nat, i < N → Ret Try.prog 22 ((prV v M (portsL t.calls)).cv :: [I i]) (.tuple [.agg [I (sp i).1, I (sp i).2], I er]) := fun i h1 => by
      have := shorn_ret hpi (i : Int)
      rw [show inB' (i : Int) 0 ((portsT t).n - 1) = true from hok i h1, Int.toNat_natCast, (hsp i h1).1] at this
      exact this
    have hpx : ∀ i : Nat, i < N → Ret Try.prog 23 ((prV v M (portsL t.calls)).cv :: [I i]) (.tuple [.agg [I (sp i).1, I (sp i).2], I er]) := fun i h1 => by
      have := pen_ret' hpi (i : Int)
      rw [show inB' (i : Int) 0 ((portsT t).n - 1) = true from hok i h1, Int.toNat_natCast, (hsp i h1).2] at this
      exact this
    have htx : Ret Try.prog 25 ((prV v M (portsL t.calls)).cv :: [I 0, I ((N : Int) - 1)]) (.tuple [.agg [I w.1, I w.2], I er]) := by
      have := together_ret hpi 0 ((N : Int) - 1)
      rw [show (inB' 0 0 ((portsT t).n - 1) && (inB' ((N : Int) - 1) 0 ((portsT t).n - 1) && !decide (0 > (N : Int) - 1))) = true by
        show (inB' 0 0 (t.n - 1) && (inB' ((N : Int) - 1) 0 (t.n - 1) && !decide (0 > (N : Int) - 1))) = true
        simp [inB']; omega, show (((N : Int) - 1).toNat + 1) = N by omega, show Int.toNat 0 = 0 from rfl, hw0] at this
      exact this
    refine then_via (hm := false) (fun st => ∃ (h : Heap) (out : AV) (b : Bool), XH v M X (portsL t.calls) out (sumP (fun k => (sp k).1) N) (sumP (fun k => (sp k).2) N) h ∧ b = !decide (er = 0) ∧
      Has st 288 [(3, .ptr 0 0), (6, .c (B false)), (11, .ptr 2 0), (20, .ptr X 0), (23, .c (B b))] [] none h) ?_ ?_
    · conv => whnf
      refine ⟨_, hX0.b0, ?_⟩
      conv => whnf
      rw [e1]
      refine loop_by (I := fun n st => ∃ (k : Nat) (h : Heap) (b : Bool), k ≤ N ∧ n = N - k ∧ XH v M X (portsL t.calls) out (sumP (fun k => (sp k).1) k) (sumP (fun k => (sp k).2) k) h ∧ b = (decide (0 < k) && !decide (er = 0)) ∧
        Has st 288 [(3, .ptr 0 0), (6, .c (B false)), (11, .ptr 2 0), (20, .ptr X 0), (23, .c (B b)), (215, .c (I N)), (216, .c (I k))] [] none h) ?_ (k := N)
        ⟨0, _, false, Nat.zero_le _, rfl, hX0, by simp, rfl, ⟨rfl, rfl, rfl, rfl, rfl, rfl, rfl, trivial⟩, rfl, rfl, rfl, rfl⟩
      rintro n st ⟨k, h, b, hk, rfl, hXH, hbk, hs1⟩
      refine hs1.run (hm := false) ?_
      conv => whnf
      cases hc : decide ((k : Int) < (N : Int))
      case false =>
        have hkl : k = N := by simp at hc; omega
        subst hkl
        conv => whnf
        exact ⟨_, out, b, hXH, by rw [hbk, decide_eq_true (show 0 < k by omega), Bool.true_and], rfl, ⟨rfl, rfl, rfl, rfl, rfl, trivial⟩, rfl, rfl, rfl, rfl⟩
      have hkN : k < N := by simp at hc; omega
      conv => whnf
      refine ⟨_, hXH.bx, ?_⟩
      conv => whnf
      refine callP5 hXH.bz hXH.R (hsx k hkN) rfl ?_
      conv => whnf
      refine ⟨_, at_push_self _ _, ?_⟩
      conv => whnf
      obtain ⟨⟨p1, p2⟩, hp⟩ : ∃ p, p = sp k := ⟨_, rfl⟩
      have hsk := hsx k hkN
      have hpk := hpx k hkN
      have hbk1 := hsb k hkN
      have hsu1 := sumP_ge (f := fun k => (sp k).1) k fun i hi => (hsb i (by omega)).1
      have hsu2 := sumP_ge (f := fun k => (sp k).2) k fun i hi => (hsb i (by omega)).2.2.1
      have hsu3 := sumP_bound (f := fun k => (sp k).1) (m := 60) k fun i hi => (hsb i (by omega)).2.1
      have hsu4 := sumP_bound (f := fun k => (sp k).2) (m := 60) k fun i hi => (hsb i (by omega)).2.2.2
      rw [← hp] at hsk hpk hbk1 ⊢
      dsimp only at hsk hpk hbk1
      have hq1 : sumP (fun k => (sp k).1) (k + 1) = sumP (fun k => (sp k).1) k + p1 := by simp only [sumP]; rw [← hp]
      have hq2 : sumP (fun k => (sp k).2) (k + 1) = sumP (fun k => (sp k).2) k + p2 := by simp only [sumP]; rw [← hp]
      generalize sumP (fun k => (sp k).1) k = S1 at *
      generalize sumP (fun k => (sp k).2) k = S2 at *
      have hXG := hXH.new (.blk [AV.lit (.int .i64 0), AV.lit (.int .i64 0)]) (.blk [.c (I p1), .c (I p2)])
      have hGr : Heap.at ((h.push .dead (.blk [AV.lit (.int .i64 0), AV.lit (.int .i64 0)])).set .dead h.n (.blk [.c (I p1), .c (I p2)])) h.n = .blk [.c (I p1), .c (I p2)] := at_new _ _ _
      have hGn := new_n h (.blk [AV.lit (.int .i64 0), AV.lit (.int .i64 0)]) (.blk [.c (I p1), .c (I p2)])
      have hhn := hXH.hn
      generalize hG : TMap.set AB.dead (TMap.push AB.dead h _) _ _ = G at hXG hGr hGn ⊢
      clear hG
      rcases her with rfl | rfl
      all_goals
        refine ⟨_, hXG.bx, ?_⟩
        conv => whnf
        refine callP5 hXG.bz hXG.R hpk rfl ?_
        conv => whnf
        refine ⟨_, at_push_self _ _, ?_⟩
        conv => whnf
        have hXK := hXG.new (.blk [AV.lit (.int .i64 0), AV.lit (.int .i64 0)]) (.blk [.c (I p1), .c (I p2)])
        have hKr : Heap.at ((G.push .dead (.blk [AV.lit (.int .i64 0), AV.lit (.int .i64 0)])).set .dead G.n (.blk [.c (I p1), .c (I p2)])) h.n = .blk [.c (I p1), .c (I p2)] := (at_old _ _ _ (by omega)).trans hGr
        have hKq : Heap.at ((G.push .dead (.blk [AV.lit (.int .i64 0), AV.lit (.int .i64 0)])).set .dead G.n (.blk [.c (I p1), .c (I p2)])) G.n = .blk [.c (I p1), .c (I p2)] := at_new _ _ _
        generalize hK : TMap.set AB.dead (TMap.push AB.dead G _) _ _ = K at hXK hKr hKq ⊢
        clear hK
        refine ⟨_, hKr, ?_⟩
        conv => whnf
        refine ⟨_, hKq, ?_⟩
        conv => whnf
        refine ⟨_, span_neq rfl rfl rfl _ _, ?_⟩
        conv => whnf
        rw [show (!(decide (p1 = p1) && decide (p2 = p2))) = false by simp]
        conv => whnf
        cases b
        all_goals
          conv => whnf
          refine ⟨_, hXK.b2, ?_⟩
          conv => whnf
          refine ⟨_, hKr, ?_⟩
          conv => whnf
          refine ⟨S1 + p1, by rw [wrap_eq (by omega) (by omega)], ?_⟩
          conv => whnf
          refine ⟨_, hXK.b2, ?_⟩
          conv => whnf
          refine ⟨_, hKr, ?_⟩
          conv => whnf
          refine ⟨S2 + p2, by rw [wrap_eq (by omega) (by omega)], ?_⟩
          conv => whnf
          refine .ret (mkspan_ret _ _) rfl ?_
          conv => whnf
          refine ⟨_, hXK.b2, ?_⟩
          conv => whnf
          refine ⟨((k + 1 : Nat) : Int), by rw [wrap_eq (by omega) (by omega)]; omega, ?_⟩
          conv => whnf
          have hT := hXK.two (S1 + p1) (S2 + p2)
          rw [← hq1, ← hq2] at hT
          exact ⟨N - (k + 1), by omega, k + 1, _, _, by omega, rfl, by rw [← hq1, ← hq2]; exact hT, by simp at hbk ⊢, rfl, ⟨rfl, rfl, rfl, rfl, rfl, rfl, rfl, trivial⟩, rfl, rfl, rfl, rfl⟩
    rintro st ⟨h, out, b, hXH, hbe, hs1⟩
    refine hs1.then ?_
    conv => whnf
    repeat (refine then_seq (hm := false) ?_; conv => whnf)
    refine ⟨_, hXH.bx, ?_⟩
    conv => whnf
    refine ⟨_, hXH.b0, ?_⟩
    conv => whnf
    refine ⟨(N : Int) - 1, by rw [e1, wrap_eq (by omega) (by omega)], ?_⟩
    conv => whnf
    refine callP5 hXH.bz hXH.R htx rfl ?_
    conv => whnf
    refine ⟨_, at_push_self _ _, ?_⟩
    conv => whnf
    have hXK := hXH.new (.blk [AV.lit (.int .i64 0), AV.lit (.int .i64 0)]) (.blk [.c (I w.1), .c (I w.2)])
    have hKq : Heap.at ((h.push .dead (.blk [AV.lit (.int .i64 0), AV.lit (.int .i64 0)])).set .dead h.n (.blk [.c (I w.1), .c (I w.2)])) h.n = .blk [.c (I w.1), .c (I w.2)] := at_new _ _ _
    generalize hK : TMap.set AB.dead (TMap.push AB.dead h _) _ _ = K at hXK hKq ⊢
    clear hK
    subst hbe
    rcases her with rfl | rfl
    · have hw := hwe rfl
      have hw1' : w.1 = sumP (fun k => (sp k).1) N := by rw [hw]
      have hw2' : w.2 = sumP (fun k => (sp k).2) N := by rw [hw]
      refine then_end (hm := false) ?_
      conv => whnf
      refine ⟨_, bool_eql rfl rfl rfl _ _, ?_⟩
      conv => whnf
      refine ⟨_, hKq, ?_⟩
      conv => whnf
      refine ⟨_, hXK.b2, ?_⟩
      conv => whnf
      refine ⟨_, span_eql rfl rfl rfl _ _, ?_⟩
      conv => whnf
      rw [show (decide (w.1 = sumP (fun k => (sp k).1) N) && decide (w.2 = sumP (fun k => (sp k).2) N)) = true by simp [hw1', hw2']]
      refine .ret hA rfl ?_
      conv => whnf
      exact .val
    · refine then_end (hm := false) ?_
      conv => whnf
      refine ⟨_, bool_eql rfl rfl rfl _ _, ?_⟩
      conv => whnf
      refine .ret hA rfl ?_
      conv => whnf
      exact .val
end Go.Ag
