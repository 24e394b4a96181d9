/- Sorting keeps what is in a list; all sets of bales that can hold a burr. No conditions. -/
import Derived.Test.YtbiamnobiechmaaGreatBuG
/- Layer 7: sorting: how many bits a number has. -/
namespace Go.Ag
open Go.Proofs
set_option maxRecDepth 100000

theorem len_at {b n : Nat} (h : ((List.range 512).all fun n => tells cfg0 2000 (lenE (b + n))) = true) (h1 : b ≤ n) (h2 : n < b + 512) : Ret Tryz.prog 132 [.lit (.int .u64 n)] (I (lenN n)) := by
  have := List.all_eq_true.1 h (n - b) (List.mem_range.2 (by omega))
  rw [show b + (n - b) = n by omega] at this
  exact tells_ok (C := cfg0) mix con0 this
theorem len_ret {n : Nat} (h : n ≤ 2048) : Ret Tryz.prog 132 [.lit (.int .u64 n)] (I (lenN n)) := by
  by_cases h0 : n < 512
  · exact len_at lenA0 (by omega) (by omega)
  by_cases h1 : n < 1024
  · exact len_at lenA1 (by omega) (by omega)
  by_cases h2 : n < 1536
  · exact len_at lenA2 (by omega) (by omega)
  by_cases h3 : n < 2048
  · exact len_at lenA3 (by omega) (by omega)
  obtain rfl : n = 2048 := by omega
  exact tells_ok (C := cfg0) (e := lenE 2048) mix con0 lenA4
theorem len_conv {n : Nat} (h : n ≤ 2048) : Ret Tryz.prog 132 [CV.ofVal (Value.int .u64 (IntKind.u64.wrap (n : Int)))] (I (lenN n)) := by
  rw [wrap_u64 (by omega)]; exact len_ret h
theorem len_pow {n : Nat} (h : 1 ≤ n) : 2 ^ lenN n ≤ 2 * n := by
  unfold lenN
  rw [if_neg (by omega), Nat.pow_succ]
  have := Nat.log2_self_le (n := n) (by omega)
  omega
theorem len_le {n : Nat} (h : n ≤ 2048) : lenN n ≤ 12 := by
  by_cases h0 : n = 0
  · rw [h0]; decide
  · have h1 := len_pow (n := n) (by omega)
    apply Classical.byContradiction
    intro h2
    have : 2 ^ 13 ≤ 2 ^ lenN n := Nat.pow_le_pow_right (by omega) (by omega)
    omega
theorem shl_u64 {k : Nat} (h : k ≤ 12) : IntKind.u64.wrap (1 * 2 ^ min ((k : Nat) : Int).toNat IntKind.u64.bits) = ((2 ^ k : Nat) : Int) := by
  have e : min ((k : Nat) : Int).toNat IntKind.u64.bits = k := by rw [Int.toNat_natCast]; have : IntKind.u64.bits = 64 := rfl; omega
  have h2 : 2 ^ k ≤ 2 ^ 12 := Nat.pow_le_pow_right (by omega) h
  rw [e, Int.one_mul, show (2 : Int) ^ k = ((2 ^ k : Nat) : Int) by norm_cast]
  exact wrap_u64 (by omega)
theorem np2_ret {n : Nat} (h : n ≤ 2048) : Ret Tryz.prog 150 [I n] (.lit (.int .u64 (2 ^ lenN n : Nat))) := by
  have hl := len_le h
  refine ret_by (hm := false) Tryz.func150 rfl ?_
  conv => whnf
  refine .ret (len_conv h) rfl ?_
  conv => whnf
  rw [shl_u64 hl]
  exact .val
theorem and_low (r : Int) {m : Nat} (h : m < 2 ^ 63) : ∃ q : Nat, q ≤ m ∧ IntKind.u64.wrap ((BitVec.ofInt IntKind.u64.bits r &&& BitVec.ofInt IntKind.u64.bits (m : Int)).toNat : Int) = (q : Int) := by
  have hb : (BitVec.ofInt IntKind.u64.bits (m : Int)).toNat = m := ofInt_nat m h
  have hq : (BitVec.ofInt IntKind.u64.bits r &&& BitVec.ofInt IntKind.u64.bits (m : Int)).toNat ≤ m := by
    rw [BitVec.toNat_and, hb]; exact Nat.and_le_right
  exact ⟨_, hq, wrap_u64 (by omega)⟩
set_option maxHeartbeats 8000000 in
theorem break_call {L : List Nat} (hn : L.length ≤ 2048) {o a b : Nat} (hab : a + 8 ≤ b) (hb : b ≤ L.length) {h : Heap} (ho : Heap.at h o = nsB L) (hlt : o < h.n) :
    ∃ e h', CallOk Tryz.prog 140 [nsA o L.length, .c (I a), .c (I b)] h .no e h' .no ∧ ((∃ v, e = .ret v) ∧ SortTo o L h h') := by
  refine call_by (hm := false) Tryz.func140 rfl ?_
  conv => whnf
  refine ⟨((b - a : Nat) : Int), by rw [wrap_eq (by omega) (by omega)]; omega, ?_⟩
  conv => whnf
  obtain ⟨l, hl⟩ : ∃ l, l = b - a := ⟨_, rfl⟩
  obtain ⟨d, hd⟩ : ∃ d, d = l / 4 := ⟨_, rfl⟩
  rw [← hl]
  have hpw := len_pow (n := l) (by omega)
  have hll := len_le (n := l) (by omega)
  rw [decide_eq_true (show (l : Int) ≥ 8 by omega)]
  conv => whnf
  refine ⟨_, at_push_self _ _, ?_⟩
  conv => whnf
  generalize hG : TMap.set AB.dead (TMap.push AB.dead h _) _ _ = G
  obtain ⟨p, hp⟩ : ∃ p, p = h.n := ⟨_, rfl⟩
  have Gn : G.n = p + 1 := by rw [← hG, hp]; exact new_n _ _ _
  obtain ⟨r, Gp⟩ : ∃ r : Int, Heap.at G p = .blk [.c (.lit (.int .u64 r))] := ⟨_, by rw [← hG, hp]; exact (at_new _ _ _).trans rfl⟩
  have Go : Heap.at G o = nsB L := by rw [← hG]; exact (at_old _ _ _ hlt).trans ho
  have Gf : Foot (fun i => i = o) h G := by rw [← hG]; exact Foot.set ((Foot.refl _ _).push _) (.inr (Nat.le_refl _)) _
  clear hG
  rw [← hp]
  refine .ret (np2_ret (n := l) (by omega)) rfl ?_
  conv => whnf
  refine ⟨by omega, ((d : Nat) : Int), by rw [hd]; exact quarter l (by omega), ?_⟩
  conv => whnf
  refine ⟨((d * 2 : Nat) : Int), by rw [wrap_eq (by omega) (by omega)]; omega, ?_⟩
  conv => whnf
  refine ⟨((a + d * 2 : Nat) : Int), by rw [wrap_eq (by omega) (by omega)]; omega, ?_⟩
  conv => whnf
  refine ⟨((a + d * 2 - 1 : Nat) : Int), by rw [wrap_eq (by omega) (by omega)]; omega, ?_⟩
  conv => whnf
  refine loop_by (I := fun z st => ∃ (i : Nat) (g : Heap) (M : List Nat) (r : Int), z = a + d * 2 + 2 - i ∧ a ≤ i ∧ i ≤ a + d * 2 + 2 ∧ Same L M ∧ Heap.at g o = nsB M ∧ Heap.at g p = .blk [.c (.lit (.int .u64 r))] ∧ p < g.n ∧ Foot (fun i => i = o) h g ∧
      Has st 65 [(0, nsA o L.length), (1, .c (I a)), (6, .c (I l)), (7, .ptr p 0), (8, .c (.lit (.int .u64 ((2 ^ lenN l : Nat) : Int)))), (9, .c (I i))] [] none g) ?_ (k := a + d * 2 + 2 - (a + d * 2 - 1))
    ⟨a + d * 2 - 1, _, L, r, rfl, by omega, by omega, .refl _, Go, Gp, by omega, Gf, rfl, ⟨rfl, rfl, rfl, rfl, rfl, rfl, trivial⟩, rfl, rfl, rfl, rfl⟩
  clear Go Gp Gf Gn r
  clear G
  rintro z st ⟨i, g, M, r, rfl, hi1, hi2, sm, go, gp, pn, gf, hs1⟩
  refine hs1.run (hm := false) ?_
  conv => whnf
  refine ⟨by omega, ((d : Nat) : Int), by rw [hd]; exact quarter l (by omega), ?_⟩
  conv => whnf
  refine ⟨((d * 2 : Nat) : Int), by rw [wrap_eq (by omega) (by omega)]; omega, ?_⟩
  conv => whnf
  refine ⟨((a + d * 2 : Nat) : Int), by rw [wrap_eq (by omega) (by omega)]; omega, ?_⟩
  conv => whnf
  refine ⟨((a + d * 2 + 1 : Nat) : Int), by rw [wrap_eq (by omega) (by omega)]; omega, ?_⟩
  conv => whnf
  cases hc : decide ((i : Int) ≤ ((a + d * 2 + 1 : Nat) : Int))
  case false =>
    conv => whnf
    exact ⟨⟨_, rfl⟩, M, sm, go, gf⟩
  have hi3 : i ≤ a + d * 2 + 1 := by have := of_decide_eq_true hc; omega
  conv => whnf
  refine callW_ex (next_call gp pn) ?_
  rintro e1 G ⟨r', rfl, Gp, f1⟩
  have n1 := f1.n
  have go2 := (f1.keep o (by omega) (fun e => by omega)).trans go
  have gf2 : Foot (fun i => i = o) h G := gf.trans_up (N := p) (f1.mono fun i _ hi => by omega) (by omega)
  conv => whnf
  have h2 : 1 ≤ 2 ^ lenN l := Nat.one_le_two_pow
  have hm1 : IntKind.u64.wrap (((2 ^ lenN l : Nat) : Int) - 1) = ((2 ^ lenN l - 1 : Nat) : Int) := by
    rw [show (((2 ^ lenN l : Nat) : Int) - 1) = ((2 ^ lenN l - 1 : Nat) : Int) by omega]; exact wrap_u64 (by omega)
  obtain ⟨q, hq, he⟩ := and_low r' (m := 2 ^ lenN l - 1) (by omega)
  rw [hm1, he, wrap_nat (by omega)]
  cases h8 : decide ((q : Int) ≥ (l : Int))
  case true =>
    have h8' : l ≤ q := by have := of_decide_eq_true h8; omega
    conv => whnf
    refine ⟨((q - l : Nat) : Int), by rw [wrap_eq (by omega) (by omega)]; omega, ?_⟩
    conv => whnf
    have hml := sm.len
    obtain ⟨x, hx⟩ := get_some (l := M) (k := i) (by omega)
    obtain ⟨y, hy⟩ := get_some (l := M) (k := a + (q - l)) (by omega)
    conv => whnf
    refine draw_by (hm := false) (by kernel_rfl) (by kernel_rfl) ?_
    conv => whnf
    refine ⟨((a + (q - l) : Nat) : Int), by rw [wrap_eq (by omega) (by omega)]; omega, ?_⟩
    conv => whnf
    refine ⟨((a + (q - l) : Nat) : Int), by rw [wrap_eq (by omega) (by omega)]; omega, ?_⟩
    conv => whnf
    refine ⟨⟨rfl, by omega, by omega⟩, ?_⟩
    conv => whnf
    refine ⟨_, go2, ?_⟩
    conv => whnf
    refine look_read (ns_read hy) ?_
    conv => whnf
    refine ⟨⟨rfl, by omega, by omega⟩, ?_⟩
    conv => whnf
    refine ⟨_, go2, ?_⟩
    conv => whnf
    refine look_read (ns_read hx) ?_
    conv => whnf
    have gn : o < G.n := by have := gf2.n; omega
    refine ⟨⟨rfl, by omega, by omega⟩, ?_⟩
    conv => whnf
    refine ⟨_, go2, ?_⟩
    conv => whnf
    refine look_put (ns_put (L := M) (i := i) (by omega) y) ?_
    conv => whnf
    refine ⟨gn, ?_⟩
    conv => whnf
    refine forceL_intro ?_
    conv => whnf
    refine ⟨⟨rfl, by omega, by omega⟩, ?_⟩
    conv => whnf
    refine ⟨_, at_set_self _ _ (i := o) gn, ?_⟩
    conv => whnf
    refine look_put (ns_put (L := M.set (i) y) (i := a + (q - l)) (by rw [List.length_set]; omega) x) ?_
    conv => whnf
    refine ⟨by rw [TMap.set_n]; exact gn, ?_⟩
    conv => whnf
    refine forceL_intro ?_
    conv => whnf
    refine ⟨?_, ?_⟩
    · exact pairs_via (fun _ => 0) [⟨0, _, _, [], []⟩, ⟨1, _, _, [], []⟩, ⟨2, _, _, [], []⟩, ⟨3, _, _, [], []⟩, ⟨4, _, _, [], []⟩, ⟨5, _, _, [], []⟩, ⟨6, _, _, [], []⟩, ⟨7, _, _, [], []⟩, ⟨8, _, _, [], []⟩, ⟨9, _, _, [], []⟩, ⟨10, _, _, [], []⟩, ⟨11, _, _, [0], []⟩, ⟨12, _, _, [], []⟩, ⟨13, _, _, [], []⟩, ⟨14, _, _, [], []⟩, ⟨15, _, _, [0], []⟩, ⟨16, _, _, [], []⟩, ⟨17, _, _, [0], [0]⟩, ⟨18, _, _, [], []⟩, ⟨19, _, _, [0], [0]⟩] rfl (by kernel_rfl)
    generalize hG : TMap.set AB.dead (TMap.set AB.dead _ _ _) _ _ = K
    have Go : Heap.at K o = nsB ((M.set (i) y).set (a + (q - l)) x) := by rw [← hG]; exact at_set_self _ _ (by rw [TMap.set_n]; exact gn)
    have Gf : Foot (fun i => i = o) h K := by rw [← hG]; exact Foot.set (k := o) (Foot.set (k := o) gf2 (.inl rfl) _) (.inl rfl) _
    have hK0 := hG
    clear hG
    have Kp : Heap.at K p = .blk [.c (.lit (.int .u64 r'))] := by rw [← hK0]; exact (at_set_ne _ _ (by omega)).trans ((at_set_ne _ _ (by omega)).trans Gp)
    have Kn : p < K.n := by rw [← hK0, TMap.set_n, TMap.set_n]; show p < G.n; omega
    clear hK0
    conv => whnf
    refine ⟨((i + 1 : Nat) : Int), by rw [wrap_eq (by omega) (by omega)]; omega, ?_⟩
    conv => whnf
    exact ⟨a + d * 2 + 2 - (i + 1), by omega, i + 1, K, _, r', rfl, by omega, by omega, sm.trans (.swap hx hy), Go, Kp, Kn, Gf, rfl, ⟨rfl, rfl, rfl, rfl, rfl, rfl, trivial⟩, rfl, rfl, rfl, rfl⟩
  have h8' : q < l := by have := of_decide_eq_false h8; omega
  have hml := sm.len
  obtain ⟨x, hx⟩ := get_some (l := M) (k := i) (by omega)
  obtain ⟨y, hy⟩ := get_some (l := M) (k := a + q) (by omega)
  conv => whnf
  refine draw_by (hm := false) (by kernel_rfl) (by kernel_rfl) ?_
  conv => whnf
  refine ⟨((a + q : Nat) : Int), by rw [wrap_eq (by omega) (by omega)]; omega, ?_⟩
  conv => whnf
  refine ⟨((a + q : Nat) : Int), by rw [wrap_eq (by omega) (by omega)]; omega, ?_⟩
  conv => whnf
  refine ⟨⟨rfl, by omega, by omega⟩, ?_⟩
  conv => whnf
  refine ⟨_, go2, ?_⟩
  conv => whnf
  refine look_read (ns_read hy) ?_
  conv => whnf
  refine ⟨⟨rfl, by omega, by omega⟩, ?_⟩
  conv => whnf
  refine ⟨_, go2, ?_⟩
  conv => whnf
  refine look_read (ns_read hx) ?_
  conv => whnf
  have gn : o < G.n := by have := gf2.n; omega
  refine ⟨⟨rfl, by omega, by omega⟩, ?_⟩
  conv => whnf
  refine ⟨_, go2, ?_⟩
  conv => whnf
  refine look_put (ns_put (L := M) (i := i) (by omega) y) ?_
  conv => whnf
  refine ⟨gn, ?_⟩
  conv => whnf
  refine forceL_intro ?_
  conv => whnf
  refine ⟨⟨rfl, by omega, by omega⟩, ?_⟩
  conv => whnf
  refine ⟨_, at_set_self _ _ (i := o) gn, ?_⟩
  conv => whnf
  refine look_put (ns_put (L := M.set (i) y) (i := a + q) (by rw [List.length_set]; omega) x) ?_
  conv => whnf
  refine ⟨by rw [TMap.set_n]; exact gn, ?_⟩
  conv => whnf
  refine forceL_intro ?_
  conv => whnf
  refine ⟨?_, ?_⟩
  · exact pairs_via (fun _ => 0) [⟨0, _, _, [], []⟩, ⟨1, _, _, [], []⟩, ⟨2, _, _, [], []⟩, ⟨3, _, _, [], []⟩, ⟨4, _, _, [], []⟩, ⟨5, _, _, [], []⟩, ⟨6, _, _, [], []⟩, ⟨7, _, _, [], []⟩, ⟨8, _, _, [], []⟩, ⟨9, _, _, [], []⟩, ⟨10, _, _, [], []⟩, ⟨11, _, _, [0], []⟩, ⟨12, _, _, [], []⟩, ⟨13, _, _, [], []⟩, ⟨14, _, _, [], []⟩, ⟨15, _, _, [0], []⟩, ⟨16, _, _, [], []⟩, ⟨17, _, _, [0], [0]⟩, ⟨18, _, _, [], []⟩, ⟨19, _, _, [0], [0]⟩] rfl (by kernel_rfl)
  generalize hG : TMap.set AB.dead (TMap.set AB.dead _ _ _) _ _ = K
  have Go : Heap.at K o = nsB ((M.set (i) y).set (a + q) x) := by rw [← hG]; exact at_set_self _ _ (by rw [TMap.set_n]; exact gn)
  have Gf : Foot (fun i => i = o) h K := by rw [← hG]; exact Foot.set (k := o) (Foot.set (k := o) gf2 (.inl rfl) _) (.inl rfl) _
  have hK0 := hG
  clear hG
  have Kp : Heap.at K p = .blk [.c (.lit (.int .u64 r'))] := by rw [← hK0]; exact (at_set_ne _ _ (by omega)).trans ((at_set_ne _ _ (by omega)).trans Gp)
  have Kn : p < K.n := by rw [← hK0, TMap.set_n, TMap.set_n]; show p < G.n; omega
  clear hK0
  conv => whnf
  refine ⟨((i + 1 : Nat) : Int), by rw [wrap_eq (by omega) (by omega)]; omega, ?_⟩
  conv => whnf
  exact ⟨a + d * 2 + 2 - (i + 1), by omega, i + 1, K, _, r', rfl, by omega, by omega, sm.trans (.swap hx hy), Go, Kp, Kn, Gf, rfl, ⟨rfl, rfl, rfl, rfl, rfl, rfl, trivial⟩, rfl, rfl, rfl, rfl⟩
end Go.Ag
/- Layer 7: sorting. -/
namespace Go.Ag
open Go.Proofs
set_option maxRecDepth 100000

theorem then_left {P : Program} {a b : Code} {s : ASt} {K : AExit → ASt → Prop} (h : Then P a s fun e s1 => match e with | .normal => Then P b s1 K | e => K e s1) : Then P (.seq a b) s K := by
  refine ⟨T_seq (h.1.mono ?_)⟩
  intro e s1 h
  cases e with
  | normal => exact h.1
  | exit i => exact h
  | ret => exact h
  | panic v => exact h
theorem then_at {P : Program} {hm : Bool} {c : Code} {s : ASt} {K : AExit → ASt → Prop} (A : ASt → Prop) (h : wCode P hm c s fun e s1 => match e with | .normal => A s1 | e => K e s1) (k : ∀ s1, A s1 → K .normal s1) : Then P c s K := by
  refine ⟨(wCode_ok c s _ h).mono ?_⟩
  intro e s1 h
  cases e with
  | normal => exact k s1 h
  | exit i => exact h
  | ret => exact h
  | panic v => exact h
theorem insert_at {L : List Nat} {n : Nat} (hL : L.length = n) (hn : n ≤ 100000) {o a b : Nat} (hab : a ≤ b) (hb : b ≤ n) {h : Heap} (ho : Heap.at h o = nsB L) (hlt : o < h.n) :
    ∃ e h', CallOk Tryz.prog 138 [nsA o n, .c (I a), .c (I b)] h .no e h' .no ∧ ((∃ v, e = .ret v) ∧ SortTo o L h h') := by
  subst hL; exact insert_call hn hab hb ho hlt
theorem heap_at {L : List Nat} {n : Nat} (hL : L.length = n) (hn : n ≤ 100000) {o a b : Nat} (hab : a < b) (hb : b ≤ n) {h : Heap} (ho : Heap.at h o = nsB L) (hlt : o < h.n) :
    ∃ e h', CallOk Tryz.prog 139 [nsA o n, .c (I a), .c (I b)] h .no e h' .no ∧ ((∃ v, e = .ret v) ∧ SortTo o L h h') := by
  subst hL; exact heap_call hn hab hb ho hlt
theorem break_at {L : List Nat} {n : Nat} (hL : L.length = n) (hn : n ≤ 2048) {o a b : Nat} (hab : a + 8 ≤ b) (hb : b ≤ n) {h : Heap} (ho : Heap.at h o = nsB L) (hlt : o < h.n) :
    ∃ e h', CallOk Tryz.prog 140 [nsA o n, .c (I a), .c (I b)] h .no e h' .no ∧ ((∃ v, e = .ret v) ∧ SortTo o L h h') := by
  subst hL; exact break_call hn hab hb ho hlt
theorem reverse_at {L : List Nat} {n : Nat} (hL : L.length = n) (hn : n ≤ 100000) {o a b : Nat} (hb1 : 1 ≤ b) (hb : b ≤ n) (ha : a ≤ n) {h : Heap} (ho : Heap.at h o = nsB L) (hlt : o < h.n) :
    ∃ e h', CallOk Tryz.prog 142 [nsA o n, .c (I a), .c (I b)] h .no e h' .no ∧ ((∃ v, e = .ret v) ∧ SortTo o L h h') := by
  subst hL; exact reverse_call hn hb1 hb ha ho hlt
theorem partial_at {L : List Nat} {n : Nat} (hL : L.length = n) (hn : n ≤ 100000) {o a b : Nat} (hab : a < b) (hb : b ≤ n) {h : Heap} (ho : Heap.at h o = nsB L) (hlt : o < h.n) :
    ∃ e h', CallOk Tryz.prog 143 [nsA o n, .c (I a), .c (I b)] h .no e h' .no ∧ ((∃ v, e = .ret (.c (B v))) ∧ SortTo o L h h') := by
  subst hL; exact partial_call hn hab hb ho hlt
theorem equal_at {L : List Nat} {n : Nat} (hL : L.length = n) (hn : n ≤ 100000) {o a b p : Nat} (hab : a < b) (hb : b ≤ n) (hp : a ≤ p ∧ p < b) {h : Heap} (ho : Heap.at h o = nsB L) (hlt : o < h.n) :
    ∃ e h', CallOk Tryz.prog 145 [nsA o n, .c (I a), .c (I b), .c (I p)] h .no e h' .no ∧ ((∃ i : Nat, e = .ret (.c (I i)) ∧ a + 1 ≤ i ∧ i ≤ b) ∧ SortTo o L h h') := by
  subst hL; exact equal_call hn hab hb hp ho hlt
theorem parts_at {L : List Nat} {n : Nat} (hL : L.length = n) (hn : n ≤ 100000) {o a b p : Nat} (hab : a < b) (hb : b ≤ n) (hp : a ≤ p ∧ p < b) {h : Heap} (ho : Heap.at h o = nsB L) (hlt : o < h.n) :
    ∃ e h', CallOk Tryz.prog 146 [nsA o n, .c (I a), .c (I b), .c (I p)] h .no e h' .no ∧ ((∃ (i : Nat) (f : Bool), e = .ret (.c (.tuple [I i, B f])) ∧ a ≤ i ∧ i < b) ∧ SortTo o L h h') := by
  subst hL; exact parts_call hn hab hb hp ho hlt
theorem eighth (n : Nat) (h : n ≤ 100000) : IntKind.i64.wrap ((n : Int).tdiv 8) = ((n / 8 : Nat) : Int) := by
  rw [Int.tdiv_eq_ediv_of_nonneg (by omega)]
  have : (n : Int) / 8 = ((n / 8 : Nat) : Int) := by omega
  rw [this]; exact wrap_nat (by omega)
set_option maxHeartbeats 16000000 in
theorem pdq_call (k : Nat) : ∀ {L : List Nat} {n : Nat} (_ : L.length = n) (_ : n ≤ 2048) {o a b lim : Nat} (_ : a ≤ b) (_ : b ≤ n) (_ : b - a < k) (_ : lim ≤ 1000) {h : Heap} (_ : Heap.at h o = nsB L) (_ : o < h.n),
    ∃ e h', CallOk Tryz.prog 131 [nsA o n, .c (I a), .c (I b), .c (I lim)] h .no e h' .no ∧ ((∃ v, e = .ret v) ∧ SortTo o L h h') := by
  induction k with
  | zero => intro L n _ _ o a b lim _ _ h6 _ h _ _; omega
  | succ k ih =>
  intro L n hL hn o a b lim hab hb hk hlim h ho hlt
  have f0 := Foot.refl (fun i => i = o) h
  refine call_by (hm := false) Tryz.func131 rfl ?_
  conv => whnf
  refine loop_by (I := fun z st => ∃ (a b lim : Nat) (w w2 : Bool) (g : Heap) (M : List Nat), z = b - a ∧ a ≤ b ∧ b ≤ n ∧ b - a ≤ k ∧ lim ≤ 1000 ∧ Same L M ∧ Heap.at g o = nsB M ∧ Foot (fun i => i = o) h g ∧
      Has st 134 [(0, nsA o n), (1, .c (I a)), (2, .c (I b)), (3, .c (I lim)), (8, .c (B w)), (9, .c (B w2))] [] none g) ?_ (k := b - a)
    ⟨a, b, lim, true, true, _, L, rfl, hab, hb, by omega, hlim, .refl _, ho, f0, rfl, ⟨rfl, rfl, rfl, rfl, rfl, rfl, trivial⟩, rfl, rfl, rfl, rfl⟩
  clear hab hb hk hlim f0
  clear a b lim
  rintro z st ⟨a, b, lim, w, w2, g, M, rfl, hab, hb, hk, hlim, sm, go, gf, hs1⟩
  have gn : o < g.n := by have := gf.n; omega
  have hM := sm.len.trans hL
  refine (hs1.then (then_block ?_)).1
  refine then_seq (hm := false) ?_
  conv => whnf
  refine ⟨((b - a : Nat) : Int), by rw [wrap_eq (by omega) (by omega)]; omega, ?_⟩
  conv => whnf
  refine then_seq (hm := false) ?_
  conv => whnf
  cases h3 : decide (((b - a : Nat) : Int) ≤ 12)
  case true =>
    conv => whnf
    refine callW_ex (insert_at hM (by omega) hab hb go gn) ?_
    rintro e G ⟨⟨v, rfl⟩, M', sm', Go, Gf⟩
    conv => whnf
    exact ⟨⟨_, rfl⟩, M', sm.trans sm', Go, gf.trans Gf⟩
  have h12 : a + 12 < b := by have := of_decide_eq_false h3; omega
  conv => whnf
  refine then_seq (hm := false) ?_
  conv => whnf
  cases h5 : ((lim : Int) == 0)
  case true =>
    conv => whnf
    refine callW_ex (heap_at hM (by omega) (by omega) hb go gn) ?_
    rintro e G ⟨⟨v, rfl⟩, M', sm', Go, Gf⟩
    conv => whnf
    exact ⟨⟨_, rfl⟩, M', sm.trans sm', Go, gf.trans Gf⟩
  have hl1 : 1 ≤ lim := by have := beq_eq_false_iff_ne.1 h5; omega
  conv => whnf
  refine then_via (hm := false) (fun st => ∃ (lim : Nat) (g : Heap) (M : List Nat), lim ≤ 1000 ∧ Same L M ∧ Heap.at g o = nsB M ∧ Foot (fun i => i = o) h g ∧
    Has st 134 [(0, nsA o n), (1, .c (I a)), (2, .c (I b)), (3, .c (I lim)), (8, .c (B w)), (9, .c (B w2)), (10, .c (I ((b - a : Nat) : Int)))] [] none g) ?_ ?_
  · conv => whnf
    cases w with
    | true =>
      conv => whnf
      exact ⟨lim, g, M, hlim, sm, go, gf, rfl, ⟨rfl, rfl, rfl, rfl, rfl, rfl, rfl, trivial⟩, rfl, rfl, rfl, rfl⟩
    | false =>
      conv => whnf
      refine callW_ex (break_at hM (by omega) (by omega) hb go gn) ?_
      rintro e G ⟨⟨v, rfl⟩, M', sm', Go, Gf⟩
      conv => whnf
      refine ⟨((lim - 1 : Nat) : Int), by rw [wrap_eq (by omega) (by omega)]; omega, ?_⟩
      conv => whnf
      exact ⟨lim - 1, G, M', by omega, sm.trans sm', Go, gf.trans Gf, rfl, ⟨rfl, rfl, rfl, rfl, rfl, rfl, rfl, trivial⟩, rfl, rfl, rfl, rfl⟩
  clear hs1 go gf sm hlim hl1 h5 gn hM
  clear M g lim
  rintro st ⟨lim, g, M, hlim, sm, go, gf, hs1⟩
  have gn : o < g.n := by have := gf.n; omega
  have hM := sm.len.trans hL
  refine hs1.then ?_
  refine then_seq (hm := false) ?_
  conv => whnf
  refine callW_ex (pivot_call hM (by omega) h12 hb go gn) ?_
  rintro e G ⟨pv, kd, rfl, hpv, Gf0⟩
  have Go := (Gf0.keep o gn (fun x => x)).trans go
  have Gf := gf.trans (Gf0.mono (W' := fun i => i = o) fun i _ hi => hi.elim)
  conv => whnf
  refine then_via (hm := false) (fun st => ∃ (pv : Nat) (kd : Int) (g : Heap) (M : List Nat), (a ≤ pv ∧ pv < b) ∧ Same L M ∧ Heap.at g o = nsB M ∧ Foot (fun i => i = o) h g ∧
    Has st 134 [(0, nsA o n), (1, .c (I a)), (2, .c (I b)), (3, .c (I lim)), (8, .c (B w)), (9, .c (B w2)), (10, .c (I ((b - a : Nat) : Int))), (11, .c (I pv)), (12, .c (I kd))] [] none g) ?_ ?_
  · conv => whnf
    cases h11 : (kd == 2)
    case false =>
      conv => whnf
      exact ⟨pv, kd, G, M, hpv, sm, Go, Gf, rfl, ⟨rfl, rfl, rfl, rfl, rfl, rfl, rfl, rfl, rfl, trivial⟩, rfl, rfl, rfl, rfl⟩
    conv => whnf
    refine callW_ex (reverse_at hM (by omega) (by omega) hb (by omega) Go (by have := Gf.n; omega)) ?_
    rintro e K ⟨⟨v, rfl⟩, M', sm', Ko, Kf⟩
    conv => whnf
    refine ⟨((b - 1 : Nat) : Int), by rw [wrap_eq (by omega) (by omega)]; omega, ?_⟩
    conv => whnf
    refine ⟨((pv - a : Nat) : Int), by rw [wrap_eq (by omega) (by omega)]; omega, ?_⟩
    conv => whnf
    refine ⟨((b - 1 - (pv - a) : Nat) : Int), by rw [wrap_eq (by omega) (by omega)]; omega, ?_⟩
    conv => whnf
    exact ⟨b - 1 - (pv - a), 1, K, M', by omega, sm.trans sm', Ko, Gf.trans Kf, rfl, ⟨rfl, rfl, rfl, rfl, rfl, rfl, rfl, rfl, rfl, trivial⟩, rfl, rfl, rfl, rfl⟩
  clear hs1 go gf sm Go Gf Gf0 gn hM hpv
  clear M g G kd pv
  rintro st ⟨pv, kd, g, M, hpv, sm, go, gf, hs1⟩
  have gn : o < g.n := by have := gf.n; omega
  have hM := sm.len.trans hL
  refine hs1.then ?_
  refine then_via (hm := false) (fun st => ∃ (g : Heap) (M : List Nat), Same L M ∧ Heap.at g o = nsB M ∧ Foot (fun i => i = o) h g ∧
    Has st 134 [(0, nsA o n), (1, .c (I a)), (2, .c (I b)), (3, .c (I lim)), (8, .c (B w)), (9, .c (B w2)), (10, .c (I ((b - a : Nat) : Int))), (11, .c (I pv))] [] none g) ?_ ?_
  · conv => whnf
    cases w with
    | false =>
      conv => whnf
      exact ⟨g, M, sm, go, gf, rfl, ⟨rfl, rfl, rfl, rfl, rfl, rfl, rfl, rfl, trivial⟩, rfl, rfl, rfl, rfl⟩
    | true =>
    cases w2 with
    | false =>
      conv => whnf
      exact ⟨g, M, sm, go, gf, rfl, ⟨rfl, rfl, rfl, rfl, rfl, rfl, rfl, rfl, trivial⟩, rfl, rfl, rfl, rfl⟩
    | true =>
    conv => whnf
    cases h15 : (kd == 1)
    case false =>
      conv => whnf
      exact ⟨g, M, sm, go, gf, rfl, ⟨rfl, rfl, rfl, rfl, rfl, rfl, rfl, rfl, trivial⟩, rfl, rfl, rfl, rfl⟩
    conv => whnf
    refine callW_ex (partial_at hM (by omega) (by omega) hb go gn) ?_
    rintro e K ⟨⟨v, rfl⟩, M', sm', Ko, Kf⟩
    cases v with
    | true =>
      conv => whnf
      exact ⟨⟨_, rfl⟩, M', sm.trans sm', Ko, gf.trans Kf⟩
    | false =>
      conv => whnf
      exact ⟨K, M', sm.trans sm', Ko, gf.trans Kf, rfl, ⟨rfl, rfl, rfl, rfl, rfl, rfl, rfl, rfl, trivial⟩, rfl, rfl, rfl, rfl⟩
  clear hs1 go gf sm gn hM
  clear M g kd
  rintro st ⟨g, M, sm, go, gf, hs1⟩
  have gn : o < g.n := by have := gf.n; omega
  have hM := sm.len.trans hL
  obtain ⟨y, hy⟩ := get_some (l := M) (k := pv) (by omega)
  refine hs1.then ?_
  refine then_via (hm := false) (fun st => ∃ (g : Heap), Heap.at g o = nsB M ∧ Foot (fun i => i = o) h g ∧
    Has st 134 [(0, nsA o n), (1, .c (I a)), (2, .c (I b)), (3, .c (I lim)), (8, .c (B w)), (9, .c (B w2)), (10, .c (I ((b - a : Nat) : Int))), (11, .c (I pv))] [] none g) ?_ ?_
  · conv => whnf
    refine draw_by (hm := false) (by kernel_rfl) (by kernel_rfl) ?_
    conv => whnf
    cases h17 : decide ((a : Int) > 0)
    case false =>
      conv => whnf
      refine ⟨by kernel_rfl, ?_⟩
      conv => whnf
      exact ⟨g, go, gf, rfl, ⟨rfl, rfl, rfl, rfl, rfl, rfl, rfl, rfl, trivial⟩, rfl, rfl, rfl, rfl⟩
    have ha1 : 1 ≤ a := by have := of_decide_eq_true h17; omega
    obtain ⟨x, hx⟩ := get_some (l := M) (k := a - 1) (by omega)
    conv => whnf
    refine ⟨((a - 1 : Nat) : Int), by rw [wrap_eq (by omega) (by omega)]; omega, ?_⟩
    conv => whnf
    refine ⟨⟨rfl, by omega, by omega⟩, ?_⟩
    conv => whnf
    refine ⟨_, go, ?_⟩
    conv => whnf
    refine look_read (ns_read hx) ?_
    conv => whnf
    refine ⟨⟨rfl, by omega, by omega⟩, ?_⟩
    conv => whnf
    refine ⟨_, go, ?_⟩
    conv => whnf
    refine look_read (ns_read hy) ?_
    conv => whnf
    refine .pure _ _ rfl (less_ret _ _) ?_
    conv => whnf
    refine ⟨by kernel_rfl, ?_⟩
    conv => whnf
    cases hl : decide ((x : Int) < (y : Int))
    case true =>
      conv => whnf
      exact ⟨_, go, gf, rfl, ⟨rfl, rfl, rfl, rfl, rfl, rfl, rfl, rfl, trivial⟩, rfl, rfl, rfl, rfl⟩
    conv => whnf
    refine callW_ex (equal_at hM (by omega) (by omega) hb hpv go gn) ?_
    rintro e K ⟨⟨i, rfl, hi1, hi2⟩, M', sm', Ko, Kf⟩
    conv => whnf
    exact ⟨b - i, by omega, i, b, lim, w, w2, K, M', rfl, hi2, hb, by omega, hlim, sm.trans sm', Ko, gf.trans Kf, rfl, ⟨rfl, rfl, rfl, rfl, rfl, rfl, trivial⟩, rfl, rfl, rfl, rfl⟩
  clear hs1 go gf gn hy y
  clear g
  rintro st ⟨g, go, gf, hs1⟩
  have gn : o < g.n := by have := gf.n; omega
  refine hs1.then ?_
  refine then_seq (hm := false) ?_
  conv => whnf
  refine callW_ex (parts_at hM (by omega) (by omega) hb hpv go gn) ?_
  rintro e K ⟨⟨mid, fl, rfl, hi1, hi2⟩, M', sm', Ko, Kf⟩
  have Kn : o < K.n := by have := Kf.n; omega
  have hM' := sm'.len.trans hM
  have sm2 := sm.trans sm'
  have Kf2 := gf.trans Kf
  conv => whnf
  refine then_seq (hm := false) ?_
  conv => whnf
  refine then_seq (hm := false) ?_
  conv => whnf
  refine ⟨((mid - a : Nat) : Int), by rw [wrap_eq (by omega) (by omega)]; omega, ?_⟩
  conv => whnf
  refine ⟨((b - mid : Nat) : Int), by rw [wrap_eq (by omega) (by omega)]; omega, ?_⟩
  conv => whnf
  refine then_seq (hm := false) ?_
  conv => whnf
  refine ⟨by omega, _, eighth (b - a) (by omega), ?_⟩
  conv => whnf
  refine then_end (hm := false) ?_
  conv => whnf
  cases h24 : decide (((mid - a : Nat) : Int) < ((b - mid : Nat) : Int))
  case true =>
    conv => whnf
    refine callW_ex (ih hM' hn (a := a) (b := mid) (lim := lim) (by omega) (by omega) (by omega) hlim Ko Kn) ?_
    rintro e N ⟨⟨v, rfl⟩, M2, sm3, No, Nf⟩
    conv => whnf
    refine ⟨((mid + 1 : Nat) : Int), by rw [wrap_eq (by omega) (by omega)]; omega, ?_⟩
    conv => whnf
    exact ⟨b - (mid + 1), by omega, mid + 1, b, lim, _, fl, N, M2, rfl, by omega, hb, by omega, hlim, sm2.trans sm3, No, Kf2.trans Nf, rfl, ⟨rfl, rfl, rfl, rfl, rfl, rfl, trivial⟩, rfl, rfl, rfl, rfl⟩
  conv => whnf
  refine ⟨((mid + 1 : Nat) : Int), by rw [wrap_eq (by omega) (by omega)]; omega, ?_⟩
  conv => whnf
  refine callW_ex (ih hM' hn (a := mid + 1) (b := b) (lim := lim) (by omega) (by omega) (by omega) hlim Ko Kn) ?_
  rintro e N ⟨⟨v, rfl⟩, M2, sm3, No, Nf⟩
  conv => whnf
  exact ⟨mid - a, by omega, a, mid, lim, _, fl, N, M2, rfl, by omega, by omega, by omega, hlim, sm2.trans sm3, No, Kf2.trans Nf, rfl, ⟨rfl, rfl, rfl, rfl, rfl, rfl, trivial⟩, rfl, rfl, rfl, rfl⟩
/-- Sorting keeps what is in a list. -/
theorem sort_call {L : List Nat} {n : Nat} (hL : L.length = n) (hn : n ≤ 2048) {o : Nat} {h : Heap} (ho : Heap.at h o = nsB L) (hlt : o < h.n) :
    ∃ e h', CallOk Tryz.prog 108 [nsA o n] h .no e h' .no ∧ ((∃ v, e = .ret v) ∧ SortTo o L h h') := by
  have hl := len_le hn
  refine call_by (hm := false) Tryz.func108 rfl ?_
  conv => whnf
  refine .ret (len_conv hn) rfl ?_
  conv => whnf
  refine callW_ex (pdq_call (n + 1) hL hn (a := 0) (b := n) (lim := lenN n) (by omega) (by omega) (by omega) (by omega) ho hlt) ?_
  rintro e N ⟨⟨v, rfl⟩, M2, sm3, No, Nf⟩
  conv => whnf
  exact ⟨⟨_, rfl⟩, M2, sm3, No, Nf⟩
end Go.Ag
/- Layer 7: the sets between bounds, one by one. -/
namespace Go.Ag
open Go.Proofs
set_option maxRecDepth 100000

def nxt (t r : Nat) : Nat := ((t + 64 - r) % 64) &&& r
def subsF (r t : Nat) : List Nat := (List.range' t (64 - t)).filter fun x => x &&& r == x
set_option maxRecDepth 1000000 in
theorem nxt_eq : ∀ t : Nat, t < 64 → ∀ r : Nat, r < 64 → IntKind.i64.wrap ((BitVec.ofInt 64 ((t : Int) - (r : Int)) &&& BitVec.ofInt 64 (r : Int)).toNat : Int) = ((nxt t r : Nat) : Int) := by decide +kernel
def stepB (r t : Nat) : Bool := !(t &&& r == t) || t == r || ((subsF r t == t :: subsF r (nxt t r)) && (nxt t r &&& r == nxt t r) && decide (t < nxt t r) && decide (nxt t r < 64))
theorem subs_tab : ((List.range 64).all fun r => (List.range 64).all fun t => stepB r t) = true := by kernel_rfl
theorem subs_step (r : Nat) (hr : r < 64) (t : Nat) (ht : t < 64) (h1 : t &&& r = t) (h2 : t ≠ r) : subsF r t = t :: subsF r (nxt t r) ∧ nxt t r &&& r = nxt t r ∧ t < nxt t r ∧ nxt t r < 64 := by
  have := List.all_eq_true.1 (List.all_eq_true.1 subs_tab r (List.mem_range.2 hr)) t (List.mem_range.2 ht)
  unfold stepB at this
  rw [show (t &&& r == t) = true from beq_iff_eq.2 h1, show (t == r) = false from beq_eq_false_iff_ne.2 h2] at this
  simp only [Bool.not_true, Bool.false_or, Bool.and_eq_true, beq_iff_eq, decide_eq_true_eq] at this
  exact ⟨this.1.1.1, this.1.1.2, this.1.2, this.2⟩
set_option maxRecDepth 1000000 in
theorem subs_end : ∀ r, r < 64 → subsF r r = [r] := by decide +kernel
def subsB (b : Bd) (t : Nat) : List Nat := (subsF (diffN b.p b.s) t).map fun x => b.s ||| x
def subC (b : Bd) : CV := .func (.func 107) [bdV b] []
set_option maxHeartbeats 4000000 in
theorem subs_iter {b : Bd} (hb : b.Lt) : IterA Tryz.prog (fun _ => True) (.c (subC b)) (chs (subsB b 0)) := by
  have hr : diffN b.p b.s < 64 := diffN_lt (n := 6) hb.p
  have hs6 := hb.s
  obtain ⟨r, hrd⟩ : ∃ r, r = diffN b.p b.s := ⟨_, rfl⟩
  unfold subsB
  rw [← hrd] at hr ⊢
  refine ⟨107, [.c (bdV b)], [], fun args => by kernel_rfl, fun id n0 J D X R _ hid h0 hn0 hJ => ?_⟩
  refine call_by (hm := false) Tryz.func107 rfl ?_
  conv => whnf
  generalize hG : TMap.push AB.dead h0 _ = G
  obtain ⟨N, hN⟩ : ∃ N, N = h0.n := ⟨_, rfl⟩
  have Gn : G.n = N + 1 := by rw [← hG, hN]; rfl
  have GN : Heap.at G N = bdB b := by rw [← hG, hN]; exact at_push_self _ _
  have GF : Foot none' h0 G := by rw [← hG]; exact (Foot.refl _ _).push _
  have GJ := R.mono _ (fun i => i = N) _ _ (R.stable _ _ _ _ hJ hn0 GF) (fun i hi => .inr ⟨by omega, by omega⟩)
  clear hG hJ
  rw [← hN]
  refine ⟨_, GN, ?_⟩
  conv => whnf
  refine .ret (unsure_ret hb) rfl ?_
  conv => whnf
  rw [← hrd]
  refine loop_by (I := fun z s => ∃ (t : Nat) (h : Heap), z = 64 - t ∧ t < 64 ∧ t &&& r = t ∧ n0 ≤ h.n ∧ N < h.n ∧ Heap.at h N = bdB b ∧ J (fun i => i = N) (chs ((subsF r t).map fun x => b.s ||| x)) h ∧
    Has s 24 [(1, .yield id), (2, .ptr N 0), (4, .c (I r)), (5, .c (I t))] [] none h) ?_ (k := 64)
    ⟨0, G, rfl, by omega, by simp, by omega, by omega, GN, GJ, rfl, ⟨rfl, rfl, rfl, rfl, trivial⟩, rfl, rfl, rfl, rfl⟩
  rintro z s ⟨t, h, rfl, ht, hsub, hn, hNn, hbx, hJ, hs⟩
  refine hs.run (hm := false) ?_
  conv => whnf
  refine ⟨_, hbx, ?_⟩
  conv => whnf
  refine ⟨_, or_nat (a := b.s) (b := t) (by omega) (by omega), ?_⟩
  conv => whnf
  by_cases hend : t = r
  · subst hend
    rw [subs_end t hr] at hJ
    have hJ2 : J (fun i => i = N) ([I ((b.s ||| t : Nat))] :: []) h := hJ
    refine .mk ((R.round _ _ _ _ hJ2 hn (fun i hi => ⟨by omega, by omega⟩)).mono ?_ ?_)
    · rintro y h' ⟨hf, hk⟩
      have n' := hf.n
      cases y
      · conv => whnf
        exact ⟨by show n0 ≤ h'.n; omega, .inr (R.dmono _ _ _ hk (fun i hi => hi.elim))⟩
      · conv => whnf
        rw [show (((t : Nat) : Int) != ((t : Nat) : Int)) = false by simp]
        conv => whnf
        exact ⟨by show n0 ≤ h'.n; omega, .inl (R.mono _ _ _ _ hk (fun i hi => hi.elim))⟩
    · rintro v' h' ⟨hx, hn', hf⟩
      exact ⟨hn', R.xmono _ _ _ _ hx (fun i hi => hi.elim)⟩
  obtain ⟨e1, e2, e3, e4⟩ := subs_step r hr t ht hsub hend
  rw [e1] at hJ
  have hJ2 : J (fun i => i = N) ([I ((b.s ||| t : Nat))] :: chs ((subsF r (nxt t r)).map fun x => b.s ||| x)) h := hJ
  refine .mk ((R.round _ _ _ _ hJ2 hn (fun i hi => ⟨by omega, by omega⟩)).mono ?_ ?_)
  · rintro y h' ⟨hf, hk⟩
    have n' := hf.n
    have hbx' := (hf.keep N hNn (fun x => x rfl)).trans hbx
    cases y
    · conv => whnf
      exact ⟨by show n0 ≤ h'.n; omega, .inr (R.dmono _ _ _ hk (fun i hi => hi.elim))⟩
    · conv => whnf
      rw [show (((t : Nat) : Int) != ((r : Nat) : Int)) = true by rw [bne_iff_ne]; omega]
      conv => whnf
      refine ⟨(t : Int) - (r : Int), by rw [wrap_eq (by omega) (by omega)], ?_⟩
      conv => whnf
      refine ⟨_, nxt_eq t ht r hr, ?_⟩
      conv => whnf
      exact ⟨64 - nxt t r, by omega, nxt t r, h', rfl, e4, e2, by omega, by omega, hbx', hk, rfl, ⟨rfl, rfl, rfl, rfl, trivial⟩, rfl, rfl, rfl, rfl⟩
  · rintro v' h' ⟨hx, hn', hf⟩
    exact ⟨hn', R.xmono _ _ _ _ hx (fun i hi => hi.elim)⟩
theorem mem_subs {b : Bd} (hb : b.Lt) (hsub : Sub b.s b.p) {x : Nat} : x ∈ subsB b 0 ↔ Wi b x := by
  unfold subsB subsF Wi
  rw [List.mem_map]
  constructor
  · rintro ⟨t, ht, rfl⟩
    have h1 := (List.mem_filter.1 ht).2
    rw [beq_iff_eq] at h1
    refine ⟨fun i hi => by rw [Nat.testBit_or, hi]; rfl, fun i hi => ?_⟩
    rw [Nat.testBit_or, Bool.or_eq_true] at hi
    rcases hi with hi | hi
    · exact hsub i hi
    · rw [← h1, Nat.testBit_and, Bool.and_eq_true, diffN_bit, Bool.and_eq_true] at hi
      exact hi.2.1
  · rintro ⟨h1, h2⟩
    have hx : x < 64 := h2.lt (n := 6) hb.p
    refine ⟨x &&& diffN b.p b.s, List.mem_filter.2 ⟨List.mem_range'_1.2 ⟨Nat.zero_le _, by have := Nat.and_le_left (n := x) (m := diffN b.p b.s); omega⟩, ?_⟩, ?_⟩
    · rw [beq_iff_eq, Nat.and_assoc, Nat.and_self]
    · refine Nat.eq_of_testBit_eq fun i => ?_
      rw [Nat.testBit_or, Nat.testBit_and, diffN_bit]
      cases hx : x.testBit i
      · cases hs : b.s.testBit i
        · rfl
        · have := h1 i hs; rw [hx] at this; cases this
      · rw [h2 i hx]
        cases b.s.testBit i <;> rfl
theorem subs_len (b : Bd) : (subsB b 0).length ≤ 64 := by
  unfold subsB subsF
  rw [List.length_map]
  exact Nat.le_trans (List.length_filter_le _ _) (by simp)
end Go.Ag
/- Layer 7: a list with what an iterator yields. -/
namespace Go.Ag
open Go.Proofs
set_option maxRecDepth 100000

theorem row1_flat (L : List Nat) : (L.map row1).flatten.map AV.c = L.map nvA := by
  induction L with
  | nil => rfl
  | cons x L ih => rw [List.map_cons, List.flatten_cons, List.map_append, ih]; rfl
/-- A list in memory, or none. -/
abbrev NsL (h : Heap) (out : AV) (L : List Nat) : Prop := RowsL 1 h out (L.map row1)
set_option maxHeartbeats 4000000 in
theorem append_call {it : CV} {ys L : List Nat} (hit : IterA Tryz.prog (fun _ => True) (.c it) (chs ys)) (hlen : L.length + ys.length ≤ 4096) {h : Heap} {out : AV} (R : NsL h out L) :
    ∃ e h', CallOk Tryz.prog 106 [out, .c it] h .no e h' .no ∧ ∃ out', e = .ret out' ∧ NsL h' out' (L ++ ys) ∧ Foot (fun i => outId out = some i) h h' ∧ ∀ k, outId out' = some k → h.n ≤ k ∨ outId out = some k := by
  have hlt := R.lt
  obtain ⟨wo, hwo⟩ : ∃ wo : Option Nat, wo = outId out := ⟨_, rfl⟩
  rw [← hwo]
  have hwl : ∀ k, wo = some k → k < h.n := fun k hk => hlt k (by rw [← hwo]; exact hk)
  refine call_by (hm := false) Tryz.func106 rfl ?_
  rcases R.shape with rfl | ⟨o, n, rfl⟩
  all_goals
    conv => whnf
    refine range_nA (hm := false) (h.n + 1) rfl (ps := [7]) rfl rfl hit
      (I := fun W l h1 => ∃ done rest out1, l = chs rest ∧ ys = done ++ rest ∧ NsL h1 out1 (L ++ done) ∧ Heap.at h1 h.n = .blk [out1] ∧ Foot (fun i => wo = some i) h h1 ∧ (∀ k, outId out1 = some k → k ≠ h.n ∧ k ≠ h.n + 1 ∧ k ≠ h.n + 2 ∧ ¬ W k ∧ (h.n ≤ k ∨ wo = some k)))
      (E := fun _ _ _ => False) (X := fun _ _ _ => False) ?_ ?_ ?_ ?_ ?_ ?_ ?_ ?_ ?_ ?_ ?_ ?_
    · rintro W l h1 h2 ⟨done, rest, out1, e1, e2, R1, k1, k2, k3⟩ hn hw ff0
      have ff := ff0.high hw
      refine ⟨done, rest, out1, e1, e2, R1.ext ff0.n (fun i hi ho => ff0.keep i hi (by have := k3 i ho; rintro (x | x | x); exact this.2.2.2.1 x; exact this.2.1 x; exact this.2.2.1 x)), (ff.below hn (by omega)).trans k1, k2.trans_up ff (by omega), fun k hk => ?_⟩
      obtain ⟨q1, q2, q3, q4, q5⟩ := k3 k hk
      have := R1.lt k hk
      exact ⟨q1, q2, q3, fun x => by rcases x with x | x; exact q4 x; omega, q5⟩
    · rintro _ _ _ _ hx
      exact hx.elim
    · rintro _ _ _ _ hx
      exact hx.elim
    · rintro W W' l h1 ⟨done, rest, out1, e1, e2, R1, k1, k2, k3⟩ hw
      exact ⟨done, rest, out1, e1, e2, R1, k1, k2, fun k hk => ⟨(k3 k hk).1, (k3 k hk).2.1, (k3 k hk).2.2.1, fun x => (k3 k hk).2.2.2.1 (hw k x), (k3 k hk).2.2.2.2⟩⟩
    · rintro _ _ _ _ hx _
      exact hx
    · rintro _ _ _ _ hx _
      exact hx
    · intros; trivial
    · refine ⟨[], ys, _, rfl, rfl, by rw [List.append_nil]; exact R.ext (Nat.le_succ _) (fun i hi _ => at_push_lt _ _ hi), at_push_self _ _, (Foot.refl _ _).push _, fun k hk => ?_⟩
      have q1 : wo = some k := by rw [hwo]; exact hk
      have := hwl k q1
      exact ⟨by omega, by omega, by omega, fun x => x, .inr q1⟩
    · rintro W y l h1 hn hw ⟨done, rest, out1, e1, e2, R1, k1, k2, k3⟩
      cases rest with
      | nil => cases e1
      | cons y0 rest =>
      obtain ⟨rfl, rfl⟩ := List.cons.inj e1
      refine ⟨rfl, ?_⟩
      have hlim : ((L ++ done).map row1).length + 1 ≤ limit := by
        rw [e2, List.length_append, List.length_cons] at hlen
        rw [List.length_map, List.length_append]; unfold limit; omega
      have n1 : h.n + 1 + 2 ≤ h1.n := hn
      conv => whnf
      refine ⟨Foot.refl _ _, fun hb fb hbn => ?_⟩
      have b1 : Heap.at hb h.n = .blk [out1] := (fb.keep h.n (by omega) (by omega)).trans k1
      have R2 : NsL hb out1 (L ++ done) := R1.ext (by omega) (fun i hi ho => fb.keep i hi (by have := k3 i ho; omega))
      have b3 : Foot (fun i => wo = some i) h hb := k2.trans_up (N := h.n) (fb.mono fun i _ hi => by omega) (Nat.le_refl _)
      have hlo := R2.lt
      rcases R2.shape with rfl | ⟨o1, m1, rfl⟩
      all_goals
        conv => whnf
        refine ⟨_, b1, ?_⟩
        conv => whnf
        obtain ⟨rr, hrr, hR', hold, hn', hfresh⟩ := rows_append (P := Tryz.prog) (row := row1 y0) (t := 70) (u := 70) R2 U70 U70 rfl S3 rfl (row1_all _) rfl hlim
        obtain ⟨rv, rreads, rupds, rfresh⟩ := rr
        rcases hR' with ⟨_, hh⟩ | ⟨o', ho', hb', hlt', hne'⟩
        · exact absurd hh (by simp)
        simp only at ho' hfresh
        subst ho'
        refine ⟨_, hrr, ?_⟩
        conv => whnf
        generalize hK : TMap.app AB.dead _ _ = K
        have hKe : K = after (hb.push .dead (.blk ((row1 y0).map .c))) ⟨.msl o' 1 0 (((L ++ done).map row1) ++ [row1 y0]).length (((L ++ done).map row1) ++ [row1 y0]).length, rreads, rupds, rfresh⟩ := by rw [← hK]; rfl
        rw [← hKe] at hb' hold hn' hlt'
        clear hKe hK
        have hfr := hfresh o' rfl
        have K1 := (hold h.n (by omega) (fun e => by have := (k3 _ e).1; omega)).trans b1
        refine ⟨_, K1, ?_⟩
        conv => whnf
        refine ⟨⟨by rw [TMap.set_n]; omega, fun i hi hna => ?_⟩, done ++ [y0], rest, _, rfl, by rw [e2]; simp, ?_, at_set_self _ _ (by omega), ?_, ?_⟩
        · have hWi : W i ∨ i = h.n + 1 ∨ i = h.n + 1 + 1 := Classical.byContradiction fun hh => hna (fun x => hh x)
          have hi' : h.n + 1 ≤ i := by
            rcases hWi with x | x | x
            · have := (hw i x).1; omega
            · omega
            · omega
          refine (at_set_ne _ _ (by omega)).trans (hold i hi fun e => ?_)
          obtain ⟨q1, q2, q3, q4, q5⟩ := k3 i e
          rcases hWi with x | x | x
          · exact q4 x
          · exact q2 x
          · exact q3 x
        · have hrow : (L ++ (done ++ [y0])).map row1 = (L ++ done).map row1 ++ [row1 y0] := by simp
          show RowsL 1 _ _ ((L ++ (done ++ [y0])).map row1)
          rw [hrow]
          exact (RowsL.set (.inr ⟨o', rfl, hb', hlt', hne'⟩) (k := h.n) (fun e => by have := Option.some.inj e; omega) _)
        · refine Foot.set (k := h.n) ⟨by have := b3.n; omega, fun i hi hna => (hold i (by have := b3.n; omega) fun e => ?_).trans (b3.keep i hi hna)⟩ (.inr (Nat.le_refl _)) _
          obtain ⟨q1, q2, q3, q4, q5⟩ := k3 i e
          rcases q5 with q5 | q5
          · omega
          · exact hna q5
        · intro k hk
          have hk := Option.some.inj hk
          refine ⟨by omega, by omega, by omega, fun x => ?_, .inl (by omega)⟩
          have := (hw k x).2
          omega
    · rintro h1 hn hc ⟨done, rest, out1, e1, e2, R1, k1, k2, k3⟩
      have : rest = [] := by cases rest with | nil => rfl | cons a l => cases e1
      subst this
      rw [List.append_nil] at e2
      subst e2
      rcases R1.shape with rfl | ⟨o1, m1, rfl⟩
      all_goals
        conv => whnf
        refine ⟨_, k1, ?_⟩
        conv => whnf
        refine ⟨_, hc, ?_⟩
        conv => whnf
        refine ⟨_, rfl, RowsL.set R1 (k := h.n + 1) (fun e => (k3 _ e).2.1 rfl) _, Foot.set (k := h.n + 1) k2 (.inr (by omega)) _, fun k hk => (k3 k hk).2.2.2.2⟩
    · rintro e h1 _ _ hx
      exact hx.elim
    · rintro v h1 _ _ hx
      exact hx.elim
end Go.Ag
/- Layer 7: a list without what stands twice in a row. -/
namespace Go.Ag
open Go.Proofs
set_option maxRecDepth 100000

theorem cut_from {o : Oper} {x l : Operand} {σ : Operand → AV} {rd : Nat → AB} {n id N A : Nat} (ho : o.op = .slice 70 x (some l) none none) (hx : σ x = .msl id 1 0 N N) (hl : σ l = .c (I A)) (h1 : A ≤ N) :
    aop Tryz.prog o σ rd n = some (.simple { val := .msl id 1 A (N - A) (N - A) }) := by
  unfold aop
  rw [ho]
  have a1 : asInt (AV.c (I A)) = some (A : Int) := rfl
  simp only [aslice, U70, S3, hx, hl, Option.map_some, Option.map_none]
  have hi : isArr Tryz.prog 70 = false := by kernel_rfl
  have hb : boundsOf N N (some (AV.c (I A))) none none = some (A, N, N) := by
    unfold boundsOf
    simp only [boundOf, a1, Option.isSome_none, Bool.false_and, Bool.false_eq_true, if_false]
    have c : (0 : Int) ≤ (A : Int) ∧ (A : Int) ≤ (N : Int) := ⟨by omega, by omega⟩
    simp only [if_pos (Nat.le_refl N), if_pos c, Int.toNat_natCast]
  rw [hb]
  simp only [hi, Option.map_some, Nat.zero_add, Nat.mul_one]
  rfl
theorem cut_to {o : Oper} {x l : Operand} {σ : Operand → AV} {rd : Nat → AB} {n id N A : Nat} (ho : o.op = .slice 70 x none (some l) none) (hx : σ x = .msl id 1 0 N N) (hl : σ l = .c (I A)) (h1 : A ≤ N) :
    aop Tryz.prog o σ rd n = some (.simple { val := .msl id 1 0 A N }) := by
  unfold aop
  rw [ho]
  have a1 : asInt (AV.c (I A)) = some (A : Int) := rfl
  simp only [aslice, U70, S3, hx, hl, Option.map_some, Option.map_none]
  have hi : isArr Tryz.prog 70 = false := by kernel_rfl
  have hb : boundsOf N N none (some (AV.c (I A))) none = some (0, A, N) := by
    unfold boundsOf
    simp only [boundOf, a1, Option.isSome_none, Bool.false_and, Bool.false_eq_true, if_false]
    have c : (0 : Int) ≤ (A : Int) ∧ (A : Int) ≤ (N : Int) := ⟨by omega, by omega⟩
    simp only [if_pos (Nat.le_refl N), if_pos c, Int.toNat_natCast, if_pos (Nat.zero_le A)]
  rw [hb]
  simp only [hi, Option.map_some, Nat.zero_add, Nat.mul_one]
  rfl
theorem plain_got {hm : Bool} {o : Oper} {tmps : TMap AV} {ds : List ADef} {p : Pan} {rd : Option Nat} {h : Heap} {K : ASt → Prop} {X : AV → ASt → Prop} {r : SOut} (hd : aop Tryz.prog o (evalF tmps) (fun _ => .dead) h.n = none) (ha : aop Tryz.prog o (evalF tmps) (Heap.at h) h.n = some (.simple r)) (k : K ((ASt.mk tmps ds p rd h).apply o.dst r)) :
    wPlain Tryz.prog hm o tmps ds p rd h K X := by
  unfold wPlain
  rw [hd]
  exact ⟨r, by rw [ha], k⟩
theorem got_clear {o : Oper} {σ : Operand → AV} {rd : Nat → AB} {n : Nat} {r : SOut} (hr : aop Tryz.prog o σ rd n = some (.simple r)) :
    (match aop Tryz.prog o σ rd n with | some (.simple r) => some r | _ => none) = some r := by rw [hr]
theorem z3 : zeroCells Tryz.prog 3 = some [AV.lit (.int .i64 0)] := by kernel_rfl
theorem clear_none {o : Oper} {x : Operand} {σ : Operand → AV} {n id off len cap : Nat} (ho : o.op = .call ⟨.builtin .clear, #[x], #[70]⟩) (hx : σ x = .msl id 1 off len cap) : aop Tryz.prog o σ (fun _ => .dead) n = none := by
  unfold aop
  rw [ho]
  have e : (#[x] : Array Operand).toList = [x] := rfl
  have e2 : (#[70] : Array TypeId)[0]? = some 70 := rfl
  simp only [acall, e, e2, hx, aclear, U70, S3, z3]
  rfl
theorem clear_some {o : Oper} {x : Operand} {σ : Operand → AV} {rd : Nat → AB} {n id off len cap : Nat} {L : List Nat} (ho : o.op = .call ⟨.builtin .clear, #[x], #[70]⟩) (hx : σ x = .msl id 1 off len cap) (hb : rd id = nsB L) (hl : off + len = L.length) : aop Tryz.prog o σ rd n = some (.simple { val := .undef, reads := [id], upds := [(id, nsB (L.take off ++ List.replicate len 0))] }) := by
  unfold aop
  rw [ho]
  have e : (#[x] : Array Operand).toList = [x] := rfl
  have e2 : (#[70] : Array TypeId)[0]? = some 70 := rfl
  have e3 : repeatCells [AV.lit (.int .i64 0)] (len * 1) = (List.replicate len 0).map nvA := by
    unfold repeatCells
    rw [Nat.mul_one, List.map_replicate]
    refine List.ext_getElem (by simp) fun i h1 h2 => ?_
    simp only [List.getElem_map, List.getElem_range, List.getElem_replicate, List.length_singleton, Nat.mod_one]
    rfl
  have e4 : putAt (L.map nvA) off ((List.replicate len 0).map nvA) = some ((L.take off ++ List.replicate len 0).map nvA) := by
    simp only [putAt]
    rw [if_pos (by simp; omega), List.drop_of_length_le (by simp; omega), List.append_nil, List.map_append, List.map_take]
  simp only [acall, e, e2, hx, aclear, U70, S3, z3, hb, nsB]
  have e5 : ([AV.lit (.int .i64 0)] : List AV).all AV.cellish = true := rfl
  simp only [e5, and_self, if_true, e3, e4, Option.map_some]
  rfl
theorem ns_readO {L : List Nat} {off i x : Nat} (h : L[off + i]? = some x) : readVar Tryz.prog 3 (L.map nvA) (off + (i : Int).toNat * 1) = some (.c (I x)) := by
  have : readVar Tryz.prog 3 (L.map nvA) (off + (i : Int).toNat * 1) = (L.map nvA)[off + (i : Int).toNat * 1]? := rfl
  rw [this, Int.toNat_natCast, Nat.mul_one, List.getElem?_map, h]; rfl
/-- What a cut leaves. -/
def CutTo (o : Nat) (L : List Nat) (out : AV) (h h' : Heap) : Prop := ∃ (N : List Nat) (k : Nat), out = .msl o 1 0 k L.length ∧ k ≤ N.length ∧ N.length = L.length ∧ (∀ x, x ∈ N.take k ↔ x ∈ L) ∧ Heap.at h' o = nsB N ∧ Foot (fun i => i = o) h h'
set_option maxHeartbeats 8000000 in
theorem compact_call {L : List Nat} (hn : L.length ≤ 100000) {o : Nat} {h : Heap} (ho : Heap.at h o = nsB L) (hlt : o < h.n) :
    ∃ e h', CallOk Tryz.prog 109 [nsA o L.length] h .no e h' .no ∧ ∃ out, e = .ret out ∧ CutTo o L out h h' := by
  have hid : CutTo o L (nsA o L.length) h h := ⟨L, L.length, rfl, Nat.le_refl _, rfl, fun x => by rw [List.take_length], ho, .refl _ _⟩
  refine call_by (hm := false) Tryz.func109 rfl ?_
  conv => whnf
  cases h1 : decide ((L.length : Int) < 2)
  case true =>
    conv => whnf
    exact ⟨_, rfl, hid⟩
  have hl2 : 2 ≤ L.length := by have := of_decide_eq_false h1; omega
  conv => whnf
  refine loop_by (I := fun z st => ∃ (q : Nat), z = L.length - q ∧ 1 ≤ q ∧ q ≤ L.length ∧
      Has st 61 [(0, nsA o L.length), (3, .c (I q))] [] none h) ?_ (k := L.length - 1)
    ⟨1, rfl, Nat.le_refl _, by omega, rfl, ⟨rfl, rfl, trivial⟩, rfl, rfl, rfl, rfl⟩
  rintro z st ⟨q, rfl, hq1, hq2, hs1⟩
  refine hs1.run (hm := false) ?_
  conv => whnf
  cases hc : decide ((q : Int) < (L.length : Int))
  case false =>
    conv => whnf
    exact ⟨_, rfl, hid⟩
  have hq : q < L.length := by simp at hc; omega
  obtain ⟨x, hx⟩ := get_some (l := L) (k := q) hq
  obtain ⟨y, hy⟩ := get_some (l := L) (k := q - 1) (by omega)
  conv => whnf
  refine draw_by (hm := false) (by kernel_rfl) (by kernel_rfl) ?_
  conv => whnf
  refine ⟨⟨rfl, by omega, by omega⟩, ?_⟩
  conv => whnf
  refine ⟨_, ho, ?_⟩
  conv => whnf
  refine look_read (ns_read hx) ?_
  conv => whnf
  refine ⟨((q - 1 : Nat) : Int), by rw [wrap_eq (by omega) (by omega)]; omega, ?_⟩
  conv => whnf
  refine ⟨⟨rfl, by omega, by omega⟩, ?_⟩
  conv => whnf
  refine ⟨_, ho, ?_⟩
  conv => whnf
  refine look_read (ns_read hy) ?_
  conv => whnf
  refine ⟨by kernel_rfl, ?_⟩
  conv => whnf
  cases hxy : ((x : Int) == (y : Int))
  case false =>
    conv => whnf
    refine ⟨((q + 1 : Nat) : Int), by rw [wrap_eq (by omega) (by omega)]; omega, ?_⟩
    conv => whnf
    exact ⟨L.length - (q + 1), by omega, q + 1, rfl, by omega, by omega, rfl, ⟨rfl, rfl, trivial⟩, rfl, rfl, rfl, rfl⟩
  have hxy : x = y := by have := beq_iff_eq.1 hxy; omega
  subst hxy
  conv => whnf
  refine plain_val (cut_from (N := L.length) (A := q) (by rfl) (by rfl) (by rfl) (by omega)) ?_
  conv => whnf
  refine loop_by (I := fun z st => ∃ (j k : Nat) (g : Heap) (N : List Nat), z = L.length - q - j ∧ 1 ≤ j ∧ q + j ≤ L.length ∧ k + 1 ≤ q + j ∧ N.length = L.length ∧ (∀ i, q + j ≤ i + 1 → N[i]? = L[i]?) ∧ (∀ x, x ∈ N.take k ↔ x ∈ L.take (q + j)) ∧ Heap.at g o = nsB N ∧ Foot (fun i => i = o) h g ∧
      Has st 61 [(0, nsA o L.length), (3, .c (I k)), (4, .msl o 1 q (L.length - q) (L.length - q)), (5, .c (I j))] [] none g) ?_ (k := L.length - q - 1)
    ⟨1, q, h, L, rfl, Nat.le_refl _, by omega, Nat.le_refl _, rfl, fun _ _ => rfl, ?_, ho, .refl _ _, rfl, ⟨rfl, rfl, rfl, rfl, trivial⟩, rfl, rfl, rfl, rfl⟩
  · rintro z st ⟨j, k, g, N, rfl, hj1, hj2, hk, hNl, hsame, hmem, go, gf, hs1⟩
    have gn : o < g.n := by have := gf.n; omega
    refine hs1.run (hm := false) ?_
    conv => whnf
    cases hc2 : decide ((j : Int) < ((L.length - q : Nat) : Int))
    case false =>
      have hje : q + j = L.length := by have := of_decide_eq_false hc2; omega
      rw [hje, List.take_length] at hmem
      conv => whnf
      refine plain_val (cut_from (N := L.length) (A := k) (by rfl) (by rfl) (by rfl) (by omega)) ?_
      conv => whnf
      refine ⟨{ val := .undef, reads := [o], upds := [(o, nsB (N.take k ++ List.replicate (L.length - k) 0))] }, got_clear (clear_some (L := N) (off := k) (len := L.length - k) (cap := L.length - k) (by rfl) (by rfl) go (by omega)), ?_⟩
      conv => whnf
      refine plain_val (cut_to (N := L.length) (A := k) (by rfl) (by rfl) (by rfl) (by omega)) ?_
      conv => whnf
      have hkl : (N.take k).length = k := by rw [List.length_take]; omega
      refine ⟨_, rfl, N.take k ++ List.replicate (L.length - k) 0, k, rfl, by simp; omega, by simp; omega, fun x => ?_, at_set_self _ _ gn, Foot.set (k := o) gf (.inl rfl) _⟩
      rw [List.take_append_of_le_length (by omega), List.take_of_length_le (by omega)]
      exact hmem x
    have hj3 : q + j < L.length := by have := of_decide_eq_true hc2; omega
    obtain ⟨a, ha⟩ := get_some (l := N) (k := q + j) (by omega)
    obtain ⟨b, hb⟩ := get_some (l := N) (k := q + (j - 1)) (by omega)
    have ha' := ha
    have hb' := hb
    rw [hsame _ (by omega)] at ha' hb'
    have htk : L.take (q + (j + 1)) = L.take (q + j) ++ [a] := by rw [show q + (j + 1) = (q + j) + 1 by omega, List.take_add_one, ha']; rfl
    conv => whnf
    refine draw_by (hm := false) (by kernel_rfl) (by kernel_rfl) ?_
    conv => whnf
    refine ⟨⟨rfl, by omega, by omega⟩, ?_⟩
    conv => whnf
    refine ⟨_, go, ?_⟩
    conv => whnf
    refine look_read (ns_readO ha) ?_
    conv => whnf
    refine ⟨((j - 1 : Nat) : Int), by rw [wrap_eq (by omega) (by omega)]; omega, ?_⟩
    conv => whnf
    refine ⟨⟨rfl, by omega, by omega⟩, ?_⟩
    conv => whnf
    refine ⟨_, go, ?_⟩
    conv => whnf
    refine look_read (ns_readO hb) ?_
    conv => whnf
    refine ⟨by kernel_rfl, ?_⟩
    conv => whnf
    cases hab : ((a : Int) != (b : Int))
    case false =>
      have hab : a = b := by have := bne_eq_false_iff_eq.1 hab; omega
      subst hab
      conv => whnf
      refine ⟨((j + 1 : Nat) : Int), by rw [wrap_eq (by omega) (by omega)]; omega, ?_⟩
      conv => whnf
      refine ⟨L.length - q - (j + 1), by omega, j + 1, k, _, N, rfl, by omega, by omega, by omega, hNl, fun i hi => hsame i (by omega), ?_, go, gf, rfl, ⟨rfl, rfl, rfl, rfl, trivial⟩, rfl, rfl, rfl, rfl⟩
      intro x
      rw [hmem, htk, List.mem_append, List.mem_singleton]
      constructor
      · exact .inl
      · rintro (h | rfl)
        · exact h
        · exact List.mem_take_iff_getElem.2 ⟨q + (j - 1), by omega, by rw [List.getElem?_eq_some_iff] at hb'; exact hb'.2⟩
    conv => whnf
    refine ⟨⟨rfl, by omega, by omega⟩, ?_⟩
    conv => whnf
    refine ⟨_, go, ?_⟩
    conv => whnf
    refine look_read (ns_readO ha) ?_
    conv => whnf
    refine ⟨⟨rfl, by omega, by omega⟩, ?_⟩
    conv => whnf
    refine ⟨_, go, ?_⟩
    conv => whnf
    refine look_put (ns_put (i := k) (by omega) a) ?_
    conv => whnf
    refine forceL_intro ?_
    conv => whnf
    generalize hG : TMap.set AB.dead g o _ = G
    have Go : Heap.at G o = nsB (N.set k a) := by rw [← hG]; exact at_set_self _ _ gn
    have Gf : Foot (fun i => i = o) h G := by rw [← hG]; exact Foot.set (k := o) gf (.inl rfl) _
    clear hG
    refine ⟨((k + 1 : Nat) : Int), by rw [wrap_eq (by omega) (by omega)]; omega, ?_⟩
    conv => whnf
    refine ⟨((j + 1 : Nat) : Int), by rw [wrap_eq (by omega) (by omega)]; omega, ?_⟩
    conv => whnf
    refine ⟨L.length - q - (j + 1), by omega, j + 1, k + 1, G, N.set k a, rfl, by omega, by omega, by omega, by rw [List.length_set]; exact hNl, fun i hi => ?_, fun x => ?_, Go, Gf, rfl, ⟨rfl, rfl, rfl, rfl, trivial⟩, rfl, rfl, rfl, rfl⟩
    · rw [List.getElem?_set_ne (by omega)]
      exact hsame i (by omega)
    · have e : (N.set k a).take (k + 1) = N.take k ++ [a] := by
        rw [List.take_add_one, List.getElem?_set_self (by omega), List.take_set_of_le (by omega)]; rfl
      rw [e, htk, List.mem_append, List.mem_append, hmem]
  · intro z
    rw [List.take_add_one, hx]
    simp only [List.mem_append, Option.toList, List.mem_singleton]
    constructor
    · exact .inl
    · rintro (h | rfl)
      · exact h
      · exact List.mem_of_getElem? (i := q - 1) (by rw [List.getElem?_take_of_lt (by omega)]; exact hy)
end Go.Ag
/- Layer 7: which bales can hold a burr, all at once. -/
namespace Go.Ag
open Go.Proofs
set_option maxRecDepth 100000

def allSubs (L : List Bd) : List Nat := L.flatMap fun b => subsB b 0
theorem allSubs_len (L : List Bd) : (allSubs L).length ≤ 64 * L.length := by
  induction L with
  | nil => simp [allSubs]
  | cons b L ih =>
    unfold allSubs at ih ⊢
    rw [List.flatMap_cons, List.length_append, List.length_cons]
    have := subs_len b
    omega
theorem ns_block {h : Heap} {o : Nat} {M : List Nat} (hb : Heap.at h o = .blk ((M.map row1).flatten.map .c)) : Heap.at h o = nsB M := by
  rw [hb, row1_flat]; rfl
set_option maxHeartbeats 4000000 in
theorem burrs_call {L M : List Bd} (hl : ∀ b ∈ L, b.Lt) (hlen : L.length ≤ 32) (hne : allSubs L ≠ []) :
    ∃ e h', CallOk Tryz.prog 63 [.c (.agg [bdsC M, bdsC L])] TMap.nil .no e h' .no ∧ ∃ (o k : Nat) (N : List Nat), e = .ret (.msl o 1 0 k N.length) ∧ k ≤ N.length ∧ N.length ≤ 2048 ∧ (∀ x, x ∈ N.take k ↔ x ∈ allSubs L) ∧ Heap.at h' o = nsB N := by
  refine call_by (hm := false) Tryz.func63 rfl ?_
  conv => whnf
  refine ⟨_, rfl, ?_⟩
  conv => whnf
  refine loop_by (I := fun z st => ∃ (q : Nat) (h : Heap) (out : AV), q ≤ L.length ∧ z = L.length - q ∧ NsL h out (allSubs (L.take q)) ∧
      Has st 22 [(3, out), (7, .c (bdsC L)), (8, .c (I L.length)), (9, .c (I q))] [] none h) ?_ (k := L.length)
    ⟨0, _, nilA, Nat.zero_le _, rfl, .inl ⟨rfl, rfl⟩, rfl, ⟨rfl, rfl, rfl, rfl, trivial⟩, rfl, rfl, rfl, rfl⟩
  rintro z st ⟨q, h, out, hq, rfl, R, hs1⟩
  refine hs1.run (hm := false) ?_
  conv => whnf
  cases hcq : decide ((q : Int) < (L.length : Int))
  case false =>
    have : q = L.length := by simp at hcq; omega
    subst this
    rw [List.take_length] at R
    have hal := allSubs_len L
    rcases R with ⟨_, hh⟩ | ⟨o, rfl, hb, hlt, _⟩
    · exact absurd (List.map_eq_nil_iff.1 hh) hne
    rw [List.length_map] at hs1 ⊢
    conv => whnf
    refine callW_ex (sort_call (n := (allSubs L).length) rfl (by omega) (ns_block hb) hlt) ?_
    rintro e G ⟨⟨v, rfl⟩, M', sm, Go, Gf⟩
    have Gn : o < G.n := by have := Gf.n; omega
    have hcp := compact_call (L := M') (by have := sm.len; omega) Go Gn
    rw [sm.len] at hcp
    conv => whnf
    refine callW_ex hcp ?_
    rintro e K ⟨out, rfl, N, k, rfl, hk, hN, hmem, Ko, Kf⟩
    conv => whnf
    refine ⟨o, k, N, by rw [hN]; rfl, hk, by rw [hN, sm.len]; omega, fun x => (hmem x).trans (sm.mem x), Ko⟩
  have hq : q < L.length := by simp at hcq; omega
  obtain ⟨b, hb⟩ := get_some hq
  have hbl := hl b (List.mem_of_getElem? hb)
  have hsucc : allSubs (L.take (q + 1)) = allSubs (L.take q) ++ subsB b 0 := by
    unfold allSubs; rw [List.take_add_one, hb, List.flatMap_append]; simp
  have h1 := allSubs_len (L.take q)
  have h2 := subs_len b
  have h3 : (L.take q).length ≤ 32 := by rw [List.length_take]; omega
  conv => whnf
  refine ⟨⟨by omega, by omega⟩, ?_⟩
  conv => whnf
  refine ⟨_, bds_get hb, ?_⟩
  conv => whnf
  refine ⟨_, at_push_self _ _, ?_⟩
  conv => whnf
  generalize hG : TMap.set AB.dead (TMap.push AB.dead h _) _ _ = G
  have Gn : G.n = h.n + 1 := by rw [← hG]; exact new_n _ _ _
  have Gt : Heap.at G h.n = bdB b := by rw [← hG]; exact at_new _ _ _
  have Ga : ∀ i, i < h.n → Heap.at G i = Heap.at h i := fun i hi => by rw [← hG]; exact at_old _ _ _ hi
  clear hG
  have R1 : NsL G out (allSubs (L.take q)) := R.ext (by omega) (fun i hi _ => Ga i hi)
  refine ⟨_, Gt, ?_⟩
  conv => whnf
  refine callW_ex (append_call (subs_iter hbl) (by omega) R1) ?_
  rintro e K ⟨out', rfl, R2, _, _⟩
  rcases R2.shape with rfl | ⟨o2, n2, rfl⟩
  all_goals
    conv => whnf
    refine ⟨((q + 1 : Nat) : Int), by rw [wrap_eq (by omega) (by omega)]; omega, ?_⟩
    conv => whnf
    exact ⟨L.length - (q + 1), by omega, q + 1, K, _, by omega, rfl, by rw [hsucc]; exact R2, rfl, ⟨rfl, rfl, rfl, rfl, trivial⟩, rfl, rfl, rfl, rfl⟩
theorem mem_all {d : Bn} (hd : d.Good) {x : Nat} : x ∈ allSubs (knB d) ↔ ∃ m, Tr d m x := by
  unfold allSubs knB
  rw [List.mem_flatMap]
  constructor
  · rintro ⟨b, hb, hx⟩
    obtain ⟨⟨m, b'⟩, h1, rfl⟩ := List.mem_map.1 hb
    exact ⟨m, know_tr.2 ⟨b', h1, (mem_subs (knB_Lt hd _ hb) (know_mem hd h1).2.1).1 hx⟩⟩
  · rintro ⟨m, ht⟩
    obtain ⟨b, h1, h2⟩ := know_tr.1 ht
    have hb : b ∈ (knowL d).map (·.2) := List.mem_map.2 ⟨(m, b), h1, rfl⟩
    exact ⟨b, hb, (mem_subs (knB_Lt hd _ hb) (know_mem hd h1).2.1).2 h2⟩
/-- A list of numbers, as a value. -/
structure NsV (c : CV) (L : List Nat) : Prop where
  ex : ∃ cells, c = .sl cells 0 L.length ∧ SlOf 1 (L.map row1) cells 0 L.length
theorem burrs_ex {d : Bn} (hd : d.Good) (hc : canB d = true) : ∃ (c : CV) (L : List Nat), Ret Tryz.prog 63 [knC d] c ∧ NsV c L ∧ L.length ≤ 2048 ∧ ∀ x, x ∈ L ↔ ∃ m, Tr d m x := by
  have hlen : (knB d).length ≤ 32 := by unfold knB; rw [List.length_map]; exact know_len hd
  have hne : allSubs (knB d) ≠ [] := by
    intro h0
    obtain ⟨m, x, ht⟩ := (can_tr hd).1 hc
    have := (mem_all hd).2 ⟨m, ht⟩
    rw [h0] at this; cases this
  obtain ⟨e, h', hcall, o, k, N, rfl, hk, hN, hmem, hb⟩ := burrs_call (M := knM d) (knB_Lt hd) hlen hne
  rw [← knC_eq] at hcall
  have hb' : Heap.at h' o = .blk ((N.map fun x => I (x : Nat)).map .c) := by rw [hb]; unfold nsB; rw [List.map_map]; rfl
  have hkl : (N.take k).length = k := by rw [List.length_take]; omega
  have hR : Ret Tryz.prog 63 [knC d] (.sl (N.map fun x => I (x : Nat)) 0 k) := callOk_close (args := [knC d]) hcall (fuel := N.length + 25) (r := (.sl (N.map fun x => I (x : Nat)) 0 k, [o])) (snap_msl hb' _ (by rw [List.length_map]; omega))
  refine ⟨_, N.take k, hR, ⟨_, by rw [hkl], ?_⟩, by omega, fun x => (hmem x).trans (mem_all hd)⟩
  rw [hkl]
  refine ⟨by rw [List.length_map, hkl], fun i r hi => ?_⟩
  rw [List.getElem?_map] at hi
  obtain ⟨x, hx, rfl⟩ := Option.map_eq_some_iff.1 hi
  have hik : i < k := by rcases Nat.lt_or_ge i k with h | h; exact h; rw [List.getElem?_eq_none (by omega)] at hx; cases hx
  rw [List.getElem?_take_of_lt hik] at hx
  show sliceOf (N.map fun x => I (x : Nat)) (0 + i * 1) 1 = some (row1 x)
  have il : i < N.length := by omega
  unfold sliceOf
  rw [Nat.zero_add, Nat.mul_one, List.drop_eq_getElem_cons (by rw [List.length_map]; exact il)]
  rw [List.getElem?_eq_getElem il] at hx
  have hx := Option.some.inj hx
  simp only [List.getElem_map, List.take_succ_cons, List.take_zero, hx]
  rfl
end Go.Ag
