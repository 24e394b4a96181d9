/- Numbers that are drawn; a truth of numbers and what is told of it; lists that grow. No conditions. -/
import Derived.Test.YtnmiompeofbagaaTyH
import Derived.ChangeSlices
import Derived.WideShapes
/- Layer 5: numbers that are drawn by remainders. -/
namespace Go.Ag
open Go.Proofs
set_option maxRecDepth 100000

theorem wrap_u16 {w : Nat} (h : w < 65536) : IntKind.i64.wrap (w : Int) = (w : Int) := wrap_eq (by omega) (by omega)
/-- A slice of small numbers. -/
structure ByL (bc : List CV) (bo bn : Nat) : Prop where
  el : ∀ i, i < bn → ∃ w : Nat, w < 65536 ∧ bc[bo + i]? = some (.lit (.int .u16 w))
theorem rvC109 (cells : List CV) (off : Nat) : readVarC Try.prog 109 cells off = cells[off]? := rfl
def drawC (A Y : Nat) : AV := .func (.func 70) [] [.ptr A 0, .ptr Y 0]

theorem draws_ret (bc : List CV) (bo bn : Nat) (h : Heap) : ∃ e h', CallOk Try.prog 31 [.c (.sl bc bo bn)] h .no e h' .no ∧ (e = .ret (drawC (h.n + 1) h.n) ∧ Heap.at h' h.n = .blk [.c (.sl bc bo bn)] ∧ Heap.at h' (h.n + 1) = .blk [.c (I 0)] ∧ h'.n = h.n + 2 ∧ Foot none' h h') := by
  refine call_by (hm := false) Try.func31 rfl ?_
  conv => whnf
  refine ⟨_, at_push_self _ _, ?_⟩
  conv => whnf
  refine ⟨rfl, (at_old _ _ _ (by rw [push_n]; omega)).trans (at_push_self _ _), at_new _ _ _, by rw [new_n, push_n], ?_⟩
  exact Foot.set (((Foot.refl _ _).push _).push _) (.inr (by rw [push_n]; omega)) _

theorem tmod_nat (a b : Nat) : (a : Int).tmod (b : Int) = ((a % b : Nat) : Int) := by
  rw [Int.tmod_eq_emod_of_nonneg (by omega)]
  omega

set_option maxHeartbeats 2000000 in
theorem draw_ret {bc : List CV} {bo bn : Nat} (hb : ByL bc bo bn) {lo hi : Int} (h1 : -3 ≤ lo) (h2 : lo ≤ hi) (h3 : hi ≤ 300) {A Y : Nat} {a : Nat} (ha : a ≤ 40) {h : Heap} (hA : Heap.at h A = .blk [.c (I a)]) (hY : Heap.at h Y = .blk [.c (.sl bc bo bn)]) (lA : A < h.n) (lY : Y < h.n) (hAY : A ≠ Y) :
    ∃ e h', CallOk Try.prog 70 [.c (.agg [I lo, I hi]), .ptr A 0, .ptr Y 0] h .no e h' .no ∧ ((∃ z, lo ≤ z ∧ z ≤ hi ∧ e = .ret (.c (I z))) ∧ Heap.at h' A = .blk [.c (I ((a + 1 : Nat) : Int))] ∧ Foot (fun i => i = A) h h') := by
  refine call_by (hm := false) Try.func70 rfl ?_
  conv => whnf
  refine ⟨_, (at_push_lt _ _ lA).trans hA, ?_⟩
  conv => whnf
  refine ⟨((a + 1 : Nat) : Int), by rw [wrap_eq (by omega) (by omega)]; omega, ?_⟩
  conv => whnf
  refine ⟨_, (at_push_lt _ _ lA).trans hA, ?_⟩
  conv => whnf
  have k1 : Heap.at ((h.push .dead (.blk [.c (I lo), .c (I hi)])).set .dead A (.blk [.c (I ((a + 1 : Nat) : Int))])) A = .blk [.c (I ((a + 1 : Nat) : Int))] := at_set_self _ _ (by rw [push_n]; omega)
  have k2 : Heap.at ((h.push .dead (.blk [.c (I lo), .c (I hi)])).set .dead A (.blk [.c (I ((a + 1 : Nat) : Int))])) Y = .blk [.c (.sl bc bo bn)] := (at_set_ne _ _ (Ne.symm hAY)).trans ((at_push_lt _ _ lY).trans hY)
  have k3 : Heap.at ((h.push .dead (.blk [.c (I lo), .c (I hi)])).set .dead A (.blk [.c (I ((a + 1 : Nat) : Int))])) h.n = .blk [.c (I lo), .c (I hi)] := (at_set_ne _ _ (by omega)).trans (at_push_self _ _)
  have kF : Foot (fun i => i = A) h ((h.push .dead (.blk [.c (I lo), .c (I hi)])).set .dead A (.blk [.c (I ((a + 1 : Nat) : Int))])) := Foot.set (W := fun i => i = A) ((Foot.refl _ _).push _) (.inl rfl) _
  refine ⟨_, k2, ?_⟩
  conv => whnf
  cases hz : ((bn : Int) == 0)
  case true =>
    conv => whnf
    refine ⟨_, k3, ?_⟩
    conv => whnf
    exact ⟨⟨lo, Int.le_refl _, h2, rfl⟩, k1, kF⟩
  have hbn : bn ≠ 0 := by simp at hz; omega
  obtain ⟨w, hw, hwe⟩ := hb.el ((a + 1) % bn) (Nat.mod_lt _ (by omega))
  conv => whnf
  refine draw_by (hm := false) (by kernel_rfl) (by kernel_rfl) ?_
  conv => whnf
  refine ⟨_, k3, ?_⟩
  conv => whnf
  refine ⟨_, k2, ?_⟩
  conv => whnf
  refine ⟨_, k1, ?_⟩
  conv => whnf
  refine ⟨_, k2, ?_⟩
  conv => whnf
  refine dplain_val (rem_to (((a + 1) % bn : Nat) : Int) rfl rfl rfl (by omega) (tmod_nat _ _) _ _) ?_
  conv => whnf
  have hlt : (a + 1) % bn < bn := Nat.mod_lt _ (by omega)
  refine ⟨⟨by omega, by omega⟩, ?_⟩
  conv => whnf
  have hread : readVarC Try.prog 109 bc (bo + (((a + 1) % bn : Nat) : Int).toNat * 1) = some (.lit (.int .u16 w)) := by
    rw [rvC109, show bo + (((a + 1) % bn : Nat) : Int).toNat * 1 = bo + (a + 1) % bn by omega]; exact hwe
  refine ⟨_, hread, ?_⟩
  conv => whnf
  refine ⟨_, k1, ?_⟩
  conv => whnf
  refine ⟨((37 * (a + 1) : Nat) : Int), by rw [wrap_eq (by omega) (by omega)]; omega, ?_⟩
  conv => whnf
  refine ⟨((w + 37 * (a + 1) : Nat) : Int), by rw [wrap_u16 hw, wrap_eq (by omega) (by omega)]; omega, ?_⟩
  conv => whnf
  refine ⟨_, k3, ?_⟩
  conv => whnf
  refine ⟨_, k3, ?_⟩
  conv => whnf
  refine ⟨hi - lo, by rw [wrap_eq (by omega) (by omega)], ?_⟩
  conv => whnf
  obtain ⟨m, hm⟩ : ∃ m : Nat, hi - lo + 1 = m := ⟨(hi - lo + 1).toNat, by omega⟩
  refine ⟨(m : Int), by rw [wrap_eq (by omega) (by omega)]; omega, ?_⟩
  conv => whnf
  refine dplain_val (rem_to (((w + 37 * (a + 1)) % m : Nat) : Int) rfl rfl rfl (by omega) (tmod_nat _ _) _ _) ?_
  conv => whnf
  have hlm : (w + 37 * (a + 1)) % m < m := Nat.mod_lt _ (by omega)
  generalize (w + 37 * (a + 1)) % m = q at hlm
  refine ⟨lo + (q : Int), by rw [wrap_eq (by omega) (by omega)], ?_⟩
  conv => whnf
  refine ⟨by kernel_rfl, ?_⟩
  conv => whnf
  exact ⟨⟨_, by omega, by omega, rfl⟩, k1, kF⟩
end Go.Ag
/- Layer 5: a slice of small numbers is read as data. -/
namespace Go.Ag
open Go.Proofs Go.ChangeShapes Go.WideShapes Go.Deep Go.RowKit Go.ChangeShapes
set_option maxRecDepth 100000

theorem law_u16 {n : Int} (hn : (Lit.int .u16 n).wf = true) : ∃ w : Nat, n = w ∧ w < 65536 := by
  have h2 : 0 ≤ n ∧ n < 65536 := by
    have m0 : IntKind.u16.min = 0 := by decide
    have m1 : IntKind.u16.max = 65535 := by decide
    simp [Lit.wf] at hn
    omega
  exact ⟨n.toNat, by omega, by omega⟩
def W16 (z : Int) : CV := .lit (.int .u16 z)
theorem repP_w {Φ : Nat → Option Obj} : ∀ (zs : List Int) (vs : List Value), (∀ (i : Nat) (z : Int), zs[i]? = some z → vs[i]? = some (Value.int .u16 z)) → RepP Φ (zs.map W16) vs
  | [], _, _ => trivial
  | z :: zs, [], h => by have := h 0 z rfl; simp at this
  | z :: zs, v :: vs, h => by
    have h0 := h 0 z rfl
    simp only [List.getElem?_cons_zero, Option.some.injEq] at h0
    exact ⟨h0, repP_w zs vs fun i y hy => by have := h (i + 1) y (by simpa using hy); simpa using this⟩
theorem byL_of {zs : List Int} (hw : ∀ n ∈ zs, (Lit.int .u16 n).wf = true) : ByL (zs.map W16) 0 zs.length := by
  refine ⟨fun i hi => ?_⟩
  obtain ⟨z, hz⟩ := get_some hi
  obtain ⟨w, rfl, h2⟩ := law_u16 (hw z (List.mem_of_getElem? hz))
  exact ⟨w, h2, by rw [Nat.zero_add, List.getElem?_map, hz]; rfl⟩
theorem byL_nil : ByL [] 0 0 := ⟨fun i hi => absurd hi (by omega)⟩

section
variable {H : Type} {enc : TypeId × Value → H} {w : World} {base : Nat} {spare : Nat → Bool} {held : Bool}
theorem cells109 : Try.prog.cellsOf 109 = 1 := by kernel_rfl
theorem open_by {r : Reach} {b0 : Nat} {v : Value} {x : DataW H} {ps : List MemPlace} (hv : Value.okWide Try.prog w r b0 48 v) (h : DataW.Trod enc Try.prog w base spare held 48 v x ps) : ∃ bc bo bn, ByL bc bo bn ∧ RepC (allOf w) (.sl bc bo bn) v := by
  obtain ⟨a, len, cap, rfl⟩ := okWide_slice Try.underlying48 hv
  obtain ⟨fuel, hf⟩ := h
  rcases open_ints Try.underlying48 Try.underlying109 cells109 hf with ⟨h0, _⟩ | ⟨a', len', cap', zs, hcs, hb, hl, hm, hmm, hx, hc, hw⟩
  · have h0 : [Value.slice a len cap] = [.slice none 0 0] := h0
    simp only [List.cons.injEq, and_true] at h0
    rw [h0]
    exact ⟨[], 0, 0, byL_nil, .inl ⟨rfl, .inr rfl⟩⟩
  · have hcs : [Value.slice a len cap] = [.slice (some a') len' cap'] := hcs
    simp only [List.cons.injEq, and_true] at hcs
    rw [hcs]
    clear hcs hx
    have hlm : len' ≤ zs.length := by rw [hmm]; split <;> omega
    by_cases hlen : len' = 0
    · subst hlen
      exact ⟨[], 0, 0, byL_nil, .inl ⟨rfl, .inl ⟨a', cap', rfl⟩⟩⟩
    · have hlt : (zs.take len').length = len' := by rw [List.length_take]; omega
      refine ⟨(zs.take len').map W16, 0, (zs.take len').length, byL_of (fun n hn => hw n (List.mem_of_mem_take hn)), .inr ?_⟩
      obtain ⟨b, off, spot⟩ := a'
      have hc0 := hc 0 (by omega)
      have hspot : spot = none := by simpa [Addr.add] using World.cell?_spot hc0
      subst hspot
      have plain : ∀ n, (⟨b, off, none⟩ : Addr).add n = ⟨b, off + n, none⟩ := fun n => by unfold Addr.add; split <;> simp_all
      rw [plain] at hc0
      cases hh : w.heap[b]? with
      | none => simp [World.cell?, hh] at hc0
      | some o =>
        cases o with
        | cells cs e fr =>
          refine ⟨b, off, cap', cs, e, fr, by simp [hlt], by rw [hlt]; simpa using hl, hh, repP_w _ _ fun i z hz => ?_⟩
          have hi : i < len' := by have := (List.getElem?_eq_some_iff.1 hz).1; omega
          have hz' : zs[i]? = some z := by rw [List.getElem?_take_of_lt hi] at hz; exact hz
          have hci := hc i (by omega)
          rw [show zs.getD i 0 = z by rw [List.getD_eq_getElem?_getD, hz']; rfl, plain] at hci
          simp only [World.cell?, hh] at hci
          simpa using hci
        | _ => simp [World.cell?, hh] at hc0
end
end Go.Ag
/- Layer 5: a truth of numbers; what is told of it. -/
namespace Go.Ag
open Go.Proofs

structure Tru (t : Td) (N : Nat) (P S Q : Nat → Int) : Prop where
  p : ∀ k, k < N → 0 ≤ P k ∧ P k ≤ t.most
  s : ∀ k r, t.strays[k]? = some r → r.1 ≤ S k ∧ S k ≤ r.2
  s0 : S (N - 1) = 0
  q : ∀ k, k < N → Q k = P k + (if k = 0 then 0 else S (k - 1)) - S k
  q0 : ∀ k, k < N → 0 ≤ Q k
def xOf (N : Nat) (P Q : Nat → Int) : Nat → Int := fun i => if i < 6 then sumP P (min i N) else sumP Q (min (i - 6) N)
def cnt (N : Nat) (P Q : Nat → Int) (c : Cl) : Int := if c.kind = 0 then P c.pos.toNat else if c.kind = 1 then Q c.pos.toNat else sumP P N
theorem x_low {N : Nat} (hN : N ≤ 5) (P Q : Nat → Int) {k : Nat} (hk : k ≤ N) : xOf N P Q k = sumP P k := by
  unfold xOf; rw [if_pos (by omega), Nat.min_eq_left hk]
theorem x_high {N : Nat} (P Q : Nat → Int) {k : Nat} (hk : k ≤ N) : xOf N P Q (6 + k) = sumP Q k := by
  unfold xOf; rw [if_neg (by omega), show 6 + k - 6 = k by omega, Nat.min_eq_left hk]
theorem Tru.sumQ {t : Td} {N : Nat} {P S Q : Nat → Int} (h : Tru t N P S Q) : ∀ k, k ≤ N → sumP Q k = sumP P k - (if k = 0 then 0 else S (k - 1))
  | 0, _ => by simp [sumP]
  | k + 1, hk => by
    have h1 := h.sumQ k (by omega)
    have h2 := h.q k (by omega)
    simp only [sumP]
    rw [h1, h2, if_neg (show ¬ (k + 1 = 0) by omega), show k + 1 - 1 = k by omega]
    omega
theorem Tru.full {t : Td} {N : Nat} {P S Q : Nat → Int} (h : Tru t N P S Q) (h1 : 1 ≤ N) : sumP Q N = sumP P N := by
  rw [h.sumQ N (Nat.le_refl _), if_neg (by omega), h.s0, Int.sub_zero]
theorem Tru.bound {t : Td} {N : Nat} {P S Q : Nat → Int} (h : Tru t N P S Q) (hd : validT t = true) (hN : t.n = N) : (∀ k, k ≤ N → 0 ≤ sumP P k ∧ sumP P k ≤ 300 ∧ 0 ≤ sumP Q k ∧ sumP Q k ≤ 300) ∧ (∀ k, k < N → Q k ≤ 300) := by
  have h5 := valid_nums hd
  have hp : ∀ k, k ≤ N → 0 ≤ sumP P k ∧ sumP P k ≤ 300 := fun k hk => by
    have := sumP_ge (f := P) k fun i hi => (h.p i (by omega)).1
    have := sumP_bound (f := P) (m := 60) k fun i hi => by have := (h.p i (by omega)).2; omega
    omega
  have hq : ∀ k, k ≤ N → 0 ≤ sumP Q k ∧ sumP Q k ≤ 300 := fun k hk => by
    have h1 := sumP_ge (f := Q) k fun i hi => h.q0 i (by omega)
    have h2 := sumP_mono (f := Q) (i := k) (j := N) (fun i hi => h.q0 i hi) hk
    rw [h.full (by omega)] at h2
    have := hp N (Nat.le_refl _)
    omega
  refine ⟨fun k hk => ⟨(hp k hk).1, (hp k hk).2, (hq k hk).1, (hq k hk).2⟩, fun k hk => ?_⟩
  have h1 := hq k (by omega)
  have h2 := hq (k + 1) (by omega)
  simp only [sumP] at h2
  omega
theorem tru_tr {t : Td} (hd : validT t = true) {N : Nat} (hN : t.n = N) {P S Q : Nat → Int} (h : Tru t N P S Q) (hc : ∀ c, c ∈ t.calls → c.lo ≤ cnt N P Q c ∧ cnt N P Q c ≤ c.hi) : Tr t (allN t) (xOf N P Q) := by
  have hv := validT_X hd
  have h5 := valid_nums hd
  obtain ⟨hb, hq300⟩ := h.bound hd hN
  have hx : ∀ i, 0 ≤ xOf N P Q i ∧ xOf N P Q i ≤ 300 := fun i => by
    unfold xOf
    split
    · have := hb (min i N) (Nat.min_le_right _ _); omega
    · have := hb (min (i - 6) N) (Nat.min_le_right _ _); omega
  refine (tr_iff hv).2 ⟨⟨?_, ?_, ?_, ?_⟩, ?_⟩
  · intro i j hi hj
    have := hx i; have := hx j
    unfold unkM
    split
    · rename_i h; subst h; omega
    · omega
  · intro k hk
    rw [x_low (by omega) P Q (show k ≤ N by omega), x_high P Q (show k ≤ N by omega), h.sumQ k (by omega)]
    unfold strayP
    split
    · rename_i hk2
      obtain ⟨r, hr, -⟩ := strays_ok hv hk2.1 hk2.2
      have hs := h.s (k - 1) r hr
      rw [List.getD_eq_getElem?_getD, hr, if_neg (by omega)]
      dsimp only [Option.getD_some]
      omega
    · rename_i hk2
      by_cases h0 : k = 0
      · rw [if_pos h0]; simp
      · rw [if_neg h0]
        have : k = N := by omega
        rw [this, h.s0]; simp
  · intro k hk
    rw [x_low (by omega) P Q (show k ≤ N by omega), x_low (by omega) P Q (show k + 1 ≤ N by omega)]
    have := h.p k (by omega)
    simp only [sumP]; omega
  · intro k hk
    rw [show 6 + k + 1 = 6 + (k + 1) by omega, x_high P Q (show k ≤ N by omega), x_high P Q (show k + 1 ≤ N by omega)]
    have := h.q0 k (by omega); have := hq300 k (by omega)
    simp only [sumP]; omega
  · intro i c hi _
    have hm := List.mem_of_getElem? hi
    have hcc := hc c hm
    have hok := valid_call hv hm
    unfold callP
    unfold cnt at hcc
    unfold callOk at hok
    by_cases h0 : c.kind = 0
    · rw [if_pos h0] at hcc ⊢
      rw [h0] at hok
      have hok : (inB' c.pos 0 (t.n - 1) && spB c.lo c.hi 0 300) = true := hok
      simp only [inB', Bool.and_eq_true, decide_eq_true_eq] at hok
      show c.lo ≤ xOf N P Q (c.pos.toNat + 1) - xOf N P Q c.pos.toNat ∧ xOf N P Q (c.pos.toNat + 1) - xOf N P Q c.pos.toNat ≤ c.hi
      rw [x_low (by omega) P Q (show c.pos.toNat ≤ N by omega), x_low (by omega) P Q (show c.pos.toNat + 1 ≤ N by omega)]
      simp only [sumP]; omega
    · rw [if_neg h0] at hcc ⊢
      by_cases h1 : c.kind = 1
      · rw [if_pos h1] at hcc ⊢
        rw [h1] at hok
        have hok : (inB' c.pos 0 (t.n - 1) && spB c.lo c.hi 0 300) = true := hok
        simp only [inB', Bool.and_eq_true, decide_eq_true_eq] at hok
        show c.lo ≤ xOf N P Q (6 + c.pos.toNat + 1) - xOf N P Q (6 + c.pos.toNat) ∧ xOf N P Q (6 + c.pos.toNat + 1) - xOf N P Q (6 + c.pos.toNat) ≤ c.hi
        rw [show 6 + c.pos.toNat + 1 = 6 + (c.pos.toNat + 1) by omega, x_high P Q (show c.pos.toNat ≤ N by omega), x_high P Q (show c.pos.toNat + 1 ≤ N by omega)]
        simp only [sumP]; omega
      · rw [if_neg h1] at hcc ⊢
        show c.lo ≤ xOf N P Q t.n.toNat - xOf N P Q 0 ∧ xOf N P Q t.n.toNat - xOf N P Q 0 ≤ c.hi
        rw [show t.n.toNat = N by omega, x_low (by omega) P Q (Nat.le_refl N), x_low (by omega) P Q (Nat.zero_le N)]
        have e : sumP P 0 = 0 := rfl
        omega
theorem tr_look {t : Td} (hd : validT t = true) {x : Nat → Int} (h : Tr t (allN t) x) : ∃ d, lookF t (allN t) = some d := by
  cases hl : lookF t (allN t) with
  | none => exact absurd h (look_none (validT_X hd) hl x)
  | some d => exact ⟨d, rfl⟩
theorem tr_span {t : Td} (hd : validT t = true) {x : Nat → Int} (h : Tr t (allN t) x) {f g : Nat} (hf : f < 12) (hg : g < 12) : ∃ a b : Int, spanR t true f g = ((a, b), 0) ∧ a ≤ x g - x f ∧ x g - x f ≤ b := by
  obtain ⟨d, hl⟩ := tr_look hd h
  refine ⟨(spanD d f g).1, (spanD d f g).2, by unfold spanR; rw [hd, hl]; rfl, ?_⟩
  exact (span_is (validT_X hd) hl hf hg).of x h
theorem tr_false {t : Td} (hd : validT t = true) {x : Nat → Int} (h : Tr t (allN t) x) : falseR t = (0, 0, 0) ∧ suspR t = (0, 0) ∧ clashR t = (0, 4) := by
  obtain ⟨d, hl⟩ := tr_look hd h
  have hcan : canB (lookF t (allN t)) = true := by rw [hl]; rfl
  have h0 : canL t 0 = true := by
    unfold canL
    rw [show diffN (allN t) 0 = allN t by apply Nat.eq_of_testBit_eq; intro i; rw [diffN_bit, Nat.zero_testBit]; simp]
    exact hcan
  have hf : falseS t = some 0 := by
    cases hfs : falseS t with
    | none => exact absurd h0 (by rw [false_no hd hfs (Nat.zero_le _)]; decide)
    | some y =>
      rcases (false_is hd hfs).least 0 (Nat.zero_le _) h0 with h1 | h1
      · rw [h1]
      · exfalso
        unfold Less at h1
        have : popB 0 = 0 := by decide
        omega
  have hs : suspN t 0 = 0 := by
    apply Nat.eq_of_testBit_eq
    intro i
    rw [Nat.zero_testBit]
    cases hb : (suspN t 0).testBit i
    · rfl
    · obtain ⟨z, h1, h2, h3, h4⟩ := (susp_bit hd).1 hb
      exfalso
      have : z = 0 := pop_zero z (by have := valid_nums hd; have := allN_lt hd; omega) (by rw [h2]; decide)
      rw [this, Nat.zero_testBit] at h4
      exact absurd h4 (by decide)
  refine ⟨by unfold falseR; rw [hd, hf]; rfl, by unfold suspR; rw [hd, hf]; show (suspN t 0, (0 : Int)) = _; rw [hs], by unfold clashR; rw [hd, hcan]; rfl⟩
theorem tr_fits {t : Td} (hd : validT t = true) {N : Nat} (hN : t.n = N) {P S Q : Nat → Int} (hT : Tru t N P S Q) (h : Tr t (allN t) (xOf N P Q)) {c : Cl} (hc : callOk t.n c = true) : ∃ F : Int, fitsR t c = (F, 0) ∧ (F = 2 → c.lo ≤ cnt N P Q c ∧ cnt N P Q c ≤ c.hi) ∧ (F = 0 → ¬ (c.lo ≤ cnt N P Q c ∧ cnt N P Q c ≤ c.hi)) := by
  obtain ⟨d, hl⟩ := tr_look hd h
  have h5 := valid_nums hd
  obtain ⟨f, g, hf, hg, hcp, hm⟩ : ∃ f g : Nat, f < 12 ∧ g < 12 ∧ callP t.n c = ⟨f, g, c.lo, c.hi⟩ ∧ xOf N P Q g - xOf N P Q f = cnt N P Q c := by
    unfold callOk at hc
    unfold callP cnt
    by_cases h0 : c.kind = 0
    · rw [if_pos h0, if_pos h0]
      rw [h0] at hc
      have hok : (inB' c.pos 0 (t.n - 1) && spB c.lo c.hi 0 300) = true := hc
      simp only [inB', Bool.and_eq_true, decide_eq_true_eq] at hok
      refine ⟨c.pos.toNat, c.pos.toNat + 1, by omega, by omega, rfl, ?_⟩
      rw [x_low (by omega) P Q (show c.pos.toNat ≤ N by omega), x_low (by omega) P Q (show c.pos.toNat + 1 ≤ N by omega)]
      simp only [sumP]; omega
    · rw [if_neg h0, if_neg h0]
      by_cases h1 : c.kind = 1
      · rw [if_pos h1, if_pos h1]
        rw [h1] at hc
        have hok : (inB' c.pos 0 (t.n - 1) && spB c.lo c.hi 0 300) = true := hc
        simp only [inB', Bool.and_eq_true, decide_eq_true_eq] at hok
        refine ⟨6 + c.pos.toNat, 6 + c.pos.toNat + 1, by omega, by omega, rfl, ?_⟩
        rw [show 6 + c.pos.toNat + 1 = 6 + (c.pos.toNat + 1) by omega, x_high P Q (show c.pos.toNat ≤ N by omega), x_high P Q (show c.pos.toNat + 1 ≤ N by omega)]
        simp only [sumP]; omega
      · rw [if_neg h1, if_neg h1]
        refine ⟨0, t.n.toNat, by omega, by omega, rfl, ?_⟩
        rw [show t.n.toNat = N by omega, x_low (by omega) P Q (Nat.le_refl N), x_low (by omega) P Q (Nat.zero_le N)]
        have e : sumP P 0 = 0 := rfl
        omega
  have hsp : (spanD d f g).1 ≤ xOf N P Q g - xOf N P Q f ∧ xOf N P Q g - xOf N P Q f ≤ (spanD d f g).2 := (span_is (validT_X hd) hl hf hg).of _ h
  rw [hm] at hsp
  have hs : spanD d f g = ((spanD d f g).1, (spanD d f g).2) := rfl
  refine ⟨fitsN t c d, fitsR_of hd hc hl, ?_, ?_⟩
  · intro h2
    unfold fitsN at h2
    rw [hcp, missB_span hs] at h2
    split at h2
    · rename_i hb
      simp at hb
      omega
    · split at h2 <;> cases h2
  · intro h2 hin
    unfold fitsN at h2
    rw [more_can hl, hcp, missB_span hs, exclB_span hs] at h2
    split at h2
    · cases h2
    · split at h2
      · cases h2
      · rename_i hb
        simp at hb
        omega
end Go.Ag
/- Layer 5: lists of numbers that grow. -/
namespace Go.Ag
open Go.Proofs
set_option maxRecDepth 100000

def row1 (n : Int) : List CV := [I n]
theorem row1_len (l : List Int) : ∀ r ∈ l.map row1, r.length = 1 := by intro r hr; obtain ⟨x, _, rfl⟩ := List.mem_map.1 hr; rfl
theorem flat_row1 : ∀ l : List Int, (l.map row1).flatten = l.map I
  | [] => rfl
  | x :: l => by simp only [List.map_cons, List.flatten_cons, flat_row1 l]; rfl
theorem RowsL.ints {h : Heap} {o m : Nat} {l : List Int} (R : RowsL 1 h (.msl o 1 0 m m) (l.map row1)) : m = l.length ∧ Heap.at h o = .blk ((l.map I).map .c) := by
  rcases R with ⟨h1, _⟩ | ⟨o', h1, hb, _, _⟩
  · cases h1
  · simp only [AV.msl.injEq] at h1
    obtain ⟨rfl, _, _, rfl, _⟩ := h1
    exact ⟨by rw [List.length_map], by rw [hb, flat_row1]⟩
theorem RowsL.nils {h : Heap} {l : List Int} (R : RowsL 1 h nilA (l.map row1)) : l = [] := by
  rcases R with ⟨_, h1⟩ | ⟨o', h1, _⟩
  · simpa using h1
  · cases h1
theorem U51 : Try.prog.underlying 51 = some (.slice 3) := by kernel_rfl
theorem S3 : slicePart Try.prog 3 = some 1 := by kernel_rfl

/-- Where it is. -/
structure TH (v : TV) (bc : List CV) (bo bn : Nat) (H0 : Heap) (A Y : Nat) (a : Nat) (la lb lc : List Int) (oa ob oc : AV) (h : Heap) : Prop where
  b0 : Heap.at h H0.n = v.blk
  bA : Heap.at h A = .blk [.c (I a)]
  bY : Heap.at h Y = .blk [.c (.sl bc bo bn)]
  hA : A < H0.n
  hY : Y < H0.n
  hAY : A ≠ Y
  n : H0.n + 1 ≤ h.n
  ra : RowsL 1 h oa (la.map row1)
  rb : RowsL 1 h ob (lb.map row1)
  rc : RowsL 1 h oc (lc.map row1)
  ia : ∀ o, outId oa = some o → H0.n + 1 ≤ o
  ib : ∀ o, outId ob = some o → H0.n + 1 ≤ o
  ic : ∀ o, outId oc = some o → H0.n + 1 ≤ o
  dab : ∀ o, outId oa = some o → outId ob ≠ some o
  dac : ∀ o, outId oa = some o → outId oc ≠ some o
  dbc : ∀ o, outId ob = some o → outId oc ≠ some o
  old : ∀ i, i < H0.n → i ≠ A → Heap.at h i = Heap.at H0 i
section
variable {v : TV} {bc : List CV} {bo bn : Nat} {H0 : Heap} {A Y a : Nat} {la lb lc : List Int} {oa ob oc : AV} {h h' : Heap}
theorem TH.up (e : TH v bc bo bn H0 A Y a la lb lc oa ob oc h) (F : Foot none' h h') : TH v bc bo bn H0 A Y a la lb lc oa ob oc h' := by
  have q1 := e.hA; have q2 := e.hY; have q3 := e.n; have q4 := F.n
  exact ⟨(F.keep _ (by omega) (fun x => x)).trans e.b0, (F.keep _ (by omega) (fun x => x)).trans e.bA, (F.keep _ (by omega) (fun x => x)).trans e.bY, e.hA, e.hY, e.hAY, by omega,
    e.ra.ext q4 (fun i hi _ => F.keep i hi (fun x => x)), e.rb.ext q4 (fun i hi _ => F.keep i hi (fun x => x)), e.rc.ext q4 (fun i hi _ => F.keep i hi (fun x => x)), e.ia, e.ib, e.ic, e.dab, e.dac, e.dbc, fun i hi hne => (F.keep i (by omega) (fun x => x)).trans (e.old i hi hne)⟩
theorem TH.new (e : TH v bc bo bn H0 A Y a la lb lc oa ob oc h) (x y : AB) : TH v bc bo bn H0 A Y a la lb lc oa ob oc ((h.push .dead x).set .dead h.n y) := e.up (footNew h x y)
theorem TH.draw (e : TH v bc bo bn H0 A Y a la lb lc oa ob oc h) (F : Foot (fun i => i = A) h h') (hA : Heap.at h' A = .blk [.c (I ((a + 1 : Nat) : Int))]) : TH v bc bo bn H0 A Y (a + 1) la lb lc oa ob oc h' := by
  have q1 := e.hA; have q2 := e.hY; have q3 := e.n; have q4 := F.n; have q5 := e.hAY
  exact ⟨(F.keep _ (by omega) (by omega)).trans e.b0, hA, (F.keep _ (by omega) (by omega)).trans e.bY, e.hA, e.hY, e.hAY, by omega,
    e.ra.ext q4 (fun i hi ho => F.keep i hi (by have := e.ia i ho; omega)), e.rb.ext q4 (fun i hi ho => F.keep i hi (by have := e.ib i ho; omega)), e.rc.ext q4 (fun i hi ho => F.keep i hi (by have := e.ic i ho; omega)), e.ia, e.ib, e.ic, e.dab, e.dac, e.dbc, fun i hi hne => (F.keep i (by omega) hne).trans (e.old i hi hne)⟩
theorem TH.appa (e : TH v bc bo bn H0 A Y a la lb lc oa ob oc h) {z : Int} {rr : SOut} (hR : RowsL 1 (after (h.push .dead (.blk ((row1 z).map .c))) rr) rr.val (la.map row1 ++ [row1 z])) (hold : ∀ i, i < h.n → outId oa ≠ some i → Heap.at (after (h.push .dead (.blk ((row1 z).map .c))) rr) i = Heap.at h i)
    (hn' : h.n ≤ (after (h.push .dead (.blk ((row1 z).map .c))) rr).n) (hfresh : ∀ o, outId rr.val = some o → h.n ≤ o) : TH v bc bo bn H0 A Y a (la ++ [z]) lb lc rr.val ob oc (after (h.push .dead (.blk ((row1 z).map .c))) rr) := by
  have q1 := e.hA; have q2 := e.hY; have q3 := e.n
  have lo : ∀ i, i ≤ H0.n → Heap.at (after (h.push .dead (.blk ((row1 z).map .c))) rr) i = Heap.at h i := fun i hi => hold i (by omega) (fun h2 => by have := e.ia _ h2; omega)
  exact ⟨(lo _ (by omega)).trans e.b0, (lo _ (by omega)).trans e.bA, (lo _ (by omega)).trans e.bY, e.hA, e.hY, e.hAY, by omega, by rw [List.map_append]; exact hR, e.rb.ext hn' (fun i hi ho => hold i hi (fun h2 => e.dab i h2 ho)), e.rc.ext hn' (fun i hi ho => hold i hi (fun h2 => e.dac i h2 ho)), fun o ho => Nat.le_trans e.n (hfresh o ho), e.ib, e.ic, fun o h1 h2 => by have := hfresh o h1; have := e.rb.lt o h2; omega, fun o h1 h2 => by have := hfresh o h1; have := e.rc.lt o h2; omega, e.dbc, fun i hi hne => (lo i (by omega)).trans (e.old i hi hne)⟩
theorem TH.appb (e : TH v bc bo bn H0 A Y a la lb lc oa ob oc h) {z : Int} {rr : SOut} (hR : RowsL 1 (after (h.push .dead (.blk ((row1 z).map .c))) rr) rr.val (lb.map row1 ++ [row1 z])) (hold : ∀ i, i < h.n → outId ob ≠ some i → Heap.at (after (h.push .dead (.blk ((row1 z).map .c))) rr) i = Heap.at h i)
    (hn' : h.n ≤ (after (h.push .dead (.blk ((row1 z).map .c))) rr).n) (hfresh : ∀ o, outId rr.val = some o → h.n ≤ o) : TH v bc bo bn H0 A Y a la (lb ++ [z]) lc oa rr.val oc (after (h.push .dead (.blk ((row1 z).map .c))) rr) := by
  have q1 := e.hA; have q2 := e.hY; have q3 := e.n
  have lo : ∀ i, i ≤ H0.n → Heap.at (after (h.push .dead (.blk ((row1 z).map .c))) rr) i = Heap.at h i := fun i hi => hold i (by omega) (fun h2 => by have := e.ib _ h2; omega)
  exact ⟨(lo _ (by omega)).trans e.b0, (lo _ (by omega)).trans e.bA, (lo _ (by omega)).trans e.bY, e.hA, e.hY, e.hAY, by omega, e.ra.ext hn' (fun i hi ho => hold i hi (fun h2 => e.dab i ho h2)), by rw [List.map_append]; exact hR, e.rc.ext hn' (fun i hi ho => hold i hi (fun h2 => e.dbc i h2 ho)), e.ia, fun o ho => Nat.le_trans e.n (hfresh o ho), e.ic, fun o h1 h2 => by have := hfresh o h2; have := e.ra.lt o h1; omega, e.dac, fun o h1 h2 => by have := hfresh o h1; have := e.rc.lt o h2; omega, fun i hi hne => (lo i (by omega)).trans (e.old i hi hne)⟩
theorem TH.appc (e : TH v bc bo bn H0 A Y a la lb lc oa ob oc h) {z : Int} {rr : SOut} (hR : RowsL 1 (after (h.push .dead (.blk ((row1 z).map .c))) rr) rr.val (lc.map row1 ++ [row1 z])) (hold : ∀ i, i < h.n → outId oc ≠ some i → Heap.at (after (h.push .dead (.blk ((row1 z).map .c))) rr) i = Heap.at h i)
    (hn' : h.n ≤ (after (h.push .dead (.blk ((row1 z).map .c))) rr).n) (hfresh : ∀ o, outId rr.val = some o → h.n ≤ o) : TH v bc bo bn H0 A Y a la lb (lc ++ [z]) oa ob rr.val (after (h.push .dead (.blk ((row1 z).map .c))) rr) := by
  have q1 := e.hA; have q2 := e.hY; have q3 := e.n
  have lo : ∀ i, i ≤ H0.n → Heap.at (after (h.push .dead (.blk ((row1 z).map .c))) rr) i = Heap.at h i := fun i hi => hold i (by omega) (fun h2 => by have := e.ic _ h2; omega)
  exact ⟨(lo _ (by omega)).trans e.b0, (lo _ (by omega)).trans e.bA, (lo _ (by omega)).trans e.bY, e.hA, e.hY, e.hAY, by omega, e.ra.ext hn' (fun i hi ho => hold i hi (fun h2 => e.dac i ho h2)), e.rb.ext hn' (fun i hi ho => hold i hi (fun h2 => e.dbc i ho h2)), by rw [List.map_append]; exact hR, e.ia, e.ib, fun o ho => Nat.le_trans e.n (hfresh o ho), e.dab, fun o h1 h2 => by have := hfresh o h2; have := e.ra.lt o h1; omega, fun o h1 h2 => by have := hfresh o h2; have := e.rb.lt o h1; omega, fun i hi hne => (lo i (by omega)).trans (e.old i hi hne)⟩
end
end Go.Ag
/- Layer 5: a tally whose calls are right, in code. -/
namespace Go.Ag
open Go.Proofs
set_option maxRecDepth 100000

def strayAt (t : Td) (l : List Int) : Prop := l.length = t.strays.length ∧ ∀ (k : Nat) (r : Int × Int) (z : Int), t.strays[k]? = some r → l[k]? = some z → r.1 ≤ z ∧ z ≤ r.2
set_option maxHeartbeats 16000000 in
theorem truly_ret {v : TV} {t : Td} (hv : v.Is t) (hd : validT t = true) {N : Nat} (hN : t.n = N) {bc : List CV} {bo bn : Nat} (hb : ByL bc bo bn) (H0 : Heap) {A Y : Nat} (hA : A < H0.n) (hY : Y < H0.n) (hAY : A ≠ Y) (bA : Heap.at H0 A = .blk [.c (I 0)]) (bY : Heap.at H0 Y = .blk [.c (.sl bc bo bn)]) :
    ∃ e h', CallOk Try.prog 32 [.c v.cv, drawC A Y] H0 .no e h' .no ∧ (e = .ret (.c (.tuple [nilC, nilC, nilC, B false])) ∨ ∃ (la lb lc : List Int) (oa ob oc : AV) (a : Nat), TH v bc bo bn H0 A Y a la lb lc oa ob oc h' ∧ a ≤ 10 ∧ la.length = N ∧ lb.length = t.strays.length ∧ lc.length = N ∧
      Tru t N (fun k => la.getD k 0) (fun k => lb.getD k 0) (fun k => lc.getD k 0) ∧ e = .ret (mkTuple [oa, ob, oc, .c (B true)])) := by
  have h5 := valid_nums hd
  have e1 := hv.n; have e2 := hv.most; have e3 := hv.sn
  have e1 : v.n = (N : Int) := e1.trans hN
  refine call_by (hm := false) Try.func32 rfl ?_
  conv => whnf
  have hT0 : TH v bc bo bn H0 A Y 0 [] [] [] nilA nilA nilA (H0.push .dead v.blk) :=
    ⟨at_push_self _ _, (at_push_lt _ _ hA).trans bA, (at_push_lt _ _ hY).trans bY, hA, hY, hAY, by rw [push_n]; omega, .inl ⟨rfl, rfl⟩, .inl ⟨rfl, rfl⟩, .inl ⟨rfl, rfl⟩, by simp [outId], by simp [outId], by simp [outId], by simp [outId], by simp [outId], by simp [outId], fun i hi _ => at_push_lt _ _ hi⟩
  refine ⟨v.blk, at_push_self _ _, ?_⟩
  conv => whnf
  refine loop_by (I := fun n st => ∃ (k : Nat) (h : Heap) (la : List Int) (oa : AV), k ≤ N ∧ n = N - k ∧ TH v bc bo bn H0 A Y k la [] [] oa nilA nilA h ∧ la.length = k ∧ (∀ z ∈ la, 0 ≤ z ∧ z ≤ t.most) ∧
    Has st 75 [(1, drawC A Y), (2, .ptr H0.n 0), (4, oa), (5, nilA), (6, nilA), (7, .c (B false)), (13, .c (I v.n)), (14, .c (I k))] [] none h) ?_ (k := N)
    ⟨0, _, [], nilA, Nat.zero_le _, rfl, hT0, rfl, by simp, rfl, ⟨rfl, rfl, rfl, rfl, rfl, rfl, rfl, rfl, trivial⟩, rfl, rfl, rfl, rfl⟩
  rintro n st ⟨k, h, la, oa, hk, rfl, hT, hl, hz, hs1⟩
  refine hs1.run (hm := false) ?_
  conv => whnf
  cases hc : decide ((k : Int) < v.n)
  case true =>
    have hkN : k < N := by simp at hc; omega
    obtain ⟨e, h2, cd, ⟨z, z1, z2, rfl⟩, dA2, F2⟩ := draw_ret hb (lo := 0) (hi := v.most) (by omega) (by omega) (by omega) (a := k) (by omega) hT.bA hT.bY (by have := hT.n; omega) (by have := hT.n; omega) hAY
    have hD := hT.draw F2 dA2
    have hlim : (la.map row1).length + 1 ≤ limit := by rw [List.length_map]; unfold limit; omega
    rcases hT.ra.shape with rfl | ⟨o, m, rfl⟩
    all_goals
      conv => whnf
      refine ⟨_, hT.b0, ?_⟩
      conv => whnf
      refine .ret (mkspan_ret _ _) rfl ?_
      conv => whnf
      refine .inl _ h2 .no cd ?_
      conv => whnf
      obtain ⟨rr, hrr, hR', hold, hn', hfresh⟩ := rows_append (row := row1 z) (t := 51) (u := 51) hD.ra U51 U51 rfl S3 rfl (row1_len la) rfl hlim
      have hE := hD.appa hR' hold hn' hfresh
      obtain ⟨rv, rreads, rupds, rfresh⟩ := rr
      refine ⟨_, hrr, ?_⟩
      conv => whnf
      refine ⟨((k + 1 : Nat) : Int), by rw [wrap_eq (by omega) (by omega)]; omega, ?_⟩
      conv => whnf
      refine ⟨N - (k + 1), by omega, k + 1, _, la ++ [z], rv, by omega, rfl, hE, by rw [List.length_append, hl]; rfl, fun y hy => ?_, rfl, ⟨rfl, rfl, rfl, rfl, rfl, rfl, rfl, rfl, trivial⟩, rfl, rfl, rfl, rfl⟩
      rcases List.mem_append.1 hy with h1 | h1
      · exact hz y h1
      · rw [List.mem_singleton] at h1; subst h1; omega
  have hkN : k = N := by simp at hc; omega
  subst hkN
  conv => whnf
  refine ⟨_, hT.b0, ?_⟩
  conv => whnf
  obtain ⟨M, hM⟩ : ∃ M, M = t.strays.length := ⟨_, rfl⟩
  have hMN : M = k - 1 := by omega
  rw [← hM] at e3
  refine loop_by (I := fun n st => ∃ (j : Nat) (h : Heap) (lb : List Int) (ob : AV), j ≤ M ∧ n = M - j ∧ TH v bc bo bn H0 A Y (k + j) la lb [] oa ob nilA h ∧ lb.length = j ∧ (∀ (i : Nat) (r : Int × Int) (z : Int), t.strays[i]? = some r → lb[i]? = some z → r.1 ≤ z ∧ z ≤ r.2) ∧
    Has st 75 [(1, drawC A Y), (2, .ptr H0.n 0), (4, oa), (5, ob), (6, nilA), (7, .c (B false)), (26, .c (.sl v.sc v.so v.sn)), (27, .c (I v.sn)), (28, .c (I j))] [] none h) ?_ (k := M)
    ⟨0, _, [], nilA, Nat.zero_le _, rfl, hT, rfl, by simp, rfl, ⟨rfl, rfl, rfl, rfl, rfl, rfl, rfl, rfl, rfl, trivial⟩, rfl, rfl, rfl, rfl⟩
  clear hT hs1
  rintro n st ⟨j, h, lb, ob, hj, rfl, hT, hlb, hzb, hs1⟩
  refine hs1.run (hm := false) ?_
  conv => whnf
  cases hc : decide ((j : Int) < (v.sn : Int))
  case true =>
    have hjM : j < M := by simp at hc; omega
    obtain ⟨r, hr⟩ := get_some (l := t.strays) (show j < t.strays.length by omega)
    obtain ⟨r', hr', hr1, hr2, hr3⟩ := strays_ok (validT_X hd) (k := j + 1) (by omega) (by omega)
    have hrr' : r' = r := by rw [show j + 1 - 1 = j by omega, hr] at hr'; exact (Option.some.inj hr').symm
    subst hrr'
    have hW := hT.new (.blk [AV.lit (.int .i64 0), AV.lit (.int .i64 0)]) (.blk [.c (I r'.1), .c (I r'.2)])
    obtain ⟨e, h2, cd, ⟨z, z1, z2, rfl⟩, dA2, F2⟩ := draw_ret hb (lo := r'.1) (hi := r'.2) (by omega) (by omega) (by omega) (a := k + j) (by omega) hW.bA hW.bY (by have := hW.n; omega) (by have := hW.n; omega) hAY
    have hD := hW.draw F2 dA2
    have hlim : (lb.map row1).length + 1 ≤ limit := by rw [List.length_map]; unfold limit; omega
    rcases hT.rb.shape with rfl | ⟨o, m, rfl⟩
    all_goals
      conv => whnf
      refine ⟨⟨by omega, by omega⟩, ?_⟩
      conv => whnf
      refine ⟨_, hv.stray hr, ?_⟩
      conv => whnf
      refine ⟨_, at_push_self _ _, ?_⟩
      conv => whnf
      refine ⟨_, at_new _ _ _, ?_⟩
      conv => whnf
      refine .inl _ h2 .no cd ?_
      conv => whnf
      obtain ⟨rr, hrr, hR', hold, hn', hfresh⟩ := rows_append (row := row1 z) (t := 51) (u := 51) hD.rb U51 U51 rfl S3 rfl (row1_len lb) rfl hlim
      have hE := hD.appb hR' hold hn' hfresh
      obtain ⟨rv, rreads, rupds, rfresh⟩ := rr
      refine ⟨_, hrr, ?_⟩
      conv => whnf
      refine ⟨((j + 1 : Nat) : Int), by rw [wrap_eq (by omega) (by omega)]; omega, ?_⟩
      conv => whnf
      refine ⟨M - (j + 1), by omega, j + 1, _, lb ++ [z], rv, by omega, rfl, hE, by rw [List.length_append, hlb]; rfl, fun i r2 y hr2' hy => ?_, rfl, ⟨rfl, rfl, rfl, rfl, rfl, rfl, rfl, rfl, rfl, trivial⟩, rfl, rfl, rfl, rfl⟩
      by_cases hi : i < j
      · rw [List.getElem?_append_left (by omega)] at hy
        exact hzb i r2 y hr2' hy
      · have : i = j := by
          have := (List.getElem?_eq_some_iff.1 hy).1
          rw [List.length_append, hlb] at this
          simp at this; omega
        subst this
        rw [List.getElem?_append_right (by omega), show i - lb.length = 0 by omega] at hy
        have hy' : z = y := by simpa using hy
        have hr2'' : r2 = r' := by rw [hr] at hr2'; exact (Option.some.inj hr2').symm
        subst hy'
        subst hr2''
        exact ⟨z1, z2⟩
  have hjM : j = M := by simp at hc; omega
  subst hjM
  clear hc
  rcases hT.ra with ⟨_, hla⟩ | ⟨ia, hoa, _, _, _⟩
  · exfalso
    have : la = [] := by simpa using hla
    rw [this] at hl
    simp at hl
    omega
  subst hoa
  have hlm : (la.map row1).length = k := by rw [List.length_map]; exact hl
  obtain ⟨P, hP⟩ : ∃ P : Nat → Int, P = fun q => la.getD q 0 := ⟨_, rfl⟩
  obtain ⟨S, hS⟩ : ∃ S : Nat → Int, S = fun q => lb.getD q 0 := ⟨_, rfl⟩
  obtain ⟨pen, hpen⟩ : ∃ pen : Nat → Int, pen = fun q => P q + (if q = 0 then 0 else S (q - 1)) - S q := ⟨_, rfl⟩
  have hPb : ∀ q, q < k → la[q]? = some (P q) ∧ 0 ≤ P q ∧ P q ≤ t.most := fun q hq => by
    obtain ⟨y, hy⟩ := get_some (l := la) (show q < la.length by omega)
    have : P q = y := by rw [hP]; dsimp only; rw [List.getD_eq_getElem?_getD, hy]; rfl
    rw [this]
    exact ⟨hy, hz y (List.mem_of_getElem? hy)⟩
  have hSb : ∀ q, q < j → lb[q]? = some (S q) ∧ -3 ≤ S q ∧ S q ≤ 3 := fun q hq => by
    obtain ⟨y, hy⟩ := get_some (l := lb) (show q < lb.length by omega)
    have : S q = y := by rw [hS]; dsimp only; rw [List.getD_eq_getElem?_getD, hy]; rfl
    rw [this]
    obtain ⟨r, hr, h1, h2, h3⟩ := strays_ok (validT_X hd) (k := q + 1) (by omega) (by omega)
    have := hzb q r y hr hy
    exact ⟨hy, by omega, by omega⟩
  have hS0 : ∀ q, j ≤ q → S q = 0 := fun q hq => by rw [hS]; dsimp only; rw [List.getD_eq_getElem?_getD, List.getElem?_eq_none (by omega)]; rfl
  have hreadA : ∀ q, q < k → readVar Try.prog 3 ((la.map I).map .c) (0 + (q : Int).toNat * Try.prog.types[3].size) = some (.c (I (P q))) := fun q hq => readVar_map (by
    show (la.map I)[0 + (q : Int).toNat * 1]? = some (I (P q))
    rw [show 0 + (q : Int).toNat * 1 = q by omega, List.getElem?_map, (hPb q hq).1]; rfl)
  have hreadB : ∀ q, q < j → readVar Try.prog 3 ((lb.map I).map .c) (0 + (q : Int).toNat * Try.prog.types[3].size) = some (.c (I (S q))) := fun q hq => readVar_map (by
    show (lb.map I)[0 + (q : Int).toNat * 1]? = some (I (S q))
    rw [show 0 + (q : Int).toNat * 1 = q by omega, List.getElem?_map, (hSb q hq).1]; rfl)
  have final : ∀ {lc : List Int}, (∀ q, q < k → lc.getD q 0 = pen q ∧ 0 ≤ pen q) → Tru t k (fun k => la.getD k 0) (fun k => lb.getD k 0) (fun k => lc.getD k 0) := fun {lc} hpc => by
    have hP' : ∀ q, la.getD q 0 = P q := fun q => by rw [hP]
    have hS' : ∀ q, lb.getD q 0 = S q := fun q => by rw [hS]
    refine ⟨fun q hq => ?_, fun q r hr => ?_, ?_, fun q hq => ?_, fun q hq => ?_⟩
    · rw [hP']; exact (hPb q hq).2
    · have hq : q < j := by have := (List.getElem?_eq_some_iff.1 hr).1; omega
      rw [hS']
      exact hzb q r _ hr (hSb q hq).1
    · rw [hS']; exact hS0 _ (by omega)
    · rw [(hpc q hq).1, hP', hS', hS', hpen]
    · rw [(hpc q hq).1]; exact (hpc q hq).2
  have hpe : ∀ q, pen q = P q + (if q = 0 then 0 else S (q - 1)) - S q := fun q => by rw [hpen]
  clear hpen hP hS
  rcases hT.rb with ⟨hob, hlb0⟩ | ⟨ib, hob, _, _, _⟩
  · have hj0 : j = 0 := by
      have : lb = [] := by simpa using hlb0
      rw [this] at hlb; simpa using hlb.symm
    subst hob
    rw [hlm] at hT
    rw [hlm]
    conv => whnf
    refine loop_by (I := fun n st => ∃ (i : Nat) (h : Heap) (lc : List Int) (oc : AV), i ≤ k ∧ n = k - i ∧ TH v bc bo bn H0 A Y (k + j) la lb lc (.msl ia 1 0 k k) nilA oc h ∧ lc.length = i ∧ (∀ q, q < i → lc.getD q 0 = pen q ∧ 0 ≤ pen q) ∧
      Has st 75 [(4,   .msl ia 1 0 k k), (5, nilA), (6, oc), (7, .c (B false)), (39,   .msl ia 1 0 k k), (40, .c (I k)), (41, .c (I i))] [] none h) ?_ (k := k)
      ⟨0, _, [], nilA, Nat.zero_le _, rfl, hT, rfl, fun q hq => absurd hq (by omega), rfl, ⟨rfl, rfl, rfl, rfl, rfl, rfl, rfl, trivial⟩, rfl, rfl, rfl, rfl⟩
    clear hT hs1
    rintro n st ⟨i, h, lc, oc, hi, rfl, hT, hlc, hpc, hs1⟩
    refine hs1.run (hm := false) ?_
    conv => whnf
    cases hc : decide ((i : Int) < (k : Int))
    case false =>
      have hik : i = k := by simp at hc; omega
      subst hik
      conv => whnf
      exact .inr ⟨la, lb, lc, _, _, oc, _, hT, by omega, hl, by omega, hlc, final hpc, rfl⟩
    have hik : i < k := by simp at hc; omega
    have hbA := hT.ra.ints.2
    have next : 0 ≤ pen i → ∀ q, q < i + 1 → (lc ++ [pen i]).getD q 0 = pen q ∧ 0 ≤ pen q := fun hp q hq => by
      by_cases hqi : q < i
      · have := hpc q hqi
        rw [List.getD_eq_getElem?_getD, List.getElem?_append_left (by omega), ← List.getD_eq_getElem?_getD]
        exact this
      · have : q = i := by omega
        subst this
        rw [List.getD_eq_getElem?_getD, List.getElem?_append_right (by omega), show q - lc.length = 0 by omega]
        exact ⟨rfl, hp⟩
    have hlim : (lc.map row1).length + 1 ≤ limit := by rw [List.length_map]; unfold limit; omega
    have hi0 : i = 0 := by omega
    rcases hT.rc.shape with rfl | ⟨o, m, rfl⟩
    all_goals
      conv => whnf
      refine ⟨⟨rfl, by omega, by omega⟩, ?_⟩
      conv => whnf
      refine ⟨_, hbA, ?_⟩
      conv => whnf
      refine look_read (hreadA i hik) ?_
      conv => whnf
      rw [show decide ((i : Int) > 0) = false by simp; omega]
      conv => whnf
      rw [show P i = pen i by rw [hpe, if_pos (by omega), hS0 i (by omega)]; omega]
      cases hneg : decide (pen i < 0)
      case true =>
        conv => whnf
        exact .inl rfl
      have hpos : 0 ≤ pen i := by simp at hneg; omega
      obtain ⟨rr, hrr, hR', hold, hn', hfresh⟩ := rows_append (row := row1 (pen i)) (t := 51) (u := 51) hT.rc U51 U51 rfl S3 rfl (row1_len lc) rfl hlim
      have hE := hT.appc hR' hold hn' hfresh
      obtain ⟨rv, rreads, rupds, rfresh⟩ := rr
      conv => whnf
      refine ⟨_, hrr, ?_⟩
      conv => whnf
      refine ⟨((i + 1 : Nat) : Int), by rw [wrap_eq (by omega) (by omega)]; omega, ?_⟩
      conv => whnf
      exact ⟨k - (i + 1), by omega, i + 1, _, lc ++ [pen i], rv, by omega, rfl, hE, by rw [List.length_append, hlc]; rfl, next hpos, rfl, ⟨rfl, rfl, rfl, rfl, rfl, rfl, rfl, trivial⟩, rfl, rfl, rfl, rfl⟩
  · subst hob
    have hlj : (lb.map row1).length = j := by rw [List.length_map]; exact hlb
    rw [hlm, hlj] at hT
    rw [hlm, hlj]
    conv => whnf
    refine loop_by (I := fun n st => ∃ (i : Nat) (h : Heap) (lc : List Int) (oc : AV), i ≤ k ∧ n = k - i ∧ TH v bc bo bn H0 A Y (k + j) la lb lc (.msl ia 1 0 k k) (.msl ib 1 0 j j) oc h ∧ lc.length = i ∧ (∀ q, q < i → lc.getD q 0 = pen q ∧ 0 ≤ pen q) ∧
      Has st 75 [(4,   .msl ia 1 0 k k), (5, (.msl ib 1 0 j j)), (6, oc), (7, .c (B false)), (39,   .msl ia 1 0 k k), (40, .c (I k)), (41, .c (I i))] [] none h) ?_ (k := k)
      ⟨0, _, [], nilA, Nat.zero_le _, rfl, hT, rfl, fun q hq => absurd hq (by omega), rfl, ⟨rfl, rfl, rfl, rfl, rfl, rfl, rfl, trivial⟩, rfl, rfl, rfl, rfl⟩
    clear hT hs1
    rintro n st ⟨i, h, lc, oc, hi, rfl, hT, hlc, hpc, hs1⟩
    refine hs1.run (hm := false) ?_
    conv => whnf
    cases hc : decide ((i : Int) < (k : Int))
    case false =>
      have hik : i = k := by simp at hc; omega
      subst hik
      conv => whnf
      exact .inr ⟨la, lb, lc, _, _, oc, _, hT, by omega, hl, by omega, hlc, final hpc, rfl⟩
    have hik : i < k := by simp at hc; omega
    have hbA := hT.ra.ints.2
    have next : 0 ≤ pen i → ∀ q, q < i + 1 → (lc ++ [pen i]).getD q 0 = pen q ∧ 0 ≤ pen q := fun hp q hq => by
      by_cases hqi : q < i
      · have := hpc q hqi
        rw [List.getD_eq_getElem?_getD, List.getElem?_append_left (by omega), ← List.getD_eq_getElem?_getD]
        exact this
      · have : q = i := by omega
        subst this
        rw [List.getD_eq_getElem?_getD, List.getElem?_append_right (by omega), show q - lc.length = 0 by omega]
        exact ⟨rfl, hp⟩
    have hlim : (lc.map row1).length + 1 ≤ limit := by rw [List.length_map]; unfold limit; omega
    have hbB := hT.rb.ints.2
    rcases hT.rc.shape with rfl | ⟨o, m, rfl⟩
    all_goals
      conv => whnf
      refine ⟨⟨rfl, by omega, by omega⟩, ?_⟩
      conv => whnf
      refine ⟨_, hbA, ?_⟩
      conv => whnf
      refine look_read (hreadA i hik) ?_
      conv => whnf
      have hpi := (hPb i hik).2
      cases hi0 : decide ((i : Int) > 0)
      · have hi0' : i = 0 := by simp at hi0; omega
        obtain ⟨P1, hP1⟩ : ∃ P1, P1 = P i + (if i = 0 then 0 else S (i - 1)) := ⟨_, rfl⟩
        have hPP : P i = P1 := by rw [hP1, if_pos hi0']; omega
        have hP1b : 0 ≤ P1 ∧ P1 ≤ 60 := by omega
        conv => whnf
        rw [hPP]
        cases hij : decide ((i : Int) < (j : Int))
        · have hij' : j ≤ i := by simp at hij; omega
          conv => whnf
          rw [show P1 = pen i by rw [hP1, hpe, hS0 i hij']; omega]
          cases hneg : decide (pen i < 0)
          case true =>
            conv => whnf
            exact .inl rfl
          have hpos : 0 ≤ pen i := by simp at hneg; omega
          obtain ⟨rr, hrr, hR', hold, hn', hfresh⟩ := rows_append (row := row1 (pen i)) (t := 51) (u := 51) hT.rc U51 U51 rfl S3 rfl (row1_len lc) rfl hlim
          have hE := hT.appc hR' hold hn' hfresh
          obtain ⟨rv, rreads, rupds, rfresh⟩ := rr
          conv => whnf
          refine ⟨_, hrr, ?_⟩
          conv => whnf
          refine ⟨((i + 1 : Nat) : Int), by rw [wrap_eq (by omega) (by omega)]; omega, ?_⟩
          conv => whnf
          exact ⟨k - (i + 1), by omega, i + 1, _, lc ++ [pen i], rv, by omega, rfl, hE, by rw [List.length_append, hlc]; rfl, next hpos, rfl, ⟨rfl, rfl, rfl, rfl, rfl, rfl, rfl, trivial⟩, rfl, rfl, rfl, rfl⟩
        · have hij' : i < j := by simp at hij; omega
          have hsi := hSb i hij'
          conv => whnf
          refine ⟨⟨rfl, by omega, by omega⟩, ?_⟩
          conv => whnf
          refine ⟨_, hbB, ?_⟩
          conv => whnf
          refine look_read (hreadB i hij') ?_
          conv => whnf
          refine ⟨pen i, by rw [hpe, ← hP1, wrap_eq (by omega) (by omega)], ?_⟩
          conv => whnf
          cases hneg : decide (pen i < 0)
          case true =>
            conv => whnf
            exact .inl rfl
          have hpos : 0 ≤ pen i := by simp at hneg; omega
          obtain ⟨rr, hrr, hR', hold, hn', hfresh⟩ := rows_append (row := row1 (pen i)) (t := 51) (u := 51) hT.rc U51 U51 rfl S3 rfl (row1_len lc) rfl hlim
          have hE := hT.appc hR' hold hn' hfresh
          obtain ⟨rv, rreads, rupds, rfresh⟩ := rr
          conv => whnf
          refine ⟨_, hrr, ?_⟩
          conv => whnf
          refine ⟨((i + 1 : Nat) : Int), by rw [wrap_eq (by omega) (by omega)]; omega, ?_⟩
          conv => whnf
          exact ⟨k - (i + 1), by omega, i + 1, _, lc ++ [pen i], rv, by omega, rfl, hE, by rw [List.length_append, hlc]; rfl, next hpos, rfl, ⟨rfl, rfl, rfl, rfl, rfl, rfl, rfl, trivial⟩, rfl, rfl, rfl, rfl⟩
      · have hi0' : 0 < i := by simp at hi0; omega
        obtain ⟨P1, hP1⟩ : ∃ P1, P1 = P i + (if i = 0 then 0 else S (i - 1)) := ⟨_, rfl⟩
        have hs1 := hSb (i - 1) (by omega)
        have hP1b : -3 ≤ P1 ∧ P1 ≤ 63 := by rw [hP1, if_neg (by omega)]; omega
        conv => whnf
        refine ⟨((i - 1 : Nat) : Int), by rw [wrap_eq (by omega) (by omega)]; omega, ?_⟩
        conv => whnf
        refine ⟨⟨rfl, by omega, by omega⟩, ?_⟩
        conv => whnf
        refine ⟨_, hbB, ?_⟩
        conv => whnf
        refine look_read (hreadB (i - 1) (by omega)) ?_
        conv => whnf
        refine ⟨P1, by rw [hP1, if_neg (by omega), wrap_eq (by omega) (by omega)], ?_⟩
        conv => whnf
        cases hij : decide ((i : Int) < (j : Int))
        · have hij' : j ≤ i := by simp at hij; omega
          conv => whnf
          rw [show P1 = pen i by rw [hP1, hpe, hS0 i hij']; omega]
          cases hneg : decide (pen i < 0)
          case true =>
            conv => whnf
            exact .inl rfl
          have hpos : 0 ≤ pen i := by simp at hneg; omega
          obtain ⟨rr, hrr, hR', hold, hn', hfresh⟩ := rows_append (row := row1 (pen i)) (t := 51) (u := 51) hT.rc U51 U51 rfl S3 rfl (row1_len lc) rfl hlim
          have hE := hT.appc hR' hold hn' hfresh
          obtain ⟨rv, rreads, rupds, rfresh⟩ := rr
          conv => whnf
          refine ⟨_, hrr, ?_⟩
          conv => whnf
          refine ⟨((i + 1 : Nat) : Int), by rw [wrap_eq (by omega) (by omega)]; omega, ?_⟩
          conv => whnf
          exact ⟨k - (i + 1), by omega, i + 1, _, lc ++ [pen i], rv, by omega, rfl, hE, by rw [List.length_append, hlc]; rfl, next hpos, rfl, ⟨rfl, rfl, rfl, rfl, rfl, rfl, rfl, trivial⟩, rfl, rfl, rfl, rfl⟩
        · have hij' : i < j := by simp at hij; omega
          have hsi := hSb i hij'
          conv => whnf
          refine ⟨⟨rfl, by omega, by omega⟩, ?_⟩
          conv => whnf
          refine ⟨_, hbB, ?_⟩
          conv => whnf
          refine look_read (hreadB i hij') ?_
          conv => whnf
          refine ⟨pen i, by rw [hpe, ← hP1, wrap_eq (by omega) (by omega)], ?_⟩
          conv => whnf
          cases hneg : decide (pen i < 0)
          case true =>
            conv => whnf
            exact .inl rfl
          have hpos : 0 ≤ pen i := by simp at hneg; omega
          obtain ⟨rr, hrr, hR', hold, hn', hfresh⟩ := rows_append (row := row1 (pen i)) (t := 51) (u := 51) hT.rc U51 U51 rfl S3 rfl (row1_len lc) rfl hlim
          have hE := hT.appc hR' hold hn' hfresh
          obtain ⟨rv, rreads, rupds, rfresh⟩ := rr
          conv => whnf
          refine ⟨_, hrr, ?_⟩
          conv => whnf
          refine ⟨((i + 1 : Nat) : Int), by rw [wrap_eq (by omega) (by omega)]; omega, ?_⟩
          conv => whnf
          exact ⟨k - (i + 1), by omega, i + 1, _, lc ++ [pen i], rv, by omega, rfl, hE, by rw [List.length_append, hlc]; rfl, next hpos, rfl, ⟨rfl, rfl, rfl, rfl, rfl, rfl, rfl, trivial⟩, rfl, rfl, rfl, rfl⟩
end Go.Ag
/- Layer 5: what is counted of a truth. -/
namespace Go.Ag
open Go.Proofs
set_option maxRecDepth 100000

set_option maxHeartbeats 4000000 in
theorem counted_ret {N : Nat} (h1 : 1 ≤ N) (h5 : N ≤ 5) {la lc : List Int} (hla : la.length = N) (hlc : lc.length = N) (hb : ∀ k, k < N → 0 ≤ la.getD k 0 ∧ la.getD k 0 ≤ 60) {c : Cl} (hc : callOk N c = true) :
    Ret Try.prog 33 [clV c, .sl (la.map I) 0 N, .sl (lc.map I) 0 N] (I (cnt N (fun k => la.getD k 0) (fun k => lc.getD k 0) c)) := by
  have ga : ∀ q, q < N → (la.map I)[0 + (q : Int).toNat * 1]? = some (I (la.getD q 0)) := fun q hq => by
    obtain ⟨y, hy⟩ := get_some (l := la) (show q < la.length by omega)
    rw [show 0 + (q : Int).toNat * 1 = q by omega, List.getElem?_map, hy, List.getD_eq_getElem?_getD, hy]; rfl
  have gc : ∀ q, q < N → (lc.map I)[0 + (q : Int).toNat * 1]? = some (I (lc.getD q 0)) := fun q hq => by
    obtain ⟨y, hy⟩ := get_some (l := lc) (show q < lc.length by omega)
    rw [show 0 + (q : Int).toNat * 1 = q by omega, List.getElem?_map, hy, List.getD_eq_getElem?_getD, hy]; rfl
  have ra : ∀ q, q < N → readVarC Try.prog 3 (la.map I) (0 + (q : Int).toNat * 1) = some (I (la.getD q 0)) := fun q hq => by rw [rv3]; exact ga q hq
  have rc : ∀ q, q < N → readVarC Try.prog 3 (lc.map I) (0 + (q : Int).toNat * 1) = some (I (lc.getD q 0)) := fun q hq => by rw [rv3]; exact gc q hq
  unfold callOk at hc
  unfold cnt
  refine ret_by (hm := false) Try.func33 rfl ?_
  conv => whnf
  refine ⟨_, rfl, ?_⟩
  conv => whnf
  cases h0 : (c.kind == 0)
  case true =>
    have hk : c.kind = 0 := by simpa using h0
    rw [hk] at hc
    have hc : (inB' c.pos 0 ((N : Int) - 1) && spB c.lo c.hi 0 300) = true := hc
    simp only [inB', Bool.and_eq_true, decide_eq_true_eq] at hc
    obtain ⟨p, hp⟩ : ∃ p : Nat, c.pos = p := ⟨c.pos.toNat, by omega⟩
    rw [if_pos hk]
    conv => whnf
    refine ⟨_, rfl, ?_⟩
    conv => whnf
    refine ⟨⟨by omega, by omega⟩, ?_⟩
    conv => whnf
    rw [hp]
    refine ⟨_, ra p (by omega), ?_⟩
    conv => whnf
    exact .val
  have hk0 : c.kind ≠ 0 := by simpa using h0
  rw [if_neg hk0]
  conv => whnf
  cases h1' : (c.kind == 1)
  case true =>
    have hk : c.kind = 1 := by simpa using h1'
    rw [hk] at hc
    have hc : (inB' c.pos 0 ((N : Int) - 1) && spB c.lo c.hi 0 300) = true := hc
    simp only [inB', Bool.and_eq_true, decide_eq_true_eq] at hc
    obtain ⟨p, hp⟩ : ∃ p : Nat, c.pos = p := ⟨c.pos.toNat, by omega⟩
    rw [if_pos hk]
    conv => whnf
    refine ⟨_, rfl, ?_⟩
    conv => whnf
    refine ⟨⟨by omega, by omega⟩, ?_⟩
    conv => whnf
    rw [hp]
    refine ⟨_, rc p (by omega), ?_⟩
    conv => whnf
    exact .val
  have hk1 : c.kind ≠ 1 := by simpa using h1'
  rw [if_neg hk1]
  conv => whnf
  obtain ⟨P, hP⟩ : ∃ P : Nat → Int, P = fun k => la.getD k 0 := ⟨_, rfl⟩
  refine loop_by (I := fun n st => ∃ (k : Nat) (h : Heap), k ≤ N ∧ n = N - k ∧ Has st 36 [(6, .c (I (sumP P k))), (25, .c (.sl (la.map I) 0 N)), (26, .c (I N)), (27, .c (I k))] [] none h) ?_ (k := N)
    ⟨0, _, Nat.zero_le _, rfl, rfl, ⟨rfl, rfl, rfl, rfl, trivial⟩, rfl, rfl, rfl, rfl⟩
  rintro n st ⟨k, h, hk, rfl, hs1⟩
  refine hs1.run (hm := false) ?_
  conv => whnf
  cases hc2 : decide ((k : Int) < (N : Int))
  case false =>
    have hkN : k = N := by simp at hc2; omega
    subst hkN
    conv => whnf
    rw [hP]
    exact .val
  have hkN : k < N := by simp at hc2; omega
  have hP2 : la.getD k 0 = P k := by rw [hP]
  have hb1 := hb k hkN
  have s1 := sumP_ge (f := P) k fun i hi => by rw [hP]; exact (hb i (by omega)).1
  have s2 := sumP_bound (f := P) (m := 60) k fun i hi => by rw [hP]; exact (hb i (by omega)).2
  conv => whnf
  refine ⟨⟨by omega, by omega⟩, ?_⟩
  conv => whnf
  refine ⟨_, ra k hkN, ?_⟩
  conv => whnf
  refine ⟨sumP P (k + 1), by simp only [sumP]; rw [← hP2, wrap_eq (by omega) (by omega)], ?_⟩
  conv => whnf
  refine ⟨((k + 1 : Nat) : Int), by rw [wrap_eq (by omega) (by omega)]; omega, ?_⟩
  conv => whnf
  exact ⟨N - (k + 1), by omega, k + 1, _, by omega, rfl, rfl, ⟨rfl, rfl, rfl, rfl, trivial⟩, rfl, rfl, rfl, rfl⟩
end Go.Ag
/- Layer 5: what the law of truths has at hand. -/
namespace Go.Ag
open Go.Proofs
set_option maxRecDepth 100000

def xAV (v : TV) (out : AV) : AV := mkAgg [.c (I v.n), .c (I v.most), .c (.sl v.sc v.so v.sn), out]
theorem snap_xT {H : Nat → AB} {o n : Nat} {cs : List CV} (hb : H o = .blk (cs.map .c)) (a0 a1 a2 : CV) (m : Nat) (hm : cs.length + 20 ≤ m) :
    snap H m (.agg [.c a0, .c a1, .c a2, .msl o 4 0 n n]) = some (.agg [a0, a1, a2, .sl cs 0 n], [o]) := by
  obtain ⟨m, rfl⟩ : ∃ k, m = k + 20 := ⟨m - 20, by omega⟩
  simp only [snap, snaps, Option.bind_some, Option.map_some, hb]
  rw [snaps_map_c H cs _ (by omega)]
  rfl
theorem callW5 {v : TV} {out : AV} {h : Heap} {L : List Cl} (R : RowsL 4 h out (L.map rowCl)) {f : FuncId} {cs : List CV} {r : CV} (hr : Ret Try.prog f ((callsV v L).cv :: cs) r) (hp : r.plain = true) {K : AEnd → Heap → Prop} (k : K (.ret (.c r)) h) :
    CallW Try.prog f (xAV v out :: cs.map .c) h K := by
  rcases R with ⟨rfl, hn⟩ | ⟨o, rfl, hb, _, _⟩
  · have : L = [] := by simpa using hn
    subst this
    have hr' : Ret Try.prog f (.agg [I v.n, I v.most, .sl v.sc v.so v.sn, nilC] :: cs) r :=
      hr.args ⟨.agg ⟨.refl _, .refl _, .refl _, .nil _ _, trivial⟩, Les.refl _⟩
    refine .ret hr' ?_ k
    show (allC (cs.map .c)).map _ = _
    rw [allCmap]
    rfl
  · have hkl : killed r ([o] ++ []) = [] := by unfold killed; rw [if_pos hp]
    refine .snapped ((L.map rowCl).flatten.length + cs.length + 20 + 1) _ _ _ r (snapsCons (snap_xT hb _ _ _ _ (by omega)) (snaps_map_c _ cs _ (by omega))) ?_ rfl (by rw [hkl]; exact k)
    rw [List.length_map]
    exact hr
theorem snap_i {H : Nat → AB} {o n : Nat} {cs : List CV} (hb : H o = .blk (cs.map .c)) (m : Nat) (hm : cs.length + 20 ≤ m) : snap H m (.msl o 1 0 n n) = some (.sl cs 0 n, [o]) := by
  obtain ⟨m, rfl⟩ : ∃ k, m = k + 20 := ⟨m - 20, by omega⟩
  simp only [snap, Option.bind_some, Option.map_some, hb]
  rw [snaps_map_c H cs _ (by omega)]
  rfl
theorem snap_two {H : Nat → AB} {o q n : Nat} {cs ds : List CV} (hb : H o = .blk (cs.map .c)) (hd : H q = .blk (ds.map .c)) (x : CV) : snaps H (cs.length + ds.length + 40) [.c x, .msl o 1 0 n n, .msl q 1 0 n n] = some ([x, .sl cs 0 n, .sl ds 0 n], [] ++ ([o] ++ ([q] ++ []))) := by
  refine snapsCons (n := cs.length + ds.length + 39) rfl (snapsCons (n := cs.length + ds.length + 38) (snap_i hb _ (by omega)) (snapsCons (n := cs.length + ds.length + 37) (snap_i hd _ (by omega)) rfl))

structure WH (v : TV) (bc : List CV) (bo bn X A Y a : Nat) (la lb lc : List Int) (oa ob oc : AV) (L : List Cl) (out : AV) (h : Heap) : Prop where
  b0 : Heap.at h 0 = v.blk
  bA : Heap.at h A = .blk [.c (I a)]
  bY : Heap.at h Y = .blk [.c (.sl bc bo bn)]
  bx : Heap.at h X = tBlk v out
  A0 : 0 < A
  Y0 : 0 < Y
  hAY : A ≠ Y
  hA : A < X
  hY : Y < X
  n : X < h.n
  ra : RowsL 1 h oa (la.map row1)
  rb : RowsL 1 h ob (lb.map row1)
  rc : RowsL 1 h oc (lc.map row1)
  ia : ∀ o, outId oa = some o → o < X ∧ A < o
  ib : ∀ o, outId ob = some o → o < X ∧ A < o
  ic : ∀ o, outId oc = some o → o < X ∧ A < o
  R : RowsL 4 h out (L.map rowCl)
  ho : ∀ o, outId out = some o → X < o
section
variable {v : TV} {bc : List CV} {bo bn X A Y a : Nat} {la lb lc : List Int} {oa ob oc out : AV} {L : List Cl} {h h' : Heap}
theorem WH.up (e : WH v bc bo bn X A Y a la lb lc oa ob oc L out h) (F : Foot none' h h') : WH v bc bo bn X A Y a la lb lc oa ob oc L out h' := by
  have q1 := e.hA; have q2 := e.hY; have q3 := e.n; have q4 := F.n
  exact ⟨(F.keep _ (by omega) (fun x => x)).trans e.b0, (F.keep _ (by omega) (fun x => x)).trans e.bA, (F.keep _ (by omega) (fun x => x)).trans e.bY, (F.keep _ (by omega) (fun x => x)).trans e.bx, e.A0, e.Y0, e.hAY, e.hA, e.hY, by omega,
    e.ra.ext q4 (fun i hi _ => F.keep i hi (fun x => x)), e.rb.ext q4 (fun i hi _ => F.keep i hi (fun x => x)), e.rc.ext q4 (fun i hi _ => F.keep i hi (fun x => x)), e.ia, e.ib, e.ic, e.R.ext q4 (fun i hi _ => F.keep i hi (fun x => x)), e.ho⟩
theorem WH.new (e : WH v bc bo bn X A Y a la lb lc oa ob oc L out h) (x y : AB) : WH v bc bo bn X A Y a la lb lc oa ob oc L out ((h.push .dead x).set .dead h.n y) := e.up (footNew h x y)
theorem WH.draw (e : WH v bc bo bn X A Y a la lb lc oa ob oc L out h) (F : Foot (fun i => i = A) h h') (hA : Heap.at h' A = .blk [.c (I ((a + 1 : Nat) : Int))]) : WH v bc bo bn X A Y (a + 1) la lb lc oa ob oc L out h' := by
  have q1 := e.hA; have q2 := e.hY; have q3 := e.n; have q4 := F.n; have q5 := e.hAY; have q6 := e.A0
  exact ⟨(F.keep _ (by omega) (by omega)).trans e.b0, hA, (F.keep _ (by omega) (by omega)).trans e.bY, (F.keep _ (by omega) (by omega)).trans e.bx, e.A0, e.Y0, e.hAY, e.hA, e.hY, by omega,
    e.ra.ext q4 (fun i hi ho => F.keep i hi (by have := e.ia i ho; omega)), e.rb.ext q4 (fun i hi ho => F.keep i hi (by have := e.ib i ho; omega)), e.rc.ext q4 (fun i hi ho => F.keep i hi (by have := e.ic i ho; omega)), e.ia, e.ib, e.ic, e.R.ext q4 (fun i hi ho => F.keep i hi (by have := e.ho i ho; omega)), e.ho⟩
theorem WH.put (e : WH v bc bo bn X A Y a la lb lc oa ob oc L out h) {k : Nat} (hk : X < k) (hne : outId out ≠ some k) (b : AB) : WH v bc bo bn X A Y a la lb lc oa ob oc L out (h.set .dead k b) := by
  have q1 := e.hA; have q2 := e.hY; have q3 := e.n; have q6 := e.A0
  exact ⟨(at_set_ne _ _ (by omega)).trans e.b0, (at_set_ne _ _ (by omega)).trans e.bA, (at_set_ne _ _ (by omega)).trans e.bY, (at_set_ne _ _ (by omega)).trans e.bx, e.A0, e.Y0, e.hAY, e.hA, e.hY, by rw [TMap.set_n]; exact q3,
    e.ra.set (fun h2 => by have := e.ia _ h2; omega) _, e.rb.set (fun h2 => by have := e.ib _ h2; omega) _, e.rc.set (fun h2 => by have := e.ic _ h2; omega) _, e.ia, e.ib, e.ic, e.R.set hne _, e.ho⟩
theorem WH.app (e : WH v bc bo bn X A Y a la lb lc oa ob oc L out h) {c : Cl} {rr : SOut} (hR : RowsL 4 (after (h.push .dead (.blk ((rowCl c).map .c))) rr) rr.val (L.map rowCl ++ [rowCl c])) (hold : ∀ i, i < h.n → outId out ≠ some i → Heap.at (after (h.push .dead (.blk ((rowCl c).map .c))) rr) i = Heap.at h i)
    (hn' : h.n ≤ (after (h.push .dead (.blk ((rowCl c).map .c))) rr).n) (hfresh : ∀ o, outId rr.val = some o → h.n ≤ o) : WH v bc bo bn X A Y a la lb lc oa ob oc (L ++ [c]) rr.val ((after (h.push .dead (.blk ((rowCl c).map .c))) rr).set .dead X (tBlk v rr.val)) := by
  have q1 := e.hA; have q2 := e.hY; have q3 := e.n; have q6 := e.A0
  have lo : ∀ i, i ≤ X → Heap.at (after (h.push .dead (.blk ((rowCl c).map .c))) rr) i = Heap.at h i := fun i hi => hold i (by omega) (fun h2 => by have := e.ho _ h2; omega)
  have keep : ∀ {sz : Nat} {o : AV} {rows : List (List CV)}, RowsL sz h o rows → (∀ k, outId o = some k → k < X ∧ A < k) → RowsL sz ((after (h.push .dead (.blk ((rowCl c).map .c))) rr).set .dead X (tBlk v rr.val)) o rows := fun R hi =>
    (R.ext hn' (fun i _ h2 => lo i (by have := hi i h2; omega))).set (fun h2 => by have := hi _ h2; omega) _
  exact ⟨(at_set_ne _ _ (by omega)).trans ((lo _ (by omega)).trans e.b0), (at_set_ne _ _ (by omega)).trans ((lo _ (by omega)).trans e.bA), (at_set_ne _ _ (by omega)).trans ((lo _ (by omega)).trans e.bY), at_set_self _ _ (by omega), e.A0, e.Y0, e.hAY, e.hA, e.hY, by rw [TMap.set_n]; omega,
    keep e.ra e.ia, keep e.rb e.ib, keep e.rc e.ic, e.ia, e.ib, e.ic, by rw [List.map_append]; exact hR.set (fun h2 => by have := hfresh _ h2; omega) _, fun o h2 => by have := hfresh _ h2; omega⟩
end
end Go.Ag
