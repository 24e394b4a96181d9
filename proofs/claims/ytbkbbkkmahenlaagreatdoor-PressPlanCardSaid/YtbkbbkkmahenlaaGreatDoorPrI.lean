/- Layer 8: another pressing, by numbers; how many fleeces one has; slices of small numbers. No conditions. -/
import Derived.Test.YtbkbbkkmahenlaaGreatDoorPrE
import Derived.Test.YtbkbbkkmahenlaaGreatDoorPrP
import Derived.Test.YtbkbbkkmahenlaaGreatDoorPrG
import Derived.Test.YtbkbbkkmahenlaaGreatDoorPrH
import Derived.ChangeSlices
import Derived.WideShapes
/- Layer 8: a slice of small numbers is read as data. -/
namespace Go.Ag
open Go.Proofs Go.ChangeShapes Go.WideShapes Go.RowKit
set_option maxRecDepth 100000

structure ByL (bc : List CV) (bo bn : Nat) : Prop where
  el : ∀ i, i < bn → ∃ w : Nat, w < 65536 ∧ bc[bo + i]? = some (.lit (.int .u16 w))
  sz : bn < 2 ^ 63
theorem rvC46 (cells : List CV) (off : Nat) : readVarC Tryz.prog 46 cells off = cells[off]? := rfl
structure By where
  bc : List CV
  bo : Nat
  bn : Nat
def By.ok (b : By) : Prop := ByL b.bc b.bo b.bn
def byW (b : By) : CV := .sl b.bc b.bo b.bn
def W16 (z : Int) : CV := .lit (.int .u16 z)
theorem repP_w {Φ : Nat → Option Obj} : ∀ (zs : List Int) (vs : List Value), (∀ (i : Nat) (z : Int), zs[i]? = some z → vs[i]? = some (Value.int .u16 z)) → RepP Φ (zs.map W16) vs
  | [], _, _ => trivial
  | z :: zs, [], h => by have := h 0 z rfl; simp at this
  | z :: zs, v :: vs, h => by
    have h0 := h 0 z rfl
    simp only [List.getElem?_cons_zero, Option.some.injEq] at h0
    exact ⟨h0, repP_w zs vs fun i y hy => by have := h (i + 1) y (by simpa using hy); simpa using this⟩
theorem byL_of {zs : List Int} (hw : ∀ n ∈ zs, (Lit.int .u16 n).wf = true) (hz : zs.length < 2 ^ 63) : ByL (zs.map W16) 0 zs.length := by
  refine ⟨fun i hi => ?_, hz⟩
  obtain ⟨z, hz⟩ := get_some hi
  obtain ⟨w, rfl, h2⟩ := law_u16 (hw z (List.mem_of_getElem? hz))
  exact ⟨w, h2, by rw [Nat.zero_add, List.getElem?_map, hz]; rfl⟩
theorem byL_nil : ByL [] 0 0 := ⟨fun i hi => absurd hi (by omega), by omega⟩

section
variable {H : Type} {enc : TypeId × Value → H} {w : World} {base : Nat} {spare : Nat → Bool} {held : Bool}
theorem cells46 : Tryz.prog.cellsOf 46 = 1 := by kernel_rfl
theorem open_by0 {r : Reach} {b0 : Nat} {v : Value} {x : DataW H} {ps : List MemPlace} (hv : Value.okWide Tryz.prog w r b0 47 v) (h : DataW.Trod enc Tryz.prog w base spare held 47 v x ps) : ∃ bc bo bn, ByL bc bo bn ∧ RepC (allOf w) (.sl bc bo bn) v := by
  obtain ⟨a, len, cap, rfl⟩ := okWide_slice Tryz.underlying47 hv
  obtain ⟨fuel, hf⟩ := h
  rcases open_ints Tryz.underlying47 Tryz.underlying46 cells46 hf with ⟨h0, _⟩ | ⟨a', len', cap', zs, hcs, hb, hl, hm, hmm, hx, hc, hw⟩
  · have h0 : [Value.slice a len cap] = [.slice none 0 0] := h0
    simp only [List.cons.injEq, and_true] at h0
    rw [h0]
    exact ⟨[], 0, 0, byL_nil, .inl ⟨rfl, .inr rfl⟩⟩
  · have hcs : [Value.slice a len cap] = [.slice (some a') len' cap'] := hcs
    simp only [List.cons.injEq, and_true] at hcs
    rw [hcs]
    clear hcs hx
    have hlm : len' ≤ zs.length := by rw [hmm]; split <;> omega
    by_cases hlen : len' = 0
    · subst hlen
      exact ⟨[], 0, 0, byL_nil, .inl ⟨rfl, .inl ⟨a', cap', rfl⟩⟩⟩
    · have hlt : (zs.take len').length = len' := by rw [List.length_take]; omega
      have hmx : maxLen < 2 ^ 63 := by decide
      refine ⟨(zs.take len').map W16, 0, (zs.take len').length, byL_of (fun n hn => hw n (List.mem_of_mem_take hn)) (by rw [hlt]; omega), .inr ?_⟩
      obtain ⟨b, off, spot⟩ := a'
      have hc0 := hc 0 (by omega)
      have hspot : spot = none := by simpa [Addr.add] using World.cell?_spot hc0
      subst hspot
      have plain : ∀ n, (⟨b, off, none⟩ : Addr).add n = ⟨b, off + n, none⟩ := fun n => by unfold Addr.add; split <;> simp_all
      rw [plain] at hc0
      cases hh : w.heap[b]? with
      | none => simp [World.cell?, hh] at hc0
      | some o =>
        cases o with
        | cells cs e fr =>
          refine ⟨b, off, cap', cs, e, fr, by simp [hlt], by rw [hlt]; simpa using hl, hh, repP_w _ _ fun i z hz => ?_⟩
          have hi : i < len' := by have := (List.getElem?_eq_some_iff.1 hz).1; omega
          have hz' : zs[i]? = some z := by rw [List.getElem?_take_of_lt hi] at hz; exact hz
          have hci := hc i (by omega)
          rw [show zs.getD i 0 = z by rw [List.getD_eq_getElem?_getD, hz']; rfl, plain] at hci
          simp only [World.cell?, hh] at hci
          simpa using hci
        | _ => simp [World.cell?, hh] at hc0
theorem open_by {r : Reach} {b0 : Nat} {v : Value} {x : DataW H} {ps : List MemPlace} (hv : Value.okWide Tryz.prog w r b0 47 v) (h : DataW.Trod enc Tryz.prog w base spare held 47 v x ps) : ∃ b : By, b.ok ∧ RepC (allOf w) (byW b) v := by
  obtain ⟨bc, bo, bn, h1, h2⟩ := open_by0 hv h
  exact ⟨⟨bc, bo, bn⟩, h1, h2⟩
end
end Go.Ag
/- Layer 8: another pressing, by numbers. -/
namespace Go.Ag
open Go.Proofs
set_option maxRecDepth 100000

def nvA (x : Nat) : AV := .c (I x)
theorem ns_read {L : List Nat} {i x : Nat} (h : L[i]? = some x) : readVar Tryz.prog 3 (L.map nvA) (0 + (i : Int).toNat * 1) = some (.c (I x)) := by
  have : readVar Tryz.prog 3 (L.map nvA) (0 + (i : Int).toNat * 1) = (L.map nvA)[0 + (i : Int).toNat * 1]? := rfl
  rw [this, Int.toNat_natCast, Nat.zero_add, Nat.mul_one, List.getElem?_map, h]; rfl
theorem ns_put {L : List Nat} {i : Nat} (h : i < L.length) (x : Nat) : putAt (L.map nvA) (0 + (i : Int).toNat * 1) [.c (I x)] = some ((L.set i x).map nvA) := by
  rw [Int.toNat_natCast, Nat.zero_add, Nat.mul_one, put_one (by simpa using h), List.map_set]; rfl
theorem row1_nv (L : List Nat) : (L.map row1).flatten.map AV.c = L.map nvA := by
  induction L with
  | nil => rfl
  | cons a l ih => rw [List.map_cons, List.flatten_cons, List.map_append, ih]; rfl
theorem sure_two {a e : Bool} : (sureN a e = 2) ↔ a = true := by
  unfold sureN
  cases a <;> cases e <;> simp
/-- What is found so far: a pressing, and which fleeces are in it. -/
structure Fd (d : Pn) (h : Heap) (out : AV) (L : List Nat) : Prop where
  rs : RowsL 1 h out (L.map row1)
  ok : okL (fitsP d) (2 ^ d.n - 1) d.bales L
  ne : outId out ≠ some 0
theorem bytes_and {d : Pn} (w : Nat) : w &&& (2 ^ d.n - 1) < 2 ^ d.n := by
  have := Nat.and_le_right (n := w) (m := 2 ^ d.n - 1)
  have := Nat.one_le_two_pow (n := d.n)
  omega
theorem and_sub {a b : Nat} : Sub (a &&& b) b := fun i hi => by rw [Nat.testBit_and, Bool.and_eq_true] at hi; exact hi.2
theorem diff_sub (a b : Nat) : Sub (diffN a b) a := fun i hi => by rw [diffN_bit, Bool.and_eq_true] at hi; exact hi.1
theorem diff_apart (a b : Nat) : diffN a b &&& b = 0 := and_zero.2 fun i hi => by
  rw [diffN_bit, Bool.and_eq_true] at hi
  simpa using hi.2
theorem and_less {x a b : Nat} (h : x &&& a = 0) (hb : Sub b a) : x &&& b = 0 := and_zero.2 fun i hi => by
  cases hbi : b.testBit i
  · rfl
  · have := hb i hbi
    rw [and_zero.1 h i hi] at this; cases this
theorem aop_slice38 {o : Oper} {x h : Operand} {σ : Operand → AV} {rd : Nat → AB} {n id N C : Nat} (ho : o.op = .slice 38 x none (some h) none) (hx : σ x = .msl id 1 0 N N) (hh : σ h = .c (I C)) (h2 : C ≤ N) :
    aop Tryz.prog o σ rd n = some (.simple { val := .msl id 1 0 C N }) := by
  unfold aop
  rw [ho]
  have a2 : asInt (AV.c (I C)) = some (C : Int) := rfl
  simp only [aslice, U38, S3, hx, hh, Option.map_some]
  have hi : isArr Tryz.prog 38 = false := by kernel_rfl
  have hb : boundsOf N N none (some (AV.c (I C))) none = some (0, C, N) := by
    unfold boundsOf
    simp only [boundOf, a2, Option.isSome_none, Bool.false_and, Bool.false_eq_true, if_false]
    rw [if_pos (by omega)]
    dsimp only
    rw [if_pos (by omega)]
    simp only [Int.toNat_natCast]
    rw [if_pos (by omega)]
  rw [hi]
  simp only [Option.map_none, hb, if_true, Option.map_some, Nat.zero_mul, Nat.zero_add, Nat.mul_one, Nat.sub_zero]
set_option maxHeartbeats 4000000 in
theorem pressing_call {v : PV} {d : Pn} (hv : v.Is d.pr) (hd : d.Good) (hok : okPr d.pr = true) (hc : canP d = true) {b : By} (hb : b.ok) :
    ∃ e h', CallOk Tryz.prog 40 [.c (v.cv d.pr), .c (byW b)] TMap.nil .no e h' .no ∧ ∃ out L, e = .ret out ∧ RowsL 1 h' out (L.map row1) ∧ okL (fitsP d) (2 ^ d.n - 1) d.bales L := by
  have p10 := pow10 hd.n10
  have hb5 := hd.b5
  have hbz := hb.sz
  have hev := every_ret hv (by rw [pr_len]; exact hd.n10)
  rw [pr_len] at hev
  have hF : ∀ s : Nat, s < 2 ^ d.n → Ret Tryz.prog 15 [v.cv d.pr, I s] (.tuple [I (sureN (fitsP d s) (meetsP d s)), I 0]) := fun s hs => by
    have := fitsX_ret hv hd hok hs
    unfold fOf eOf at this
    rw [if_pos hc, if_pos hc] at this
    exact this
  refine call_then (hm := false) Tryz.func40 rfl ?_
  conv => whnf
  refine then_seq (hm := false) ?_
  conv => whnf
  generalize hG : TMap.push AB.dead TMap.nil _ = G
  have Gn : G.n = 1 := by rw [← hG]; rfl
  have G0 : Heap.at G 0 = v.blk d.pr := by rw [← hG]; exact at_push_self TMap.nil _
  clear hG
  refine then_seq (hm := false) ?_
  conv => whnf
  refine then_via (hm := false) (fun st => ∃ (h : Heap) (out : AV) (L : List Nat), Fd d h out L ∧ Heap.at h 0 = v.blk d.pr ∧ 0 < h.n ∧ Has st 91 [(4, out)] [] none h) ?_ ?_
  · skip
    conv => whnf
    refine loop_by (I := fun z st => ∃ (q : Nat) (h : Heap) (out : AV) (L : List Nat), q ≤ b.bn ∧ z = b.bn - q ∧ Fd d h out L ∧ Heap.at h 0 = v.blk d.pr ∧ 0 < h.n ∧ orF 0 L < 2 ^ d.n ∧
        Has st 91 [(2, .ptr 0 0), (4, out), (5, .c (I (orF 0 L : Nat))), (13, .c (byW b)), (14, .c (I b.bn)), (15, .c (I q))] [] none h) ?_ (k := b.bn)
      ⟨0, G, nilA, [], Nat.zero_le _, rfl, ⟨.inl ⟨rfl, rfl⟩, trivial, by simp [outId]⟩, G0, by omega, by show 0 < 2 ^ d.n; omega, rfl, ⟨rfl, rfl, rfl, rfl, rfl, rfl, trivial⟩, rfl, rfl, rfl, rfl⟩
    clear G0 Gn G
    rintro z st ⟨q, h, out, L, hq, rfl, F, h0, hlt, hor, hs⟩
    refine (hs.then ?_).1
    refine then_seq (hm := false) ?_
    conv => whnf
    cases hcq : decide ((q : Int) < (b.bn : Int))
    case false =>
      refine then_seq (hm := false) ?_
      conv => whnf
      exact ⟨h, out, L, F, h0, hlt, rfl, ⟨rfl, trivial⟩, rfl, rfl, rfl, rfl⟩
    have hq : q < b.bn := by simp at hcq; omega
    obtain ⟨w, hw, hwc⟩ := hb.el q hq
    refine then_seq (hm := false) ?_
    conv => whnf
    refine then_left (then_block ?_)
    refine then_seq (hm := false) ?_
    conv => whnf
    refine ⟨⟨by omega, by omega⟩, ?_⟩
    conv => whnf
    refine ⟨_, (show readVarC Tryz.prog 46 b.bc (b.bo + (q : Int).toNat * 1) = _ by rw [rvC46, Int.toNat_natCast, Nat.mul_one]; exact hwc), ?_⟩
    conv => whnf
    refine then_seq (hm := false) ?_
    conv => whnf
    rw [show IntKind.i64.wrap ((w : Nat) : Int) = (w : Nat) from wrap_eq (by omega) (by omega)]
    refine ⟨_, h0, ?_⟩
    conv => whnf
    refine .ret (hev) rfl ?_
    conv => whnf
    refine ⟨_, and_nat (a := w) (b := 2 ^ d.n - 1) (by omega) (by omega), ?_⟩
    conv => whnf
    have hs0 := bytes_and (d := d) w
    obtain ⟨s, hse⟩ : ∃ s, s = diffN (w &&& (2 ^ d.n - 1)) (orF 0 L) := ⟨_, rfl⟩
    have hsl : s < 2 ^ d.n := by rw [hse]; exact diffN_lt hs0
    have hss : Sub s (2 ^ d.n - 1) := by rw [hse]; exact (diff_sub _ _).trans and_sub
    have hsa : s &&& orF 0 L = 0 := by rw [hse]; exact diff_apart _ _
    have hand := andNot_nat (a := w &&& (2 ^ d.n - 1)) (b := orF 0 L) (by omega) (by omega)
    rw [← hse] at hand
    refine ⟨_, hand, ?_⟩
    conv => whnf
    refine then_seq (hm := false) ?_
    conv => whnf
    refine ⟨_, h0, ?_⟩
    conv => whnf
    refine .ret (hF s hsl) rfl ?_
    conv => whnf
    have hlen := okL_len F.ok
    have hrl : (L.map row1).length = L.length := List.length_map _
    refine then_at (hm := false) (fun st => ∃ (h : Heap) (out : AV) (L : List Nat), Fd d h out L ∧ Heap.at h 0 = v.blk d.pr ∧ 0 < h.n ∧ orF 0 L < 2 ^ d.n ∧ Has st 91 [(2, .ptr 0 0), (4, out), (5, .c (I (orF 0 L : Nat))), (13, .c (byW b)), (14, .c (I b.bn)), (15, .c (I q))] [] none h) ?_ ?_
    · skip
      rcases F.rs.shape with rfl | ⟨o, n, rfl⟩
      · skip
        conv => whnf
        cases h2 : (sureN (fitsP d s) (meetsP d s) == 2)
        case false =>
          conv => whnf
          exact ⟨h, _, L, F, h0, hlt, hor, rfl, ⟨rfl, rfl, rfl, rfl, rfl, rfl, trivial⟩, rfl, rfl, rfl, rfl⟩
        have hfs := sure_two.1 (beq_iff_eq.1 h2)
        conv => whnf
        refine ⟨_, h0, ?_⟩
        conv => whnf
        cases h3 : decide (((0 : Nat) : Int) < d.pr.bales)
        case false =>
          conv => whnf
          exact ⟨h, _, L, F, h0, hlt, hor, rfl, ⟨rfl, rfl, rfl, rfl, rfl, rfl, trivial⟩, rfl, rfl, rfl, rfl⟩
        have hlb : L.length < d.bales := by have h3' := of_decide_eq_true h3; have : d.pr.bales = (d.bales : Int) := rfl; rw [this] at h3'; rw [show L.length = 0 by rcases F.rs with ⟨_, hh⟩ | ⟨_, hh, _⟩; exact (by simpa using hh : L = []) ▸ rfl; cases hh]; omega
        obtain ⟨r, hr, hR, hold, hn1, hf⟩ := rows_append (P := Tryz.prog) (row := row1 s) (t := 38) (u := 38) F.rs U38 U38 rfl S3 rfl (row1_all _) rfl (by rw [List.length_map]; unfold limit; omega)
        conv => whnf
        rw [push_n]
        refine ⟨_, hr, ?_⟩
        conv => whnf
        have hK0 := hold 0 hlt F.ne
        generalize hK : TMap.app AB.dead _ _ = K
        rw [show after (h.push .dead (.blk ((row1 s).map .c))) r = K from hK] at hR hK0 hn1
        have K0 := hK0.trans h0
        clear hK hold hr
        obtain ⟨rv, rr, ru, rf⟩ := r
        dsimp only at hR hf ⊢
        rcases hR.shape with rfl | ⟨o', n', rfl⟩
        · rcases hR with ⟨_, hh⟩ | ⟨_, hh, _⟩
          · simp at hh
          · cases hh
        conv => whnf
        refine ⟨_, or_nat (a := orF 0 L) (b := s) (by omega) (by omega), ?_⟩
        conv => whnf
        refine ⟨K, _, L ++ [s], ⟨by rw [List.map_append]; exact hR, okL_app hfs F.ok hlb hss fun y hy => and_less hsa (sub_orF L 0 hy), fun e => by have := hf _ rfl; simp [outId] at e; omega⟩, K0, by omega, ?_, ?_⟩
        · rw [orF_snoc]; exact Nat.or_lt_two_pow hor hsl
        · rw [orF_snoc]
          exact ⟨rfl, ⟨rfl, rfl, rfl, rfl, rfl, rfl, trivial⟩, rfl, rfl, rfl, rfl⟩
      · skip
        conv => whnf
        cases h2 : (sureN (fitsP d s) (meetsP d s) == 2)
        case false =>
          conv => whnf
          exact ⟨h, _, L, F, h0, hlt, hor, rfl, ⟨rfl, rfl, rfl, rfl, rfl, rfl, trivial⟩, rfl, rfl, rfl, rfl⟩
        have hfs := sure_two.1 (beq_iff_eq.1 h2)
        conv => whnf
        refine ⟨_, h0, ?_⟩
        conv => whnf
        cases h3 : decide (((n : Nat) : Int) < d.pr.bales)
        case false =>
          conv => whnf
          exact ⟨h, _, L, F, h0, hlt, hor, rfl, ⟨rfl, rfl, rfl, rfl, rfl, rfl, trivial⟩, rfl, rfl, rfl, rfl⟩
        have hlb : L.length < d.bales := by have h3' := of_decide_eq_true h3; have : d.pr.bales = (d.bales : Int) := rfl; rw [this] at h3'; rw [show L.length = n by rcases F.rs with ⟨hh, _⟩ | ⟨_, hh, _⟩; cases hh; simp only [AV.msl.injEq] at hh; rw [List.length_map] at hh; exact hh.2.2.2.1.symm]; omega
        obtain ⟨r, hr, hR, hold, hn1, hf⟩ := rows_append (P := Tryz.prog) (row := row1 s) (t := 38) (u := 38) F.rs U38 U38 rfl S3 rfl (row1_all _) rfl (by rw [List.length_map]; unfold limit; omega)
        conv => whnf
        rw [push_n]
        refine ⟨_, hr, ?_⟩
        conv => whnf
        have hK0 := hold 0 hlt F.ne
        generalize hK : TMap.app AB.dead _ _ = K
        rw [show after (h.push .dead (.blk ((row1 s).map .c))) r = K from hK] at hR hK0 hn1
        have K0 := hK0.trans h0
        clear hK hold hr
        obtain ⟨rv, rr, ru, rf⟩ := r
        dsimp only at hR hf ⊢
        rcases hR.shape with rfl | ⟨o', n', rfl⟩
        · rcases hR with ⟨_, hh⟩ | ⟨_, hh, _⟩
          · simp at hh
          · cases hh
        conv => whnf
        refine ⟨_, or_nat (a := orF 0 L) (b := s) (by omega) (by omega), ?_⟩
        conv => whnf
        refine ⟨K, _, L ++ [s], ⟨by rw [List.map_append]; exact hR, okL_app hfs F.ok hlb hss fun y hy => and_less hsa (sub_orF L 0 hy), fun e => by have := hf _ rfl; simp [outId] at e; omega⟩, K0, by omega, ?_, ?_⟩
        · rw [orF_snoc]; exact Nat.or_lt_two_pow hor hsl
        · rw [orF_snoc]
          exact ⟨rfl, ⟨rfl, rfl, rfl, rfl, rfl, rfl, trivial⟩, rfl, rfl, rfl, rfl⟩
    rintro s1 ⟨h', out', L', F', h0', hlt', hor', hs'⟩
    show Then Tryz.prog _ s1 _
    refine hs'.then ?_
    refine then_end (hm := false) ?_
    conv => whnf
    refine ⟨((q + 1 : Nat) : Int), by rw [wrap_eq (by omega) (by omega)]; omega, ?_⟩
    conv => whnf
    exact ⟨b.bn - (q + 1), by omega, q + 1, h', out', L', by omega, rfl, F', h0', hlt', hor', rfl, ⟨rfl, rfl, rfl, rfl, rfl, rfl, trivial⟩, rfl, rfl, rfl, rfl⟩
  rintro st ⟨h, out, L, F, h0, hlt, hs⟩
  refine hs.then ?_
  have hlen := okL_len F.ok
  rcases F.rs with ⟨rfl, hL⟩ | ⟨o, rfl, hbk, hol, hne⟩
  · refine then_via (hm := false) (fun st => Has st 91 [(4, nilA)] [] none h) ?_ ?_
    · skip
      conv => whnf
      refine loop_by (I := fun z st => z = 0 ∧ Has st 91 [(4, nilA), (54, .c (I 0)), (55, .c (I 0))] [] none h) ?_ (k := 0)
        ⟨rfl, rfl, ⟨rfl, rfl, rfl, trivial⟩, rfl, rfl, rfl, rfl⟩
      rintro z st ⟨rfl, hs⟩
      refine (hs.then ?_).1
      refine then_seq (hm := false) ?_
      conv => whnf
      refine then_seq (hm := false) ?_
      conv => whnf
      exact ⟨rfl, ⟨rfl, trivial⟩, rfl, rfl, rfl, rfl⟩
    rintro st hs
    refine hs.then ?_
    refine then_end (hm := false) ?_
    conv => whnf
    exact ⟨nilA, L, rfl, .inl ⟨rfl, hL⟩, F.ok⟩
  rw [row1_nv] at hbk
  rw [List.length_map] at hs ⊢
  have hol0 : o ≠ 0 := fun e => F.ne (by rw [e]; rfl)
  have hok0 := F.ok
  have hm0 : L ≠ [] := fun e => hne (by rw [e]; rfl)
  clear F h0 hlt hne
  obtain ⟨m, hm⟩ : ∃ m, m = L.length := ⟨_, rfl⟩
  have hmz : m ≠ 0 := fun e => hm0 (List.length_eq_zero_iff.1 (by omega))
  clear hm0
  rw [← hm] at hs ⊢
  refine then_via (hm := false) (fun st => ∃ (h : Heap) (L : List Nat), L.length = m ∧ Heap.at h o = .blk (L.map nvA) ∧ o < h.n ∧ okL (fitsP d) (2 ^ d.n - 1) d.bales L ∧ Has st 91 [(4, .msl o 1 0 m m)] [] none h) ?_ ?_
  · skip
    conv => whnf
    refine loop_by (I := fun z st => ∃ (i : Nat) (h : Heap) (L : List Nat), i ≤ m ∧ z = m - i ∧ L.length = m ∧ Heap.at h o = .blk (L.map nvA) ∧ o < h.n ∧ okL (fitsP d) (2 ^ d.n - 1) d.bales L ∧ Has st 91 [(4, .msl o 1 0 m m), (54, .c (I m)), (55, .c (I i))] [] none h) ?_ (k := m)
      ⟨0, h, L, Nat.zero_le _, rfl, hm.symm, hbk, hol, hok0, rfl, ⟨rfl, rfl, rfl, trivial⟩, rfl, rfl, rfl, rfl⟩
    have hm5 : m ≤ 5 := by omega
    clear hs hbk hol hok0 hlen hm L h st hF hev
    rintro z st ⟨i, h, L, hi, rfl, hL, hbk, hol, hok0, hs⟩
    refine (hs.then ?_).1
    refine then_seq (hm := false) ?_
    conv => whnf
    cases hci : decide ((i : Int) < (m : Int))
    case false =>
      refine then_seq (hm := false) ?_
      conv => whnf
      exact ⟨h, L, hL, hbk, hol, hok0, rfl, ⟨rfl, trivial⟩, rfl, rfl, rfl, rfl⟩
    have hi : i < m := by simp at hci; omega
    refine then_seq (hm := false) ?_
    conv => whnf
    refine then_left (then_block ?_)
    refine then_seq (hm := false) ?_
    conv => whnf
    refine then_seq (hm := false) ?_
    conv => whnf
    rw [aop_slice38 (id := o) (N := m) (C := i) rfl rfl rfl (by omega)]
    conv => whnf
    refine then_at (hm := false) (fun st => ∃ (h : Heap) (L : List Nat), L.length = m ∧ Heap.at h o = .blk (L.map nvA) ∧ o < h.n ∧ okL (fitsP d) (2 ^ d.n - 1) d.bales L ∧ Has st 91 [(4, .msl o 1 0 m m), (54, .c (I m)), (55, .c (I i))] [] none h) ?_ ?_
    · skip
      conv => whnf
      refine loop_by (I := fun z st => ∃ (k : Nat) (h : Heap) (L : List Nat), k ≤ i ∧ z = i - k ∧ L.length = m ∧ Heap.at h o = .blk (L.map nvA) ∧ o < h.n ∧ okL (fitsP d) (2 ^ d.n - 1) d.bales L ∧ Has st 91 [(4, .msl o 1 0 m m), (11, .c (I i)), (54, .c (I m)), (55, .c (I i)), (61, .c (I i)), (62, .c (I k))] [] none h) ?_ (k := i)
        ⟨0, h, L, Nat.zero_le _, rfl, hL, hbk, hol, hok0, rfl, ⟨rfl, rfl, rfl, rfl, rfl, rfl, trivial⟩, rfl, rfl, rfl, rfl⟩
      clear hs hbk hol hok0 hL L h st
      rintro z st ⟨k, h, L, hk, rfl, hL, hbk, hol, hok0, hs⟩
      refine (hs.then ?_).1
      refine then_seq (hm := false) ?_
      conv => whnf
      cases hci : decide ((k : Int) < (i : Int))
      case false =>
        refine then_seq (hm := false) ?_
        conv => whnf
        exact ⟨h, L, hL, hbk, hol, hok0, rfl, ⟨rfl, rfl, rfl, trivial⟩, rfl, rfl, rfl, rfl⟩
      have hk : k < i := by simp at hci; omega
      obtain ⟨x, hx⟩ := get_some (l := L) (k := i) (by omega)
      obtain ⟨y, hy⟩ := get_some (l := L) (k := k) (by omega)
      refine then_seq (hm := false) ?_
      conv => whnf
      refine then_left (then_block ?_)
      refine then_seq (hm := false) ?_
      conv => whnf
      refine then_seq (hm := false) ?_
      refine draw_by (hm := false) (by kernel_rfl) (by kernel_rfl) ?_
      conv => whnf
      refine ⟨⟨rfl, by omega, by omega⟩, ?_⟩
      conv => whnf
      refine ⟨_, hbk, ?_⟩
      conv => whnf
      refine look_read (ns_read hx) ?_
      conv => whnf
      refine ⟨⟨rfl, by omega, by omega⟩, ?_⟩
      conv => whnf
      refine ⟨_, hbk, ?_⟩
      conv => whnf
      refine look_read (ns_read hy) ?_
      conv => whnf
      refine ⟨by kernel_rfl, ?_⟩
      conv => whnf
      refine then_at (hm := false) (fun st => ∃ (h : Heap) (L : List Nat), L.length = m ∧ Heap.at h o = .blk (L.map nvA) ∧ o < h.n ∧ okL (fitsP d) (2 ^ d.n - 1) d.bales L ∧ Has st 91 [(4, .msl o 1 0 m m), (11, .c (I i)), (54, .c (I m)), (55, .c (I i)), (61, .c (I i)), (62, .c (I k))] [] none h) ?_ ?_
      · skip
        conv => whnf
        cases hxy : decide ((x : Int) < (y : Int))
        · conv => whnf
          exact ⟨h, L, hL, hbk, hol, hok0, rfl, ⟨rfl, rfl, rfl, rfl, rfl, rfl, trivial⟩, rfl, rfl, rfl, rfl⟩
        conv => whnf
        refine draw_by (hm := false) (by kernel_rfl) (by kernel_rfl) ?_
        conv => whnf
        refine ⟨⟨rfl, by omega, by omega⟩, ?_⟩
        conv => whnf
        refine ⟨_, hbk, ?_⟩
        conv => whnf
        refine look_read (ns_read hy) ?_
        conv => whnf
        refine ⟨⟨rfl, by omega, by omega⟩, ?_⟩
        conv => whnf
        refine ⟨_, hbk, ?_⟩
        conv => whnf
        refine look_read (ns_read hx) ?_
        conv => whnf
        refine ⟨⟨rfl, by omega, by omega⟩, ?_⟩
        conv => whnf
        refine ⟨_, hbk, ?_⟩
        conv => whnf
        refine look_put (ns_put (L := L) (i := i) (by omega) y) ?_
        conv => whnf
        refine ⟨hol, ?_⟩
        conv => whnf
        refine forceL_intro ?_
        conv => whnf
        refine ⟨⟨rfl, by omega, by omega⟩, ?_⟩
        conv => whnf
        refine ⟨_, at_set_self _ _ (i := o) hol, ?_⟩
        conv => whnf
        refine look_put (ns_put (L := L.set i y) (i := k) (by rw [List.length_set]; omega) x) ?_
        conv => whnf
        refine ⟨by rw [TMap.set_n]; exact hol, ?_⟩
        conv => whnf
        refine forceL_intro ?_
        conv => whnf
        refine ⟨?_, ?_⟩
        · exact pairs_via (fun _ => 0) [⟨0, _, _, [], []⟩, ⟨1, _, _, [], []⟩, ⟨2, _, _, [], []⟩, ⟨3, _, _, [], []⟩, ⟨4, _, _, [], []⟩, ⟨5, _, _, [], []⟩, ⟨6, _, _, [], []⟩, ⟨7, _, _, [0], []⟩, ⟨8, _, _, [], []⟩, ⟨9, _, _, [], []⟩, ⟨10, _, _, [], []⟩, ⟨11, _, _, [0], []⟩, ⟨12, _, _, [], []⟩, ⟨13, _, _, [0], [0]⟩, ⟨14, _, _, [], []⟩, ⟨15, _, _, [0], [0]⟩] rfl (by kernel_rfl)
        generalize hG : TMap.set AB.dead (TMap.set AB.dead _ _ _) _ _ = G
        have Go : Heap.at G o = .blk (((L.set i y).set k x).map nvA) := by rw [← hG]; exact at_set_self _ _ (by rw [TMap.set_n]; exact hol)
        have Gn : o < G.n := by rw [← hG, TMap.set_n, TMap.set_n]; exact hol
        clear hG
        have hperm : ((L.set i y).set k x).Perm L := by
          have hil : i < L.length := by omega
          have hkl : k < L.length := by omega
          have := List.set_set_perm hil hkl
          rw [List.getElem?_eq_getElem hil] at hx
          rw [List.getElem?_eq_getElem hkl] at hy
          rw [Option.some.inj hx, Option.some.inj hy] at this
          exact this
        exact ⟨G, _, by rw [List.length_set, List.length_set]; exact hL, Go, Gn, okL_perm hperm.symm hok0, rfl, ⟨rfl, rfl, rfl, rfl, rfl, rfl, trivial⟩, rfl, rfl, rfl, rfl⟩
      rintro s1 ⟨h', L', hL', hbk', hol', hok', hs'⟩
      show Then Tryz.prog _ s1 _
      refine hs'.then ?_
      refine then_end (hm := false) ?_
      conv => whnf
      refine ⟨((k + 1 : Nat) : Int), by rw [wrap_eq (by omega) (by omega)]; omega, ?_⟩
      conv => whnf
      exact ⟨i - (k + 1), by omega, k + 1, h', L', by omega, rfl, hL', hbk', hol', hok', rfl, ⟨rfl, rfl, rfl, rfl, rfl, rfl, trivial⟩, rfl, rfl, rfl, rfl⟩
    rintro s1 ⟨h', L', hL', hbk', hol', hok', hs'⟩
    show Then Tryz.prog _ s1 _
    refine hs'.then ?_
    refine then_end (hm := false) ?_
    conv => whnf
    refine ⟨((i + 1 : Nat) : Int), by rw [wrap_eq (by omega) (by omega)]; omega, ?_⟩
    conv => whnf
    exact ⟨m - (i + 1), by omega, i + 1, h', L', by omega, rfl, hL', hbk', hol', hok', rfl, ⟨rfl, rfl, rfl, trivial⟩, rfl, rfl, rfl, rfl⟩
  rintro st ⟨h, L, hL, hbk, hol, hok0, hs⟩
  refine hs.then ?_
  refine then_end (hm := false) ?_
  conv => whnf
  exact ⟨_, L, rfl, .inr ⟨o, by rw [List.length_map, hL]; rfl, by rw [row1_nv]; exact hbk, hol, fun e => hmz (by rw [← hL, ← List.length_map (f := row1), e]; rfl)⟩, hok0⟩
theorem pressing_ex {v : PV} {d : Pn} (hv : v.Is d.pr) (hd : d.Good) (hok : okPr d.pr = true) (hc : canP d = true) {b : By} (hb : b.ok) :
    ∃ L : List Nat, Ret Tryz.prog 40 [v.cv d.pr, byW b] (nsC L) ∧ okL (fitsP d) (2 ^ d.n - 1) d.bales L := by
  obtain ⟨e, h', hcall, out, L, rfl, R, ok⟩ := pressing_call hv hd hok hc hb
  obtain ⟨v', ⟨fuel, ids, h3⟩, hle⟩ := R.ends
  have : Ret Tryz.prog 40 [v.cv d.pr, byW b] v' := callOk_close (args := [v.cv d.pr, byW b]) hcall (r := (v', ids)) h3
  refine ⟨L, this.weaken ?_, ok⟩
  rw [List.length_map] at hle
  exact hle
end Go.Ag
/- Layer 8: how many fleeces a pressing has. -/
namespace Go.Ag
open Go.Proofs
set_option maxRecDepth 100000

theorem pop_half : ∀ s : Nat, s < 1024 → popN s = s % 2 + popN (s / 2) := by decide +kernel
theorem refSize_ret {s : Nat} (hs : s < 1024) : Ret Tryz.prog 39 [I s] (I (popN s)) := by
  refine ret_by (hm := true) Tryz.func39 rfl ?_
  conv => whnf
  refine loop_by (I := fun z st => ∃ (t n : Nat), t = z ∧ t < 1024 ∧ n + popN t = popN s ∧ Has st 13 [(0, .c (I t)), (3, .c (I n))] [] none TMap.nil) ?_ (k := s)
    ⟨s, 0, rfl, hs, Nat.zero_add _, rfl, ⟨rfl, rfl, trivial⟩, rfl, rfl, rfl, rfl⟩
  rintro z st ⟨t, n, rfl, ht, hn, hs1⟩
  refine hs1.run (hm := true) ?_
  have hp := pop_le s
  conv => whnf
  cases hc : decide ((t : Int) > 0)
  case false =>
    have : t = 0 := by simp at hc; omega
    subst this
    have h0 : popN 0 = 0 := by decide +kernel
    conv => whnf
    rw [show n = popN s by omega]
    exact .val
  have ht0 : 0 < t := by simp at hc; omega
  have hh := pop_half t ht
  conv => whnf
  refine ⟨by decide, ((t % 2 : Nat) : Int), rfl, ?_⟩
  conv => whnf
  refine ⟨((n + t % 2 : Nat) : Int), by rw [wrap_eq (by omega) (by omega)]; omega, ?_⟩
  conv => whnf
  refine ⟨by decide, ((t / 2 : Nat) : Int), by rw [show ((t : Int)).tdiv 2 = ((t / 2 : Nat) : Int) from rfl]; exact wrap_eq (by omega) (by omega), ?_⟩
  conv => whnf
  exact ⟨t / 2, by omega, t / 2, n + t % 2, rfl, by omega, by omega, rfl, ⟨rfl, rfl, trivial⟩, rfl, rfl, rfl, rfl⟩
theorem val_f_take {L : List Nat} {q x : Nat} (h : L[q]? = some x) : (valL (L.take (q + 1))).f = (valL (L.take q)).f + popN x := by
  rw [List.take_add_one, h]
  show (valL (L.take q ++ [x])).f = _
  rw [val_perm (List.perm_append_singleton _ _)]
  rfl
theorem val_f_le : ∀ L : List Nat, (valL L).f ≤ 10 * L.length
  | [] => Nat.le_refl _
  | x :: l => by
    have := val_f_le l
    have := pop_le x
    rw [List.length_cons]
    show (valL l).f + popN x ≤ _
    omega
theorem pressed_ret (L : List Nat) (hl : ∀ l ∈ L, l < 1024) (hlen : L.length ≤ 1000) : Ret Tryz.prog 41 [nsC L] (I ((valL L).f : Nat)) := by
  refine ret_by (hm := true) Tryz.func41 rfl ?_
  conv => whnf
  refine loop_by (I := fun z st => ∃ (q : Nat), q ≤ L.length ∧ z = L.length - q ∧
      Has st 19 [(0, .c (nsC L)), (3, .c (I ((valL (L.take q)).f : Nat))), (4, .c (I q))] [] none TMap.nil) ?_ (k := L.length)
    ⟨0, Nat.zero_le _, rfl, rfl, ⟨rfl, rfl, rfl, trivial⟩, rfl, rfl, rfl, rfl⟩
  rintro z st ⟨q, hq, rfl, hs1⟩
  refine hs1.run (hm := true) ?_
  conv => whnf
  cases hcq : decide ((q : Int) < (L.length : Int))
  case false =>
    have : q = L.length := by simp at hcq; omega
    subst this
    rw [List.take_length]
    conv => whnf
    exact .val
  have hq : q < L.length := by simp at hcq; omega
  obtain ⟨b, hb⟩ := get_some hq
  have hb1 := hl b (List.mem_of_getElem? hb)
  have h1 := val_f_le (L.take q)
  rw [List.length_take] at h1
  have h2 := val_f_take hb
  have h3 := pop_le b
  conv => whnf
  refine ⟨⟨by omega, by omega⟩, ?_⟩
  conv => whnf
  refine ⟨_, ns_get hb, ?_⟩
  conv => whnf
  refine .ret (refSize_ret hb1) rfl ?_
  conv => whnf
  refine ⟨(((valL (L.take (q + 1))).f : Nat) : Int), by rw [wrap_eq (by omega) (by omega)]; omega, ?_⟩
  conv => whnf
  refine ⟨((q + 1 : Nat) : Int), by rw [wrap_eq (by omega) (by omega)]; omega, ?_⟩
  conv => whnf
  exact ⟨L.length - (q + 1), by omega, q + 1, by omega, rfl, rfl, ⟨rfl, rfl, rfl, trivial⟩, rfl, rfl, rfl, rfl⟩
end Go.Ag
/- Layer 8: arrays of three numbers that are compared. -/
namespace Go.Ag
open Go.Proofs
set_option maxRecDepth 100000

theorem us41 : pureRun Tryz.prog (underlying 41) = some (.array 3 3) := by kernel_rfl
theorem eg41 : Tryz.prog.eqGuardType Tryz.prog.depth 41 = false := by kernel_rfl
theorem sz3 : pureRun Tryz.prog (sizeOf 3) = some 1 := by kernel_rfl
theorem eq_arr (a b c : Int) : pureRun Tryz.prog (Op.equal 41 (.agg #[.int .i64 a, .int .i64 b, .int .i64 c]) (.agg #[.int .i64 a, .int .i64 b, .int .i64 c])) = some true := by
  show pureRun Tryz.prog (Op.equalIn (9998 + 1 + 1) 41 _ _) = _
  rw [Op.equalIn.eq_def]
  simp only [pureRun_bind, us41, Option.bind_some, pp0, pureRun_ite, Bool.false_eq_true, if_false]
  simp [pureRun_bind, pureRun_ite, partT ag3, eq_intT u3, pureRun_pure]
  rw [sz3, show List.range' 0 3 = [0, 1, 2] from rfl]
  simp [pureRun_bind, pureRun_ite, partT ag3, eq_intT u3, pureRun_pure]
theorem arr_eql {o : Oper} {x y : Operand} {t2 : TypeId} {σ : Operand → AV} {a b c : Int} (ho : o.op = .binOp .eql 41 x y t2) (hx : σ x = .c (.agg [I a, I b, I c])) (hy : σ y = .c (.agg [I a, I b, I c])) (rd : Nat → AB) (n : Nat) :
    aop Tryz.prog o σ rd n = some (.simple { val := .c (B true) }) := by
  have vx : (σ x).toVal = some (.agg #[.int .i64 a, .int .i64 b, .int .i64 c]) := by rw [hx]; rfl
  have vy : (σ y).toVal = some (.agg #[.int .i64 a, .int .i64 b, .int .i64 c]) := by rw [hy]; rfl
  unfold aop
  rw [ho]
  simp only [abinOp, vx, vy, litBin]
  unfold pureOp
  have hv : (allVals σ o.op.operands.toList && notSelect o.op) = true := by
    rw [ho]; simp [Op.operands, allVals, vx, vy, notSelect]
  rw [if_pos hv]
  have hr : pureRun Tryz.prog (execOp (fun x => ((σ x).toVal).getD Go.undef) o) = some (.value (.bool true)) := by
    unfold execOp
    rw [ho]
    simp only [vx, vy, Option.getD_some, eqGuard, binOp, pureRun_bind, pp0, Option.bind_some, pureRun_ite, eg41]
    simp [eq_arr, pureRun_pure]
  rw [hr]
  rfl
theorem arr_neq {o : Oper} {x y : Operand} {t2 : TypeId} {σ : Operand → AV} {a b c : Int} (ho : o.op = .binOp .neq 41 x y t2) (hx : σ x = .c (.agg [I a, I b, I c])) (hy : σ y = .c (.agg [I a, I b, I c])) (rd : Nat → AB) (n : Nat) :
    aop Tryz.prog o σ rd n = some (.simple { val := .c (B false) }) := by
  have vx : (σ x).toVal = some (.agg #[.int .i64 a, .int .i64 b, .int .i64 c]) := by rw [hx]; rfl
  have vy : (σ y).toVal = some (.agg #[.int .i64 a, .int .i64 b, .int .i64 c]) := by rw [hy]; rfl
  unfold aop
  rw [ho]
  simp only [abinOp, vx, vy, litBin]
  unfold pureOp
  have hv : (allVals σ o.op.operands.toList && notSelect o.op) = true := by
    rw [ho]; simp [Op.operands, allVals, vx, vy, notSelect]
  rw [if_pos hv]
  have hr : pureRun Tryz.prog (execOp (fun x => ((σ x).toVal).getD Go.undef) o) = some (.value (.bool false)) := by
    unfold execOp
    rw [ho]
    simp only [vx, vy, Option.getD_some, eqGuard, binOp, pureRun_bind, pp0, Option.bind_some, pureRun_ite, eg41]
    simp [eq_arr, pureRun_pure]
  rw [hr]
  rfl
end Go.Ag
