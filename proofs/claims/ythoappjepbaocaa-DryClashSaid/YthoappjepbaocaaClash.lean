/- The law DryClash returns true for every input, and the input reads as it did. No conditions. -/
import Derived.Test.YthoappjepbaocaaDrI
import Derived.Test.YthoappjepbaocaaRows
import Derived.WalkKit
import Derived.ProofKit
import Derived.OpenShut
import Derived.ShutString
import Derived.ChangeOld
import Derived.Below
/- Layer 2: whether some findings clash, as the law asks it. -/
namespace Go.Ag
open Go.Proofs
set_option maxRecDepth 100000
set_option maxHeartbeats 2000000

theorem bit0_nat (s q : Nat) : (((s >>> q &&& 1 : Nat) : Int) == 0) = !s.testBit q := by
  have h := bit_nat s q
  have hl : s >>> q &&& 1 < 2 := Nat.lt_of_le_of_lt Nat.and_le_right (by omega)
  rcases (by omega : (s >>> q &&& 1) = 0 ∨ (s >>> q &&& 1) = 1) with e | e
  · rw [e] at h ⊢
    rw [← h]; rfl
  · rw [e] at h ⊢
    rw [← h]; rfl
theorem all_err {d : Dr} (h : validB d = true) : (allR d).2 = if possibleF (flockF d) = true then 0 else 10 := by
  have hfl : (flockF d).pens.length = d.pens.length := by simp [flockF]
  unfold allR allS
  rw [h, ← hfl, taking_all]
  cases possibleF (flockF d) <;> simp

theorem clashes_ret {v : DV} {d : Dr} (hv : v.Is d) (hd : validB d = true) {s : Nat} (hs : s < 32) : Ret Try.prog 39 [I s, dP v] (B (!possibleF (takingF (flockF d) s))) := by
  have e1 := hv.pn; have e0 := hv.mn; have e2 := hv.lim; have e3 := hv.short
  obtain ⟨s1, s2, s3, s4, s5, s6⟩ := valid_sizes hd
  refine ret_by (hm := false) Try.func39 rfl ?_
  conv => whnf
  refine ⟨_, rfl, ?_⟩
  conv => whnf
  obtain ⟨ec, h1, hc1, rfl, f1, c3, c5, hn1⟩ := copied_ret hv s1 s3 TMap.nil
  have c5' : Heap.at h1 5 = .blk ((penCells d.pens).map .c) := c5
  have c3' : Heap.at h1 3 = .blk ((mobCells d.mobs).map .c) := c3
  have hn1 : h1.n = 6 := hn1
  refine .inl _ h1 .no hc1 ?_
  conv => whnf
  refine ⟨_, at_push_self _ _, ?_⟩
  conv => whnf
  refine ⟨_, at_new _ _ _, ?_⟩
  conv => whnf
  rw [hn1]
  refine loop_by (I := fun n st => ∃ (q : Nat) (h : Heap), q ≤ d.pens.length ∧ n = d.pens.length - q ∧ 7 ≤ h.n ∧ Heap.at h 6 = .blk [.msl 3 3 0 d.mobs.length d.mobs.length, .msl 5 6 0 d.pens.length d.pens.length, .c (I v.lim)] ∧
      Heap.at h 3 = .blk ((mobCells d.mobs).map .c) ∧ Heap.at h 5 = .blk ((penCells (bareTo d s q).pens).map .c) ∧
      Has st 35 [(0, .c (I s)), (4, .ptr 6 0), (12, .c (I d.pens.length)), (13, .c (I q))] [] none h) ?_ (k := d.pens.length)
    ⟨0, _, Nat.zero_le _, rfl, ?_, ?_, ?_, ?_, rfl, ⟨rfl, rfl, rfl, rfl, trivial⟩, rfl, rfl, rfl, rfl⟩
  · rintro n st ⟨q, h, hq, rfl, hn, b6, b3, b5, hs1⟩
    refine hs1.run (hm := false) ?_
    conv => whnf
    cases hc : decide ((q : Int) < (d.pens.length : Int))
    · have hqe : q = d.pens.length := by simp at hc; omega
      subst hqe
      have hvx : validB (bareD d s) = true := valid_bare hd s (Nat.le_refl _)
      have hall := allOf2_ret (vOf_is (d := bareD d s) ⟨by rw [show (bareD d s).mobs = d.mobs from bare_mobs d s _]; exact e3.1, by rw [show (bareD d s).pens.length = d.pens.length from bare_len d s _]; exact e3.2⟩)
      rw [all_err hvx, flock_bare hd s] at hall
      conv => whnf
      refine ⟨_, b6, ?_⟩
      conv => whnf
      refine .snapped _ _ _ _ _ (snap_own (d := bareD d s) (by rw [show (bareD d s).mobs = d.mobs from bare_mobs d s _]) (bare_len d s _) (by rw [show (bareD d s).limit = d.limit from bare_lim d s _]; exact e2.symm) (by rw [show (bareD d s).mobs = d.mobs from bare_mobs d s _]; exact b3) b5) hall rfl ?_
      conv => whnf
      refine ⟨_, at_push_self _ _, ?_⟩
      conv => whnf
      cases possibleF (takingF (flockF d) s) <;> exact .val
    · have hq : q < d.pens.length := by simp at hc; omega
      conv => whnf
      refine ⟨by omega, _, shr_nat s q (by omega), ?_⟩
      conv => whnf
      refine ⟨_, and_nat (b := 1) (Nat.lt_of_le_of_lt (Nat.shiftRight_le s q) (by omega)) (by omega), ?_⟩
      conv => whnf
      rw [bit0_nat]
      cases hb : s.testBit q
      · have hb1 : bareTo d s (q + 1) = setP (bareTo d s q) q ⟨(penAt (bareTo d s q) q).fr, 0, 36⟩ := by simp [bareTo, hb]
        have hql : q < (bareTo d s q).pens.length := by rw [bare_len]; exact hq
        conv => whnf
        refine draw_by (hm := false) (by kernel_rfl) (by kernel_rfl) ?_
        conv => whnf
        refine ⟨_, b6, ?_⟩
        conv => whnf
        refine .ret (mkspan_ret _ _) rfl ?_
        conv => whnf
        refine ⟨⟨rfl, by omega, by omega⟩, ?_⟩
        conv => whnf
        refine ⟨_, b5, look_put (put_found' hql 0 36) ?_⟩
        conv => whnf
        refine ⟨by show 5 < h.n; omega, ?_⟩
        conv => whnf
        refine forceL_intro ?_
        conv => whnf
        refine ⟨by kernel_rfl, ?_⟩
        conv => whnf
        refine ⟨((q + 1 : Nat) : Int), by rw [wrap_eq (by omega) (by omega)]; omega, ?_⟩
        conv => whnf
        refine ⟨d.pens.length - (q + 1), by omega, q + 1, _, by omega, rfl, by show 7 ≤ h.n; exact hn, (at_set_ne _ _ (by omega)).trans b6, (at_set_ne _ _ (by omega)).trans b3, ?_, rfl, ⟨rfl, rfl, rfl, rfl, trivial⟩, rfl, rfl, rfl, rfl⟩
        rw [hb1]
        exact at_set_self _ _ (by omega)
      · have hb1 : bareTo d s (q + 1) = bareTo d s q := by simp [bareTo, hb]
        conv => whnf
        refine ⟨((q + 1 : Nat) : Int), by rw [wrap_eq (by omega) (by omega)]; omega, ?_⟩
        conv => whnf
        exact ⟨d.pens.length - (q + 1), by omega, q + 1, _, by omega, rfl, hn, b6, b3, by rw [hb1]; exact b5, rfl, ⟨rfl, rfl, rfl, rfl, trivial⟩, rfl, rfl, rfl, rfl⟩
  · show 7 ≤ h1.n + 1; omega
  · have := at_new h1 (.blk [AV.lit (.slice none 0 0), AV.lit (.slice none 0 0), AV.lit (.int .i64 0)]) (.blk [.msl 3 3 0 d.mobs.length d.mobs.length, .msl 5 6 0 d.pens.length d.pens.length, .c (I v.lim)])
    rw [hn1] at this
    exact this
  · have := (at_old h1 (.blk [AV.lit (.slice none 0 0), AV.lit (.slice none 0 0), AV.lit (.int .i64 0)]) (.blk [.msl 3 3 0 d.mobs.length d.mobs.length, .msl 5 6 0 d.pens.length d.pens.length, .c (I v.lim)]) (i := 3) (by omega)).trans c3'
    rw [hn1] at this
    exact this
  · have := (at_old h1 (.blk [AV.lit (.slice none 0 0), AV.lit (.slice none 0 0), AV.lit (.int .i64 0)]) (.blk [.msl 3 3 0 d.mobs.length d.mobs.length, .msl 5 6 0 d.pens.length d.pens.length, .c (I v.lim)]) (i := 5) (by omega)).trans c5'
    rw [hn1] at this
    exact this

theorem drop_bits : ∀ s : Nat, s < 32 → ∀ q : Nat, q < 5 → s.testBit q = true → IntKind.i64.wrap ((BitVec.ofInt 64 (s : Int) &&& ~~~BitVec.ofInt 64 ((1 * 2 ^ q : Nat) : Int)).toNat : Int) = ((s - 2 ^ q : Nat) : Int) := by decide +kernel
theorem snap_ptr {H : Nat → AB} {v : DV} {c : CV} (h : H 0 = v.blk) : snaps H 10 [.c c, .ptr 0 0] = some ([c, dP v], [0]) := by
  unfold DV.blk at h
  simp only [snaps, snap, h, Option.map_some, Option.bind_some]
  rfl
/-- The law. -/
theorem clashLaw_ret {v : DV} {d : Dr} (hv : v.Is d) (hA : Ret Try.prog 13 [] (B true)) (w : Nat) (hw : w < 256) : Ret Try.prog 10 [v.cv, .lit (.int .u8 w)] (B true) := by
  have e1 := hv.pn; have e0 := hv.mn; have e2 := hv.lim; have e3 := hv.short
  refine ret_by (hm := true) Try.func10 rfl ?_
  conv => whnf
  refine .ret (fine_ret hv) rfl ?_
  conv => whnf
  cases hd : validB d
  · conv => whnf
    refine .ret hA rfl ?_
    conv => whnf
    exact .val
  obtain ⟨s1, s2, s3, s4, s5, s6⟩ := valid_sizes hd
  have hall := allOf2_ret hv
  have hcl := clash_ret hv
  have h32 : 2 ^ d.pens.length ≤ 2 ^ 5 := Nat.pow_le_pow_right (by omega) s4
  cases hpos : possibleF (flockF d)
  case true =>
    have xc : clashR d = (0, 4) := by
      unfold clashR
      rw [hd, (clash_none hd).2 hpos]
      rfl
    have xa : (allR d).2 = 0 := by rw [all_err hd, hpos]; rfl
    rw [xc] at hcl
    rw [xa] at hall
    conv => whnf
    refine .ret hcl rfl ?_
    conv => whnf
    refine .ret hall rfl ?_
    conv => whnf
    refine .ret hA rfl ?_
    conv => whnf
    exact .val
  obtain ⟨s, hs⟩ : ∃ s, clashS d = some s := by
    cases hc : clashS d with
    | none => rw [(clash_none hd).1 hc] at hpos; cases hpos
    | some s => exact ⟨s, rfl⟩
  have xc : clashR d = (s, 0) := by
    unfold clashR
    rw [hd, hs]
    rfl
  have xa : (allR d).2 = 10 := by rw [all_err hd, hpos]; rfl
  obtain ⟨q1, q2, q3⟩ := first_least s4 (show (bySize d.pens.length).find? (fun s => !possibleF (takingF (flockF d) s)) = some s from hs)
  have hs1 : 1 ≤ s := by
    rcases Nat.eq_zero_or_pos s with h | h
    · subst h; rw [taking_none hd] at q1; simp at q1
    · exact h
  rw [xc] at hcl
  rw [xa] at hall
  dsimp only at hcl hall
  have hcs := clashes_ret hv hd (s := s) (by omega)
  rw [q1] at hcs
  conv => whnf
  refine .ret hcl rfl ?_
  conv => whnf
  refine .ret hall rfl ?_
  conv => whnf
  have h32' : 2 ^ v.pn ≤ 2 ^ 5 := by rw [e1]; exact h32
  have p0' : 0 < 2 ^ v.pn := Nat.two_pow_pos _
  refine ⟨by omega, _, shl_nat 1 v.pn (by omega) (by omega), ?_⟩
  conv => whnf
  refine ⟨((2 ^ v.pn - 1 : Nat) : Int), by rw [wrap_eq (by omega) (by omega)]; omega, ?_⟩
  conv => whnf
  have k1 : decide ((s : Int) < 1) = false := by simp; omega
  have p0 : 0 < 2 ^ d.pens.length := Nat.two_pow_pos _
  have k2 : decide ((s : Int) > ((2 ^ v.pn - 1 : Nat) : Int)) = false := by
    rw [e1, decide_eq_false_iff_not]
    exact Int.not_lt.2 (Int.ofNat_le.2 (by omega))
  rw [k1]
  conv => whnf
  rw [k2]
  conv => whnf
  refine .snapped 10 _ _ _ _ rfl hcs rfl ?_
  conv => whnf
  refine loop_by (I := fun n st => ∃ (q : Nat) (h : Heap), q ≤ d.pens.length ∧ n = d.pens.length - q ∧ Heap.at h 0 = v.blk ∧
      Has st 121 [(1, .c (.lit (.int .u8 w))), (2, .ptr 0 0), (5, .c (I s)), (9, .c (I ((2 ^ v.pn - 1 : Nat) : Int))), (10, .func (.func 39) [] [.ptr 0 0]), (69, .c (I v.pn)), (70, .c (I q))] [] none h) ?_ (k := d.pens.length)
    ⟨0, _, Nat.zero_le _, rfl, rfl, rfl, ⟨rfl, rfl, rfl, rfl, rfl, rfl, rfl, trivial⟩, rfl, rfl, rfl, rfl⟩
  rintro n st ⟨q, h, hq, rfl, b0, hs1'⟩
  refine hs1'.run (hm := false) ?_
  conv => whnf
  cases hc : decide ((q : Int) < (v.pn : Int))
  case true =>
    have hq : q < d.pens.length := by simp at hc; omega
    conv => whnf
    refine ⟨by omega, _, shr_nat s q (by omega), ?_⟩
    conv => whnf
    refine ⟨_, and_nat (b := 1) (Nat.lt_of_le_of_lt (Nat.shiftRight_le s q) (by omega)) (by omega), ?_⟩
    conv => whnf
    rw [bit_nat]
    have hfin : ∃ j, j < d.pens.length - q ∧ True := ⟨d.pens.length - (q + 1), by omega, trivial⟩
    cases hb : s.testBit q
    · conv => whnf
      refine ⟨((q + 1 : Nat) : Int), by rw [wrap_eq (by omega) (by omega)]; omega, ?_⟩
      conv => whnf
      exact ⟨d.pens.length - (q + 1), by omega, q + 1, h, by omega, rfl, b0, rfl, ⟨rfl, rfl, rfl, rfl, rfl, rfl, rfl, trivial⟩, rfl, rfl, rfl, rfl⟩
    · obtain ⟨p1, p2⟩ := pop_drop s (by omega) q (by omega) hb
      have q32 : 2 ^ q ≤ 2 ^ 5 := Nat.pow_le_pow_right (by omega) (by omega)
      have hcq := clashes_ret hv hd p2
      have hno : (!possibleF (takingF (flockF d) (s - 2 ^ q))) = false := by
        rw [Bool.eq_false_iff]
        intro hh
        rcases q3 (s - 2 ^ q) (Nat.lt_of_le_of_lt (Nat.sub_le _ _) q2) hh with h1 | h1
        · rw [h1] at p1; omega
        · unfold Less at h1; omega
      rw [hno] at hcq
      conv => whnf
      refine ⟨by omega, _, shl_nat 1 q (by omega) (by omega), ?_⟩
      conv => whnf
      refine ⟨_, drop_bits s (by omega) q (by omega) hb, ?_⟩
      conv => whnf
      refine .snapped 10 [I ((s - 2 ^ q : Nat) : Int), dP v] [0] _ _ (snap_ptr b0) hcq rfl ?_
      conv => whnf
      refine ⟨((q + 1 : Nat) : Int), by rw [wrap_eq (by omega) (by omega)]; omega, ?_⟩
      conv => whnf
      exact ⟨d.pens.length - (q + 1), by omega, q + 1, h, by omega, rfl, b0, rfl, ⟨rfl, rfl, rfl, rfl, rfl, rfl, rfl, trivial⟩, rfl, rfl, rfl, rfl⟩
  conv => whnf
  have hw8 : IntKind.i64.wrap (w : Int) = (w : Int) := wrap_u8 hw
  rw [hw8]
  refine ⟨_, and_nat (a := w) (b := 2 ^ v.pn - 1) (by omega) (by omega), ?_⟩
  conv => whnf
  have ho : w &&& (2 ^ v.pn - 1) < 2 ^ d.pens.length := by
    rw [e1]
    have : w &&& (2 ^ d.pens.length - 1) ≤ 2 ^ d.pens.length - 1 := Nat.and_le_right
    omega
  generalize w &&& (2 ^ v.pn - 1) = o at ho
  have hco := clashes_ret hv hd (s := o) (by omega)
  refine .snapped 10 [I o, dP v] [0] _ _ (snap_ptr b0) hco rfl ?_
  have hso := size_ret (n := o) (by omega)
  have hss := size_ret (n := s) (by omega)
  cases hq : (!possibleF (takingF (flockF d) o))
  · conv => whnf
    refine .ret hA rfl ?_
    conv => whnf
    exact .val
  conv => whnf
  refine .ret hso rfl ?_
  conv => whnf
  refine .ret hss rfl ?_
  conv => whnf
  rcases q3 o ho hq with h1 | h1 | ⟨h1, h2⟩
  · subst h1
    have x1 : decide ((pop o : Int) > (pop o : Int)) = false := by rw [decide_eq_false_iff_not]; omega
    have x2 : ((pop o : Int) == (pop o : Int)) = true := by simp
    have x3 : decide ((o : Int) ≥ (o : Int)) = true := by rw [decide_eq_true_iff]; omega
    rw [x1]
    conv => whnf
    refine .ret hso rfl ?_
    conv => whnf
    refine .ret hss rfl ?_
    conv => whnf
    rw [x2]
    conv => whnf
    rw [x3]
    conv => whnf
    refine .ret hA rfl ?_
    conv => whnf
    exact .val
  · have x1 : decide ((pop o : Int) > (pop s : Int)) = true := by rw [decide_eq_true_iff]; omega
    rw [x1]
    conv => whnf
    refine .ret hA rfl ?_
    conv => whnf
    exact .val
  · have x1 : decide ((pop o : Int) > (pop s : Int)) = false := by rw [decide_eq_false_iff_not]; omega
    have x2 : ((pop o : Int) == (pop s : Int)) = true := by simp [h1]
    have x3 : decide ((o : Int) ≥ (s : Int)) = true := by rw [decide_eq_true_iff]; omega
    rw [x1]
    conv => whnf
    refine .ret hso rfl ?_
    conv => whnf
    refine .ret hss rfl ?_
    conv => whnf
    rw [x2]
    conv => whnf
    rw [x3]
    conv => whnf
    refine .ret hA rfl ?_
    conv => whnf
    exact .val
end Go.Ag
/- The statement DryClash. -/
namespace Go.Ag
open Go.Proofs
set_option maxRecDepth 100000
theorem dryClash_far {v : DV} (hfar : max (v.mn : Int) (v.pn : Int) > 40) (hA : Ret Try.prog 13 [] (B true)) (w : Nat) : Ret Try.prog 10 [v.cv, .lit (.int .u8 w)] (B true) := by
  have hf := fine_far hfar
  refine ret_by (hm := true) Try.func10 rfl ?_
  conv => whnf
  refine .ret hf rfl ?_
  conv => whnf
  refine .ret hA rfl ?_
  conv => whnf
  exact .val
theorem dryClash_u8 {n : Int} (hn : (Lit.int .u8 n).wf = true) : ∃ w : Nat, n = w ∧ w < 256 := by
  have h2 : 0 ≤ n ∧ n < 256 := by
    have m0 : IntKind.u8.min = 0 := by decide
    have m1 : IntKind.u8.max = 255 := by decide
    simp [Lit.wf, IntKind.signed, IntKind.bits] at hn
    omega
  exact ⟨n.toNat, by omega, by omega⟩
theorem dryClash_any {v : DV} {d : Dr} (h : v.IsL d) {n : Int} (hn : (Lit.int .u8 n).wf = true) : Ret Try.prog 10 [v.cv, .lit (.int .u8 n)] (B true) := by
  obtain ⟨w, rfl, hw⟩ := dryClash_u8 hn
  by_cases hs : v.mn ≤ 40 ∧ v.pn ≤ 40
  · have e1 : v.mn = d.mobs.length := by rw [h.m.len]; simp
    have e2 : v.pn = d.pens.length := by rw [h.p.len]; simp
    exact clashLaw_ret ⟨h.m, h.p, h.lim, by omega⟩ Awake.awake_ret w hw
  · exact dryClash_far (by omega) Awake.awake_ret w
end Go.Ag
namespace Go.Proofs.Ythoappjepbaocaa.dryClash
open Go.ChangeShapes Go.WideShapes Go.ChangeAt Go.RowKit
set_option linter.unusedVariables false

theorem own : ownKnob Try.prog.godebug = none := by kernel_rfl
theorem laidOut : laidOutB Try.prog = true := by kernel_rfl

theorem walk (v : Go.Ag.DV) (d : Go.Ag.Dr) (h : v.IsL d) (n : Int) (hn : (Lit.int .u8 n).wf = true) (u : Value) (w : World) (hu : Go.Ag.RepC (Go.Ag.allOf w) v.cv u) : Calls Try.prog 10 #[u, .int .u8 n] w fun e w' => e = .returned (.bool true) ∧ RowKit.Below w.heap.size w w' :=
  Go.Ag.calls_of_ok (args := [v.cv, .lit (.int .u8 n)]) (Go.Ag.dryClash_any h hn) w #[u, .int .u8 n] rfl ⟨hu, rfl, trivial⟩

set_option maxRecDepth 100000 in
theorem lifted (os : Os) (started : os.Started) (H : Type) (enc : TypeId × Value → H) :
    ReturnsInHanded {} Try.checked os 10 .any (Rows.dryClashSpec.pre6 enc Try.prog Try.f10 Rows.dryClashRow.domain false) (Rows.dryClashSpec.post enc Try.prog Try.f10 false true false false) := by
  refine returnsInHanded_of_change (C := Try.checked) own started (by kernel_rfl) Try.func10
    (ChangeSpec.witness6 (enc := enc) (C := Try.checked) false ⟨#[], #[.agg #[.slice none 0 0, .slice none 0 0, .int .i64 0], .int .u8 0], []⟩ 8 (by kernel_rfl) (by kernel_rfl) (by kernel_rfl) (by kernel_rfl)) ?_
  intro W base args ds gs before hval0 hW hcnd _
  have hval : ∀ (j : Nat) t v, Try.f10.params[j]? = some t → args[j]? = some v → Value.okWide Try.prog W .any base t v := hval0
  have hW' := hW
  obtain ⟨p, q, hA0, hV, rfl, hfz, hnd⟩ := hW
  have hA : DataW.TrodAll enc Try.prog W 0 (fun _ => true) true Try.f10.params.toList args.toList ds p := hA0
  rw [Try.params10] at hA hval
  obtain ⟨v0, vs0, d0, ds0, p0, q0, hargs, rfl, rfl, h0, r0⟩ := trodAll_cons hA
  obtain ⟨v1, vs1, d1, ds1, p1, q1, rfl, rfl, rfl, h1, r1⟩ := trodAll_cons r0
  obtain ⟨rfl, rfl, rfl⟩ := trodAll_nil r1
  obtain ⟨rfl, rfl⟩ := trodVars_none hV
  obtain rfl : args = #[v0, v1] := by cases args; simp_all
  have k0 := h0
  have lt0 : ∀ x ∈ p0, x.block < W.heap.size := by obtain ⟨m, hm⟩ := k0; exact DataW.trod_lt m _ _ _ hm
  obtain ⟨dv, d, hd, hu⟩ := Go.Ag.open_drove (hval 0 25 v0 rfl rfl) h0
  obtain ⟨n, rfl, rfl, rfl, hn⟩ := open_int Try.underlying5 (hval 1 5 v1 rfl rfl) h1
  clear hA0 hval0
  refine (walk dv d hd n hn v0 W hu).mono fun e W' ⟨he, bel⟩ => ?_
  subst he
  exact ⟨_, rfl, _, _, _, [], _, [], hW', trodAll_mk1 (shut_bool Try.underlying4 _), (trodAll_cons_mk (Below.trod laidOut (by kernel_rfl) (of_decide_eq_true (by kernel_rfl)) k0 bel lt0) (trodAll_cons_mk (shut_int Try.underlying5 hn) trodAll_mk0)), rfl, bel.frame _, fun h => by cases h⟩

theorem over : Rows.dryClashRow.holds Try.pinned (OpenSpec.ofChange Rows.dryClashSpec) :=
  OpenClaim.holds_of_wide 10 Try.f10 rfl rfl rfl rfl rfl rfl rfl ⟨rfl, rfl, rfl, rfl, rfl⟩ rfl rfl rfl rfl rfl (by kernel_rfl) Try.func10 (by kernel_rfl)
    (of_decide_eq_true (by kernel_rfl)) (by unfold Func.isWrapper; first | (rw [if_pos (by decide +kernel)]; kernel_rfl) | (rw [if_neg (by decide +kernel)]; exact ⟨rfl, rfl⟩))
    (fun os started H enc _ => lifted os started H enc)

/-- ████ THE STATEMENT ████ -/
theorem proved : Rows.DryClashSaid := over
#print axioms proved
end Go.Proofs.Ythoappjepbaocaa.dryClash
