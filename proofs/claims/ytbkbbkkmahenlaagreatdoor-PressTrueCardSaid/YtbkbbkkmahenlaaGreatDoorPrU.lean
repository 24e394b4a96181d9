/- The law PressTrue returns true for arguments that read as data. No conditions. -/
import Derived.Test.YtbkbbkkmahenlaaGreatDoorPrN
import Derived.Test.YtbkbbkkmahenlaaGreatDoorPrH
import Derived.Test.YtbkbbkkmahenlaaGreatDoorPrJ
import Derived.Test.YtbkbbkkmahenlaaGreatDoorPrK
/- Layer 8: the law of truths. -/
namespace Go.Ag
open Go.Proofs
set_option maxRecDepth 100000

theorem trueLaw_no {v : PV} {c : Pr} (hf : Ret Tryz.prog 28 [v.cv c] (B false)) (w : Int) (b : By) : Ret Tryz.prog 5 [v.cv c, .lit (.int .u16 w), byW b] (B true) := by
  refine ret_by (hm := true) Tryz.func5 rfl ?_
  conv => whnf
  refine .ret (hf) rfl ?_
  conv => whnf
  refine .ret (Awake.alive_ret) rfl ?_
  conv => whnf
  exact .val
theorem draw_two {x : Int} {p q : Nat} {C D : List CV} {f : FuncId} {h : Heap} (hp : Heap.at h p = .blk (C.map .c)) (hq : Heap.at h q = .blk (D.map .c)) {v : CV} (hk : Ret Tryz.prog f [I x, .cptr C 0, .cptr D 0] v) (hv : v.plain = true) {K : CV → List Nat → List (Nat × AB) → Prop} (k : K v [p, q] []) : CallD Tryz.prog f [.c (I x), .ptr p 0, .ptr q 0] h K := by
  have e0 : ∀ a : Nat, snaps (Heap.at h) (a + 1) [] = some ([], []) := fun a => rfl
  have e1 : ∀ (a : Nat) (c : CV), snap (Heap.at h) (a + 1) (.c c) = some (c, []) := fun a c => rfl
  have h1 := snapsCons (snap_ptr (off := 0) hq (D.length + C.length + 20) (by omega)) (e0 _)
  have h2 := snapsCons (snap_ptr (off := 0) hp (D.length + C.length + 20 + 1) (by omega)) h1
  have h3 := snapsCons (e1 _ (I x)) h2
  have hkl : ∀ ids, killed v ids = [] := fun ids => by unfold killed; rw [if_pos hv]
  exact .snapped _ _ _ v h3 hk (by rw [hkl]; exact k)
set_option maxHeartbeats 16000000 in
theorem trueLaw_ok {v : PV} {d : Pn} (hv : v.Is d.pr) (hd : d.Good) (hok : okPr d.pr = true) (hfar : farB d.pr = false) {w : Nat} (hw : w < 65536) {b : By} (hb : b.ok) : Ret Tryz.prog 5 [v.cv d.pr, .lit (.int .u16 w), byW b] (B true) := by
  have hfi := fine_ret hv
  rw [hfar, hok] at hfi
  have p10 := pow10 hd.n10
  have hev := every_ret hv (by rw [pr_len]; exact hd.n10)
  rw [pr_len] at hev
  have hfn := hv.fn
  rw [pr_len] at hfn
  have hn10 := hd.n10
  have hal := Awake.alive_ret
  obtain ⟨ws, T, hT⟩ := truly_ex hv hd hb
  obtain ⟨hx, hr⟩ := tru_good hd T
  obtain ⟨x, hxe⟩ : ∃ x, x = truP d ws := ⟨_, rfl⟩
  have hxn : x.n = d.n := by rw [hxe]; rfl
  have hxfl : x.pr.fl = d.pr.fl := by rw [hxe]; rfl
  have hal' : ∀ s, alikeB x s = alikeB d s := by rw [hxe]; exact fun _ => rfl
  have hlo : x.low = d.low := by rw [hxe]; rfl
  have hto : x.top = d.top := by rw [hxe]; rfl
  have hxT : TrW x ws := by rw [hxe]; exact ⟨T.len, T.at'⟩
  rw [← hxe] at hT hx hr
  have hxw : x.pr.wd.length ≤ 1000 := by have := hx.w4; show (x.wd.map _).length ≤ 1000; rw [List.length_map]; omega
  have hvx : (v.own x.pr.wd).Is x.pr := own_is (c := d.pr) hv hxfl hxw
  have hokx := ok_of_good hx
  have hcx := right_can hx hxT hr
  have hwl : ws.length ≤ 10 := by rw [T.len]; exact hn10
  -- what fits is right
  have hfr : ∀ s, fitsP x s = true → rightB d ws s = true := fun s h => by
    rw [fits_says hx hcx s] at h
    have h2 := right_weigh hx hxT hr s
    unfold inW at h2
    rw [hal', hlo, hto] at h
    unfold rightB
    simp only [Bool.and_eq_true, decide_eq_true_eq] at h ⊢
    exact ⟨h.1, by omega, by omega⟩
  have hnr : ∀ s, sureN (fitsP x s) (meetsP x s) = 0 → rightB d ws s = false := fun s h => by
    have h1 := never_says hx hcx s
    rw [h] at h1
    have h2 := right_weigh hx hxT hr s
    unfold inW at h2
    rw [hal', hlo, hto] at h1
    unfold rightB
    have h1 : true = _ := h1
    cases ha : alikeB d s
    · rfl
    · rw [ha] at h1
      simp only [Bool.not_true, Bool.false_or] at h1
      have h1 := h1.symm
      simp only [Bool.or_eq_true, decide_eq_true_eq] at h1
      rw [Bool.true_and, Bool.and_eq_false_iff, decide_eq_false_iff_not, decide_eq_false_iff_not]
      omega
  have hright := fun s hs => right_ret (v := v) hv hd hwl T.sm (s := s) hs
  have hs1 : w &&& (2 ^ d.n - 1) < 2 ^ d.n := by have := Nat.and_le_right (n := w) (m := 2 ^ d.n - 1); omega
  obtain ⟨s, hse⟩ : ∃ s, s = w &&& (2 ^ d.n - 1) := ⟨_, rfl⟩
  rw [← hse] at hs1
  have h1 := falseX_ret hvx hx hokx
  have h2 := weightX_ret hvx hx hokx (s := s) (by rw [hxn]; exact hs1)
  have h3 := fitsX_ret hvx hx hokx (s := s) (by rw [hxn]; exact hs1)
  have h4 := planX_ret hvx hx hokx
  have h5 := addX_ret hvx hx hokx (s := s) (by rw [hxn]; exact hs1)
  have hw0 := wrong_can.2 hcx
  unfold wrE at h1
  rw [hw0] at h1
  unfold wOf eOf at h2
  unfold fOf fitN eOf at h3
  unfold lOf eOf at h4
  unfold adN adE at h5
  simp only [hcx, if_true] at h1 h2 h3 h4 h5
  refine ret_then (hm := true) Tryz.func5 rfl ?_
  conv => whnf
  repeat (refine then_seq (hm := true) ?_; conv => whnf)
  refine .ret (hfi) rfl ?_
  conv => whnf
  refine then_seq (hm := true) ?_
  conv => whnf
  refine .ret (hT) rfl ?_
  conv => whnf
  refine then_seq (hm := true) ?_
  conv => whnf
  rw [show IntKind.i64.wrap ((w : Nat) : Int) = (w : Nat) from wrap_eq (by omega) (by omega)]
  refine .ret (hev) rfl ?_
  conv => whnf
  refine ⟨_, and_nat (a := w) (b := 2 ^ d.n - 1) (by omega) (by omega), ?_⟩
  conv => whnf
  rw [← hse]
  refine then_seq (hm := true) ?_
  conv => whnf
  refine .ret (h1) rfl ?_
  conv => whnf
  refine then_seq (hm := true) ?_
  conv => whnf
  refine .ret (h2) rfl ?_
  conv => whnf
  refine then_seq (hm := true) ?_
  conv => whnf
  refine .ret (h3) rfl ?_
  conv => whnf
  refine then_seq (hm := true) ?_
  conv => whnf
  refine .ret (h4) rfl ?_
  conv => whnf
  refine then_seq (hm := true) ?_
  conv => whnf
  refine .ret (h5) rfl ?_
  conv => whnf
  obtain ⟨W, hW⟩ : ∃ W, W = weigh' x s := ⟨_, rfl⟩
  have hin := right_weigh hx hxT hr s
  rw [← hW] at hin
  unfold inW at hin
  have k3 : 0 ≤ sureN (fitsP x s) (meetsP x s) ∧ sureN (fitsP x s) (meetsP x s) ≤ 2 := by unfold sureN; split; omega; split <;> omega
  have hk2 : sureN (fitsP x s) (meetsP x s) = 2 → rightB d ws s = true := fun h => hfr s (sure_two.1 h)
  have hk0 := hnr s
  obtain ⟨A, hA⟩ : ∃ A, A = addO x s := ⟨_, rfl⟩
  rw [← hA]
  rw [← hA] at h5
  generalize hk : sureN (fitsP x s) (meetsP x s) = k at *
  refine then_via (hm := true) (fun st => ∃ H1 : Heap, Heap.at H1 0 = v.blk d.pr ∧ Heap.at H1 2 = .blk [.c (nsC ws)] ∧ Heap.at H1 3 = .blk [.c (I W.lo), .c (I W.hi)] ∧ Has st 159 [(3, .ptr 0 0), (8, .ptr 2 0), (9, .c (I s)), (14, .c (I k)), (16, .c (nsC (planL x))), (18, .c (I (A.getD 0 : Nat))), (19, .c (I (if A.isSome then 0 else 4))), (12, .ptr 3 0)] [] none H1) ?_ ?_
  · skip
    cases A with
    | none =>
      conv => whnf
      exact ⟨_, rfl, rfl, by rw [hW]; rfl, rfl, ⟨rfl, rfl, rfl, rfl, rfl, rfl, rfl, rfl, trivial⟩, rfl, rfl, rfl, rfl⟩
    | some a =>
      conv => whnf
      exact ⟨_, rfl, rfl, by rw [hW]; rfl, rfl, ⟨rfl, rfl, rfl, rfl, rfl, rfl, rfl, rfl, trivial⟩, rfl, rfl, rfl, rfl⟩
  clear h1 h2 h3 h4 h5 hT hfi hev
  rintro st ⟨H1, g0, g2, g3, hs⟩
  refine hs.then ?_
  refine then_seq (hm := false) ?_
  conv => whnf
  have gp : Heap.at H1 2 = .blk ([nsC ws].map .c) := g2
  have gq : Heap.at H1 0 = .blk ((v.cs d.pr).map .c) := g0
  have htot := total_ret hwl T.sm (s := s) (by omega)
  refine then_via (hm := false) (fun st => Has st 159 [(3, .ptr 0 0), (8, .ptr 2 0), (9, .c (I s)), (14, .c (I k)), (16, .c (nsC (planL x))), (18, .c (I (A.getD 0 : Nat))), (19, .c (I (if A.isSome then 0 else 4))), (20, .func (.func 31) [] [.ptr 2 0, .ptr 0 0])] [] none H1) ?_ ?_
  · skip
    refine draw_by (hm := false) (by kernel_rfl) (by kernel_rfl) ?_
    conv => whnf
    refine ⟨_, g2, ?_⟩
    conv => whnf
    refine .pure _ _ rfl (htot) ?_
    conv => whnf
    refine ⟨_, g3, ?_⟩
    conv => whnf
    refine .pure _ _ rfl (inside_ret _ _ _) ?_
    conv => whnf
    rw [show decide (W.lo ≤ totW ws s) = true from decide_eq_true hin.1, show decide (totW ws s ≤ W.hi) = true from decide_eq_true hin.2]
    conv => whnf
    cases h2 : (k == 2)
    · conv => whnf
      cases h0 : (k == 0)
      · conv => whnf
        refine ⟨by kernel_rfl, ?_⟩
        conv => whnf
        exact ⟨rfl, ⟨rfl, rfl, rfl, rfl, rfl, rfl, rfl, rfl, trivial⟩, rfl, rfl, rfl, rfl⟩
      · have hrb := hk0 (beq_iff_eq.1 h0)
        conv => whnf
        refine draw_two gp gq (hright s hs1) rfl ?_
        rw [hrb]
        conv => whnf
        refine ⟨by kernel_rfl, ?_⟩
        conv => whnf
        exact ⟨rfl, ⟨rfl, rfl, rfl, rfl, rfl, rfl, rfl, rfl, trivial⟩, rfl, rfl, rfl, rfl⟩
    · have hrb := hk2 (beq_iff_eq.1 h2)
      have h0 : (k == 0) = false := by rw [beq_eq_false_iff_ne]; have := beq_iff_eq.1 h2; omega
      conv => whnf
      refine draw_two gp gq (hright s hs1) rfl ?_
      rw [hrb]
      conv => whnf
      rw [h0]
      conv => whnf
      refine ⟨by kernel_rfl, ?_⟩
      conv => whnf
      exact ⟨rfl, ⟨rfl, rfl, rfl, rfl, rfl, rfl, rfl, rfl, trivial⟩, rfl, rfl, rfl, rfl⟩
  clear hs
  rintro st hs
  refine hs.then ?_
  obtain ⟨okP, _⟩ := plan_facts hx hcx
  have hpm : ∀ y ∈ planL x, y < 2 ^ d.n ∧ rightB d ws y = true := fun y hy => by
    have h := okL_mem okP y hy
    refine ⟨?_, hfr y h.2⟩
    have := h.1.lt (n := x.n) (by rw [hxn]; omega)
    rw [hxn] at this
    exact this
  have hpl := okL_len okP
  have hx5 := hx.b5
  generalize planL x = L at *
  refine then_via (hm := false) (fun st => Has st 159 [(3, .ptr 0 0), (8, .ptr 2 0), (9, .c (I s)), (18, .c (I (A.getD 0 : Nat))), (19, .c (I (if A.isSome then 0 else 4))), (20, .func (.func 31) [] [.ptr 2 0, .ptr 0 0])] [] none H1) ?_ ?_
  · skip
    conv => whnf
    refine loop_by (I := fun z st => ∃ (q : Nat), q ≤ L.length ∧ z = L.length - q ∧ Has st 159 [(3, .ptr 0 0), (8, .ptr 2 0), (9, .c (I s)), (18, .c (I (A.getD 0 : Nat))), (19, .c (I (if A.isSome then 0 else 4))), (20, .func (.func 31) [] [.ptr 2 0, .ptr 0 0]), (118, .c (nsC L)), (119, .c (I L.length)), (120, .c (I q))] [] none H1) ?_ (k := L.length)
      ⟨0, Nat.zero_le _, rfl, rfl, ⟨rfl, rfl, rfl, rfl, rfl, rfl, rfl, rfl, rfl, trivial⟩, rfl, rfl, rfl, rfl⟩
    clear hs
    rintro z st ⟨q, hq, rfl, hs⟩
    refine (hs.then ?_).1
    refine then_seq (hm := false) ?_
    conv => whnf
    cases hcq : decide ((q : Int) < (L.length : Int))
    case false =>
      refine then_seq (hm := false) ?_
      conv => whnf
      exact ⟨rfl, ⟨rfl, rfl, rfl, rfl, rfl, rfl, trivial⟩, rfl, rfl, rfl, rfl⟩
    have hq : q < L.length := by simp at hcq; omega
    obtain ⟨y, hy⟩ := get_some hq
    obtain ⟨hyl, hyr⟩ := hpm y (List.mem_of_getElem? hy)
    refine then_seq (hm := false) ?_
    conv => whnf
    refine then_left (then_block ?_)
    refine then_seq (hm := false) ?_
    conv => whnf
    refine ⟨⟨by omega, by omega⟩, ?_⟩
    conv => whnf
    refine ⟨_, ns_get hy, ?_⟩
    conv => whnf
    refine then_at (hm := false) (fun st => Has st 159 [(3, .ptr 0 0), (8, .ptr 2 0), (9, .c (I s)), (18, .c (I (A.getD 0 : Nat))), (19, .c (I (if A.isSome then 0 else 4))), (20, .func (.func 31) [] [.ptr 2 0, .ptr 0 0]), (118, .c (nsC L)), (119, .c (I L.length)), (120, .c (I q))] [] none H1) ?_ ?_
    · skip
      conv => whnf
      refine call_two gp gq (hright y hyl) rfl ?_
      rw [hyr]
      conv => whnf
      exact ⟨rfl, ⟨rfl, rfl, rfl, rfl, rfl, rfl, rfl, rfl, rfl, trivial⟩, rfl, rfl, rfl, rfl⟩
    rintro s1 hs'
    show Then Tryz.prog _ s1 _
    refine hs'.then ?_
    refine then_end (hm := false) ?_
    conv => whnf
    refine ⟨((q + 1 : Nat) : Int), by rw [wrap_eq (by omega) (by omega)]; omega, ?_⟩
    conv => whnf
    exact ⟨L.length - (q + 1), by omega, q + 1, by omega, rfl, rfl, ⟨rfl, rfl, rfl, rfl, rfl, rfl, rfl, rfl, rfl, trivial⟩, rfl, rfl, rfl, rfl⟩
  clear hs
  rintro st hs
  refine hs.then ?_
  refine then_via (hm := false) (fun st => Has st 159 [] [] none H1) ?_ ?_
  · skip
    cases hAA : A with
    | none =>
      conv => whnf
      exact ⟨rfl, trivial, rfl, rfl, rfl, rfl⟩
    | some a =>
      rw [hAA] at hA
      have hf := add_first hx s
      rw [← hA] at hf
      unfold firstQ at hf
      have hgo := List.find?_some hf.symm
      have hal2 := List.mem_range.1 (List.mem_of_find?_eq_some hf.symm)
      rw [hxn] at hal2
      unfold goF at hgo
      rw [Bool.and_eq_true, Bool.not_eq_true'] at hgo
      have hor : s ||| 2 ^ a < 2 ^ d.n := Nat.or_lt_two_pow hs1 (Nat.pow_lt_pow_right (by omega) hal2)
      have pa : 2 ^ a ≤ 2 ^ 9 := Nat.pow_le_pow_right (by omega) (by omega)
      have hra := hfr _ hgo.2
      conv => whnf
      rw [show decide ((((some a).getD 0 : Nat) : Int) < 0) = false from decide_eq_false (by show ¬ ((a : Int) < 0); omega)]
      conv => whnf
      refine ⟨_, g0, ?_⟩
      conv => whnf
      rw [show decide ((((some a).getD 0 : Nat) : Int) ≥ (v.fn : Int)) = false from decide_eq_false (by show ¬ ((a : Int) ≥ _); omega)]
      conv => whnf
      refine ⟨by show (0 : Int) ≤ (a : Int); omega, _, shr_nat s a (by omega), ?_⟩
      conv => whnf
      refine ⟨_, and_nat (a := s >>> a) (b := 1) (by have := Nat.shiftRight_le s a; omega) (by omega), ?_⟩
      conv => whnf
      rw [bit_nat, hgo.1]
      conv => whnf
      refine ⟨by show (0 : Int) ≤ (a : Int); omega, _, shl_one a (by omega), ?_⟩
      conv => whnf
      refine ⟨_, or_nat (a := s) (b := 2 ^ a) (by omega) (by omega), ?_⟩
      conv => whnf
      refine call_two gp gq (hright _ hor) rfl ?_
      rw [hra]
      conv => whnf
      exact ⟨rfl, trivial, rfl, rfl, rfl, rfl⟩
  clear hs
  rintro st hs
  refine hs.then ?_
  refine then_end (hm := false) ?_
  conv => whnf
  refine .ret (hal) rfl ?_
  conv => whnf
  exact .val
theorem trueLaw_any {v : PV} {c : Pr} (h : v.IsL c) {n1 : Int} (h1 : (Lit.int .u16 n1).wf = true) (b : By) (hb : b.ok) : Ret Tryz.prog 5 [v.cv c, .lit (.int .u16 n1), byW b] (B true) := by
  rcases IsL.cases h with hs | hs
  · cases hf : farB c
    · cases hok : okPr c
      · exact trueLaw_no (by have := fine_ret hs; rw [hf, hok] at this; exact this) _ _
      · obtain ⟨d, rfl, hd⟩ := good_of hok
        obtain ⟨w1, rfl, hw1⟩ := law_u16 h1
        exact trueLaw_ok hs hd hok hf hw1 hb
    · exact trueLaw_no (fine_far h hf) _ _
  · exact trueLaw_no (fine_far h hs) _ _
end Go.Ag
