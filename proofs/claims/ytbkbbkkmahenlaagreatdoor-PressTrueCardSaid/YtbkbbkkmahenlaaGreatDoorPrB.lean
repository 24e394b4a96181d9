/- Contracts of the exported Weight, Fits and False of layer 8, and the errors with which they answer. No conditions. -/
import Derived.Test.YtbkbbkkmahenlaaGreatDoorPrA
/- Layer 8: what is found of a set of fleeces, if it can be: how heavy they are. -/
namespace Go.Ag
open Go.Proofs
set_option maxRecDepth 100000

/-- A call on closed values that panics. -/
def Falls (P : Program) (f : FuncId) (args : List CV) (v : CV) : Prop := CallOk P f (args.map .c) TMap.nil .no (.panic (.c v)) TMap.nil .no
def eC (n : Int) : CV := .iface 30 (I n)
theorem close_val {f : FuncId} {args : List CV} {c : CV} (H : ∃ e h', CallOk Tryz.prog f (args.map .c) TMap.nil .no e h' .no ∧ e = .ret (.c c)) : Ret Tryz.prog f args c := by
  obtain ⟨e, h', hc, rfl⟩ := H
  exact callOk_close hc (fuel := 1) (r := (_, [])) rfl
theorem close_pan {f : FuncId} {args : List CV} {c : CV} (H : ∃ e h', CallOk Tryz.prog f (args.map .c) TMap.nil .no e h' .no ∧ e = .panic (.c c)) : Falls Tryz.prog f args c := by
  obtain ⟨e, h', hc, rfl⟩ := H
  exact callOk_close hc (fuel := 1) (r := (_, [])) rfl
theorem CallW.falls {f : FuncId} {args : List CV} {v : CV} {ws : List AV} {h : Heap} {K : AEnd → Heap → Prop} (hk : Falls Tryz.prog f args v) (ha : allC ws = some args) (k : K (.panic (.c v)) h) : CallW Tryz.prog f ws h K := .pure args _ ha hk ⟨v, rfl⟩ k
theorem sure_falls {v : PV} {d : Pn} (hv : v.IsL d.pr) (hd : d.Good) {C : List CV} (hC : Pile v d C) (hc : canP d = false) : Falls Tryz.prog 80 [.agg C] (eC 10) := by
  obtain ⟨e, h', h1, rfl, _⟩ := sure_no hv hd hC hc TMap.nil
  exact close_pan ⟨_, _, h1, rfl⟩
/-! How heavy. -/
def c45 (s : Int) : CV := .func (.func 45) [] [.cptr [I s] 0]
def cs79 (v : PV) (c : Pr) (fc : CV) : List CV := [.cptr [fc] 0, .cptr (v.cs c) 0]
set_option maxHeartbeats 1000000 in
theorem weight_clos {v : PV} {d : Pn} (hv : v.IsL d.pr) (hd : d.Good) {C : List CV} (hC : Pile v d C) {s : Nat} (hs : s < 2 ^ 62) : Ret Tryz.prog 45 [.agg C, .cptr [I s] 0] (wV (weigh' d s)) := by
  have hCc := hC.ce
  have hw := weigh_ret hv hd hC hs
  refine ret_then (hm := true) Tryz.func45 rfl ?_
  conv => whnf
  refine then_seq (hm := true) ?_
  conv => whnf
  rw [box_agg (C := C)]; rotate_left; rfl; rfl; exact hCc
  conv => whnf
  refine forceL_intro ?_
  conv => whnf
  refine then_seq (hm := true) ?_
  conv => whnf
  refine look_read (hC.rd) ?_
  conv => whnf
  refine ⟨_, rfl, ?_⟩
  conv => whnf
  refine .ret (hw) rfl ?_
  conv => whnf
  refine then_end (hm := true) ?_
  conv => whnf
  exact .val
set_option maxHeartbeats 1000000 in
theorem in45_ok {v : PV} {d : Pn} (hv : v.IsL d.pr) (hd : d.Good) (hc : canP d = true) {s : Nat} (hs : s < 2 ^ 62) : Ret Tryz.prog 79 (cs79 v d.pr (c45 s)) (wV (weigh' d s)) := by
  obtain ⟨C, hC⟩ := pile_ex v d
  have hp := pileOf_ret hv hd hC
  have hsu := sure_ok hv hd hC hc
  have hw := weight_clos hv hd hC hs
  generalize weigh' d s = W at *
  refine ret_then (hm := true) Tryz.func79 rfl ?_
  conv => whnf
  refine then_seq (hm := true) ?_
  conv => whnf
  refine then_seq (hm := true) ?_
  refine draw_by (hm := true) (by kernel_rfl) (by kernel_rfl) ?_
  conv => whnf
  refine ⟨_, rfl, ?_⟩
  conv => whnf
  refine ⟨_, rfl, ?_⟩
  conv => whnf
  refine .pure _ _ rfl (hp) ?_
  conv => whnf
  refine .pure _ _ rfl (hsu) ?_
  conv => whnf
  refine .pure _ _ rfl (hw) ?_
  conv => whnf
  refine ⟨(show 0 < 1 by decide), ?_⟩
  conv => whnf
  refine ⟨by kernel_rfl, ?_⟩
  conv => whnf
  refine then_end (hm := true) ?_
  conv => whnf
  exact .val
set_option maxHeartbeats 1000000 in
theorem in45_no {v : PV} {d : Pn} (hv : v.IsL d.pr) (hd : d.Good) (hc : canP d = false) (s : Int) : Falls Tryz.prog 79 (cs79 v d.pr (c45 s)) (eC 10) := by
  obtain ⟨C, hC⟩ := pile_ex v d
  have hp := pileOf_ret hv hd hC
  have hsu := sure_falls hv hd hC hc
  refine close_pan ?_
  refine call_then (hm := true) Tryz.func79 rfl ?_
  conv => whnf
  refine then_seq (hm := true) ?_
  conv => whnf
  refine then_seq (hm := true) ?_
  refine mixed_by (hm := true) (by kernel_rfl) (by kernel_rfl) ?_
  conv => whnf
  refine ⟨_, rfl, ?_⟩
  conv => whnf
  refine ⟨_, rfl, ?_⟩
  conv => whnf
  refine .ret _ _ (hp) rfl ?_
  conv => whnf
  obtain ⟨e1, H1, hc1, rfl, f1⟩ := sure_no hv hd hC hc (TMap.push .dead TMap.nil (.blk [.lit (.int .i64 0), .lit (.int .i64 0)]))
  refine .heavy _ H1 (.inl hc1) ?_
  conv => whnf
  refine mOps_list (l' := []) (by kernel_rfl) ?_
  conv => whnf
  refine ⟨by kernel_rfl, heaps_nil (by kernel_rfl), ?_⟩
  intro ds
  conv => whnf
  rfl
theorem caughtW_no (id : Nat) (h : Heap) : CallOk Tryz.prog 114 [.ptr id 0] h .no (.ret (.c (.tuple []))) h .no := by
  suffices H : ∃ e h' p', CallOk Tryz.prog 114 [.ptr id 0] h .no e h' p' ∧ (e = .ret (.c (.tuple [])) ∧ h' = h ∧ p' = .no) by
    obtain ⟨e, h', p', h1, rfl, rfl, rfl⟩ := H
    exact h1
  refine call_byP (hm := false) Tryz.func114 rfl ?_
  conv => whnf
  exact ⟨rfl, rfl, rfl⟩
theorem caughtW_live {id : Nat} {h : Heap} {c c0 : Int} (hb : Heap.at h id = .blk [.c (I c0)]) : CallOk Tryz.prog 114 [.ptr id 0] h (.live (errV c)) (.ret (.c (.tuple []))) (h.set .dead id (.blk [.c (I c)])) .taken := by
  suffices H : ∃ e h' p', CallOk Tryz.prog 114 [.ptr id 0] h (.live (errV c)) e h' p' ∧ (e = .ret (.c (.tuple [])) ∧ h' = h.set .dead id (.blk [.c (I c)]) ∧ p' = .taken) by
    obtain ⟨e, h', p', h1, rfl, rfl, rfl⟩ := H
    exact h1
  refine call_byP (hm := false) Tryz.func114 rfl ?_
  conv => whnf
  refine ⟨_, hb, ?_⟩
  conv => whnf
  exact ⟨rfl, rfl, rfl⟩
set_option maxHeartbeats 1000000 in
theorem ansW_ok {a b : CV} {w : Wt} (h : Ret Tryz.prog 79 [a, b] (wV w)) : Ret Tryz.prog 78 [.func (.func 79) [] [a, b]] (.tuple [wV w, I 0]) := by
  refine close_val ?_
  refine call_by (hm := true) Tryz.func78 rfl ?_
  conv => whnf
  refine .ret (h) rfl ?_
  conv => whnf
  refine .mk _ _ _ (caughtW_no _ _) ?_
  conv => whnf
  rfl
set_option maxHeartbeats 1000000 in
theorem ansW_no {a b : CV} {e : Int} (h : Falls Tryz.prog 79 [a, b] (eC e)) : Ret Tryz.prog 78 [.func (.func 79) [] [a, b]] (.tuple [wV ⟨0, 0⟩, I e]) := by
  refine close_val ?_
  refine call_by (hm := true) Tryz.func78 rfl ?_
  conv => whnf
  refine CallW.falls h rfl ?_
  conv => whnf
  refine .mk _ _ _ (caughtW_live (c := e) (c0 := 10) rfl) ?_
  conv => whnf
  rfl
/-- What is asked first. -/
def erS (c : Pr) (s : Int) : Int := if okPr c then (if setB s c.fl.length then 0 else 2) else 1
end Go.Ag
/- Layer 8: Weight. -/
namespace Go.Ag
open Go.Proofs
set_option maxRecDepth 100000

def zW : Wt := ⟨0, 0⟩
set_option maxHeartbeats 1000000 in
theorem of45_bad {v : PV} {c : Pr} (hv : v.Is c) (hc : okPr c = false) (s : Int) : Ret Tryz.prog 44 [v.cv c, I s, c45 s] (.tuple [wV zW, I 1]) := by
  have hval := valid_ret hv
  rw [hc] at hval
  refine ret_by (hm := true) Tryz.func44 rfl ?_
  conv => whnf
  refine .ret (hval) rfl ?_
  conv => whnf
  exact .val
set_option maxHeartbeats 1000000 in
theorem of45_out {v : PV} {c : Pr} (hv : v.Is c) (hc : okPr c = true) {s : Int} (hs : setB s c.fl.length = false) : Ret Tryz.prog 44 [v.cv c, I s, c45 s] (.tuple [wV zW, I 2]) := by
  have hval := valid_ret hv
  rw [hc] at hval
  have h10 : c.fl.length ≤ 10 := by unfold okPr at hc; rw [Bool.and_eq_true] at hc; exact okFs_len hc.1
  have hset := isSet_ret s c.fl.length h10
  rw [hs, ← hv.fn] at hset
  refine ret_by (hm := true) Tryz.func44 rfl ?_
  conv => whnf
  refine .ret (hval) rfl ?_
  conv => whnf
  refine .ret (hset) rfl ?_
  conv => whnf
  exact .val
set_option maxHeartbeats 1000000 in
theorem of45_in {v : PV} {c : Pr} (hv : v.Is c) (hc : okPr c = true) {s : Int} (hs : setB s c.fl.length = true) {w : Wt} {e : Int} (h : Ret Tryz.prog 78 [.func (.func 79) [] (cs79 v c (c45 s))] (.tuple [wV w, I e])) : Ret Tryz.prog 44 [v.cv c, I s, c45 s] (.tuple [wV w, I e]) := by
  have hval := valid_ret hv
  rw [hc] at hval
  have h10 : c.fl.length ≤ 10 := by unfold okPr at hc; rw [Bool.and_eq_true] at hc; exact okFs_len hc.1
  have hset := isSet_ret s c.fl.length h10
  rw [hs, ← hv.fn] at hset
  refine ret_by (hm := true) Tryz.func44 rfl ?_
  conv => whnf
  refine .ret (hval) rfl ?_
  conv => whnf
  refine .ret (hset) rfl ?_
  conv => whnf
  refine .snapped 100 [.func (.func 79) [] (cs79 v c (c45 s))] [1, 0] _ _ rfl h rfl ?_
  conv => whnf
  exact .val
theorem weight_of {v : PV} {c : Pr} {s : Int} {w : Wt} {e : Int} (h : Ret Tryz.prog 44 [v.cv c, I s, c45 s] (.tuple [wV w, I e])) : Ret Tryz.prog 13 [v.cv c, I s] (.tuple [wV w, I e]) := by
  refine ret_by (hm := true) Tryz.func13 rfl ?_
  conv => whnf
  refine .snapped 100 [v.cv c, I s, c45 s] [1] _ _ rfl h rfl ?_
  conv => whnf
  exact .val
def wOf (d : Pn) (s : Nat) : Wt := if canP d then weigh' d s else zW
def eOf (d : Pn) : Int := if canP d then 0 else 10
theorem pr_len (d : Pn) : d.pr.fl.length = d.n := by show (d.fl.map _).length = _; rw [List.length_map]; rfl
theorem weightX_bad {v : PV} {c : Pr} (hv : v.Is c) (hc : okPr c = false) (s : Int) : Ret Tryz.prog 13 [v.cv c, I s] (.tuple [wV zW, I 1]) := weight_of (of45_bad hv hc s)
theorem weightX_out {v : PV} {c : Pr} (hv : v.Is c) (hc : okPr c = true) {s : Int} (hs : setB s c.fl.length = false) : Ret Tryz.prog 13 [v.cv c, I s] (.tuple [wV zW, I 2]) := weight_of (of45_out hv hc hs)
theorem weightX_ret {v : PV} {d : Pn} (hv : v.Is d.pr) (hd : d.Good) (hok : okPr d.pr = true) {s : Nat} (hs : s < 2 ^ d.n) : Ret Tryz.prog 13 [v.cv d.pr, I s] (.tuple [wV (wOf d s), I (eOf d)]) := by
  have p10 := pow10 hd.n10
  have hset : setB (s : Int) d.pr.fl.length = true := setB_iff.2 ⟨s, rfl, by rw [pr_len]; exact hs⟩
  unfold wOf eOf
  cases hc : canP d
  · exact weight_of (of45_in hv hok hset (ansW_no (in45_no hv.toIsL hd hc _)))
  · exact weight_of (of45_in hv hok hset (ansW_ok (in45_ok hv.toIsL hd hc (by omega))))
end Go.Ag
/- Layer 8: Fits, False. -/
namespace Go.Ag
open Go.Proofs
set_option maxRecDepth 100000

theorem caughtI_no (id : Nat) (h : Heap) : CallOk Tryz.prog 119 [.ptr id 0] h .no (.ret (.c (.tuple []))) h .no := by
  suffices H : ∃ e h' p', CallOk Tryz.prog 119 [.ptr id 0] h .no e h' p' ∧ (e = .ret (.c (.tuple [])) ∧ h' = h ∧ p' = .no) by
    obtain ⟨e, h', p', h1, rfl, rfl, rfl⟩ := H
    exact h1
  refine call_byP (hm := false) Tryz.func119 rfl ?_
  conv => whnf
  exact ⟨rfl, rfl, rfl⟩
theorem caughtI_live {id : Nat} {h : Heap} {c c0 : Int} (hb : Heap.at h id = .blk [.c (I c0)]) : CallOk Tryz.prog 119 [.ptr id 0] h (.live (errV c)) (.ret (.c (.tuple []))) (h.set .dead id (.blk [.c (I c)])) .taken := by
  suffices H : ∃ e h' p', CallOk Tryz.prog 119 [.ptr id 0] h (.live (errV c)) e h' p' ∧ (e = .ret (.c (.tuple [])) ∧ h' = h.set .dead id (.blk [.c (I c)]) ∧ p' = .taken) by
    obtain ⟨e, h', p', h1, rfl, rfl, rfl⟩ := H
    exact h1
  refine call_byP (hm := false) Tryz.func119 rfl ?_
  conv => whnf
  refine ⟨_, hb, ?_⟩
  conv => whnf
  exact ⟨rfl, rfl, rfl⟩
set_option maxHeartbeats 1000000 in
theorem ansI_ok {a b : CV} {x : Int} (h : Ret Tryz.prog 87 [a, b] (I x)) : Ret Tryz.prog 86 [.func (.func 87) [] [a, b]] (.tuple [I x, I 0]) := by
  refine close_val ?_
  refine call_by (hm := true) Tryz.func86 rfl ?_
  conv => whnf
  refine .ret (h) rfl ?_
  conv => whnf
  refine .mk _ _ _ (caughtI_no _ _) ?_
  conv => whnf
  rfl
set_option maxHeartbeats 1000000 in
theorem ansI_no {a b : CV} {e : Int} (h : Falls Tryz.prog 87 [a, b] (eC e)) : Ret Tryz.prog 86 [.func (.func 87) [] [a, b]] (.tuple [I 0, I e]) := by
  refine close_val ?_
  refine call_by (hm := true) Tryz.func86 rfl ?_
  conv => whnf
  refine CallW.falls h rfl ?_
  conv => whnf
  refine .mk _ _ _ (caughtI_live (c := e) (c0 := 10) rfl) ?_
  conv => whnf
  rfl
def c51 (s : Int) : CV := .func (.func 51) [] [.cptr [I s] 0]
/-- Whether fleeces fit. -/
def fitN (d : Pn) (s : Nat) : Int := sureN (fitsP d s) (meetsP d s)
set_option maxHeartbeats 1000000 in
theorem fits_clos {v : PV} {d : Pn} (hv : v.IsL d.pr) (hd : d.Good) {C : List CV} (hC : Pile v d C) {s : Nat} (hs : s < 2 ^ 62) : Ret Tryz.prog 51 [.agg C, .cptr [I s] 0] (I (fitN d s)) := by
  have hCc := hC.ce
  have h1 := fits_ret hv hd hC hs
  have h2 := canFit_ret hv hd hC hs
  have h3 := howSure_ret (fitsP d s) (meetsP d s)
  rw [show sureN (fitsP d s) (meetsP d s) = fitN d s from rfl] at h3
  refine ret_then (hm := true) Tryz.func51 rfl ?_
  conv => whnf
  refine then_seq (hm := true) ?_
  conv => whnf
  rw [box_agg (C := C)]; rotate_left; rfl; rfl; exact hCc
  conv => whnf
  refine forceL_intro ?_
  conv => whnf
  refine then_seq (hm := true) ?_
  refine draw_by (hm := true) (by kernel_rfl) (by kernel_rfl) ?_
  conv => whnf
  refine look_read (hC.rd) ?_
  conv => whnf
  refine ⟨_, rfl, ?_⟩
  conv => whnf
  refine .pure _ _ rfl (h1) ?_
  conv => whnf
  refine look_read (hC.rd) ?_
  conv => whnf
  refine ⟨_, rfl, ?_⟩
  conv => whnf
  refine .pure _ _ rfl (h2) ?_
  conv => whnf
  refine .pure _ _ rfl (h3) ?_
  conv => whnf
  refine ⟨by kernel_rfl, ?_⟩
  conv => whnf
  refine then_end (hm := true) ?_
  conv => whnf
  exact .val
set_option maxHeartbeats 1000000 in
theorem in51_ok {v : PV} {d : Pn} (hv : v.IsL d.pr) (hd : d.Good) (hc : canP d = true) {s : Nat} (hs : s < 2 ^ 62) : Ret Tryz.prog 87 (cs79 v d.pr (c51 s)) (I (fitN d s)) := by
  obtain ⟨C, hC⟩ := pile_ex v d
  have hp := pileOf_ret hv hd hC
  have hsu := sure_ok hv hd hC hc
  have hw := fits_clos hv hd hC hs
  generalize I (fitN d s) = W at *
  refine ret_then (hm := true) Tryz.func87 rfl ?_
  conv => whnf
  refine then_seq (hm := true) ?_
  conv => whnf
  refine then_seq (hm := true) ?_
  refine draw_by (hm := true) (by kernel_rfl) (by kernel_rfl) ?_
  conv => whnf
  refine ⟨_, rfl, ?_⟩
  conv => whnf
  refine ⟨_, rfl, ?_⟩
  conv => whnf
  refine .pure _ _ rfl (hp) ?_
  conv => whnf
  refine .pure _ _ rfl (hsu) ?_
  conv => whnf
  refine .pure _ _ rfl (hw) ?_
  conv => whnf
  refine ⟨by kernel_rfl, ?_⟩
  conv => whnf
  refine then_end (hm := true) ?_
  conv => whnf
  exact .val
set_option maxHeartbeats 1000000 in
theorem in51_no {v : PV} {d : Pn} (hv : v.IsL d.pr) (hd : d.Good) (hc : canP d = false) (s : Int) : Falls Tryz.prog 87 (cs79 v d.pr (c51 s)) (eC 10) := by
  obtain ⟨C, hC⟩ := pile_ex v d
  have hp := pileOf_ret hv hd hC
  have hsu := sure_falls hv hd hC hc
  refine close_pan ?_
  refine call_then (hm := true) Tryz.func87 rfl ?_
  conv => whnf
  refine then_seq (hm := true) ?_
  conv => whnf
  refine then_seq (hm := true) ?_
  refine mixed_by (hm := true) (by kernel_rfl) (by kernel_rfl) ?_
  conv => whnf
  refine ⟨_, rfl, ?_⟩
  conv => whnf
  refine ⟨_, rfl, ?_⟩
  conv => whnf
  refine .ret _ _ (hp) rfl ?_
  conv => whnf
  obtain ⟨e1, H1, hc1, rfl, f1⟩ := sure_no hv hd hC hc (TMap.nil)
  refine .heavy _ H1 (.inl hc1) ?_
  conv => whnf
  refine mOps_list (l' := []) (by kernel_rfl) ?_
  conv => whnf
  refine ⟨by kernel_rfl, heaps_nil (by kernel_rfl), ?_⟩
  intro ds
  conv => whnf
  rfl
set_option maxHeartbeats 1000000 in
theorem of51_bad {v : PV} {c : Pr} (hv : v.Is c) (hc : okPr c = false) (s : Int) : Ret Tryz.prog 50 [v.cv c, I s, c51 s] (.tuple [I 0, I 1]) := by
  have hval := valid_ret hv
  rw [hc] at hval
  refine ret_by (hm := true) Tryz.func50 rfl ?_
  conv => whnf
  refine .ret (hval) rfl ?_
  conv => whnf
  exact .val
set_option maxHeartbeats 1000000 in
theorem of51_out {v : PV} {c : Pr} (hv : v.Is c) (hc : okPr c = true) {s : Int} (hs : setB s c.fl.length = false) : Ret Tryz.prog 50 [v.cv c, I s, c51 s] (.tuple [I 0, I 2]) := by
  have hval := valid_ret hv
  rw [hc] at hval
  have h10 : c.fl.length ≤ 10 := by unfold okPr at hc; rw [Bool.and_eq_true] at hc; exact okFs_len hc.1
  have hset := isSet_ret s c.fl.length h10
  rw [hs, ← hv.fn] at hset
  refine ret_by (hm := true) Tryz.func50 rfl ?_
  conv => whnf
  refine .ret (hval) rfl ?_
  conv => whnf
  refine .ret (hset) rfl ?_
  conv => whnf
  exact .val
set_option maxHeartbeats 1000000 in
theorem of51_in {v : PV} {c : Pr} (hv : v.Is c) (hc : okPr c = true) {s : Int} (hs : setB s c.fl.length = true) {x : Int} {e : Int} (h : Ret Tryz.prog 86 [.func (.func 87) [] (cs79 v c (c51 s))] (.tuple [I x, I e])) : Ret Tryz.prog 50 [v.cv c, I s, c51 s] (.tuple [I x, I e]) := by
  have hval := valid_ret hv
  rw [hc] at hval
  have h10 : c.fl.length ≤ 10 := by unfold okPr at hc; rw [Bool.and_eq_true] at hc; exact okFs_len hc.1
  have hset := isSet_ret s c.fl.length h10
  rw [hs, ← hv.fn] at hset
  refine ret_by (hm := true) Tryz.func50 rfl ?_
  conv => whnf
  refine .ret (hval) rfl ?_
  conv => whnf
  refine .ret (hset) rfl ?_
  conv => whnf
  refine .snapped 100 [.func (.func 87) [] (cs79 v c (c51 s))] [1, 0] _ _ rfl h rfl ?_
  conv => whnf
  exact .val
theorem fits_of {v : PV} {c : Pr} {s : Int} {x : Int} {e : Int} (h : Ret Tryz.prog 50 [v.cv c, I s, c51 s] (.tuple [I x, I e])) : Ret Tryz.prog 15 [v.cv c, I s] (.tuple [I x, I e]) := by
  refine ret_by (hm := true) Tryz.func15 rfl ?_
  conv => whnf
  refine .snapped 100 [v.cv c, I s, c51 s] [1] _ _ rfl h rfl ?_
  conv => whnf
  exact .val
def fOf (d : Pn) (s : Nat) : Int := if canP d then fitN d s else 0
theorem fitsX_bad {v : PV} {c : Pr} (hv : v.Is c) (hc : okPr c = false) (s : Int) : Ret Tryz.prog 15 [v.cv c, I s] (.tuple [I 0, I 1]) := fits_of (of51_bad hv hc s)
theorem fitsX_out {v : PV} {c : Pr} (hv : v.Is c) (hc : okPr c = true) {s : Int} (hs : setB s c.fl.length = false) : Ret Tryz.prog 15 [v.cv c, I s] (.tuple [I 0, I 2]) := fits_of (of51_out hv hc hs)
theorem fitsX_ret {v : PV} {d : Pn} (hv : v.Is d.pr) (hd : d.Good) (hok : okPr d.pr = true) {s : Nat} (hs : s < 2 ^ d.n) : Ret Tryz.prog 15 [v.cv d.pr, I s] (.tuple [I (fOf d s), I (eOf d)]) := by
  have p10 := pow10 hd.n10
  have hset : setB (s : Int) d.pr.fl.length = true := setB_iff.2 ⟨s, rfl, by rw [pr_len]; exact hs⟩
  unfold fOf eOf
  cases hc : canP d
  · exact fits_of (of51_in hv hok hset (ansI_no (in51_no hv.toIsL hd hc _)))
  · exact fits_of (of51_in hv hok hset (ansI_ok (in51_ok hv.toIsL hd hc (by omega))))
/-! False. -/
theorem falseX_bad {v : PV} {c : Pr} (hv : v.Is c) (hc : okPr c = false) : Ret Tryz.prog 19 [v.cv c] (.tuple [I 0, I 1]) := by
  have hval := valid_ret hv
  rw [hc] at hval
  refine ret_by (hm := true) Tryz.func19 rfl ?_
  conv => whnf
  refine .ret (hval) rfl ?_
  conv => whnf
  exact .val
def wrE (d : Pn) : Int := if wrongN d = 0 then 4 else 0
theorem falseX_ret {v : PV} {d : Pn} (hv : v.Is d.pr) (hd : d.Good) (hok : okPr d.pr = true) : Ret Tryz.prog 19 [v.cv d.pr] (.tuple [I (wrongN d : Nat), I (wrE d)]) := by
  have hval := valid_ret hv
  rw [hok] at hval
  obtain ⟨C, hC⟩ := pile_ex v d
  have hp := pileOf_ret hv.toIsL hd hC
  have hw := wrong_ret hv.toIsL hd hC
  unfold wrE
  refine ret_by (hm := true) Tryz.func19 rfl ?_
  conv => whnf
  refine .ret (hval) rfl ?_
  conv => whnf
  refine .ret (hp) rfl ?_
  conv => whnf
  refine .ret (hw) rfl ?_
  conv => whnf
  rw [show (((wrongN d : Nat) : Int) == 0) = decide (wrongN d = 0) by rw [Bool.eq_iff_iff, beq_iff_eq, decide_eq_true_eq]; omega]
  cases h0 : decide (wrongN d = 0)
  · rw [if_neg (of_decide_eq_false h0)]
    conv => whnf
    exact .val
  · rw [if_pos (of_decide_eq_true h0)]
    conv => whnf
    exact .val
end Go.Ag
