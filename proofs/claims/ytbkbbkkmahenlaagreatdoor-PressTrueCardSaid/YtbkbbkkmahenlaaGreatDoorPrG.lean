/- Layer 8: errors of Add; what cannot be weighed; rows of one's own; what a press with one more bale is. No conditions. -/
import Derived.Test.YtbkbbkkmahenlaaGreatDoorPrF
/- Layer 8: Add, where it is refused. -/
namespace Go.Ag
open Go.Proofs
set_option maxRecDepth 100000

def c56 (s : Int) : CV := .func (.func 56) [] [.cptr [I s] 0]
set_option maxHeartbeats 1000000 in
theorem of56_bad {v : PV} {c : Pr} (hv : v.Is c) (hc : okPr c = false) (s : Int) : Ret Tryz.prog 50 [v.cv c, I s, c56 s] (.tuple [I 0, I 1]) := by
  have hval := valid_ret hv
  rw [hc] at hval
  refine ret_by (hm := true) Tryz.func50 rfl ?_
  conv => whnf
  refine .ret (hval) rfl ?_
  conv => whnf
  exact .val
set_option maxHeartbeats 1000000 in
theorem of56_out {v : PV} {c : Pr} (hv : v.Is c) (hc : okPr c = true) {s : Int} (hs : setB s c.fl.length = false) : Ret Tryz.prog 50 [v.cv c, I s, c56 s] (.tuple [I 0, I 2]) := by
  have hval := valid_ret hv
  rw [hc] at hval
  have h10 : c.fl.length ≤ 10 := by unfold okPr at hc; rw [Bool.and_eq_true] at hc; exact okFs_len hc.1
  have hset := isSet_ret s c.fl.length h10
  rw [hs, ← hv.fn] at hset
  refine ret_by (hm := true) Tryz.func50 rfl ?_
  conv => whnf
  refine .ret (hval) rfl ?_
  conv => whnf
  refine .ret (hset) rfl ?_
  conv => whnf
  exact .val
theorem addX_of {v : PV} {c : Pr} {s : Int} {x : Int} {e : Int} (h : Ret Tryz.prog 50 [v.cv c, I s, c56 s] (.tuple [I x, I e])) : Ret Tryz.prog 17 [v.cv c, I s] (.tuple [I x, I e]) := by
  refine ret_by (hm := true) Tryz.func17 rfl ?_
  conv => whnf
  refine .snapped 100 [v.cv c, I s, c56 s] [1] _ _ rfl h rfl ?_
  conv => whnf
  exact .val
theorem addX_bad {v : PV} {c : Pr} (hv : v.Is c) (hc : okPr c = false) (s : Int) : Ret Tryz.prog 17 [v.cv c, I s] (.tuple [I 0, I 1]) := addX_of (of56_bad hv hc s)
theorem addX_out {v : PV} {c : Pr} (hv : v.Is c) (hc : okPr c = true) {s : Int} (hs : setB s c.fl.length = false) : Ret Tryz.prog 17 [v.cv c, I s] (.tuple [I 0, I 2]) := addX_of (of56_out hv hc hs)
theorem weighed38_ret (a lo hi : Int) : Ret Tryz.prog 38 [I a, I lo, I hi] (.agg [I a, I lo, I hi]) := by
  have h := span37_ret lo hi
  refine ret_by (hm := true) Tryz.func38 rfl ?_
  conv => whnf
  refine .ret (h) rfl ?_
  conv => whnf
  exact .val
theorem inside_ret (n lo hi : Int) : Ret Tryz.prog 34 [I n, .agg [I lo, I hi]] (B (decide (lo ≤ n) && decide (n ≤ hi))) := by
  refine ret_by (hm := true) Tryz.func34 rfl ?_
  conv => whnf
  cases h : decide (lo ≤ n)
  · conv => whnf
    exact .val
  · conv => whnf
    exact .val
/-- A press with bales of one's own, handed over alone. -/
theorem pr_snap1 {v : PV} {c : Pr} {o : Nat} {h : Heap} (hb : Heap.at h o = .blk ((c.wd.map rowF).flatten.map .c)) :
    snaps (Heap.at h) ((c.wd.map rowF).flatten.length + 33) [.agg [.c (.sl v.fc v.fo v.fn), .c (I c.low), .c (I c.top), .c (I c.bales), .msl o 3 0 c.wd.length c.wd.length]] = some ([(v.own c.wd).cv c], [o]) := by
  have e0 : ∀ a : Nat, snaps (Heap.at h) (a + 1) [] = some ([], []) := fun a => rfl
  have h2 := pr_snap (v := v) hb 0
  simp only [snaps, Option.bind_some, Option.map_eq_some_iff, Option.bind_eq_some_iff] at h2 ⊢
  obtain ⟨x, hx, y, hy, he⟩ := h2
  obtain ⟨a, ha, b, hb2, rfl⟩ := hy
  have ha : some (I 0, []) = some a := ha
  obtain rfl := Option.some.inj ha
  obtain rfl := Option.some.inj hb2
  simp only [Prod.mk.injEq, List.cons.injEq, List.append_nil] at he
  exact ⟨x, hx, ([], []), rfl, by rw [he.1.1, List.append_nil, he.2]⟩
end Go.Ag
