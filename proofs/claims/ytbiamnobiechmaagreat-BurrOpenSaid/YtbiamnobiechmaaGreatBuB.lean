/- Contracts of functions of layer 7: what is returned; what is valid in the reference; arguments read as data; all truths one by one. No conditions. -/
import Derived.Test.YtbiamnobiechmaaGreatBuA
import Derived.Deep.Slices
import Derived.Deep.Strs
import Derived.Lib.SmallJoins
import Derived.WideShapes
import Derived.ChangeSame
import Derived.OpenShut
/- Layer 7: a panic is recovered; what is known, if it can be. -/
namespace Go.Ag
open Go.Proofs
set_option maxRecDepth 100000

def errV (c : Int) : AV := .c (.iface 30 (I c))
/-- What is found, or the error. -/
def endI (o : Option Int) (err : Int) : AEnd := match o with
  | some y => .ret (.c (I y))
  | none => .panic (errV err)
def ansI (o : Option Int) (err : Int) : CV := match o with
  | some y => .tuple [I y, I 0]
  | none => .tuple [I 0, I err]
def endB (o : Option Bd) (err : Int) : AEnd := match o with
  | some y => .ret (.c (bdV y))
  | none => .panic (errV err)
def ansB (o : Option Bd) (err : Int) : CV := match o with
  | some y => .tuple [bdV y, I 0]
  | none => .tuple [bdV ⟨0, 0⟩, I err]
/-- A bale that is opened, and how many truths are left. -/
structure Op where
  b : Nat
  n : Nat
  y : Nat
def opV (o : Op) : CV := .agg [I o.b, I o.n, I o.y]
def rowOp (o : Op) : List CV := [I o.b, I o.n, I o.y]
def endO (o : Option Op) (err : Int) : AEnd := match o with
  | some y => .ret (.c (opV y))
  | none => .panic (errV err)
def ansO (o : Option Op) (err : Int) : CV := match o with
  | some y => .tuple [opV y, I 0]
  | none => .tuple [opV ⟨0, 0, 0⟩, I err]
theorem caughtI_no (id : Nat) (h : Heap) : CallOk Tryz.prog 120 [.ptr id 0] h .no (.ret (.c (.tuple []))) h .no := by
  suffices H : ∃ e h' p', CallOk Tryz.prog 120 [.ptr id 0] h .no e h' p' ∧ (e = .ret (.c (.tuple [])) ∧ h' = h ∧ p' = .no) by
    obtain ⟨e, h', p', h1, rfl, rfl, rfl⟩ := H
    exact h1
  refine call_byP (hm := false) Tryz.func120 rfl ?_
  conv => whnf
  exact ⟨rfl, rfl, rfl⟩
theorem caughtI_live {id : Nat} {h : Heap} {c c0 : Int} (hb : Heap.at h id = .blk [.c (I c0)]) : CallOk Tryz.prog 120 [.ptr id 0] h (.live (errV c)) (.ret (.c (.tuple []))) (h.set .dead id (.blk [.c (I c)])) .taken := by
  suffices H : ∃ e h' p', CallOk Tryz.prog 120 [.ptr id 0] h (.live (errV c)) e h' p' ∧ (e = .ret (.c (.tuple [])) ∧ h' = h.set .dead id (.blk [.c (I c)]) ∧ p' = .taken) by
    obtain ⟨e, h', p', h1, rfl, rfl, rfl⟩ := H
    exact h1
  refine call_byP (hm := false) Tryz.func120 rfl ?_
  conv => whnf
  refine ⟨_, hb, ?_⟩
  conv => whnf
  exact ⟨rfl, rfl, rfl⟩
theorem caughtB_no (id : Nat) (h : Heap) : CallOk Tryz.prog 125 [.ptr id 0] h .no (.ret (.c (.tuple []))) h .no := by
  suffices H : ∃ e h' p', CallOk Tryz.prog 125 [.ptr id 0] h .no e h' p' ∧ (e = .ret (.c (.tuple [])) ∧ h' = h ∧ p' = .no) by
    obtain ⟨e, h', p', h1, rfl, rfl, rfl⟩ := H
    exact h1
  refine call_byP (hm := false) Tryz.func125 rfl ?_
  conv => whnf
  exact ⟨rfl, rfl, rfl⟩
theorem caughtB_live {id : Nat} {h : Heap} {c c0 : Int} (hb : Heap.at h id = .blk [.c (I c0)]) : CallOk Tryz.prog 125 [.ptr id 0] h (.live (errV c)) (.ret (.c (.tuple []))) (h.set .dead id (.blk [.c (I c)])) .taken := by
  suffices H : ∃ e h' p', CallOk Tryz.prog 125 [.ptr id 0] h (.live (errV c)) e h' p' ∧ (e = .ret (.c (.tuple [])) ∧ h' = h.set .dead id (.blk [.c (I c)]) ∧ p' = .taken) by
    obtain ⟨e, h', p', h1, rfl, rfl, rfl⟩ := H
    exact h1
  refine call_byP (hm := false) Tryz.func125 rfl ?_
  conv => whnf
  refine ⟨_, hb, ?_⟩
  conv => whnf
  exact ⟨rfl, rfl, rfl⟩
theorem caughtO_no (id : Nat) (h : Heap) : CallOk Tryz.prog 135 [.ptr id 0] h .no (.ret (.c (.tuple []))) h .no := by
  suffices H : ∃ e h' p', CallOk Tryz.prog 135 [.ptr id 0] h .no e h' p' ∧ (e = .ret (.c (.tuple [])) ∧ h' = h ∧ p' = .no) by
    obtain ⟨e, h', p', h1, rfl, rfl, rfl⟩ := H
    exact h1
  refine call_byP (hm := false) Tryz.func135 rfl ?_
  conv => whnf
  exact ⟨rfl, rfl, rfl⟩
theorem caughtO_live {id : Nat} {h : Heap} {c c0 : Int} (hb : Heap.at h id = .blk [.c (I c0)]) : CallOk Tryz.prog 135 [.ptr id 0] h (.live (errV c)) (.ret (.c (.tuple []))) (h.set .dead id (.blk [.c (I c)])) .taken := by
  suffices H : ∃ e h' p', CallOk Tryz.prog 135 [.ptr id 0] h (.live (errV c)) e h' p' ∧ (e = .ret (.c (.tuple [])) ∧ h' = h.set .dead id (.blk [.c (I c)]) ∧ p' = .taken) by
    obtain ⟨e, h', p', h1, rfl, rfl, rfl⟩ := H
    exact h1
  refine call_byP (hm := false) Tryz.func135 rfl ?_
  conv => whnf
  refine ⟨_, hb, ?_⟩
  conv => whnf
  exact ⟨rfl, rfl, rfl⟩
set_option maxHeartbeats 1000000 in
theorem ans_known {a b : Nat} {o : Option Int} {err : Int} {h : Heap} (hs : ∀ h1, h1.n = h.n + 1 → (∀ i, i < h.n → Heap.at h1 i = Heap.at h i) → ∃ e h2, CallOk Tryz.prog 85 [.ptr a 0, .ptr b 0] h1 .no e h2 .no ∧ (e = endI o err ∧ Foot none' h1 h2)) :
    ∃ e h', CallOk Tryz.prog 74 [.func (.func 85) [] [.ptr a 0, .ptr b 0]] h .no e h' .no ∧ (e = .ret (.c (ansI o err)) ∧ Foot none' h h') := by
  refine call_by (hm := false) Tryz.func74 rfl ?_
  conv => whnf
  refine ⟨_, at_push_self _ _, ?_⟩
  conv => whnf
  generalize hH1 : TMap.set AB.dead (TMap.push AB.dead h _) _ _ = H1
  have h1n : H1.n = h.n + 1 := by rw [← hH1]; exact new_n _ _ _
  have c1 : Heap.at H1 h.n = .blk [.c (I 10)] := by rw [← hH1]; exact at_new _ _ _
  have a1 : ∀ i, i < h.n → Heap.at H1 i = Heap.at h i := fun i hi => by rw [← hH1]; exact at_old _ _ _ hi
  clear hH1
  obtain ⟨e2, h2, hc2, he2, f2⟩ := hs H1 h1n a1
  have hn2 := f2.n
  have d1 := (f2.keep h.n (by omega) (fun x => x)).trans c1
  have f0 : Foot none' h h2 := ⟨by omega, fun i hi hw => (f2.keep i (by omega) hw).trans (a1 i hi)⟩
  refine .inl _ h2 .no hc2 ?_
  conv => whnf
  subst he2
  cases o with
  | none =>
    conv => whnf
    refine .mk _ _ _ (caughtI_live (c := err) (c0 := 10) d1) ?_
    conv => whnf
    refine ⟨_, at_set_self _ _ (i := h.n) (show h.n < h2.n by omega), ?_⟩
    conv => whnf
    exact ⟨rfl, Foot.set (k := h.n) f0 (.inr (Nat.le_refl _)) _⟩
  | some y =>
    conv => whnf
    refine ⟨_, d1, ?_⟩
    conv => whnf
    refine .mk _ _ _ (caughtI_no _ _) ?_
    conv => whnf
    refine ⟨_, at_set_self _ _ (i := h.n) (by omega), ?_⟩
    conv => whnf
    exact ⟨rfl, Foot.set (k := h.n) f0 (.inr (Nat.le_refl _)) _⟩
set_option maxHeartbeats 1000000 in
theorem ans_clash {a : Nat} {o : Option Int} {err : Int} {h : Heap} (hs : ∀ h1, h1.n = h.n + 1 → (∀ i, i < h.n → Heap.at h1 i = Heap.at h i) → ∃ e h2, CallOk Tryz.prog 75 [.ptr a 0] h1 .no e h2 .no ∧ (e = endI o err ∧ Foot none' h1 h2)) :
    ∃ e h', CallOk Tryz.prog 74 [.func (.func 75) [] [.ptr a 0]] h .no e h' .no ∧ (e = .ret (.c (ansI o err)) ∧ Foot none' h h') := by
  refine call_by (hm := false) Tryz.func74 rfl ?_
  conv => whnf
  refine ⟨_, at_push_self _ _, ?_⟩
  conv => whnf
  generalize hH1 : TMap.set AB.dead (TMap.push AB.dead h _) _ _ = H1
  have h1n : H1.n = h.n + 1 := by rw [← hH1]; exact new_n _ _ _
  have c1 : Heap.at H1 h.n = .blk [.c (I 10)] := by rw [← hH1]; exact at_new _ _ _
  have a1 : ∀ i, i < h.n → Heap.at H1 i = Heap.at h i := fun i hi => by rw [← hH1]; exact at_old _ _ _ hi
  clear hH1
  obtain ⟨e2, h2, hc2, he2, f2⟩ := hs H1 h1n a1
  have hn2 := f2.n
  have d1 := (f2.keep h.n (by omega) (fun x => x)).trans c1
  have f0 : Foot none' h h2 := ⟨by omega, fun i hi hw => (f2.keep i (by omega) hw).trans (a1 i hi)⟩
  refine .inl _ h2 .no hc2 ?_
  conv => whnf
  subst he2
  cases o with
  | none =>
    conv => whnf
    refine .mk _ _ _ (caughtI_live (c := err) (c0 := 10) d1) ?_
    conv => whnf
    refine ⟨_, at_set_self _ _ (i := h.n) (show h.n < h2.n by omega), ?_⟩
    conv => whnf
    exact ⟨rfl, Foot.set (k := h.n) f0 (.inr (Nat.le_refl _)) _⟩
  | some y =>
    conv => whnf
    refine ⟨_, d1, ?_⟩
    conv => whnf
    refine .mk _ _ _ (caughtI_no _ _) ?_
    conv => whnf
    refine ⟨_, at_set_self _ _ (i := h.n) (by omega), ?_⟩
    conv => whnf
    exact ⟨rfl, Foot.set (k := h.n) f0 (.inr (Nat.le_refl _)) _⟩
set_option maxHeartbeats 1000000 in
theorem ans_bounds {a b : Nat} {o : Option Bd} {err : Int} {h : Heap} (hs : ∀ h1, h1.n = h.n + 2 → (∀ i, i < h.n → Heap.at h1 i = Heap.at h i) → ∃ e h2, CallOk Tryz.prog 83 [.ptr a 0, .ptr b 0] h1 .no e h2 .no ∧ (e = endB o err ∧ Foot none' h1 h2)) :
    ∃ e h', CallOk Tryz.prog 82 [.func (.func 83) [] [.ptr a 0, .ptr b 0]] h .no e h' .no ∧ (e = .ret (.c (ansB o err)) ∧ Foot none' h h') := by
  refine call_by (hm := false) Tryz.func82 rfl ?_
  conv => whnf
  refine ⟨_, at_push_self _ _, ?_⟩
  conv => whnf
  generalize hH1 : TMap.set AB.dead (TMap.push AB.dead (TMap.push AB.dead h _) _) _ _ = H1
  have h1n : H1.n = h.n + 2 := by rw [← hH1]; exact (new_n _ _ _).trans (by rw [push_n])
  have c0 : Heap.at H1 h.n = .blk [.c (I 0), .c (I 0)] := by rw [← hH1]; exact (at_old _ _ _ (by rw [push_n]; omega)).trans (at_push_self _ _)
  have c1 : Heap.at H1 (h.n + 1) = .blk [.c (I 10)] := by rw [← hH1]; exact at_new (h.push .dead _) _ _
  have a1 : ∀ i, i < h.n → Heap.at H1 i = Heap.at h i := fun i hi => by rw [← hH1]; exact (at_old _ _ _ (by rw [push_n]; omega)).trans (at_push_lt _ _ hi)
  clear hH1
  obtain ⟨e2, h2, hc2, he2, f2⟩ := hs H1 h1n a1
  have hn2 := f2.n
  have d0 := (f2.keep h.n (by omega) (fun x => x)).trans c0
  have d1 := (f2.keep (h.n + 1) (by omega) (fun x => x)).trans c1
  have f0 : Foot none' h h2 := ⟨by omega, fun i hi hw => (f2.keep i (by omega) hw).trans (a1 i hi)⟩
  refine .inl _ h2 .no hc2 ?_
  conv => whnf
  subst he2
  cases o with
  | none =>
    conv => whnf
    refine .mk _ _ _ (caughtB_live (c := err) (c0 := 10) d1) ?_
    conv => whnf
    refine ⟨_, (at_set_ne _ _ (i := h.n) (k := h.n + 1) (by omega)).trans d0, ?_⟩
    conv => whnf
    refine ⟨_, at_set_self _ _ (i := h.n + 1) (show h.n + 1 < h2.n by omega), ?_⟩
    conv => whnf
    exact ⟨rfl, Foot.set (k := h.n + 1) f0 (.inr (by omega)) _⟩
  | some y =>
    conv => whnf
    refine ⟨_, d0, ?_⟩
    conv => whnf
    refine ⟨_, (at_set_ne _ _ (i := h.n + 1) (k := h.n) (by omega)).trans d1, ?_⟩
    conv => whnf
    refine .mk _ _ _ (caughtB_no _ _) ?_
    conv => whnf
    refine ⟨_, (at_set_ne _ _ (i := h.n) (k := h.n + 1) (by omega)).trans (at_set_self _ _ (i := h.n) (by omega)), ?_⟩
    conv => whnf
    refine ⟨_, at_set_self _ _ (i := h.n + 1) (by rw [TMap.set_n]; omega), ?_⟩
    conv => whnf
    exact ⟨rfl, Foot.set (k := h.n + 1) (Foot.set (k := h.n) f0 (.inr (by omega)) _) (.inr (by omega)) _⟩
set_option maxHeartbeats 1000000 in
theorem ans_open {a b : Nat} {o : Option Op} {err : Int} {h : Heap} (hs : ∀ h1, h1.n = h.n + 2 → (∀ i, i < h.n → Heap.at h1 i = Heap.at h i) → ∃ e h2, CallOk Tryz.prog 112 [.ptr a 0, .ptr b 0] h1 .no e h2 .no ∧ (e = endO o err ∧ Foot none' h1 h2)) :
    ∃ e h', CallOk Tryz.prog 111 [.func (.func 112) [] [.ptr a 0, .ptr b 0]] h .no e h' .no ∧ (e = .ret (.c (ansO o err)) ∧ Foot none' h h') := by
  refine call_by (hm := false) Tryz.func111 rfl ?_
  conv => whnf
  refine ⟨_, at_push_self _ _, ?_⟩
  conv => whnf
  generalize hH1 : TMap.set AB.dead (TMap.push AB.dead (TMap.push AB.dead h _) _) _ _ = H1
  have h1n : H1.n = h.n + 2 := by rw [← hH1]; exact (new_n _ _ _).trans (by rw [push_n])
  have c0 : Heap.at H1 h.n = .blk [.c (I 0), .c (I 0), .c (I 0)] := by rw [← hH1]; exact (at_old _ _ _ (by rw [push_n]; omega)).trans (at_push_self _ _)
  have c1 : Heap.at H1 (h.n + 1) = .blk [.c (I 10)] := by rw [← hH1]; exact at_new (h.push .dead _) _ _
  have a1 : ∀ i, i < h.n → Heap.at H1 i = Heap.at h i := fun i hi => by rw [← hH1]; exact (at_old _ _ _ (by rw [push_n]; omega)).trans (at_push_lt _ _ hi)
  clear hH1
  obtain ⟨e2, h2, hc2, he2, f2⟩ := hs H1 h1n a1
  have hn2 := f2.n
  have d0 := (f2.keep h.n (by omega) (fun x => x)).trans c0
  have d1 := (f2.keep (h.n + 1) (by omega) (fun x => x)).trans c1
  have f0 : Foot none' h h2 := ⟨by omega, fun i hi hw => (f2.keep i (by omega) hw).trans (a1 i hi)⟩
  refine .inl _ h2 .no hc2 ?_
  conv => whnf
  subst he2
  cases o with
  | none =>
    conv => whnf
    refine .mk _ _ _ (caughtO_live (c := err) (c0 := 10) d1) ?_
    conv => whnf
    refine ⟨_, (at_set_ne _ _ (i := h.n) (k := h.n + 1) (by omega)).trans d0, ?_⟩
    conv => whnf
    refine ⟨_, at_set_self _ _ (i := h.n + 1) (show h.n + 1 < h2.n by omega), ?_⟩
    conv => whnf
    exact ⟨rfl, Foot.set (k := h.n + 1) f0 (.inr (by omega)) _⟩
  | some y =>
    conv => whnf
    refine ⟨_, d0, ?_⟩
    conv => whnf
    refine ⟨_, (at_set_ne _ _ (i := h.n + 1) (k := h.n) (by omega)).trans d1, ?_⟩
    conv => whnf
    refine .mk _ _ _ (caughtO_no _ _) ?_
    conv => whnf
    refine ⟨_, (at_set_ne _ _ (i := h.n) (k := h.n + 1) (by omega)).trans (at_set_self _ _ (i := h.n) (by omega)), ?_⟩
    conv => whnf
    refine ⟨_, at_set_self _ _ (i := h.n + 1) (by rw [TMap.set_n]; omega), ?_⟩
    conv => whnf
    exact ⟨rfl, Foot.set (k := h.n + 1) (Foot.set (k := h.n) f0 (.inr (by omega)) _) (.inr (by omega)) _⟩
theorem sure_ok {d : Bn} (hc : canB d = true) : Ret Tryz.prog 84 [knC d] (knC d) := by
  have hp := possible_ret d
  rw [hc] at hp
  refine ret_by (hm := true) Tryz.func84 rfl ?_
  rw [knC_eq] at hp ⊢
  conv => whnf
  refine .ret (hp) rfl ?_
  conv => whnf
  exact .val
theorem sure_no {d : Bn} (hc : canB d = false) (h : Heap) : ∃ e h', CallOk Tryz.prog 84 [.c (knC d)] h .no e h' .no ∧ (e = .panic (errV 10) ∧ Foot none' h h') := by
  have hp := possible_ret d
  rw [hc] at hp
  rw [knC_eq] at hp ⊢
  refine call_by (hm := false) Tryz.func84 rfl ?_
  conv => whnf
  refine ⟨_, (at_push_lt _ _ (Nat.lt_succ_self h.n)).trans (at_push_self _ _), ?_⟩
  conv => whnf
  refine .ret (hp) rfl ?_
  conv => whnf
  exact ⟨rfl, ((Foot.refl _ _).push _).push _⟩
end Go.Ag
/- Layer 7: what is found by what is known. -/
namespace Go.Ag
open Go.Proofs
set_option maxRecDepth 100000

theorem mobs_clos {d : Bn} (hd : d.Good) (hc : canB d = true) : Ret Tryz.prog 47 [knC d] (bdV (mobsB d)) := by
  have hj := joined_ret (l := knM d) (by unfold knM; simp [know_ne hc]) (knM_Lt hd) (by unfold knM; rw [List.length_map]; have := know_len hd; omega)
  rw [show mobsB d = joinL (knM d) from rfl]
  rw [knC_eq]
  refine ret_by (hm := true) Tryz.func47 rfl ?_
  conv => whnf
  refine .ret (hj) rfl ?_
  conv => whnf
  exact .val
theorem joinB_ret {d : Bn} (hd : d.Good) (hc : canB d = true) : Ret Tryz.prog 48 [bdsC (knB d)] (bdV (balesB d)) :=
  joined_ret (l := knB d) (by unfold knB; simp [know_ne hc]) (knB_Lt hd) (by unfold knB; rw [List.length_map]; have := know_len hd; omega)
theorem bales_clos {d : Bn} (hd : d.Good) (hc : canB d = true) : Ret Tryz.prog 51 [knC d] (bdV (balesB d)) := by
  have hj := joinB_ret hd hc
  rw [knC_eq]
  refine ret_by (hm := true) Tryz.func51 rfl ?_
  conv => whnf
  refine .ret (hj) rfl ?_
  conv => whnf
  exact .val
theorem clean_clos {v : BV} {d : Bn} (hd : d.Good) (hc : canB d = true) {p : Nat} {h : Heap} (hp : Heap.at h p = v.blk d.bu) (hpn : p < h.n) :
    ∃ e h', CallOk Tryz.prog 53 [.c (knC d), .ptr p 0] h .no e h' .no ∧ (e = endI (some (cleanN d)) 10 ∧ Foot none' h h') := by
  have hcl := clean_ret hd hc
  rw [knC_eq] at hcl ⊢
  refine call_by (hm := false) Tryz.func53 rfl ?_
  conv => whnf
  refine ⟨_, at_push_self _ _, ?_⟩
  conv => whnf
  refine ⟨_, (at_push_lt _ _ hpn).trans hp, ?_⟩
  conv => whnf
  refine .ret (hcl) rfl ?_
  conv => whnf
  exact ⟨rfl, (Foot.refl _ _).push _⟩
theorem balesB_Lt {d : Bn} (hd : d.Good) : (balesB d).Lt := by
  have := pow_b (n := d.k) hd.k6
  have h := balesB_lt hd
  exact ⟨by omega, by omega⟩
theorem pure_clos {v : BV} {d : Bn} (hd : d.Good) (hc : canB d = true) {p : Nat} {h : Heap} (hp : Heap.at h p = v.blk d.bu) (hpn : p < h.n) :
    ∃ e h', CallOk Tryz.prog 56 [.c (knC d), .ptr p 0] h .no e h' .no ∧ (e = endI (some ((diffN d.top (balesB d).p : Nat) : Int)) 10 ∧ Foot none' h h') := by
  have hj := joinB_ret hd hc
  have hb := (balesB_Lt hd).p
  have ht := top_lt hd
  rw [knC_eq]
  refine call_by (hm := false) Tryz.func56 rfl ?_
  conv => whnf
  refine draw_by (hm := false) (by kernel_rfl) (by kernel_rfl) ?_
  conv => whnf
  refine ⟨_, (at_push_lt _ _ hpn).trans hp, ?_⟩
  conv => whnf
  refine ⟨_, at_push_self _ _, ?_⟩
  conv => whnf
  refine .pure _ _ rfl (hj) ?_
  conv => whnf
  refine ⟨((diffN d.top (balesB d).p : Nat) : Int), andNot_nat (a := d.top) (b := (balesB d).p) (by omega) (by omega), ?_⟩
  conv => whnf
  refine ⟨by kernel_rfl, ?_⟩
  conv => whnf
  exact ⟨rfl, (Foot.refl _ _).push _⟩
def orO {α : Type} (d : Bn) (o : Option α) : Option α := if canB d then o else none
def erO (d : Bn) (err : Int) : Int := if canB d then err else 10
set_option maxHeartbeats 1000000 in
theorem kn_clean {v : BV} {d : Bn} (hv : v.Is d.bu) (hd : d.Good) {p : Nat} {a b : Nat} {o : Option Int} {err : Int} {h : Heap} (ha : Heap.at h a = .blk [.func (.func 53) [] [.ptr p 0]]) (hb : Heap.at h b = v.blk d.bu) (han : a < h.n) (hbn : b < h.n)
    (hG : canB d = true → ∀ h1, h.n ≤ h1.n → (∀ i, i < h.n → Heap.at h1 i = Heap.at h i) → ∃ e h2, CallOk Tryz.prog 53 [.c (knC d), .ptr p 0] h1 .no e h2 .no ∧ (e = endI o err ∧ Foot none' h1 h2)) :
    ∃ e h', CallOk Tryz.prog 85 [.ptr a 0, .ptr b 0] h .no e h' .no ∧ (e = endI (orO d o) (erO d err) ∧ Foot none' h h') := by
  have hk := know_ret hv hd
  unfold orO erO
  refine call_by (hm := false) Tryz.func85 rfl ?_
  conv => whnf
  cases hc : canB d
  · obtain ⟨e1, H1, hc1, rfl, f1⟩ := sure_no hc h
    refine mixed_by (hm := false) (by kernel_rfl) (by kernel_rfl) ?_
    conv => whnf
    refine ⟨_, ha, ?_⟩
    conv => whnf
    refine ⟨_, hb, ?_⟩
    conv => whnf
    refine .ret _ _ (hk) rfl ?_
    conv => whnf
    refine .heavy _ H1 (.inl hc1) ?_
    conv => whnf
    refine mOps_list (l' := []) (by kernel_rfl) ?_
    conv => whnf
    refine ⟨by kernel_rfl, heaps_eq (l' := [(a, h, H1)]) (by kernel_rfl) (heaps_cons (f1.keep a (by omega) (fun x => x)) (by simp [HeapsOk])), ?_⟩
    intro ds
    conv => whnf
    exact ⟨rfl, f1⟩
  · obtain ⟨e2, H2, hc2, he2, f2⟩ := hG hc h (Nat.le_refl _) (fun _ _ => rfl)
    refine mixed_by (hm := false) (by kernel_rfl) (by kernel_rfl) ?_
    conv => whnf
    refine ⟨_, ha, ?_⟩
    conv => whnf
    refine ⟨_, hb, ?_⟩
    conv => whnf
    refine .ret _ _ (hk) rfl ?_
    conv => whnf
    refine .ret _ _ (sure_ok hc) rfl ?_
    conv => whnf
    refine .heavy _ H2 (.inl hc2) ?_
    subst he2
    rw [if_pos rfl, if_pos rfl]
    cases o with
    | none =>
      conv => whnf
      refine mOps_list (l' := []) (by kernel_rfl) ?_
      conv => whnf
      refine ⟨by kernel_rfl, heaps_nil (by kernel_rfl), ?_⟩
      intro ds
      conv => whnf
      exact ⟨rfl, f2⟩
    | some y =>
      conv => whnf
      refine ⟨by kernel_rfl, heaps_nil (by kernel_rfl), ?_⟩
      conv => whnf
      exact ⟨rfl, f2⟩
set_option maxHeartbeats 1000000 in
theorem kn_pure {v : BV} {d : Bn} (hv : v.Is d.bu) (hd : d.Good) {p : Nat} {a b : Nat} {o : Option Int} {err : Int} {h : Heap} (ha : Heap.at h a = .blk [.func (.func 56) [] [.ptr p 0]]) (hb : Heap.at h b = v.blk d.bu) (han : a < h.n) (hbn : b < h.n)
    (hG : canB d = true → ∀ h1, h.n ≤ h1.n → (∀ i, i < h.n → Heap.at h1 i = Heap.at h i) → ∃ e h2, CallOk Tryz.prog 56 [.c (knC d), .ptr p 0] h1 .no e h2 .no ∧ (e = endI o err ∧ Foot none' h1 h2)) :
    ∃ e h', CallOk Tryz.prog 85 [.ptr a 0, .ptr b 0] h .no e h' .no ∧ (e = endI (orO d o) (erO d err) ∧ Foot none' h h') := by
  have hk := know_ret hv hd
  unfold orO erO
  refine call_by (hm := false) Tryz.func85 rfl ?_
  conv => whnf
  cases hc : canB d
  · obtain ⟨e1, H1, hc1, rfl, f1⟩ := sure_no hc h
    refine mixed_by (hm := false) (by kernel_rfl) (by kernel_rfl) ?_
    conv => whnf
    refine ⟨_, ha, ?_⟩
    conv => whnf
    refine ⟨_, hb, ?_⟩
    conv => whnf
    refine .ret _ _ (hk) rfl ?_
    conv => whnf
    refine .heavy _ H1 (.inl hc1) ?_
    conv => whnf
    refine mOps_list (l' := []) (by kernel_rfl) ?_
    conv => whnf
    refine ⟨by kernel_rfl, heaps_eq (l' := [(a, h, H1)]) (by kernel_rfl) (heaps_cons (f1.keep a (by omega) (fun x => x)) (by simp [HeapsOk])), ?_⟩
    intro ds
    conv => whnf
    exact ⟨rfl, f1⟩
  · obtain ⟨e2, H2, hc2, he2, f2⟩ := hG hc h (Nat.le_refl _) (fun _ _ => rfl)
    refine mixed_by (hm := false) (by kernel_rfl) (by kernel_rfl) ?_
    conv => whnf
    refine ⟨_, ha, ?_⟩
    conv => whnf
    refine ⟨_, hb, ?_⟩
    conv => whnf
    refine .ret _ _ (hk) rfl ?_
    conv => whnf
    refine .ret _ _ (sure_ok hc) rfl ?_
    conv => whnf
    refine .heavy _ H2 (.inl hc2) ?_
    subst he2
    rw [if_pos rfl, if_pos rfl]
    cases o with
    | none =>
      conv => whnf
      refine mOps_list (l' := []) (by kernel_rfl) ?_
      conv => whnf
      refine ⟨by kernel_rfl, heaps_nil (by kernel_rfl), ?_⟩
      intro ds
      conv => whnf
      exact ⟨rfl, f2⟩
    | some y =>
      conv => whnf
      refine ⟨by kernel_rfl, heaps_nil (by kernel_rfl), ?_⟩
      conv => whnf
      exact ⟨rfl, f2⟩
set_option maxHeartbeats 1000000 in
theorem kn_mobs {v : BV} {d : Bn} (hv : v.Is d.bu) (hd : d.Good) {a b : Nat} {o : Option Bd} {err : Int} {h : Heap} (ha : Heap.at h a = .blk [.c (.func (.func 47) [] [])]) (hb : Heap.at h b = v.blk d.bu) (han : a < h.n) (hbn : b < h.n)
    (hG : canB d = true → ∀ h1, h.n ≤ h1.n → (∀ i, i < h.n → Heap.at h1 i = Heap.at h i) → ∃ e h2, CallOk Tryz.prog 47 [.c (knC d)] h1 .no e h2 .no ∧ (e = endB o err ∧ Foot none' h1 h2)) :
    ∃ e h', CallOk Tryz.prog 83 [.ptr a 0, .ptr b 0] h .no e h' .no ∧ (e = endB (orO d o) (erO d err) ∧ Foot none' h h') := by
  have hk := know_ret hv hd
  unfold orO erO
  refine call_by (hm := false) Tryz.func83 rfl ?_
  conv => whnf
  generalize hH : TMap.push AB.dead h _ = H
  have Hn : H.n = h.n + 1 := by rw [← hH]; rfl
  have Ha : ∀ i, i < h.n → Heap.at H i = Heap.at h i := fun i hi => by rw [← hH]; exact at_push_lt _ _ hi
  have Hz : Heap.at H h.n = bdB ⟨0, 0⟩ := by rw [← hH]; exact at_push_self _ _
  have FH : Foot none' h H := by rw [← hH]; exact (Foot.refl _ _).push _
  clear hH
  cases hc : canB d
  · obtain ⟨e1, H1, hc1, rfl, f1⟩ := sure_no hc H
    refine mixed_by (hm := false) (by kernel_rfl) (by kernel_rfl) ?_
    conv => whnf
    refine ⟨_, (Ha a han).trans ha, ?_⟩
    conv => whnf
    refine ⟨_, (Ha b hbn).trans hb, ?_⟩
    conv => whnf
    refine .ret _ _ (hk) rfl ?_
    conv => whnf
    refine .heavy _ H1 (.inl hc1) ?_
    conv => whnf
    refine mOps_list (l' := []) (by kernel_rfl) ?_
    conv => whnf
    refine ⟨by kernel_rfl, heaps_eq (l' := [(a, H, H1)]) (by kernel_rfl) (heaps_cons (f1.keep a (by omega) (fun x => x)) (by simp [HeapsOk])), ?_⟩
    intro ds
    conv => whnf
    exact ⟨rfl, FH.trans f1⟩
  · obtain ⟨e2, H2, hc2, he2, f2⟩ := hG hc H (by omega) Ha
    refine mixed_by (hm := false) (by kernel_rfl) (by kernel_rfl) ?_
    conv => whnf
    refine ⟨_, (Ha a han).trans ha, ?_⟩
    conv => whnf
    refine ⟨_, (Ha b hbn).trans hb, ?_⟩
    conv => whnf
    refine .ret _ _ (hk) rfl ?_
    conv => whnf
    refine .ret _ _ (sure_ok hc) rfl ?_
    conv => whnf
    refine .heavy _ H2 (.inl hc2) ?_
    subst he2
    rw [if_pos rfl, if_pos rfl]
    cases o with
    | none =>
      conv => whnf
      refine mOps_list (l' := []) (by kernel_rfl) ?_
      conv => whnf
      refine ⟨by kernel_rfl, heaps_nil (by kernel_rfl), ?_⟩
      intro ds
      conv => whnf
      exact ⟨rfl, FH.trans f2⟩
    | some y =>
      conv => whnf
      have f2n := f2.n
      have Hz2 := (f2.keep h.n (by omega) (fun x => x)).trans Hz
      refine ⟨_, Hz2, ?_⟩
      conv => whnf
      refine ⟨by show h.n < H2.n; omega, ?_⟩
      conv => whnf
      refine ⟨by kernel_rfl, heaps_nil (by kernel_rfl), ?_⟩
      conv => whnf
      refine ⟨_, at_set_self _ _ (i := h.n) (by omega), ?_⟩
      conv => whnf
      exact ⟨rfl, Foot.set (k := h.n) (FH.trans f2) (.inr (Nat.le_refl _)) _⟩
set_option maxHeartbeats 1000000 in
theorem kn_bales {v : BV} {d : Bn} (hv : v.Is d.bu) (hd : d.Good) {a b : Nat} {o : Option Bd} {err : Int} {h : Heap} (ha : Heap.at h a = .blk [.c (.func (.func 51) [] [])]) (hb : Heap.at h b = v.blk d.bu) (han : a < h.n) (hbn : b < h.n)
    (hG : canB d = true → ∀ h1, h.n ≤ h1.n → (∀ i, i < h.n → Heap.at h1 i = Heap.at h i) → ∃ e h2, CallOk Tryz.prog 51 [.c (knC d)] h1 .no e h2 .no ∧ (e = endB o err ∧ Foot none' h1 h2)) :
    ∃ e h', CallOk Tryz.prog 83 [.ptr a 0, .ptr b 0] h .no e h' .no ∧ (e = endB (orO d o) (erO d err) ∧ Foot none' h h') := by
  have hk := know_ret hv hd
  unfold orO erO
  refine call_by (hm := false) Tryz.func83 rfl ?_
  conv => whnf
  generalize hH : TMap.push AB.dead h _ = H
  have Hn : H.n = h.n + 1 := by rw [← hH]; rfl
  have Ha : ∀ i, i < h.n → Heap.at H i = Heap.at h i := fun i hi => by rw [← hH]; exact at_push_lt _ _ hi
  have Hz : Heap.at H h.n = bdB ⟨0, 0⟩ := by rw [← hH]; exact at_push_self _ _
  have FH : Foot none' h H := by rw [← hH]; exact (Foot.refl _ _).push _
  clear hH
  cases hc : canB d
  · obtain ⟨e1, H1, hc1, rfl, f1⟩ := sure_no hc H
    refine mixed_by (hm := false) (by kernel_rfl) (by kernel_rfl) ?_
    conv => whnf
    refine ⟨_, (Ha a han).trans ha, ?_⟩
    conv => whnf
    refine ⟨_, (Ha b hbn).trans hb, ?_⟩
    conv => whnf
    refine .ret _ _ (hk) rfl ?_
    conv => whnf
    refine .heavy _ H1 (.inl hc1) ?_
    conv => whnf
    refine mOps_list (l' := []) (by kernel_rfl) ?_
    conv => whnf
    refine ⟨by kernel_rfl, heaps_eq (l' := [(a, H, H1)]) (by kernel_rfl) (heaps_cons (f1.keep a (by omega) (fun x => x)) (by simp [HeapsOk])), ?_⟩
    intro ds
    conv => whnf
    exact ⟨rfl, FH.trans f1⟩
  · obtain ⟨e2, H2, hc2, he2, f2⟩ := hG hc H (by omega) Ha
    refine mixed_by (hm := false) (by kernel_rfl) (by kernel_rfl) ?_
    conv => whnf
    refine ⟨_, (Ha a han).trans ha, ?_⟩
    conv => whnf
    refine ⟨_, (Ha b hbn).trans hb, ?_⟩
    conv => whnf
    refine .ret _ _ (hk) rfl ?_
    conv => whnf
    refine .ret _ _ (sure_ok hc) rfl ?_
    conv => whnf
    refine .heavy _ H2 (.inl hc2) ?_
    subst he2
    rw [if_pos rfl, if_pos rfl]
    cases o with
    | none =>
      conv => whnf
      refine mOps_list (l' := []) (by kernel_rfl) ?_
      conv => whnf
      refine ⟨by kernel_rfl, heaps_nil (by kernel_rfl), ?_⟩
      intro ds
      conv => whnf
      exact ⟨rfl, FH.trans f2⟩
    | some y =>
      conv => whnf
      have f2n := f2.n
      have Hz2 := (f2.keep h.n (by omega) (fun x => x)).trans Hz
      refine ⟨_, Hz2, ?_⟩
      conv => whnf
      refine ⟨by show h.n < H2.n; omega, ?_⟩
      conv => whnf
      refine ⟨by kernel_rfl, heaps_nil (by kernel_rfl), ?_⟩
      conv => whnf
      refine ⟨_, at_set_self _ _ (i := h.n) (by omega), ?_⟩
      conv => whnf
      exact ⟨rfl, Foot.set (k := h.n) (FH.trans f2) (.inr (Nat.le_refl _)) _⟩
end Go.Ag
/- Layer 7: what is returned, but for what is opened. -/
namespace Go.Ag
open Go.Proofs
set_option maxRecDepth 100000

theorem close_val {f : FuncId} {args : List CV} {c : CV} (H : ∃ e h', CallOk Tryz.prog f (args.map .c) TMap.nil .no e h' .no ∧ e = .ret (.c c)) : Ret Tryz.prog f args c := by
  obtain ⟨e, h', hc, rfl⟩ := H
  exact callOk_close hc (fuel := 1) (r := (_, [])) rfl
theorem valid_yes {d : Bn} (hd : d.Good) (h6 : d.tests.length ≤ 6) {v : BV} (hv : v.Is d.bu) : validB d.bu = true := (valid_iff hv.rg).2 ⟨d, hd, h6, rfl⟩
set_option maxHeartbeats 1000000 in
theorem of_clean_bad {v : BV} {c : Bu} (hv : v.Is c) (hc : validB c = false) {p : Nat} (h : Heap) :
    ∃ e h', CallOk Tryz.prog 52 [.c (v.cv c), .func (.func 53) [] [.ptr p 0]] h .no e h' .no ∧ (e = .ret (.c (.tuple [I 0, I 1])) ∧ Foot none' h h') := by
  have hval := valid_ret hv
  rw [hc] at hval
  refine call_by (hm := false) Tryz.func52 rfl ?_
  conv => whnf
  generalize hH : TMap.push AB.dead (TMap.push AB.dead h _) _ = H
  have Hn : H.n = h.n + 2 := by rw [← hH]; rfl
  have b0 : Heap.at H h.n = v.blk c := by rw [← hH]; exact (at_push_lt _ _ (by simp only [push_n]; omega)).trans (at_push_self _ _)
  have b1 : Heap.at H (h.n + 1) = .blk [.func (.func 53) [] [.ptr p 0]] := by rw [← hH]; exact at_push_self _ _
  have ha : ∀ i, i < h.n → Heap.at H i = Heap.at h i := fun i hi => by rw [← hH]; exact (at_push_lt _ _ (by simp only [push_n]; omega)).trans (at_push_lt _ _ hi)
  have f0 : Foot none' h H := by rw [← hH]; exact ((Foot.refl _ _).push _).push _
  clear hH
  refine ⟨_, b0, ?_⟩
  conv => whnf
  refine .ret (hval) rfl ?_
  conv => whnf
  exact ⟨rfl, f0⟩
set_option maxHeartbeats 1000000 in
theorem of_clean_ok {v : BV} {d : Bn} (hv : v.Is d.bu) (hd : d.Good) (h6 : d.tests.length ≤ 6) {p : Nat} {o : Option Int} {err : Int} {h : Heap}
    (hG : canB d = true → ∀ h1, h.n ≤ h1.n → (∀ i, i < h.n → Heap.at h1 i = Heap.at h i) → ∃ e h2, CallOk Tryz.prog 53 [.c (knC d), .ptr p 0] h1 .no e h2 .no ∧ (e = endI o err ∧ Foot none' h1 h2)) :
    ∃ e h', CallOk Tryz.prog 52 [.c (v.cv d.bu), .func (.func 53) [] [.ptr p 0]] h .no e h' .no ∧ (e = .ret (.c (ansI (orO d o) (erO d err))) ∧ Foot none' h h') := by
  have hval := valid_ret hv
  rw [valid_yes hd h6 hv] at hval
  refine call_by (hm := false) Tryz.func52 rfl ?_
  conv => whnf
  generalize hH : TMap.push AB.dead (TMap.push AB.dead h _) _ = H
  have Hn : H.n = h.n + 2 := by rw [← hH]; rfl
  have b0 : Heap.at H h.n = v.blk d.bu := by rw [← hH]; exact (at_push_lt _ _ (by simp only [push_n]; omega)).trans (at_push_self _ _)
  have b1 : Heap.at H (h.n + 1) = .blk [.func (.func 53) [] [.ptr p 0]] := by rw [← hH]; exact at_push_self _ _
  have ha : ∀ i, i < h.n → Heap.at H i = Heap.at h i := fun i hi => by rw [← hH]; exact (at_push_lt _ _ (by simp only [push_n]; omega)).trans (at_push_lt _ _ hi)
  have f0 : Foot none' h H := by rw [← hH]; exact ((Foot.refl _ _).push _).push _
  clear hH
  refine ⟨_, b0, ?_⟩
  conv => whnf
  refine .ret (hval) rfl ?_
  conv => whnf
  obtain ⟨e2, H2, hc2, rfl, f2⟩ := ans_known (a := h.n + 1) (b := h.n) (h := H) (o := orO d o) (err := erO d err) (fun h1 h1n h1a => kn_clean hv hd ((h1a (h.n + 1) (by omega)).trans b1) ((h1a h.n (by omega)).trans b0) (by omega) (by omega) (fun hc g gn ga => hG hc g (by omega) (fun i hi => (ga i (by omega)).trans ((h1a i (by omega)).trans (ha i hi)))))
  refine .inl _ H2 .no hc2 ?_
  conv => whnf
  have f2n := f2.n
  cases ho : orO d o with
  | none =>
    conv => whnf
    exact ⟨rfl, f0.trans f2⟩
  | some y =>
    conv => whnf
    exact ⟨rfl, f0.trans f2⟩
set_option maxHeartbeats 1000000 in
theorem of_pure_bad {v : BV} {c : Bu} (hv : v.Is c) (hc : validB c = false) {p : Nat} (h : Heap) :
    ∃ e h', CallOk Tryz.prog 52 [.c (v.cv c), .func (.func 56) [] [.ptr p 0]] h .no e h' .no ∧ (e = .ret (.c (.tuple [I 0, I 1])) ∧ Foot none' h h') := by
  have hval := valid_ret hv
  rw [hc] at hval
  refine call_by (hm := false) Tryz.func52 rfl ?_
  conv => whnf
  generalize hH : TMap.push AB.dead (TMap.push AB.dead h _) _ = H
  have Hn : H.n = h.n + 2 := by rw [← hH]; rfl
  have b0 : Heap.at H h.n = v.blk c := by rw [← hH]; exact (at_push_lt _ _ (by simp only [push_n]; omega)).trans (at_push_self _ _)
  have b1 : Heap.at H (h.n + 1) = .blk [.func (.func 56) [] [.ptr p 0]] := by rw [← hH]; exact at_push_self _ _
  have ha : ∀ i, i < h.n → Heap.at H i = Heap.at h i := fun i hi => by rw [← hH]; exact (at_push_lt _ _ (by simp only [push_n]; omega)).trans (at_push_lt _ _ hi)
  have f0 : Foot none' h H := by rw [← hH]; exact ((Foot.refl _ _).push _).push _
  clear hH
  refine ⟨_, b0, ?_⟩
  conv => whnf
  refine .ret (hval) rfl ?_
  conv => whnf
  exact ⟨rfl, f0⟩
set_option maxHeartbeats 1000000 in
theorem of_pure_ok {v : BV} {d : Bn} (hv : v.Is d.bu) (hd : d.Good) (h6 : d.tests.length ≤ 6) {p : Nat} {o : Option Int} {err : Int} {h : Heap}
    (hG : canB d = true → ∀ h1, h.n ≤ h1.n → (∀ i, i < h.n → Heap.at h1 i = Heap.at h i) → ∃ e h2, CallOk Tryz.prog 56 [.c (knC d), .ptr p 0] h1 .no e h2 .no ∧ (e = endI o err ∧ Foot none' h1 h2)) :
    ∃ e h', CallOk Tryz.prog 52 [.c (v.cv d.bu), .func (.func 56) [] [.ptr p 0]] h .no e h' .no ∧ (e = .ret (.c (ansI (orO d o) (erO d err))) ∧ Foot none' h h') := by
  have hval := valid_ret hv
  rw [valid_yes hd h6 hv] at hval
  refine call_by (hm := false) Tryz.func52 rfl ?_
  conv => whnf
  generalize hH : TMap.push AB.dead (TMap.push AB.dead h _) _ = H
  have Hn : H.n = h.n + 2 := by rw [← hH]; rfl
  have b0 : Heap.at H h.n = v.blk d.bu := by rw [← hH]; exact (at_push_lt _ _ (by simp only [push_n]; omega)).trans (at_push_self _ _)
  have b1 : Heap.at H (h.n + 1) = .blk [.func (.func 56) [] [.ptr p 0]] := by rw [← hH]; exact at_push_self _ _
  have ha : ∀ i, i < h.n → Heap.at H i = Heap.at h i := fun i hi => by rw [← hH]; exact (at_push_lt _ _ (by simp only [push_n]; omega)).trans (at_push_lt _ _ hi)
  have f0 : Foot none' h H := by rw [← hH]; exact ((Foot.refl _ _).push _).push _
  clear hH
  refine ⟨_, b0, ?_⟩
  conv => whnf
  refine .ret (hval) rfl ?_
  conv => whnf
  obtain ⟨e2, H2, hc2, rfl, f2⟩ := ans_known (a := h.n + 1) (b := h.n) (h := H) (o := orO d o) (err := erO d err) (fun h1 h1n h1a => kn_pure hv hd ((h1a (h.n + 1) (by omega)).trans b1) ((h1a h.n (by omega)).trans b0) (by omega) (by omega) (fun hc g gn ga => hG hc g (by omega) (fun i hi => (ga i (by omega)).trans ((h1a i (by omega)).trans (ha i hi)))))
  refine .inl _ H2 .no hc2 ?_
  conv => whnf
  have f2n := f2.n
  cases ho : orO d o with
  | none =>
    conv => whnf
    exact ⟨rfl, f0.trans f2⟩
  | some y =>
    conv => whnf
    exact ⟨rfl, f0.trans f2⟩
set_option maxHeartbeats 1000000 in
theorem of_mobs_bad {v : BV} {c : Bu} (hv : v.Is c) (hc : validB c = false) (h : Heap) :
    ∃ e h', CallOk Tryz.prog 46 [.c (v.cv c), .c (.func (.func 47) [] [])] h .no e h' .no ∧ (e = .ret (.c (.tuple [bdV ⟨0, 0⟩, I 1])) ∧ Foot none' h h') := by
  have hval := valid_ret hv
  rw [hc] at hval
  refine call_by (hm := false) Tryz.func46 rfl ?_
  conv => whnf
  generalize hH : TMap.push AB.dead (TMap.push AB.dead (TMap.push AB.dead h _) _) _ = H
  have Hn : H.n = h.n + 3 := by rw [← hH]; rfl
  have b0 : Heap.at H h.n = v.blk c := by rw [← hH]; exact (at_push_lt _ _ (by simp only [push_n]; omega)).trans ((at_push_lt _ _ (by simp only [push_n]; omega)).trans (at_push_self _ _))
  have b1 : Heap.at H (h.n + 1) = .blk [.c (.func (.func 47) [] [])] := by rw [← hH]; exact (at_push_lt _ _ (by simp only [push_n]; omega)).trans (at_push_self _ _)
  have b2 : Heap.at H (h.n + 2) = .blk [.c (I 0), .c (I 0)] := by rw [← hH]; exact at_push_self _ _
  have ha : ∀ i, i < h.n → Heap.at H i = Heap.at h i := fun i hi => by rw [← hH]; exact (at_push_lt _ _ (by simp only [push_n]; omega)).trans ((at_push_lt _ _ (by simp only [push_n]; omega)).trans (at_push_lt _ _ hi))
  have f0 : Foot none' h H := by rw [← hH]; exact (((Foot.refl _ _).push _).push _).push _
  clear hH
  refine ⟨_, b0, ?_⟩
  conv => whnf
  refine .ret (hval) rfl ?_
  conv => whnf
  refine ⟨_, b2, ?_⟩
  conv => whnf
  refine ⟨_, b2, ?_⟩
  conv => whnf
  refine ⟨_, at_set_self _ _ (i := h.n + 2) (by omega), ?_⟩
  conv => whnf
  exact ⟨rfl, Foot.set (k := h.n + 2) f0 (.inr (by omega)) _⟩
set_option maxHeartbeats 1000000 in
theorem of_mobs_ok {v : BV} {d : Bn} (hv : v.Is d.bu) (hd : d.Good) (h6 : d.tests.length ≤ 6) {o : Option Bd} {err : Int} {h : Heap}
    (hG : canB d = true → ∀ h1, h.n ≤ h1.n → (∀ i, i < h.n → Heap.at h1 i = Heap.at h i) → ∃ e h2, CallOk Tryz.prog 47 [.c (knC d)] h1 .no e h2 .no ∧ (e = endB o err ∧ Foot none' h1 h2)) :
    ∃ e h', CallOk Tryz.prog 46 [.c (v.cv d.bu), .c (.func (.func 47) [] [])] h .no e h' .no ∧ (e = .ret (.c (ansB (orO d o) (erO d err))) ∧ Foot none' h h') := by
  have hval := valid_ret hv
  rw [valid_yes hd h6 hv] at hval
  refine call_by (hm := false) Tryz.func46 rfl ?_
  conv => whnf
  generalize hH : TMap.push AB.dead (TMap.push AB.dead (TMap.push AB.dead h _) _) _ = H
  have Hn : H.n = h.n + 3 := by rw [← hH]; rfl
  have b0 : Heap.at H h.n = v.blk d.bu := by rw [← hH]; exact (at_push_lt _ _ (by simp only [push_n]; omega)).trans ((at_push_lt _ _ (by simp only [push_n]; omega)).trans (at_push_self _ _))
  have b1 : Heap.at H (h.n + 1) = .blk [.c (.func (.func 47) [] [])] := by rw [← hH]; exact (at_push_lt _ _ (by simp only [push_n]; omega)).trans (at_push_self _ _)
  have b2 : Heap.at H (h.n + 2) = .blk [.c (I 0), .c (I 0)] := by rw [← hH]; exact at_push_self _ _
  have ha : ∀ i, i < h.n → Heap.at H i = Heap.at h i := fun i hi => by rw [← hH]; exact (at_push_lt _ _ (by simp only [push_n]; omega)).trans ((at_push_lt _ _ (by simp only [push_n]; omega)).trans (at_push_lt _ _ hi))
  have f0 : Foot none' h H := by rw [← hH]; exact (((Foot.refl _ _).push _).push _).push _
  clear hH
  refine ⟨_, b0, ?_⟩
  conv => whnf
  refine .ret (hval) rfl ?_
  conv => whnf
  obtain ⟨e2, H2, hc2, rfl, f2⟩ := ans_bounds (a := h.n + 1) (b := h.n) (h := H) (o := orO d o) (err := erO d err) (fun h1 h1n h1a => kn_mobs hv hd ((h1a (h.n + 1) (by omega)).trans b1) ((h1a h.n (by omega)).trans b0) (by omega) (by omega) (fun hc g gn ga => hG hc g (by omega) (fun i hi => (ga i (by omega)).trans ((h1a i (by omega)).trans (ha i hi)))))
  refine .inl _ H2 .no hc2 ?_
  conv => whnf
  have f2n := f2.n
  cases ho : orO d o with
  | none =>
    conv => whnf
    refine ⟨_, (f2.keep (h.n + 2) (by omega) (fun x => x)).trans b2, ?_⟩
    conv => whnf
    refine ⟨_, at_set_self _ _ (i := h.n + 2) (by omega), ?_⟩
    conv => whnf
    exact ⟨rfl, Foot.set (k := h.n + 2) (f0.trans f2) (.inr (by omega)) _⟩
  | some y =>
    conv => whnf
    refine ⟨_, (f2.keep (h.n + 2) (by omega) (fun x => x)).trans b2, ?_⟩
    conv => whnf
    refine ⟨_, at_set_self _ _ (i := h.n + 2) (by omega), ?_⟩
    conv => whnf
    exact ⟨rfl, Foot.set (k := h.n + 2) (f0.trans f2) (.inr (by omega)) _⟩
set_option maxHeartbeats 1000000 in
theorem of_bales_bad {v : BV} {c : Bu} (hv : v.Is c) (hc : validB c = false) (h : Heap) :
    ∃ e h', CallOk Tryz.prog 46 [.c (v.cv c), .c (.func (.func 51) [] [])] h .no e h' .no ∧ (e = .ret (.c (.tuple [bdV ⟨0, 0⟩, I 1])) ∧ Foot none' h h') := by
  have hval := valid_ret hv
  rw [hc] at hval
  refine call_by (hm := false) Tryz.func46 rfl ?_
  conv => whnf
  generalize hH : TMap.push AB.dead (TMap.push AB.dead (TMap.push AB.dead h _) _) _ = H
  have Hn : H.n = h.n + 3 := by rw [← hH]; rfl
  have b0 : Heap.at H h.n = v.blk c := by rw [← hH]; exact (at_push_lt _ _ (by simp only [push_n]; omega)).trans ((at_push_lt _ _ (by simp only [push_n]; omega)).trans (at_push_self _ _))
  have b1 : Heap.at H (h.n + 1) = .blk [.c (.func (.func 51) [] [])] := by rw [← hH]; exact (at_push_lt _ _ (by simp only [push_n]; omega)).trans (at_push_self _ _)
  have b2 : Heap.at H (h.n + 2) = .blk [.c (I 0), .c (I 0)] := by rw [← hH]; exact at_push_self _ _
  have ha : ∀ i, i < h.n → Heap.at H i = Heap.at h i := fun i hi => by rw [← hH]; exact (at_push_lt _ _ (by simp only [push_n]; omega)).trans ((at_push_lt _ _ (by simp only [push_n]; omega)).trans (at_push_lt _ _ hi))
  have f0 : Foot none' h H := by rw [← hH]; exact (((Foot.refl _ _).push _).push _).push _
  clear hH
  refine ⟨_, b0, ?_⟩
  conv => whnf
  refine .ret (hval) rfl ?_
  conv => whnf
  refine ⟨_, b2, ?_⟩
  conv => whnf
  refine ⟨_, b2, ?_⟩
  conv => whnf
  refine ⟨_, at_set_self _ _ (i := h.n + 2) (by omega), ?_⟩
  conv => whnf
  exact ⟨rfl, Foot.set (k := h.n + 2) f0 (.inr (by omega)) _⟩
set_option maxHeartbeats 1000000 in
theorem of_bales_ok {v : BV} {d : Bn} (hv : v.Is d.bu) (hd : d.Good) (h6 : d.tests.length ≤ 6) {o : Option Bd} {err : Int} {h : Heap}
    (hG : canB d = true → ∀ h1, h.n ≤ h1.n → (∀ i, i < h.n → Heap.at h1 i = Heap.at h i) → ∃ e h2, CallOk Tryz.prog 51 [.c (knC d)] h1 .no e h2 .no ∧ (e = endB o err ∧ Foot none' h1 h2)) :
    ∃ e h', CallOk Tryz.prog 46 [.c (v.cv d.bu), .c (.func (.func 51) [] [])] h .no e h' .no ∧ (e = .ret (.c (ansB (orO d o) (erO d err))) ∧ Foot none' h h') := by
  have hval := valid_ret hv
  rw [valid_yes hd h6 hv] at hval
  refine call_by (hm := false) Tryz.func46 rfl ?_
  conv => whnf
  generalize hH : TMap.push AB.dead (TMap.push AB.dead (TMap.push AB.dead h _) _) _ = H
  have Hn : H.n = h.n + 3 := by rw [← hH]; rfl
  have b0 : Heap.at H h.n = v.blk d.bu := by rw [← hH]; exact (at_push_lt _ _ (by simp only [push_n]; omega)).trans ((at_push_lt _ _ (by simp only [push_n]; omega)).trans (at_push_self _ _))
  have b1 : Heap.at H (h.n + 1) = .blk [.c (.func (.func 51) [] [])] := by rw [← hH]; exact (at_push_lt _ _ (by simp only [push_n]; omega)).trans (at_push_self _ _)
  have b2 : Heap.at H (h.n + 2) = .blk [.c (I 0), .c (I 0)] := by rw [← hH]; exact at_push_self _ _
  have ha : ∀ i, i < h.n → Heap.at H i = Heap.at h i := fun i hi => by rw [← hH]; exact (at_push_lt _ _ (by simp only [push_n]; omega)).trans ((at_push_lt _ _ (by simp only [push_n]; omega)).trans (at_push_lt _ _ hi))
  have f0 : Foot none' h H := by rw [← hH]; exact (((Foot.refl _ _).push _).push _).push _
  clear hH
  refine ⟨_, b0, ?_⟩
  conv => whnf
  refine .ret (hval) rfl ?_
  conv => whnf
  obtain ⟨e2, H2, hc2, rfl, f2⟩ := ans_bounds (a := h.n + 1) (b := h.n) (h := H) (o := orO d o) (err := erO d err) (fun h1 h1n h1a => kn_bales hv hd ((h1a (h.n + 1) (by omega)).trans b1) ((h1a h.n (by omega)).trans b0) (by omega) (by omega) (fun hc g gn ga => hG hc g (by omega) (fun i hi => (ga i (by omega)).trans ((h1a i (by omega)).trans (ha i hi)))))
  refine .inl _ H2 .no hc2 ?_
  conv => whnf
  have f2n := f2.n
  cases ho : orO d o with
  | none =>
    conv => whnf
    refine ⟨_, (f2.keep (h.n + 2) (by omega) (fun x => x)).trans b2, ?_⟩
    conv => whnf
    refine ⟨_, at_set_self _ _ (i := h.n + 2) (by omega), ?_⟩
    conv => whnf
    exact ⟨rfl, Foot.set (k := h.n + 2) (f0.trans f2) (.inr (by omega)) _⟩
  | some y =>
    conv => whnf
    refine ⟨_, (f2.keep (h.n + 2) (by omega) (fun x => x)).trans b2, ?_⟩
    conv => whnf
    refine ⟨_, at_set_self _ _ (i := h.n + 2) (by omega), ?_⟩
    conv => whnf
    exact ⟨rfl, Foot.set (k := h.n + 2) (f0.trans f2) (.inr (by omega)) _⟩
theorem cleanX_bad {v : BV} {c : Bu} (hv : v.Is c) (hc : validB c = false) : Ret Tryz.prog 18 [v.cv c] (.tuple [I 0, I 1]) := by
  refine close_val ?_
  refine call_by (hm := false) Tryz.func18 rfl ?_
  conv => whnf
  refine ⟨v.blk c, at_push_self _ _, ?_⟩
  conv => whnf
  obtain ⟨e1, H1, hc1, rfl, f1⟩ := of_clean_bad hv hc (p := 0) (TMap.push .dead TMap.nil (v.blk c))
  refine .inl _ H1 .no hc1 ?_
  conv => whnf
  rfl
theorem cleanX_ret {v : BV} {d : Bn} (hv : v.Is d.bu) (hd : d.Good) (h6 : d.tests.length ≤ 6) : Ret Tryz.prog 18 [v.cv d.bu] (ansI (orO d (some (cleanN d))) (erO d 10)) := by
  refine close_val ?_
  refine call_by (hm := false) Tryz.func18 rfl ?_
  conv => whnf
  refine ⟨v.blk d.bu, at_push_self _ _, ?_⟩
  conv => whnf
  obtain ⟨e1, H1, hc1, rfl, f1⟩ := of_clean_ok hv hd h6 (p := 0) (h := TMap.push .dead TMap.nil (v.blk d.bu)) (fun hc h1 h1n h1a => clean_clos hd hc ((h1a 0 (Nat.lt_succ_self 0)).trans (at_push_self TMap.nil (v.blk d.bu))) (Nat.lt_of_lt_of_le (Nat.lt_succ_self 0) h1n))
  refine .inl _ H1 .no hc1 ?_
  conv => whnf
  cases orO d (some (cleanN d)) with
  | none => rfl
  | some y => rfl
theorem pureX_bad {v : BV} {c : Bu} (hv : v.Is c) (hc : validB c = false) : Ret Tryz.prog 20 [v.cv c] (.tuple [I 0, I 1]) := by
  refine close_val ?_
  refine call_by (hm := false) Tryz.func20 rfl ?_
  conv => whnf
  refine ⟨v.blk c, at_push_self _ _, ?_⟩
  conv => whnf
  obtain ⟨e1, H1, hc1, rfl, f1⟩ := of_pure_bad hv hc (p := 0) (TMap.push .dead TMap.nil (v.blk c))
  refine .inl _ H1 .no hc1 ?_
  conv => whnf
  rfl
theorem pureX_ret {v : BV} {d : Bn} (hv : v.Is d.bu) (hd : d.Good) (h6 : d.tests.length ≤ 6) : Ret Tryz.prog 20 [v.cv d.bu] (ansI (orO d (some (((diffN d.top (balesB d).p : Nat) : Int)))) (erO d 10)) := by
  refine close_val ?_
  refine call_by (hm := false) Tryz.func20 rfl ?_
  conv => whnf
  refine ⟨v.blk d.bu, at_push_self _ _, ?_⟩
  conv => whnf
  obtain ⟨e1, H1, hc1, rfl, f1⟩ := of_pure_ok hv hd h6 (p := 0) (h := TMap.push .dead TMap.nil (v.blk d.bu)) (fun hc h1 h1n h1a => pure_clos hd hc ((h1a 0 (Nat.lt_succ_self 0)).trans (at_push_self TMap.nil (v.blk d.bu))) (Nat.lt_of_lt_of_le (Nat.lt_succ_self 0) h1n))
  refine .inl _ H1 .no hc1 ?_
  conv => whnf
  cases orO d (some (((diffN d.top (balesB d).p : Nat) : Int))) with
  | none => rfl
  | some y => rfl
/-- A call of what is known, in any heap. -/
theorem ret_any {f : FuncId} {args : List CV} {r : CV} (hr : Ret Tryz.prog f args r) (h : Heap) : ∃ e h', CallOk Tryz.prog f (args.map .c) h .no e h' .no ∧ (e = .ret (.c r) ∧ Foot none' h h') := ⟨_, _, ret_at hr h, rfl, Foot.refl _ _⟩
def tup3 (b : Bd) (e : Int) : CV := .tuple [I b.s, I b.p, I e]
set_option maxHeartbeats 1000000 in
theorem mobsX_bad {v : BV} {c : Bu} (hv : v.Is c) (hc : validB c = false) : Ret Tryz.prog 14 [v.cv c] (tup3 ⟨0, 0⟩ 1) := by
  refine close_val ?_
  refine call_by (hm := false) Tryz.func14 rfl ?_
  conv => whnf
  refine ⟨v.blk c, at_push_self _ _, ?_⟩
  conv => whnf
  obtain ⟨e1, H1, hc1, rfl, f1⟩ := of_mobs_bad hv hc (TMap.push .dead TMap.nil (v.blk c))
  refine .inl _ H1 .no hc1 ?_
  conv => whnf
  refine ⟨_, at_push_self _ _, ?_⟩
  conv => whnf
  refine draw_by (hm := false) (by kernel_rfl) (by kernel_rfl) ?_
  conv => whnf
  refine ⟨_, at_new _ _ _, ?_⟩
  conv => whnf
  refine ⟨_, at_new _ _ _, ?_⟩
  conv => whnf
  refine ⟨by kernel_rfl, ?_⟩
  conv => whnf
  rfl
set_option maxHeartbeats 1000000 in
theorem mobsX_ret {v : BV} {d : Bn} (hv : v.Is d.bu) (hd : d.Good) (h6 : d.tests.length ≤ 6) : Ret Tryz.prog 14 [v.cv d.bu] (if canB d then tup3 (mobsB d) 0 else tup3 ⟨0, 0⟩ 10) := by
  refine close_val ?_
  refine call_by (hm := false) Tryz.func14 rfl ?_
  conv => whnf
  refine ⟨v.blk d.bu, at_push_self _ _, ?_⟩
  conv => whnf
  obtain ⟨e1, H1, hc1, rfl, f1⟩ := of_mobs_ok hv hd h6 (h := TMap.push .dead TMap.nil (v.blk d.bu)) (o := some (mobsB d)) (err := 10) (fun hc h1 h1n h1a => by
    obtain ⟨e, h2, q1, q2, q3⟩ := ret_any (mobs_clos hd hc) h1
    exact ⟨e, h2, q1, q2, q3⟩)
  refine .inl _ H1 .no hc1 ?_
  conv => whnf
  unfold orO erO
  cases hcan : canB d
  · conv => whnf
    refine ⟨_, at_push_self _ _, ?_⟩
    conv => whnf
    refine draw_by (hm := false) (by kernel_rfl) (by kernel_rfl) ?_
    conv => whnf
    refine ⟨_, at_new _ _ _, ?_⟩
    conv => whnf
    refine ⟨_, at_new _ _ _, ?_⟩
    conv => whnf
    refine ⟨by kernel_rfl, ?_⟩
    conv => whnf
    rfl
  · conv => whnf
    refine ⟨_, at_push_self _ _, ?_⟩
    conv => whnf
    refine draw_by (hm := false) (by kernel_rfl) (by kernel_rfl) ?_
    conv => whnf
    refine ⟨_, at_new _ _ _, ?_⟩
    conv => whnf
    refine ⟨_, at_new _ _ _, ?_⟩
    conv => whnf
    refine ⟨by kernel_rfl, ?_⟩
    conv => whnf
    rfl
set_option maxHeartbeats 1000000 in
theorem balesX_bad {v : BV} {c : Bu} (hv : v.Is c) (hc : validB c = false) : Ret Tryz.prog 16 [v.cv c] (tup3 ⟨0, 0⟩ 1) := by
  refine close_val ?_
  refine call_by (hm := false) Tryz.func16 rfl ?_
  conv => whnf
  refine ⟨v.blk c, at_push_self _ _, ?_⟩
  conv => whnf
  obtain ⟨e1, H1, hc1, rfl, f1⟩ := of_bales_bad hv hc (TMap.push .dead TMap.nil (v.blk c))
  refine .inl _ H1 .no hc1 ?_
  conv => whnf
  refine ⟨_, at_push_self _ _, ?_⟩
  conv => whnf
  refine draw_by (hm := false) (by kernel_rfl) (by kernel_rfl) ?_
  conv => whnf
  refine ⟨_, at_new _ _ _, ?_⟩
  conv => whnf
  refine ⟨_, at_new _ _ _, ?_⟩
  conv => whnf
  refine ⟨by kernel_rfl, ?_⟩
  conv => whnf
  rfl
set_option maxHeartbeats 1000000 in
theorem balesX_ret {v : BV} {d : Bn} (hv : v.Is d.bu) (hd : d.Good) (h6 : d.tests.length ≤ 6) : Ret Tryz.prog 16 [v.cv d.bu] (if canB d then tup3 (balesB d) 0 else tup3 ⟨0, 0⟩ 10) := by
  refine close_val ?_
  refine call_by (hm := false) Tryz.func16 rfl ?_
  conv => whnf
  refine ⟨v.blk d.bu, at_push_self _ _, ?_⟩
  conv => whnf
  obtain ⟨e1, H1, hc1, rfl, f1⟩ := of_bales_ok hv hd h6 (h := TMap.push .dead TMap.nil (v.blk d.bu)) (o := some (balesB d)) (err := 10) (fun hc h1 h1n h1a => by
    obtain ⟨e, h2, q1, q2, q3⟩ := ret_any (bales_clos hd hc) h1
    exact ⟨e, h2, q1, q2, q3⟩)
  refine .inl _ H1 .no hc1 ?_
  conv => whnf
  unfold orO erO
  cases hcan : canB d
  · conv => whnf
    refine ⟨_, at_push_self _ _, ?_⟩
    conv => whnf
    refine draw_by (hm := false) (by kernel_rfl) (by kernel_rfl) ?_
    conv => whnf
    refine ⟨_, at_new _ _ _, ?_⟩
    conv => whnf
    refine ⟨_, at_new _ _ _, ?_⟩
    conv => whnf
    refine ⟨by kernel_rfl, ?_⟩
    conv => whnf
    rfl
  · conv => whnf
    refine ⟨_, at_push_self _ _, ?_⟩
    conv => whnf
    refine draw_by (hm := false) (by kernel_rfl) (by kernel_rfl) ?_
    conv => whnf
    refine ⟨_, at_new _ _ _, ?_⟩
    conv => whnf
    refine ⟨_, at_new _ _ _, ?_⟩
    conv => whnf
    refine ⟨by kernel_rfl, ?_⟩
    conv => whnf
    rfl
theorem countX_bad {v : BV} {c : Bu} (hv : v.Is c) (hc : validB c = false) : Ret Tryz.prog 22 [v.cv c] (.tuple [I 0, I 1]) := by
  have hval := valid_ret hv
  rw [hc] at hval
  refine ret_by (hm := true) Tryz.func22 rfl ?_
  conv => whnf
  refine .ret (hval) rfl ?_
  conv => whnf
  exact .val
theorem countX_ret {v : BV} {d : Bn} (hv : v.Is d.bu) (hd : d.Good) (h6 : d.tests.length ≤ 6) : Ret Tryz.prog 22 [v.cv d.bu] (.tuple [I (countN d : Nat), I 0]) := by
  have hval := valid_ret hv
  rw [valid_yes hd h6 hv] at hval
  refine ret_by (hm := true) Tryz.func22 rfl ?_
  conv => whnf
  refine .ret (hval) rfl ?_
  conv => whnf
  refine .ret (know_ret hv hd) rfl ?_
  conv => whnf
  refine .ret (count_ret hd) rfl ?_
  conv => whnf
  exact .val
end Go.Ag
/- Layer 7: the reference's small functions, and what is valid in it. -/
namespace Go.Ag
open Go.Proofs
set_option maxRecDepth 100000

theorem in_ret (n lo hi : Int) : Ret Tryz.prog 80 [I n, I lo, I hi] (B (inB' n lo hi)) := by
  refine ret_by (hm := true) Tryz.func80 rfl ?_
  conv => whnf
  unfold inB'
  cases h : decide (lo ≤ n)
  · conv => whnf
    exact .val
  · conv => whnf
    exact .val
def powE (n : Nat) : Known := ⟨65, [I n], I (2 ^ n : Nat)⟩
theorem powA : ((List.range 7).all fun n => tells cfg0 2000 (powE n)) = true := by kernel_rfl
theorem power_ret {n : Nat} (h : n ≤ 6) : Ret Tryz.prog 65 [I n] (I (2 ^ n : Nat)) := tells_ok (C := cfg0) (e := powE n) mix con0 (List.all_eq_true.1 powA n (List.mem_range.2 (by omega)))
def sizE (f n : Nat) : Known := ⟨f, [I n], I (popB n)⟩
theorem sizA0 : ((List.range 32).all fun n => tells cfg0 2000 (sizE 66 (0 + n))) = true := by kernel_rfl
theorem sizA1 : ((List.range 32).all fun n => tells cfg0 2000 (sizE 66 (32 + n))) = true := by kernel_rfl
theorem sizB0 : ((List.range 32).all fun n => tells cfg0 2000 (sizE 37 (0 + n))) = true := by kernel_rfl
theorem sizB1 : ((List.range 32).all fun n => tells cfg0 2000 (sizE 37 (32 + n))) = true := by kernel_rfl
theorem siz_at {f b n : Nat} (h : ((List.range 32).all fun n => tells cfg0 2000 (sizE f (b + n))) = true) (h1 : b ≤ n) (h2 : n < b + 32) : Ret Tryz.prog f [I n] (I (popB n)) := by
  have := List.all_eq_true.1 h (n - b) (List.mem_range.2 (by omega))
  rw [show b + (n - b) = n by omega] at this
  exact tells_ok (C := cfg0) mix con0 this
/-- The reference's size of a set. -/
theorem rsize_ret {n : Nat} (h : n < 64) : Ret Tryz.prog 66 [I n] (I (popB n)) := by
  by_cases h0 : n < 32
  · exact siz_at sizA0 (by omega) (by omega)
  exact siz_at sizA1 (by omega) (by omega)
/-- The law's size of a set. -/
theorem lsize_ret {n : Nat} (h : n < 64) : Ret Tryz.prog 37 [I n] (I (popB n)) := by
  by_cases h0 : n < 32
  · exact siz_at sizB0 (by omega) (by omega)
  exact siz_at sizB1 (by omega) (by omega)
theorem test_ret (i : Nat) (f : Bool) : Ret Tryz.prog 38 [I i, B f] (teV (i, f)) := by
  refine ret_by (hm := true) Tryz.func38 rfl ?_
  conv => whnf
  exact .val
theorem has_ret {a i : Nat} (ha : a < 2 ^ 62) (hi : i ≤ 6) : Ret Tryz.prog 73 [I a, I i] (B (a.testBit i)) := by
  have hp := Nat.one_le_two_pow (n := i)
  refine ret_by (hm := true) Tryz.func73 rfl ?_
  conv => whnf
  refine .ret (power_ret hi) rfl ?_
  conv => whnf
  have hd : a / 2 ^ i ≤ a := Nat.div_le_self _ _
  refine ⟨by omega, ((a / 2 ^ i : Nat) : Int), by rw [Int.tdiv_eq_ediv_of_nonneg (by omega), ← Int.natCast_ediv]; exact wrap_nat (by omega), ?_⟩
  conv => whnf
  refine ⟨by decide, ((a / 2 ^ i % 2 : Nat) : Int), by generalize a / 2 ^ i = q; rw [Int.tmod_eq_emod_of_nonneg (by omega)]; omega, ?_⟩
  conv => whnf
  rw [show (((a / 2 ^ i % 2 : Nat) : Int) == 1) = a.testBit i by rw [Nat.testBit_eq_decide_div_mod_eq, Bool.eq_iff_iff, beq_iff_eq, decide_eq_true_eq]; omega]
  exact .val
/-- What is in both sets, of numbers below q. -/
def bothQ (a b q : Nat) : Nat := bitsN (fun i => a.testBit i && b.testBit i) q
theorem both_all {a b : Nat} (ha : a < 64) : bothQ a b 6 = a &&& b := by
  refine Nat.eq_of_testBit_eq fun i => ?_
  unfold bothQ
  rw [bitsN_bit, Nat.testBit_and]
  cases h : a.testBit i
  · simp
  · rw [decide_eq_true (bit_lt (n := 6) ha h)]; simp
theorem bothQ_succ (a b q : Nat) : bothQ a b (q + 1) = if a.testBit q && b.testBit q then bothQ a b q + 2 ^ q else bothQ a b q := by
  have h := bitsN_lt (fun i => a.testBit i && b.testBit i) q
  unfold bothQ
  rw [show bitsN (fun i => a.testBit i && b.testBit i) (q + 1) = if a.testBit q && b.testBit q then bitsN (fun i => a.testBit i && b.testBit i) q ||| 2 ^ q else bitsN (fun i => a.testBit i && b.testBit i) q from rfl]
  split
  · have := Nat.two_pow_add_eq_or_of_lt h 1
    rw [Nat.mul_one] at this
    rw [Nat.or_comm, ← this, Nat.add_comm]
  · rfl
set_option maxHeartbeats 1000000 in
theorem both_ret {a b : Nat} (ha : a < 64) (hb : b < 64) : Ret Tryz.prog 55 [I a, I b] (I (a &&& b : Nat)) := by
  rw [← both_all (b := b) ha]
  refine ret_by (hm := false) Tryz.func55 rfl ?_
  conv => whnf
  refine loop_by (I := fun z st => ∃ (q : Nat) (h : Heap), q ≤ 6 ∧ z = 6 - q ∧
      Has st 24 [(0, .c (I a)), (1, .c (I b)), (5, .c (I (bothQ a b q : Nat))), (6, .c (I q))] [] none h) ?_ (k := 6)
    ⟨0, _, Nat.zero_le _, rfl, rfl, ⟨rfl, rfl, rfl, rfl, trivial⟩, rfl, rfl, rfl, rfl⟩
  rintro z st ⟨q, h, hq, rfl, hs1⟩
  refine hs1.run (hm := false) ?_
  conv => whnf
  cases hcq : decide ((q : Int) < 6)
  case false =>
    have : q = 6 := by simp at hcq; omega
    subst this
    conv => whnf
    exact .val
  have hq : q < 6 := by simp at hcq; omega
  have hsucc := bothQ_succ a b q
  have hB : bothQ a b q < 2 ^ q := bitsN_lt _ _
  have hp := pow_b (n := q) (by omega)
  conv => whnf
  refine .ret (has_ret (a := a) (i := q) (by omega) (by omega)) rfl ?_
  conv => whnf
  cases h1 : a.testBit q
  · rw [h1, Bool.false_and, if_neg (by simp)] at hsucc
    conv => whnf
    refine ⟨((q + 1 : Nat) : Int), by rw [wrap_eq (by omega) (by omega)]; omega, ?_⟩
    conv => whnf
    exact ⟨6 - (q + 1), by omega, q + 1, _, by omega, rfl, rfl, ⟨rfl, rfl, by rw [hsucc]; rfl, rfl, trivial⟩, rfl, rfl, rfl, rfl⟩
  rw [h1, Bool.true_and] at hsucc
  conv => whnf
  refine .ret (has_ret (a := b) (i := q) (by omega) (by omega)) rfl ?_
  conv => whnf
  cases h2 : b.testBit q
  · rw [h2, if_neg (by simp)] at hsucc
    conv => whnf
    refine ⟨((q + 1 : Nat) : Int), by rw [wrap_eq (by omega) (by omega)]; omega, ?_⟩
    conv => whnf
    exact ⟨6 - (q + 1), by omega, q + 1, _, by omega, rfl, rfl, ⟨rfl, rfl, by rw [hsucc]; rfl, rfl, trivial⟩, rfl, rfl, rfl, rfl⟩
  rw [h2, if_pos rfl] at hsucc
  conv => whnf
  refine .ret (power_ret (n := q) (by omega)) rfl ?_
  conv => whnf
  refine ⟨((bothQ a b q + 2 ^ q : Nat) : Int), by rw [wrap_eq (by omega) (by omega)]; omega, ?_⟩
  conv => whnf
  refine ⟨((q + 1 : Nat) : Int), by rw [wrap_eq (by omega) (by omega)]; omega, ?_⟩
  conv => whnf
  exact ⟨6 - (q + 1), by omega, q + 1, _, by omega, rfl, rfl, ⟨rfl, rfl, by rw [hsucc]; rfl, rfl, trivial⟩, rfl, rfl, rfl, rfl⟩
end Go.Ag
/- Layer 7: what is valid in the reference. -/
namespace Go.Ag
open Go.Proofs
set_option maxRecDepth 100000

def okRf (n : Nat) (b : Int × Int) : Bool := inB' b.1 0 ((2 ^ n - 1 : Nat) : Int) && (inB' b.2 0 ((2 ^ n - 1 : Nat) : Int) && decide (((b.1.toNat &&& b.2.toNat : Nat) : Int) = b.1))
theorem okBa_ref {n : Nat} (hn : n ≤ 5) {b : Int × Int} (hr : I64 b.1) : okBa n b = okRf n b := by
  have hp := pow_c hn
  rw [Bool.eq_iff_iff]
  unfold okBa okRf inB'
  simp only [Bool.and_eq_true, decide_eq_true_eq, Bool.not_eq_true', bne_eq_false_iff_eq]
  constructor
  · rintro ⟨⟨h1, h2⟩, h3⟩
    obtain ⟨p, hpp⟩ : ∃ p : Nat, b.2 = p := ⟨b.2.toNat, by omega⟩
    rw [hpp] at h3 h2 ⊢
    obtain ⟨a, ha, hs⟩ := anI_zero hr (by omega) h3
    have hlt := hs.lt (n := n) (by omega)
    rw [ha]
    refine ⟨⟨by omega, by omega⟩, ⟨by omega, by omega⟩, ?_⟩
    rw [Int.toNat_natCast, Int.toNat_natCast]
    congr 1
    refine Nat.eq_of_testBit_eq fun i => ?_
    rw [Nat.testBit_and]
    cases h : a.testBit i
    · rfl
    · rw [hs i h]; rfl
  · rintro ⟨⟨h1, h2⟩, ⟨h3, h4⟩, h5⟩
    obtain ⟨p, hpp⟩ : ∃ p : Nat, b.2 = p := ⟨b.2.toNat, by omega⟩
    obtain ⟨a, ha⟩ : ∃ a : Nat, b.1 = a := ⟨b.1.toNat, by omega⟩
    rw [hpp, ha] at h5
    rw [Int.toNat_natCast, Int.toNat_natCast] at h5
    have h5 : a &&& p = a := by omega
    refine ⟨⟨h3, h4⟩, ?_⟩
    rw [ha, hpp, anI_nat (by omega) (by omega)]
    have : diffN a p = 0 := by unfold diffN; rw [h5, Nat.xor_self]
    rw [this]; rfl
theorem in_cast {n lo hi : Int} (h : inB' n lo hi = true) : lo ≤ n ∧ n ≤ hi := by
  unfold inB' at h; simpa using h
set_option maxHeartbeats 4000000 in
theorem ref_ret {v : BV} {c : Bu} (hv : v.Is c) : Ret Tryz.prog 35 [v.cv c] (B (validB c)) := by
  have e1 := hv.bn; have e2 := hv.sb; have e3 := hv.tn; have e4 := hv.st
  refine ret_by (hm := false) Tryz.func35 rfl ?_
  conv => whnf
  refine draw_by (hm := false) (by kernel_rfl) (by kernel_rfl) ?_
  conv => whnf
  refine ⟨_, rfl, ?_⟩
  conv => whnf
  refine .pure _ _ rfl (in_ret _ _ _) ?_
  conv => whnf
  cases h1 : inB' c.mobs 1 5
  · have hV : validB c = false := by unfold validB; rw [h1]; rfl
    conv => whnf
    refine ⟨by kernel_rfl, ?_⟩
    conv => whnf
    rw [hV]
    exact .val
  obtain ⟨m1, m5⟩ := in_cast h1
  obtain ⟨n, hn⟩ : ∃ n : Nat, c.mobs = n := ⟨c.mobs.toNat, by omega⟩
  have hn5 : n ≤ 5 := by omega
  have htn : c.mobs.toNat = n := by omega
  conv => whnf
  refine ⟨_, rfl, ?_⟩
  conv => whnf
  refine ⟨_, rfl, ?_⟩
  conv => whnf
  refine .pure _ _ rfl (in_ret _ _ _) ?_
  conv => whnf
  cases h2 : inB' c.lo 0 c.hi
  · have hV : validB c = false := by
      unfold validB okBu; unfold inB' at h2
      cases ha : decide (0 ≤ c.lo)
      · simp
      · rw [ha, Bool.true_and] at h2; rw [h2]; simp
    conv => whnf
    refine ⟨by kernel_rfl, ?_⟩
    conv => whnf
    rw [hV]
    exact .val
  have hu : okBu c = decide (c.hi ≤ c.mobs) := by
    unfold okBu; unfold inB' at h2
    rw [Bool.and_eq_true] at h2
    rw [h2.1, h2.2]; simp
  conv => whnf
  refine ⟨_, rfl, ?_⟩
  conv => whnf
  refine ⟨_, rfl, ?_⟩
  conv => whnf
  cases h3 : decide (c.hi > c.mobs)
  case true =>
    have hV : validB c = false := by
      unfold validB; rw [hu, decide_eq_false (by have := of_decide_eq_true h3; omega)]; simp
    conv => whnf
    refine ⟨by kernel_rfl, ?_⟩
    conv => whnf
    rw [hV]
    exact .val
  have hu : okBu c = true := by rw [hu, decide_eq_true (by have := of_decide_eq_false h3; omega)]
  conv => whnf
  refine ⟨_, rfl, ?_⟩
  conv => whnf
  cases h4 : decide ((v.bn : Int) > 6)
  case true =>
    have hV : validB c = false := by
      unfold validB okBas; rw [← e1, h4]; simp
    conv => whnf
    refine ⟨by kernel_rfl, ?_⟩
    conv => whnf
    rw [hV]
    exact .val
  have hk6 : v.bn ≤ 6 := by have := of_decide_eq_false h4; omega
  have hp6 := pow_b hk6
  conv => whnf
  refine ⟨_, rfl, ?_⟩
  conv => whnf
  refine ⟨_, rfl, ?_⟩
  conv => whnf
  refine .pure _ _ rfl (power_ret hk6) ?_
  conv => whnf
  refine ⟨((2 ^ v.bn - 1 : Nat) : Int), by rw [wrap_eq (by omega) (by omega)]; omega, ?_⟩
  conv => whnf
  refine .pure _ _ rfl (in_ret _ _ _) ?_
  conv => whnf
  cases h5 : inB' c.top 0 ((2 ^ v.bn - 1 : Nat) : Int)
  · have hV : validB c = false := by
      unfold validB; rw [← e1, h5]; simp
    conv => whnf
    refine ⟨by kernel_rfl, ?_⟩
    conv => whnf
    rw [hV]
    exact .val
  conv => whnf
  refine ⟨_, rfl, ?_⟩
  conv => whnf
  cases h6 : decide ((v.tn : Int) > 6)
  case true =>
    have hV : validB c = false := by
      unfold validB okTes; rw [← e3, h6]; simp
    conv => whnf
    refine ⟨by kernel_rfl, ?_⟩
    conv => whnf
    rw [hV]
    exact .val
  have hV : validB c = (c.bales.all (okBa n) && c.tests.all fun t => inB' t.1 0 ((v.bn : Int) - 1)) := by
    unfold validB okBas okTes
    rw [h1, hu, ← e1, ← e3, h4, h5, h6, htn]; simp
  rw [hV]
  clear hV
  conv => whnf
  refine ⟨by kernel_rfl, ?_⟩
  conv => whnf
  refine loop_by (I := fun z st => ∃ (q : Nat) (h : Heap), q ≤ c.bales.length ∧ z = c.bales.length - q ∧ c.bales.all (okBa n) = (c.bales.drop q).all (okBa n) ∧ Heap.at h 0 = v.blk c ∧ 0 < h.n ∧ Has st 110 [(1, .ptr 0 0), (3, .c (I q))] [] none h) ?_ (k := c.bales.length)
    ⟨0, _, Nat.zero_le _, rfl, rfl, rfl, Nat.lt_succ_self 0, rfl, ⟨rfl, rfl, trivial⟩, rfl, rfl, rfl, rfl⟩
  rintro z st ⟨q, h, hq, rfl, hall, h0, hlt, hs1⟩
  refine hs1.run (hm := false) ?_
  conv => whnf
  refine ⟨_, h0, ?_⟩
  conv => whnf
  cases hcq : decide ((q : Int) < (v.bn : Int))
  case true =>
    have hq : q < c.bales.length := by simp at hcq; omega
    obtain ⟨r, hr⟩ := get_some hq
    rw [drop_get hr, List.all_cons, okBa_ref hn5 (hv.rg r (List.mem_of_getElem? hr))] at hall
    unfold okRf at hall
    have hp5 := pow_c hn5
    conv => whnf
    refine ⟨_, h0, ?_⟩
    conv => whnf
    refine ⟨⟨by omega, by omega⟩, ?_⟩
    conv => whnf
    refine ⟨_, hv.bale hr, ?_⟩
    conv => whnf
    refine ⟨_, at_push_self _ _, ?_⟩
    conv => whnf
    generalize hH2 : TMap.set AB.dead (TMap.push AB.dead h _) _ _ = H2
    have d0 : Heap.at H2 0 = v.blk c := by rw [← hH2]; exact (at_old _ _ _ hlt).trans h0
    have d2 : Heap.at H2 h.n = .blk [.c (I r.1), .c (I r.2)] := by rw [← hH2]; exact at_new _ _ _
    have d3 : 0 < H2.n := by rw [← hH2, TMap.set_n, push_n]; omega
    clear hH2
    refine draw_by (hm := false) (by kernel_rfl) (by kernel_rfl) ?_
    conv => whnf
    refine ⟨_, d2, ?_⟩
    conv => whnf
    refine ⟨_, d0, ?_⟩
    conv => whnf
    rw [hn]
    refine .pure _ _ rfl (power_ret (n := n) (by omega)) ?_
    conv => whnf
    refine ⟨((2 ^ n - 1 : Nat) : Int), by rw [wrap_eq (by omega) (by omega)]; omega, ?_⟩
    conv => whnf
    refine .pure _ _ rfl (in_ret _ _ _) ?_
    conv => whnf
    cases k1 : inB' r.1 0 ((2 ^ n - 1 : Nat) : Int)
    · rw [k1, Bool.false_and, Bool.false_and] at hall
      rw [hall, Bool.false_and]
      conv => whnf
      refine ⟨by kernel_rfl, ?_⟩
      conv => whnf
      exact .val
    rw [k1, Bool.true_and] at hall
    conv => whnf
    refine ⟨_, d2, ?_⟩
    conv => whnf
    refine ⟨_, d0, ?_⟩
    conv => whnf
    rw [hn]
    refine .pure _ _ rfl (power_ret (n := n) (by omega)) ?_
    conv => whnf
    refine ⟨((2 ^ n - 1 : Nat) : Int), by rw [wrap_eq (by omega) (by omega)]; omega, ?_⟩
    conv => whnf
    refine .pure _ _ rfl (in_ret _ _ _) ?_
    conv => whnf
    cases k2 : inB' r.2 0 ((2 ^ n - 1 : Nat) : Int)
    · rw [k2, Bool.false_and, Bool.false_and] at hall
      rw [hall, Bool.false_and]
      conv => whnf
      refine ⟨by kernel_rfl, ?_⟩
      conv => whnf
      exact .val
    rw [k2, Bool.true_and] at hall
    obtain ⟨i1, i2⟩ := in_cast k1
    obtain ⟨i3, i4⟩ := in_cast k2
    obtain ⟨x, hx⟩ : ∃ x : Nat, r.1 = x := ⟨r.1.toNat, by omega⟩
    obtain ⟨y, hy⟩ : ∃ y : Nat, r.2 = y := ⟨r.2.toNat, by omega⟩
    rw [hx, hy, Int.toNat_natCast, Int.toNat_natCast] at hall
    rw [hx, hy] at d2
    rw [hx] at i2
    rw [hy] at i4
    conv => whnf
    refine ⟨_, d2, ?_⟩
    conv => whnf
    refine ⟨_, d2, ?_⟩
    conv => whnf
    refine .pure _ _ rfl (both_ret (a := x) (b := y) (by omega) (by omega)) ?_
    conv => whnf
    refine ⟨_, d2, ?_⟩
    conv => whnf
    rw [show (((x &&& y : Nat) : Int) != (x : Int)) = !decide (((x &&& y : Nat) : Int) = (x : Int)) by rw [Bool.eq_iff_iff, bne_iff_ne, Bool.not_eq_true', decide_eq_false_iff_not]]
    cases k3 : decide (((x &&& y : Nat) : Int) = (x : Int))
    · rw [k3, Bool.false_and] at hall
      rw [hall, Bool.false_and]
      conv => whnf
      refine ⟨by kernel_rfl, ?_⟩
      conv => whnf
      exact .val
    rw [k3, Bool.true_and] at hall
    conv => whnf
    refine ⟨by kernel_rfl, ?_⟩
    conv => whnf
    refine ⟨((q + 1 : Nat) : Int), by rw [wrap_eq (by omega) (by omega)]; omega, ?_⟩
    conv => whnf
    exact ⟨c.bales.length - (q + 1), by omega, q + 1, _, by omega, rfl, hall, d0, d3, rfl, ⟨rfl, rfl, trivial⟩, rfl, rfl, rfl, rfl⟩
  have : q = c.bales.length := by simp at hcq; omega
  subst this
  rw [List.drop_length] at hall
  rw [hall]
  rw [show (([] : List (Int × Int)).all (okBa n) && c.tests.all fun t => inB' t.1 0 ((v.bn : Int) - 1)) = c.tests.all fun t => inB' t.1 0 ((v.bn : Int) - 1) by simp]
  conv => whnf
  refine loop_by (I := fun z st => ∃ (q : Nat) (h : Heap), q ≤ c.tests.length ∧ z = c.tests.length - q ∧ (c.tests.all fun t => inB' t.1 0 ((v.bn : Int) - 1)) = ((c.tests.drop q).all fun t => inB' t.1 0 ((v.bn : Int) - 1)) ∧ Heap.at h 0 = v.blk c ∧ 0 < h.n ∧ Has st 110 [(1, .ptr 0 0), (5, .c (I q))] [] none h) ?_ (k := c.tests.length)
    ⟨0, _, Nat.zero_le _, rfl, rfl, h0, hlt, rfl, ⟨rfl, rfl, trivial⟩, rfl, rfl, rfl, rfl⟩
  rintro z st ⟨q, g, hq, rfl, hall, g0, glt, hs1⟩
  refine hs1.run (hm := false) ?_
  conv => whnf
  refine ⟨_, g0, ?_⟩
  conv => whnf
  cases hcq : decide ((q : Int) < (v.tn : Int))
  case false =>
    have : q = c.tests.length := by simp at hcq; omega
    subst this
    rw [List.drop_length] at hall
    rw [hall]
    conv => whnf
    exact .val
  have hq : q < c.tests.length := by simp at hcq; omega
  obtain ⟨r, hr⟩ := get_some hq
  rw [drop_get hr, List.all_cons] at hall
  have hr0 : readVarC Tryz.prog 3 v.tc (v.ot + (q : Int).toNat * 2 + 0) = some (I r.1) := by
    rw [Int.toNat_natCast, rv3, sliceOf_get (hv.t.row q (rowTe r) (by rw [List.getElem?_map, hr]; rfl)) (by omega)]; rfl
  conv => whnf
  refine draw_by (hm := false) (by kernel_rfl) (by kernel_rfl) ?_
  conv => whnf
  refine ⟨_, g0, ?_⟩
  conv => whnf
  refine ⟨⟨by omega, by omega⟩, ?_⟩
  conv => whnf
  refine ⟨_, hr0, ?_⟩
  conv => whnf
  refine ⟨_, g0, ?_⟩
  conv => whnf
  refine ⟨(v.bn : Int) - 1, by rw [wrap_eq (by omega) (by omega)], ?_⟩
  conv => whnf
  refine .pure _ _ rfl (in_ret _ _ _) ?_
  conv => whnf
  refine ⟨by kernel_rfl, ?_⟩
  conv => whnf
  cases k1 : inB' r.1 0 ((v.bn : Int) - 1)
  · rw [k1, Bool.false_and] at hall
    rw [hall]
    conv => whnf
    exact .val
  rw [k1, Bool.true_and] at hall
  conv => whnf
  refine ⟨((q + 1 : Nat) : Int), by rw [wrap_eq (by omega) (by omega)]; omega, ?_⟩
  conv => whnf
  exact ⟨c.tests.length - (q + 1), by omega, q + 1, _, by omega, rfl, hall, g0, glt, rfl, ⟨rfl, rfl, trivial⟩, rfl, rfl, rfl, rfl⟩
end Go.Ag
/- Layer 7: arguments read as data. -/
namespace Go.Ag
open Go.Proofs Go.ChangeShapes Go.WideShapes Go.Deep Go.RowKit Go.ChangeShapes
set_option maxRecDepth 100000

theorem long_ret (v : BV) (c : Bu) : Ret Tryz.prog 12 [v.cv c] (B (decide (max (v.bn : Int) v.tn > 40))) := by
  refine ret_by (hm := true) Tryz.func12 rfl ?_
  conv => whnf
  exact .val
/-- Not far too long. -/
structure BV.IsS (v : BV) (c : Bu) : Prop extends v.Is c where
  far : Ret Tryz.prog 12 [v.cv c] (B false)
theorem BV.IsL.cases {v : BV} {c : Bu} (h : v.IsL c) : v.IsS c ∨ Ret Tryz.prog 12 [v.cv c] (B true) := by
  have e1 := h.bn; have e2 := h.tn
  have hl := long_ret v c
  cases hc : decide (max (v.bn : Int) v.tn > 40)
  · left
    rw [hc] at hl
    have := of_decide_eq_false hc
    exact ⟨⟨h, by omega, by omega⟩, hl⟩
  · right
    rw [hc] at hl
    exact hl
theorem flat_get {α : Type} {sz : Nat} : ∀ (rows : List (List α)) (_ : ∀ r ∈ rows, r.length = sz) (i : Nat) (z : α), rows.flatten[i]? = some z → ∃ q r j, rows[q]? = some r ∧ r[j]? = some z ∧ i = q * sz + j
  | [], _, i, z, h => by simp at h
  | r :: rows, hr, i, z, h => by
    have hl := hr r (by simp)
    by_cases hi : i < r.length
    · refine ⟨0, r, i, rfl, ?_, by omega⟩
      rw [List.flatten_cons, List.getElem?_append_left hi] at h
      exact h
    · rw [List.flatten_cons, List.getElem?_append_right (by omega)] at h
      obtain ⟨q, r', j, h1, h2, h3⟩ := flat_get rows (fun r hr' => hr r (by simp [hr'])) _ z h
      refine ⟨q + 1, r', j, by simpa using h1, h2, ?_⟩
      rw [Nat.add_mul]; omega
theorem repP_litz {Φ : Nat → Option Obj} : ∀ (zs : List Value) (vs : List Value), (∀ (i : Nat) (z : Value), zs[i]? = some z → vs[i]? = some z) → RepP Φ (zs.map CV.lit) vs
  | [], _, _ => trivial
  | z :: zs, [], h => by have := h 0 z rfl; simp at this
  | z :: zs, v :: vs, h => by
    have h0 := h 0 z rfl
    simp only [List.getElem?_cons_zero, Option.some.injEq] at h0
    exact ⟨h0, repP_litz zs vs fun i y hy => by have := h (i + 1) y (by simpa using hy); simpa using this⟩
theorem cells3 : Tryz.prog.cellsOf 3 = 1 := by kernel_rfl
theorem cells4 : Tryz.prog.cellsOf 4 = 1 := by kernel_rfl
theorem cells23 : Tryz.prog.cellsOf 23 = 2 := by kernel_rfl
theorem cells24 : Tryz.prog.cellsOf 24 = 1 := by kernel_rfl
theorem cells25 : Tryz.prog.cellsOf 25 = 1 := by kernel_rfl
theorem cells27 : Tryz.prog.cellsOf 27 = 6 := by kernel_rfl
theorem cells42 : Tryz.prog.cellsOf 42 = 2 := by kernel_rfl
theorem cells55 : Tryz.prog.cellsOf 55 = 2 := by kernel_rfl

section
variable {H : Type} {enc : TypeId × Value → H} {w : World} {base : Nat} {spare : Nat → Bool} {held : Bool}
theorem one_int {n : Nat} {c : Value} {y : DataW H × List MemPlace} (h : DataW.trod enc Tryz.prog w base spare held n 3 [c] = some y) : ∃ z : Int, c = .int .i64 z ∧ I64 z := by
  obtain ⟨z, hz, _, hw⟩ := DataW.trod_int Tryz.underlying3 h
  refine ⟨z, by simpa using hz, ?_⟩
  unfold Lit.wf at hw
  rw [Bool.and_eq_true, decide_eq_true_eq, decide_eq_true_eq] at hw
  have e1 : IntKind.i64.min = -9223372036854775808 := by decide
  have e2 : IntKind.i64.max = 9223372036854775807 := by decide
  rw [e1, e2] at hw
  exact ⟨hw.1, by omega⟩
theorem one_bool {n : Nat} {c : Value} {y : DataW H × List MemPlace} (h : DataW.trod enc Tryz.prog w base spare held n 4 [c] = some y) : ∃ b : Bool, c = .bool b := by
  obtain ⟨b, hb, _⟩ := DataW.trod_bool Tryz.underlying4 h
  exact ⟨b, by simpa using hb⟩
def QBa (cs : List Value) : Prop := ∃ a b : Int, cs = [.int .i64 a, .int .i64 b] ∧ I64 a
def QTe (cs : List Value) : Prop := ∃ (a : Int) (b : Bool), cs = [.int .i64 a, .bool b]
theorem bale_row {n : Nat} {cs : List Value} {y : DataW H × List MemPlace} (h : DataW.trod enc Tryz.prog w base spare held n 55 cs = some y) : cs.length = 2 ∧ QBa cs := by
  obtain ⟨y0, y1, m, _, hl, h0, h1⟩ := trod_struct2 Tryz.underlying55 h
  dsimp only at h0 h1
  rw [cells3] at h0 h1
  match cs, hl.trans cells55 with
  | [c0, c1], _ =>
    obtain ⟨a, rfl, ha⟩ := one_int h0
    obtain ⟨b, rfl, _⟩ := one_int h1
    exact ⟨rfl, a, b, rfl, ha⟩
theorem test_row {n : Nat} {cs : List Value} {y : DataW H × List MemPlace} (h : DataW.trod enc Tryz.prog w base spare held n 42 cs = some y) : cs.length = 2 ∧ QTe cs := by
  obtain ⟨y0, y1, m, _, hl, h0, h1⟩ := trod_struct2 Tryz.underlying42 h
  dsimp only at h0 h1
  rw [cells3] at h0
  rw [cells4] at h1
  match cs, hl.trans cells42 with
  | [c0, c1], _ =>
    obtain ⟨a, rfl, _⟩ := one_int h0
    obtain ⟨b, rfl⟩ := one_bool h1
    exact ⟨rfl, a, b, rfl⟩
theorem two_ints {n : Nat} {c d : Value} {y : DataW H × List MemPlace} (h : DataW.trod enc Tryz.prog w base spare held n 23 [c, d] = some y) : ∃ a b : Int, c = .int .i64 a ∧ d = .int .i64 b := by
  obtain ⟨y0, y1, m, _, hl, h0, h1⟩ := trod_struct2 Tryz.underlying23 h
  dsimp only at h0 h1
  rw [cells3] at h0 h1
  obtain ⟨a, rfl, ha⟩ := one_int h0
  obtain ⟨b, rfl, _⟩ := one_int h1
  exact ⟨a, b, rfl, rfl⟩
theorem trod_five {P : Program} {t : TypeId} {f0 f1 f2 f3 f4 : Field} {fuel : Nat} {cs : List Value} {x : DataW H × List MemPlace} (ht : P.underlying t = some (.struct #[f0, f1, f2, f3, f4])) (h : DataW.trod enc P w base spare held fuel t cs = some x) :
    ∃ y0 y1 y2 y3 y4 n, cs.length = P.cellsOf t ∧ DataW.trod enc P w base spare held n f0.type ((cs.drop f0.offset).take (P.cellsOf f0.type)) = some y0 ∧
      DataW.trod enc P w base spare held n f1.type ((cs.drop f1.offset).take (P.cellsOf f1.type)) = some y1 ∧ DataW.trod enc P w base spare held n f2.type ((cs.drop f2.offset).take (P.cellsOf f2.type)) = some y2 ∧
      DataW.trod enc P w base spare held n f3.type ((cs.drop f3.offset).take (P.cellsOf f3.type)) = some y3 ∧ DataW.trod enc P w base spare held n f4.type ((cs.drop f4.offset).take (P.cellsOf f4.type)) = some y4 := by
  obtain ⟨xs, n, _, rfl, hl, hlen, hf⟩ := DataW.trod_struct ht h
  match xs, hlen with
  | [y0, y1, y2, y3, y4], _ => exact ⟨y0, y1, y2, y3, y4, n, hl, by simpa using hf 0 f0 rfl, by simpa using hf 1 f1 rfl, by simpa using hf 2 f2 rfl, by simpa using hf 3 f3 rfl, by simpa using hf 4 f4 rfl⟩
theorem open_rows {t e : TypeId} {sz fuel : Nat} {c : Value} {x : DataW H × List MemPlace} (ht : Tryz.prog.underlying t = some (.slice e)) (hsz : Tryz.prog.cellsOf e = sz) (hpos : 0 < sz)
    {Q : List Value → Prop} (hrow : ∀ n cs (x : DataW H × List MemPlace), DataW.trod enc Tryz.prog w base spare held n e cs = some x → cs.length = sz ∧ Q cs)
    (h : DataW.trod enc Tryz.prog w base spare held fuel t [c] = some x) : ∃ rows : List (List Value), (∀ r ∈ rows, r.length = sz ∧ Q r) ∧ RepC (allOf w) (.sl (rows.flatten.map CV.lit) 0 rows.length) c := by
  rcases open_slice ht h with ⟨h0, _⟩ | ⟨a, len, cap, m, n, D, Pl, hcs, hb, hl, hm, hmm, hx, hi⟩
  · simp only [List.cons.injEq, and_true] at h0
    subst h0
    exact ⟨[], by simp, .inl ⟨rfl, .inr rfl⟩⟩
  · simp only [List.cons.injEq, and_true] at hcs
    subst hcs
    rw [hsz] at hi
    have hlm : len ≤ m := by rw [hmm]; split <;> omega
    have hall : ∀ i, ∃ zs : List Value, i < m → (zs.length = sz ∧ Q zs) ∧ ∀ j z, zs[j]? = some z → w.cell? (a.add (i * sz + j)) = some z := by
      intro i
      by_cases him : i < m
      · obtain ⟨cs', hc, ht'⟩ := hi i him
        obtain ⟨_, hcl, hat⟩ := World.cells?_some hc
        refine ⟨cs', fun _ => ⟨hrow _ _ _ ht', fun j z hj => ?_⟩⟩
        have hjl : j < cs'.length := (List.getElem?_eq_some_iff.1 hj).1
        have := hat j (by omega)
        rw [Go.Deep.add_add] at this
        rw [this, hj]
      · exact ⟨[], fun h => absurd h him⟩
    obtain ⟨f, hf⟩ := Classical.skolem.1 hall
    by_cases hlen : len = 0
    · subst hlen
      exact ⟨[], by simp, .inl ⟨rfl, .inl ⟨a, cap, rfl⟩⟩⟩
    · have hr : ∀ r ∈ (List.range len).map f, r.length = sz ∧ Q r := by
        intro r hr
        obtain ⟨i, hi1, rfl⟩ := List.mem_map.1 hr
        exact (hf i (by have := List.mem_range.1 hi1; omega)).1
      refine ⟨(List.range len).map f, hr, .inr ?_⟩
      obtain ⟨b, off, spot⟩ := a
      obtain ⟨⟨h00, _⟩, h01⟩ := hf 0 (by omega)
      have hz : ∃ z, (f 0)[0]? = some z := ⟨(f 0)[0], by simp⟩
      obtain ⟨z, hz⟩ := hz
      have hc0 := h01 0 z hz
      have hspot : spot = none := by simpa [Addr.add] using World.cell?_spot hc0
      subst hspot
      have plain : ∀ n, (⟨b, off, none⟩ : Addr).add n = ⟨b, off + n, none⟩ := fun n => by unfold Addr.add; split <;> simp_all
      rw [plain] at hc0
      cases hh : w.heap[b]? with
      | none => simp [World.cell?, hh] at hc0
      | some o =>
        cases o with
        | cells cs e fr =>
          refine ⟨b, off, cap, cs, e, fr, by simp, by simpa using hl, hh, repP_litz _ _ fun i z hz => ?_⟩
          obtain ⟨q, r, j, h1, h2, rfl⟩ := flat_get _ (fun r h => (hr r h).1) i z hz
          have hq : q < len := by have := (List.getElem?_eq_some_iff.1 h1).1; simpa using this
          have hrq : r = f q := by
            simp only [List.getElem?_map, List.getElem?_range hq, Option.map_some, Option.some.injEq] at h1
            exact h1.symm
          subst hrq
          have hc := (hf q (by omega)).2 j z h2
          rw [plain] at hc
          simp only [World.cell?, hh] at hc
          simpa using hc
        | _ => simp [World.cell?, hh] at hc0
/-- Rows as data. -/
theorem rows_data {α : Type} {sz : Nat} {Q : List Value → Prop} (row : α → List CV) (R : α → Prop) (hQ : ∀ r, Q r → ∃ x, r.map CV.lit = row x ∧ R x) : ∀ rows : List (List Value), (∀ r ∈ rows, r.length = sz ∧ Q r) →
    ∃ l : List α, rows.map (·.map CV.lit) = l.map row ∧ (∀ x ∈ l, R x) ∧ l.length = rows.length
  | [], _ => ⟨[], rfl, by simp, rfl⟩
  | r :: rows, h => by
    obtain ⟨x, h1, h2⟩ := hQ r (h r (by simp)).2
    obtain ⟨l, h3, h4, h5⟩ := rows_data (sz := sz) row R hQ rows (fun r hr => h r (by simp [hr]))
    exact ⟨x :: l, by rw [List.map_cons, List.map_cons, h1, h3], List.forall_mem_cons.2 ⟨h2, h4⟩, by simp [h5]⟩
theorem rows_sl {α : Type} {sz : Nat} {row : α → List CV} {rows : List (List Value)} {l : List α} (hr : ∀ r ∈ rows, r.length = sz) (he : rows.map (·.map CV.lit) = l.map row) : SlOf sz (l.map row) (rows.flatten.map CV.lit) 0 rows.length := by
  rw [← he]
  have := sl_flat (sz := sz) (rows := rows.map (·.map CV.lit)) (fun r h => by
    obtain ⟨r0, h0, rfl⟩ := List.mem_map.1 h
    simpa using hr r0 h0)
  rw [List.length_map, ← List.map_flatten] at this
  exact this
theorem open_burr {r : Reach} {b0 : Nat} {v : Value} {x : DataW H} {ps : List MemPlace} (hv : Value.okWide Tryz.prog w r b0 27 v) (h : DataW.Trod enc Tryz.prog w base spare held 27 v x ps) : ∃ (bv : BV) (c : Bu), bv.IsL c ∧ RepC (allOf w) (bv.cv c) v := by
  obtain ⟨cs, rfl, hsz⟩ := okWide_struct Tryz.underlying27 hv
  obtain ⟨fuel, hf⟩ := h
  obtain ⟨y0, y1, y2, y3, y4, n, hl, h0, h1, h2, h3, h4⟩ := trod_five Tryz.underlying27 hf
  dsimp only at h0 h1 h2 h3 h4
  rw [cells3] at h0 h3
  rw [cells23] at h1
  rw [cells24] at h2
  rw [cells25] at h4
  obtain ⟨l⟩ := cs
  match l, hsz.trans cells27 with
  | [c0, c1, c2, c3, c4, c5], _ =>
    obtain ⟨m, rfl, _⟩ := one_int h0
    obtain ⟨lo, hi, rfl, rfl⟩ := two_ints h1
    obtain ⟨top, rfl, _⟩ := one_int h3
    obtain ⟨rb, hb1, hb2⟩ := open_rows (c := c3) (Q := QBa) Tryz.underlying24 cells55 (by decide) (fun _ _ _ h => bale_row h) h2
    obtain ⟨rt, ht1, ht2⟩ := open_rows (c := c5) (Q := QTe) Tryz.underlying25 cells42 (by decide) (fun _ _ _ h => test_row h) h4
    obtain ⟨lb, q1, q2, q3⟩ := rows_data rowBa (fun x => I64 x.1) (fun r ⟨a, b, e, ha⟩ => ⟨(a, b), by rw [e]; rfl, ha⟩) rb hb1
    obtain ⟨lt, q4, q5, q6⟩ := rows_data rowTe (fun _ => True) (fun r ⟨a, b, e⟩ => ⟨(a, b), by rw [e]; rfl, trivial⟩) rt ht1
    exact ⟨⟨rb.flatten.map CV.lit, 0, rb.length, rt.flatten.map CV.lit, 0, rt.length⟩, ⟨m, lo, hi, lb, top, lt⟩, ⟨rows_sl (fun r h => (hb1 r h).1) q1, rows_sl (fun r h => (ht1 r h).1) q4, q2⟩, ⟨_, rfl, rfl, rfl, rfl, rfl, hb2, rfl, ht2, trivial⟩⟩
end
theorem law_u8 {n : Int} (hn : (Lit.int .u8 n).wf = true) : ∃ w : Nat, n = w ∧ w < 256 := by
  unfold Lit.wf at hn
  rw [Bool.and_eq_true, decide_eq_true_eq, decide_eq_true_eq] at hn
  have e1 : IntKind.u8.min = 0 := by decide
  have e2 : IntKind.u8.max = 255 := by decide
  rw [e1, e2] at hn
  exact ⟨n.toNat, by omega, by omega⟩
end Go.Ag
/- Layer 7: all truths, one by one. -/
namespace Go.Ag
open Go.Proofs
set_option maxRecDepth 100000

set_option maxHeartbeats 2000000 in
theorem holds_ret {v : BV} {d : Bn} (hv : v.Is d.bu) (hd : d.Good) {m : Nat} (hm : m < 64) : Ret Tryz.prog 81 [v.cv d.bu, I m] (.tuple [I (hold d m).s, I (hold d m).p]) := by
  have e1 := hv.bn
  rw [bu_k] at e1
  have k6 : d.k ≤ 6 := hd.k6
  have n5 := pow_c hd.n5
  refine ret_by (hm := false) Tryz.func81 rfl ?_
  conv => whnf
  refine ⟨_, rfl, ?_⟩
  conv => whnf
  refine loop_by (I := fun z st => ∃ (q : Nat) (h : Heap), q ≤ d.k ∧ z = d.k - q ∧ Has st 37 [(1, .c (I m)), (4, .c (I (holdS d m q))), (5, .c (I (holdP d m q))), (9, .c (.sl v.bc v.bo v.bn)), (10, .c (I v.bn)), (11, .c (I q))] [] none h) ?_ (k := d.k)
    ⟨0, _, Nat.zero_le _, rfl, rfl, ⟨rfl, rfl, rfl, rfl, rfl, rfl, trivial⟩, rfl, rfl, rfl, rfl⟩
  rintro z st ⟨q, h, hq, rfl, hs1⟩
  refine hs1.run (hm := false) ?_
  conv => whnf
  cases hcq : decide ((q : Int) < (v.bn : Int))
  case false =>
    have : q = d.k := by simp at hcq; omega
    subst this
    conv => whnf
    exact .val
  have hq : q < d.k := by simp at hcq; omega
  obtain ⟨b2, b1⟩ := hd.b hq
  have b1' := b1.lt b2
  have p6 := pow_b (n := q) (by omega)
  have hS := holdS_lt d m q; have hP := holdP_lt d m q
  have sS := holdS_succ d m q; have sP := holdP_succ d m q
  generalize hx : (d.b q).1 = x at *
  generalize hy : (d.b q).2 = y at *
  have hbq := hv.bale (bu_bale hq)
  rw [hx, hy] at hbq
  conv => whnf
  refine ⟨⟨by omega, by omega⟩, ?_⟩
  conv => whnf
  refine ⟨_, hbq, ?_⟩
  conv => whnf
  refine ⟨_, at_push_self _ _, ?_⟩
  conv => whnf
  generalize hH2 : TMap.set AB.dead (TMap.push AB.dead h _) _ _ = H2
  have d2 : Heap.at H2 h.n = .blk [.c (I x), .c (I y)] := by rw [← hH2]; exact at_new _ _ _
  clear hH2
  refine ⟨_, d2, ?_⟩
  conv => whnf
  refine ⟨_, and_nat (by omega) (by omega), ?_⟩
  conv => whnf
  rw [ne_cast]
  cases hs : (x &&& m != 0)
  · rw [hs, if_neg (by simp)] at sS
    conv => whnf
    refine ⟨_, d2, ?_⟩
    conv => whnf
    refine ⟨_, and_nat (by omega) (by omega), ?_⟩
    conv => whnf
    rw [ne_cast]
    cases hp : (y &&& m != 0)
    · rw [hp, if_neg (by simp)] at sP
      conv => whnf
      refine ⟨((q + 1 : Nat) : Int), by rw [wrap_eq (by omega) (by omega)]; omega, ?_⟩
      conv => whnf
      exact ⟨d.k - (q + 1), by omega, q + 1, _, by omega, rfl, rfl, ⟨rfl, by rw [sS]; rfl, by rw [sP]; rfl, rfl, rfl, rfl, trivial⟩, rfl, rfl, rfl, rfl⟩
    · rw [hp, if_pos rfl] at sP
      conv => whnf
      refine ⟨by omega, _, shl_nat 1 q (by omega) (by omega), ?_⟩
      conv => whnf
      rw [Nat.one_mul]
      refine ⟨_, or_nat (a := holdP d m q) (b := 2 ^ q) (by omega) (by omega), ?_⟩
      conv => whnf
      refine ⟨((q + 1 : Nat) : Int), by rw [wrap_eq (by omega) (by omega)]; omega, ?_⟩
      conv => whnf
      exact ⟨d.k - (q + 1), by omega, q + 1, _, by omega, rfl, rfl, ⟨rfl, by rw [sS]; rfl, by rw [sP]; rfl, rfl, rfl, rfl, trivial⟩, rfl, rfl, rfl, rfl⟩
  · rw [hs, if_pos rfl] at sS
    conv => whnf
    refine ⟨by omega, _, shl_nat 1 q (by omega) (by omega), ?_⟩
    conv => whnf
    rw [Nat.one_mul]
    refine ⟨_, or_nat (a := holdS d m q) (b := 2 ^ q) (by omega) (by omega), ?_⟩
    conv => whnf
    refine ⟨_, d2, ?_⟩
    conv => whnf
    refine ⟨_, and_nat (by omega) (by omega), ?_⟩
    conv => whnf
    rw [ne_cast]
    cases hp : (y &&& m != 0)
    · rw [hp, if_neg (by simp)] at sP
      conv => whnf
      refine ⟨((q + 1 : Nat) : Int), by rw [wrap_eq (by omega) (by omega)]; omega, ?_⟩
      conv => whnf
      exact ⟨d.k - (q + 1), by omega, q + 1, _, by omega, rfl, rfl, ⟨rfl, by rw [sS]; rfl, by rw [sP]; rfl, rfl, rfl, rfl, trivial⟩, rfl, rfl, rfl, rfl⟩
    · rw [hp, if_pos rfl] at sP
      conv => whnf
      refine ⟨by omega, _, shl_nat 1 q (by omega) (by omega), ?_⟩
      conv => whnf
      rw [Nat.one_mul]
      refine ⟨_, or_nat (a := holdP d m q) (b := 2 ^ q) (by omega) (by omega), ?_⟩
      conv => whnf
      refine ⟨((q + 1 : Nat) : Int), by rw [wrap_eq (by omega) (by omega)]; omega, ?_⟩
      conv => whnf
      exact ⟨d.k - (q + 1), by omega, q + 1, _, by omega, rfl, rfl, ⟨rfl, by rw [sS]; rfl, by rw [sP]; rfl, rfl, rfl, rfl, trivial⟩, rfl, rfl, rfl, rfl⟩
/-! What the law keeps of truths. -/
theorem joinL_one (b : Bd) : joinL [b] = b := by
  unfold joinL joinB
  simp
theorem joinL_snoc {l : List Bd} (h : l ≠ []) (b : Bd) : joinL (l ++ [b]) = joinB (joinL l) b := by
  cases l with
  | nil => exact absurd rfl h
  | cons a l =>
    show (a :: (l ++ [b])).foldl joinB a = joinB ((a :: l).foldl joinB a) b
    rw [← List.cons_append, List.foldl_append]; rfl
def andI (l : List Nat) : Int := if l = [] then -1 else ((joinL (l.map onB)).s : Nat)
def orI (l : List Nat) : Int := ((joinL (l.map onB)).p : Nat)
theorem and_minus {m : Nat} (h : m < 2 ^ 63) : IntKind.i64.wrap ((BitVec.ofInt 64 (-1) &&& BitVec.ofInt 64 (m : Int)).toNat : Int) = (m : Int) := by
  have e : BitVec.ofInt 64 (-1) = BitVec.allOnes 64 := by decide
  rw [e, BitVec.allOnes_and, ofInt_nat m h]
  exact wrap_nat h
theorem joins_lt {l : List Nat} (hl : ∀ x ∈ l, x < 64) : (joinL (l.map onB)).s < 64 ∧ (joinL (l.map onB)).p < 64 := by
  refine ⟨join_sl (k := 6) fun b hb => ?_, join_pl (k := 6) fun b hb => ?_⟩
  · obtain ⟨y, h1, rfl⟩ := List.mem_map.1 hb; exact hl y h1
  · obtain ⟨y, h1, rfl⟩ := List.mem_map.1 hb; exact hl y h1
theorem andI_snoc {l : List Nat} (hl : ∀ x ∈ l, x < 64) {m : Nat} (hm : m < 64) : IntKind.i64.wrap ((BitVec.ofInt 64 (andI l) &&& BitVec.ofInt 64 (m : Int)).toNat : Int) = andI (l ++ [m]) := by
  by_cases h : l = []
  · subst h
    unfold andI
    rw [if_pos rfl, if_neg (by simp), and_minus (by omega)]
    show (m : Int) = ((joinL [onB m]).s : Nat)
    rw [joinL_one]; rfl
  · have := (joins_lt hl).1
    unfold andI
    rw [if_neg h, if_neg (by simp), and_nat (by omega) (by omega), List.map_append, List.map_cons, List.map_nil, joinL_snoc (by simp [h])]; rfl
theorem orI_snoc {l : List Nat} (hl : ∀ x ∈ l, x < 64) {m : Nat} (hm : m < 64) : IntKind.i64.wrap ((BitVec.ofInt 64 (orI l) ||| BitVec.ofInt 64 (m : Int)).toNat : Int) = orI (l ++ [m]) := by
  have := (joins_lt hl).2
  unfold orI
  rw [or_nat (by omega) (by omega), List.map_append, List.map_cons, List.map_nil]
  by_cases h : l = []
  · subst h
    show (((joinL []).p ||| m : Nat) : Int) = ((joinL [onB m]).p : Nat)
    rw [joinL_one]
    show (((0 ||| m : Nat)) : Int) = (m : Nat)
    simp
  · rw [joinL_snoc (by simp [h])]; rfl
def tidyN (t : Nat) (l : List (Nat × Nat)) : Nat := (l.filter fun y => y.2 &&& t == 0).length
theorem tidy_snoc (t : Nat) (l : List (Nat × Nat)) (m x : Nat) : tidyN t (l ++ [(m, x)]) = if x &&& t == 0 then tidyN t l + 1 else tidyN t l := by
  unfold tidyN
  rw [List.filter_append, List.length_append, List.filter_cons]
  cases x &&& t == 0 <;> simp
structure WS (v : BV) (d : Bn) (l : List (Nat × Nat)) (h : Heap) : Prop where
  b0 : Heap.at h 0 = v.blk d.bu
  b1 : Heap.at h 1 = .blk [.c (I (l.length : Nat))]
  b2 : Heap.at h 2 = .blk [.c (I (tidyN d.top l : Nat))]
  b3 : Heap.at h 3 = .blk [.c (I (andI (l.map (·.1)))), .c (I (orI (l.map (·.1))))]
  b4 : Heap.at h 4 = .blk [.c (I (andI (l.map (·.2)))), .c (I (orI (l.map (·.2))))]
  n : 5 ≤ h.n
theorem WS.up {v : BV} {d : Bn} {l : List (Nat × Nat)} {h h' : Heap} (e : WS v d l h) (hn : h.n ≤ h'.n) (hk : ∀ i, i < 5 → Heap.at h' i = Heap.at h i) : WS v d l h' :=
  ⟨(hk _ (by omega)).trans e.b0, (hk _ (by omega)).trans e.b1, (hk _ (by omega)).trans e.b2, (hk _ (by omega)).trans e.b3, (hk _ (by omega)).trans e.b4, Nat.le_trans e.n hn⟩
def waysF : AV := .func (.func 40) [] [.ptr 1 0, .ptr 3 0, .ptr 4 0, .ptr 0 0, .ptr 2 0]
end Go.Ag
/- Layer 7: what the law BurrWays does with a truth. -/
namespace Go.Ag
open Go.Proofs
set_option maxRecDepth 100000

/-- Six numbers, as the law keeps them. -/
structure W6 (v : BV) (d : Bn) (n t a o p q : Int) (h : Heap) : Prop where
  b0 : Heap.at h 0 = v.blk d.bu
  b1 : Heap.at h 1 = .blk [.c (I n)]
  b2 : Heap.at h 2 = .blk [.c (I t)]
  b3 : Heap.at h 3 = .blk [.c (I a), .c (I o)]
  b4 : Heap.at h 4 = .blk [.c (I p), .c (I q)]
  n : 5 ≤ h.n
set_option maxHeartbeats 2000000 in
theorem ways_six {v : BV} {d : Bn} (ht : d.top < 64) {m x : Nat} (hx : x < 64) {n t a o p q n' t' a' o' p' q' : Int} {h : Heap} (e : W6 v d n t a o p q h)
    (hn : IntKind.i64.wrap (n + 1) = n') (ht' : IntKind.i64.wrap (t + 1) = t') (ha : IntKind.i64.wrap ((BitVec.ofInt 64 a &&& BitVec.ofInt 64 (m : Int)).toNat : Int) = a') (ho : IntKind.i64.wrap ((BitVec.ofInt 64 o ||| BitVec.ofInt 64 (m : Int)).toNat : Int) = o')
    (hp : IntKind.i64.wrap ((BitVec.ofInt 64 p &&& BitVec.ofInt 64 (x : Int)).toNat : Int) = p') (hq : IntKind.i64.wrap ((BitVec.ofInt 64 q ||| BitVec.ofInt 64 (x : Int)).toNat : Int) = q') :
    ∃ ex h', CallOk Tryz.prog 40 [.c (I m), .c (I x), .ptr 1 0, .ptr 3 0, .ptr 4 0, .ptr 0 0, .ptr 2 0] h .no ex h' .no ∧ (ex = .ret (.c (.tuple [])) ∧ W6 v d n' (if x &&& d.top == 0 then t' else t) a' o' p' q' h' ∧ Foot (fun i => i < 5) h h') := by
  have en := e.n
  refine call_then (hm := false) Tryz.func40 rfl ?_
  conv => whnf
  repeat (refine then_seq (hm := false) ?_; conv => whnf)
  refine ⟨_, e.b1, ?_⟩
  conv => whnf
  refine ⟨_, hn, ?_⟩
  conv => whnf
  refine ⟨_, e.b1, ?_⟩
  conv => whnf
  generalize hH : TMap.set AB.dead h _ _ = H1
  have n1 : H1.n = h.n := by rw [← hH, TMap.set_n]
  have k1 : ∀ i, i ≠ 1 → Heap.at H1 i = Heap.at h i := fun i hi => by rw [← hH]; exact at_set_ne _ _ hi
  have s1 : Heap.at H1 1 = .blk [.c (I n')] := by rw [← hH]; exact at_set_self _ _ (by omega)
  clear hH
  repeat (refine then_seq (hm := false) ?_; conv => whnf)
  have q3 := (k1 3 (by omega)).trans e.b3
  refine ⟨⟨by decide, by omega, by omega⟩, ?_⟩
  conv => whnf
  refine ⟨_, q3, ?_⟩
  conv => whnf
  refine ⟨_, ha, ?_⟩
  conv => whnf
  refine ⟨⟨by decide, by omega, by omega⟩, ?_⟩
  conv => whnf
  refine ⟨_, q3, ?_⟩
  conv => whnf
  refine ⟨_, ho, ?_⟩
  conv => whnf
  refine ⟨⟨by decide, by omega, by omega⟩, ?_⟩
  conv => whnf
  refine ⟨_, q3, ?_⟩
  conv => whnf
  refine ⟨⟨by decide, by omega, by omega⟩, ?_⟩
  conv => whnf
  refine ⟨_, at_set_self _ _ (i := 3) (by omega), ?_⟩
  conv => whnf
  generalize hH : TMap.set AB.dead (TMap.set AB.dead H1 _ _) _ _ = H2
  have n2 : H2.n = h.n := by rw [← hH, TMap.set_n, TMap.set_n]; exact n1
  have k2 : ∀ i, i ≠ 3 → Heap.at H2 i = Heap.at H1 i := fun i hi => by rw [← hH]; exact (at_set_ne _ _ hi).trans (at_set_ne _ _ hi)
  have s2 : Heap.at H2 3 = .blk [.c (I a'), .c (I o')] := by rw [← hH]; exact at_set_self _ _ (by rw [TMap.set_n]; omega)
  clear hH
  repeat (refine then_seq (hm := false) ?_; conv => whnf)
  have q4 := (k2 4 (by omega)).trans ((k1 4 (by omega)).trans e.b4)
  refine ⟨⟨by decide, by omega, by omega⟩, ?_⟩
  conv => whnf
  refine ⟨_, q4, ?_⟩
  conv => whnf
  refine ⟨_, hp, ?_⟩
  conv => whnf
  refine ⟨⟨by decide, by omega, by omega⟩, ?_⟩
  conv => whnf
  refine ⟨_, q4, ?_⟩
  conv => whnf
  refine ⟨_, hq, ?_⟩
  conv => whnf
  refine ⟨⟨by decide, by omega, by omega⟩, ?_⟩
  conv => whnf
  refine ⟨_, q4, ?_⟩
  conv => whnf
  refine ⟨⟨by decide, by omega, by omega⟩, ?_⟩
  conv => whnf
  refine ⟨_, at_set_self _ _ (i := 4) (by omega), ?_⟩
  conv => whnf
  generalize hH : TMap.set AB.dead (TMap.set AB.dead H2 _ _) _ _ = H3
  have n3 : H3.n = h.n := by rw [← hH, TMap.set_n, TMap.set_n]; exact n2
  have k3 : ∀ i, i ≠ 4 → Heap.at H3 i = Heap.at H2 i := fun i hi => by rw [← hH]; exact (at_set_ne _ _ hi).trans (at_set_ne _ _ hi)
  have s3 : Heap.at H3 4 = .blk [.c (I p'), .c (I q')] := by rw [← hH]; exact at_set_self _ _ (by rw [TMap.set_n]; omega)
  clear hH
  have p0 := (k3 0 (by omega)).trans ((k2 0 (by omega)).trans ((k1 0 (by omega)).trans e.b0))
  have p1 := (k3 1 (by omega)).trans ((k2 1 (by omega)).trans s1)
  have p2 := (k3 2 (by omega)).trans ((k2 2 (by omega)).trans ((k1 2 (by omega)).trans e.b2))
  have p3 := (k3 3 (by omega)).trans s2
  have F3 : Foot (fun i => i < 5) h H3 := ⟨by omega, fun i hi hw => (k3 i (by omega)).trans ((k2 i (by omega)).trans (k1 i (by omega)))⟩
  repeat (refine then_seq (hm := false) ?_; conv => whnf)
  refine ⟨_, p0, ?_⟩
  conv => whnf
  refine ⟨((x &&& d.top : Nat) : Int), and_nat (a := x) (b := d.top) (by omega) (by omega), ?_⟩
  conv => whnf
  rw [show (((x &&& d.top : Nat) : Int) == 0) = (x &&& d.top == 0) by rw [Bool.eq_iff_iff, beq_iff_eq, beq_iff_eq]; omega]
  cases hc : (x &&& d.top == 0)
  · refine then_end (hm := false) ?_
    conv => whnf
    exact ⟨rfl, ⟨p0, p1, p2, p3, s3, (show 5 ≤ H3.n by omega)⟩, F3⟩
  · refine then_end (hm := false) ?_
    conv => whnf
    refine ⟨_, p2, ?_⟩
    conv => whnf
    refine ⟨_, ht', ?_⟩
    conv => whnf
    refine ⟨_, p2, ?_⟩
    conv => whnf
    exact ⟨rfl, ⟨(at_set_ne _ _ (by omega)).trans p0, (at_set_ne _ _ (by omega)).trans p1, at_set_self _ _ (by omega), (at_set_ne _ _ (by omega)).trans p3, (at_set_ne _ _ (by omega)).trans s3, by rw [TMap.set_n]; omega⟩, Foot.set F3 (.inl (by omega)) _⟩
theorem ways_clos {v : BV} {d : Bn} (hd : d.Good) {l : List (Nat × Nat)} (hl : ∀ y ∈ l, y.1 < 64 ∧ y.2 < 64) (hlen : l.length < 4096) {m x : Nat} (hm : m < 64) (hx : x < 64) {h : Heap} (e : WS v d l h) :
    ∃ ex h', CallOk Tryz.prog 40 [.c (I m), .c (I x), .ptr 1 0, .ptr 3 0, .ptr 4 0, .ptr 0 0, .ptr 2 0] h .no ex h' .no ∧ (ex = .ret (.c (.tuple [])) ∧ WS v d (l ++ [(m, x)]) h' ∧ Foot (fun i => i < 5) h h') := by
  have l1 : ∀ y ∈ l.map (·.1), y < 64 := by intro y hy; obtain ⟨z, h1, rfl⟩ := List.mem_map.1 hy; exact (hl z h1).1
  have l2 : ∀ y ∈ l.map (·.2), y < 64 := by intro y hy; obtain ⟨z, h1, rfl⟩ := List.mem_map.1 hy; exact (hl z h1).2
  have m1 : (l ++ [(m, x)]).map (·.1) = l.map (·.1) ++ [m] := by simp
  have m2 : (l ++ [(m, x)]).map (·.2) = l.map (·.2) ++ [x] := by simp
  have htd := tidy_snoc d.top l m x
  have htl : tidyN d.top l ≤ l.length := by unfold tidyN; exact List.length_filter_le _ _
  have hln : (l ++ [(m, x)]).length = l.length + 1 := by simp
  obtain ⟨ex, h', hc, he, w, F⟩ := ways_six (v := v) (d := d) (top_lt hd) (m := m) hx (h := h) ⟨e.b0, e.b1, e.b2, e.b3, e.b4, e.n⟩ (n' := ((l.length + 1 : Nat) : Int)) (t' := ((tidyN d.top l + 1 : Nat) : Int)) (by rw [wrap_eq (by omega) (by omega)]; omega) (by rw [wrap_eq (by omega) (by omega)]; omega) (andI_snoc l1 hm) (orI_snoc l1 hm) (andI_snoc l2 hx) (orI_snoc l2 hx)
  refine ⟨ex, h', hc, he, ⟨w.b0, by rw [hln]; exact w.b1, ?_, by rw [m1]; exact w.b3, by rw [m2]; exact w.b4, w.n⟩, F⟩
  have := w.b2
  rw [htd]
  cases hz : (x &&& d.top == 0)
  · rw [hz] at this; exact this
  · rw [hz] at this; exact this
end Go.Ag
/- Layer 7: all truths, one by one: the walk. -/
namespace Go.Ag
open Go.Proofs
set_option maxRecDepth 100000

theorem ofM_len {d : Bn} (hd : d.Good) (m : Nat) : (ofM d m).length ≤ 64 := by
  have := pow_b (n := d.k) hd.k6
  unfold ofM
  split
  · rw [List.length_map]
    have := List.length_filter_le (rightB d m) (List.range (2 ^ d.k))
    rw [List.length_range] at this
    omega
  · simp
theorem pre_len {d : Bn} (hd : d.Good) : ∀ q, ((List.range q).flatMap (ofM d)).length ≤ 64 * q
  | 0 => by simp
  | q + 1 => by
    have h1 := pre_len hd q
    have h2 := ofM_len hd q
    rw [List.range_succ, List.flatMap_append, List.length_append]
    simp only [List.flatMap_cons, List.flatMap_nil, List.append_nil]
    omega
theorem pre_mem {d : Bn} (hd : d.Good) {q : Nat} (hq : q ≤ 64) {y : Nat × Nat} (hy : y ∈ (List.range q).flatMap (ofM d)) : y.1 < 64 ∧ y.2 < 64 := by
  have := pow_b (n := d.k) hd.k6
  obtain ⟨m, h1, h2⟩ := List.mem_flatMap.1 hy
  have h1 := List.mem_range.1 h1
  unfold ofM at h2
  split at h2
  · obtain ⟨x, h3, rfl⟩ := List.mem_map.1 h2
    have h3 := List.mem_range.1 (List.mem_filter.1 h3).1
    exact ⟨by show m < 64; omega, by show x < 64; omega⟩
  · cases h2
theorem te_all {d : Bn} {i : Nat} (hi : i < d.tests.length) (b : Bool) (p : Nat × Bool → Bool) : (b && (d.tests.take (i + 1)).all p) = ((b && (d.tests.take i).all p) && p (d.te i)) := by
  rw [List.take_add_one, Bn.te_get hi, List.all_append, Bool.and_assoc]; simp
set_option maxHeartbeats 4000000 in
theorem every_ways {v : BV} {d : Bn} (hv : v.Is d.bu) (hd : d.Good) {h : Heap} (e : WS v d [] h) :
    ∃ ex h', CallOk Tryz.prog 39 [.c (v.cv d.bu), waysF] h .no ex h' .no ∧ (ex = .ret (.c (.tuple [])) ∧ WS v d (truthsL d) h' ∧ Foot (fun i => i < 5) h h') := by
  have e1 := hv.bn; have e3 := hv.tn
  rw [bu_k] at e1
  rw [bu_t] at e3
  have k6 : d.k ≤ 6 := hd.k6
  have hpk := pow_b k6
  have hpn := pow_c hd.n5
  have en := e.n
  have hn5 := hd.n5
  have tn7 := hd.tn
  refine call_then (hm := false) Tryz.func39 rfl ?_
  conv => whnf
  repeat (refine then_seq (hm := false) ?_; conv => whnf)
  generalize hH : TMap.push AB.dead h _ = H
  obtain ⟨N, hN⟩ : ∃ N, N = h.n := ⟨_, rfl⟩
  have Hn : H.n = N + 1 := by rw [← hH, hN]; rfl
  have b0 : Heap.at H N = v.blk d.bu := by rw [← hH, hN]; exact at_push_self _ _
  have eH : WS v d [] H := by rw [← hH]; exact e.up (by rw [push_n]; omega) (fun i hi => at_push_lt _ _ (by omega))
  have FH : Foot (fun i => i < 5) h H := by rw [← hH]; exact (Foot.refl _ _).push _
  clear hH
  rw [← hN]
  refine ⟨_, b0, ?_⟩
  conv => whnf
  refine ⟨Int.natCast_nonneg d.n, _, shl_nat 1 d.n (by omega) (by omega), ?_⟩
  conv => whnf
  rw [Nat.one_mul]
  repeat (first | refine then_seq (hm := false) ?_ | refine then_end (hm := false) ?_) <;> conv => whnf
  refine loop_by (I := fun z st => ∃ (q : Nat) (g : Heap), q ≤ 2 ^ d.n ∧ z = 2 ^ d.n - q ∧ WS v d ((List.range q).flatMap (ofM d)) g ∧ Heap.at g N = v.blk d.bu ∧ N < g.n ∧ Foot (fun i => i < 5) h g ∧
      Has st 82 [(1, waysF), (2, .ptr N 0), (14, .c (I (2 ^ d.n : Nat))), (15, .c (I q))] [] none g) ?_ (k := 2 ^ d.n)
    ⟨0, _, Nat.zero_le _, rfl, eH, b0, by omega, FH, rfl, ⟨rfl, rfl, rfl, rfl, trivial⟩, rfl, rfl, rfl, rfl⟩
  rintro z st ⟨q, g, hq, rfl, eg, gb, gn, Fg, hs1⟩
  refine hs1.run (hm := false) ?_
  conv => whnf
  cases hcq : decide ((q : Int) < ((2 ^ d.n : Nat) : Int))
  case false =>
    have : q = 2 ^ d.n := by have := of_decide_eq_false hcq; omega
    subst this
    conv => whnf
    exact ⟨rfl, eg, Fg⟩
  have hq : q < 2 ^ d.n := by have := of_decide_eq_true hcq; exact_mod_cast this
  have hlq := ofM_len hd q
  have hsucc : (List.range (q + 1)).flatMap (ofM d) = (List.range q).flatMap (ofM d) ++ ofM d q := by
    rw [List.range_succ, List.flatMap_append]; simp
  have hsz : sizeOk d q = (decide ((d.lo : Int) ≤ popB q) && decide ((popB q : Int) ≤ d.hi)) := rfl
  conv => whnf
  refine .ret (lsize_ret (n := q) (by omega)) rfl ?_
  conv => whnf
  refine ⟨_, gb, ?_⟩
  conv => whnf
  cases c1 : decide ((popB q : Int) < (d.lo : Int))
  case true =>
    have hno : sizeOk d q = false := by rw [hsz, decide_eq_false (by have := of_decide_eq_true c1; omega)]; rfl
    have hof : ofM d q = [] := by unfold ofM; rw [hno]; rfl
    rw [hof, List.append_nil] at hsucc
    rw [show decide ((popB q : Int) < d.bu.lo) = true from c1]
    conv => whnf
    refine ⟨((q + 1 : Nat) : Int), by rw [wrap_eq (by omega) (by omega)]; omega, ?_⟩
    conv => whnf
    exact ⟨2 ^ d.n - (q + 1), by omega, q + 1, g, by omega, rfl, by rw [hsucc]; exact eg, gb, gn, Fg, rfl, ⟨rfl, rfl, rfl, rfl, trivial⟩, rfl, rfl, rfl, rfl⟩
  rw [show decide ((popB q : Int) < d.bu.lo) = false from c1]
  conv => whnf
  refine ⟨_, gb, ?_⟩
  conv => whnf
  cases c2 : decide ((popB q : Int) > (d.hi : Int))
  case true =>
    have hno : sizeOk d q = false := by rw [hsz, decide_eq_false (p := (popB q : Int) ≤ d.hi) (by have := of_decide_eq_true c2; omega)]; simp
    have hof : ofM d q = [] := by unfold ofM; rw [hno]; rfl
    rw [hof, List.append_nil] at hsucc
    rw [show decide ((popB q : Int) > d.bu.hi) = true from c2]
    conv => whnf
    refine ⟨((q + 1 : Nat) : Int), by rw [wrap_eq (by omega) (by omega)]; omega, ?_⟩
    conv => whnf
    exact ⟨2 ^ d.n - (q + 1), by omega, q + 1, g, by omega, rfl, by rw [hsucc]; exact eg, gb, gn, Fg, rfl, ⟨rfl, rfl, rfl, rfl, trivial⟩, rfl, rfl, rfl, rfl⟩
  have hyes : sizeOk d q = true := by rw [hsz, decide_eq_true (by have := of_decide_eq_false c1; omega), decide_eq_true (by have := of_decide_eq_false c2; omega)]; rfl
  have hof : ofM d q = ((List.range (2 ^ d.k)).filter (rightB d q)).map fun x => (q, x) := by unfold ofM; rw [hyes]; rfl
  rw [hof] at hsucc
  rw [show decide ((popB q : Int) > d.bu.hi) = false from c2]
  have hL := hold_Lt hd q
  have hS := hL.s; have hP := hL.p
  have hpre := pre_len hd q
  conv => whnf
  refine ⟨_, gb, ?_⟩
  conv => whnf
  refine .ret (holds_ret hv hd (m := q) (by omega)) rfl ?_
  conv => whnf
  refine ⟨_, gb, ?_⟩
  conv => whnf
  refine ⟨Int.natCast_nonneg v.bn, _, shl_nat 1 v.bn (by omega) (by rw [e1]; omega), ?_⟩
  conv => whnf
  rw [Nat.one_mul, e1]
  refine loop_by (I := fun z st => ∃ (j : Nat) (g : Heap), j ≤ 2 ^ d.k ∧ z = 2 ^ d.k - j ∧ WS v d ((List.range q).flatMap (ofM d) ++ ((List.range j).filter (rightB d q)).map fun x => (q, x)) g ∧ Heap.at g N = v.blk d.bu ∧ N < g.n ∧ Foot (fun i => i < 5) h g ∧
      Has st 82 [(1, waysF), (2, .ptr N 0), (4, .c (I q)), (6, .c (I (hold d q).s)), (7, .c (I (hold d q).p)), (14, .c (I (2 ^ d.n : Nat))), (15, .c (I q)), (41, .c (I (2 ^ d.k : Nat))), (42, .c (I j))] [] none g) ?_ (k := 2 ^ d.k)
    ⟨0, _, Nat.zero_le _, rfl, by simpa using eg, gb, gn, Fg, rfl, ⟨rfl, rfl, rfl, rfl, rfl, rfl, rfl, rfl, rfl, trivial⟩, rfl, rfl, rfl, rfl⟩
  clear eg gb gn Fg
  rintro z st ⟨j, g, hj, rfl, eg, gb, gn, Fg, hs1⟩
  refine hs1.run (hm := false) ?_
  conv => whnf
  cases hcj : decide ((j : Int) < ((2 ^ d.k : Nat) : Int))
  case false =>
    have : j = 2 ^ d.k := by have := of_decide_eq_false hcj; omega
    subst this
    conv => whnf
    refine ⟨((q + 1 : Nat) : Int), by rw [wrap_eq (by omega) (by omega)]; omega, ?_⟩
    conv => whnf
    exact ⟨2 ^ d.n - (q + 1), by omega, q + 1, g, by omega, rfl, by rw [hsucc]; exact eg, gb, gn, Fg, rfl, ⟨rfl, rfl, rfl, rfl, trivial⟩, rfl, rfl, rfl, rfl⟩
  have hj : j < 2 ^ d.k := by have := of_decide_eq_true hcj; exact_mod_cast this
  have hsj : ((List.range (j + 1)).filter (rightB d q)).map (fun x => (q, x)) = ((List.range j).filter (rightB d q)).map (fun x => (q, x)) ++ (if rightB d q j then [(q, j)] else []) := by
    rw [List.range_succ, List.filter_append, List.map_append]
    congr 1
    cases hr : rightB d q j <;> simp [hr]
  have hlj : ((List.range q).flatMap (ofM d) ++ ((List.range j).filter (rightB d q)).map fun x => (q, x)).length < 4096 := by
    rw [List.length_append, List.length_map]
    have := List.length_filter_le (rightB d q) (List.range j)
    rw [List.length_range] at this
    omega
  have hmj : ∀ y ∈ (List.range q).flatMap (ofM d) ++ ((List.range j).filter (rightB d q)).map (fun x => (q, x)), y.1 < 64 ∧ y.2 < 64 := by
    intro y hy
    rcases List.mem_append.1 hy with hy | hy
    · exact pre_mem hd (by omega) hy
    · obtain ⟨x, hx, rfl⟩ := List.mem_map.1 hy
      have := List.mem_range.1 (List.mem_filter.1 hx).1
      exact ⟨by show q < 64; omega, by show x < 64; omega⟩
  have hrb : rightB d q j = ((diffN (hold d q).s j == 0 && diffN j (hold d q).p == 0) && d.tests.all fun t => j.testBit t.1 == t.2) := rfl
  have z1 : (((diffN (hold d q).s j : Nat) : Int) == 0) = (diffN (hold d q).s j == 0) := by rw [Bool.eq_iff_iff, beq_iff_eq, beq_iff_eq]; omega
  have z2 : (((diffN j (hold d q).p : Nat) : Int) == 0) = (diffN j (hold d q).p == 0) := by rw [Bool.eq_iff_iff, beq_iff_eq, beq_iff_eq]; omega
  conv => whnf
  refine ⟨_, andNot_nat (by omega) (by omega), ?_⟩
  conv => whnf
  rw [z1]
  cases g1 : (diffN (hold d q).s j == 0)
  · rw [g1, Bool.false_and] at hrb
    conv => whnf
    refine ⟨_, gb, ?_⟩
    conv => whnf
    refine loop_by (I := fun z st => ∃ (i : Nat) (g : Heap) (c0 : Bool), i ≤ d.tests.length ∧ z = d.tests.length - i ∧ c0 = (false && (d.tests.take i).all fun t => j.testBit t.1 == t.2) ∧ WS v d ((List.range q).flatMap (ofM d) ++ ((List.range j).filter (rightB d q)).map fun x => (q, x)) g ∧ Heap.at g N = v.blk d.bu ∧ N < g.n ∧ Foot (fun i => i < 5) h g ∧
        Has st 82 [(1, waysF), (2, .ptr N 0), (4, .c (I q)), (6, .c (I (hold d q).s)), (7, .c (I (hold d q).p)), (8, .c (I j)), (9, .c (B c0)), (14, .c (I (2 ^ d.n : Nat))), (15, .c (I q)), (41, .c (I (2 ^ d.k : Nat))), (42, .c (I j)), (56, .c (.sl v.tc v.ot v.tn)), (57, .c (I v.tn)), (58, .c (I i))] [] none g) ?_ (k := d.tests.length)
      ⟨0, _, false, Nat.zero_le _, rfl, by simp, eg, gb, gn, Fg, rfl, ⟨rfl, rfl, rfl, rfl, rfl, rfl, rfl, rfl, rfl, rfl, rfl, rfl, rfl, rfl, trivial⟩, rfl, rfl, rfl, rfl⟩
    clear eg gb gn Fg
    rintro z st ⟨i, g, c0, hi, rfl, hc0, eg, gb, gn, Fg, hs2⟩
    refine hs2.run (hm := false) ?_
    conv => whnf
    cases hci : decide ((i : Int) < (v.tn : Int))
    case false =>
      have : i = d.tests.length := by simp at hci; omega
      subst this
      rw [List.take_length, ← hrb] at hc0
      rw [← hc0] at hsj
      cases c0
      · rw [if_neg (by simp), List.append_nil] at hsj
        conv => whnf
        refine ⟨((j + 1 : Nat) : Int), by rw [wrap_eq (by omega) (by omega)]; omega, ?_⟩
        conv => whnf
        exact ⟨2 ^ d.k - (j + 1), by omega, j + 1, g, by omega, rfl, by rw [hsj]; exact eg, gb, gn, Fg, rfl, ⟨rfl, rfl, rfl, rfl, rfl, rfl, rfl, rfl, rfl, trivial⟩, rfl, rfl, rfl, rfl⟩
      · rw [if_pos rfl] at hsj
        have egn := eg.n
        obtain ⟨ex, h2, hc2, rfl, e2, f2⟩ := ways_clos hd hmj hlj (m := q) (x := j) (by omega) (by omega) eg
        conv => whnf
        refine .inl _ h2 .no hc2 ?_
        conv => whnf
        refine ⟨((j + 1 : Nat) : Int), by rw [wrap_eq (by omega) (by omega)]; omega, ?_⟩
        conv => whnf
        have fn := f2.n
        exact ⟨2 ^ d.k - (j + 1), by omega, j + 1, h2, by omega, rfl, by rw [hsj, ← List.append_assoc]; exact e2, (f2.keep N gn (by omega)).trans gb, by omega, Fg.trans f2, rfl, ⟨rfl, rfl, rfl, rfl, rfl, rfl, rfl, rfl, rfl, trivial⟩, rfl, rfl, rfl, rfl⟩
    have hi : i < d.tests.length := by simp at hci; omega
    have hte := te_all hi false fun t : Nat × Bool => j.testBit t.1 == t.2
    rw [← hc0] at hte
    have ht6 : (d.te i).1 < 6 := by have := hd.ts _ (te_mem hi); have : d.bales.length ≤ 6 := k6; omega
    have egn := eg.n
    conv => whnf
    refine ⟨⟨by omega, by omega⟩, ?_⟩
    conv => whnf
    refine ⟨_, hv.test (bu_test hi), ?_⟩
    conv => whnf
    refine ⟨_, at_push_self _ _, ?_⟩
    conv => whnf
    generalize hG : TMap.set AB.dead (TMap.push AB.dead g _) _ _ = G
    have Gn : G.n = g.n + 1 := by rw [← hG]; exact new_n _ _ _
    have Ga : ∀ i, i < g.n → Heap.at G i = Heap.at g i := fun i hi => by rw [← hG]; exact at_old _ _ _ hi
    have Gt : Heap.at G g.n = .blk [.c (I (d.te i).1), .c (B (d.te i).2)] := by rw [← hG]; exact at_new _ _ _
    have FG : Foot (fun i => i < 5) h G := by rw [← hG]; exact Fg.trans ((footNew _ _ _).mono fun i _ hi => hi.elim)
    clear hG
    have eG := eg.up (h' := G) (by omega) (fun i hi => Ga i (by omega))
    cases c0
    · rw [Bool.false_and] at hte
      conv => whnf
      refine draw_by (hm := false) (by kernel_rfl) (by kernel_rfl) ?_
      conv => whnf
      refine ⟨by kernel_rfl, ?_⟩
      conv => whnf
      refine ⟨((i + 1 : Nat) : Int), by rw [wrap_eq (by omega) (by omega)]; omega, ?_⟩
      conv => whnf
      exact ⟨d.tests.length - (i + 1), by omega, i + 1, G, false, by omega, rfl, hte.symm, eG, (Ga N gn).trans gb, by omega, FG, rfl, ⟨rfl, rfl, rfl, rfl, rfl, rfl, rfl, rfl, rfl, rfl, rfl, rfl, rfl, rfl, trivial⟩, rfl, rfl, rfl, rfl⟩
    · rw [Bool.true_and] at hte
      conv => whnf
      refine draw_by (hm := false) (by kernel_rfl) (by kernel_rfl) ?_
      conv => whnf
      refine ⟨_, Gt, ?_⟩
      conv => whnf
      refine ⟨by omega, _, shr_nat j (d.te i).1 (by omega), ?_⟩
      conv => whnf
      refine ⟨_, and_nat (b := 1) (Nat.lt_of_le_of_lt (Nat.shiftRight_le j (d.te i).1) (by omega)) (by omega), ?_⟩
      conv => whnf
      rw [bit_nat]
      refine ⟨_, Gt, ?_⟩
      conv => whnf
      refine ⟨by kernel_rfl, ?_⟩
      conv => whnf
      refine ⟨((i + 1 : Nat) : Int), by rw [wrap_eq (by omega) (by omega)]; omega, ?_⟩
      conv => whnf
      exact ⟨d.tests.length - (i + 1), by omega, i + 1, G, _, by omega, rfl, hte.symm, eG, (Ga N gn).trans gb, by omega, FG, rfl, ⟨rfl, rfl, rfl, rfl, rfl, rfl, rfl, rfl, rfl, rfl, rfl, rfl, rfl, rfl, trivial⟩, rfl, rfl, rfl, rfl⟩
  conv => whnf
  refine ⟨_, andNot_nat (by omega) (by omega), ?_⟩
  conv => whnf
  rw [z2]
  cases g2 : (diffN j (hold d q).p == 0)
  · rw [g1, g2, Bool.and_false] at hrb
    conv => whnf
    refine ⟨_, gb, ?_⟩
    conv => whnf
    refine loop_by (I := fun z st => ∃ (i : Nat) (g : Heap) (c0 : Bool), i ≤ d.tests.length ∧ z = d.tests.length - i ∧ c0 = (false && (d.tests.take i).all fun t => j.testBit t.1 == t.2) ∧ WS v d ((List.range q).flatMap (ofM d) ++ ((List.range j).filter (rightB d q)).map fun x => (q, x)) g ∧ Heap.at g N = v.blk d.bu ∧ N < g.n ∧ Foot (fun i => i < 5) h g ∧
        Has st 82 [(1, waysF), (2, .ptr N 0), (4, .c (I q)), (6, .c (I (hold d q).s)), (7, .c (I (hold d q).p)), (8, .c (I j)), (9, .c (B c0)), (14, .c (I (2 ^ d.n : Nat))), (15, .c (I q)), (41, .c (I (2 ^ d.k : Nat))), (42, .c (I j)), (56, .c (.sl v.tc v.ot v.tn)), (57, .c (I v.tn)), (58, .c (I i))] [] none g) ?_ (k := d.tests.length)
      ⟨0, _, false, Nat.zero_le _, rfl, by simp, eg, gb, gn, Fg, rfl, ⟨rfl, rfl, rfl, rfl, rfl, rfl, rfl, rfl, rfl, rfl, rfl, rfl, rfl, rfl, trivial⟩, rfl, rfl, rfl, rfl⟩
    clear eg gb gn Fg
    rintro z st ⟨i, g, c0, hi, rfl, hc0, eg, gb, gn, Fg, hs2⟩
    refine hs2.run (hm := false) ?_
    conv => whnf
    cases hci : decide ((i : Int) < (v.tn : Int))
    case false =>
      have : i = d.tests.length := by simp at hci; omega
      subst this
      rw [List.take_length, ← hrb] at hc0
      rw [← hc0] at hsj
      cases c0
      · rw [if_neg (by simp), List.append_nil] at hsj
        conv => whnf
        refine ⟨((j + 1 : Nat) : Int), by rw [wrap_eq (by omega) (by omega)]; omega, ?_⟩
        conv => whnf
        exact ⟨2 ^ d.k - (j + 1), by omega, j + 1, g, by omega, rfl, by rw [hsj]; exact eg, gb, gn, Fg, rfl, ⟨rfl, rfl, rfl, rfl, rfl, rfl, rfl, rfl, rfl, trivial⟩, rfl, rfl, rfl, rfl⟩
      · rw [if_pos rfl] at hsj
        have egn := eg.n
        obtain ⟨ex, h2, hc2, rfl, e2, f2⟩ := ways_clos hd hmj hlj (m := q) (x := j) (by omega) (by omega) eg
        conv => whnf
        refine .inl _ h2 .no hc2 ?_
        conv => whnf
        refine ⟨((j + 1 : Nat) : Int), by rw [wrap_eq (by omega) (by omega)]; omega, ?_⟩
        conv => whnf
        have fn := f2.n
        exact ⟨2 ^ d.k - (j + 1), by omega, j + 1, h2, by omega, rfl, by rw [hsj, ← List.append_assoc]; exact e2, (f2.keep N gn (by omega)).trans gb, by omega, Fg.trans f2, rfl, ⟨rfl, rfl, rfl, rfl, rfl, rfl, rfl, rfl, rfl, trivial⟩, rfl, rfl, rfl, rfl⟩
    have hi : i < d.tests.length := by simp at hci; omega
    have hte := te_all hi false fun t : Nat × Bool => j.testBit t.1 == t.2
    rw [← hc0] at hte
    have ht6 : (d.te i).1 < 6 := by have := hd.ts _ (te_mem hi); have : d.bales.length ≤ 6 := k6; omega
    have egn := eg.n
    conv => whnf
    refine ⟨⟨by omega, by omega⟩, ?_⟩
    conv => whnf
    refine ⟨_, hv.test (bu_test hi), ?_⟩
    conv => whnf
    refine ⟨_, at_push_self _ _, ?_⟩
    conv => whnf
    generalize hG : TMap.set AB.dead (TMap.push AB.dead g _) _ _ = G
    have Gn : G.n = g.n + 1 := by rw [← hG]; exact new_n _ _ _
    have Ga : ∀ i, i < g.n → Heap.at G i = Heap.at g i := fun i hi => by rw [← hG]; exact at_old _ _ _ hi
    have Gt : Heap.at G g.n = .blk [.c (I (d.te i).1), .c (B (d.te i).2)] := by rw [← hG]; exact at_new _ _ _
    have FG : Foot (fun i => i < 5) h G := by rw [← hG]; exact Fg.trans ((footNew _ _ _).mono fun i _ hi => hi.elim)
    clear hG
    have eG := eg.up (h' := G) (by omega) (fun i hi => Ga i (by omega))
    cases c0
    · rw [Bool.false_and] at hte
      conv => whnf
      refine draw_by (hm := false) (by kernel_rfl) (by kernel_rfl) ?_
      conv => whnf
      refine ⟨by kernel_rfl, ?_⟩
      conv => whnf
      refine ⟨((i + 1 : Nat) : Int), by rw [wrap_eq (by omega) (by omega)]; omega, ?_⟩
      conv => whnf
      exact ⟨d.tests.length - (i + 1), by omega, i + 1, G, false, by omega, rfl, hte.symm, eG, (Ga N gn).trans gb, by omega, FG, rfl, ⟨rfl, rfl, rfl, rfl, rfl, rfl, rfl, rfl, rfl, rfl, rfl, rfl, rfl, rfl, trivial⟩, rfl, rfl, rfl, rfl⟩
    · rw [Bool.true_and] at hte
      conv => whnf
      refine draw_by (hm := false) (by kernel_rfl) (by kernel_rfl) ?_
      conv => whnf
      refine ⟨_, Gt, ?_⟩
      conv => whnf
      refine ⟨by omega, _, shr_nat j (d.te i).1 (by omega), ?_⟩
      conv => whnf
      refine ⟨_, and_nat (b := 1) (Nat.lt_of_le_of_lt (Nat.shiftRight_le j (d.te i).1) (by omega)) (by omega), ?_⟩
      conv => whnf
      rw [bit_nat]
      refine ⟨_, Gt, ?_⟩
      conv => whnf
      refine ⟨by kernel_rfl, ?_⟩
      conv => whnf
      refine ⟨((i + 1 : Nat) : Int), by rw [wrap_eq (by omega) (by omega)]; omega, ?_⟩
      conv => whnf
      exact ⟨d.tests.length - (i + 1), by omega, i + 1, G, _, by omega, rfl, hte.symm, eG, (Ga N gn).trans gb, by omega, FG, rfl, ⟨rfl, rfl, rfl, rfl, rfl, rfl, rfl, rfl, rfl, rfl, rfl, rfl, rfl, rfl, trivial⟩, rfl, rfl, rfl, rfl⟩
  rw [g1, g2, Bool.and_true] at hrb
  conv => whnf
  refine ⟨_, gb, ?_⟩
  conv => whnf
  refine loop_by (I := fun z st => ∃ (i : Nat) (g : Heap) (c0 : Bool), i ≤ d.tests.length ∧ z = d.tests.length - i ∧ c0 = (true && (d.tests.take i).all fun t => j.testBit t.1 == t.2) ∧ WS v d ((List.range q).flatMap (ofM d) ++ ((List.range j).filter (rightB d q)).map fun x => (q, x)) g ∧ Heap.at g N = v.blk d.bu ∧ N < g.n ∧ Foot (fun i => i < 5) h g ∧
      Has st 82 [(1, waysF), (2, .ptr N 0), (4, .c (I q)), (6, .c (I (hold d q).s)), (7, .c (I (hold d q).p)), (8, .c (I j)), (9, .c (B c0)), (14, .c (I (2 ^ d.n : Nat))), (15, .c (I q)), (41, .c (I (2 ^ d.k : Nat))), (42, .c (I j)), (56, .c (.sl v.tc v.ot v.tn)), (57, .c (I v.tn)), (58, .c (I i))] [] none g) ?_ (k := d.tests.length)
    ⟨0, _, true, Nat.zero_le _, rfl, by simp, eg, gb, gn, Fg, rfl, ⟨rfl, rfl, rfl, rfl, rfl, rfl, rfl, rfl, rfl, rfl, rfl, rfl, rfl, rfl, trivial⟩, rfl, rfl, rfl, rfl⟩
  clear eg gb gn Fg
  rintro z st ⟨i, g, c0, hi, rfl, hc0, eg, gb, gn, Fg, hs2⟩
  refine hs2.run (hm := false) ?_
  conv => whnf
  cases hci : decide ((i : Int) < (v.tn : Int))
  case false =>
    have : i = d.tests.length := by simp at hci; omega
    subst this
    rw [List.take_length, ← hrb] at hc0
    rw [← hc0] at hsj
    cases c0
    · rw [if_neg (by simp), List.append_nil] at hsj
      conv => whnf
      refine ⟨((j + 1 : Nat) : Int), by rw [wrap_eq (by omega) (by omega)]; omega, ?_⟩
      conv => whnf
      exact ⟨2 ^ d.k - (j + 1), by omega, j + 1, g, by omega, rfl, by rw [hsj]; exact eg, gb, gn, Fg, rfl, ⟨rfl, rfl, rfl, rfl, rfl, rfl, rfl, rfl, rfl, trivial⟩, rfl, rfl, rfl, rfl⟩
    · rw [if_pos rfl] at hsj
      have egn := eg.n
      obtain ⟨ex, h2, hc2, rfl, e2, f2⟩ := ways_clos hd hmj hlj (m := q) (x := j) (by omega) (by omega) eg
      conv => whnf
      refine .inl _ h2 .no hc2 ?_
      conv => whnf
      refine ⟨((j + 1 : Nat) : Int), by rw [wrap_eq (by omega) (by omega)]; omega, ?_⟩
      conv => whnf
      have fn := f2.n
      exact ⟨2 ^ d.k - (j + 1), by omega, j + 1, h2, by omega, rfl, by rw [hsj, ← List.append_assoc]; exact e2, (f2.keep N gn (by omega)).trans gb, by omega, Fg.trans f2, rfl, ⟨rfl, rfl, rfl, rfl, rfl, rfl, rfl, rfl, rfl, trivial⟩, rfl, rfl, rfl, rfl⟩
  have hi : i < d.tests.length := by simp at hci; omega
  have hte := te_all hi true fun t : Nat × Bool => j.testBit t.1 == t.2
  rw [← hc0] at hte
  have ht6 : (d.te i).1 < 6 := by have := hd.ts _ (te_mem hi); have : d.bales.length ≤ 6 := k6; omega
  have egn := eg.n
  conv => whnf
  refine ⟨⟨by omega, by omega⟩, ?_⟩
  conv => whnf
  refine ⟨_, hv.test (bu_test hi), ?_⟩
  conv => whnf
  refine ⟨_, at_push_self _ _, ?_⟩
  conv => whnf
  generalize hG : TMap.set AB.dead (TMap.push AB.dead g _) _ _ = G
  have Gn : G.n = g.n + 1 := by rw [← hG]; exact new_n _ _ _
  have Ga : ∀ i, i < g.n → Heap.at G i = Heap.at g i := fun i hi => by rw [← hG]; exact at_old _ _ _ hi
  have Gt : Heap.at G g.n = .blk [.c (I (d.te i).1), .c (B (d.te i).2)] := by rw [← hG]; exact at_new _ _ _
  have FG : Foot (fun i => i < 5) h G := by rw [← hG]; exact Fg.trans ((footNew _ _ _).mono fun i _ hi => hi.elim)
  clear hG
  have eG := eg.up (h' := G) (by omega) (fun i hi => Ga i (by omega))
  cases c0
  · rw [Bool.false_and] at hte
    conv => whnf
    refine draw_by (hm := false) (by kernel_rfl) (by kernel_rfl) ?_
    conv => whnf
    refine ⟨by kernel_rfl, ?_⟩
    conv => whnf
    refine ⟨((i + 1 : Nat) : Int), by rw [wrap_eq (by omega) (by omega)]; omega, ?_⟩
    conv => whnf
    exact ⟨d.tests.length - (i + 1), by omega, i + 1, G, false, by omega, rfl, hte.symm, eG, (Ga N gn).trans gb, by omega, FG, rfl, ⟨rfl, rfl, rfl, rfl, rfl, rfl, rfl, rfl, rfl, rfl, rfl, rfl, rfl, rfl, trivial⟩, rfl, rfl, rfl, rfl⟩
  · rw [Bool.true_and] at hte
    conv => whnf
    refine draw_by (hm := false) (by kernel_rfl) (by kernel_rfl) ?_
    conv => whnf
    refine ⟨_, Gt, ?_⟩
    conv => whnf
    refine ⟨by omega, _, shr_nat j (d.te i).1 (by omega), ?_⟩
    conv => whnf
    refine ⟨_, and_nat (b := 1) (Nat.lt_of_le_of_lt (Nat.shiftRight_le j (d.te i).1) (by omega)) (by omega), ?_⟩
    conv => whnf
    rw [bit_nat]
    refine ⟨_, Gt, ?_⟩
    conv => whnf
    refine ⟨by kernel_rfl, ?_⟩
    conv => whnf
    refine ⟨((i + 1 : Nat) : Int), by rw [wrap_eq (by omega) (by omega)]; omega, ?_⟩
    conv => whnf
    exact ⟨d.tests.length - (i + 1), by omega, i + 1, G, _, by omega, rfl, hte.symm, eG, (Ga N gn).trans gb, by omega, FG, rfl, ⟨rfl, rfl, rfl, rfl, rfl, rfl, rfl, rfl, rfl, rfl, rfl, rfl, rfl, rfl, trivial⟩, rfl, rfl, rfl, rfl⟩
end Go.Ag
/- Layer 7: values that are compared. -/
namespace Go.Ag
open Go.Proofs
set_option maxRecDepth 100000

theorem pureRun_ite {α : Type} (P : Program) (c : Prop) [Decidable c] (x y : Sem α) : pureRun P (if c then x else y) = if c then pureRun P x else pureRun P y := by split <;> rfl
theorem pp0 : pureRun Tryz.prog program = some Tryz.prog := by kernel_rfl
theorem eq_intT {t : TypeId} (hu : pureRun Tryz.prog (underlying t) = some (.int .i64)) (d : Nat) (a b : Int) : pureRun Tryz.prog (Op.equalIn (d + 1) t (.int .i64 a) (.int .i64 b)) = some (a == b) := by
  unfold Op.equalIn
  rw [pureRun_bind, hu]
  simp
  rfl
theorem eq_boolT {t : TypeId} (hu : pureRun Tryz.prog (underlying t) = some .bool) (d : Nat) (a b : Bool) : pureRun Tryz.prog (Op.equalIn (d + 1) t (.bool a) (.bool b)) = some (a == b) := by
  unfold Op.equalIn
  rw [pureRun_bind, hu]
  simp
  rfl
theorem partT {t : TypeId} (ha : pureRun Tryz.prog (isAgg t) = some false) (v : Array Value) (i : Nat) (x : Value) (h : v[i]? = some x) : pureRun Tryz.prog (part t v i) = some x := by
  unfold part
  rw [pureRun_bind, ha]
  simp only [Option.bind_some, Bool.false_eq_true, if_false, h]
  rfl
theorem u3 : pureRun Tryz.prog (underlying 3) = some (.int .i64) := by kernel_rfl
theorem u4 : pureRun Tryz.prog (underlying 4) = some .bool := by kernel_rfl
theorem ag3 : pureRun Tryz.prog (isAgg 3) = some false := by kernel_rfl
theorem ag4 : pureRun Tryz.prog (isAgg 4) = some false := by kernel_rfl
theorem sz3 : pureRun Tryz.prog (sizeOf 3) = some 1 := by kernel_rfl
theorem eg4 : Tryz.prog.eqGuardType Tryz.prog.depth 4 = false := by kernel_rfl
theorem eq_bool (a b : Bool) : pureRun Tryz.prog (Op.equal 4 (.bool a) (.bool b)) = some (a == b) := by
  cases a <;> cases b <;> kernel_rfl
theorem bool_neq {o : Oper} {x y : Operand} {t2 : TypeId} {σ : Operand → AV} {a b : Bool} (ho : o.op = .binOp .neq 4 x y t2) (hx : σ x = .c (B a)) (hy : σ y = .c (B b)) (rd : Nat → AB) (n : Nat) :
    aop Tryz.prog o σ rd n = some (.simple { val := .c (B (a != b)) }) := by
  have vx : (σ x).toVal = some (.bool a) := by rw [hx]; rfl
  have vy : (σ y).toVal = some (.bool b) := by rw [hy]; rfl
  unfold aop
  rw [ho]
  simp only [abinOp, vx, vy, litBin]
  unfold pureOp
  have hv : (allVals σ o.op.operands.toList && notSelect o.op) = true := by
    rw [ho]; simp [Op.operands, allVals, vx, vy, notSelect]
  rw [if_pos hv]
  have hr : pureRun Tryz.prog (execOp (fun x => ((σ x).toVal).getD Go.undef) o) = some (.value (.bool (a != b))) := by
    unfold execOp
    rw [ho]
    simp only [vx, vy, Option.getD_some, eqGuard, binOp, pureRun_bind, pureRun_ite]
    simp [eq_bool, pureRun_pure, bne]
  rw [hr]
  rfl
theorem u45 : pureRun Tryz.prog (underlying 45) = some (.array 2 3) := by kernel_rfl
theorem eg45 : Tryz.prog.eqGuardType Tryz.prog.depth 45 = false := by kernel_rfl
theorem eq_two (a b a' b' : Int) : pureRun Tryz.prog (Op.equal 45 (.agg #[.int .i64 a, .int .i64 b]) (.agg #[.int .i64 a', .int .i64 b'])) = some (decide (a = a') && decide (b = b')) := by
  show pureRun Tryz.prog (Op.equalIn (9998 + 1 + 1) 45 _ _) = _
  rw [Op.equalIn.eq_def]
  simp only [pureRun_bind, u45, Option.bind_some, sz3, pureRun_ite, Bool.false_eq_true, if_false]
  rw [show ([0:2] : Std.Legacy.Range) = ⟨0, 2, 1, by decide⟩ from rfl]
  simp [pureRun_bind, pureRun_ite, partT ag3, eq_intT u3, pureRun_pure, Std.Legacy.Range.forIn_eq_forIn_range', Std.Legacy.Range.size, List.range']
  by_cases h1 : a = a'
  · by_cases h2 : b = b'
    · simp [pureRun_bind, pureRun_ite, partT ag3, eq_intT u3, pureRun_pure, h1, h2]
    · simp [pureRun_bind, pureRun_ite, partT ag3, eq_intT u3, pureRun_pure, h1, h2]
  · simp [pureRun_pure, h1]
theorem two_eql {o : Oper} {x y : Operand} {t2 : TypeId} {σ : Operand → AV} {a b c e : Int} (ho : o.op = .binOp .eql 45 x y t2) (hx : σ x = .c (.agg [I a, I b])) (hy : σ y = .c (.agg [I c, I e])) (rd : Nat → AB) (n : Nat) :
    aop Tryz.prog o σ rd n = some (.simple { val := .c (B (decide (a = c) && decide (b = e))) }) := by
  have vx : (σ x).toVal = some (.agg #[.int .i64 a, .int .i64 b]) := by rw [hx]; rfl
  have vy : (σ y).toVal = some (.agg #[.int .i64 c, .int .i64 e]) := by rw [hy]; rfl
  unfold aop
  rw [ho]
  simp only [abinOp, vx, vy, litBin]
  unfold pureOp
  have hv : (allVals σ o.op.operands.toList && notSelect o.op) = true := by
    rw [ho]; simp [Op.operands, allVals, vx, vy, notSelect]
  rw [if_pos hv]
  have hr : pureRun Tryz.prog (execOp (fun x => ((σ x).toVal).getD Go.undef) o) = some (.value (.bool (decide (a = c) && decide (b = e)))) := by
    unfold execOp
    rw [ho]
    simp only [vx, vy, Option.getD_some, eqGuard, binOp, pureRun_bind, pp0, Option.bind_some, pureRun_ite, eg45]
    simp [eq_two, pureRun_pure]
  rw [hr]
  rfl
theorem u55 : pureRun Tryz.prog (underlying 55) = some (.struct #[⟨"Surely", 3, 0, false, "", "", 0⟩, ⟨"Perhaps", 3, 1, false, "", "", 8⟩]) := by kernel_rfl
theorem st55 : Tryz.prog.stoodInHeld 55 = false := by kernel_rfl
theorem eg55 : Tryz.prog.eqGuardType Tryz.prog.depth 55 = false := by kernel_rfl
theorem eq_bale (a b a' b' : Int) : pureRun Tryz.prog (Op.equal 55 (.agg #[.int .i64 a, .int .i64 b]) (.agg #[.int .i64 a', .int .i64 b'])) = some (decide (a = a') && decide (b = b')) := by
  show pureRun Tryz.prog (Op.equalIn (9998 + 1 + 1) 55 _ _) = _
  rw [Op.equalIn.eq_def]
  simp only [pureRun_bind, u55, Option.bind_some, pp0, pureRun_ite, st55, Bool.false_eq_true, if_false]
  simp [pureRun_bind, pureRun_ite, partT ag3, eq_intT u3, pureRun_pure]
  by_cases h1 : a = a'
  · by_cases h2 : b = b'
    · simp [pureRun_bind, pureRun_ite, partT ag3, eq_intT u3, pureRun_pure, h1, h2]
    · simp [pureRun_bind, pureRun_ite, partT ag3, eq_intT u3, pureRun_pure, h1, h2]
  · simp [pureRun_pure, h1]
theorem bale_neq {o : Oper} {x y : Operand} {t2 : TypeId} {σ : Operand → AV} {a b c e : Int} (ho : o.op = .binOp .neq 55 x y t2) (hx : σ x = .c (.agg [I a, I b])) (hy : σ y = .c (.agg [I c, I e])) (rd : Nat → AB) (n : Nat) :
    aop Tryz.prog o σ rd n = some (.simple { val := .c (B (!(decide (a = c) && decide (b = e)))) }) := by
  have vx : (σ x).toVal = some (.agg #[.int .i64 a, .int .i64 b]) := by rw [hx]; rfl
  have vy : (σ y).toVal = some (.agg #[.int .i64 c, .int .i64 e]) := by rw [hy]; rfl
  unfold aop
  rw [ho]
  simp only [abinOp, vx, vy, litBin]
  unfold pureOp
  have hv : (allVals σ o.op.operands.toList && notSelect o.op) = true := by
    rw [ho]; simp [Op.operands, allVals, vx, vy, notSelect]
  rw [if_pos hv]
  have hr : pureRun Tryz.prog (execOp (fun x => ((σ x).toVal).getD Go.undef) o) = some (.value (.bool (!(decide (a = c) && decide (b = e))))) := by
    unfold execOp
    rw [ho]
    simp only [vx, vy, Option.getD_some, eqGuard, binOp, pureRun_bind, pp0, Option.bind_some, pureRun_ite, eg55]
    simp [eq_bale, pureRun_pure]
  rw [hr]
  rfl
theorem u42 : pureRun Tryz.prog (underlying 42) = some (.struct #[⟨"Bale", 3, 0, false, "", "", 0⟩, ⟨"Found", 4, 1, false, "", "", 8⟩]) := by kernel_rfl
theorem st42 : Tryz.prog.stoodInHeld 42 = false := by kernel_rfl
theorem eg42 : Tryz.prog.eqGuardType Tryz.prog.depth 42 = false := by kernel_rfl
theorem eq_test (a : Int) (b : Bool) (a' : Int) (b' : Bool) : pureRun Tryz.prog (Op.equal 42 (.agg #[.int .i64 a, .bool b]) (.agg #[.int .i64 a', .bool b'])) = some (decide (a = a') && (b == b')) := by
  show pureRun Tryz.prog (Op.equalIn (9998 + 1 + 1) 42 _ _) = _
  rw [Op.equalIn.eq_def]
  simp only [pureRun_bind, u42, Option.bind_some, pp0, pureRun_ite, st42, Bool.false_eq_true, if_false]
  simp [pureRun_bind, pureRun_ite, partT ag3, partT ag4, eq_intT u3, eq_boolT u4, pureRun_pure]
  by_cases h1 : a = a'
  · cases b <;> cases b' <;> simp [pureRun_bind, pureRun_ite, partT ag3, partT ag4, eq_intT u3, eq_boolT u4, pureRun_pure, h1]
  · simp [pureRun_pure, h1]
theorem test_neq {o : Oper} {x y : Operand} {t2 : TypeId} {σ : Operand → AV} {a c : Int} {b e : Bool} (ho : o.op = .binOp .neq 42 x y t2) (hx : σ x = .c (.agg [I a, B b])) (hy : σ y = .c (.agg [I c, B e])) (rd : Nat → AB) (n : Nat) :
    aop Tryz.prog o σ rd n = some (.simple { val := .c (B (!(decide (a = c) && (b == e)))) }) := by
  have vx : (σ x).toVal = some (.agg #[.int .i64 a, .bool b]) := by rw [hx]; rfl
  have vy : (σ y).toVal = some (.agg #[.int .i64 c, .bool e]) := by rw [hy]; rfl
  unfold aop
  rw [ho]
  simp only [abinOp, vx, vy, litBin]
  unfold pureOp
  have hv : (allVals σ o.op.operands.toList && notSelect o.op) = true := by
    rw [ho]; simp [Op.operands, allVals, vx, vy, notSelect]
  rw [if_pos hv]
  have hr : pureRun Tryz.prog (execOp (fun x => ((σ x).toVal).getD Go.undef) o) = some (.value (.bool (!(decide (a = c) && (b == e))))) := by
    unfold execOp
    rw [ho]
    simp only [vx, vy, Option.getD_some, eqGuard, binOp, pureRun_bind, pp0, Option.bind_some, pureRun_ite, eg42]
    simp [eq_test, pureRun_pure]
  rw [hr]
  rfl
theorem bool_eql {o : Oper} {x y : Operand} {t2 : TypeId} {σ : Operand → AV} {a b : Bool} (ho : o.op = .binOp .eql 4 x y t2) (hx : σ x = .c (B a)) (hy : σ y = .c (B b)) (rd : Nat → AB) (n : Nat) :
    aop Tryz.prog o σ rd n = some (.simple { val := .c (B (a == b)) }) := by
  have vx : (σ x).toVal = some (.bool a) := by rw [hx]; rfl
  have vy : (σ y).toVal = some (.bool b) := by rw [hy]; rfl
  unfold aop
  rw [ho]
  simp only [abinOp, vx, vy, litBin]
  unfold pureOp
  have hv : (allVals σ o.op.operands.toList && notSelect o.op) = true := by
    rw [ho]; simp [Op.operands, allVals, vx, vy, notSelect]
  rw [if_pos hv]
  have hr : pureRun Tryz.prog (execOp (fun x => ((σ x).toVal).getD Go.undef) o) = some (.value (.bool (a == b))) := by
    unfold execOp
    rw [ho]
    simp only [vx, vy, Option.getD_some, eqGuard, binOp, pureRun_bind, pureRun_ite]
    simp [eq_bool, pureRun_pure, bne]
  rw [hr]
  rfl
theorem plain_val {hm : Bool} {o : Oper} {tmps : TMap AV} {ds : List ADef} {p : Pan} {rd : Option Nat} {h : Heap} {K : ASt → Prop} {X : AV → ASt → Prop} {v : AV} (ha : aop Tryz.prog o (evalF tmps) (fun _ => .dead) h.n = some (.simple { val := v })) (k : fin tmps ds p rd h o.dst v K) :
    wPlain Tryz.prog hm o tmps ds p rd h K X := by
  unfold wPlain
  rw [ha]
  exact k
theorem dplain_val {P : Program} {hm : Bool} {ops : Array Oper} {i : Nat} {o : Oper} {tmps : TMap AV} {ds : List ADef} {p : Pan} {rd : Option Nat} {h : Heap} {K : ASt → DRec → Prop} {v : AV} (ha : aop P o (evalF tmps) (fun _ => .dead) h.n = some (.simple { val := v }))
    (k : finD ops i o tmps ds p rd h h.n v [] [] none K) : dPlain P hm ops i o tmps ds p rd h K := by
  unfold dPlain
  rw [ha]
  exact k

end Go.Ag
