/- How many bits a number has, up to 2048. No conditions. -/
import Derived.Test.YtbiamnobiechmaaGreatBuF
/- Layer 7: sorting: patterns are broken. -/
namespace Go.Ag
open Go.Proofs
set_option maxRecDepth 100000

set_option maxHeartbeats 4000000 in
theorem next_call {p : Nat} {r : Int} {h : Heap} (hp : Heap.at h p = .blk [.c (.lit (.int .u64 r))]) (hpn : p < h.n) :
    ∃ e h', CallOk Tryz.prog 151 [.ptr p 0] h .no e h' .no ∧ ∃ r' : Int, e = .ret (.c (.lit (.int .u64 r'))) ∧ Heap.at h' p = .blk [.c (.lit (.int .u64 r'))] ∧ Foot (fun i => i = p) h h' := by
  have f0 := Foot.refl (fun i => i = p) h
  refine call_by (hm := false) Tryz.func151 rfl ?_
  conv => whnf
  refine draw_by (hm := false) (by kernel_rfl) (by kernel_rfl) ?_
  conv => whnf
  refine ⟨_, hp, ?_⟩
  conv => whnf
  refine ⟨_, hp, ?_⟩
  conv => whnf
  refine ⟨_, hp, ?_⟩
  conv => whnf
  refine ⟨hpn, ?_⟩
  conv => whnf
  refine ⟨?_, ?_⟩
  · exact pairs_via (fun _ => 0) [⟨0, _, _, [], []⟩, ⟨1, _, _, [], []⟩, ⟨2, _, _, [0], []⟩, ⟨3, _, _, [], []⟩, ⟨4, _, _, [], []⟩, ⟨5, _, _, [0], []⟩, ⟨6, _, _, [], []⟩, ⟨7, _, _, [], []⟩, ⟨8, _, _, [], []⟩, ⟨9, _, _, [0], [0]⟩] rfl (by kernel_rfl)
  generalize hG : TMap.set AB.dead _ _ _ = H1
  obtain ⟨r1, c1⟩ : ∃ r : Int, Heap.at H1 p = .blk [.c (.lit (.int .u64 r))] := ⟨_, by rw [← hG]; exact (at_set_self _ _ hpn).trans rfl⟩
  have n1 : p < H1.n := by rw [← hG, TMap.set_n]; exact hpn
  have f1 : Foot (fun i => i = p) h H1 := by rw [← hG]; exact Foot.set (k := p) f0 (.inl rfl) _
  clear hG
  conv => whnf
  refine draw_by (hm := false) (by kernel_rfl) (by kernel_rfl) ?_
  conv => whnf
  refine ⟨_, c1, ?_⟩
  conv => whnf
  refine ⟨_, c1, ?_⟩
  conv => whnf
  refine ⟨_, c1, ?_⟩
  conv => whnf
  refine ⟨n1, ?_⟩
  conv => whnf
  refine ⟨?_, ?_⟩
  · exact pairs_via (fun _ => 0) [⟨0, _, _, [], []⟩, ⟨1, _, _, [], []⟩, ⟨2, _, _, [0], []⟩, ⟨3, _, _, [], []⟩, ⟨4, _, _, [], []⟩, ⟨5, _, _, [0], []⟩, ⟨6, _, _, [], []⟩, ⟨7, _, _, [], []⟩, ⟨8, _, _, [], []⟩, ⟨9, _, _, [0], [0]⟩] rfl (by kernel_rfl)
  generalize hG : TMap.set AB.dead _ _ _ = H2
  obtain ⟨r2, c2⟩ : ∃ r : Int, Heap.at H2 p = .blk [.c (.lit (.int .u64 r))] := ⟨_, by rw [← hG]; exact (at_set_self _ _ n1).trans rfl⟩
  have n2 : p < H2.n := by rw [← hG, TMap.set_n]; exact n1
  have f2 : Foot (fun i => i = p) h H2 := by rw [← hG]; exact Foot.set (k := p) f1 (.inl rfl) _
  clear hG
  conv => whnf
  refine draw_by (hm := false) (by kernel_rfl) (by kernel_rfl) ?_
  conv => whnf
  refine ⟨_, c2, ?_⟩
  conv => whnf
  refine ⟨_, c2, ?_⟩
  conv => whnf
  refine ⟨_, c2, ?_⟩
  conv => whnf
  refine ⟨n2, ?_⟩
  conv => whnf
  refine ⟨?_, ?_⟩
  · exact pairs_via (fun _ => 0) [⟨0, _, _, [], []⟩, ⟨1, _, _, [], []⟩, ⟨2, _, _, [0], []⟩, ⟨3, _, _, [], []⟩, ⟨4, _, _, [], []⟩, ⟨5, _, _, [0], []⟩, ⟨6, _, _, [], []⟩, ⟨7, _, _, [], []⟩, ⟨8, _, _, [], []⟩, ⟨9, _, _, [0], [0]⟩] rfl (by kernel_rfl)
  generalize hG : TMap.set AB.dead _ _ _ = H3
  obtain ⟨r3, c3⟩ : ∃ r : Int, Heap.at H3 p = .blk [.c (.lit (.int .u64 r))] := ⟨_, by rw [← hG]; exact (at_set_self _ _ n2).trans rfl⟩
  have n3 : p < H3.n := by rw [← hG, TMap.set_n]; exact n2
  have f3 : Foot (fun i => i = p) h H3 := by rw [← hG]; exact Foot.set (k := p) f2 (.inl rfl) _
  clear hG
  conv => whnf
  refine ⟨_, c3, ?_⟩
  conv => whnf
  exact ⟨r3, rfl, c3, f3⟩
def lenN (n : Nat) : Nat := if n = 0 then 0 else Nat.log2 n + 1
def lenE (n : Nat) : Known := ⟨132, [.lit (.int .u64 n)], I (lenN n)⟩
end Go.Ag
/- Layer 7: how many bits a number has, one by one (0 to 511). -/
namespace Go.Ag
open Go.Proofs
set_option maxRecDepth 100000

theorem lenA0 : ((List.range 512).all fun n => tells cfg0 2000 (lenE (0 + n))) = true := by kernel_rfl
theorem lenA4 : tells cfg0 2000 (lenE 2048) = true := by kernel_rfl
end Go.Ag
/- Layer 7: how many bits a number has, one by one (512 to 1023). -/
namespace Go.Ag
open Go.Proofs
set_option maxRecDepth 100000

theorem lenA1 : ((List.range 512).all fun n => tells cfg0 2000 (lenE (512 + n))) = true := by kernel_rfl
end Go.Ag
/- Layer 7: how many bits a number has, one by one (1024 to 1535). -/
namespace Go.Ag
open Go.Proofs
set_option maxRecDepth 100000

theorem lenA2 : ((List.range 512).all fun n => tells cfg0 2000 (lenE (1024 + n))) = true := by kernel_rfl
end Go.Ag
/- Layer 7: how many bits a number has, one by one (1536 to 2047). -/
namespace Go.Ag
open Go.Proofs
set_option maxRecDepth 100000

theorem lenA3 : ((List.range 512).all fun n => tells cfg0 2000 (lenE (1536 + n))) = true := by kernel_rfl
end Go.Ag
