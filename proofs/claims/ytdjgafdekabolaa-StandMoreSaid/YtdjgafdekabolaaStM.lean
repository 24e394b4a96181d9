/- The law StandMore returns true for arguments that are not far too long. No conditions. -/
import Derived.Test.YtdjgafdekabolaaStL
/- Layer 4: with what is known better nothing is wider: the law's walk. -/
namespace Go.Ag
open Go.Proofs
set_option maxRecDepth 100000

def exC (ex : Lk) : CV := .agg (rowLk ex)

set_option maxHeartbeats 16000000 in
theorem moreLaw_ret {v : SV} {s : Sd} (hv : v.Is s) (hA : Ret Try.prog 13 [] (B true)) (ex : Lk) (w1 w2 w3 : Nat) (hw1 : w1 < 256) (hw2 : w2 < 256) (hw3 : w3 < 65536) :
    Ret Try.prog 10 [v.cv, exC ex, .lit (.int .u8 w1), .lit (.int .u8 w2), .lit (.int .u16 w3)] (B true) := by
  have e1 := hv.kn; have e2 := hv.short; have e3 := hv.rn; have e4 := hv.ln
  refine ret_then (hm := true) Try.func10 rfl ?_
  conv => whnf
  repeat (refine then_seq (hm := true) ?_; conv => whnf)
  repeat (refine then_seq (hm := true) ?_; conv => whnf)
  refine .ret (fine_ret hv) rfl ?_
  conv => whnf
  cases hd : validB s
  · conv => whnf
    refine .ret hA rfl ?_
    conv => whnf
    exact .val
  conv => whnf
  repeat (refine then_seq (hm := true) ?_; conv => whnf)
  obtain ⟨mn, hmn, hm9⟩ : ∃ mn, w3 % 1000 = mn ∧ mn ≤ 999 := ⟨_, rfl, by have := Nat.mod_lt w3 (show 0 < 1000 by omega); omega⟩
  obtain ⟨kind, hkd, hk2⟩ : ∃ kind, w1 % 3 = kind ∧ kind ≤ 2 := ⟨_, rfl, by have := Nat.mod_lt w1 (show 0 < 3 by omega); omega⟩
  have hrl : 1 ≤ s.runs.length := by
    simp only [validB, inB, Bool.and_eq_true, decide_eq_true_eq] at hd
    omega
  obtain ⟨rn, hrn⟩ : ∃ rn, s.runs.length = rn + 1 := ⟨s.runs.length - 1, by omega⟩
  refine ⟨by omega, ((w3 % 1000 : Nat) : Int), rem_nat16 hw3 1000, ?_⟩
  conv => whnf
  rw [hmn]
  repeat (refine then_seq (hm := true) ?_; conv => whnf)
  refine draw_by (hm := true) (by kernel_rfl) (by kernel_rfl) ?_
  conv => whnf
  rw [show (IntKind.i64.wrap (w1 : Int)).tmod 3 = (kind : Int) by rw [← hkd]; exact rem_nat hw1 3]
  refine ⟨(rn : Int), by rw [wrap_eq (by omega) (by omega)]; omega, ?_⟩
  conv => whnf
  refine ⟨by kernel_rfl, ?_⟩
  refine then_via (hm := true) (fun st => ∃ h : Heap, h.n = 6 ∧ Heap.at h 0 = v.blk ∧ Heap.at h 1 = .blk [.c (I ex.minute), .c (I ex.lo), .c (I ex.hi)] ∧ Heap.at h 2 = v.blk ∧ Heap.at h 3 = v.blk ∧ Heap.at h 4 = v.blk ∧ Heap.at h 5 = v.blk ∧
      Has st 409 [(2, .c (.lit (.int .u8 w1))), (3, .c (.lit (.int .u8 w2))), (5, .ptr 0 0), (6, .ptr 1 0), (11, .c (I v.ln)), (12, .c (I mn)), (13, .c (I kind)), (14, .c (I rn)), (15, .ptr 2 0), (16, .ptr 3 0), (17, .ptr 4 0), (18, .ptr 5 0)] [] none h) ?_ ?_
  · conv => whnf
    refine draw_by (hm := true) (by kernel_rfl) (by kernel_rfl) ?_
    conv => whnf
    refine ⟨(show 2 < 6 by decide), ?_⟩
    conv => whnf
    refine ⟨(show 3 < 6 by decide), ?_⟩
    conv => whnf
    refine ⟨(show 4 < 6 by decide), ?_⟩
    conv => whnf
    refine ⟨(show 5 < 6 by decide), ?_⟩
    conv => whnf
    refine ⟨by kernel_rfl, ?_⟩
    conv => whnf
    exact ⟨_, rfl, rfl, rfl, rfl, rfl, rfl, rfl, rfl, ⟨rfl, rfl, rfl, rfl, rfl, rfl, rfl, rfl, rfl, rfl, rfl, rfl, trivial⟩, rfl, rfl, rfl, rfl⟩
  rintro st ⟨h, hn, b0, b1, b2, b3, b4, b5, hs1⟩
  refine hs1.then ?_
  conv => whnf
  refine then_via (hm := false) (fun st => ∃ (h : Heap) (ox oy : Nat), Heap.at h 0 = v.blk ∧ Heap.at h 2 = lkBlk v (.msl ox 3 0 (s.looks ++ [ex]).length (s.looks ++ [ex]).length) ∧ Heap.at h 3 = lkBlk v (.msl oy 3 0 s.looks.length s.looks.length) ∧ Heap.at h 4 = v.blk ∧ Heap.at h 5 = lkBlk v nilA ∧
      Heap.at h ox = lkB (s.looks ++ [ex]) ∧ Heap.at h oy = lkB s.looks ∧ 5 < ox ∧ ox < oy ∧ oy < h.n ∧
      Has st 409 [(2, .c (.lit (.int .u8 w1))), (3, .c (.lit (.int .u8 w2))), (5, .ptr 0 0), (11, .c (I v.ln)), (12, .c (I mn)), (13, .c (I kind)), (14, .c (I rn)), (15, .ptr 2 0), (16, .ptr 3 0), (17, .ptr 4 0), (18, .ptr 5 0)] [] none h) ?_ ?_
  · conv => whnf
    refine draw_by (hm := false) (by kernel_rfl) (by kernel_rfl) ?_
    conv => whnf
    refine ⟨v.blk, (at_push_lt _ _ (by omega)).trans b0, ?_⟩
    conv => whnf
    have hf := fun rd => hv.l.first rowLk_len rd
    have hcell : ((s.looks.map rowLk).flatten.map AV.c).all AV.cellish = true := by
      rw [List.all_eq_true]
      intro c hc
      obtain ⟨c0, h0, rfl⟩ := List.mem_map.1 hc
      obtain ⟨r, hr, hcr⟩ := List.mem_flatten.1 h0
      obtain ⟨x, _, rfl⟩ := List.mem_map.1 hr
      simp only [rowLk, List.mem_cons, List.not_mem_nil, or_false] at hcr
      rcases hcr with rfl | rfl | rfl <;> rfl
    have h4 := valid_looks hd
    have hrow : (s.looks.map rowLk).length = s.looks.length := List.length_map ..
    by_cases hne : s.looks = []
    · have hfn : ∀ rd : Nat → AB, firstCells rd 3 (.c (.sl v.lc v.lo' v.ln)) = some ([], 0, []) := fun rd => by rw [hf rd, hne]; rfl
      obtain ⟨G1, hG1⟩ : ∃ G1 : Heap, G1 = h.push .dead (.blk []) := ⟨_, rfl⟩
      have n1 : G1.n = h.n + 1 := by rw [hG1]; rfl
      have F1 : Foot none' h G1 := by rw [hG1]; exact (Foot.refl _ _).push _
      have a1 : Heap.at G1 h.n = .blk [] := by rw [hG1]; exact at_push_self _ _
      obtain ⟨G3, hG3⟩ : ∃ G3 : Heap, G3 = ((G1.push .dead (.blk ((rowLk ex).map AV.c))).set .dead h.n .dead).push .dead (.blk ([] ++ (rowLk ex).map AV.c)) := ⟨_, rfl⟩
      have n3 : G3.n = G1.n + 2 := by rw [hG3]; rfl
      have F3 : Foot none' h G3 := by rw [hG3]; exact (Foot.set (F1.push _) (.inr (by omega)) _).push _
      have a3 : Heap.at G3 (G1.n + 1) = .blk ([] ++ (rowLk ex).map AV.c) := by rw [hG3]; exact at_push_self _ _
      obtain ⟨G5, hG5⟩ : ∃ G5 : Heap, G5 = G3.push .dead (.blk []) := ⟨_, rfl⟩
      have n5 : G5.n = G3.n + 1 := by rw [hG5]; rfl
      have F5 : Foot none' h G5 := by rw [hG5]; exact F3.push _
      have a5 : Heap.at G5 G3.n = .blk [] := by rw [hG5]; exact at_push_self _ _
      have a5x : Heap.at G5 (G1.n + 1) = .blk ([] ++ (rowLk ex).map AV.c) := by rw [hG5]; exact (at_push_lt _ _ (by omega)).trans a3
      refine dgot (H := G1) (append_none (id := h.n) (len := 0) (cap := 0) rfl rfl U27 U27 rfl S58 (hfn _)) rfl hG1.symm ?_
      conv => whnf
      refine ⟨_, (F1.keep 1 (by omega) (fun x => x)).trans b1, ?_⟩
      conv => whnf
      have hx2 := append_grow (P := Try.prog) (rd := Heap.at (G1.push .dead (.blk ((rowLk ex).map AV.c)))) (fresh := G1.n + 1) (ts := #[27, 27]) (id := h.n) (len := 0) (cells := []) rfl rfl U27 U27 rfl S58 (first_own (id := G1.n) (sz := 3) (len := 1) (cap := 1) (cells := (rowLk ex).map AV.c) (at_push_self _ _) rfl) rfl (by decide) (by decide)
        ((at_push_lt _ _ (by omega)).trans a1) rfl
      refine dgot (H := G3) (got_app rfl hx2) (by rw [List.all_cons, List.all_nil, Bool.and_true]; exact decide_eq_true (show h.n < G1.n + 1 by omega)) hG3.symm ?_
      conv => whnf
      refine ⟨_, (at_push_lt _ _ (by omega)).trans ((F3.keep 0 (by omega) (fun x => x)).trans b0), ?_⟩
      conv => whnf
      refine dgot (H := G5) (append_none (id := G3.n) (len := 0) (cap := 0) rfl rfl U27 U27 rfl S58 (hfn _)) rfl hG5.symm ?_
      conv => whnf
      refine ⟨_, (F5.keep 2 (by omega) (fun x => x)).trans b2, ?_⟩
      conv => whnf
      refine ⟨(show 2 < G5.n by omega), ?_⟩
      conv => whnf
      refine ⟨_, (at_set_ne _ _ (by decide)).trans ((F5.keep 3 (by omega) (fun x => x)).trans b3), ?_⟩
      conv => whnf
      refine ⟨(show 3 < G5.n by omega), ?_⟩
      conv => whnf
      refine ⟨_, (at_set_ne _ _ (by decide)).trans ((at_set_ne _ _ (by decide)).trans ((F5.keep 5 (by omega) (fun x => x)).trans b5)), ?_⟩
      conv => whnf
      refine ⟨(show 5 < G5.n by omega), ?_⟩
      conv => whnf
      obtain ⟨π, z0, z1, z2, z3, z5, q0, q2, q3, q4⟩ : ∃ π : Nat → Nat, π 0 = 0 ∧ π 1 = 1 ∧ π 2 = 2 ∧ π 3 = 3 ∧ π 5 = 5 ∧ π h.n = 6 ∧ π G1.n = 7 ∧ π (G1.n + 1) = 8 ∧ π G3.n = 9 := ⟨fun x => x, rfl, rfl, rfl, rfl, rfl, by dsimp only; omega, by dsimp only; omega, by dsimp only; omega, by dsimp only; omega⟩
      refine ⟨pairs_via π [⟨0, _, _, [], [π h.n]⟩, ⟨1, _, _, [], []⟩, ⟨2, _, _, [π 0], []⟩, ⟨3, _, _, [], []⟩, ⟨4, _, _, [π 1], []⟩, ⟨5, _, _, [], [π G1.n]⟩, ⟨6, _, _, [π h.n, π G1.n], [π h.n, π (G1.n + 1)]⟩, ⟨7, _, _, [], [π G3.n]⟩, ⟨8, _, _, [], []⟩, ⟨9, _, _, [π 0], []⟩, ⟨10, _, _, [], []⟩, ⟨11, _, _, [], []⟩, ⟨12, _, _, [π 2], [π 2]⟩, ⟨13, _, _, [], []⟩, ⟨14, _, _, [π 3], [π 3]⟩, ⟨15, _, _, [], []⟩, ⟨16, _, _, [π 5], [π 5]⟩] rfl (by rw [z0, z1, z2, z3, z5, q0, q2, q3, q4]; kernel_rfl), ?_⟩
      conv => whnf
      have el1 : (s.looks ++ [ex]).length = 0 + 1 := by rw [hne]; rfl
      have el2 : s.looks.length = 0 := by rw [hne]; rfl
      have up : ∀ (x y z : AB) (i : Nat), i ≠ 2 → i ≠ 3 → i ≠ 5 → Heap.at (((G5.set .dead 2 x).set .dead 3 y).set .dead 5 z) i = Heap.at G5 i := fun x y z i n2 n3 n5 => (at_set_ne _ _ n5).trans ((at_set_ne _ _ n3).trans (at_set_ne _ _ n2))
      refine ⟨_, G1.n + 1, G3.n, (up _ _ _ 0 (by decide) (by decide) (by decide)).trans ((F5.keep 0 (by omega) (fun x => x)).trans b0), ?_, ?_, (up _ _ _ 4 (by decide) (by decide) (by decide)).trans ((F5.keep 4 (by omega) (fun x => x)).trans b4), ?_, ?_, ?_, by omega, by omega, (show G3.n < G5.n by omega), rfl, ⟨rfl, rfl, rfl, rfl, rfl, rfl, rfl, rfl, rfl, rfl, rfl, trivial⟩, rfl, rfl, rfl, rfl⟩
      · rw [el1]; exact (at_set_ne _ _ (by decide)).trans ((at_set_ne _ _ (by decide)).trans (at_set_self _ _ (show 2 < G5.n by omega)))
      · rw [el2]; exact (at_set_ne _ _ (by decide)).trans (at_set_self _ _ (show 3 < G5.n by omega))
      · exact at_set_self _ _ (show 5 < G5.n by omega)
      · refine (up _ _ _ _ (by omega) (by omega) (by omega)).trans ?_
        rw [a5x, hne]; rfl
      · refine (up _ _ _ _ (by omega) (by omega) (by omega)).trans ?_
        rw [a5, hne]; rfl
    · have hn0 : (s.looks.map rowLk).length ≠ 0 := by rw [List.length_map]; exact fun e => hne (List.length_eq_zero_iff.1 e)
      have hnl : 0 + (s.looks.map rowLk).length ≤ limit := by rw [List.length_map]; unfold limit; omega
      obtain ⟨G1, hG1⟩ : ∃ G1 : Heap, G1 = ((h.push .dead (.blk [])).set .dead h.n .dead).push .dead (.blk ([] ++ ((s.looks.map rowLk).flatten.map AV.c))) := ⟨_, rfl⟩
      have n1 : G1.n = h.n + 2 := by rw [hG1]; rfl
      have F1 : Foot none' h G1 := by rw [hG1]; exact (Foot.set ((Foot.refl _ _).push _) (.inr (by omega)) _).push _
      have a1 : Heap.at G1 (h.n + 1) = .blk ([] ++ ((s.looks.map rowLk).flatten.map AV.c)) := by rw [hG1]; exact at_push_self _ _
      obtain ⟨G3, hG3⟩ : ∃ G3 : Heap, G3 = ((G1.push .dead (.blk ((rowLk ex).map AV.c))).set .dead (h.n + 1) .dead).push .dead (.blk (([] ++ ((s.looks.map rowLk).flatten.map AV.c)) ++ (rowLk ex).map AV.c)) := ⟨_, rfl⟩
      have n3 : G3.n = G1.n + 2 := by rw [hG3]; rfl
      have F3 : Foot none' h G3 := by rw [hG3]; exact (Foot.set (F1.push _) (.inr (by omega)) _).push _
      have a3 : Heap.at G3 (G1.n + 1) = .blk (([] ++ ((s.looks.map rowLk).flatten.map AV.c)) ++ (rowLk ex).map AV.c) := by rw [hG3]; exact at_push_self _ _
      obtain ⟨G5, hG5⟩ : ∃ G5 : Heap, G5 = ((G3.push .dead (.blk [])).set .dead G3.n .dead).push .dead (.blk ([] ++ ((s.looks.map rowLk).flatten.map AV.c))) := ⟨_, rfl⟩
      have n5 : G5.n = G3.n + 2 := by rw [hG5]; rfl
      have F5 : Foot none' h G5 := by rw [hG5]; exact (Foot.set (F3.push _) (.inr (by omega)) _).push _
      have a5 : Heap.at G5 (G3.n + 1) = .blk ([] ++ ((s.looks.map rowLk).flatten.map AV.c)) := by rw [hG5]; exact at_push_self _ _
      have a5x : Heap.at G5 (G1.n + 1) = .blk (([] ++ ((s.looks.map rowLk).flatten.map AV.c)) ++ (rowLk ex).map AV.c) := by rw [hG5]; exact (at_push_lt _ _ (show G1.n + 1 < G3.n + 1 by omega)).trans ((at_set_ne _ _ (by omega)).trans ((at_push_lt _ _ (by omega)).trans a3))
      refine dgot (H := G1) (append_grow (id := h.n) (len := 0) (cells := []) rfl rfl U27 U27 rfl S58 (hf _) hcell hn0 hnl (at_push_self _ _) rfl) (by rw [List.all_cons, List.all_nil, Bool.and_true]; exact decide_eq_true (show h.n < h.n + 1 by omega)) hG1.symm ?_
      conv => whnf
      refine ⟨_, (F1.keep 1 (by omega) (fun x => x)).trans b1, ?_⟩
      conv => whnf
      have hx2 := append_grow (P := Try.prog) (rd := Heap.at (G1.push .dead (.blk ((rowLk ex).map AV.c)))) (fresh := G1.n + 1) (ts := #[27, 27]) (id := h.n + 1) (len := 0 + (s.looks.map rowLk).length) (cells := [] ++ ((s.looks.map rowLk).flatten.map AV.c)) rfl rfl U27 U27 rfl S58 (first_own (id := G1.n) (sz := 3) (len := 1) (cap := 1) (cells := (rowLk ex).map AV.c) (at_push_self _ _) rfl) rfl (by decide) (by rw [List.length_map]; unfold limit; omega)
        ((at_push_lt _ _ (by omega)).trans a1) (by rw [List.nil_append, List.length_map, flat_len3, List.length_map]; omega)
      refine dgot (H := G3) (got_app rfl hx2) (by rw [List.all_cons, List.all_nil, Bool.and_true]; exact decide_eq_true (show h.n + 1 < G1.n + 1 by omega)) hG3.symm ?_
      conv => whnf
      refine ⟨_, (at_push_lt _ _ (by omega)).trans ((F3.keep 0 (by omega) (fun x => x)).trans b0), ?_⟩
      conv => whnf
      refine dgot (H := G5) (append_grow (id := G3.n) (len := 0) (cells := []) rfl rfl U27 U27 rfl S58 (hf _) hcell hn0 hnl (at_push_self _ _) rfl) (by rw [List.all_cons, List.all_nil, Bool.and_true]; exact decide_eq_true (show G3.n < G3.n + 1 by omega)) hG5.symm ?_
      conv => whnf
      refine ⟨_, (F5.keep 2 (by omega) (fun x => x)).trans b2, ?_⟩
      conv => whnf
      refine ⟨(show 2 < G5.n by omega), ?_⟩
      conv => whnf
      refine ⟨_, (at_set_ne _ _ (by decide)).trans ((F5.keep 3 (by omega) (fun x => x)).trans b3), ?_⟩
      conv => whnf
      refine ⟨(show 3 < G5.n by omega), ?_⟩
      conv => whnf
      refine ⟨_, (at_set_ne _ _ (by decide)).trans ((at_set_ne _ _ (by decide)).trans ((F5.keep 5 (by omega) (fun x => x)).trans b5)), ?_⟩
      conv => whnf
      refine ⟨(show 5 < G5.n by omega), ?_⟩
      conv => whnf
      obtain ⟨π, z0, z1, z2, z3, z5, q0, q1, q2, q3, q4, q5⟩ : ∃ π : Nat → Nat, π 0 = 0 ∧ π 1 = 1 ∧ π 2 = 2 ∧ π 3 = 3 ∧ π 5 = 5 ∧ π h.n = 6 ∧ π (h.n + 1) = 7 ∧ π G1.n = 8 ∧ π (G1.n + 1) = 9 ∧ π G3.n = 10 ∧ π (G3.n + 1) = 11 := ⟨fun x => x, rfl, rfl, rfl, rfl, rfl, by dsimp only; omega, by dsimp only; omega, by dsimp only; omega, by dsimp only; omega, by dsimp only; omega, by dsimp only; omega⟩
      refine ⟨pairs_via π [⟨0, _, _, [], [π h.n]⟩, ⟨1, _, _, [], []⟩, ⟨2, _, _, [π 0], []⟩, ⟨3, _, _, [π h.n], [π h.n, π (h.n + 1)]⟩, ⟨4, _, _, [π 1], []⟩, ⟨5, _, _, [], [π G1.n]⟩, ⟨6, _, _, [π (h.n + 1), π G1.n], [π (h.n + 1), π (G1.n + 1)]⟩, ⟨7, _, _, [], [π G3.n]⟩, ⟨8, _, _, [], []⟩, ⟨9, _, _, [π 0], []⟩, ⟨10, _, _, [π G3.n], [π G3.n, π (G3.n + 1)]⟩, ⟨11, _, _, [], []⟩, ⟨12, _, _, [π 2], [π 2]⟩, ⟨13, _, _, [], []⟩, ⟨14, _, _, [π 3], [π 3]⟩, ⟨15, _, _, [], []⟩, ⟨16, _, _, [π 5], [π 5]⟩] rfl (by rw [z0, z1, z2, z3, z5, q0, q1, q2, q3, q4, q5]; kernel_rfl), ?_⟩
      conv => whnf
      have el1 : (s.looks ++ [ex]).length = 0 + (s.looks.map rowLk).length + 1 := by rw [List.length_append, List.length_map]; simp
      have el2 : s.looks.length = 0 + (s.looks.map rowLk).length := by rw [List.length_map]; omega
      have up : ∀ (x y z : AB) (i : Nat), i ≠ 2 → i ≠ 3 → i ≠ 5 → Heap.at (((G5.set .dead 2 x).set .dead 3 y).set .dead 5 z) i = Heap.at G5 i := fun x y z i n2 n3 n5 => (at_set_ne _ _ n5).trans ((at_set_ne _ _ n3).trans (at_set_ne _ _ n2))
      refine ⟨_, G1.n + 1, (G3.n + 1), (up _ _ _ 0 (by decide) (by decide) (by decide)).trans ((F5.keep 0 (by omega) (fun x => x)).trans b0), ?_, ?_, (up _ _ _ 4 (by decide) (by decide) (by decide)).trans ((F5.keep 4 (by omega) (fun x => x)).trans b4), ?_, ?_, ?_, by omega, by omega, (show (G3.n + 1) < G5.n by omega), rfl, ⟨rfl, rfl, rfl, rfl, rfl, rfl, rfl, rfl, rfl, rfl, rfl, trivial⟩, rfl, rfl, rfl, rfl⟩
      · rw [el1]; exact (at_set_ne _ _ (by decide)).trans ((at_set_ne _ _ (by decide)).trans (at_set_self _ _ (show 2 < G5.n by omega)))
      · rw [el2]; exact (at_set_ne _ _ (by decide)).trans (at_set_self _ _ (show 3 < G5.n by omega))
      · exact at_set_self _ _ (show 5 < G5.n by omega)
      · refine (up _ _ _ _ (by omega) (by omega) (by omega)).trans ?_
        rw [a5x]
        unfold lkB
        rw [List.map_append, List.flatten_append, List.map_append]
        rfl
      · refine (up _ _ _ _ (by omega) (by omega) (by omega)).trans ?_
        rw [a5, List.nil_append]; rfl
  clear hs1 b0 b1 b2 b3 b4 b5 hn h st
  rintro st ⟨h, ox, oy, b0, b2, b3, b4, b5, bX, bY, l5, lX, lY, hs1⟩
  refine hs1.then ?_
  conv => whnf
  have h4 := valid_looks hd
  obtain ⟨q, hq⟩ : ∃ q, q = w1 % s.looks.length := ⟨_, rfl⟩
  refine then_via (hm := false) (fun st => ∃ (h : Heap), Heap.at h 0 = v.blk ∧ Heap.at h 2 = lkBlk v (.msl ox 3 0 (s.looks ++ [ex]).length (s.looks ++ [ex]).length) ∧ Heap.at h 3 = lkBlk v (.msl oy 3 0 s.looks.length s.looks.length) ∧ Heap.at h 4 = v.blk ∧ Heap.at h 5 = lkBlk v nilA ∧
      Heap.at h ox = lkB (s.looks ++ [ex]) ∧ Heap.at h oy = lkB (tightL s.looks q) ∧ oy < h.n ∧
      Has st 409 [(2, .c (.lit (.int .u8 w1))), (3, .c (.lit (.int .u8 w2))), (5, .ptr 0 0), (11, .c (I v.ln)), (12, .c (I mn)), (13, .c (I kind)), (14, .c (I rn)), (15, .ptr 2 0), (16, .ptr 3 0), (17, .ptr 4 0), (18, .ptr 5 0)] [] none h) ?_ ?_
  · conv => whnf
    cases hc : decide ((v.ln : Int) > 0)
    · have hnil : s.looks = [] := List.length_eq_zero_iff.1 (by simp at hc; omega)
      conv => whnf
      refine ⟨h, b0, b2, b3, b4, b5, bX, ?_, lY, rfl, ⟨rfl, rfl, rfl, rfl, rfl, rfl, rfl, rfl, rfl, rfl, rfl, trivial⟩, rfl, rfl, rfl, rfl⟩
      rw [bY]
      unfold tightL
      rw [hnil]
      rfl
    have hpos : 0 < s.looks.length := by simp at hc; omega
    have hql : q < s.looks.length := by rw [hq]; exact Nat.mod_lt _ hpos
    obtain ⟨l, hl⟩ := get_some hql
    have hlk := look_of hd (List.mem_of_getElem? hl)
    conv => whnf
    refine draw_by (hm := false) (by kernel_rfl) (by kernel_rfl) ?_
    conv => whnf
    refine ⟨_, b3, ?_⟩
    conv => whnf
    refine dplain_val (rem_to (q : Int) rfl rfl rfl (by omega) (by rw [wrap_u8 hw1, e4, tmod_nat, ← hq]) _ _) ?_
    conv => whnf
    refine ⟨⟨rfl, by omega, by omega⟩, ?_⟩
    conv => whnf
    refine ⟨by kernel_rfl, ?_⟩
    conv => whnf
    refine draw_by (hm := false) (by kernel_rfl) (by kernel_rfl) ?_
    conv => whnf
    have rHi : readVar Try.prog 3 ((s.looks.map rowLk).flatten.map AV.c) (0 + (q : Int).toNat * 3 + 1 + 1) = some (.c (I l.hi)) := by rw [show 0 + (q : Int).toNat * 3 + 1 + 1 = q * 3 + 2 by omega]; exact read_hi hl
    have rLo : readVar Try.prog 3 ((s.looks.map rowLk).flatten.map AV.c) (0 + (q : Int).toNat * 3 + 1 + 0) = some (.c (I l.lo)) := by rw [show 0 + (q : Int).toNat * 3 + 1 + 0 = q * 3 + 1 by omega]; exact read_lo hl
    have pLo : putAt ((s.looks.map rowLk).flatten.map AV.c) (0 + (q : Int).toNat * 3 + 1 + 0) [.c (I (min l.hi (l.lo + 1)))] = some (((tightL s.looks q).map rowLk).flatten.map AV.c) := by
      rw [show 0 + (q : Int).toNat * 3 + 1 + 0 = q * 3 + 1 by omega, put_lo hl]
      unfold tightL
      rw [hl]
      rfl
    refine ⟨_, bY, look_read rHi ?_⟩
    conv => whnf
    refine ⟨_, bY, look_read rLo ?_⟩
    conv => whnf
    refine ⟨l.lo + 1, by rw [wrap_eq (by omega) (by omega)], ?_⟩
    conv => whnf
    refine ⟨_, bY, look_put pLo ?_⟩
    conv => whnf
    refine ⟨lY, ?_⟩
    conv => whnf
    refine forceL_intro ?_
    conv => whnf
    refine ⟨by kernel_rfl, ?_⟩
    conv => whnf
    exact ⟨_, (at_set_ne _ _ (by omega)).trans b0, (at_set_ne _ _ (by omega)).trans b2, (at_set_ne _ _ (by omega)).trans b3, (at_set_ne _ _ (by omega)).trans b4, (at_set_ne _ _ (by omega)).trans b5, (at_set_ne _ _ (by omega)).trans bX, at_set_self _ _ lY, by rw [TMap.set_n]; exact lY,
      rfl, ⟨rfl, rfl, rfl, rfl, rfl, rfl, rfl, rfl, rfl, rfl, rfl, trivial⟩, rfl, rfl, rfl, rfl⟩
  clear hs1 b0 b2 b3 b4 b5 bX bY lY h st
  rintro st ⟨h, b0, b2, b3, b4, b5, bX, bY, lY, hs1⟩
  refine hs1.then ?_
  conv => whnf
  obtain ⟨up, hup⟩ : ∃ up, up = decide (w2 % 2 = 0) := ⟨_, rfl⟩
  have hmb : ∀ k, -1000 ≤ v.lo.get k ∧ v.lo.get k ≤ 1000 ∧ -1000 ≤ v.hi.get k ∧ v.hi.get k ≤ 1000 := by
    have hm := hd
    rw [hv.lo, hv.hi]
    simp only [validB, minsOk, minOk, spanB, Bool.and_eq_true, decide_eq_true_eq] at hm
    intro k
    match k with
    | 0 => simp only [T3.get]; omega
    | 1 => simp only [T3.get]; omega
    | _ + 2 => simp only [T3.get]; omega
  have hmk := hmb kind
  refine then_via (hm := false) (fun st => ∃ (h : Heap), Heap.at h 0 = v.blk ∧ Heap.at h 2 = lkBlk v (.msl ox 3 0 (s.looks ++ [ex]).length (s.looks ++ [ex]).length) ∧ Heap.at h 3 = lkBlk v (.msl oy 3 0 s.looks.length s.looks.length) ∧ Heap.at h 4 = (lessV v kind up).blk ∧ Heap.at h 5 = lkBlk v nilA ∧
      Heap.at h ox = lkB (s.looks ++ [ex]) ∧ Heap.at h oy = lkB (tightL s.looks q) ∧ oy < h.n ∧
      Has st 409 [(5, .ptr 0 0), (11, .c (I v.ln)), (12, .c (I mn)), (13, .c (I kind)), (14, .c (I rn)), (15, .ptr 2 0), (16, .ptr 3 0), (17, .ptr 4 0), (18, .ptr 5 0)] [] none h) ?_ ?_
  · conv => whnf
    refine ⟨⟨by decide, by omega, by omega⟩, ?_⟩
    conv => whnf
    rw [even_test hw2, ← hup]
    have b4' : Heap.at h 4 = .blk (minCells v) := b4
    cases up
    · conv => whnf
      refine draw_by (hm := false) (by kernel_rfl) (by kernel_rfl) ?_
      conv => whnf
      refine ⟨_, b4', look_read (min_lo v hk2) ?_⟩
      conv => whnf
      refine ⟨_, b4', look_read (min_hi v hk2) ?_⟩
      conv => whnf
      refine ⟨v.hi.get kind - 1, by rw [wrap_eq (by omega) (by omega)], ?_⟩
      conv => whnf
      refine ⟨_, b4', look_put (put_minhi v hk2) ?_⟩
      conv => whnf
      refine ⟨by omega, ?_⟩
      conv => whnf
      try (refine forceL_intro ?_; conv => whnf)
      refine ⟨by kernel_rfl, ?_⟩
      conv => whnf
      exact ⟨_, (at_set_ne _ _ (by omega)).trans b0, (at_set_ne _ _ (by omega)).trans b2, (at_set_ne _ _ (by omega)).trans b3, at_set_self _ _ (by omega), (at_set_ne _ _ (by omega)).trans b5, (at_set_ne _ _ (by omega)).trans bX, (at_set_ne _ _ (by omega)).trans bY, by rw [TMap.set_n]; exact lY,
        rfl, ⟨rfl, rfl, rfl, rfl, rfl, rfl, rfl, rfl, rfl, trivial⟩, rfl, rfl, rfl, rfl⟩
    · conv => whnf
      refine draw_by (hm := false) (by kernel_rfl) (by kernel_rfl) ?_
      conv => whnf
      refine ⟨_, b4', look_read (min_hi v hk2) ?_⟩
      conv => whnf
      refine ⟨_, b4', look_read (min_lo v hk2) ?_⟩
      conv => whnf
      refine ⟨v.lo.get kind + 1, by rw [wrap_eq (by omega) (by omega)], ?_⟩
      conv => whnf
      refine ⟨_, b4', look_put (put_minlo v hk2) ?_⟩
      conv => whnf
      refine ⟨by omega, ?_⟩
      conv => whnf
      try (refine forceL_intro ?_; conv => whnf)
      refine ⟨by kernel_rfl, ?_⟩
      conv => whnf
      exact ⟨_, (at_set_ne _ _ (by omega)).trans b0, (at_set_ne _ _ (by omega)).trans b2, (at_set_ne _ _ (by omega)).trans b3, at_set_self _ _ (by omega), (at_set_ne _ _ (by omega)).trans b5, (at_set_ne _ _ (by omega)).trans bX, (at_set_ne _ _ (by omega)).trans bY, by rw [TMap.set_n]; exact lY,
        rfl, ⟨rfl, rfl, rfl, rfl, rfl, rfl, rfl, rfl, rfl, trivial⟩, rfl, rfl, rfl, rfl⟩
  clear hs1 b0 b2 b3 b4 b5 bX bY lY h st
  rintro st ⟨h, b0, b2, b3, b4, b5, bX, bY, lY, hs1⟩
  refine hs1.then ?_
  conv => whnf
  refine then_via (hm := false) (fun st => ∃ (h : Heap) (out : AV), Heap.at h 0 = v.blk ∧ Heap.at h 2 = lkBlk v (.msl ox 3 0 (s.looks ++ [ex]).length (s.looks ++ [ex]).length) ∧ Heap.at h 3 = lkBlk v (.msl oy 3 0 s.looks.length s.looks.length) ∧ Heap.at h 4 = (lessV v kind up).blk ∧ Heap.at h 5 = lkBlk v out ∧
      Heap.at h ox = lkB (s.looks ++ [ex]) ∧ Heap.at h oy = lkB (tightL s.looks q) ∧ oy < h.n ∧ RowsL 3 h out (s.looks.reverse.map rowLk) ∧
      Has st 409 [(5, .ptr 0 0), (12, .c (I mn)), (13, .c (I kind)), (14, .c (I rn)), (15, .ptr 2 0), (16, .ptr 3 0), (17, .ptr 4 0), (18, .ptr 5 0)] [] none h) ?_ ?_
  · conv => whnf
    refine ⟨_, b0, ?_⟩
    conv => whnf
    refine loop_by (I := fun m st => ∃ (j : Nat) (h : Heap) (out : AV), j ≤ s.looks.length ∧ m = s.looks.length - j ∧ Heap.at h 0 = v.blk ∧ Heap.at h 2 = lkBlk v (.msl ox 3 0 (s.looks ++ [ex]).length (s.looks ++ [ex]).length) ∧ Heap.at h 3 = lkBlk v (.msl oy 3 0 s.looks.length s.looks.length) ∧ Heap.at h 4 = (lessV v kind up).blk ∧ Heap.at h 5 = lkBlk v out ∧
        Heap.at h ox = lkB (s.looks ++ [ex]) ∧ Heap.at h oy = lkB (tightL s.looks q) ∧ oy < h.n ∧ RowsL 3 h out ((s.looks.reverse.take j).map rowLk) ∧ (∀ o, outId out = some o → oy < o) ∧
        Has st 409 [(5, .ptr 0 0), (11, .c (I v.ln)), (12, .c (I mn)), (13, .c (I kind)), (14, .c (I rn)), (15, .ptr 2 0), (16, .ptr 3 0), (17, .ptr 4 0), (18, .ptr 5 0), (142, .c (I v.ln)), (143, .c (I j))] [] none h) ?_ (k := s.looks.length)
      ⟨0, h, nilA, Nat.zero_le _, rfl, b0, b2, b3, b4, b5, bX, bY, lY, .inl ⟨rfl, rfl⟩, (fun o ho => by cases ho), rfl, ⟨rfl, rfl, rfl, rfl, rfl, rfl, rfl, rfl, rfl, rfl, rfl, trivial⟩, rfl, rfl, rfl, rfl⟩
    clear hs1 b0 b2 b3 b4 b5 bX bY lY h st
    rintro m st ⟨j, h, out, hj, rfl, b0, b2, b3, b4, b5, bX, bY, lY, hR, hO, hs1⟩
    refine hs1.run (hm := false) ?_
    conv => whnf
    cases hc : decide ((j : Int) < (v.ln : Int))
    case true =>
      have hj2 : j < s.looks.length := by simp at hc; omega
      obtain ⟨l, hl⟩ := get_some (l := s.looks) (k := s.looks.length - 1 - j) (by omega)
      have e1' : v.looks.n = s.looks.length := e4
      have hlr : s.looks.reverse[j]? = some l := by rw [List.getElem?_reverse hj2]; exact hl
      have hlim : ((s.looks.reverse.take j).map rowLk).length + 1 ≤ limit := by rw [List.length_map, List.length_take]; unfold limit; omega
      obtain ⟨rr, hrr, hR', hold, hn', hfresh⟩ := rows_append (row := rowLk l) (t := 27) (u := 27) hR U27 U27 rfl S58 rfl rowLk_len rfl hlim
      rw [atF_eq] at hrr
      have htk : (s.looks.reverse.take (j + 1)).map rowLk = (s.looks.reverse.take j).map rowLk ++ [rowLk l] := by rw [List.take_add_one, hlr, Option.toList_some, List.map_append]; rfl
      have hrl' : ((s.looks.reverse.take j).map rowLk).length = j := by rw [List.length_map, List.length_take, List.length_reverse]; omega
      obtain ⟨G, hG⟩ : ∃ G : Heap, after (h.push .dead (.blk ((rowLk l).map .c))) rr = G := ⟨_, rfl⟩
      rw [hG] at hR' hold hn'
      rcases hR with ⟨rfl, hnil⟩ | ⟨o, rfl, hob, hol, hone⟩
      · have hx := append_first (P := Try.prog) (rd := Heap.at (h.push .dead (.blk ((rowLk l).map .c)))) (fresh := h.n + 1) (ts := #[27, 27]) rfl rfl U27 U27 rfl S58 (first_own (id := h.n) (sz := 3) (len := 1) (cap := 1) (at_push_self _ _) rfl) rfl (by decide) (by decide)
        obtain rfl := Option.some.inj (hrr.symm.trans hx)
        have nG : G.n = h.n + 2 := by rw [← hG]; rfl
        conv => whnf
        refine draw_by (hm := false) (by kernel_rfl) (by kernel_rfl) ?_
        conv => whnf
        refine ⟨_, b5, ?_⟩
        conv => whnf
        refine ⟨_, b0, ?_⟩
        conv => whnf
        refine ⟨(s.looks.length : Int) - 1, by rw [wrap_eq (by omega) (by omega)]; omega, ?_⟩
        conv => whnf
        refine ⟨((s.looks.length - 1 - j : Nat) : Int), by rw [wrap_eq (by omega) (by omega)]; omega, ?_⟩
        conv => whnf
        refine ⟨⟨by omega, by omega⟩, ?_⟩
        conv => whnf
        refine ⟨_, hv.looks.look hl, ?_⟩
        conv => whnf
        refine dgot (H := G) (got_app rfl hx) rfl hG ?_
        conv => whnf
        refine ⟨_, (hold 5 (by omega) (fun e => by simp [outId] at e)).trans b5, ?_⟩
        conv => whnf
        refine ⟨(show 5 < G.n by omega), ?_⟩
        conv => whnf
        obtain ⟨π, z0, z5, q0, q1⟩ : ∃ π : Nat → Nat, π 0 = 0 ∧ π 5 = 1 ∧ π h.n = 2 ∧ π (h.n + 1) = 3 := ⟨fun x => if x = 0 then 0 else if x = 5 then 1 else if x = h.n then 2 else 3, by dsimp only; rw [if_pos rfl], by dsimp only; rw [if_neg (by omega), if_pos rfl], by dsimp only; rw [if_neg (by omega), if_neg (by omega), if_pos rfl], by dsimp only; rw [if_neg (by omega), if_neg (by omega), if_neg (by omega)]⟩
        refine ⟨pairs_via π [⟨0, _, _, [], []⟩, ⟨1, _, _, [π 5], []⟩, ⟨2, _, _, [], []⟩, ⟨3, _, _, [π 0], []⟩, ⟨4, _, _, [], []⟩, ⟨5, _, _, [], []⟩, ⟨6, _, _, [], []⟩, ⟨7, _, _, [], []⟩, ⟨8, _, _, [], []⟩, ⟨9, _, _, [], []⟩, ⟨10, _, _, [], [π h.n]⟩, ⟨11, _, _, [π h.n], [π (h.n + 1)]⟩, ⟨12, _, _, [], []⟩, ⟨13, _, _, [π 5], [π 5]⟩] rfl (by rw [z0, z5, q0, q1]; kernel_rfl), ?_⟩
        conv => whnf
        refine ⟨((j + 1 : Nat) : Int), by rw [wrap_eq (by omega) (by omega)]; omega, ?_⟩
        conv => whnf
        have keep : ∀ (x : AB) (i : Nat), i < h.n → i ≠ 5 → Heap.at (G.set .dead 5 x) i = Heap.at h i := fun x i hi hne => (at_set_ne _ _ hne).trans (hold i hi (fun e => by simp [outId] at e))
        exact ⟨s.looks.length - (j + 1), by omega, j + 1, _, _, hj2, rfl, (keep _ 0 (by omega) (by omega)).trans b0, (keep _ 2 (by omega) (by omega)).trans b2, (keep _ 3 (by omega) (by omega)).trans b3, (keep _ 4 (by omega) (by omega)).trans b4, at_set_self _ _ (by omega), (keep _ ox (by omega) (by omega)).trans bX, (keep _ oy (by omega) (by omega)).trans bY, by rw [TMap.set_n]; omega,
          by rw [htk]; exact hR'.set (fun e => by have := hfresh _ e; omega) _, fun o' e => by have := hfresh o' e; omega, rfl, ⟨rfl, rfl, rfl, rfl, rfl, rfl, rfl, rfl, rfl, rfl, rfl, trivial⟩, rfl, rfl, rfl, rfl⟩
      · have hoO := hO o rfl
        have hx := append_grow (P := Try.prog) (rd := Heap.at (h.push .dead (.blk ((rowLk l).map .c)))) (fresh := h.n + 1) (ts := #[27, 27]) (id := o) (len := ((s.looks.reverse.take j).map rowLk).length) rfl rfl U27 U27 rfl S58 (first_own (id := h.n) (sz := 3) (len := 1) (cap := 1) (at_push_self _ _) rfl) rfl (by decide) (by rw [hrl']; unfold limit; omega) (by rw [at_push, if_neg (by omega)]; exact hob) (by rw [List.length_map, flat_len _ rowLk_len])
        obtain rfl := Option.some.inj (hrr.symm.trans hx)
        have nG : G.n = h.n + 2 := by rw [← hG]; rfl
        conv => whnf
        refine draw_by (hm := false) (by kernel_rfl) (by kernel_rfl) ?_
        conv => whnf
        refine ⟨_, b5, ?_⟩
        conv => whnf
        refine ⟨_, b0, ?_⟩
        conv => whnf
        refine ⟨(s.looks.length : Int) - 1, by rw [wrap_eq (by omega) (by omega)]; omega, ?_⟩
        conv => whnf
        refine ⟨((s.looks.length - 1 - j : Nat) : Int), by rw [wrap_eq (by omega) (by omega)]; omega, ?_⟩
        conv => whnf
        refine ⟨⟨by omega, by omega⟩, ?_⟩
        conv => whnf
        refine ⟨_, hv.looks.look hl, ?_⟩
        conv => whnf
        refine dgot (H := G) (got_app rfl hx) (by rw [List.all_cons, List.all_nil, Bool.and_true]; exact decide_eq_true (show o < h.n + 1 by omega)) hG ?_
        conv => whnf
        refine ⟨_, (hold 5 (by omega) (fun e => by simp [outId] at e; omega)).trans b5, ?_⟩
        conv => whnf
        refine ⟨(show 5 < G.n by omega), ?_⟩
        conv => whnf
        obtain ⟨π, z0, z5, q0, q1, q2⟩ : ∃ π : Nat → Nat, π 0 = 0 ∧ π 5 = 1 ∧ π h.n = 2 ∧ π (h.n + 1) = 3 ∧ π o = 4 := ⟨fun x => if x = 0 then 0 else if x = 5 then 1 else if x = h.n then 2 else if x = h.n + 1 then 3 else 4, by dsimp only; rw [if_pos rfl], by dsimp only; rw [if_neg (by omega), if_pos rfl], by dsimp only; rw [if_neg (by omega), if_neg (by omega), if_pos rfl], by dsimp only; rw [if_neg (by omega), if_neg (by omega), if_neg (by omega), if_pos rfl], by dsimp only; rw [if_neg (by omega), if_neg (by omega), if_neg (by omega), if_neg (by omega)]⟩
        refine ⟨pairs_via π [⟨0, _, _, [], []⟩, ⟨1, _, _, [π 5], []⟩, ⟨2, _, _, [], []⟩, ⟨3, _, _, [π 0], []⟩, ⟨4, _, _, [], []⟩, ⟨5, _, _, [], []⟩, ⟨6, _, _, [], []⟩, ⟨7, _, _, [], []⟩, ⟨8, _, _, [], []⟩, ⟨9, _, _, [], []⟩, ⟨10, _, _, [], [π h.n]⟩, ⟨11, _, _, [π o, π h.n], [π o, π (h.n + 1)]⟩, ⟨12, _, _, [], []⟩, ⟨13, _, _, [π 5], [π 5]⟩] rfl (by rw [z0, z5, q0, q1, q2]; kernel_rfl), ?_⟩
        conv => whnf
        refine ⟨((j + 1 : Nat) : Int), by rw [wrap_eq (by omega) (by omega)]; omega, ?_⟩
        conv => whnf
        have keep : ∀ (x : AB) (i : Nat), i < h.n → i ≠ 5 → i ≠ o → Heap.at (G.set .dead 5 x) i = Heap.at h i := fun x i hi hne n2 => (at_set_ne _ _ hne).trans (hold i hi (fun e => by simp [outId] at e; omega))
        exact ⟨s.looks.length - (j + 1), by omega, j + 1, _, _, hj2, rfl, (keep _ 0 (by omega) (by omega) (by omega)).trans b0, (keep _ 2 (by omega) (by omega) (by omega)).trans b2, (keep _ 3 (by omega) (by omega) (by omega)).trans b3, (keep _ 4 (by omega) (by omega) (by omega)).trans b4, at_set_self _ _ (by omega), (keep _ ox (by omega) (by omega) (by omega)).trans bX, (keep _ oy (by omega) (by omega) (by omega)).trans bY, by rw [TMap.set_n]; omega,
          by rw [htk]; exact hR'.set (fun e => by have := hfresh _ e; omega) _, fun o' e => by have := hfresh o' e; omega, rfl, ⟨rfl, rfl, rfl, rfl, rfl, rfl, rfl, rfl, rfl, rfl, rfl, trivial⟩, rfl, rfl, rfl, rfl⟩
    have hje : j = s.looks.length := by simp at hc; omega
    rw [hje, List.take_of_length_le (by rw [List.length_reverse]; omega)] at hR
    conv => whnf
    exact ⟨h, out, b0, b2, b3, b4, b5, bX, bY, lY, hR, rfl, ⟨rfl, rfl, rfl, rfl, rfl, rfl, rfl, rfl, trivial⟩, rfl, rfl, rfl, rfl⟩
  clear hs1 b0 b2 b3 b4 b5 bX bY lY h st
  rintro st ⟨h, out, b0, b2, b3, b4, b5, bX, bY, lY, hR, hs1⟩
  refine hs1.then ?_
  conv => whnf
  have hsh := hR.shape
  refine then_via (hm := false) (fun st => ∃ (h : Heap) (out : AV) (cr ck cl : Nat), Heap.at h 0 = v.blk ∧ Heap.at h 2 = lkBlk v (.msl ox 3 0 (s.looks ++ [ex]).length (s.looks ++ [ex]).length) ∧ Heap.at h 3 = lkBlk v (.msl oy 3 0 s.looks.length s.looks.length) ∧ Heap.at h 4 = (lessV v kind up).blk ∧ Heap.at h 5 = lkBlk v out ∧
      Heap.at h ox = lkB (s.looks ++ [ex]) ∧ Heap.at h oy = lkB (tightL s.looks q) ∧ RowsL 3 h out (s.looks.reverse.map rowLk) ∧ Heap.at h cr = .blk ((s.runs.map rowRu).flatten.map AV.c) ∧ Heap.at h ck = .blk ((s.sheep.map rowK).flatten.map AV.c) ∧ Heap.at h cl = .blk ((s.looks.map rowLk).flatten.map AV.c) ∧ (5 < h.n ∧ oy < h.n ∧ cr < h.n ∧ ck < h.n ∧ cl < h.n) ∧
      Has st 409 [(5, .ptr 0 0), (12, .c (I mn)), (13, .c (I kind)), (14, .c (I rn)), (15, .ptr 2 0), (16, .ptr 3 0), (17, .ptr 4 0), (18, .ptr 5 0), (22, .msl cr 2 0 s.runs.length s.runs.length), (23, .msl ck 1 0 s.sheep.length s.sheep.length), (24, .msl cl 3 0 s.looks.length s.looks.length)] [] none h) ?_ ?_
  · have hfr := fun rd => hv.r.first (fun r hr => by obtain ⟨x, _, rfl⟩ := List.mem_map.1 hr; rfl) rd
    have hfk := fun rd => hv.k.first (fun r hr => by obtain ⟨x, _, rfl⟩ := List.mem_map.1 hr; rfl) rd
    have hfl := fun rd => hv.l.first rowLk_len rd
    have hcr : ((s.runs.map rowRu).flatten.map AV.c).all AV.cellish = true := ints_cellish (fun r hr => by obtain ⟨x, _, rfl⟩ := List.mem_map.1 hr; exact ⟨[x.start, x.bell], rfl⟩)
    have hck : ((s.sheep.map rowK).flatten.map AV.c).all AV.cellish = true := ints_cellish (fun r hr => by obtain ⟨x, _, rfl⟩ := List.mem_map.1 hr; exact ⟨[x], rfl⟩)
    have hcl : ((s.looks.map rowLk).flatten.map AV.c).all AV.cellish = true := ints_cellish (fun r hr => by obtain ⟨x, _, rfl⟩ := List.mem_map.1 hr; exact ⟨[x.minute, x.lo, x.hi], rfl⟩)
    have hnr : (s.runs.map rowRu).length ≠ 0 := by rw [List.length_map]; omega
    have hlr : 0 + (s.runs.map rowRu).length ≤ limit := by rw [List.length_map]; unfold limit; omega
    have hlk : 0 + (s.sheep.map rowK).length ≤ limit := by rw [List.length_map]; unfold limit; omega
    have hll : 0 + (s.looks.map rowLk).length ≤ limit := by rw [List.length_map]; unfold limit; omega
    have e0 : s.runs.length = 0 + (s.runs.map rowRu).length := by rw [List.length_map]; omega
    obtain ⟨G1, hG1⟩ : ∃ G1 : Heap, G1 = ((h.push .dead (.blk [])).set .dead h.n .dead).push .dead (.blk ([] ++ ((s.runs.map rowRu).flatten.map AV.c))) := ⟨_, rfl⟩
    have n1 : G1.n = h.n + 2 := by rw [hG1]; rfl
    have F1 : Foot none' h G1 := by rw [hG1]; exact (Foot.set ((Foot.refl _ _).push _) (.inr (by omega)) _).push _
    have a1 : Heap.at G1 (h.n + 1) = .blk ((s.runs.map rowRu).flatten.map AV.c) := by rw [hG1]; exact at_push_self _ _
    by_cases hks : s.sheep = []
    · by_cases hls : s.looks = []
      · have hk0 : s.sheep.length = 0 := by rw [hks]; rfl
        have hfkn : ∀ rd : Nat → AB, firstCells rd 1 (.c (.sl v.kc v.ko v.kn)) = some ([], 0, []) := fun rd => by rw [hfk rd, hks]; rfl
        have hl0 : s.looks.length = 0 := by rw [hls]; rfl
        have hfln : ∀ rd : Nat → AB, firstCells rd 3 (.c (.sl v.lc v.lo' v.ln)) = some ([], 0, []) := fun rd => by rw [hfl rd, hls]; rfl
        obtain ⟨G3, hG3⟩ : ∃ G3 : Heap, G3 = G1.push .dead (.blk []) := ⟨_, rfl⟩
        have n3 : G3.n = G1.n + 1 := by rw [hG3]; rfl
        have F3 : Foot none' h G3 := by rw [hG3]; exact F1.push _
        have a3 : Heap.at G3 G1.n = .blk ((s.sheep.map rowK).flatten.map AV.c) := by rw [hG3, hks]; exact at_push_self _ _
        have k3 : ∀ i, i < G1.n → Heap.at G3 i = Heap.at G1 i := fun i hi => by rw [hG3]; exact at_push_lt _ _ hi
        obtain ⟨G5, hG5⟩ : ∃ G5 : Heap, G5 = G3.push .dead (.blk []) := ⟨_, rfl⟩
        have n5 : G5.n = G3.n + 1 := by rw [hG5]; rfl
        have F5 : Foot none' h G5 := by rw [hG5]; exact F3.push _
        have a5 : Heap.at G5 G3.n = .blk ((s.looks.map rowLk).flatten.map AV.c) := by rw [hG5, hls]; exact at_push_self _ _
        have k5 : ∀ i, i < G3.n → Heap.at G5 i = Heap.at G3 i := fun i hi => by rw [hG5]; exact at_push_lt _ _ hi
        conv => whnf
        refine draw_by (hm := false) (by kernel_rfl) (by kernel_rfl) ?_
        conv => whnf
        refine ⟨_, (at_push_lt _ _ (by omega)).trans b0, ?_⟩
        conv => whnf
        refine dgot (H := G1) (append_grow (id := h.n) (len := 0) (cells := []) rfl rfl U25 U25 rfl S50 (hfr _) hcr hnr hlr (at_push_self _ _) rfl) (by rw [List.all_cons, List.all_nil, Bool.and_true]; exact decide_eq_true (show h.n < h.n + 1 by omega)) hG1.symm ?_
        conv => whnf
        refine ⟨_, (at_push_lt _ _ (by omega)).trans ((F1.keep 0 (by omega) (fun x => x)).trans b0), ?_⟩
        conv => whnf
        refine dgot (H := G3) (append_none (id := G1.n) (len := 0) (cap := 0) rfl rfl U26 U26 rfl S3 (hfkn _)) rfl hG3.symm ?_
        conv => whnf
        refine ⟨_, (at_push_lt _ _ (by omega)).trans ((F3.keep 0 (by omega) (fun x => x)).trans b0), ?_⟩
        conv => whnf
        refine dgot (H := G5) (append_none (id := G3.n) (len := 0) (cap := 0) rfl rfl U27 U27 rfl S58 (hfln _)) rfl hG5.symm ?_
        conv => whnf
        obtain ⟨π, z0, q0, q1, q2, q4⟩ : ∃ π : Nat → Nat, π 0 = 0 ∧ π h.n = 1 ∧ π (h.n + 1) = 2 ∧ π G1.n = 3 ∧ π G3.n = 5 := ⟨fun x => if x = 0 then 0 else if x = h.n then 1 else if x = h.n + 1 then 2 else if x = G1.n then 3 else 5, by dsimp only; rw [if_pos rfl], by dsimp only; rw [if_neg (by omega), if_pos rfl], by dsimp only; rw [if_neg (by omega), if_neg (by omega), if_pos rfl], by dsimp only; rw [if_neg (by omega), if_neg (by omega), if_neg (by omega), if_pos rfl], by dsimp only; rw [if_neg (by omega), if_neg (by omega), if_neg (by omega), if_neg (by omega)]⟩
        refine ⟨pairs_via π [⟨0, _, _, [], [π h.n]⟩, ⟨1, _, _, [], []⟩, ⟨2, _, _, [π 0], []⟩, ⟨3, _, _, [π h.n], [π h.n, π (h.n + 1)]⟩, ⟨4, _, _, [], [π G1.n]⟩, ⟨5, _, _, [], []⟩, ⟨6, _, _, [π 0], []⟩, ⟨7, _, _, [], []⟩, ⟨8, _, _, [], [π G3.n]⟩, ⟨9, _, _, [], []⟩, ⟨10, _, _, [π 0], []⟩, ⟨11, _, _, [], []⟩, ⟨12, _, _, [], []⟩, ⟨13, _, _, [], []⟩, ⟨14, _, _, [], []⟩] rfl (by rw [z0, q0, q1, q2, q4]; kernel_rfl), ?_⟩
        conv => whnf
        exact ⟨G5, out, h.n + 1, G1.n, G3.n, (F5.keep 0 (by omega) (fun x => x)).trans b0, (F5.keep 2 (by omega) (fun x => x)).trans b2, (F5.keep 3 (by omega) (fun x => x)).trans b3, (F5.keep 4 (by omega) (fun x => x)).trans b4, (F5.keep 5 (by omega) (fun x => x)).trans b5, (F5.keep ox (by omega) (fun x => x)).trans bX, (F5.keep oy lY (fun x => x)).trans bY,
          hR.ext F5.n (fun i hi _ => F5.keep i hi (fun x => x)), ((k5 _ (by omega)).trans ((k3 _ (by omega)).trans a1)), (k5 _ (by omega)).trans a3, a5, ⟨by omega, by omega, by omega, by omega, by omega⟩, rfl, by rw [hk0, hl0, e0]; exact ⟨rfl, rfl, rfl, rfl, rfl, rfl, rfl, rfl, rfl, rfl, rfl, trivial⟩, rfl, rfl, rfl, rfl⟩
      · have hk0 : s.sheep.length = 0 := by rw [hks]; rfl
        have hfkn : ∀ rd : Nat → AB, firstCells rd 1 (.c (.sl v.kc v.ko v.kn)) = some ([], 0, []) := fun rd => by rw [hfk rd, hks]; rfl
        have hl0 : s.looks.length = 0 + (s.looks.map rowLk).length := by rw [List.length_map]; omega
        obtain ⟨G3, hG3⟩ : ∃ G3 : Heap, G3 = G1.push .dead (.blk []) := ⟨_, rfl⟩
        have n3 : G3.n = G1.n + 1 := by rw [hG3]; rfl
        have F3 : Foot none' h G3 := by rw [hG3]; exact F1.push _
        have a3 : Heap.at G3 G1.n = .blk ((s.sheep.map rowK).flatten.map AV.c) := by rw [hG3, hks]; exact at_push_self _ _
        have k3 : ∀ i, i < G1.n → Heap.at G3 i = Heap.at G1 i := fun i hi => by rw [hG3]; exact at_push_lt _ _ hi
        obtain ⟨G5, hG5⟩ : ∃ G5 : Heap, G5 = ((G3.push .dead (.blk [])).set .dead G3.n .dead).push .dead (.blk ([] ++ ((s.looks.map rowLk).flatten.map AV.c))) := ⟨_, rfl⟩
        have n5 : G5.n = G3.n + 2 := by rw [hG5]; rfl
        have F5 : Foot none' h G5 := by rw [hG5]; exact (Foot.set (F3.push _) (.inr (by omega)) _).push _
        have a5 : Heap.at G5 (G3.n + 1) = .blk ((s.looks.map rowLk).flatten.map AV.c) := by rw [hG5]; exact at_push_self _ _
        have k5 : ∀ i, i < G3.n → Heap.at G5 i = Heap.at G3 i := fun i hi => by rw [hG5]; exact (at_push_lt _ _ (show i < G3.n + 1 by omega)).trans ((at_set_ne _ _ (by omega)).trans (at_push_lt _ _ hi))
        conv => whnf
        refine draw_by (hm := false) (by kernel_rfl) (by kernel_rfl) ?_
        conv => whnf
        refine ⟨_, (at_push_lt _ _ (by omega)).trans b0, ?_⟩
        conv => whnf
        refine dgot (H := G1) (append_grow (id := h.n) (len := 0) (cells := []) rfl rfl U25 U25 rfl S50 (hfr _) hcr hnr hlr (at_push_self _ _) rfl) (by rw [List.all_cons, List.all_nil, Bool.and_true]; exact decide_eq_true (show h.n < h.n + 1 by omega)) hG1.symm ?_
        conv => whnf
        refine ⟨_, (at_push_lt _ _ (by omega)).trans ((F1.keep 0 (by omega) (fun x => x)).trans b0), ?_⟩
        conv => whnf
        refine dgot (H := G3) (append_none (id := G1.n) (len := 0) (cap := 0) rfl rfl U26 U26 rfl S3 (hfkn _)) rfl hG3.symm ?_
        conv => whnf
        refine ⟨_, (at_push_lt _ _ (by omega)).trans ((F3.keep 0 (by omega) (fun x => x)).trans b0), ?_⟩
        conv => whnf
        refine dgot (H := G5) (append_grow (id := G3.n) (len := 0) (cells := []) rfl rfl U27 U27 rfl S58 (hfl _) hcl (by rw [List.length_map]; exact fun e => hls (List.length_eq_zero_iff.1 e)) hll (at_push_self _ _) rfl) (by rw [List.all_cons, List.all_nil, Bool.and_true]; exact decide_eq_true (show G3.n < G3.n + 1 by omega)) hG5.symm ?_
        conv => whnf
        obtain ⟨π, z0, q0, q1, q2, q4, q5⟩ : ∃ π : Nat → Nat, π 0 = 0 ∧ π h.n = 1 ∧ π (h.n + 1) = 2 ∧ π G1.n = 3 ∧ π G3.n = 5 ∧ π (G3.n + 1) = 6 := ⟨fun x => if x = 0 then 0 else if x = h.n then 1 else if x = h.n + 1 then 2 else if x = G1.n then 3 else if x = G3.n then 5 else 6, by dsimp only; rw [if_pos rfl], by dsimp only; rw [if_neg (by omega), if_pos rfl], by dsimp only; rw [if_neg (by omega), if_neg (by omega), if_pos rfl], by dsimp only; rw [if_neg (by omega), if_neg (by omega), if_neg (by omega), if_pos rfl], by dsimp only; rw [if_neg (by omega), if_neg (by omega), if_neg (by omega), if_neg (by omega), if_pos rfl], by dsimp only; rw [if_neg (by omega), if_neg (by omega), if_neg (by omega), if_neg (by omega), if_neg (by omega)]⟩
        refine ⟨pairs_via π [⟨0, _, _, [], [π h.n]⟩, ⟨1, _, _, [], []⟩, ⟨2, _, _, [π 0], []⟩, ⟨3, _, _, [π h.n], [π h.n, π (h.n + 1)]⟩, ⟨4, _, _, [], [π G1.n]⟩, ⟨5, _, _, [], []⟩, ⟨6, _, _, [π 0], []⟩, ⟨7, _, _, [], []⟩, ⟨8, _, _, [], [π G3.n]⟩, ⟨9, _, _, [], []⟩, ⟨10, _, _, [π 0], []⟩, ⟨11, _, _, [π G3.n], [π G3.n, π (G3.n + 1)]⟩, ⟨12, _, _, [], []⟩, ⟨13, _, _, [], []⟩, ⟨14, _, _, [], []⟩] rfl (by rw [z0, q0, q1, q2, q4, q5]; kernel_rfl), ?_⟩
        conv => whnf
        exact ⟨G5, out, h.n + 1, G1.n, (G3.n + 1), (F5.keep 0 (by omega) (fun x => x)).trans b0, (F5.keep 2 (by omega) (fun x => x)).trans b2, (F5.keep 3 (by omega) (fun x => x)).trans b3, (F5.keep 4 (by omega) (fun x => x)).trans b4, (F5.keep 5 (by omega) (fun x => x)).trans b5, (F5.keep ox (by omega) (fun x => x)).trans bX, (F5.keep oy lY (fun x => x)).trans bY,
          hR.ext F5.n (fun i hi _ => F5.keep i hi (fun x => x)), ((k5 _ (by omega)).trans ((k3 _ (by omega)).trans a1)), (k5 _ (by omega)).trans a3, a5, ⟨by omega, by omega, by omega, by omega, by omega⟩, rfl, by rw [hk0, hl0, e0]; exact ⟨rfl, rfl, rfl, rfl, rfl, rfl, rfl, rfl, rfl, rfl, rfl, trivial⟩, rfl, rfl, rfl, rfl⟩
    · by_cases hls : s.looks = []
      · have hk0 : s.sheep.length = 0 + (s.sheep.map rowK).length := by rw [List.length_map]; omega
        have hl0 : s.looks.length = 0 := by rw [hls]; rfl
        have hfln : ∀ rd : Nat → AB, firstCells rd 3 (.c (.sl v.lc v.lo' v.ln)) = some ([], 0, []) := fun rd => by rw [hfl rd, hls]; rfl
        obtain ⟨G3, hG3⟩ : ∃ G3 : Heap, G3 = ((G1.push .dead (.blk [])).set .dead G1.n .dead).push .dead (.blk ([] ++ ((s.sheep.map rowK).flatten.map AV.c))) := ⟨_, rfl⟩
        have n3 : G3.n = G1.n + 2 := by rw [hG3]; rfl
        have F3 : Foot none' h G3 := by rw [hG3]; exact (Foot.set (F1.push _) (.inr (by omega)) _).push _
        have a3 : Heap.at G3 (G1.n + 1) = .blk ((s.sheep.map rowK).flatten.map AV.c) := by rw [hG3]; exact at_push_self _ _
        have k3 : ∀ i, i < G1.n → Heap.at G3 i = Heap.at G1 i := fun i hi => by rw [hG3]; exact (at_push_lt _ _ (show i < G1.n + 1 by omega)).trans ((at_set_ne _ _ (by omega)).trans (at_push_lt _ _ hi))
        obtain ⟨G5, hG5⟩ : ∃ G5 : Heap, G5 = G3.push .dead (.blk []) := ⟨_, rfl⟩
        have n5 : G5.n = G3.n + 1 := by rw [hG5]; rfl
        have F5 : Foot none' h G5 := by rw [hG5]; exact F3.push _
        have a5 : Heap.at G5 G3.n = .blk ((s.looks.map rowLk).flatten.map AV.c) := by rw [hG5, hls]; exact at_push_self _ _
        have k5 : ∀ i, i < G3.n → Heap.at G5 i = Heap.at G3 i := fun i hi => by rw [hG5]; exact at_push_lt _ _ hi
        conv => whnf
        refine draw_by (hm := false) (by kernel_rfl) (by kernel_rfl) ?_
        conv => whnf
        refine ⟨_, (at_push_lt _ _ (by omega)).trans b0, ?_⟩
        conv => whnf
        refine dgot (H := G1) (append_grow (id := h.n) (len := 0) (cells := []) rfl rfl U25 U25 rfl S50 (hfr _) hcr hnr hlr (at_push_self _ _) rfl) (by rw [List.all_cons, List.all_nil, Bool.and_true]; exact decide_eq_true (show h.n < h.n + 1 by omega)) hG1.symm ?_
        conv => whnf
        refine ⟨_, (at_push_lt _ _ (by omega)).trans ((F1.keep 0 (by omega) (fun x => x)).trans b0), ?_⟩
        conv => whnf
        refine dgot (H := G3) (append_grow (id := G1.n) (len := 0) (cells := []) rfl rfl U26 U26 rfl S3 (hfk _) hck (by rw [List.length_map]; exact fun e => hks (List.length_eq_zero_iff.1 e)) hlk (at_push_self _ _) rfl) (by rw [List.all_cons, List.all_nil, Bool.and_true]; exact decide_eq_true (show G1.n < G1.n + 1 by omega)) hG3.symm ?_
        conv => whnf
        refine ⟨_, (at_push_lt _ _ (by omega)).trans ((F3.keep 0 (by omega) (fun x => x)).trans b0), ?_⟩
        conv => whnf
        refine dgot (H := G5) (append_none (id := G3.n) (len := 0) (cap := 0) rfl rfl U27 U27 rfl S58 (hfln _)) rfl hG5.symm ?_
        conv => whnf
        obtain ⟨π, z0, q0, q1, q2, q3, q4⟩ : ∃ π : Nat → Nat, π 0 = 0 ∧ π h.n = 1 ∧ π (h.n + 1) = 2 ∧ π G1.n = 3 ∧ π (G1.n + 1) = 4 ∧ π G3.n = 5 := ⟨fun x => if x = 0 then 0 else if x = h.n then 1 else if x = h.n + 1 then 2 else if x = G1.n then 3 else if x = G1.n + 1 then 4 else 5, by dsimp only; rw [if_pos rfl], by dsimp only; rw [if_neg (by omega), if_pos rfl], by dsimp only; rw [if_neg (by omega), if_neg (by omega), if_pos rfl], by dsimp only; rw [if_neg (by omega), if_neg (by omega), if_neg (by omega), if_pos rfl], by dsimp only; rw [if_neg (by omega), if_neg (by omega), if_neg (by omega), if_neg (by omega), if_pos rfl], by dsimp only; rw [if_neg (by omega), if_neg (by omega), if_neg (by omega), if_neg (by omega), if_neg (by omega)]⟩
        refine ⟨pairs_via π [⟨0, _, _, [], [π h.n]⟩, ⟨1, _, _, [], []⟩, ⟨2, _, _, [π 0], []⟩, ⟨3, _, _, [π h.n], [π h.n, π (h.n + 1)]⟩, ⟨4, _, _, [], [π G1.n]⟩, ⟨5, _, _, [], []⟩, ⟨6, _, _, [π 0], []⟩, ⟨7, _, _, [π G1.n], [π G1.n, π (G1.n + 1)]⟩, ⟨8, _, _, [], [π G3.n]⟩, ⟨9, _, _, [], []⟩, ⟨10, _, _, [π 0], []⟩, ⟨11, _, _, [], []⟩, ⟨12, _, _, [], []⟩, ⟨13, _, _, [], []⟩, ⟨14, _, _, [], []⟩] rfl (by rw [z0, q0, q1, q2, q3, q4]; kernel_rfl), ?_⟩
        conv => whnf
        exact ⟨G5, out, h.n + 1, (G1.n + 1), G3.n, (F5.keep 0 (by omega) (fun x => x)).trans b0, (F5.keep 2 (by omega) (fun x => x)).trans b2, (F5.keep 3 (by omega) (fun x => x)).trans b3, (F5.keep 4 (by omega) (fun x => x)).trans b4, (F5.keep 5 (by omega) (fun x => x)).trans b5, (F5.keep ox (by omega) (fun x => x)).trans bX, (F5.keep oy lY (fun x => x)).trans bY,
          hR.ext F5.n (fun i hi _ => F5.keep i hi (fun x => x)), ((k5 _ (by omega)).trans ((k3 _ (by omega)).trans a1)), (k5 _ (by omega)).trans a3, a5, ⟨by omega, by omega, by omega, by omega, by omega⟩, rfl, by rw [hk0, hl0, e0]; exact ⟨rfl, rfl, rfl, rfl, rfl, rfl, rfl, rfl, rfl, rfl, rfl, trivial⟩, rfl, rfl, rfl, rfl⟩
      · have hk0 : s.sheep.length = 0 + (s.sheep.map rowK).length := by rw [List.length_map]; omega
        have hl0 : s.looks.length = 0 + (s.looks.map rowLk).length := by rw [List.length_map]; omega
        obtain ⟨G3, hG3⟩ : ∃ G3 : Heap, G3 = ((G1.push .dead (.blk [])).set .dead G1.n .dead).push .dead (.blk ([] ++ ((s.sheep.map rowK).flatten.map AV.c))) := ⟨_, rfl⟩
        have n3 : G3.n = G1.n + 2 := by rw [hG3]; rfl
        have F3 : Foot none' h G3 := by rw [hG3]; exact (Foot.set (F1.push _) (.inr (by omega)) _).push _
        have a3 : Heap.at G3 (G1.n + 1) = .blk ((s.sheep.map rowK).flatten.map AV.c) := by rw [hG3]; exact at_push_self _ _
        have k3 : ∀ i, i < G1.n → Heap.at G3 i = Heap.at G1 i := fun i hi => by rw [hG3]; exact (at_push_lt _ _ (show i < G1.n + 1 by omega)).trans ((at_set_ne _ _ (by omega)).trans (at_push_lt _ _ hi))
        obtain ⟨G5, hG5⟩ : ∃ G5 : Heap, G5 = ((G3.push .dead (.blk [])).set .dead G3.n .dead).push .dead (.blk ([] ++ ((s.looks.map rowLk).flatten.map AV.c))) := ⟨_, rfl⟩
        have n5 : G5.n = G3.n + 2 := by rw [hG5]; rfl
        have F5 : Foot none' h G5 := by rw [hG5]; exact (Foot.set (F3.push _) (.inr (by omega)) _).push _
        have a5 : Heap.at G5 (G3.n + 1) = .blk ((s.looks.map rowLk).flatten.map AV.c) := by rw [hG5]; exact at_push_self _ _
        have k5 : ∀ i, i < G3.n → Heap.at G5 i = Heap.at G3 i := fun i hi => by rw [hG5]; exact (at_push_lt _ _ (show i < G3.n + 1 by omega)).trans ((at_set_ne _ _ (by omega)).trans (at_push_lt _ _ hi))
        conv => whnf
        refine draw_by (hm := false) (by kernel_rfl) (by kernel_rfl) ?_
        conv => whnf
        refine ⟨_, (at_push_lt _ _ (by omega)).trans b0, ?_⟩
        conv => whnf
        refine dgot (H := G1) (append_grow (id := h.n) (len := 0) (cells := []) rfl rfl U25 U25 rfl S50 (hfr _) hcr hnr hlr (at_push_self _ _) rfl) (by rw [List.all_cons, List.all_nil, Bool.and_true]; exact decide_eq_true (show h.n < h.n + 1 by omega)) hG1.symm ?_
        conv => whnf
        refine ⟨_, (at_push_lt _ _ (by omega)).trans ((F1.keep 0 (by omega) (fun x => x)).trans b0), ?_⟩
        conv => whnf
        refine dgot (H := G3) (append_grow (id := G1.n) (len := 0) (cells := []) rfl rfl U26 U26 rfl S3 (hfk _) hck (by rw [List.length_map]; exact fun e => hks (List.length_eq_zero_iff.1 e)) hlk (at_push_self _ _) rfl) (by rw [List.all_cons, List.all_nil, Bool.and_true]; exact decide_eq_true (show G1.n < G1.n + 1 by omega)) hG3.symm ?_
        conv => whnf
        refine ⟨_, (at_push_lt _ _ (by omega)).trans ((F3.keep 0 (by omega) (fun x => x)).trans b0), ?_⟩
        conv => whnf
        refine dgot (H := G5) (append_grow (id := G3.n) (len := 0) (cells := []) rfl rfl U27 U27 rfl S58 (hfl _) hcl (by rw [List.length_map]; exact fun e => hls (List.length_eq_zero_iff.1 e)) hll (at_push_self _ _) rfl) (by rw [List.all_cons, List.all_nil, Bool.and_true]; exact decide_eq_true (show G3.n < G3.n + 1 by omega)) hG5.symm ?_
        conv => whnf
        obtain ⟨π, z0, q0, q1, q2, q3, q4, q5⟩ : ∃ π : Nat → Nat, π 0 = 0 ∧ π h.n = 1 ∧ π (h.n + 1) = 2 ∧ π G1.n = 3 ∧ π (G1.n + 1) = 4 ∧ π G3.n = 5 ∧ π (G3.n + 1) = 6 := ⟨fun x => if x = 0 then 0 else if x = h.n then 1 else if x = h.n + 1 then 2 else if x = G1.n then 3 else if x = G1.n + 1 then 4 else if x = G3.n then 5 else 6, by dsimp only; rw [if_pos rfl], by dsimp only; rw [if_neg (by omega), if_pos rfl], by dsimp only; rw [if_neg (by omega), if_neg (by omega), if_pos rfl], by dsimp only; rw [if_neg (by omega), if_neg (by omega), if_neg (by omega), if_pos rfl], by dsimp only; rw [if_neg (by omega), if_neg (by omega), if_neg (by omega), if_neg (by omega), if_pos rfl], by dsimp only; rw [if_neg (by omega), if_neg (by omega), if_neg (by omega), if_neg (by omega), if_neg (by omega), if_pos rfl], by dsimp only; rw [if_neg (by omega), if_neg (by omega), if_neg (by omega), if_neg (by omega), if_neg (by omega), if_neg (by omega)]⟩
        refine ⟨pairs_via π [⟨0, _, _, [], [π h.n]⟩, ⟨1, _, _, [], []⟩, ⟨2, _, _, [π 0], []⟩, ⟨3, _, _, [π h.n], [π h.n, π (h.n + 1)]⟩, ⟨4, _, _, [], [π G1.n]⟩, ⟨5, _, _, [], []⟩, ⟨6, _, _, [π 0], []⟩, ⟨7, _, _, [π G1.n], [π G1.n, π (G1.n + 1)]⟩, ⟨8, _, _, [], [π G3.n]⟩, ⟨9, _, _, [], []⟩, ⟨10, _, _, [π 0], []⟩, ⟨11, _, _, [π G3.n], [π G3.n, π (G3.n + 1)]⟩, ⟨12, _, _, [], []⟩, ⟨13, _, _, [], []⟩, ⟨14, _, _, [], []⟩] rfl (by rw [z0, q0, q1, q2, q3, q4, q5]; kernel_rfl), ?_⟩
        conv => whnf
        exact ⟨G5, out, h.n + 1, (G1.n + 1), (G3.n + 1), (F5.keep 0 (by omega) (fun x => x)).trans b0, (F5.keep 2 (by omega) (fun x => x)).trans b2, (F5.keep 3 (by omega) (fun x => x)).trans b3, (F5.keep 4 (by omega) (fun x => x)).trans b4, (F5.keep 5 (by omega) (fun x => x)).trans b5, (F5.keep ox (by omega) (fun x => x)).trans bX, (F5.keep oy lY (fun x => x)).trans bY,
          hR.ext F5.n (fun i hi _ => F5.keep i hi (fun x => x)), ((k5 _ (by omega)).trans ((k3 _ (by omega)).trans a1)), (k5 _ (by omega)).trans a3, a5, ⟨by omega, by omega, by omega, by omega, by omega⟩, rfl, by rw [hk0, hl0, e0]; exact ⟨rfl, rfl, rfl, rfl, rfl, rfl, rfl, rfl, rfl, rfl, rfl, trivial⟩, rfl, rfl, rfl, rfl⟩
  clear hs1 b0 b2 b3 b4 b5 bX bY lY hsh hR h st
  rintro st ⟨h, out, cr, ck, cl, b0, b2, b3, b4, b5, bX, bY, hR, cR, cK, cL, ⟨g5, gy, gr, gk, gl⟩, hs1⟩
  refine hs1.then ?_
  conv => whnf
  obtain ⟨a1, a2, bb1, bb2, e, Lt, g, TL, ra, rb, rl⟩ := tl_ex hv hd hm9 hk2 (rn := rn) (by omega)
  have hge : rn ≠ 0 → g = e := fun h0 => by rw [TL.g, if_neg h0]
  repeat (refine then_seq (hm := false) ?_; conv => whnf)
  refine ⟨_, b0, ?_⟩
  conv => whnf
  refine .ret ra rfl ?_
  conv => whnf
  refine ⟨_, at_push_self _ _, ?_⟩
  conv => whnf
  repeat (refine then_seq (hm := false) ?_; conv => whnf)
  refine ⟨_, (at_old _ _ _ (by omega)).trans b0, ?_⟩
  conv => whnf
  refine .ret rb rfl ?_
  conv => whnf
  refine ⟨_, at_push_self _ _, ?_⟩
  conv => whnf
  repeat (refine then_seq (hm := false) ?_; conv => whnf)
  refine ⟨_, (at_old _ _ _ (by rw [new_n]; omega)).trans ((at_old _ _ _ (by omega)).trans b0), ?_⟩
  conv => whnf
  refine .ret rl rfl ?_
  conv => whnf
  obtain ⟨H, hH⟩ : ∃ H : Heap, H = (((h.push .dead (.blk [AV.lit (.int .i64 0), AV.lit (.int .i64 0)])).set .dead h.n (.blk [.c (I a1), .c (I a2)])).push .dead (.blk [AV.lit (.int .i64 0), AV.lit (.int .i64 0)])).set .dead (h.n + 1) (.blk [.c (I bb1), .c (I bb2)]) := ⟨_, rfl⟩
  have FH : Foot none' h H := by rw [hH]; exact (foot_new h _ _).trans (Foot.set ((Foot.refl _ _).push _) (.inr (by rw [new_n]; omega)) _)
  have nH : H.n = h.n + 2 := by rw [hH]; rfl
  have bA : Heap.at H h.n = .blk [.c (I a1), .c (I a2)] := by rw [hH]; exact (at_set_ne _ _ (by omega)).trans ((at_push_lt _ _ (by rw [new_n]; omega)).trans (at_new _ _ _))
  have bB : Heap.at H (h.n + 1) = .blk [.c (I bb1), .c (I bb2)] := by rw [hH]; exact at_set_self _ _ (by rw [push_n, new_n]; omega)
  refine then_via (hm := false) (fun st => ∃ (h : Heap) (ia ib : Nat), Heap.at h 0 = v.blk ∧ Heap.at h 2 = lkBlk v (.msl ox 3 0 (s.looks ++ [ex]).length (s.looks ++ [ex]).length) ∧ Heap.at h 3 = lkBlk v (.msl oy 3 0 s.looks.length s.looks.length) ∧ Heap.at h 4 = (lessV v kind up).blk ∧ Heap.at h 5 = lkBlk v out ∧
      Heap.at h ox = lkB (s.looks ++ [ex]) ∧ Heap.at h oy = lkB (tightL s.looks q) ∧ RowsL 3 h out (s.looks.reverse.map rowLk) ∧ Heap.at h cr = .blk ((s.runs.map rowRu).flatten.map AV.c) ∧ Heap.at h ck = .blk ((s.sheep.map rowK).flatten.map AV.c) ∧ Heap.at h cl = .blk ((s.looks.map rowLk).flatten.map AV.c) ∧
      Heap.at h ia = .blk [.c (I a1), .c (I a2)] ∧ Heap.at h ib = .blk [.c (I bb1), .c (I bb2)] ∧ (5 < h.n ∧ oy < h.n ∧ cr < h.n ∧ ck < h.n ∧ cl < h.n ∧ ia < h.n ∧ ib < h.n) ∧
      Has st 409 [(5, .ptr 0 0), (12, .c (I mn)), (13, .c (I kind)), (14, .c (I rn)), (15, .ptr 2 0), (16, .ptr 3 0), (17, .ptr 4 0), (18, .ptr 5 0), (22, .msl cr 2 0 s.runs.length s.runs.length), (23, .msl ck 1 0 s.sheep.length s.sheep.length), (24, .msl cl 3 0 s.looks.length s.looks.length),
        (25, .c (.func (.func 38) [] [])), (26, .ptr ia 0), (27, .c (I e)), (28, .ptr ib 0), (29, .c (I e)), (30, .c (I Lt))] [] none h) ?_ ?_
  · have done : ∀ st : ASt, Has st 409 [(5, .ptr 0 0), (12, .c (I mn)), (13, .c (I kind)), (14, .c (I rn)), (15, .ptr 2 0), (16, .ptr 3 0), (17, .ptr 4 0), (18, .ptr 5 0), (22, .msl cr 2 0 s.runs.length s.runs.length), (23, .msl ck 1 0 s.sheep.length s.sheep.length), (24, .msl cl 3 0 s.looks.length s.looks.length),
        (25, .c (.func (.func 38) [] [])), (26, .ptr h.n 0), (27, .c (I e)), (28, .ptr (h.n + 1) 0), (29, .c (I e)), (30, .c (I Lt))] [] none H → _ := fun st hst => (⟨H, h.n, h.n + 1, (FH.keep _ (by omega) (fun x => x)).trans b0, (FH.keep _ (by omega) (fun x => x)).trans b2, (FH.keep _ (by omega) (fun x => x)).trans b3, (FH.keep _ (by omega) (fun x => x)).trans b4, (FH.keep _ (by omega) (fun x => x)).trans b5, (FH.keep _ (by omega) (fun x => x)).trans bX, (FH.keep _ gy (fun x => x)).trans bY, hR.ext FH.n (fun i hi _ => FH.keep i hi (fun x => x)),
        (FH.keep _ gr (fun x => x)).trans cR, (FH.keep _ gk (fun x => x)).trans cK, (FH.keep _ gl (fun x => x)).trans cL, bA, bB, by omega, hst⟩ : ∃ (h : Heap) (ia ib : Nat), Heap.at h 0 = v.blk ∧ Heap.at h 2 = lkBlk v (.msl ox 3 0 (s.looks ++ [ex]).length (s.looks ++ [ex]).length) ∧ Heap.at h 3 = lkBlk v (.msl oy 3 0 s.looks.length s.looks.length) ∧ Heap.at h 4 = (lessV v kind up).blk ∧ Heap.at h 5 = lkBlk v out ∧
      Heap.at h ox = lkB (s.looks ++ [ex]) ∧ Heap.at h oy = lkB (tightL s.looks q) ∧ RowsL 3 h out (s.looks.reverse.map rowLk) ∧ Heap.at h cr = .blk ((s.runs.map rowRu).flatten.map AV.c) ∧ Heap.at h ck = .blk ((s.sheep.map rowK).flatten.map AV.c) ∧ Heap.at h cl = .blk ((s.looks.map rowLk).flatten.map AV.c) ∧
      Heap.at h ia = .blk [.c (I a1), .c (I a2)] ∧ Heap.at h ib = .blk [.c (I bb1), .c (I bb2)] ∧ (5 < h.n ∧ oy < h.n ∧ cr < h.n ∧ ck < h.n ∧ cl < h.n ∧ ia < h.n ∧ ib < h.n) ∧
      Has st 409 [(5, .ptr 0 0), (12, .c (I mn)), (13, .c (I kind)), (14, .c (I rn)), (15, .ptr 2 0), (16, .ptr 3 0), (17, .ptr 4 0), (18, .ptr 5 0), (22, .msl cr 2 0 s.runs.length s.runs.length), (23, .msl ck 1 0 s.sheep.length s.sheep.length), (24, .msl cl 3 0 s.looks.length s.looks.length),
        (25, .c (.func (.func 38) [] [])), (26, .ptr ia 0), (27, .c (I e)), (28, .ptr ib 0), (29, .c (I e)), (30, .c (I Lt))] [] none h)
    conv => whnf
    rw [show (e != e) = false by simp]
    conv => whnf
    cases hrn0 : decide ((rn : Int) > 0)
    · conv => whnf
      refine done _ ⟨rfl, ⟨rfl, rfl, rfl, rfl, rfl, rfl, rfl, rfl, rfl, rfl, rfl, rfl, rfl, rfl, rfl, rfl, rfl, trivial⟩, rfl, rfl, rfl, hH.symm⟩
    · rw [hge (by simp at hrn0; omega)]
      conv => whnf
      rw [show (e != e) = false by simp]
      conv => whnf
      refine done _ ⟨rfl, ⟨rfl, rfl, rfl, rfl, rfl, rfl, rfl, rfl, rfl, rfl, rfl, rfl, rfl, rfl, rfl, rfl, rfl, trivial⟩, rfl, rfl, rfl, hH.symm⟩
  clear hs1 b0 b2 b3 b4 b5 bX bY hR cR cK cL g5 gy gr gk gl ra rb rl FH nH bA bB hH H h st
  rintro st ⟨h, ia, ib, b0, b2, b3, b4, b5, bX, bY, hR, cR, cK, cL, bA, bB, ⟨g0, gy, gr, gk, gl, gia, gib⟩, hs1⟩
  refine hs1.then ?_
  conv => whnf
  refine then_via (hm := false) (fun st => ∃ (h : Heap), Heap.at h 0 = v.blk ∧ Heap.at h cr = .blk ((s.runs.map rowRu).flatten.map AV.c) ∧ Heap.at h ck = .blk ((s.sheep.map rowK).flatten.map AV.c) ∧ Heap.at h cl = .blk ((s.looks.map rowLk).flatten.map AV.c) ∧ (0 < h.n ∧ cr < h.n ∧ ck < h.n ∧ cl < h.n) ∧
      Has st 409 [(5, .ptr 0 0), (13, .c (I kind)), (22, .msl cr 2 0 s.runs.length s.runs.length), (23, .msl ck 1 0 s.sheep.length s.sheep.length), (24, .msl cl 3 0 s.looks.length s.looks.length)] [] none h) ?_ ?_
  · rcases hR.shape with rfl | ⟨o, n, rfl⟩
    · conv => whnf
      refine ⟨_, b2, ?_⟩
      conv => whnf
      refine ⟨_, b3, ?_⟩
      conv => whnf
      refine ⟨_, b4, ?_⟩
      conv => whnf
      refine ⟨_, b5, ?_⟩
      conv => whnf
      obtain ⟨G, hG⟩ : ∃ G : Heap, G = h.push .dead (.blk (lkC v (.msl ox 3 0 (s.looks ++ [ex]).length (s.looks ++ [ex]).length) ++ lkC v (.msl oy 3 0 s.looks.length s.looks.length) ++ lkC (lessV v kind up) (.c (.sl (lessV v kind up).lc (lessV v kind up).lo' (lessV v kind up).ln)) ++ lkC v nilA)) := ⟨_, rfl⟩
      have F : Foot none' h G := by rw [hG]; exact (Foot.refl _ _).push _
      have nG : G.n = h.n + 1 := by rw [hG]; rfl
      have k : ∀ i, i < h.n → Heap.at G i = Heap.at h i := fun i hi => F.keep i hi (fun x => x)
      obtain ⟨sb, hsb⟩ : ∃ sb, sb = h.n := ⟨_, rfl⟩
      have EN : En v s ex q ox oy nilA cr ck cl sb ia ib (lkC v (.msl ox 3 0 (s.looks ++ [ex]).length (s.looks ++ [ex]).length) ++ lkC v (.msl oy 3 0 s.looks.length s.looks.length) ++ lkC (lessV v kind up) (.c (.sl (lessV v kind up).lc (lessV v kind up).lo' (lessV v kind up).ln)) ++ lkC v nilA) a1 a2 bb1 bb2 G :=
        ⟨(k _ (by omega)).trans b0, (k _ (by omega)).trans bX, (k _ gy).trans bY, hR.ext F.n (fun i hi _ => k i hi), (k _ gr).trans cR, (k _ gk).trans cK, (k _ gl).trans cL, by rw [hG, hsb]; exact at_push_self _ _, (k _ gia).trans bA, (k _ gib).trans bB, by omega⟩
      refine loop_op (fun m st => ∃ (i : Nat) (h : Heap), i ≤ 4 ∧ m = 4 - i ∧ En v s ex q ox oy nilA cr ck cl sb ia ib (lkC v (.msl ox 3 0 (s.looks ++ [ex]).length (s.looks ++ [ex]).length) ++ lkC v (.msl oy 3 0 s.looks.length s.looks.length) ++ lkC (lessV v kind up) (.c (.sl (lessV v kind up).lc (lessV v kind up).lo' (lessV v kind up).ln)) ++ lkC v nilA) a1 a2 bb1 bb2 h ∧
        Has st 409 [(5, .ptr 0 0), (12, .c (I mn)), (13, .c (I kind)), (14, .c (I rn)), (22, .msl cr 2 0 s.runs.length s.runs.length), (23, .msl ck 1 0 s.sheep.length s.sheep.length), (24, .msl cl 3 0 s.looks.length s.looks.length),
          (25, .c (.func (.func 38) [] [])), (26, .ptr ia 0), (27, .c (I e)), (28, .ptr ib 0), (30, .c (I Lt)), (206, .msl sb 9 0 4 4), (207, .c (I 4)), (208, .c (I i))] [] none h) ?_ (k := 4)
        ⟨0, G, by omega, rfl, EN, rfl, by rw [hsb]; exact ⟨rfl, rfl, rfl, rfl, rfl, rfl, rfl, rfl, rfl, rfl, rfl, rfl, rfl, rfl, rfl, trivial⟩, rfl, rfl, rfl, hG.symm⟩
      clear hs1 EN F k nG hG G b0 b2 b3 b4 b5 bX bY hR cR cK cL bA bB gy gr gk gl gia gib hsb g0 h st
      rintro m st ⟨i, h, hi, rfl, EN, hs1⟩ K' hK'
      refine (hs1.then ?_).1
      conv => whnf
      refine then_seq (hm := false) ?_
      conv => whnf
      refine then_seq (hm := false) ?_
      conv => whnf
      cases hc : decide ((i : Int) < 4)
      case true =>
        have hi4 : i < 4 := by simp at hc; omega
        conv => whnf
        refine then_block ?_
        refine then_via (hm := false) (fun st => ∃ (h : Heap) (xb : Nat) (xc : List AV) (si : Sd), En v s ex q ox oy nilA cr ck cl sb ia ib (lkC v (.msl ox 3 0 (s.looks ++ [ex]).length (s.looks ++ [ex]).length) ++ lkC v (.msl oy 3 0 s.looks.length s.looks.length) ++ lkC (lessV v kind up) (.c (.sl (lessV v kind up).lc (lessV v kind up).lo' (lessV v kind up).ln)) ++ lkC v nilA) a1 a2 bb1 bb2 h ∧
          Heap.at h xb = .blk xc ∧ xb < h.n ∧ Arg h xc si ∧ Sub si s ∧ (i = 3 → Sub s si) ∧
          Has st 409 [(5, .ptr 0 0), (12, .c (I mn)), (13, .c (I kind)), (14, .c (I rn)), (22, .msl cr 2 0 s.runs.length s.runs.length), (23, .msl ck 1 0 s.sheep.length s.sheep.length), (24, .msl cl 3 0 s.looks.length s.looks.length),
            (25, .c (.func (.func 38) [] [])), (26, .ptr ia 0), (27, .c (I e)), (28, .ptr ib 0), (30, .c (I Lt)), (32, .c (I i)), (33, .ptr xb 0), (206, .msl sb 9 0 4 4), (207, .c (I 4)), (208, .c (I i))] [] none h) ?_ ?_
        · obtain rfl | rfl | rfl | rfl : i = 0 ∨ i = 1 ∨ i = 2 ∨ i = 3 := by omega
          · conv => whnf
            refine ⟨⟨rfl, by decide, by decide⟩, ?_⟩
            conv => whnf
            refine ⟨_, EN.bS, ?_⟩
            conv => whnf
            refine ⟨_, at_push_self _ _, ?_⟩
            conv => whnf
            obtain ⟨G, hG⟩ : ∃ G : Heap, G = (h.push .dead (.blk Z29)).set .dead h.n (.blk (lkC v (.msl ox 3 0 (s.looks ++ [ex]).length (s.looks ++ [ex]).length))) := ⟨_, rfl⟩
            have FG : Foot none' h G := by rw [hG]; exact foot_new h _ _
            have AR : Arg h (lkC v (.msl ox 3 0 (s.looks ++ [ex]).length (s.looks ++ [ex]).length)) _ := arg_own hv EN.bX EN.lt.2.1 (by rw [List.length_append, List.length_singleton]; omega)
            exact ⟨G, h.n, _, _, EN.up FG, by rw [hG]; exact at_new _ _ _, by rw [hG, new_n]; omega, AR.up FG, more_sub s ex, (fun h => by cases h), rfl, ⟨rfl, rfl, rfl, rfl, rfl, rfl, rfl, rfl, rfl, rfl, rfl, rfl, rfl, rfl, rfl, rfl, rfl, trivial⟩, rfl, rfl, rfl, hG.symm⟩
          · conv => whnf
            refine ⟨⟨rfl, by decide, by decide⟩, ?_⟩
            conv => whnf
            refine ⟨_, EN.bS, ?_⟩
            conv => whnf
            refine ⟨_, at_push_self _ _, ?_⟩
            conv => whnf
            obtain ⟨G, hG⟩ : ∃ G : Heap, G = (h.push .dead (.blk Z29)).set .dead h.n (.blk (lkC v (.msl oy 3 0 s.looks.length s.looks.length))) := ⟨_, rfl⟩
            have FG : Foot none' h G := by rw [hG]; exact foot_new h _ _
            have AR : Arg h (lkC v (.msl oy 3 0 s.looks.length s.looks.length)) (withL s (tightL s.looks q)) := by rw [← tightL_len s.looks q]; exact arg_own hv EN.bY EN.lt.2.2.1 (by rw [tightL_len]; omega)
            exact ⟨G, h.n, _, _, EN.up FG, by rw [hG]; exact at_new _ _ _, by rw [hG, new_n]; omega, AR.up FG, tight_sub hd q, (fun h => by cases h), rfl, ⟨rfl, rfl, rfl, rfl, rfl, rfl, rfl, rfl, rfl, rfl, rfl, rfl, rfl, rfl, rfl, rfl, rfl, trivial⟩, rfl, rfl, rfl, hG.symm⟩
          · conv => whnf
            refine ⟨⟨rfl, by decide, by decide⟩, ?_⟩
            conv => whnf
            refine ⟨_, EN.bS, ?_⟩
            conv => whnf
            refine ⟨_, at_push_self _ _, ?_⟩
            conv => whnf
            obtain ⟨G, hG⟩ : ∃ G : Heap, G = (h.push .dead (.blk Z29)).set .dead h.n (.blk (lkC (lessV v kind up) (.c (.sl (lessV v kind up).lc (lessV v kind up).lo' (lessV v kind up).ln)))) := ⟨_, rfl⟩
            have FG : Foot none' h G := by rw [hG]; exact foot_new h _ _
            have AR : Arg h (lkC (lessV v kind up) (.c (.sl (lessV v kind up).lc (lessV v kind up).lo' (lessV v kind up).ln))) _ := arg_closed (lessV_is hv kind up)
            exact ⟨G, h.n, _, _, EN.up FG, by rw [hG]; exact at_new _ _ _, by rw [hG, new_n]; omega, AR.up FG, less_sub hd hk2 up, (fun h => by cases h), rfl, ⟨rfl, rfl, rfl, rfl, rfl, rfl, rfl, rfl, rfl, rfl, rfl, rfl, rfl, rfl, rfl, rfl, rfl, trivial⟩, rfl, rfl, rfl, hG.symm⟩
          · conv => whnf
            refine ⟨⟨rfl, by decide, by decide⟩, ?_⟩
            conv => whnf
            refine ⟨_, EN.bS, ?_⟩
            conv => whnf
            refine ⟨_, at_push_self _ _, ?_⟩
            conv => whnf
            obtain ⟨G, hG⟩ : ∃ G : Heap, G = (h.push .dead (.blk Z29)).set .dead h.n (.blk (lkC v nilA)) := ⟨_, rfl⟩
            have FG : Foot none' h G := by rw [hG]; exact foot_new h _ _
            have AR : Arg h (lkC v nilA) _ := arg_rows hv EN.rT (by rw [List.length_reverse]; omega)
            exact ⟨G, h.n, _, _, EN.up FG, by rw [hG]; exact at_new _ _ _, by rw [hG, new_n]; omega, AR.up FG, (back_sub s).1, (fun _ => (back_sub s).2), rfl, ⟨rfl, rfl, rfl, rfl, rfl, rfl, rfl, rfl, rfl, rfl, rfl, rfl, rfl, rfl, rfl, rfl, rfl, trivial⟩, rfl, rfl, rfl, hG.symm⟩
        clear hs1 EN h st
        rintro st ⟨h, xb, xc, si, EN, bx, lx, AR, hsub, hsame, hs1⟩
        refine hs1.then ?_
        conv => whnf
        obtain ⟨x, w, hsh, hrd, hw, hcall⟩ := AR.ex
        refine then_via (hm := false) (fun st => validB si = true ∧ Has st 409 [(5, .ptr 0 0), (12, .c (I mn)), (13, .c (I kind)), (14, .c (I rn)), (22, .msl cr 2 0 s.runs.length s.runs.length), (23, .msl ck 1 0 s.sheep.length s.sheep.length), (24, .msl cl 3 0 s.looks.length s.looks.length), (25, .c (.func (.func 38) [] [])), (26, .ptr ia 0), (27, .c (I e)), (28, .ptr ib 0), (30, .c (I Lt)), (32, .c (I i)), (33, .ptr xb 0), (206, .msl sb 9 0 4 4), (207, .c (I 4)), (208, .c (I i))] [] none h) ?_ ?_
        · conv => whnf
          refine ⟨_, bx, ?_⟩
          conv => whnf
          rcases hsh with ⟨c, rfl⟩ | ⟨l, rfl⟩
          all_goals
            refine look_read hrd ?_
            conv => whnf
            refine hcall h (Foot.refl _ _) 33 [] (B (validB si)) _ (ref_ret hw) rfl ?_
            conv => whnf
            cases hvd : validB si
            · conv => whnf
              refine then_end (hm := false) ?_
              conv => whnf
              refine ⟨(i : Int) + 1, by rw [wrap_eq (by omega) (by omega)], ?_⟩
              conv => whnf
              exact ⟨_, (show 4 - (i + 1) < 4 - i by omega), i + 1, h, by omega, rfl, EN, rfl, ⟨rfl, rfl, rfl, rfl, rfl, rfl, rfl, rfl, rfl, rfl, rfl, rfl, rfl, rfl, rfl, trivial⟩, rfl, rfl, rfl, rfl⟩
            · conv => whnf
              exact ⟨rfl, rfl, ⟨rfl, rfl, rfl, rfl, rfl, rfl, rfl, rfl, rfl, rfl, rfl, rfl, rfl, rfl, rfl, rfl, rfl, trivial⟩, rfl, rfl, rfl, rfl⟩
        clear hs1 st
        rintro st ⟨hvd, hs1⟩
        refine hs1.then ?_
        conv => whnf
        obtain ⟨c1, c2, d1, d2, hh, kk, ll, TC, qa, qb, ql⟩ := tl_ex hw hvd hm9 hk2 (rn := rn) (by rw [hsub.runs]; omega)
        have K2 := tl_sub hsub TL TC
        refine then_via (hm := false) (fun st => ∃ (h1 : Heap) (ic : Nat), Foot none' h h1 ∧ Heap.at h1 ic = .blk [.c (I c1), .c (I c2)] ∧ ic < h1.n ∧ Has st 409 [(5, .ptr 0 0), (12, .c (I mn)), (13, .c (I kind)), (14, .c (I rn)), (22, .msl cr 2 0 s.runs.length s.runs.length), (23, .msl ck 1 0 s.sheep.length s.sheep.length), (24, .msl cl 3 0 s.looks.length s.looks.length), (25, .c (.func (.func 38) [] [])), (26, .ptr ia 0), (27, .c (I e)), (28, .ptr ib 0), (30, .c (I Lt)), (32, .c (I i)), (33, .ptr xb 0), (206, .msl sb 9 0 4 4), (207, .c (I 4)), (208, .c (I i)), (34, .ptr ic 0), (35, .c (I hh))] [] none h1) ?_ ?_
        · conv => whnf
          refine ⟨_, bx, ?_⟩
          conv => whnf
          rcases hsh with ⟨c, rfl⟩ | ⟨l, rfl⟩
          all_goals
            refine look_read hrd ?_
            conv => whnf
            refine hcall h (Foot.refl _ _) 16 [I mn] _ _ qa rfl ?_
            conv => whnf
            refine ⟨_, at_push_self _ _, ?_⟩
            conv => whnf
            exact ⟨_, h.n, foot_new _ _ _, at_new _ _ _, by rw [new_n]; omega, rfl, ⟨rfl, rfl, rfl, rfl, rfl, rfl, rfl, rfl, rfl, rfl, rfl, rfl, rfl, rfl, rfl, rfl, rfl, rfl, rfl, trivial⟩, rfl, rfl, rfl, rfl⟩
        clear hs1 st
        rintro st ⟨h1, ic, F1, bC, lC, hs1⟩
        refine hs1.then ?_
        conv => whnf
        refine then_via (hm := false) (fun st => ∃ (h2 : Heap) (id : Nat), Foot none' h h2 ∧ Heap.at h2 ic = .blk [.c (I c1), .c (I c2)] ∧ Heap.at h2 id = .blk [.c (I d1), .c (I d2)] ∧ Has st 409 [(5, .ptr 0 0), (12, .c (I mn)), (13, .c (I kind)), (14, .c (I rn)), (22, .msl cr 2 0 s.runs.length s.runs.length), (23, .msl ck 1 0 s.sheep.length s.sheep.length), (24, .msl cl 3 0 s.looks.length s.looks.length), (25, .c (.func (.func 38) [] [])), (26, .ptr ia 0), (27, .c (I e)), (28, .ptr ib 0), (30, .c (I Lt)), (32, .c (I i)), (33, .ptr xb 0), (206, .msl sb 9 0 4 4), (207, .c (I 4)), (208, .c (I i)), (34, .ptr ic 0), (35, .c (I hh)), (36, .ptr id 0), (37, .c (I hh))] [] none h2) ?_ ?_
        · conv => whnf
          refine ⟨_, (F1.keep xb lx (fun x => x)).trans bx, ?_⟩
          conv => whnf
          rcases hsh with ⟨c, rfl⟩ | ⟨l, rfl⟩
          all_goals
            refine look_read hrd ?_
            conv => whnf
            refine hcall h1 F1 18 [I kind] _ _ qb rfl ?_
            conv => whnf
            refine ⟨_, at_push_self _ _, ?_⟩
            conv => whnf
            exact ⟨_, h1.n, F1.trans (foot_new _ _ _), ((foot_new h1 _ _).keep ic lC (fun x => x)).trans bC, at_new _ _ _, rfl, ⟨rfl, rfl, rfl, rfl, rfl, rfl, rfl, rfl, rfl, rfl, rfl, rfl, rfl, rfl, rfl, rfl, rfl, rfl, rfl, rfl, rfl, trivial⟩, rfl, rfl, rfl, rfl⟩
        clear hs1 st
        rintro st ⟨h2, id, F2, bC2, bD2, hs1⟩
        refine hs1.then ?_
        conv => whnf
        refine then_via (hm := false) (fun st => Has st 409 [(5, .ptr 0 0), (12, .c (I mn)), (13, .c (I kind)), (14, .c (I rn)), (22, .msl cr 2 0 s.runs.length s.runs.length), (23, .msl ck 1 0 s.sheep.length s.sheep.length), (24, .msl cl 3 0 s.looks.length s.looks.length), (25, .c (.func (.func 38) [] [])), (26, .ptr ia 0), (27, .c (I e)), (28, .ptr ib 0), (30, .c (I Lt)), (32, .c (I i)), (33, .ptr xb 0), (206, .msl sb 9 0 4 4), (207, .c (I 4)), (208, .c (I i)), (34, .ptr ic 0), (35, .c (I hh)), (36, .ptr id 0), (37, .c (I hh)), (38, .c (I kk)), (39, .c (I ll))] [] none h2) ?_ ?_
        · conv => whnf
          refine ⟨_, (F2.keep xb lx (fun x => x)).trans bx, ?_⟩
          conv => whnf
          rcases hsh with ⟨c, rfl⟩ | ⟨l, rfl⟩
          all_goals
            refine look_read hrd ?_
            conv => whnf
            refine hcall h2 F2 24 [I rn] _ _ ql rfl ?_
            conv => whnf
            exact ⟨rfl, ⟨rfl, rfl, rfl, rfl, rfl, rfl, rfl, rfl, rfl, rfl, rfl, rfl, rfl, rfl, rfl, rfl, rfl, rfl, rfl, rfl, rfl, rfl, rfl, trivial⟩, rfl, rfl, rfl, rfl⟩
        clear hs1 st
        rintro st hs1
        refine hs1.then ?_
        conv => whnf
        have EN2 := EN.up F2
        clear bC lC F1 h1 EN
        rcases K2.code with h0 | h0
        · obtain ⟨he, p1, p2, p3, p4, p5⟩ := K2.ok h0
          have hll := K2.l
          rw [h0] at hll
          rw [h0, he]
          have q1 := closer_true p1 p2
          have q2 := closer_true p3 p4
          refine then_end (hm := false) ?_
          conv => whnf
          cases hrn0 : decide ((rn : Int) > 0)
          · conv => whnf
            refine ⟨_, bC2, ?_⟩
            conv => whnf
            refine ⟨_, EN2.bA, ?_⟩
            conv => whnf
            refine .ret q1 rfl ?_
            conv => whnf
            refine ⟨_, bD2, ?_⟩
            conv => whnf
            refine ⟨_, EN2.bB, ?_⟩
            conv => whnf
            refine .ret q2 rfl ?_
            conv => whnf
            rw [hrn0]
            conv => whnf
            cases hi3 : ((i : Int) == 3)
            · conv => whnf
              refine then_end (hm := false) ?_
              conv => whnf
              refine ⟨(i : Int) + 1, by rw [wrap_eq (by omega) (by omega)], ?_⟩
              conv => whnf
              exact ⟨_, (show 4 - (i + 1) < 4 - i by omega), i + 1, h2, by omega, rfl, EN2, rfl, ⟨rfl, rfl, rfl, rfl, rfl, rfl, rfl, rfl, rfl, rfl, rfl, rfl, rfl, rfl, rfl, trivial⟩, rfl, rfl, rfl, rfl⟩
            · have h3 : i = 3 := by simp at hi3; omega
              obtain ⟨t1, t2, t3, t4, t5, t6⟩ := tl_same hsub (hsame h3) TL TC
              rw [t1, t2] at bC2
              rw [t3, t4] at bD2
              conv => whnf
              refine ⟨_, bC2, ?_⟩
              conv => whnf
              refine ⟨_, EN2.bA, ?_⟩
              conv => whnf
              refine ⟨_, span_neq rfl rfl rfl _ _, ?_⟩
              conv => whnf
              rw [show (!(decide (a1 = a1) && decide (a2 = a2))) = false by simp]
              conv => whnf
              refine ⟨_, bD2, ?_⟩
              conv => whnf
              refine ⟨_, EN2.bB, ?_⟩
              conv => whnf
              refine ⟨_, span_neq rfl rfl rfl _ _, ?_⟩
              conv => whnf
              rw [show (!(decide (bb1 = bb1) && decide (bb2 = bb2))) = false by simp]
              conv => whnf
              rw [show (kk != Lt) = false by rw [t6]; simp]
              conv => whnf
              refine then_end (hm := false) ?_
              conv => whnf
              refine ⟨(i : Int) + 1, by rw [wrap_eq (by omega) (by omega)], ?_⟩
              conv => whnf
              exact ⟨_, (show 4 - (i + 1) < 4 - i by omega), i + 1, h2, by omega, rfl, EN2, rfl, ⟨rfl, rfl, rfl, rfl, rfl, rfl, rfl, rfl, rfl, rfl, rfl, rfl, rfl, rfl, rfl, trivial⟩, rfl, rfl, rfl, rfl⟩
          · have hr0 : rn ≠ 0 := by simp at hrn0; omega
            rw [if_neg hr0] at hll
            rw [hll]
            conv => whnf
            refine ⟨_, bC2, ?_⟩
            conv => whnf
            refine ⟨_, EN2.bA, ?_⟩
            conv => whnf
            refine .ret q1 rfl ?_
            conv => whnf
            refine ⟨_, bD2, ?_⟩
            conv => whnf
            refine ⟨_, EN2.bB, ?_⟩
            conv => whnf
            refine .ret q2 rfl ?_
            conv => whnf
            rw [hrn0]
            conv => whnf
            cases hL : (Lt != 1)
            · conv => whnf
              cases hi3 : ((i : Int) == 3)
              · conv => whnf
                refine then_end (hm := false) ?_
                conv => whnf
                refine ⟨(i : Int) + 1, by rw [wrap_eq (by omega) (by omega)], ?_⟩
                conv => whnf
                exact ⟨_, (show 4 - (i + 1) < 4 - i by omega), i + 1, h2, by omega, rfl, EN2, rfl, ⟨rfl, rfl, rfl, rfl, rfl, rfl, rfl, rfl, rfl, rfl, rfl, rfl, rfl, rfl, rfl, trivial⟩, rfl, rfl, rfl, rfl⟩
              · have h3 : i = 3 := by simp at hi3; omega
                obtain ⟨t1, t2, t3, t4, t5, t6⟩ := tl_same hsub (hsame h3) TL TC
                rw [t1, t2] at bC2
                rw [t3, t4] at bD2
                conv => whnf
                refine ⟨_, bC2, ?_⟩
                conv => whnf
                refine ⟨_, EN2.bA, ?_⟩
                conv => whnf
                refine ⟨_, span_neq rfl rfl rfl _ _, ?_⟩
                conv => whnf
                rw [show (!(decide (a1 = a1) && decide (a2 = a2))) = false by simp]
                conv => whnf
                refine ⟨_, bD2, ?_⟩
                conv => whnf
                refine ⟨_, EN2.bB, ?_⟩
                conv => whnf
                refine ⟨_, span_neq rfl rfl rfl _ _, ?_⟩
                conv => whnf
                rw [show (!(decide (bb1 = bb1) && decide (bb2 = bb2))) = false by simp]
                conv => whnf
                rw [show (kk != Lt) = false by rw [t6]; simp]
                conv => whnf
                refine then_end (hm := false) ?_
                conv => whnf
                refine ⟨(i : Int) + 1, by rw [wrap_eq (by omega) (by omega)], ?_⟩
                conv => whnf
                exact ⟨_, (show 4 - (i + 1) < 4 - i by omega), i + 1, h2, by omega, rfl, EN2, rfl, ⟨rfl, rfl, rfl, rfl, rfl, rfl, rfl, rfl, rfl, rfl, rfl, rfl, rfl, rfl, rfl, trivial⟩, rfl, rfl, rfl, rfl⟩
            · have hkL : kk = Lt := p5 hr0 (by simpa using hL)
              rw [hkL]
              conv => whnf
              rw [show (Lt != Lt) = false by simp]
              conv => whnf
              cases hi3 : ((i : Int) == 3)
              · conv => whnf
                refine then_end (hm := false) ?_
                conv => whnf
                refine ⟨(i : Int) + 1, by rw [wrap_eq (by omega) (by omega)], ?_⟩
                conv => whnf
                exact ⟨_, (show 4 - (i + 1) < 4 - i by omega), i + 1, h2, by omega, rfl, EN2, rfl, ⟨rfl, rfl, rfl, rfl, rfl, rfl, rfl, rfl, rfl, rfl, rfl, rfl, rfl, rfl, rfl, trivial⟩, rfl, rfl, rfl, rfl⟩
              · have h3 : i = 3 := by simp at hi3; omega
                obtain ⟨t1, t2, t3, t4, t5, t6⟩ := tl_same hsub (hsame h3) TL TC
                rw [t1, t2] at bC2
                rw [t3, t4] at bD2
                conv => whnf
                refine ⟨_, bC2, ?_⟩
                conv => whnf
                refine ⟨_, EN2.bA, ?_⟩
                conv => whnf
                refine ⟨_, span_neq rfl rfl rfl _ _, ?_⟩
                conv => whnf
                rw [show (!(decide (a1 = a1) && decide (a2 = a2))) = false by simp]
                conv => whnf
                refine ⟨_, bD2, ?_⟩
                conv => whnf
                refine ⟨_, EN2.bB, ?_⟩
                conv => whnf
                refine ⟨_, span_neq rfl rfl rfl _ _, ?_⟩
                conv => whnf
                rw [show (!(decide (bb1 = bb1) && decide (bb2 = bb2))) = false by simp]
                conv => whnf
                rw [show (Lt != Lt) = false by simp]
                conv => whnf
                refine then_end (hm := false) ?_
                conv => whnf
                refine ⟨(i : Int) + 1, by rw [wrap_eq (by omega) (by omega)], ?_⟩
                conv => whnf
                exact ⟨_, (show 4 - (i + 1) < 4 - i by omega), i + 1, h2, by omega, rfl, EN2, rfl, ⟨rfl, rfl, rfl, rfl, rfl, rfl, rfl, rfl, rfl, rfl, rfl, rfl, rfl, rfl, rfl, trivial⟩, rfl, rfl, rfl, rfl⟩
        · have hll := K2.l
          rw [h0] at hll
          rw [h0]
          refine then_end (hm := false) ?_
          conv => whnf
          cases hrn0 : decide ((rn : Int) > 0)
          · conv => whnf
            cases hi3 : ((i : Int) == 3)
            · conv => whnf
              refine then_end (hm := false) ?_
              conv => whnf
              refine ⟨(i : Int) + 1, by rw [wrap_eq (by omega) (by omega)], ?_⟩
              conv => whnf
              exact ⟨_, (show 4 - (i + 1) < 4 - i by omega), i + 1, h2, by omega, rfl, EN2, rfl, ⟨rfl, rfl, rfl, rfl, rfl, rfl, rfl, rfl, rfl, rfl, rfl, rfl, rfl, rfl, rfl, trivial⟩, rfl, rfl, rfl, rfl⟩
            · have h3 : i = 3 := by simp at hi3; omega
              obtain ⟨t1, t2, t3, t4, t5, t6⟩ := tl_same hsub (hsame h3) TL TC
              rw [t1, t2] at bC2
              rw [t3, t4] at bD2
              conv => whnf
              refine ⟨_, bC2, ?_⟩
              conv => whnf
              refine ⟨_, EN2.bA, ?_⟩
              conv => whnf
              refine ⟨_, span_neq rfl rfl rfl _ _, ?_⟩
              conv => whnf
              rw [show (!(decide (a1 = a1) && decide (a2 = a2))) = false by simp]
              conv => whnf
              rw [show ((10 : Int) != e) = false by rw [← t5, h0]; rfl]
              conv => whnf
              refine ⟨_, bD2, ?_⟩
              conv => whnf
              refine ⟨_, EN2.bB, ?_⟩
              conv => whnf
              refine ⟨_, span_neq rfl rfl rfl _ _, ?_⟩
              conv => whnf
              rw [show (!(decide (bb1 = bb1) && decide (bb2 = bb2))) = false by simp]
              conv => whnf
              rw [show (kk != Lt) = false by rw [t6]; simp]
              conv => whnf
              refine then_end (hm := false) ?_
              conv => whnf
              refine ⟨(i : Int) + 1, by rw [wrap_eq (by omega) (by omega)], ?_⟩
              conv => whnf
              exact ⟨_, (show 4 - (i + 1) < 4 - i by omega), i + 1, h2, by omega, rfl, EN2, rfl, ⟨rfl, rfl, rfl, rfl, rfl, rfl, rfl, rfl, rfl, rfl, rfl, rfl, rfl, rfl, rfl, trivial⟩, rfl, rfl, rfl, rfl⟩
          · have hr0 : rn ≠ 0 := by simp at hrn0; omega
            rw [if_neg hr0] at hll
            rw [hll]
            conv => whnf
            cases hi3 : ((i : Int) == 3)
            · conv => whnf
              refine then_end (hm := false) ?_
              conv => whnf
              refine ⟨(i : Int) + 1, by rw [wrap_eq (by omega) (by omega)], ?_⟩
              conv => whnf
              exact ⟨_, (show 4 - (i + 1) < 4 - i by omega), i + 1, h2, by omega, rfl, EN2, rfl, ⟨rfl, rfl, rfl, rfl, rfl, rfl, rfl, rfl, rfl, rfl, rfl, rfl, rfl, rfl, rfl, trivial⟩, rfl, rfl, rfl, rfl⟩
            · have h3 : i = 3 := by simp at hi3; omega
              obtain ⟨t1, t2, t3, t4, t5, t6⟩ := tl_same hsub (hsame h3) TL TC
              rw [t1, t2] at bC2
              rw [t3, t4] at bD2
              conv => whnf
              refine ⟨_, bC2, ?_⟩
              conv => whnf
              refine ⟨_, EN2.bA, ?_⟩
              conv => whnf
              refine ⟨_, span_neq rfl rfl rfl _ _, ?_⟩
              conv => whnf
              rw [show (!(decide (a1 = a1) && decide (a2 = a2))) = false by simp]
              conv => whnf
              rw [show ((10 : Int) != e) = false by rw [← t5, h0]; rfl]
              conv => whnf
              refine ⟨_, bD2, ?_⟩
              conv => whnf
              refine ⟨_, EN2.bB, ?_⟩
              conv => whnf
              refine ⟨_, span_neq rfl rfl rfl _ _, ?_⟩
              conv => whnf
              rw [show (!(decide (bb1 = bb1) && decide (bb2 = bb2))) = false by simp]
              conv => whnf
              rw [show (kk != Lt) = false by rw [t6]; simp]
              conv => whnf
              refine then_end (hm := false) ?_
              conv => whnf
              refine ⟨(i : Int) + 1, by rw [wrap_eq (by omega) (by omega)], ?_⟩
              conv => whnf
              exact ⟨_, (show 4 - (i + 1) < 4 - i by omega), i + 1, h2, by omega, rfl, EN2, rfl, ⟨rfl, rfl, rfl, rfl, rfl, rfl, rfl, rfl, rfl, rfl, rfl, rfl, rfl, rfl, rfl, trivial⟩, rfl, rfl, rfl, rfl⟩
      · conv => whnf
        subst hK'
        obtain ⟨l0, l1, l2, l3, l4, l5, _, _, _⟩ := EN.lt
        exact ⟨_, EN.b0, EN.cR, EN.cK, EN.cL, ⟨l0, l3, l4, l5⟩, rfl, ⟨rfl, rfl, rfl, rfl, rfl, trivial⟩, rfl, rfl, rfl, rfl⟩
    · conv => whnf
      refine ⟨_, b2, ?_⟩
      conv => whnf
      refine ⟨_, b3, ?_⟩
      conv => whnf
      refine ⟨_, b4, ?_⟩
      conv => whnf
      refine ⟨_, b5, ?_⟩
      conv => whnf
      obtain ⟨G, hG⟩ : ∃ G : Heap, G = h.push .dead (.blk (lkC v (.msl ox 3 0 (s.looks ++ [ex]).length (s.looks ++ [ex]).length) ++ lkC v (.msl oy 3 0 s.looks.length s.looks.length) ++ lkC (lessV v kind up) (.c (.sl (lessV v kind up).lc (lessV v kind up).lo' (lessV v kind up).ln)) ++ lkC v (.msl o 3 0 n n))) := ⟨_, rfl⟩
      have F : Foot none' h G := by rw [hG]; exact (Foot.refl _ _).push _
      have nG : G.n = h.n + 1 := by rw [hG]; rfl
      have k : ∀ i, i < h.n → Heap.at G i = Heap.at h i := fun i hi => F.keep i hi (fun x => x)
      obtain ⟨sb, hsb⟩ : ∃ sb, sb = h.n := ⟨_, rfl⟩
      have EN : En v s ex q ox oy (.msl o 3 0 n n) cr ck cl sb ia ib (lkC v (.msl ox 3 0 (s.looks ++ [ex]).length (s.looks ++ [ex]).length) ++ lkC v (.msl oy 3 0 s.looks.length s.looks.length) ++ lkC (lessV v kind up) (.c (.sl (lessV v kind up).lc (lessV v kind up).lo' (lessV v kind up).ln)) ++ lkC v (.msl o 3 0 n n)) a1 a2 bb1 bb2 G :=
        ⟨(k _ (by omega)).trans b0, (k _ (by omega)).trans bX, (k _ gy).trans bY, hR.ext F.n (fun i hi _ => k i hi), (k _ gr).trans cR, (k _ gk).trans cK, (k _ gl).trans cL, by rw [hG, hsb]; exact at_push_self _ _, (k _ gia).trans bA, (k _ gib).trans bB, by omega⟩
      refine loop_op (fun m st => ∃ (i : Nat) (h : Heap), i ≤ 4 ∧ m = 4 - i ∧ En v s ex q ox oy (.msl o 3 0 n n) cr ck cl sb ia ib (lkC v (.msl ox 3 0 (s.looks ++ [ex]).length (s.looks ++ [ex]).length) ++ lkC v (.msl oy 3 0 s.looks.length s.looks.length) ++ lkC (lessV v kind up) (.c (.sl (lessV v kind up).lc (lessV v kind up).lo' (lessV v kind up).ln)) ++ lkC v (.msl o 3 0 n n)) a1 a2 bb1 bb2 h ∧
        Has st 409 [(5, .ptr 0 0), (12, .c (I mn)), (13, .c (I kind)), (14, .c (I rn)), (22, .msl cr 2 0 s.runs.length s.runs.length), (23, .msl ck 1 0 s.sheep.length s.sheep.length), (24, .msl cl 3 0 s.looks.length s.looks.length),
          (25, .c (.func (.func 38) [] [])), (26, .ptr ia 0), (27, .c (I e)), (28, .ptr ib 0), (30, .c (I Lt)), (206, .msl sb 9 0 4 4), (207, .c (I 4)), (208, .c (I i))] [] none h) ?_ (k := 4)
        ⟨0, G, by omega, rfl, EN, rfl, by rw [hsb]; exact ⟨rfl, rfl, rfl, rfl, rfl, rfl, rfl, rfl, rfl, rfl, rfl, rfl, rfl, rfl, rfl, trivial⟩, rfl, rfl, rfl, hG.symm⟩
      clear hs1 EN F k nG hG G b0 b2 b3 b4 b5 bX bY hR cR cK cL bA bB gy gr gk gl gia gib hsb g0 h st
      rintro m st ⟨i, h, hi, rfl, EN, hs1⟩ K' hK'
      refine (hs1.then ?_).1
      conv => whnf
      refine then_seq (hm := false) ?_
      conv => whnf
      refine then_seq (hm := false) ?_
      conv => whnf
      cases hc : decide ((i : Int) < 4)
      case true =>
        have hi4 : i < 4 := by simp at hc; omega
        conv => whnf
        refine then_block ?_
        refine then_via (hm := false) (fun st => ∃ (h : Heap) (xb : Nat) (xc : List AV) (si : Sd), En v s ex q ox oy (.msl o 3 0 n n) cr ck cl sb ia ib (lkC v (.msl ox 3 0 (s.looks ++ [ex]).length (s.looks ++ [ex]).length) ++ lkC v (.msl oy 3 0 s.looks.length s.looks.length) ++ lkC (lessV v kind up) (.c (.sl (lessV v kind up).lc (lessV v kind up).lo' (lessV v kind up).ln)) ++ lkC v (.msl o 3 0 n n)) a1 a2 bb1 bb2 h ∧
          Heap.at h xb = .blk xc ∧ xb < h.n ∧ Arg h xc si ∧ Sub si s ∧ (i = 3 → Sub s si) ∧
          Has st 409 [(5, .ptr 0 0), (12, .c (I mn)), (13, .c (I kind)), (14, .c (I rn)), (22, .msl cr 2 0 s.runs.length s.runs.length), (23, .msl ck 1 0 s.sheep.length s.sheep.length), (24, .msl cl 3 0 s.looks.length s.looks.length),
            (25, .c (.func (.func 38) [] [])), (26, .ptr ia 0), (27, .c (I e)), (28, .ptr ib 0), (30, .c (I Lt)), (32, .c (I i)), (33, .ptr xb 0), (206, .msl sb 9 0 4 4), (207, .c (I 4)), (208, .c (I i))] [] none h) ?_ ?_
        · obtain rfl | rfl | rfl | rfl : i = 0 ∨ i = 1 ∨ i = 2 ∨ i = 3 := by omega
          · conv => whnf
            refine ⟨⟨rfl, by decide, by decide⟩, ?_⟩
            conv => whnf
            refine ⟨_, EN.bS, ?_⟩
            conv => whnf
            refine ⟨_, at_push_self _ _, ?_⟩
            conv => whnf
            obtain ⟨G, hG⟩ : ∃ G : Heap, G = (h.push .dead (.blk Z29)).set .dead h.n (.blk (lkC v (.msl ox 3 0 (s.looks ++ [ex]).length (s.looks ++ [ex]).length))) := ⟨_, rfl⟩
            have FG : Foot none' h G := by rw [hG]; exact foot_new h _ _
            have AR : Arg h (lkC v (.msl ox 3 0 (s.looks ++ [ex]).length (s.looks ++ [ex]).length)) _ := arg_own hv EN.bX EN.lt.2.1 (by rw [List.length_append, List.length_singleton]; omega)
            exact ⟨G, h.n, _, _, EN.up FG, by rw [hG]; exact at_new _ _ _, by rw [hG, new_n]; omega, AR.up FG, more_sub s ex, (fun h => by cases h), rfl, ⟨rfl, rfl, rfl, rfl, rfl, rfl, rfl, rfl, rfl, rfl, rfl, rfl, rfl, rfl, rfl, rfl, rfl, trivial⟩, rfl, rfl, rfl, hG.symm⟩
          · conv => whnf
            refine ⟨⟨rfl, by decide, by decide⟩, ?_⟩
            conv => whnf
            refine ⟨_, EN.bS, ?_⟩
            conv => whnf
            refine ⟨_, at_push_self _ _, ?_⟩
            conv => whnf
            obtain ⟨G, hG⟩ : ∃ G : Heap, G = (h.push .dead (.blk Z29)).set .dead h.n (.blk (lkC v (.msl oy 3 0 s.looks.length s.looks.length))) := ⟨_, rfl⟩
            have FG : Foot none' h G := by rw [hG]; exact foot_new h _ _
            have AR : Arg h (lkC v (.msl oy 3 0 s.looks.length s.looks.length)) (withL s (tightL s.looks q)) := by rw [← tightL_len s.looks q]; exact arg_own hv EN.bY EN.lt.2.2.1 (by rw [tightL_len]; omega)
            exact ⟨G, h.n, _, _, EN.up FG, by rw [hG]; exact at_new _ _ _, by rw [hG, new_n]; omega, AR.up FG, tight_sub hd q, (fun h => by cases h), rfl, ⟨rfl, rfl, rfl, rfl, rfl, rfl, rfl, rfl, rfl, rfl, rfl, rfl, rfl, rfl, rfl, rfl, rfl, trivial⟩, rfl, rfl, rfl, hG.symm⟩
          · conv => whnf
            refine ⟨⟨rfl, by decide, by decide⟩, ?_⟩
            conv => whnf
            refine ⟨_, EN.bS, ?_⟩
            conv => whnf
            refine ⟨_, at_push_self _ _, ?_⟩
            conv => whnf
            obtain ⟨G, hG⟩ : ∃ G : Heap, G = (h.push .dead (.blk Z29)).set .dead h.n (.blk (lkC (lessV v kind up) (.c (.sl (lessV v kind up).lc (lessV v kind up).lo' (lessV v kind up).ln)))) := ⟨_, rfl⟩
            have FG : Foot none' h G := by rw [hG]; exact foot_new h _ _
            have AR : Arg h (lkC (lessV v kind up) (.c (.sl (lessV v kind up).lc (lessV v kind up).lo' (lessV v kind up).ln))) _ := arg_closed (lessV_is hv kind up)
            exact ⟨G, h.n, _, _, EN.up FG, by rw [hG]; exact at_new _ _ _, by rw [hG, new_n]; omega, AR.up FG, less_sub hd hk2 up, (fun h => by cases h), rfl, ⟨rfl, rfl, rfl, rfl, rfl, rfl, rfl, rfl, rfl, rfl, rfl, rfl, rfl, rfl, rfl, rfl, rfl, trivial⟩, rfl, rfl, rfl, hG.symm⟩
          · conv => whnf
            refine ⟨⟨rfl, by decide, by decide⟩, ?_⟩
            conv => whnf
            refine ⟨_, EN.bS, ?_⟩
            conv => whnf
            refine ⟨_, at_push_self _ _, ?_⟩
            conv => whnf
            obtain ⟨G, hG⟩ : ∃ G : Heap, G = (h.push .dead (.blk Z29)).set .dead h.n (.blk (lkC v (.msl o 3 0 n n))) := ⟨_, rfl⟩
            have FG : Foot none' h G := by rw [hG]; exact foot_new h _ _
            have AR : Arg h (lkC v (.msl o 3 0 n n)) _ := arg_rows hv EN.rT (by rw [List.length_reverse]; omega)
            exact ⟨G, h.n, _, _, EN.up FG, by rw [hG]; exact at_new _ _ _, by rw [hG, new_n]; omega, AR.up FG, (back_sub s).1, (fun _ => (back_sub s).2), rfl, ⟨rfl, rfl, rfl, rfl, rfl, rfl, rfl, rfl, rfl, rfl, rfl, rfl, rfl, rfl, rfl, rfl, rfl, trivial⟩, rfl, rfl, rfl, hG.symm⟩
        clear hs1 EN h st
        rintro st ⟨h, xb, xc, si, EN, bx, lx, AR, hsub, hsame, hs1⟩
        refine hs1.then ?_
        conv => whnf
        obtain ⟨x, w, hsh, hrd, hw, hcall⟩ := AR.ex
        refine then_via (hm := false) (fun st => validB si = true ∧ Has st 409 [(5, .ptr 0 0), (12, .c (I mn)), (13, .c (I kind)), (14, .c (I rn)), (22, .msl cr 2 0 s.runs.length s.runs.length), (23, .msl ck 1 0 s.sheep.length s.sheep.length), (24, .msl cl 3 0 s.looks.length s.looks.length), (25, .c (.func (.func 38) [] [])), (26, .ptr ia 0), (27, .c (I e)), (28, .ptr ib 0), (30, .c (I Lt)), (32, .c (I i)), (33, .ptr xb 0), (206, .msl sb 9 0 4 4), (207, .c (I 4)), (208, .c (I i))] [] none h) ?_ ?_
        · conv => whnf
          refine ⟨_, bx, ?_⟩
          conv => whnf
          rcases hsh with ⟨c, rfl⟩ | ⟨l, rfl⟩
          all_goals
            refine look_read hrd ?_
            conv => whnf
            refine hcall h (Foot.refl _ _) 33 [] (B (validB si)) _ (ref_ret hw) rfl ?_
            conv => whnf
            cases hvd : validB si
            · conv => whnf
              refine then_end (hm := false) ?_
              conv => whnf
              refine ⟨(i : Int) + 1, by rw [wrap_eq (by omega) (by omega)], ?_⟩
              conv => whnf
              exact ⟨_, (show 4 - (i + 1) < 4 - i by omega), i + 1, h, by omega, rfl, EN, rfl, ⟨rfl, rfl, rfl, rfl, rfl, rfl, rfl, rfl, rfl, rfl, rfl, rfl, rfl, rfl, rfl, trivial⟩, rfl, rfl, rfl, rfl⟩
            · conv => whnf
              exact ⟨rfl, rfl, ⟨rfl, rfl, rfl, rfl, rfl, rfl, rfl, rfl, rfl, rfl, rfl, rfl, rfl, rfl, rfl, rfl, rfl, trivial⟩, rfl, rfl, rfl, rfl⟩
        clear hs1 st
        rintro st ⟨hvd, hs1⟩
        refine hs1.then ?_
        conv => whnf
        obtain ⟨c1, c2, d1, d2, hh, kk, ll, TC, qa, qb, ql⟩ := tl_ex hw hvd hm9 hk2 (rn := rn) (by rw [hsub.runs]; omega)
        have K2 := tl_sub hsub TL TC
        refine then_via (hm := false) (fun st => ∃ (h1 : Heap) (ic : Nat), Foot none' h h1 ∧ Heap.at h1 ic = .blk [.c (I c1), .c (I c2)] ∧ ic < h1.n ∧ Has st 409 [(5, .ptr 0 0), (12, .c (I mn)), (13, .c (I kind)), (14, .c (I rn)), (22, .msl cr 2 0 s.runs.length s.runs.length), (23, .msl ck 1 0 s.sheep.length s.sheep.length), (24, .msl cl 3 0 s.looks.length s.looks.length), (25, .c (.func (.func 38) [] [])), (26, .ptr ia 0), (27, .c (I e)), (28, .ptr ib 0), (30, .c (I Lt)), (32, .c (I i)), (33, .ptr xb 0), (206, .msl sb 9 0 4 4), (207, .c (I 4)), (208, .c (I i)), (34, .ptr ic 0), (35, .c (I hh))] [] none h1) ?_ ?_
        · conv => whnf
          refine ⟨_, bx, ?_⟩
          conv => whnf
          rcases hsh with ⟨c, rfl⟩ | ⟨l, rfl⟩
          all_goals
            refine look_read hrd ?_
            conv => whnf
            refine hcall h (Foot.refl _ _) 16 [I mn] _ _ qa rfl ?_
            conv => whnf
            refine ⟨_, at_push_self _ _, ?_⟩
            conv => whnf
            exact ⟨_, h.n, foot_new _ _ _, at_new _ _ _, by rw [new_n]; omega, rfl, ⟨rfl, rfl, rfl, rfl, rfl, rfl, rfl, rfl, rfl, rfl, rfl, rfl, rfl, rfl, rfl, rfl, rfl, rfl, rfl, trivial⟩, rfl, rfl, rfl, rfl⟩
        clear hs1 st
        rintro st ⟨h1, ic, F1, bC, lC, hs1⟩
        refine hs1.then ?_
        conv => whnf
        refine then_via (hm := false) (fun st => ∃ (h2 : Heap) (id : Nat), Foot none' h h2 ∧ Heap.at h2 ic = .blk [.c (I c1), .c (I c2)] ∧ Heap.at h2 id = .blk [.c (I d1), .c (I d2)] ∧ Has st 409 [(5, .ptr 0 0), (12, .c (I mn)), (13, .c (I kind)), (14, .c (I rn)), (22, .msl cr 2 0 s.runs.length s.runs.length), (23, .msl ck 1 0 s.sheep.length s.sheep.length), (24, .msl cl 3 0 s.looks.length s.looks.length), (25, .c (.func (.func 38) [] [])), (26, .ptr ia 0), (27, .c (I e)), (28, .ptr ib 0), (30, .c (I Lt)), (32, .c (I i)), (33, .ptr xb 0), (206, .msl sb 9 0 4 4), (207, .c (I 4)), (208, .c (I i)), (34, .ptr ic 0), (35, .c (I hh)), (36, .ptr id 0), (37, .c (I hh))] [] none h2) ?_ ?_
        · conv => whnf
          refine ⟨_, (F1.keep xb lx (fun x => x)).trans bx, ?_⟩
          conv => whnf
          rcases hsh with ⟨c, rfl⟩ | ⟨l, rfl⟩
          all_goals
            refine look_read hrd ?_
            conv => whnf
            refine hcall h1 F1 18 [I kind] _ _ qb rfl ?_
            conv => whnf
            refine ⟨_, at_push_self _ _, ?_⟩
            conv => whnf
            exact ⟨_, h1.n, F1.trans (foot_new _ _ _), ((foot_new h1 _ _).keep ic lC (fun x => x)).trans bC, at_new _ _ _, rfl, ⟨rfl, rfl, rfl, rfl, rfl, rfl, rfl, rfl, rfl, rfl, rfl, rfl, rfl, rfl, rfl, rfl, rfl, rfl, rfl, rfl, rfl, trivial⟩, rfl, rfl, rfl, rfl⟩
        clear hs1 st
        rintro st ⟨h2, id, F2, bC2, bD2, hs1⟩
        refine hs1.then ?_
        conv => whnf
        refine then_via (hm := false) (fun st => Has st 409 [(5, .ptr 0 0), (12, .c (I mn)), (13, .c (I kind)), (14, .c (I rn)), (22, .msl cr 2 0 s.runs.length s.runs.length), (23, .msl ck 1 0 s.sheep.length s.sheep.length), (24, .msl cl 3 0 s.looks.length s.looks.length), (25, .c (.func (.func 38) [] [])), (26, .ptr ia 0), (27, .c (I e)), (28, .ptr ib 0), (30, .c (I Lt)), (32, .c (I i)), (33, .ptr xb 0), (206, .msl sb 9 0 4 4), (207, .c (I 4)), (208, .c (I i)), (34, .ptr ic 0), (35, .c (I hh)), (36, .ptr id 0), (37, .c (I hh)), (38, .c (I kk)), (39, .c (I ll))] [] none h2) ?_ ?_
        · conv => whnf
          refine ⟨_, (F2.keep xb lx (fun x => x)).trans bx, ?_⟩
          conv => whnf
          rcases hsh with ⟨c, rfl⟩ | ⟨l, rfl⟩
          all_goals
            refine look_read hrd ?_
            conv => whnf
            refine hcall h2 F2 24 [I rn] _ _ ql rfl ?_
            conv => whnf
            exact ⟨rfl, ⟨rfl, rfl, rfl, rfl, rfl, rfl, rfl, rfl, rfl, rfl, rfl, rfl, rfl, rfl, rfl, rfl, rfl, rfl, rfl, rfl, rfl, rfl, rfl, trivial⟩, rfl, rfl, rfl, rfl⟩
        clear hs1 st
        rintro st hs1
        refine hs1.then ?_
        conv => whnf
        have EN2 := EN.up F2
        clear bC lC F1 h1 EN
        rcases K2.code with h0 | h0
        · obtain ⟨he, p1, p2, p3, p4, p5⟩ := K2.ok h0
          have hll := K2.l
          rw [h0] at hll
          rw [h0, he]
          have q1 := closer_true p1 p2
          have q2 := closer_true p3 p4
          refine then_end (hm := false) ?_
          conv => whnf
          cases hrn0 : decide ((rn : Int) > 0)
          · conv => whnf
            refine ⟨_, bC2, ?_⟩
            conv => whnf
            refine ⟨_, EN2.bA, ?_⟩
            conv => whnf
            refine .ret q1 rfl ?_
            conv => whnf
            refine ⟨_, bD2, ?_⟩
            conv => whnf
            refine ⟨_, EN2.bB, ?_⟩
            conv => whnf
            refine .ret q2 rfl ?_
            conv => whnf
            rw [hrn0]
            conv => whnf
            cases hi3 : ((i : Int) == 3)
            · conv => whnf
              refine then_end (hm := false) ?_
              conv => whnf
              refine ⟨(i : Int) + 1, by rw [wrap_eq (by omega) (by omega)], ?_⟩
              conv => whnf
              exact ⟨_, (show 4 - (i + 1) < 4 - i by omega), i + 1, h2, by omega, rfl, EN2, rfl, ⟨rfl, rfl, rfl, rfl, rfl, rfl, rfl, rfl, rfl, rfl, rfl, rfl, rfl, rfl, rfl, trivial⟩, rfl, rfl, rfl, rfl⟩
            · have h3 : i = 3 := by simp at hi3; omega
              obtain ⟨t1, t2, t3, t4, t5, t6⟩ := tl_same hsub (hsame h3) TL TC
              rw [t1, t2] at bC2
              rw [t3, t4] at bD2
              conv => whnf
              refine ⟨_, bC2, ?_⟩
              conv => whnf
              refine ⟨_, EN2.bA, ?_⟩
              conv => whnf
              refine ⟨_, span_neq rfl rfl rfl _ _, ?_⟩
              conv => whnf
              rw [show (!(decide (a1 = a1) && decide (a2 = a2))) = false by simp]
              conv => whnf
              refine ⟨_, bD2, ?_⟩
              conv => whnf
              refine ⟨_, EN2.bB, ?_⟩
              conv => whnf
              refine ⟨_, span_neq rfl rfl rfl _ _, ?_⟩
              conv => whnf
              rw [show (!(decide (bb1 = bb1) && decide (bb2 = bb2))) = false by simp]
              conv => whnf
              rw [show (kk != Lt) = false by rw [t6]; simp]
              conv => whnf
              refine then_end (hm := false) ?_
              conv => whnf
              refine ⟨(i : Int) + 1, by rw [wrap_eq (by omega) (by omega)], ?_⟩
              conv => whnf
              exact ⟨_, (show 4 - (i + 1) < 4 - i by omega), i + 1, h2, by omega, rfl, EN2, rfl, ⟨rfl, rfl, rfl, rfl, rfl, rfl, rfl, rfl, rfl, rfl, rfl, rfl, rfl, rfl, rfl, trivial⟩, rfl, rfl, rfl, rfl⟩
          · have hr0 : rn ≠ 0 := by simp at hrn0; omega
            rw [if_neg hr0] at hll
            rw [hll]
            conv => whnf
            refine ⟨_, bC2, ?_⟩
            conv => whnf
            refine ⟨_, EN2.bA, ?_⟩
            conv => whnf
            refine .ret q1 rfl ?_
            conv => whnf
            refine ⟨_, bD2, ?_⟩
            conv => whnf
            refine ⟨_, EN2.bB, ?_⟩
            conv => whnf
            refine .ret q2 rfl ?_
            conv => whnf
            rw [hrn0]
            conv => whnf
            cases hL : (Lt != 1)
            · conv => whnf
              cases hi3 : ((i : Int) == 3)
              · conv => whnf
                refine then_end (hm := false) ?_
                conv => whnf
                refine ⟨(i : Int) + 1, by rw [wrap_eq (by omega) (by omega)], ?_⟩
                conv => whnf
                exact ⟨_, (show 4 - (i + 1) < 4 - i by omega), i + 1, h2, by omega, rfl, EN2, rfl, ⟨rfl, rfl, rfl, rfl, rfl, rfl, rfl, rfl, rfl, rfl, rfl, rfl, rfl, rfl, rfl, trivial⟩, rfl, rfl, rfl, rfl⟩
              · have h3 : i = 3 := by simp at hi3; omega
                obtain ⟨t1, t2, t3, t4, t5, t6⟩ := tl_same hsub (hsame h3) TL TC
                rw [t1, t2] at bC2
                rw [t3, t4] at bD2
                conv => whnf
                refine ⟨_, bC2, ?_⟩
                conv => whnf
                refine ⟨_, EN2.bA, ?_⟩
                conv => whnf
                refine ⟨_, span_neq rfl rfl rfl _ _, ?_⟩
                conv => whnf
                rw [show (!(decide (a1 = a1) && decide (a2 = a2))) = false by simp]
                conv => whnf
                refine ⟨_, bD2, ?_⟩
                conv => whnf
                refine ⟨_, EN2.bB, ?_⟩
                conv => whnf
                refine ⟨_, span_neq rfl rfl rfl _ _, ?_⟩
                conv => whnf
                rw [show (!(decide (bb1 = bb1) && decide (bb2 = bb2))) = false by simp]
                conv => whnf
                rw [show (kk != Lt) = false by rw [t6]; simp]
                conv => whnf
                refine then_end (hm := false) ?_
                conv => whnf
                refine ⟨(i : Int) + 1, by rw [wrap_eq (by omega) (by omega)], ?_⟩
                conv => whnf
                exact ⟨_, (show 4 - (i + 1) < 4 - i by omega), i + 1, h2, by omega, rfl, EN2, rfl, ⟨rfl, rfl, rfl, rfl, rfl, rfl, rfl, rfl, rfl, rfl, rfl, rfl, rfl, rfl, rfl, trivial⟩, rfl, rfl, rfl, rfl⟩
            · have hkL : kk = Lt := p5 hr0 (by simpa using hL)
              rw [hkL]
              conv => whnf
              rw [show (Lt != Lt) = false by simp]
              conv => whnf
              cases hi3 : ((i : Int) == 3)
              · conv => whnf
                refine then_end (hm := false) ?_
                conv => whnf
                refine ⟨(i : Int) + 1, by rw [wrap_eq (by omega) (by omega)], ?_⟩
                conv => whnf
                exact ⟨_, (show 4 - (i + 1) < 4 - i by omega), i + 1, h2, by omega, rfl, EN2, rfl, ⟨rfl, rfl, rfl, rfl, rfl, rfl, rfl, rfl, rfl, rfl, rfl, rfl, rfl, rfl, rfl, trivial⟩, rfl, rfl, rfl, rfl⟩
              · have h3 : i = 3 := by simp at hi3; omega
                obtain ⟨t1, t2, t3, t4, t5, t6⟩ := tl_same hsub (hsame h3) TL TC
                rw [t1, t2] at bC2
                rw [t3, t4] at bD2
                conv => whnf
                refine ⟨_, bC2, ?_⟩
                conv => whnf
                refine ⟨_, EN2.bA, ?_⟩
                conv => whnf
                refine ⟨_, span_neq rfl rfl rfl _ _, ?_⟩
                conv => whnf
                rw [show (!(decide (a1 = a1) && decide (a2 = a2))) = false by simp]
                conv => whnf
                refine ⟨_, bD2, ?_⟩
                conv => whnf
                refine ⟨_, EN2.bB, ?_⟩
                conv => whnf
                refine ⟨_, span_neq rfl rfl rfl _ _, ?_⟩
                conv => whnf
                rw [show (!(decide (bb1 = bb1) && decide (bb2 = bb2))) = false by simp]
                conv => whnf
                rw [show (Lt != Lt) = false by simp]
                conv => whnf
                refine then_end (hm := false) ?_
                conv => whnf
                refine ⟨(i : Int) + 1, by rw [wrap_eq (by omega) (by omega)], ?_⟩
                conv => whnf
                exact ⟨_, (show 4 - (i + 1) < 4 - i by omega), i + 1, h2, by omega, rfl, EN2, rfl, ⟨rfl, rfl, rfl, rfl, rfl, rfl, rfl, rfl, rfl, rfl, rfl, rfl, rfl, rfl, rfl, trivial⟩, rfl, rfl, rfl, rfl⟩
        · have hll := K2.l
          rw [h0] at hll
          rw [h0]
          refine then_end (hm := false) ?_
          conv => whnf
          cases hrn0 : decide ((rn : Int) > 0)
          · conv => whnf
            cases hi3 : ((i : Int) == 3)
            · conv => whnf
              refine then_end (hm := false) ?_
              conv => whnf
              refine ⟨(i : Int) + 1, by rw [wrap_eq (by omega) (by omega)], ?_⟩
              conv => whnf
              exact ⟨_, (show 4 - (i + 1) < 4 - i by omega), i + 1, h2, by omega, rfl, EN2, rfl, ⟨rfl, rfl, rfl, rfl, rfl, rfl, rfl, rfl, rfl, rfl, rfl, rfl, rfl, rfl, rfl, trivial⟩, rfl, rfl, rfl, rfl⟩
            · have h3 : i = 3 := by simp at hi3; omega
              obtain ⟨t1, t2, t3, t4, t5, t6⟩ := tl_same hsub (hsame h3) TL TC
              rw [t1, t2] at bC2
              rw [t3, t4] at bD2
              conv => whnf
              refine ⟨_, bC2, ?_⟩
              conv => whnf
              refine ⟨_, EN2.bA, ?_⟩
              conv => whnf
              refine ⟨_, span_neq rfl rfl rfl _ _, ?_⟩
              conv => whnf
              rw [show (!(decide (a1 = a1) && decide (a2 = a2))) = false by simp]
              conv => whnf
              rw [show ((10 : Int) != e) = false by rw [← t5, h0]; rfl]
              conv => whnf
              refine ⟨_, bD2, ?_⟩
              conv => whnf
              refine ⟨_, EN2.bB, ?_⟩
              conv => whnf
              refine ⟨_, span_neq rfl rfl rfl _ _, ?_⟩
              conv => whnf
              rw [show (!(decide (bb1 = bb1) && decide (bb2 = bb2))) = false by simp]
              conv => whnf
              rw [show (kk != Lt) = false by rw [t6]; simp]
              conv => whnf
              refine then_end (hm := false) ?_
              conv => whnf
              refine ⟨(i : Int) + 1, by rw [wrap_eq (by omega) (by omega)], ?_⟩
              conv => whnf
              exact ⟨_, (show 4 - (i + 1) < 4 - i by omega), i + 1, h2, by omega, rfl, EN2, rfl, ⟨rfl, rfl, rfl, rfl, rfl, rfl, rfl, rfl, rfl, rfl, rfl, rfl, rfl, rfl, rfl, trivial⟩, rfl, rfl, rfl, rfl⟩
          · have hr0 : rn ≠ 0 := by simp at hrn0; omega
            rw [if_neg hr0] at hll
            rw [hll]
            conv => whnf
            cases hi3 : ((i : Int) == 3)
            · conv => whnf
              refine then_end (hm := false) ?_
              conv => whnf
              refine ⟨(i : Int) + 1, by rw [wrap_eq (by omega) (by omega)], ?_⟩
              conv => whnf
              exact ⟨_, (show 4 - (i + 1) < 4 - i by omega), i + 1, h2, by omega, rfl, EN2, rfl, ⟨rfl, rfl, rfl, rfl, rfl, rfl, rfl, rfl, rfl, rfl, rfl, rfl, rfl, rfl, rfl, trivial⟩, rfl, rfl, rfl, rfl⟩
            · have h3 : i = 3 := by simp at hi3; omega
              obtain ⟨t1, t2, t3, t4, t5, t6⟩ := tl_same hsub (hsame h3) TL TC
              rw [t1, t2] at bC2
              rw [t3, t4] at bD2
              conv => whnf
              refine ⟨_, bC2, ?_⟩
              conv => whnf
              refine ⟨_, EN2.bA, ?_⟩
              conv => whnf
              refine ⟨_, span_neq rfl rfl rfl _ _, ?_⟩
              conv => whnf
              rw [show (!(decide (a1 = a1) && decide (a2 = a2))) = false by simp]
              conv => whnf
              rw [show ((10 : Int) != e) = false by rw [← t5, h0]; rfl]
              conv => whnf
              refine ⟨_, bD2, ?_⟩
              conv => whnf
              refine ⟨_, EN2.bB, ?_⟩
              conv => whnf
              refine ⟨_, span_neq rfl rfl rfl _ _, ?_⟩
              conv => whnf
              rw [show (!(decide (bb1 = bb1) && decide (bb2 = bb2))) = false by simp]
              conv => whnf
              rw [show (kk != Lt) = false by rw [t6]; simp]
              conv => whnf
              refine then_end (hm := false) ?_
              conv => whnf
              refine ⟨(i : Int) + 1, by rw [wrap_eq (by omega) (by omega)], ?_⟩
              conv => whnf
              exact ⟨_, (show 4 - (i + 1) < 4 - i by omega), i + 1, h2, by omega, rfl, EN2, rfl, ⟨rfl, rfl, rfl, rfl, rfl, rfl, rfl, rfl, rfl, rfl, rfl, rfl, rfl, rfl, rfl, trivial⟩, rfl, rfl, rfl, rfl⟩
      · conv => whnf
        subst hK'
        obtain ⟨l0, l1, l2, l3, l4, l5, _, _, _⟩ := EN.lt
        exact ⟨_, EN.b0, EN.cR, EN.cK, EN.cL, ⟨l0, l3, l4, l5⟩, rfl, ⟨rfl, rfl, rfl, rfl, rfl, trivial⟩, rfl, rfl, rfl, rfl⟩
  clear hs1 b0 b2 b3 b4 b5 bX bY hR cR cK cL bA bB g0 gy gr gk gl gia gib h st
  rintro st ⟨h, b0, cR, cK, cL, ⟨g0, gr, gk, gl⟩, hs1⟩
  refine hs1.then ?_
  conv => whnf
  refine then_join (fun st => ∃ (h : Heap), Heap.at h 0 = v.blk ∧ Heap.at h cr = .blk ((s.runs.map rowRu).flatten.map AV.c) ∧ Heap.at h ck = .blk ((s.sheep.map rowK).flatten.map AV.c) ∧ Heap.at h cl = .blk ((s.looks.map rowLk).flatten.map AV.c) ∧ (0 < h.n ∧ cr < h.n ∧ ck < h.n ∧ cl < h.n) ∧
      Has st 409 [(5, .ptr 0 0), (22, .msl cr 2 0 s.runs.length s.runs.length), (23, .msl ck 1 0 s.sheep.length s.sheep.length), (24, .msl cl 3 0 s.looks.length s.looks.length)] [] none h) ?_ ?_
  · refine then_seq (hm := false) ?_
    conv => whnf
    refine ⟨_, b0, ?_⟩
    conv => whnf
    refine then_if ?_
    conv => whnf
    cases hc16 : decide ((v.kn : Int) < 16)
    · conv => whnf
      refine then_end (hm := false) ?_
      conv => whnf
      exact ⟨h, b0, cR, cK, cL, ⟨g0, gr, gk, gl⟩, rfl, ⟨rfl, rfl, rfl, rfl, trivial⟩, rfl, rfl, rfl, rfl⟩
    have h16 : s.sheep.length < 16 := by simp at hc16; omega
    conv => whnf
    refine then_via (hm := false) (fun st => ∃ (H : Heap) (ia : Nat), Foot none' h H ∧ h.n ≤ ia ∧ ia + 1 < H.n ∧ Heap.at H ia = v.blk ∧ Heap.at H (ia + 1) = v.blk ∧
      Has st 409 [(5, .ptr 0 0), (13, .c (I kind)), (22, .msl cr 2 0 s.runs.length s.runs.length), (23, .msl ck 1 0 s.sheep.length s.sheep.length), (24, .msl cl 3 0 s.looks.length s.looks.length), (40, .ptr ia 0), (41, .ptr (ia + 1) 0)] [] none H) ?_ ?_
    · conv => whnf
      refine draw_by (hm := false) (by kernel_rfl) (by kernel_rfl) ?_
      conv => whnf
      refine ⟨_, b0, ?_⟩
      conv => whnf
      refine ⟨_, b0, ?_⟩
      conv => whnf
      refine ⟨_, (at_push_lt _ _ (by rw [push_n]; omega)).trans (at_push_self _ _), ?_⟩
      conv => whnf
      refine ⟨by show h.n < h.n + 1 + 1; omega, ?_⟩
      conv => whnf
      refine ⟨_, (at_set_ne _ _ (by show h.n + 1 ≠ h.n; omega)).trans (at_push_self _ _), ?_⟩
      conv => whnf
      refine ⟨by show h.n + 1 < h.n + 1 + 1; omega, ?_⟩
      conv => whnf
      obtain ⟨π, z0, q0, q1⟩ : ∃ π : Nat → Nat, π 0 = 0 ∧ π h.n = 1 ∧ π (h.n + 1) = 2 := ⟨fun x => if x = 0 then 0 else if x = h.n then 1 else 2, rfl, by dsimp only; rw [if_neg (by omega), if_pos rfl], by dsimp only; rw [if_neg (by omega), if_neg (by omega)]⟩
      refine ⟨pairs_via π [⟨0, _, _, [π 0], []⟩, ⟨1, _, _, [π 0], []⟩, ⟨2, _, _, [], [π h.n]⟩, ⟨3, _, _, [], [π (h.n + 1)]⟩, ⟨4, _, _, [π h.n], [π h.n]⟩, ⟨5, _, _, [π (h.n + 1)], [π (h.n + 1)]⟩] rfl (by rw [z0, q0, q1]; kernel_rfl), ?_⟩
      conv => whnf
      refine ⟨_, h.n, Foot.set (Foot.set (((Foot.refl _ _).push _).push _) (.inr (Nat.le_refl _)) _) (.inr (Nat.le_succ _)) _, Nat.le_refl _, Nat.lt_succ_self _, ?_, ?_, rfl, ⟨rfl, rfl, rfl, rfl, rfl, rfl, rfl, trivial⟩, rfl, rfl, rfl, rfl⟩
      · exact (at_set_ne _ _ (by show h.n ≠ h.n + 1; omega)).trans (at_set_self _ _ (by show h.n < h.n + 1 + 1; omega))
      · exact at_set_self _ _ (by show h.n + 1 < h.n + 1 + 1; omega)
    clear hs1 st
    rintro st ⟨H, ia, FH, la, lb, bA, bB, hs1⟩
    refine hs1.then ?_
    conv => whnf
    refine then_via (hm := false) (fun st => ∃ (H : Heap), Foot none' h H ∧ ia + 1 < H.n ∧ Heap.at H ia = bareBlk v ∧ Heap.at H (ia + 1) = bareBlk v ∧
      Has st 409 [(5, .ptr 0 0), (13, .c (I kind)), (22, .msl cr 2 0 s.runs.length s.runs.length), (23, .msl ck 1 0 s.sheep.length s.sheep.length), (24, .msl cl 3 0 s.looks.length s.looks.length), (40, .ptr ia 0), (41, .ptr (ia + 1) 0)] [] none H) ?_ ?_
    · conv => whnf
      refine ⟨_, bA, ?_⟩
      conv => whnf
      refine ⟨_, (at_set_ne _ _ (by omega)).trans bB, ?_⟩
      conv => whnf
      exact ⟨_, Foot.set (Foot.set FH (.inr la) _) (.inr (by omega)) _, lb, (at_set_ne _ _ (by omega)).trans (at_set_self _ _ (by omega)), at_set_self _ _ lb, rfl, ⟨rfl, rfl, rfl, rfl, rfl, rfl, rfl, trivial⟩, rfl, rfl, rfl, rfl⟩
    clear hs1 FH bA bB lb H st
    rintro st ⟨H, FH, lb, bA, bB, hs1⟩
    refine hs1.then ?_
    conv => whnf
    refine then_via (hm := false) (fun st => ∃ (H : Heap) (ol : Nat), Foot none' h H ∧ (ia + 1 < H.n ∧ ol < H.n) ∧ Heap.at H ia = bareBlk v ∧ Heap.at H (ia + 1) = .blk [.c (I v.lo.a), .c (I v.hi.a), .c (I v.lo.b), .c (I v.hi.b), .c (I v.lo.c), .c (I v.hi.c), .c (.sl v.rc v.ro v.rn), .msl ol 1 0 (s.sheep.length + 1) (s.sheep.length + 1), nilA] ∧
      Heap.at H ol = .blk (((s.sheep ++ [(kind : Int)]).map rowK).flatten.map .c) ∧
      Has st 409 [(5, .ptr 0 0), (22, .msl cr 2 0 s.runs.length s.runs.length), (23, .msl ck 1 0 s.sheep.length s.sheep.length), (24, .msl cl 3 0 s.looks.length s.looks.length), (40, .ptr ia 0), (41, .ptr (ia + 1) 0)] [] none H) ?_ ?_
    · have rowK_len : ∀ r ∈ s.sheep.map rowK, r.length = 1 := fun r hr => by obtain ⟨x, _, rfl⟩ := List.mem_map.1 hr; rfl
      have hfk := fun rd => hv.k.first rowK_len rd
      have hck : ((s.sheep.map rowK).flatten.map AV.c).all AV.cellish = true := ints_cellish fun r hr => by obtain ⟨x, _, rfl⟩ := List.mem_map.1 hr; exact ⟨[x], rfl⟩
      have hlk : 0 + (s.sheep.map rowK).length ≤ limit := by rw [List.length_map]; unfold limit; omega
      have hbl : ((s.sheep ++ [(kind : Int)]).map rowK).flatten.map AV.c = (s.sheep.map rowK).flatten.map AV.c ++ [.c (I kind)] := by rw [List.map_append, List.flatten_append, List.map_append]; rfl
      rw [hbl]
      by_cases hks : s.sheep = []
      · have hfn : ∀ rd : Nat → AB, firstCells rd 1 (.c (.sl v.kc v.ko v.kn)) = some ([], 0, []) := fun rd => by rw [hfk rd, hks]; rfl
        rw [hks]
        conv => whnf
        refine ⟨_, (at_push_lt _ _ (by omega)).trans ((FH.keep 0 (by omega) (fun x => x)).trans b0), ?_⟩
        conv => whnf
        obtain ⟨G1, hG1⟩ : ∃ G1 : Heap, G1 = H.push .dead (.blk []) := ⟨_, rfl⟩
        have n1 : G1.n = H.n + 1 := by rw [hG1]; rfl
        have FG1 : Foot none' H G1 := by rw [hG1]; exact (Foot.refl _ _).push _
        have a1 : Heap.at G1 H.n = .blk [] := by rw [hG1]; exact at_push_self _ _
        obtain ⟨G3, hG3⟩ : ∃ G3 : Heap, G3 = ((G1.push .dead (.blk [.c (I kind)])).set .dead H.n .dead).push .dead (.blk ([] ++ [.c (I kind)])) := ⟨_, rfl⟩
        have n3 : G3.n = G1.n + 2 := by rw [hG3]; rfl
        have FG3 : Foot none' H G3 := by rw [hG3]; exact (Foot.set (FG1.push _) (.inr (by omega)) _).push _
        have a3 : Heap.at G3 (G1.n + 1) = .blk ([] ++ [.c (I kind)]) := by rw [hG3]; exact at_push_self _ _
        refine got_as (H := G1) (append_none (id := H.n) (len := 0) (cap := 0) rfl rfl U26 U26 rfl S3 (hfn _)) hG1.symm ?_
        conv => whnf
        have hx2 := append_grow (P := Try.prog) (rd := Heap.at (G1.push .dead (.blk [.c (I kind)]))) (fresh := G1.n + 1) (ts := #[26, 26]) (id := H.n) (len := 0) (cells := []) rfl rfl U26 U26 rfl S3 (first_own (id := G1.n) (sz := 1) (len := 1) (cap := 1) (cells := [.c (I kind)]) (at_push_self _ _) rfl) rfl (by decide) (by decide)
          ((at_push_lt _ _ (by omega)).trans a1) rfl
        rw [← atF_eq] at hx2
        refine got_as (H := G3) hx2 hG3.symm ?_
        conv => whnf
        refine ⟨_, (FG3.keep (ia + 1) lb (fun x => x)).trans bB, ?_⟩
        conv => whnf
        have kk : ∀ (x : AB) (i : Nat), i ≠ ia + 1 → Heap.at (G3.set .dead (ia + 1) x) i = Heap.at G3 i := fun x i hi => at_set_ne _ _ hi
        exact ⟨_, (G1.n + 1), Foot.set (FH.trans FG3) (.inr (by omega)) _, ⟨by show ia + 1 < G3.n; omega, by show (G1.n + 1) < G3.n; omega⟩, (kk _ _ (by omega)).trans ((FG3.keep ia (by omega) (fun x => x)).trans bA), at_set_self _ _ (by omega), (kk _ _ (by omega)).trans a3, rfl, ⟨rfl, rfl, rfl, rfl, rfl, rfl, trivial⟩, rfl, rfl, rfl, rfl⟩
      · conv => whnf
        refine ⟨_, (at_push_lt _ _ (by omega)).trans ((FH.keep 0 (by omega) (fun x => x)).trans b0), ?_⟩
        conv => whnf
        obtain ⟨G1, hG1⟩ : ∃ G1 : Heap, G1 = ((H.push .dead (.blk [])).set .dead H.n .dead).push .dead (.blk ([] ++ ((s.sheep.map rowK).flatten.map AV.c))) := ⟨_, rfl⟩
        have n1 : G1.n = H.n + 2 := by rw [hG1]; rfl
        have FG1 : Foot none' H G1 := by rw [hG1]; exact (Foot.set ((Foot.refl _ _).push _) (.inr (by omega)) _).push _
        have a1 : Heap.at G1 (H.n + 1) = .blk ([] ++ ((s.sheep.map rowK).flatten.map AV.c)) := by rw [hG1]; exact at_push_self _ _
        obtain ⟨G3, hG3⟩ : ∃ G3 : Heap, G3 = ((G1.push .dead (.blk [.c (I kind)])).set .dead (H.n + 1) .dead).push .dead (.blk (([] ++ ((s.sheep.map rowK).flatten.map AV.c)) ++ [.c (I kind)])) := ⟨_, rfl⟩
        have n3 : G3.n = G1.n + 2 := by rw [hG3]; rfl
        have FG3 : Foot none' H G3 := by rw [hG3]; exact (Foot.set (FG1.push _) (.inr (by omega)) _).push _
        have a3 : Heap.at G3 (G1.n + 1) = .blk (([] ++ ((s.sheep.map rowK).flatten.map AV.c)) ++ [.c (I kind)]) := by rw [hG3]; exact at_push_self _ _
        have hx1 := append_grow (P := Try.prog) (rd := Heap.at (H.push .dead (.blk []))) (fresh := H.n + 1) (ts := #[26, 26]) (id := H.n) (len := 0) (cells := []) rfl rfl U26 U26 rfl S3 (hfk _) hck (by rw [List.length_map]; exact fun e => hks (List.length_eq_zero_iff.1 e)) hlk (at_push_self _ _) rfl
        rw [← atF_eq] at hx1
        simp only [List.length_map, Nat.zero_add] at hx1
        refine got_as (H := G1) hx1 hG1.symm ?_
        conv => whnf
        have hx2 := append_grow (P := Try.prog) (rd := Heap.at (G1.push .dead (.blk [.c (I kind)]))) (fresh := G1.n + 1) (ts := #[26, 26]) (id := H.n + 1) (len := s.sheep.length) (cells := [] ++ ((s.sheep.map rowK).flatten.map AV.c)) rfl rfl U26 U26 rfl S3 (first_own (id := G1.n) (sz := 1) (len := 1) (cap := 1) (cells := [.c (I kind)]) (at_push_self _ _) rfl) rfl (by decide) (by unfold limit; omega)
          ((at_push_lt _ _ (by omega)).trans a1) (by rw [List.nil_append, List.length_map, flat_len _ rowK_len, List.length_map] <;> omega)
        rw [← atF_eq] at hx2
        refine got_as (H := G3) hx2 hG3.symm ?_
        conv => whnf
        refine ⟨_, (FG3.keep (ia + 1) lb (fun x => x)).trans bB, ?_⟩
        conv => whnf
        have kk : ∀ (x : AB) (i : Nat), i ≠ ia + 1 → Heap.at (G3.set .dead (ia + 1) x) i = Heap.at G3 i := fun x i hi => at_set_ne _ _ hi
        exact ⟨_, (G1.n + 1), Foot.set (FH.trans FG3) (.inr (by omega)) _, ⟨by show ia + 1 < G3.n; omega, by show (G1.n + 1) < G3.n; omega⟩, (kk _ _ (by omega)).trans ((FG3.keep ia (by omega) (fun x => x)).trans bA), at_set_self _ _ (by omega), (kk _ _ (by omega)).trans a3, rfl, ⟨rfl, rfl, rfl, rfl, rfl, rfl, trivial⟩, rfl, rfl, rfl, rfl⟩
    clear hs1 FH bA bB lb H st
    rintro st ⟨H, ol, FH, ⟨lb, ll⟩, bA, bB, bL, hs1⟩
    refine hs1.then ?_
    conv => whnf
    refine then_end (hm := false) ?_
    conv => whnf
    refine ⟨_, (FH.keep 0 (by omega) (fun x => x)).trans b0, ?_⟩
    conv => whnf
    refine loop_op (fun m st => ∃ (i : Nat) (H : Heap), i ≤ s.sheep.length ∧ m = s.sheep.length - i ∧ Foot none' h H ∧ (ia + 1 < H.n ∧ ol < H.n) ∧ Heap.at H ia = bareBlk v ∧ Heap.at H (ia + 1) = .blk [.c (I v.lo.a), .c (I v.hi.a), .c (I v.lo.b), .c (I v.hi.b), .c (I v.lo.c), .c (I v.hi.c), .c (.sl v.rc v.ro v.rn), .msl ol 1 0 (s.sheep.length + 1) (s.sheep.length + 1), nilA] ∧
      Heap.at H ol = .blk (((s.sheep ++ [(kind : Int)]).map rowK).flatten.map .c) ∧
      Has st 409 [(5, .ptr 0 0), (22, .msl cr 2 0 s.runs.length s.runs.length), (23, .msl ck 1 0 s.sheep.length s.sheep.length), (24, .msl cl 3 0 s.looks.length s.looks.length), (40, .ptr ia 0), (41, .ptr (ia + 1) 0), (332, .c (I v.kn)), (333, .c (I i))] [] none H) ?_ (k := s.sheep.length)
      ⟨0, H, Nat.zero_le _, rfl, FH, ⟨lb, ll⟩, bA, bB, bL, rfl, ⟨rfl, rfl, rfl, rfl, rfl, rfl, rfl, rfl, trivial⟩, rfl, rfl, rfl, rfl⟩
    clear hs1 FH bA bB bL lb ll H st
    rintro m st ⟨i, H, hi, rfl, FH, ⟨lb, ll⟩, bA, bB, bL, hs1⟩ K' hK'
    refine hs1.run (hm := false) ?_
    conv => whnf
    cases hc : decide ((i : Int) < (v.kn : Int))
    case true =>
      have hi2 : i < s.sheep.length := by simp at hc; omega
      obtain ⟨a, b, q1, q2⟩ := long_rets hv hd h16 hk2 hi2
      conv => whnf
      refine ⟨_, bA, ?_⟩
      conv => whnf
      refine .ret q1 rfl ?_
      conv => whnf
      refine ⟨_, at_push_self _ _, ?_⟩
      conv => whnf
      refine ⟨_, (at_old _ _ _ lb).trans bB, ?_⟩
      conv => whnf
      refine callL (cs := [I i]) ((at_old _ _ _ ll).trans bL) q2 rfl ?_
      conv => whnf
      refine ⟨_, at_push_self _ _, ?_⟩
      conv => whnf
      refine ⟨_, (at_old _ _ _ (by rw [new_n]; omega)).trans (at_new _ _ _), ?_⟩
      conv => whnf
      refine ⟨_, at_new _ _ _, ?_⟩
      conv => whnf
      refine ⟨_, span_neq rfl rfl rfl _ _, ?_⟩
      conv => whnf
      rw [show (!(decide (a = a) && decide (b = b))) = false by simp]
      conv => whnf
      refine ⟨((i + 1 : Nat) : Int), by rw [wrap_eq (by omega) (by omega)]; omega, ?_⟩
      conv => whnf
      have up := fun (x y z w : AB) (j : Nat) (hj : j < H.n) => ((foot_new H x y).trans (foot_new _ z w)).keep j hj (fun x => x)
      exact ⟨s.sheep.length - (i + 1), by omega, i + 1, _, hi2, rfl, FH.trans ((foot_new H _ _).trans (foot_new _ _ _)), ⟨by rw [new_n, new_n]; omega, by rw [new_n, new_n]; omega⟩, (up _ _ _ _ _ (by omega)).trans bA, (up _ _ _ _ _ lb).trans bB, (up _ _ _ _ _ ll).trans bL, rfl, ⟨rfl, rfl, rfl, rfl, rfl, rfl, rfl, rfl, trivial⟩, rfl, rfl, rfl, rfl⟩
    · conv => whnf
      subst hK'
      have n := FH.n
      exact ⟨_, (FH.keep _ g0 (fun x => x)).trans b0, (FH.keep _ gr (fun x => x)).trans cR, (FH.keep _ gk (fun x => x)).trans cK, (FH.keep _ gl (fun x => x)).trans cL, ⟨by omega, by omega, by omega, by omega⟩, rfl, ⟨rfl, rfl, rfl, rfl, trivial⟩, rfl, rfl, rfl, rfl⟩
  have hO : ({ v with rc := (s.runs.map rowRu).flatten, ro := 0, rn := s.runs.length, kc := (s.sheep.map rowK).flatten, ko := 0, kn := s.sheep.length, lc := (s.looks.map rowLk).flatten, lo' := 0, ln := s.looks.length } : SV).Is s := by
    have h1 := sl_flat (sz := 2) (rows := s.runs.map rowRu) (fun r hr => by obtain ⟨x, _, rfl⟩ := List.mem_map.1 hr; rfl)
    have h2 := sl_flat (sz := 1) (rows := s.sheep.map rowK) (fun r hr => by obtain ⟨x, _, rfl⟩ := List.mem_map.1 hr; rfl)
    have h3 := sl_flat (sz := 3) (rows := s.looks.map rowLk) rowLk_len
    rw [List.length_map] at h1 h2 h3
    exact ⟨hv.lo, hv.hi, h1, h2, h3, e2⟩
  clear hs1 b0 cR cK cL g0 gr gk gl h st
  rintro st ⟨h, b0, cR, cK, cL, -, hs1⟩
  refine hs1.then ?_
  conv => whnf
  refine then_via (hm := false) (fun st => ∃ (h : Heap), Heap.at h 0 = v.blk ∧ Heap.at h ck = .blk ((s.sheep.map rowK).flatten.map AV.c) ∧ Heap.at h cl = .blk ((s.looks.map rowLk).flatten.map AV.c) ∧ Has st 409 [(5, .ptr 0 0), (23, .msl ck 1 0 s.sheep.length s.sheep.length), (24, .msl cl 3 0 s.looks.length s.looks.length)] [] none h) ?_ ?_
  · conv => whnf
    refine loop_op (fun m st => ∃ i : Nat, i ≤ s.runs.length ∧ m = s.runs.length - i ∧ Has st 409 [(5, .ptr 0 0), (22, .msl cr 2 0 s.runs.length s.runs.length), (23, .msl ck 1 0 s.sheep.length s.sheep.length), (24, .msl cl 3 0 s.looks.length s.looks.length), (361, .c (I s.runs.length)), (362, .c (I i))] [] none h) ?_ (k := s.runs.length)
      ⟨0, Nat.zero_le _, rfl, rfl, ⟨rfl, rfl, rfl, rfl, rfl, rfl, trivial⟩, rfl, rfl, rfl, rfl⟩
    clear hs1 st
    rintro m st ⟨i, hi, rfl, hs1⟩ K' hK'
    refine hs1.run (hm := false) ?_
    conv => whnf
    cases hc : decide ((i : Int) < (s.runs.length : Int))
    case true =>
      have hi2 : i < s.runs.length := by simp at hc; omega
      obtain ⟨x, hx⟩ := get_some (l := s.runs) hi2
      conv => whnf
      refine draw_by (hm := false) (by kernel_rfl) (by kernel_rfl) ?_
      conv => whnf
      refine ⟨⟨rfl, by omega, by omega⟩, ?_⟩
      conv => whnf
      refine ⟨_, cR, look_read (readVar_map (hO.run hx)) ?_⟩
      conv => whnf
      refine ⟨_, b0, ?_⟩
      conv => whnf
      refine ⟨⟨by omega, by omega⟩, ?_⟩
      conv => whnf
      refine ⟨_, hv.run hx, ?_⟩
      conv => whnf
      refine dplain_val (run_neq rfl rfl rfl _ _) ?_
      conv => whnf
      refine ⟨by kernel_rfl, ?_⟩
      conv => whnf
      refine ⟨((i + 1 : Nat) : Int), by rw [wrap_eq (by omega) (by omega)]; omega, ?_⟩
      conv => whnf
      exact ⟨s.runs.length - (i + 1), by omega, i + 1, hi2, rfl, rfl, ⟨rfl, rfl, rfl, rfl, rfl, rfl, trivial⟩, rfl, rfl, rfl, rfl⟩
    · conv => whnf
      subst hK'
      exact ⟨h, b0, cK, cL, rfl, ⟨rfl, rfl, rfl, trivial⟩, rfl, rfl, rfl, rfl⟩
  clear hs1 b0 cR cK cL h st
  rintro st ⟨h, b0, cK, cL, hs1⟩
  refine hs1.then ?_
  conv => whnf
  refine then_via (hm := false) (fun st => ∃ (h : Heap), Heap.at h 0 = v.blk ∧ Heap.at h cl = .blk ((s.looks.map rowLk).flatten.map AV.c) ∧ Has st 409 [(5, .ptr 0 0), (24, .msl cl 3 0 s.looks.length s.looks.length)] [] none h) ?_ ?_
  · conv => whnf
    refine loop_op (fun m st => ∃ i : Nat, i ≤ s.sheep.length ∧ m = s.sheep.length - i ∧ Has st 409 [(5, .ptr 0 0), (23, .msl ck 1 0 s.sheep.length s.sheep.length), (24, .msl cl 3 0 s.looks.length s.looks.length), (377, .c (I s.sheep.length)), (378, .c (I i))] [] none h) ?_ (k := s.sheep.length)
      ⟨0, Nat.zero_le _, rfl, rfl, ⟨rfl, rfl, rfl, rfl, rfl, trivial⟩, rfl, rfl, rfl, rfl⟩
    clear hs1 st
    rintro m st ⟨i, hi, rfl, hs1⟩ K' hK'
    refine hs1.run (hm := false) ?_
    conv => whnf
    cases hc : decide ((i : Int) < (s.sheep.length : Int))
    case true =>
      have hi2 : i < s.sheep.length := by simp at hc; omega
      obtain ⟨x, hx⟩ := get_some (l := s.sheep) hi2
      conv => whnf
      refine draw_by (hm := false) (by kernel_rfl) (by kernel_rfl) ?_
      conv => whnf
      refine ⟨⟨rfl, by omega, by omega⟩, ?_⟩
      conv => whnf
      refine ⟨_, cK, look_read (readVar_map (hO.kind hx)) ?_⟩
      conv => whnf
      refine ⟨_, b0, ?_⟩
      conv => whnf
      refine ⟨⟨by omega, by omega⟩, ?_⟩
      conv => whnf
      refine ⟨_, hv.kind hx, ?_⟩
      conv => whnf
      rw [show (x != x) = false by simp]
      conv => whnf
      refine ⟨by kernel_rfl, ?_⟩
      conv => whnf
      refine ⟨((i + 1 : Nat) : Int), by rw [wrap_eq (by omega) (by omega)]; omega, ?_⟩
      conv => whnf
      exact ⟨s.sheep.length - (i + 1), by omega, i + 1, hi2, rfl, rfl, ⟨rfl, rfl, rfl, rfl, rfl, trivial⟩, rfl, rfl, rfl, rfl⟩
    · conv => whnf
      subst hK'
      exact ⟨h, b0, cL, rfl, ⟨rfl, rfl, trivial⟩, rfl, rfl, rfl, rfl⟩
  clear hs1 b0 cK cL h st
  rintro st ⟨h, b0, cL, hs1⟩
  refine hs1.then ?_
  conv => whnf
  refine then_via (hm := false) (fun st => ∃ (h : Heap), Heap.at h 0 = v.blk ∧ Has st 409 [(5, .ptr 0 0)] [] none h) ?_ ?_
  · conv => whnf
    refine loop_op (fun m st => ∃ i : Nat, i ≤ s.looks.length ∧ m = s.looks.length - i ∧ Has st 409 [(5, .ptr 0 0), (24, .msl cl 3 0 s.looks.length s.looks.length), (393, .c (I s.looks.length)), (394, .c (I i))] [] none h) ?_ (k := s.looks.length)
      ⟨0, Nat.zero_le _, rfl, rfl, ⟨rfl, rfl, rfl, rfl, trivial⟩, rfl, rfl, rfl, rfl⟩
    clear hs1 st
    rintro m st ⟨i, hi, rfl, hs1⟩ K' hK'
    refine hs1.run (hm := false) ?_
    conv => whnf
    cases hc : decide ((i : Int) < (s.looks.length : Int))
    case true =>
      have hi2 : i < s.looks.length := by simp at hc; omega
      obtain ⟨x, hx⟩ := get_some (l := s.looks) hi2
      conv => whnf
      refine draw_by (hm := false) (by kernel_rfl) (by kernel_rfl) ?_
      conv => whnf
      refine ⟨⟨rfl, by omega, by omega⟩, ?_⟩
      conv => whnf
      refine ⟨_, cL, look_read (readVar_map (hO.look hx)) ?_⟩
      conv => whnf
      refine ⟨_, b0, ?_⟩
      conv => whnf
      refine ⟨⟨by omega, by omega⟩, ?_⟩
      conv => whnf
      refine ⟨_, hv.look hx, ?_⟩
      conv => whnf
      refine dplain_val (look_neq rfl rfl rfl _ _) ?_
      conv => whnf
      refine ⟨by kernel_rfl, ?_⟩
      conv => whnf
      refine ⟨((i + 1 : Nat) : Int), by rw [wrap_eq (by omega) (by omega)]; omega, ?_⟩
      conv => whnf
      exact ⟨s.looks.length - (i + 1), by omega, i + 1, hi2, rfl, rfl, ⟨rfl, rfl, rfl, rfl, trivial⟩, rfl, rfl, rfl, rfl⟩
    · conv => whnf
      subst hK'
      exact ⟨h, b0, rfl, ⟨rfl, trivial⟩, rfl, rfl, rfl, rfl⟩
  clear hs1 b0 cL h st
  rintro st ⟨h, b0, hs1⟩
  refine hs1.then ?_
  conv => whnf
  refine then_end (hm := false) ?_
  conv => whnf
  refine .ret hA rfl ?_
  conv => whnf
  exact .val
end Go.Ag
