/- Contracts of functions of layer 4: sets of looks, what clashes, what is valid in the reference; the laws are awake. No conditions. -/
import Derived.Test.YtdjgafdekabolaaStB
/- Layer 4: the looks of a set. -/
namespace Go.Ag
open Go.Proofs
set_option maxRecDepth 100000

theorem CV.Le.part {c part : List CV} {o k n : Nat} (h : sliceOf c o k = some part) : (CV.sl c o n).Le (.sl part 0 n) := fun Φ v hv => by
  rcases hv with hv | ⟨b, base, cap, cs, e, fr, h1, h2, h3, h4⟩
  · exact .inl hv
  · refine .inr ⟨b, base + o, cap, cs, e, fr, by rw [h1, Nat.add_zero], h2, h3, ?_⟩
    have drop : ∀ (o : Nat) (l : List CV) (vs : List Value), RepP Φ l vs → RepP Φ (l.drop o) (vs.drop o) := by
      intro o
      induction o with
      | zero => intro l vs h; exact h
      | succ o ih =>
        intro l vs h
        cases l with
        | nil => simp [RepP]
        | cons a l =>
          cases vs with
          | nil => exact h.elim
          | cons x vs => exact ih l vs h.2
    have take : ∀ (k : Nat) (l : List CV) (vs : List Value), RepP Φ l vs → RepP Φ (l.take k) vs := by
      intro k
      induction k with
      | zero => intro l vs h; simp [RepP]
      | succ k ih =>
        intro l vs h
        cases l with
        | nil => simp [RepP]
        | cons a l =>
          cases vs with
          | nil => exact h.elim
          | cons x vs => exact ⟨h.1, ih l vs h.2⟩
    simp only [sliceOf] at h
    split at h
    case isFalse => cases h
    obtain rfl := Option.some.inj h
    rw [← List.drop_drop]
    exact take k _ _ (drop o _ _ h4)

noncomputable def outOf (C : Cfg) (n : Nat) (f : FuncId) (args : List CV) : Option CV := match run C n (.call f (args.map .c) TMap.nil .no) with
  | some (.call (.ret v) h _) => (snap (Heap.at h) 100000 v).map (·.1)
  | _ => none
noncomputable def onlyCfg : Cfg := { P := Try.prog, pure := fun f => !(f == 126), con := fun _ _ => none }
theorem mix : Try.prog.follows .mixedOrders = true := by kernel_rfl
theorem onlyCon : ConOk onlyCfg := fun _ _ _ h => nomatch h

theorem out_ok {C : Cfg} (hmix : C.P.follows .mixedOrders = true) (hcon : ConOk C) {n : Nat} {f : FuncId} {args : List CV} {r : CV} (h : outOf C n f args = some r) : Ret C.P f args r := by
  unfold outOf at h
  split at h
  case h_2 => cases h
  rename_i v hp pan hr
  cases hs : snap (Heap.at hp) 100000 v with
  | none => rw [hs] at h; cases h
  | some x =>
    rw [hs] at h
    simp only [Option.map_some, Option.some.injEq] at h
    subst h
    exact callOk_run hmix hcon hr (e := .ret v) hs

/-- The looks of a set. -/
def sel (s : Nat) : List Lk → Nat → List Lk
  | [], _ => []
  | a :: l, i => if s.testBit i then a :: sel s l (i + 1) else sel s l (i + 1)
def onlyL (L : List Lk) (s : Nat) : List Lk := sel s L 0
theorem sel_len (s : Nat) : ∀ (l : List Lk) (i : Nat), (sel s l i).length ≤ l.length
  | [], _ => Nat.le_refl _
  | a :: l, i => by
    have := sel_len s l (i + 1)
    unfold sel
    split <;> simp <;> omega

theorem SlOf.whole {sz : Nat} {rows : List (List CV)} {cells : List CV} {off len : Nat} (h : SlOf sz rows cells off len) (hsz : ∀ r ∈ rows, r.length = sz) : sliceOf cells off (rows.length * sz) = some rows.flatten := by
  have key : ∀ (rows : List (List CV)) (off : Nat), (∀ r ∈ rows, r.length = sz) → (∀ i (r : List CV), rows[i]? = some r → sliceOf cells (off + i * sz) sz = some r) → sliceOf cells off (rows.length * sz) = some rows.flatten := by
    intro rows
    induction rows with
    | nil => intro off _ _; simp [sliceOf]
    | cons r rows ih =>
      intro off hs hr
      have h0 := hr 0 r rfl
      rw [Nat.zero_mul, Nat.add_zero] at h0
      have h1 := ih (off + sz) (fun r hr => hs r (by simp [hr])) (fun i r hir => by
        have := hr (i + 1) r (by simpa using hir)
        rw [Nat.add_mul, Nat.one_mul] at this
        rw [show off + sz + i * sz = off + (i * sz + sz) by omega]
        exact this)
      unfold sliceOf at h0 h1 ⊢
      dsimp only at h0 h1 ⊢
      split at h0
      · split at h1
        · simp only [Option.some.injEq] at h0 h1
          have e : List.take ((r :: rows).length * sz) (List.drop off cells) = (r :: rows).flatten := by
            rw [List.length_cons, Nat.add_mul, Nat.one_mul, Nat.add_comm, List.take_add, List.drop_drop, h0, h1, List.flatten_cons]
          rw [e, if_pos]
          rw [List.flatten_cons, List.length_append, ← h1]
          rename_i q1 q2
          rw [q2, hs r (by simp), List.length_cons, Nat.add_mul]
          omega
        · cases h1
      · cases h0
  exact key rows off hsz h.row
theorem sl_app {sz : Nat} (hz : 0 < sz) {rows : List (List CV)} (h : ∀ r ∈ rows, r.length = sz) (z : List CV) : SlOf sz rows (rows.flatten ++ z) 0 rows.length := by
  refine ⟨rfl, fun i r hr => ?_⟩
  have h1 := (sl_flat h).row i r hr
  simp only [sliceOf] at h1 ⊢
  split at h1
  case isFalse => cases h1
  rename_i hl
  have hsz : r.length = sz := h r (List.mem_of_getElem? hr)
  have hlen : 0 + i * sz + sz ≤ rows.flatten.length := by
    rw [List.length_take, List.length_drop] at hl; omega
  rw [List.drop_append_of_le_length (by omega), List.take_append_of_le_length (by rw [List.length_drop]; omega)]
  rw [if_pos hl]; exact h1
theorem rowLk_len {L : List Lk} : ∀ r ∈ L.map rowLk, r.length = 3 := by
  intro r hr; simp only [List.mem_map] at hr; obtain ⟨p, _, rfl⟩ := hr; rfl
theorem only_of {l : LV} {L : List Lk} (hl : l.Is L) {s : Nat} {z : List CV} (h : outOf onlyCfg 2000 105 [.sl (L.map rowLk).flatten 0 L.length, I s] = some (.sl (((onlyL L s).map rowLk).flatten ++ z) 0 (onlyL L s).length)) :
    ∃ l2 : LV, Ret Try.prog 105 [l.cv, I s] l2.cv ∧ l2.Is (onlyL L s) := by
  have hw := hl.sl.whole rowLk_len
  rw [List.length_map] at hw
  have hr : Ret Try.prog 105 [.sl (L.map rowLk).flatten 0 L.length, I s] (.sl (((onlyL L s).map rowLk).flatten ++ z) 0 (onlyL L s).length) := out_ok mix onlyCon h
  have hsl := sl_app (sz := 3) (by omega) (rows := (onlyL L s).map rowLk) rowLk_len z
  rw [List.length_map] at hsl
  refine ⟨⟨_, 0, _⟩, hr.args ⟨?_, .refl _, trivial⟩, hsl, Nat.le_trans (sel_len s L 0) hl.short⟩
  have hlen := hl.len
  show (CV.sl l.c l.o l.n).Le _
  rw [hlen]
  exact .part hw

theorem o0_0 : outOf onlyCfg 2000 105 [.sl (([] : List Lk).map rowLk).flatten 0 0, I 0] = some (.sl (((onlyL [] 0).map rowLk).flatten ++ List.replicate 0 (I 0)) 0 (onlyL [] 0).length) := by kernel_rfl
theorem o1_0 (a : Lk) : outOf onlyCfg 2000 105 [.sl (([a] : List Lk).map rowLk).flatten 0 1, I 0] = some (.sl (((onlyL [a] 0).map rowLk).flatten ++ List.replicate 3 (I 0)) 0 (onlyL [a] 0).length) := by kernel_rfl
theorem o1_1 (a : Lk) : outOf onlyCfg 2000 105 [.sl (([a] : List Lk).map rowLk).flatten 0 1, I 1] = some (.sl (((onlyL [a] 1).map rowLk).flatten ++ List.replicate 0 (I 0)) 0 (onlyL [a] 1).length) := by kernel_rfl
theorem o2_0 (a b : Lk) : outOf onlyCfg 2000 105 [.sl (([a, b] : List Lk).map rowLk).flatten 0 2, I 0] = some (.sl (((onlyL [a, b] 0).map rowLk).flatten ++ List.replicate 6 (I 0)) 0 (onlyL [a, b] 0).length) := by kernel_rfl
theorem o2_1 (a b : Lk) : outOf onlyCfg 2000 105 [.sl (([a, b] : List Lk).map rowLk).flatten 0 2, I 1] = some (.sl (((onlyL [a, b] 1).map rowLk).flatten ++ List.replicate 3 (I 0)) 0 (onlyL [a, b] 1).length) := by kernel_rfl
theorem o2_2 (a b : Lk) : outOf onlyCfg 2000 105 [.sl (([a, b] : List Lk).map rowLk).flatten 0 2, I 2] = some (.sl (((onlyL [a, b] 2).map rowLk).flatten ++ List.replicate 3 (I 0)) 0 (onlyL [a, b] 2).length) := by kernel_rfl
theorem o2_3 (a b : Lk) : outOf onlyCfg 2000 105 [.sl (([a, b] : List Lk).map rowLk).flatten 0 2, I 3] = some (.sl (((onlyL [a, b] 3).map rowLk).flatten ++ List.replicate 0 (I 0)) 0 (onlyL [a, b] 3).length) := by kernel_rfl
theorem o3_0 (a b c : Lk) : outOf onlyCfg 2000 105 [.sl (([a, b, c] : List Lk).map rowLk).flatten 0 3, I 0] = some (.sl (((onlyL [a, b, c] 0).map rowLk).flatten ++ List.replicate 9 (I 0)) 0 (onlyL [a, b, c] 0).length) := by kernel_rfl
theorem o3_1 (a b c : Lk) : outOf onlyCfg 2000 105 [.sl (([a, b, c] : List Lk).map rowLk).flatten 0 3, I 1] = some (.sl (((onlyL [a, b, c] 1).map rowLk).flatten ++ List.replicate 6 (I 0)) 0 (onlyL [a, b, c] 1).length) := by kernel_rfl
theorem o3_2 (a b c : Lk) : outOf onlyCfg 2000 105 [.sl (([a, b, c] : List Lk).map rowLk).flatten 0 3, I 2] = some (.sl (((onlyL [a, b, c] 2).map rowLk).flatten ++ List.replicate 6 (I 0)) 0 (onlyL [a, b, c] 2).length) := by kernel_rfl
theorem o3_3 (a b c : Lk) : outOf onlyCfg 2000 105 [.sl (([a, b, c] : List Lk).map rowLk).flatten 0 3, I 3] = some (.sl (((onlyL [a, b, c] 3).map rowLk).flatten ++ List.replicate 3 (I 0)) 0 (onlyL [a, b, c] 3).length) := by kernel_rfl
theorem o3_4 (a b c : Lk) : outOf onlyCfg 2000 105 [.sl (([a, b, c] : List Lk).map rowLk).flatten 0 3, I 4] = some (.sl (((onlyL [a, b, c] 4).map rowLk).flatten ++ List.replicate 6 (I 0)) 0 (onlyL [a, b, c] 4).length) := by kernel_rfl
theorem o3_5 (a b c : Lk) : outOf onlyCfg 2000 105 [.sl (([a, b, c] : List Lk).map rowLk).flatten 0 3, I 5] = some (.sl (((onlyL [a, b, c] 5).map rowLk).flatten ++ List.replicate 3 (I 0)) 0 (onlyL [a, b, c] 5).length) := by kernel_rfl
theorem o3_6 (a b c : Lk) : outOf onlyCfg 2000 105 [.sl (([a, b, c] : List Lk).map rowLk).flatten 0 3, I 6] = some (.sl (((onlyL [a, b, c] 6).map rowLk).flatten ++ List.replicate 3 (I 0)) 0 (onlyL [a, b, c] 6).length) := by kernel_rfl
theorem o3_7 (a b c : Lk) : outOf onlyCfg 2000 105 [.sl (([a, b, c] : List Lk).map rowLk).flatten 0 3, I 7] = some (.sl (((onlyL [a, b, c] 7).map rowLk).flatten ++ List.replicate 0 (I 0)) 0 (onlyL [a, b, c] 7).length) := by kernel_rfl
theorem o4_0 (a b c d : Lk) : outOf onlyCfg 2000 105 [.sl (([a, b, c, d] : List Lk).map rowLk).flatten 0 4, I 0] = some (.sl (((onlyL [a, b, c, d] 0).map rowLk).flatten ++ List.replicate 12 (I 0)) 0 (onlyL [a, b, c, d] 0).length) := by kernel_rfl
theorem o4_1 (a b c d : Lk) : outOf onlyCfg 2000 105 [.sl (([a, b, c, d] : List Lk).map rowLk).flatten 0 4, I 1] = some (.sl (((onlyL [a, b, c, d] 1).map rowLk).flatten ++ List.replicate 9 (I 0)) 0 (onlyL [a, b, c, d] 1).length) := by kernel_rfl
theorem o4_2 (a b c d : Lk) : outOf onlyCfg 2000 105 [.sl (([a, b, c, d] : List Lk).map rowLk).flatten 0 4, I 2] = some (.sl (((onlyL [a, b, c, d] 2).map rowLk).flatten ++ List.replicate 9 (I 0)) 0 (onlyL [a, b, c, d] 2).length) := by kernel_rfl
theorem o4_3 (a b c d : Lk) : outOf onlyCfg 2000 105 [.sl (([a, b, c, d] : List Lk).map rowLk).flatten 0 4, I 3] = some (.sl (((onlyL [a, b, c, d] 3).map rowLk).flatten ++ List.replicate 6 (I 0)) 0 (onlyL [a, b, c, d] 3).length) := by kernel_rfl
theorem o4_4 (a b c d : Lk) : outOf onlyCfg 2000 105 [.sl (([a, b, c, d] : List Lk).map rowLk).flatten 0 4, I 4] = some (.sl (((onlyL [a, b, c, d] 4).map rowLk).flatten ++ List.replicate 9 (I 0)) 0 (onlyL [a, b, c, d] 4).length) := by kernel_rfl
theorem o4_5 (a b c d : Lk) : outOf onlyCfg 2000 105 [.sl (([a, b, c, d] : List Lk).map rowLk).flatten 0 4, I 5] = some (.sl (((onlyL [a, b, c, d] 5).map rowLk).flatten ++ List.replicate 6 (I 0)) 0 (onlyL [a, b, c, d] 5).length) := by kernel_rfl
theorem o4_6 (a b c d : Lk) : outOf onlyCfg 2000 105 [.sl (([a, b, c, d] : List Lk).map rowLk).flatten 0 4, I 6] = some (.sl (((onlyL [a, b, c, d] 6).map rowLk).flatten ++ List.replicate 6 (I 0)) 0 (onlyL [a, b, c, d] 6).length) := by kernel_rfl
theorem o4_7 (a b c d : Lk) : outOf onlyCfg 2000 105 [.sl (([a, b, c, d] : List Lk).map rowLk).flatten 0 4, I 7] = some (.sl (((onlyL [a, b, c, d] 7).map rowLk).flatten ++ List.replicate 3 (I 0)) 0 (onlyL [a, b, c, d] 7).length) := by kernel_rfl
theorem o4_8 (a b c d : Lk) : outOf onlyCfg 2000 105 [.sl (([a, b, c, d] : List Lk).map rowLk).flatten 0 4, I 8] = some (.sl (((onlyL [a, b, c, d] 8).map rowLk).flatten ++ List.replicate 9 (I 0)) 0 (onlyL [a, b, c, d] 8).length) := by kernel_rfl
theorem o4_9 (a b c d : Lk) : outOf onlyCfg 2000 105 [.sl (([a, b, c, d] : List Lk).map rowLk).flatten 0 4, I 9] = some (.sl (((onlyL [a, b, c, d] 9).map rowLk).flatten ++ List.replicate 6 (I 0)) 0 (onlyL [a, b, c, d] 9).length) := by kernel_rfl
theorem o4_10 (a b c d : Lk) : outOf onlyCfg 2000 105 [.sl (([a, b, c, d] : List Lk).map rowLk).flatten 0 4, I 10] = some (.sl (((onlyL [a, b, c, d] 10).map rowLk).flatten ++ List.replicate 6 (I 0)) 0 (onlyL [a, b, c, d] 10).length) := by kernel_rfl
theorem o4_11 (a b c d : Lk) : outOf onlyCfg 2000 105 [.sl (([a, b, c, d] : List Lk).map rowLk).flatten 0 4, I 11] = some (.sl (((onlyL [a, b, c, d] 11).map rowLk).flatten ++ List.replicate 3 (I 0)) 0 (onlyL [a, b, c, d] 11).length) := by kernel_rfl
theorem o4_12 (a b c d : Lk) : outOf onlyCfg 2000 105 [.sl (([a, b, c, d] : List Lk).map rowLk).flatten 0 4, I 12] = some (.sl (((onlyL [a, b, c, d] 12).map rowLk).flatten ++ List.replicate 6 (I 0)) 0 (onlyL [a, b, c, d] 12).length) := by kernel_rfl
theorem o4_13 (a b c d : Lk) : outOf onlyCfg 2000 105 [.sl (([a, b, c, d] : List Lk).map rowLk).flatten 0 4, I 13] = some (.sl (((onlyL [a, b, c, d] 13).map rowLk).flatten ++ List.replicate 3 (I 0)) 0 (onlyL [a, b, c, d] 13).length) := by kernel_rfl
theorem o4_14 (a b c d : Lk) : outOf onlyCfg 2000 105 [.sl (([a, b, c, d] : List Lk).map rowLk).flatten 0 4, I 14] = some (.sl (((onlyL [a, b, c, d] 14).map rowLk).flatten ++ List.replicate 3 (I 0)) 0 (onlyL [a, b, c, d] 14).length) := by kernel_rfl
theorem o4_15 (a b c d : Lk) : outOf onlyCfg 2000 105 [.sl (([a, b, c, d] : List Lk).map rowLk).flatten 0 4, I 15] = some (.sl (((onlyL [a, b, c, d] 15).map rowLk).flatten ++ List.replicate 0 (I 0)) 0 (onlyL [a, b, c, d] 15).length) := by kernel_rfl

theorem only_ret {l : LV} {L : List Lk} (hl : l.Is L) (h4 : L.length ≤ 4) {s : Nat} (hs : s < 2 ^ L.length) : ∃ l2 : LV, Ret Try.prog 105 [l.cv, I s] l2.cv ∧ l2.Is (onlyL L s) := by
  match L, hl, h4, hs with
  | [], hl, _, hs =>
    have hs : s < 1 := hs
    match s, hs with
    | 0, _ => exact only_of hl (o0_0 )
  | [a], hl, _, hs =>
    have hs : s < 2 := hs
    match s, hs with
    | 0, _ => exact only_of hl (o1_0 a)
    | 1, _ => exact only_of hl (o1_1 a)
  | [a, b], hl, _, hs =>
    have hs : s < 4 := hs
    match s, hs with
    | 0, _ => exact only_of hl (o2_0 a b)
    | 1, _ => exact only_of hl (o2_1 a b)
    | 2, _ => exact only_of hl (o2_2 a b)
    | 3, _ => exact only_of hl (o2_3 a b)
  | [a, b, c], hl, _, hs =>
    have hs : s < 8 := hs
    match s, hs with
    | 0, _ => exact only_of hl (o3_0 a b c)
    | 1, _ => exact only_of hl (o3_1 a b c)
    | 2, _ => exact only_of hl (o3_2 a b c)
    | 3, _ => exact only_of hl (o3_3 a b c)
    | 4, _ => exact only_of hl (o3_4 a b c)
    | 5, _ => exact only_of hl (o3_5 a b c)
    | 6, _ => exact only_of hl (o3_6 a b c)
    | 7, _ => exact only_of hl (o3_7 a b c)
  | [a, b, c, d], hl, _, hs =>
    have hs : s < 16 := hs
    match s, hs with
    | 0, _ => exact only_of hl (o4_0 a b c d)
    | 1, _ => exact only_of hl (o4_1 a b c d)
    | 2, _ => exact only_of hl (o4_2 a b c d)
    | 3, _ => exact only_of hl (o4_3 a b c d)
    | 4, _ => exact only_of hl (o4_4 a b c d)
    | 5, _ => exact only_of hl (o4_5 a b c d)
    | 6, _ => exact only_of hl (o4_6 a b c d)
    | 7, _ => exact only_of hl (o4_7 a b c d)
    | 8, _ => exact only_of hl (o4_8 a b c d)
    | 9, _ => exact only_of hl (o4_9 a b c d)
    | 10, _ => exact only_of hl (o4_10 a b c d)
    | 11, _ => exact only_of hl (o4_11 a b c d)
    | 12, _ => exact only_of hl (o4_12 a b c d)
    | 13, _ => exact only_of hl (o4_13 a b c d)
    | 14, _ => exact only_of hl (o4_14 a b c d)
    | 15, _ => exact only_of hl (o4_15 a b c d)
    | s + 16, hs => omega
  | _ :: _ :: _ :: _ :: _ :: _, _, h4, _ => simp at h4
end Go.Ag
/- Layer 4: whether there is a truth with some looks. -/
namespace Go.Ag
open Go.Proofs
set_option maxRecDepth 100000

def possB (s : Sd) (L : List Lk) : Bool := !(truthsS s L).isEmpty

set_option maxHeartbeats 1000000 in
theorem possible_ret {v : SV} {s : Sd} (hv : v.Is s) (hd : validB s = true) {l : LV} {L : List Lk} (hl : l.Is L) {m : Nat} {h : Heap} (hm : m < h.n) (hI : knQ s m h) :
    ∃ e h', CallOk Try.prog 70 [knAV v m, .c l.cv] h .no e h' .no ∧ (e = .ret (.c (B (possB s L))) ∧ Foot none' h h') := by
  refine call_by (hm := false) Try.func70 rfl ?_
  conv => whnf
  refine ⟨_, (at_push_lt _ _ (by rw [push_n]; omega)).trans (at_push_self _ _), ?_⟩
  conv => whnf
  obtain ⟨e, h', hc, rfl, rfl⟩ := truths_ret v l m ((h.push .dead (knBlk v m)).push .dead (.blk [AV.lit (.bool false)]))
  refine .inl _ _ .no hc ?_
  conv => whnf
  refine range_nA (hm := false) (h.n + 4) rfl (ps := [8, 9]) rfl rfl (truths_iter hv hd hl (h.n + 2) (h.n + 3) m)
    (I := fun _ l' h1 => l' = ysT s (truthsS s L) ∧ Heap.at h1 (h.n + 1) = .blk [AV.lit (.bool false)] ∧ Heap.at h1 (h.n + 2) = knBlk v m ∧ Heap.at h1 (h.n + 3) = .blk [.c l.cv] ∧ Foot none' h h1)
    (E := fun _ e h1 => e = .ret ∧ truthsS s L ≠ [] ∧ Heap.at h1 (h.n + 1) = .blk [.c (B true)] ∧ Foot none' h h1) (X := fun _ _ _ => False) ?_ ?_ ?_ ?_ ?_ ?_ ?_ ?_ ?_ ?_ ?_ ?_
  · rintro W l' h1 h2 ⟨k1, k2, k3, k4, k5⟩ hn1 hw ff0
    have ff := ff0.high hw
    exact ⟨k1, (ff.below hn1 (by omega)).trans k2, (ff.below hn1 (by omega)).trans k3, (ff.below hn1 (by omega)).trans k4, k5.trans_up ff (by omega)⟩
  · rintro W e h1 h2 ⟨rfl, k1, k2, k3⟩ hn1 hw ff0
    have ff := ff0.high hw
    exact ⟨rfl, k1, (ff.below hn1 (by omega)).trans k2, k3.trans_up ff (by omega)⟩
  · rintro _ _ _ _ hx
    exact hx.elim
  · rintro W W' l' h1 hk _
    exact hk
  · rintro W W' l' h1 hk _
    exact hk
  · rintro W W' l' h1 hk _
    exact hk
  · rintro W l' h1 ⟨k1, k2, k3, k4, k5⟩
    exact ⟨k3, k4, dayMap_eq (k5.keep m hm (fun x => x)) hI⟩
  · refine ⟨rfl, ?_, ?_, at_push_self _ _, (((Foot.refl _ _).push _).push _).push _ |>.push _⟩
    · exact (at_push_lt _ _ (by simp only [push_n]; omega)).trans ((at_push_lt _ _ (by simp only [push_n]; omega)).trans (at_push_self _ _))
    · exact (at_push_lt _ _ (by simp only [push_n]; omega)).trans (at_push_self _ _)
  · rintro W y l' h1 hn1 hw ⟨k1, k2, k3, k4, k5⟩
    have hne : truthsS s L ≠ [] := fun e => by rw [e] at k1; cases k1
    have hy : y.length = 2 := by
      cases ht : truthsS s L with
      | nil => exact absurd ht hne
      | cons t rest => rw [ht] at k1; cases k1; rfl
    match y, hy with
    | [y1, y2], _ =>
    refine ⟨rfl, ?_⟩
    conv => whnf
    refine ⟨Foot.refl _ _, fun hb fb hbn => ?_⟩
    conv => whnf
    have b2 := (fb.keep (h.n + 1) (by omega) (by omega)).trans k2
    have f5 : Foot none' h hb := k5.trans_up (N := h.n) (fb.mono fun i _ hi => by omega) (Nat.le_refl _)
    refine ⟨_, b2, ?_⟩
    conv => whnf
    exact ⟨Foot.set (W := apart W (h.n + 4)) (k := h.n + 1) (Foot.refl _ _) (.inl (apart_lt (fun i hi => (hw i hi).1) (by omega))) _, rfl, hne, at_set_self _ _ (i := h.n + 1) (by omega), Foot.set (W := none') (k := h.n + 1) f5 (.inr (by omega)) _⟩
  · rintro h1 hn1 hc ⟨k1, k2, k3, k4, k5⟩
    have he : truthsS s L = [] := by
      cases ht : truthsS s L with
      | nil => rfl
      | cons t rest => rw [ht] at k1; cases k1
    have hp : possB s L = false := by unfold possB; rw [he]; rfl
    rw [hp]
    conv => whnf
    refine ⟨_, k2, ?_⟩
    conv => whnf
    refine ⟨_, (at_set_ne _ _ (i := h.n + 4) (k := h.n + 1) (by omega)).trans hc, ?_⟩
    conv => whnf
    refine ⟨_, (at_set_ne _ _ (i := h.n + 1) (k := h.n + 4) (by omega)).trans (at_set_self _ _ (i := h.n + 1) (by omega)), ?_⟩
    conv => whnf
    exact ⟨rfl, Foot.set (W := none') (k := h.n + 4) (Foot.set (W := none') (k := h.n + 1) k5 (.inr (by omega)) _) (.inr (by omega)) _⟩
  · rintro e h1 hn1 hc ⟨rfl, k1, k2, k3⟩ _
    have hp : possB s L = true := by
      unfold possB
      cases ht : truthsS s L with
      | nil => exact absurd ht k1
      | cons t rest => rfl
    rw [hp]
    conv => whnf
    refine ⟨_, hc, ?_⟩
    conv => whnf
    refine ⟨_, (at_set_ne _ _ (i := h.n + 1) (k := h.n + 4) (by omega)).trans k2, ?_⟩
    conv => whnf
    exact ⟨rfl, Foot.set (W := none') (k := h.n + 4) k3 (.inr (by omega)) _⟩
  · rintro v h1 _ _ hx
    exact hx.elim

def pop (n : Nat) : Nat := n % 2 + n / 2 % 2 + n / 4 % 2 + n / 8 % 2 + n / 16 % 2
noncomputable def cfg0 : Cfg := { P := Try.prog, pure := fun _ => true, con := fun _ _ => none }
theorem con0 : ConOk cfg0 := fun f args e h => by cases h
theorem U164 : Try.prog.underlying 164 = some (.int .u64) := by kernel_rfl
def onesE (n c : Nat) : Known := ⟨104, [.lit (.int .u64 n)], I c⟩
theorem ones0 : (onesE 0 (pop 0)).ok Try.prog := tells_ok (C := cfg0) mix con0 (n := 2000) (by kernel_rfl)
theorem ones1 : (onesE 1 (pop 1)).ok Try.prog := tells_ok (C := cfg0) mix con0 (n := 2000) (by kernel_rfl)
theorem ones2 : (onesE 2 (pop 2)).ok Try.prog := tells_ok (C := cfg0) mix con0 (n := 2000) (by kernel_rfl)
theorem ones3 : (onesE 3 (pop 3)).ok Try.prog := tells_ok (C := cfg0) mix con0 (n := 2000) (by kernel_rfl)
theorem ones4 : (onesE 4 (pop 4)).ok Try.prog := tells_ok (C := cfg0) mix con0 (n := 2000) (by kernel_rfl)
theorem ones5 : (onesE 5 (pop 5)).ok Try.prog := tells_ok (C := cfg0) mix con0 (n := 2000) (by kernel_rfl)
theorem ones6 : (onesE 6 (pop 6)).ok Try.prog := tells_ok (C := cfg0) mix con0 (n := 2000) (by kernel_rfl)
theorem ones7 : (onesE 7 (pop 7)).ok Try.prog := tells_ok (C := cfg0) mix con0 (n := 2000) (by kernel_rfl)
theorem ones8 : (onesE 8 (pop 8)).ok Try.prog := tells_ok (C := cfg0) mix con0 (n := 2000) (by kernel_rfl)
theorem ones9 : (onesE 9 (pop 9)).ok Try.prog := tells_ok (C := cfg0) mix con0 (n := 2000) (by kernel_rfl)
theorem ones10 : (onesE 10 (pop 10)).ok Try.prog := tells_ok (C := cfg0) mix con0 (n := 2000) (by kernel_rfl)
theorem ones11 : (onesE 11 (pop 11)).ok Try.prog := tells_ok (C := cfg0) mix con0 (n := 2000) (by kernel_rfl)
theorem ones12 : (onesE 12 (pop 12)).ok Try.prog := tells_ok (C := cfg0) mix con0 (n := 2000) (by kernel_rfl)
theorem ones13 : (onesE 13 (pop 13)).ok Try.prog := tells_ok (C := cfg0) mix con0 (n := 2000) (by kernel_rfl)
theorem ones14 : (onesE 14 (pop 14)).ok Try.prog := tells_ok (C := cfg0) mix con0 (n := 2000) (by kernel_rfl)
theorem ones15 : (onesE 15 (pop 15)).ok Try.prog := tells_ok (C := cfg0) mix con0 (n := 2000) (by kernel_rfl)
theorem ones_ret {n : Nat} (h : n < 16) : Ret Try.prog 104 [.lit (.int .u64 n)] (I (pop n)) := by
  match n, h with
  | 0, _ => exact ones0
  | 1, _ => exact ones1
  | 2, _ => exact ones2
  | 3, _ => exact ones3
  | 4, _ => exact ones4
  | 5, _ => exact ones5
  | 6, _ => exact ones6
  | 7, _ => exact ones7
  | 8, _ => exact ones8
  | 9, _ => exact ones9
  | 10, _ => exact ones10
  | 11, _ => exact ones11
  | 12, _ => exact ones12
  | 13, _ => exact ones13
  | 14, _ => exact ones14
  | 15, _ => exact ones15
  | n + 16, h => omega
theorem wrap_u64 {j : Nat} (h : j < 2 ^ 63) : IntKind.u64.wrap ((j : Nat) : Int) = ((j : Nat) : Int) := by
  have e : (2 : Int) ^ IntKind.u64.bits = 18446744073709551616 := by decide
  unfold IntKind.wrap
  rw [e]
  have : IntKind.u64.signed = false := rfl
  simp only [this, Bool.false_and, Bool.false_eq_true, if_false]
  omega
theorem ones_conv {n : Nat} (h : n < 16) : Ret Try.prog 104 [CV.ofVal (Value.int .u64 (IntKind.u64.wrap (n : Int)))] (I (pop n)) := by
  rw [wrap_u64 (by omega)]; exact ones_ret h
end Go.Ag
/- Layer 4: the fewest looks that clash. -/
namespace Go.Ag
open Go.Proofs
set_option maxRecDepth 100000

def fewStep (s : Sd) (best set : Nat) : Nat := if decide ((pop set : Int) < (pop best : Int)) && !possB s (onlyL s.looks set) then set else best
def fewTo (s : Sd) (q : Nat) : Nat := (List.range q).foldl (fewStep s) (2 ^ s.looks.length - 1)
theorem fewTo_succ (s : Sd) (q : Nat) : fewTo s (q + 1) = fewStep s (fewTo s q) q := by unfold fewTo; rw [List.range_succ, List.foldl_append]; rfl
theorem fewTo_le (s : Sd) : ∀ q, q ≤ 2 ^ s.looks.length - 1 → fewTo s q ≤ 2 ^ s.looks.length - 1
  | 0, _ => Nat.le_refl _
  | q + 1, h => by
    rw [fewTo_succ]
    have := fewTo_le s q (by omega)
    unfold fewStep
    split <;> omega
def fewest (s : Sd) : Nat := fewTo s (2 ^ s.looks.length - 1)

theorem valid_looks {s : Sd} (hd : validB s = true) : s.looks.length ≤ 4 := by
  simp only [validB, Bool.and_eq_true, decide_eq_true_eq] at hd
  exact hd.2.2.2.1

set_option maxHeartbeats 2000000 in
theorem fewest_ret {v : SV} {s : Sd} (hv : v.Is s) (hd : validB s = true) {m : Nat} {h : Heap} (hm : m < h.n) (hI : knQ s m h) :
    ∃ e h', CallOk Try.prog 71 [knAV v m] h .no e h' .no ∧ (e = .ret (.c (I (fewest s))) ∧ Foot none' h h') := by
  have e1 := hv.ln
  have h4 := valid_looks hd
  have hp : 1 ≤ 2 ^ s.looks.length ∧ 2 ^ s.looks.length ≤ 16 := ⟨Nat.one_le_two_pow, Nat.pow_le_pow_right (by omega) h4⟩
  obtain ⟨N, hN⟩ : ∃ N, N = 2 ^ s.looks.length - 1 := ⟨_, rfl⟩
  have hfl := fun q => fewTo_le s q
  refine call_by (hm := false) Try.func71 rfl ?_
  conv => whnf
  refine ⟨_, at_push_self _ _, ?_⟩
  conv => whnf
  refine ⟨by omega, _, shl_nat 1 v.ln (by omega) (by rw [e1]; omega), ?_⟩
  conv => whnf
  refine ⟨(N : Int), by rw [wrap_eq (by rw [e1]; omega) (by rw [e1]; omega), e1]; omega, ?_⟩
  conv => whnf
  rw [show fewest s = fewTo s N by rw [hN]; rfl]
  refine loop_by (I := fun n st => ∃ (q : Nat) (h1 : Heap), q ≤ N ∧ n = N - q ∧ Heap.at h1 h.n = knBlk v m ∧ Foot none' h h1 ∧ h.n < h1.n ∧ Has st 37 [(1, .ptr h.n 0), (4, .c (I (fewTo s q))), (13, .c (I N)), (14, .c (I q))] [] none h1) ?_ (k := N)
    ⟨0, _, Nat.zero_le _, rfl, at_push_self _ _, (Foot.refl _ _).push _, by rw [push_n]; omega, rfl, ⟨rfl, by rw [hN]; rfl, rfl, rfl, trivial⟩, rfl, rfl, rfl, rfl⟩
  rintro n st ⟨q, h1, hq, rfl, k0, kf, kn, hs1⟩
  refine hs1.run (hm := false) ?_
  conv => whnf
  cases hc : decide ((q : Int) < (N : Int))
  case true =>
    have hq : q < N := by simp at hc; omega
    have hb := hfl q (by omega)
    conv => whnf
    refine mixed_by (hm := false) (by kernel_rfl) (by kernel_rfl) ?_
    conv => whnf
    refine .ret _ _ (ones_conv (n := q) (by omega)) rfl ?_
    conv => whnf
    refine .ret _ _ (ones_conv (n := fewTo s q) (by omega)) rfl ?_
    conv => whnf
    have hsucc := fewTo_succ s q
    unfold fewStep at hsucc
    cases hpp : decide ((pop q : Int) < (pop (fewTo s q) : Int))
    · rw [hpp] at hsucc
      conv => whnf
      refine ⟨by kernel_rfl, heaps_nil (by kernel_rfl), ?_⟩
      conv => whnf
      refine ⟨((q + 1 : Nat) : Int), by rw [wrap_eq (by omega) (by omega)]; omega, ?_⟩
      conv => whnf
      exact ⟨N - (q + 1), by omega, q + 1, h1, by omega, rfl, k0, kf, kn, rfl, ⟨rfl, by rw [hsucc]; rfl, rfl, rfl, trivial⟩, rfl, rfl, rfl, rfl⟩
    · rw [hpp, Bool.true_and] at hsucc
      conv => whnf
      refine ⟨_, k0, ?_⟩
      conv => whnf
      refine ⟨_, k0, ?_⟩
      conv => whnf
      obtain ⟨l2, hl2, hl2'⟩ := only_ret hv.looks h4 (s := q) (by omega)
      refine .ret _ _ hl2 rfl ?_
      conv => whnf
      obtain ⟨e, h2, hc2, rfl, f2⟩ := possible_ret hv hd hl2' (m := m) (h := h1) (by omega) (dayMap_eq (kf.keep m hm (fun x => x)) hI)
      refine .heavy _ h2 (.inl hc2) ?_
      have c0 := (f2.keep h.n kn (fun x => x)).trans k0
      have hn2 := f2.n
      cases hpo : possB s (onlyL s.looks q)
      · rw [hpo] at hsucc
        conv => whnf
        refine ⟨by kernel_rfl, heaps_nil (by kernel_rfl), ?_⟩
        conv => whnf
        refine ⟨((q + 1 : Nat) : Int), by rw [wrap_eq (by omega) (by omega)]; omega, ?_⟩
        conv => whnf
        exact ⟨N - (q + 1), by omega, q + 1, h2, by omega, rfl, c0, kf.trans f2, by omega, rfl, ⟨rfl, by rw [hsucc]; rfl, rfl, rfl, trivial⟩, rfl, rfl, rfl, rfl⟩
      · rw [hpo] at hsucc
        conv => whnf
        refine ⟨by kernel_rfl, heaps_nil (by kernel_rfl), ?_⟩
        conv => whnf
        refine ⟨((q + 1 : Nat) : Int), by rw [wrap_eq (by omega) (by omega)]; omega, ?_⟩
        conv => whnf
        exact ⟨N - (q + 1), by omega, q + 1, h2, by omega, rfl, c0, kf.trans f2, by omega, rfl, ⟨rfl, by rw [hsucc]; rfl, rfl, rfl, trivial⟩, rfl, rfl, rfl, rfl⟩
  have hqq : q = N := by simp at hc; omega
  subst hqq
  conv => whnf
  exact ⟨rfl, kf⟩

/-- Which looks cannot all be right. -/
def clashR (s : Sd) : Int × Int :=
  if validB s = false then (0, 1) else if possB s s.looks = true then (0, 4) else (fewest s, 0)
theorem close_pair {f : FuncId} {args : List CV} {p : Int × Int} (H : ∃ e h', CallOk Try.prog f (args.map .c) TMap.nil .no e h' .no ∧ e = .ret (.c (.tuple [I p.1, I p.2]))) : Ret Try.prog f args (.tuple [I p.1, I p.2]) := by
  obtain ⟨e, h', hc, rfl⟩ := H
  exact callOk_close hc (fuel := 1) (r := (_, [])) rfl
theorem clash_ret {v : SV} {s : Sd} (hv : v.Is s) : Ret Try.prog 26 [v.cv] (.tuple [I (clashR s).1, I (clashR s).2]) := by
  refine close_pair ?_
  refine call_by (hm := false) Try.func26 rfl ?_
  conv => whnf
  refine ⟨_, at_push_self _ _, ?_⟩
  conv => whnf
  refine .ret (valid_ret hv) rfl ?_
  conv => whnf
  unfold clashR
  cases h1 : validB s
  · conv => whnf
    rfl
  conv => whnf
  refine ⟨_, at_push_self _ _, ?_⟩
  conv => whnf
  obtain ⟨e1, H1, hc1, m, rfl, hm0, hm1, hI1, f1⟩ := know_ret hv h1 (TMap.push .dead TMap.nil v.blk)
  refine .inl _ H1 .no hc1 ?_
  conv => whnf
  refine ⟨_, at_push_self _ _, ?_⟩
  conv => whnf
  have hn1 : 1 ≤ H1.n := f1.n
  have g0 : Heap.at H1 0 = v.blk := (f1.keep 0 (Nat.lt_succ_self 0) (fun x => x)).trans (at_push_self _ _)
  refine ⟨knBlk v m, at_new _ _ _, ?_⟩
  conv => whnf
  refine ⟨v.blk, (at_old H1 _ _ (i := 0) (by omega)).trans g0, ?_⟩
  conv => whnf
  obtain ⟨H2, hH2⟩ : ∃ H2 : Heap, H2 = (H1.push .dead (.blk zero10)).set .dead H1.n (knBlk v m) := ⟨_, rfl⟩
  have n2 : H2.n = H1.n + 1 := by rw [hH2, new_n]
  have i2 : knQ s m H2 := dayMap_eq (by rw [hH2]; exact at_old _ _ _ hm1) hI1
  have b2 : Heap.at H2 H1.n = knBlk v m := by rw [hH2]; exact at_new _ _ _
  obtain ⟨e3, H3, hc3, rfl, f3⟩ := possible_ret hv h1 hv.looks (m := m) (h := H2) (by omega) i2
  rw [hH2] at hc3
  have b3 := (f3.keep H1.n (by omega) (fun x => x)).trans b2
  have i3 : knQ s m H3 := dayMap_eq (f3.keep m (by omega) (fun x => x)) i2
  have n3 := f3.n
  refine .inl _ H3 .no hc3 ?_
  conv => whnf
  cases hp : possB s s.looks
  case true =>
    conv => whnf
    rfl
  obtain ⟨e4, H4, hc4, rfl, f4⟩ := fewest_ret hv h1 (m := m) (h := H3) (by omega) i3
  conv => whnf
  refine ⟨knBlk v m, b3, ?_⟩
  conv => whnf
  refine .inl _ H4 .no hc4 ?_
  conv => whnf
  rfl
end Go.Ag
/- Layer 4: what is valid, in the reference. -/
namespace Go.Ag
open Go.Proofs
set_option maxRecDepth 100000

theorem in_ret (n lo hi : Int) : Ret Try.prog 76 [I n, I lo, I hi] (B (inB n lo hi)) := by
  refine ret_by (hm := true) Try.func76 rfl ?_
  conv => whnf
  unfold inB
  cases h : decide (lo ≤ n)
  · conv => whnf
    exact .val
  · conv => whnf
    exact .val
theorem span_ret (a b low high : Int) : Ret Try.prog 75 [.agg [I a, I b], I low, I high] (B (spanB a b low high)) := by
  refine ret_by (hm := true) Try.func75 rfl ?_
  conv => whnf
  unfold spanB
  cases h1 : decide (low ≤ a)
  · conv => whnf
    simp only [Bool.false_and]
    exact .val
  conv => whnf
  cases h2 : decide (a ≤ b)
  · conv => whnf
    simp only [Bool.false_and, Bool.and_false]
    exact .val
  conv => whnf
  simp only [Bool.true_and]
  exact .val
theorem kind_ret (n : Int) : Ret Try.prog 64 [I n] (B (inB n 0 2)) := by
  refine ret_by (hm := true) Try.func64 rfl ?_
  conv => whnf
  refine .ret (in_ret _ _ _) rfl ?_
  conv => whnf
  exact .val

theorem SV.Is.look0 {v : SV} {s : Sd} (h : v.Is s) {k : Nat} {r : Lk} (hk : s.looks[k]? = some r) : readVarC Try.prog 3 v.lc (v.lo' + (k : Int).toNat * 3 + 0) = some (I r.minute) := by
  rw [Int.toNat_natCast, rv3, sliceOf_get (h.lrow hk) (j := 0) (by omega)]; rfl
theorem SV.Is.look1 {v : SV} {s : Sd} (h : v.Is s) {k : Nat} {r : Lk} (hk : s.looks[k]? = some r) : readVarC Try.prog 23 v.lc (v.lo' + (k : Int).toNat * 3 + 1) = some (.agg [I r.lo, I r.hi]) := by
  have h1 := h.lrow hk
  rw [Int.toNat_natCast, rv23]
  simp only [sliceOf] at h1 ⊢
  split at h1
  case isFalse => cases h1
  rename_i hl
  have h1 := Option.some.inj h1
  rw [List.length_take, List.length_drop] at hl
  have h2 : List.take 2 (List.drop (v.lo' + k * 3 + 1) v.lc) = [I r.lo, I r.hi] := by
    have := congrArg (List.drop 1) h1
    rw [List.drop_take, List.drop_drop] at this
    exact this
  rw [h2]
  rfl

def sizesOk (s : Sd) : Bool := inB s.runs.length 1 4 && (!decide ((s.sheep.length : Int) > 16) && !decide ((s.looks.length : Int) > 4))
def refB (s : Sd) : Bool := minsOk s && (sizesOk s && (runsOk 0 s.runs && ((s.sheep.all fun k => inB k 0 2) && s.looks.all lookOk)))
theorem ref_valid (s : Sd) : refB s = validB s := by
  have e1 : (!decide ((s.sheep.length : Int) > 16)) = decide (s.sheep.length ≤ 16) := by by_cases h : s.sheep.length ≤ 16 <;> simp [h] <;> omega
  have e2 : (!decide ((s.looks.length : Int) > 4)) = decide (s.looks.length ≤ 4) := by by_cases h : s.looks.length ≤ 4 <;> simp [h] <;> omega
  unfold refB validB sizesOk
  rw [e1, e2]
  cases minsOk s <;> cases inB s.runs.length 1 4 <;> cases runsOk 0 s.runs <;> cases decide (s.sheep.length ≤ 16) <;> cases decide (s.looks.length ≤ 4) <;> cases (s.sheep.all fun k => inB k 0 2) <;> cases s.looks.all lookOk <;> rfl
theorem runOk_in (b : Int) (r : Ru) : runOk b r = (inB r.start b 600 && inB r.bell (r.start + 1) 600) := by
  unfold runOk inB
  by_cases h1 : b ≤ r.start
  · by_cases h2 : r.start < r.bell
    · by_cases h3 : r.bell ≤ 600
      · have : r.start ≤ 600 := by omega
        simp [h1, h2, h3, this]; omega
      · simp [h1, h2, h3]
    · have : ¬ r.start + 1 ≤ r.bell := by omega
      simp [h1, h2, this]
  · simp [h1]

set_option maxHeartbeats 1000000 in
theorem ref_ret {v : SV} {s : Sd} (hv : v.Is s) : Ret Try.prog 33 [v.cv] (B (validB s)) := by
  rw [← ref_valid]
  have e1 := hv.lo; have e2 := hv.hi; have e3 := hv.rn; have e4 := hv.kn; have e5 := hv.ln; have e6 := hv.short
  refine ret_by (hm := false) Try.func33 rfl ?_
  conv => whnf
  refine loop_by (I := fun n st => ∃ (q : Nat) (h : Heap), q ≤ 3 ∧ n = 3 - q ∧ minsOk s = (if q = 0 then minsOk s else if q = 1 then (minOk s.lo.b s.hi.b && minOk s.lo.c s.hi.c) else if q = 2 then minOk s.lo.c s.hi.c else true) ∧ Heap.at h 0 = v.blk ∧ 0 < h.n ∧ Has st 113 [(1, .ptr 0 0), (3, .c (I q))] [] none h) ?_ (k := 3)
    ⟨0, _, Nat.zero_le _, rfl, rfl, rfl, Nat.lt_succ_self 0, rfl, ⟨rfl, rfl, trivial⟩, rfl, rfl, rfl, rfl⟩
  rintro n st ⟨q, h, hq, rfl, hall, h0, hn, hs1⟩
  refine hs1.run (hm := false) ?_
  have key : ∀ (a b : Int) (rest : Bool), minsOk s = (minOk a b && rest) → spanB a b 1 40 = false → refB s = false := fun a b rest h1 h2 => by unfold refB; rw [h1]; simp [minOk, h2]
  have key2 : ∀ (a b : Int) (rest : Bool), minsOk s = (minOk a b && rest) → spanB a b 1 40 = true → decide (b - a > 4) = true → refB s = false := fun a b rest h1 h2 h3 => by
    have : ¬ (b - a ≤ 4) := by simp at h3; omega
    unfold refB; rw [h1]; simp [minOk, this]
  have key3 : ∀ (a b : Int) (rest : Bool), minsOk s = (minOk a b && rest) → spanB a b 1 40 = true → decide (b - a > 4) = false → minsOk s = rest := fun a b rest h1 h2 h3 => by
    have : (b - a ≤ 4) := by simp at h3; omega
    rw [h1]; simp [minOk, h2, this]
  obtain rfl | rfl | rfl | rfl : q = 0 ∨ q = 1 ∨ q = 2 ∨ q = 3 := by omega
  · have hm : minsOk s = (minOk v.lo.a v.hi.a && (minOk s.lo.b s.hi.b && minOk s.lo.c s.hi.c)) := by rw [e1, e2]; rfl
    conv => whnf
    refine ⟨by decide, ?_⟩
    conv => whnf
    refine ⟨_, h0, ?_⟩
    conv => whnf
    refine ⟨_, at_push_self _ _, ?_⟩
    conv => whnf
    refine ⟨_, at_new _ _ _, ?_⟩
    conv => whnf
    refine .ret (span_ret _ _ _ _) rfl ?_
    conv => whnf
    cases h1 : spanB v.lo.a v.hi.a 1 40
    · conv => whnf
      rw [key _ _ _ hm h1]
      exact .val
    conv => whnf
    refine ⟨_, at_new _ _ _, ?_⟩
    conv => whnf
    refine ⟨_, at_new _ _ _, ?_⟩
    conv => whnf
    refine ⟨_, wide_row h1, ?_⟩
    conv => whnf
    cases h2 : decide (v.hi.a - v.lo.a > 4)
    · conv => whnf
      refine ⟨_, wrap_eq (by decide) (by decide), ?_⟩
      conv => whnf
      exact ⟨2, by omega, 1, _, by omega, rfl, (key3 _ _ _ hm h1 h2).trans rfl, (at_old _ _ _ hn).trans h0, by rw [new_n]; omega, rfl, ⟨rfl, rfl, trivial⟩, rfl, rfl, rfl, rfl⟩
    · conv => whnf
      rw [key2 _ _ _ hm h1 h2]
      exact .val
  · have hm : minsOk s = (minOk v.lo.b v.hi.b && minOk s.lo.c s.hi.c) := by rw [e1, e2]; exact hall
    conv => whnf
    refine ⟨by decide, ?_⟩
    conv => whnf
    refine ⟨_, h0, ?_⟩
    conv => whnf
    refine ⟨_, at_push_self _ _, ?_⟩
    conv => whnf
    refine ⟨_, at_new _ _ _, ?_⟩
    conv => whnf
    refine .ret (span_ret _ _ _ _) rfl ?_
    conv => whnf
    cases h1 : spanB v.lo.b v.hi.b 1 40
    · conv => whnf
      rw [key _ _ _ hm h1]
      exact .val
    conv => whnf
    refine ⟨_, at_new _ _ _, ?_⟩
    conv => whnf
    refine ⟨_, at_new _ _ _, ?_⟩
    conv => whnf
    refine ⟨_, wide_row h1, ?_⟩
    conv => whnf
    cases h2 : decide (v.hi.b - v.lo.b > 4)
    · conv => whnf
      refine ⟨_, wrap_eq (by decide) (by decide), ?_⟩
      conv => whnf
      exact ⟨1, by omega, 2, _, by omega, rfl, (key3 _ _ _ hm h1 h2).trans rfl, (at_old _ _ _ hn).trans h0, by rw [new_n]; omega, rfl, ⟨rfl, rfl, trivial⟩, rfl, rfl, rfl, rfl⟩
    · conv => whnf
      rw [key2 _ _ _ hm h1 h2]
      exact .val
  · have hm : minsOk s = (minOk v.lo.c v.hi.c && true) := by rw [e1, e2]; exact hall.trans (Bool.and_true _).symm
    conv => whnf
    refine ⟨by decide, ?_⟩
    conv => whnf
    refine ⟨_, h0, ?_⟩
    conv => whnf
    refine ⟨_, at_push_self _ _, ?_⟩
    conv => whnf
    refine ⟨_, at_new _ _ _, ?_⟩
    conv => whnf
    refine .ret (span_ret _ _ _ _) rfl ?_
    conv => whnf
    cases h1 : spanB v.lo.c v.hi.c 1 40
    · conv => whnf
      rw [key _ _ _ hm h1]
      exact .val
    conv => whnf
    refine ⟨_, at_new _ _ _, ?_⟩
    conv => whnf
    refine ⟨_, at_new _ _ _, ?_⟩
    conv => whnf
    refine ⟨_, wide_row h1, ?_⟩
    conv => whnf
    cases h2 : decide (v.hi.c - v.lo.c > 4)
    · conv => whnf
      refine ⟨_, wrap_eq (by decide) (by decide), ?_⟩
      conv => whnf
      exact ⟨0, by omega, 3, _, by omega, rfl, (key3 _ _ _ hm h1 h2).trans rfl, (at_old _ _ _ hn).trans h0, by rw [new_n]; omega, rfl, ⟨rfl, rfl, trivial⟩, rfl, rfl, rfl, rfl⟩
    · conv => whnf
      rw [key2 _ _ _ hm h1 h2]
      exact .val
  · have hmins : minsOk s = true := hall
    conv => whnf
    refine ⟨_, h0, ?_⟩
    conv => whnf
    have es : sizesOk s = (inB v.rn 1 4 && (!decide ((v.kn : Int) > 16) && !decide ((v.ln : Int) > 4))) := by unfold sizesOk; rw [e3, e4, e5]
    have er : refB s = (sizesOk s && (runsOk 0 s.runs && ((s.sheep.all fun k => inB k 0 2) && s.looks.all lookOk))) := by unfold refB; rw [hmins]; rfl
    refine .ret (in_ret _ _ _) rfl ?_
    conv => whnf
    cases hs1 : inB v.rn 1 4
    · conv => whnf
      rw [er, es, hs1]
      exact .val
    conv => whnf
    refine ⟨_, h0, ?_⟩
    conv => whnf
    cases hs2 : decide ((v.kn : Int) > 16)
    case true =>
      conv => whnf
      rw [er, es, hs1, hs2]
      exact .val
    conv => whnf
    refine ⟨_, h0, ?_⟩
    conv => whnf
    cases hs3 : decide ((v.ln : Int) > 4)
    case true =>
      conv => whnf
      rw [er, es, hs1, hs2, hs3]
      exact .val
    conv => whnf
    have er : refB s = (runsOk 0 s.runs && ((s.sheep.all fun k => inB k 0 2) && s.looks.all lookOk)) := by rw [er, es, hs1, hs2, hs3]; rfl
    clear es hs1 hs2 hs3 key key2 key3
    refine loop_by (I := fun n st => ∃ (q : Nat) (h : Heap) (b : Int), 0 ≤ b ∧ q ≤ s.runs.length ∧ n = s.runs.length - q ∧ runsOk 0 s.runs = runsOk b (s.runs.drop q) ∧ Heap.at h 0 = v.blk ∧ 0 < h.n ∧ Has st 113 [(1, .ptr 0 0), (5, .c (I b)), (6, .c (I q))] [] none h) ?_ (k := s.runs.length)
      ⟨0, _, 0, Int.le_refl _, Nat.zero_le _, rfl, rfl, h0, hn, rfl, ⟨rfl, rfl, rfl, trivial⟩, rfl, rfl, rfl, rfl⟩
    clear h0 hn
    rintro n st ⟨q, h, b, hb0, hq, rfl, hall, h0, hn, hs1⟩
    refine hs1.run (hm := false) ?_
    conv => whnf
    refine ⟨_, h0, ?_⟩
    conv => whnf
    cases hc : decide ((q : Int) < (v.rn : Int))
    case true =>
      have hq : q < s.runs.length := by simp at hc; omega
      obtain ⟨r, hr⟩ := get_some hq
      rw [drop_get hr, runsOk_step, runOk_in] at hall
      conv => whnf
      refine ⟨_, h0, ?_⟩
      conv => whnf
      refine ⟨⟨by omega, by omega⟩, ?_⟩
      conv => whnf
      refine ⟨_, hv.run hr, ?_⟩
      conv => whnf
      refine ⟨_, at_push_self _ _, ?_⟩
      conv => whnf
      refine ⟨_, at_new _ _ _, ?_⟩
      conv => whnf
      refine .ret (in_ret _ _ _) rfl ?_
      conv => whnf
      cases h1 : inB r.start b 600
      · rw [h1] at hall
        conv => whnf
        rw [er, hall]
        exact .val
      · rw [h1, Bool.true_and] at hall
        have hb1 : r.start ≤ 600 ∧ b ≤ r.start := by simpa [inB, and_comm] using h1
        conv => whnf
        refine ⟨_, at_new _ _ _, ?_⟩
        conv => whnf
        refine ⟨_, at_new _ _ _, ?_⟩
        conv => whnf
        refine ⟨r.start + 1, by rw [wrap_eq (by omega) (by omega)], ?_⟩
        conv => whnf
        refine .ret (in_ret _ _ _) rfl ?_
        conv => whnf
        cases h2 : inB r.bell (r.start + 1) 600
        · rw [h2] at hall
          conv => whnf
          rw [er, hall]
          exact .val
        · rw [h2, Bool.true_and] at hall
          have hb2 : r.start + 1 ≤ r.bell := by simp only [inB, Bool.and_eq_true, decide_eq_true_eq] at h2; omega
          conv => whnf
          refine ⟨_, at_new _ _ _, ?_⟩
          conv => whnf
          refine ⟨((q + 1 : Nat) : Int), by rw [wrap_eq (by omega) (by omega)]; omega, ?_⟩
          conv => whnf
          exact ⟨s.runs.length - (q + 1), by omega, q + 1, _, r.bell, by omega, by omega, rfl, hall, (at_old _ _ _ hn).trans h0, by rw [new_n]; omega, rfl, ⟨rfl, rfl, rfl, trivial⟩, rfl, rfl, rfl, rfl⟩
    have : q = s.runs.length := by simp at hc; omega
    subst this
    rw [List.drop_length] at hall
    have er : refB s = ((s.sheep.all fun k => inB k 0 2) && s.looks.all lookOk) := by rw [er, hall]; rfl
    conv => whnf
    clear hs1 hc hq hall
    refine loop_by (I := fun n st => ∃ (q : Nat) (h : Heap), q ≤ s.sheep.length ∧ n = s.sheep.length - q ∧ (s.sheep.all fun k => inB k 0 2) = ((s.sheep.drop q).all fun k => inB k 0 2) ∧ Heap.at h 0 = v.blk ∧ 0 < h.n ∧ Has st 113 [(1, .ptr 0 0), (8, .c (I q))] [] none h) ?_ (k := s.sheep.length)
      ⟨0, _, Nat.zero_le _, rfl, rfl, h0, hn, rfl, ⟨rfl, rfl, trivial⟩, rfl, rfl, rfl, rfl⟩
    clear h0 hn
    rintro n st ⟨q, h, hq, rfl, hall, h0, hn, hs1⟩
    refine hs1.run (hm := false) ?_
    conv => whnf
    refine ⟨_, h0, ?_⟩
    conv => whnf
    cases hc : decide ((q : Int) < (v.kn : Int))
    case true =>
      have hq : q < s.sheep.length := by simp at hc; omega
      obtain ⟨k, hk⟩ := get_some hq
      rw [drop_get hk, List.all_cons] at hall
      conv => whnf
      refine ⟨_, h0, ?_⟩
      conv => whnf
      refine ⟨⟨by omega, by omega⟩, ?_⟩
      conv => whnf
      refine ⟨_, hv.kind hk, ?_⟩
      conv => whnf
      refine .ret (kind_ret _) rfl ?_
      conv => whnf
      cases h1 : inB k 0 2
      · rw [h1] at hall
        conv => whnf
        rw [er, hall]
        exact .val
      · rw [h1, Bool.true_and] at hall
        conv => whnf
        refine ⟨((q + 1 : Nat) : Int), by rw [wrap_eq (by omega) (by omega)]; omega, ?_⟩
        conv => whnf
        exact ⟨s.sheep.length - (q + 1), by omega, q + 1, _, by omega, rfl, hall, h0, hn, rfl, ⟨rfl, rfl, trivial⟩, rfl, rfl, rfl, rfl⟩
    have : q = s.sheep.length := by simp at hc; omega
    subst this
    rw [List.drop_length] at hall
    have er : refB s = s.looks.all lookOk := by rw [er, hall]; rfl
    conv => whnf
    clear hs1 hc hq hall
    refine loop_by (I := fun n st => ∃ (q : Nat) (h : Heap), q ≤ s.looks.length ∧ n = s.looks.length - q ∧ s.looks.all lookOk = (s.looks.drop q).all lookOk ∧ Heap.at h 0 = v.blk ∧ 0 < h.n ∧ Has st 113 [(1, .ptr 0 0), (9, .c (I q))] [] none h) ?_ (k := s.looks.length)
      ⟨0, _, Nat.zero_le _, rfl, rfl, h0, hn, rfl, ⟨rfl, rfl, trivial⟩, rfl, rfl, rfl, rfl⟩
    clear h0 hn
    rintro n st ⟨q, h, hq, rfl, hall, h0, hn, hs1⟩
    refine hs1.run (hm := false) ?_
    conv => whnf
    refine ⟨_, h0, ?_⟩
    conv => whnf
    cases hc : decide ((q : Int) < (v.ln : Int))
    case true =>
      have hq : q < s.looks.length := by simp at hc; omega
      obtain ⟨r, hr⟩ := get_some hq
      rw [drop_get hr, List.all_cons] at hall
      have no : lookOk r = false → refB s = false := fun h => by rw [er, hall, h]; rfl
      conv => whnf
      refine ⟨_, h0, ?_⟩
      conv => whnf
      refine ⟨⟨by omega, by omega⟩, ?_⟩
      conv => whnf
      refine ⟨_, hv.look0 hr, ?_⟩
      conv => whnf
      refine .ret (in_ret _ _ _) rfl ?_
      conv => whnf
      cases h1 : inB r.minute 0 600
      · conv => whnf
        rw [no (by simp [lookOk, h1])]
        exact .val
      · conv => whnf
        refine ⟨_, h0, ?_⟩
        conv => whnf
        refine ⟨⟨by omega, by omega⟩, ?_⟩
        conv => whnf
        refine ⟨_, hv.look1 hr, ?_⟩
        conv => whnf
        refine .ret (span_ret _ _ _ _) rfl ?_
        conv => whnf
        cases h2 : spanB r.lo r.hi 0 16
        · conv => whnf
          rw [no (by simp [lookOk, h2])]
          exact .val
        · conv => whnf
          refine ⟨((q + 1 : Nat) : Int), by rw [wrap_eq (by omega) (by omega)]; omega, ?_⟩
          conv => whnf
          rw [show lookOk r = true by simp [lookOk, h1, h2], Bool.true_and] at hall
          exact ⟨s.looks.length - (q + 1), by omega, q + 1, _, by omega, rfl, hall, h0, hn, rfl, ⟨rfl, rfl, trivial⟩, rfl, rfl, rfl, rfl⟩
    have : q = s.looks.length := by simp at hc; omega
    subst this
    rw [List.drop_length] at hall
    rw [er, hall]
    conv => whnf
    exact .val

theorem far_any (v : SV) : Ret Try.prog 12 [v.cv] (B (decide (max (max (v.rn : Int) (v.kn : Int)) (v.ln : Int) > 40))) := by
  refine ret_by (hm := true) Try.func12 rfl ?_
  conv => whnf
  exact .val
theorem far_ret {v : SV} {s : Sd} (hv : v.Is s) : Ret Try.prog 12 [v.cv] (B false) := by
  have h := far_any v
  have e1 := hv.rn; have e2 := hv.kn; have e3 := hv.ln; have e4 := hv.short
  have e : decide (max (max (v.rn : Int) (v.kn : Int)) (v.ln : Int) > 40) = false := by simp; omega
  rw [e] at h
  exact h
theorem fine_ret {v : SV} {s : Sd} (hv : v.Is s) : Ret Try.prog 28 [v.cv] (B (validB s)) := by
  refine ret_by (hm := true) Try.func28 rfl ?_
  conv => whnf
  refine .ret (far_ret hv) rfl ?_
  conv => whnf
  refine .ret (ref_ret hv) rfl ?_
  conv => whnf
  exact .val
/-- The rows may be long. -/
structure SV.IsL (v : SV) (s : Sd) : Prop where
  lo : v.lo = s.lo
  hi : v.hi = s.hi
  r : SlOf 2 (s.runs.map rowRu) v.rc v.ro v.rn
  k : SlOf 1 (s.sheep.map rowK) v.kc v.ko v.kn
  l : SlOf 3 (s.looks.map rowLk) v.lc v.lo' v.ln
theorem SV.IsL.cases {v : SV} {s : Sd} (h : v.IsL s) : v.Is s ∨ Ret Try.prog 12 [v.cv] (B true) := by
  have e1 : v.rn = s.runs.length := by rw [h.r.len]; simp
  have e2 : v.kn = s.sheep.length := by rw [h.k.len]; simp
  have e3 : v.ln = s.looks.length := by rw [h.l.len]; simp
  cases hc : decide (max (max (v.rn : Int) (v.kn : Int)) (v.ln : Int) > 40)
  · left
    exact ⟨h.lo, h.hi, h.r, h.k, h.l, by simp at hc; omega⟩
  · right
    have h := far_any v
    rw [hc] at h
    exact h
theorem fine_far {v : SV} (h : Ret Try.prog 12 [v.cv] (B true)) : Ret Try.prog 28 [v.cv] (B false) := by
  refine ret_by (hm := true) Try.func28 rfl ?_
  conv => whnf
  refine .ret h rfl ?_
  conv => whnf
  exact .val
end Go.Ag
/- Layer 4: the laws are awake. -/
namespace Go.Ag
open Go.Proofs
set_option maxRecDepth 100000
theorem CV.Le.agg {l m : List CV} (h : Les l m) : (CV.agg l).Le (.agg m) := fun Φ v hv => by
  obtain ⟨cs, h1, h2, h3⟩ := hv
  exact ⟨cs, h1, by rw [← les_len h]; exact h2, les_rep h h3⟩
namespace Awake
def sam (L : List Lk) : Sd := ⟨⟨3, 5, 8⟩, ⟨4, 5, 10⟩, [⟨0, 12⟩, ⟨15, 25⟩], [0, 1, 0, 2, 0, 0], L⟩
def samV (L : List Lk) : SV := ⟨⟨3, 5, 8⟩, ⟨4, 5, 10⟩, [I 0, I 12, I 15, I 25], 0, 2, [I 0, I 1, I 0, I 2, I 0, I 0], 0, 6, (L.map rowLk).flatten, 0, L.length⟩
theorem isSam (L : List Lk) (h : L.length ≤ 40) : (samV L).Is (sam L) := by
  refine ⟨rfl, rfl, ?_, ?_, ?_, ⟨by show 2 ≤ 40; omega, by show 6 ≤ 40; omega, h⟩⟩
  · exact sl_flat (sz := 2) (rows := [rowRu ⟨0, 12⟩, rowRu ⟨15, 25⟩]) (by intro r hr; simp at hr; rcases hr with rfl | rfl <;> rfl)
  · exact sl_flat (sz := 1) (rows := [rowK 0, rowK 1, rowK 0, rowK 2, rowK 0, rowK 0]) (by intro r hr; simp at hr; rcases hr with rfl | rfl | rfl | rfl | rfl <;> rfl)
  · have := sl_flat (sz := 3) (rows := L.map rowLk) rowLk_len
    rw [List.length_map] at this
    exact this
theorem bare {f : FuncId} {r : CV} {rest : List CV} (h : Ret Try.prog f ((samV []).cv :: rest) r) : Ret Try.prog f (.agg [I 3, I 4, I 5, I 5, I 8, I 10, .sl [I 0, I 12, I 15, I 25] 0 2, .sl [I 0, I 1, I 0, I 2, I 0, I 0] 0 6, nilC] :: rest) r :=
  h.args ⟨.agg ⟨.refl _, .refl _, .refl _, .refl _, .refl _, .refl _, .refl _, .refl _, .nil _ _, trivial⟩, Les.refl rest⟩
def inl : List Nat := [51, 58, 59, 60, 61, 62, 70, 71, 94, 95, 96, 98, 103, 119, 120, 122, 126]
noncomputable def cfg (es : List Go.Ag.Known) : Go.Ag.Cfg := { P := Try.prog, pure := fun f => !inl.contains f, con := Go.Ag.conTab es }

def e0 : Go.Ag.Known := ⟨14, [.agg [.lit (.int .i64 3), .lit (.int .i64 4), .lit (.int .i64 5), .lit (.int .i64 5), .lit (.int .i64 8), .lit (.int .i64 10), .sl [.lit (.int .i64 0), .lit (.int .i64 12), .lit (.int .i64 15), .lit (.int .i64 25)] 0 2, .sl [.lit (.int .i64 0), .lit (.int .i64 1), .lit (.int .i64 0), .lit (.int .i64 2), .lit (.int .i64 0), .lit (.int .i64 0)] 0 6, .lit (.slice none 0 0)], .lit (.int .i64 4)], (.tuple [.agg [.lit (.int .i64 22), .lit (.int .i64 1000)], .lit (.int .i64 0)])⟩
theorem r0 : spR (sam []) (inB  4 0 ((sam []).sheep.length - 1)) (spanM (sam []) (.doneAt (Int.toNat  4))) = ((22, 1000), 0) := by kernel_rfl
theorem k0 : e0.ok Try.prog := by
  have h := done_ret (isSam [] (by decide)) 4
  rw [r0] at h
  exact bare h
def tab0 : List Go.Ag.Known := e0 :: []
theorem t0 : ∀ e ∈ tab0, e.ok Try.prog := List.forall_mem_cons.2 ⟨k0, (fun _ h => nomatch h)⟩
def e1 : Go.Ag.Known := ⟨16, [.agg [.lit (.int .i64 3), .lit (.int .i64 4), .lit (.int .i64 5), .lit (.int .i64 5), .lit (.int .i64 8), .lit (.int .i64 10), .sl [.lit (.int .i64 0), .lit (.int .i64 12), .lit (.int .i64 15), .lit (.int .i64 25)] 0 2, .sl [.lit (.int .i64 0), .lit (.int .i64 1), .lit (.int .i64 0), .lit (.int .i64 2), .lit (.int .i64 0), .lit (.int .i64 0)] 0 6, .lit (.slice none 0 0)], .lit (.int .i64 25)], (.tuple [.agg [.lit (.int .i64 4), .lit (.int .i64 6)], .lit (.int .i64 0)])⟩
theorem r1 : spR (sam []) (inB  25 0 999) (spanM (sam []) (.doneBy  25)) = ((4, 6), 0) := by kernel_rfl
theorem k1 : e1.ok Try.prog := by
  have h := count_ret (isSam [] (by decide)) 25
  rw [r1] at h
  exact bare h
def tab1 : List Go.Ag.Known := e1 :: tab0
theorem t1 : ∀ e ∈ tab1, e.ok Try.prog := List.forall_mem_cons.2 ⟨k1, t0⟩
def e2 : Go.Ag.Known := ⟨18, [.agg [.lit (.int .i64 3), .lit (.int .i64 4), .lit (.int .i64 5), .lit (.int .i64 5), .lit (.int .i64 8), .lit (.int .i64 10), .sl [.lit (.int .i64 0), .lit (.int .i64 12), .lit (.int .i64 15), .lit (.int .i64 25)] 0 2, .sl [.lit (.int .i64 0), .lit (.int .i64 1), .lit (.int .i64 0), .lit (.int .i64 2), .lit (.int .i64 0), .lit (.int .i64 0)] 0 6, .sl [.lit (.int .i64 11), .lit (.int .i64 2), .lit (.int .i64 2)] 0 1], .lit (.int .i64 0)], (.tuple [.agg [.lit (.int .i64 4), .lit (.int .i64 4)], .lit (.int .i64 0)])⟩
theorem r2 : spR (sam [⟨11, 2, 2⟩]) (inB  0 0 2) (spanT (sam [⟨11, 2, 2⟩]) (Int.toNat  0)) = ((4, 4), 0) := by kernel_rfl
theorem k2 : e2.ok Try.prog := by
  have h := takes_ret (isSam [⟨11, 2, 2⟩] (by decide)) 0
  rw [r2] at h
  exact h
def tab2 : List Go.Ag.Known := e2 :: tab1
theorem t2 : ∀ e ∈ tab2, e.ok Try.prog := List.forall_mem_cons.2 ⟨k2, t1⟩
def e3 : Go.Ag.Known := ⟨20, [.agg [.lit (.int .i64 3), .lit (.int .i64 4), .lit (.int .i64 5), .lit (.int .i64 5), .lit (.int .i64 8), .lit (.int .i64 10), .sl [.lit (.int .i64 0), .lit (.int .i64 12), .lit (.int .i64 15), .lit (.int .i64 25)] 0 2, .sl [.lit (.int .i64 0), .lit (.int .i64 1), .lit (.int .i64 0), .lit (.int .i64 2), .lit (.int .i64 0), .lit (.int .i64 0)] 0 6, .lit (.slice none 0 0)], .lit (.int .i64 1)], (.tuple [.agg [.lit (.int .i64 1), .lit (.int .i64 2)], .lit (.int .i64 0)])⟩
theorem r3 : spR (sam []) (inB  1 0 ((sam []).runs.length - 1)) (spanM (sam []) (.begun  1  1)) = ((1, 2), 0) := by kernel_rfl
theorem k3 : e3.ok Try.prog := by
  have h := begun_all (isSam [] (by decide)) 1
  rw [r3] at h
  exact bare h
def tab3 : List Go.Ag.Known := e3 :: tab2
theorem t3 : ∀ e ∈ tab3, e.ok Try.prog := List.forall_mem_cons.2 ⟨k3, t2⟩
def e4 : Go.Ag.Known := ⟨22, [.agg [.lit (.int .i64 3), .lit (.int .i64 4), .lit (.int .i64 5), .lit (.int .i64 5), .lit (.int .i64 8), .lit (.int .i64 10), .sl [.lit (.int .i64 0), .lit (.int .i64 12), .lit (.int .i64 15), .lit (.int .i64 25)] 0 2, .sl [.lit (.int .i64 0), .lit (.int .i64 1), .lit (.int .i64 0), .lit (.int .i64 2), .lit (.int .i64 0), .lit (.int .i64 0)] 0 6, .lit (.slice none 0 0)], .lit (.int .i64 0)], (.tuple [.agg [.lit (.int .i64 1), .lit (.int .i64 9)], .lit (.int .i64 0)])⟩
theorem r4 : spR (sam []) (inB  0 0 ((sam []).runs.length - 1)) (spanM (sam []) (.past  0  0 (bellOf (sam []) (Int.toNat  0)))) = ((1, 9), 0) := by kernel_rfl
theorem k4 : e4.ok Try.prog := by
  have h := over_ret (isSam [] (by decide)) 0
  rw [r4] at h
  exact bare h
def tab4 : List Go.Ag.Known := e4 :: tab3
theorem t4 : ∀ e ∈ tab4, e.ok Try.prog := List.forall_mem_cons.2 ⟨k4, t3⟩
def e5 : Go.Ag.Known := ⟨24, [.agg [.lit (.int .i64 3), .lit (.int .i64 4), .lit (.int .i64 5), .lit (.int .i64 5), .lit (.int .i64 8), .lit (.int .i64 10), .sl [.lit (.int .i64 0), .lit (.int .i64 12), .lit (.int .i64 15), .lit (.int .i64 25)] 0 2, .sl [.lit (.int .i64 0), .lit (.int .i64 1), .lit (.int .i64 0), .lit (.int .i64 2), .lit (.int .i64 0), .lit (.int .i64 0)] 0 6, .lit (.slice none 0 0)], .lit (.int .i64 1)], (.tuple [.lit (.int .i64 1), .lit (.int .i64 0)])⟩
theorem r5 : lateR (sam [])  1 = (1, 0) := by kernel_rfl
theorem k5 : e5.ok Try.prog := by
  have h := late_ret (isSam [] (by decide)) 1
  rw [r5] at h
  exact bare h
def tab5 : List Go.Ag.Known := e5 :: tab4
theorem t5 : ∀ e ∈ tab5, e.ok Try.prog := List.forall_mem_cons.2 ⟨k5, t4⟩
def e6 : Go.Ag.Known := ⟨26, [.agg [.lit (.int .i64 3), .lit (.int .i64 4), .lit (.int .i64 5), .lit (.int .i64 5), .lit (.int .i64 8), .lit (.int .i64 10), .sl [.lit (.int .i64 0), .lit (.int .i64 12), .lit (.int .i64 15), .lit (.int .i64 25)] 0 2, .sl [.lit (.int .i64 0), .lit (.int .i64 1), .lit (.int .i64 0), .lit (.int .i64 2), .lit (.int .i64 0), .lit (.int .i64 0)] 0 6, .sl [.lit (.int .i64 11), .lit (.int .i64 2), .lit (.int .i64 2), .lit (.int .i64 25), .lit (.int .i64 6), .lit (.int .i64 6)] 0 2]], (.tuple [.lit (.int .i64 3), .lit (.int .i64 0)])⟩
theorem r6 : clashR (sam [⟨11, 2, 2⟩, ⟨25, 6, 6⟩]) = (3, 0) := by kernel_rfl
theorem k6 : e6.ok Try.prog := by
  have h := clash_ret (isSam [⟨11, 2, 2⟩, ⟨25, 6, 6⟩] (by decide))
  rw [r6] at h
  exact h
def tab6 : List Go.Ag.Known := e6 :: tab5
theorem t6 : ∀ e ∈ tab6, e.ok Try.prog := List.forall_mem_cons.2 ⟨k6, t5⟩
def e7 : Go.Ag.Known := ⟨24, [.agg [.lit (.int .i64 3), .lit (.int .i64 4), .lit (.int .i64 5), .lit (.int .i64 5), .lit (.int .i64 8), .lit (.int .i64 10), .sl [.lit (.int .i64 0), .lit (.int .i64 12), .lit (.int .i64 15), .lit (.int .i64 25)] 0 2, .sl [.lit (.int .i64 0), .lit (.int .i64 1), .lit (.int .i64 0), .lit (.int .i64 2), .lit (.int .i64 0), .lit (.int .i64 0)] 0 6, .sl [.lit (.int .i64 11), .lit (.int .i64 2), .lit (.int .i64 2)] 0 1], .lit (.int .i64 1)], (.tuple [.lit (.int .i64 0), .lit (.int .i64 0)])⟩
theorem r7 : lateR (sam [⟨11, 2, 2⟩])  1 = (0, 0) := by kernel_rfl
theorem k7 : e7.ok Try.prog := by
  have h := late_ret (isSam [⟨11, 2, 2⟩] (by decide)) 1
  rw [r7] at h
  exact h
def tab7 : List Go.Ag.Known := e7 :: tab6
theorem t7 : ∀ e ∈ tab7, e.ok Try.prog := List.forall_mem_cons.2 ⟨k7, t6⟩
def e8 : Go.Ag.Known := ⟨13, [], (.lit (.bool true))⟩
theorem k8 : e8.ok Try.prog := Go.Ag.tells_ok (C := cfg tab7) mix (Go.Ag.conTab_ok rfl t7) (n := 2000) (by kernel_rfl)
def tab8 : List Go.Ag.Known := e8 :: tab7
theorem t8 : ∀ e ∈ tab8, e.ok Try.prog := List.forall_mem_cons.2 ⟨k8, t7⟩

theorem awake_ret : Ret Try.prog 13 [] (B true) := k8
end Awake
end Go.Ag
/- Layer 4: spans are compared, remainders; what is returned, by truths. -/
namespace Go.Ag
open Go.Proofs
set_option maxRecDepth 100000

/-! Two spans are compared. -/
theorem u23 : pureRun Try.prog (underlying 23) = some (.struct #[⟨"Lo", 3, 0, false, "", "", 0⟩, ⟨"Hi", 3, 1, false, "", "", 8⟩]) := by kernel_rfl
theorem st23 : Try.prog.stoodInHeld 23 = false := by kernel_rfl
theorem eq_span (a b a' b' : Int) : pureRun Try.prog (Op.equal 23 (.agg #[.int .i64 a, .int .i64 b]) (.agg #[.int .i64 a', .int .i64 b'])) = some (decide (a = a') && decide (b = b')) := by
  show pureRun Try.prog (Op.equalIn (9998 + 1 + 1) 23 _ _) = _
  rw [Op.equalIn.eq_def]
  simp only [pureRun_bind, u23, Option.bind_some, pp0, pureRun_ite, st23, Bool.false_eq_true, if_false]
  simp [pureRun_bind, pureRun_ite, part3, eq_int, pureRun_pure]
  by_cases h1 : a = a'
  · by_cases h2 : b = b'
    · simp [pureRun_bind, pureRun_ite, part3, eq_int, pureRun_pure, h1, h2]
    · simp [pureRun_bind, pureRun_ite, part3, eq_int, pureRun_pure, h1, h2]
  · simp [pureRun_pure, h1]
theorem eg23 : Try.prog.eqGuardType Try.prog.depth 23 = false := by kernel_rfl
theorem span_eql {o : Oper} {x y : Operand} {t2 : TypeId} {σ : Operand → AV} {a b c e : Int} (ho : o.op = .binOp .eql 23 x y t2) (hx : σ x = .c (.agg [I a, I b])) (hy : σ y = .c (.agg [I c, I e])) (rd : Nat → AB) (n : Nat) :
    aop Try.prog o σ rd n = some (.simple { val := .c (B (decide (a = c) && decide (b = e))) }) := by
  have vx : (σ x).toVal = some (.agg #[.int .i64 a, .int .i64 b]) := by rw [hx]; rfl
  have vy : (σ y).toVal = some (.agg #[.int .i64 c, .int .i64 e]) := by rw [hy]; rfl
  unfold aop
  rw [ho]
  simp only [abinOp, vx, vy, litBin]
  unfold pureOp
  have hv : (allVals σ o.op.operands.toList && notSelect o.op) = true := by
    rw [ho]; simp [Op.operands, allVals, vx, vy, notSelect]
  rw [if_pos hv]
  have hr : pureRun Try.prog (execOp (fun x => ((σ x).toVal).getD Go.undef) o) = some (.value (.bool (decide (a = c) && decide (b = e)))) := by
    unfold execOp
    rw [ho]
    simp only [vx, vy, Option.getD_some, eqGuard, binOp, pureRun_bind, pp0, Option.bind_some, pureRun_ite, eg23]
    simp [pureRun_bind, pp0, eg23, eq_span, pureRun_pure, pureRun_ite]
  rw [hr]
  rfl
theorem span_neq {o : Oper} {x y : Operand} {t2 : TypeId} {σ : Operand → AV} {a b c e : Int} (ho : o.op = .binOp .neq 23 x y t2) (hx : σ x = .c (.agg [I a, I b])) (hy : σ y = .c (.agg [I c, I e])) (rd : Nat → AB) (n : Nat) :
    aop Try.prog o σ rd n = some (.simple { val := .c (B (!(decide (a = c) && decide (b = e)))) }) := by
  have vx : (σ x).toVal = some (.agg #[.int .i64 a, .int .i64 b]) := by rw [hx]; rfl
  have vy : (σ y).toVal = some (.agg #[.int .i64 c, .int .i64 e]) := by rw [hy]; rfl
  unfold aop
  rw [ho]
  simp only [abinOp, vx, vy, litBin]
  unfold pureOp
  have hv : (allVals σ o.op.operands.toList && notSelect o.op) = true := by
    rw [ho]; simp [Op.operands, allVals, vx, vy, notSelect]
  rw [if_pos hv]
  have hr : pureRun Try.prog (execOp (fun x => ((σ x).toVal).getD Go.undef) o) = some (.value (.bool (!(decide (a = c) && decide (b = e))))) := by
    unfold execOp
    rw [ho]
    simp only [vx, vy, Option.getD_some, eqGuard, binOp, pureRun_bind, pp0, Option.bind_some, pureRun_ite, eg23]
    simp [pureRun_bind, pp0, eg23, eq_span, pureRun_pure, pureRun_ite]
  rw [hr]
  rfl
theorem plain_val {hm : Bool} {o : Oper} {tmps : TMap AV} {ds : List ADef} {p : Pan} {rd : Option Nat} {h : Heap} {K : ASt → Prop} {X : AV → ASt → Prop} {v : AV} (ha : aop Try.prog o (evalF tmps) (fun _ => .dead) h.n = some (.simple { val := v })) (k : fin tmps ds p rd h o.dst v K) :
    wPlain Try.prog hm o tmps ds p rd h K X := by
  unfold wPlain
  rw [ha]
  exact k

theorem dplain_val {P : Program} {hm : Bool} {ops : Array Oper} {i : Nat} {o : Oper} {tmps : TMap AV} {ds : List ADef} {p : Pan} {rd : Option Nat} {h : Heap} {K : ASt → DRec → Prop} {v : AV} (ha : aop P o (evalF tmps) (fun _ => .dead) h.n = some (.simple { val := v }))
    (k : finD ops i o tmps ds p rd h h.n v [] [] none K) : dPlain P hm ops i o tmps ds p rd h K := by
  unfold dPlain
  rw [ha]
  exact k
theorem rem_aop {P : Program} {o : Oper} {x y : Operand} {t t2 : TypeId} {σ : Operand → AV} {a b : Int} (ho : o.op = .binOp .rem t x y t2) (hx : σ x = .c (.lit (.int .i64 a))) (hy : σ y = .c (.lit (.int .i64 b))) (hb : b ≠ 0) (rd : Nat → AB) (n : Nat) :
    aop P o σ rd n = some (.simple { val := .c (I (a.tmod b)) }) := by
  unfold aop
  rw [ho]
  simp only [abinOp, hx, hy, AV.toVal, CV.toVal, litBin, if_neg hb]
  rfl
theorem rem_to {P : Program} {o : Oper} {x y : Operand} {t t2 : TypeId} {σ : Operand → AV} {a b : Int} (z : Int) (ho : o.op = .binOp .rem t x y t2) (hx : σ x = .c (.lit (.int .i64 a))) (hy : σ y = .c (.lit (.int .i64 b))) (hb : b ≠ 0) (hz : a.tmod b = z) (rd : Nat → AB) (n : Nat) :
    aop P o σ rd n = some (.simple { val := .c (I z) }) := by rw [← hz]; exact rem_aop ho hx hy hb rd n
theorem wrap_u8 {w : Nat} (h : w < 256) : IntKind.i64.wrap (w : Int) = (w : Int) := wrap_eq (by omega) (by omega)
theorem rem_nat {w : Nat} (h : w < 256) (n : Nat) : (IntKind.i64.wrap (w : Int)).tmod (n : Int) = ((w % n : Nat) : Int) := by
  rw [wrap_u8 h, Int.tmod_eq_emod_of_nonneg (by omega)]
  omega
theorem wrap_u16 {w : Nat} (h : w < 65536) : IntKind.i64.wrap (w : Int) = (w : Int) := wrap_eq (by omega) (by omega)
theorem rem_nat16 {w : Nat} (h : w < 65536) (n : Nat) : (IntKind.i64.wrap (w : Int)).tmod (n : Int) = ((w % n : Nat) : Int) := by
  rw [wrap_u16 h, Int.tmod_eq_emod_of_nonneg (by omega)]
  omega

/-! What is returned, by truths. -/
def truths (s : Sd) : List T3 := truthsS s s.looks
theorem mem_truths {s : Sd} {t : T3} : t ∈ truths s ↔ t ∈ combos s ∧ fits s s.looks t = true := List.mem_filter
theorem hull_uniq {l : List Int} {p : Int × Int} (h1 : p.1 ∈ l) (h2 : p.2 ∈ l) (h3 : ∀ x ∈ l, p.1 ≤ x ∧ x ≤ p.2) : hullF l = some p := by
  cases hh : hullF l with
  | none => rw [hull_none] at hh; rw [hh] at h1; cases h1
  | some q =>
    obtain ⟨q1, q2, q3⟩ := hull_some hh
    have a1 := h3 _ q1
    have a2 := h3 _ q2
    have b1 := q3 _ h1
    have b2 := q3 _ h2
    have : q = p := by
      obtain ⟨x, y⟩ := q
      obtain ⟨z, w⟩ := p
      simp only at a1 a2 b1 b2
      simp only [Prod.mk.injEq]
      omega
    rw [this]
/-- A span that is of all truths. -/
structure IsSpan (s : Sd) (f : T3 → Int) (p : Int × Int) : Prop where
  lo : ∃ t ∈ truths s, f t = p.1
  hi : ∃ t ∈ truths s, f t = p.2
  all : ∀ t ∈ truths s, p.1 ≤ f t ∧ f t ≤ p.2
theorem span_some {s : Sd} {f : T3 → Int} {p : Int × Int} : spanS s f = some p ↔ IsSpan s f p := by
  unfold spanS
  constructor
  · intro h
    obtain ⟨h1, h2, h3⟩ := hull_some h
    rw [List.mem_map] at h1 h2
    exact ⟨h1, h2, fun t ht => h3 _ (List.mem_map_of_mem ht)⟩
  · rintro ⟨h1, h2, h3⟩
    refine hull_uniq (List.mem_map.2 h1) (List.mem_map.2 h2) ?_
    intro x hx
    obtain ⟨t, ht, rfl⟩ := List.mem_map.1 hx
    exact h3 t ht
theorem span_none {s : Sd} {f : T3 → Int} : spanS s f = none ↔ truths s = [] := by
  unfold spanS truths
  rw [hull_none, List.map_eq_nil_iff]
theorem span_ex {s : Sd} (h : truths s ≠ []) (f : T3 → Int) : ∃ p, spanS s f = some p ∧ IsSpan s f p := by
  cases hh : spanS s f with
  | none => exact absurd (span_none.1 hh) h
  | some p => exact ⟨p, rfl, span_some.1 hh⟩
theorem poss_truths {s : Sd} : possB s s.looks = true ↔ truths s ≠ [] := by
  unfold possB truths
  cases truthsS s s.looks <;> simp
theorem clash_ok {s : Sd} (hd : validB s = true) (h : truths s ≠ []) : clashR s = (0, 4) := by
  unfold clashR
  rw [hd, poss_truths.2 h]
  rfl
theorem clash_no {s : Sd} (hd : validB s = true) (h : truths s = []) : clashR s = ((fewest s : Int), 0) := by
  have : possB s s.looks = false := by
    cases hp : possB s s.looks
    · rfl
    · exact absurd h (poss_truths.1 hp)
  unfold clashR
  rw [hd, this]
  rfl
theorem spR_ok {s : Sd} (hd : validB s = true) {p : Int × Int} : spR s true (some p) = (p, 0) := by unfold spR; rw [hd]; rfl
theorem spR_no {s : Sd} (hd : validB s = true) : spR s true none = ((0, 0), 10) := by unfold spR; rw [hd]; rfl
theorem truth_good {s : Sd} (hd : validB s = true) {t : T3} (ht : t ∈ truths s) : Good s t := valid_good hd (mem_truths.1 ht).1
theorem done_bound {s : Sd} {t : T3} (hg : Good s t) (j : Nat) : 0 ≤ Me.of (dayOf s t) (.doneAt j) ∧ Me.of (dayOf s t) (.doneAt j) ≤ 100000 := by
  cases hx : (dayOf s t)[j]? with
  | none =>
    have e : Me.of (dayOf s t) (.doneAt j) = 1000 := by simp only [Me.of, hx]
    omega
  | some x =>
    have e : Me.of (dayOf s t) (.doneAt j) = x.done := by simp only [Me.of, hx]
    rw [e]
    exact (day_tame hg).done x (List.mem_of_getElem? hx)

/-! A kind takes just so long. -/
def pin (s : Sd) (k : Nat) (n : Int) : Sd := { s with lo := s.lo.put k n, hi := s.hi.put k n }
theorem pin_day (s : Sd) (k : Nat) (n : Int) (t : T3) : dayOf (pin s k n) t = dayOf s t := rfl
theorem get_put {t : T3} {k : Nat} (hk : k ≤ 2) (n : Int) : (t.put k n).get k = n := by
  obtain rfl | rfl | rfl : k = 0 ∨ k = 1 ∨ k = 2 := by omega
  all_goals rfl
theorem pin_combos {s : Sd} {k : Nat} (hk : k ≤ 2) {n : Int} (h1 : s.lo.get k ≤ n) (h2 : n ≤ s.hi.get k) {t : T3} : t ∈ combos (pin s k n) ↔ t ∈ combos s ∧ t.get k = n := by
  rw [mem_combos, mem_combos]
  obtain rfl | rfl | rfl : k = 0 ∨ k = 1 ∨ k = 2 := by omega
  all_goals
    simp only [pin, T3.put, T3.get] at h1 h2 ⊢
    omega
theorem pin_truths {s : Sd} {k : Nat} (hk : k ≤ 2) {n : Int} (h1 : s.lo.get k ≤ n) (h2 : n ≤ s.hi.get k) {t : T3} : t ∈ truths (pin s k n) ↔ t ∈ truths s ∧ t.get k = n := by
  rw [mem_truths, mem_truths, pin_combos hk h1 h2]
  have : fits (pin s k n) (pin s k n).looks t = fits s s.looks t := rfl
  rw [this]
  constructor
  · rintro ⟨⟨a, b⟩, c⟩; exact ⟨⟨a, c⟩, b⟩
  · rintro ⟨⟨a, b⟩, c⟩; exact ⟨⟨a, c⟩, b⟩
theorem pin_valid {s : Sd} (hd : validB s = true) {k : Nat} (hk : k ≤ 2) {n : Int} (h1 : s.lo.get k ≤ n) (h2 : n ≤ s.hi.get k) : validB (pin s k n) = true := by
  unfold validB at hd ⊢
  rw [Bool.and_eq_true] at hd ⊢
  refine ⟨?_, hd.2⟩
  have hm := hd.1
  simp only [minsOk, minOk, spanB, Bool.and_eq_true, decide_eq_true_eq] at hm ⊢
  obtain rfl | rfl | rfl : k = 0 ∨ k = 1 ∨ k = 2 := by omega
  all_goals
    simp only [pin, T3.put, T3.get] at h1 h2 ⊢
    omega
theorem combo_get {s : Sd} {t : T3} (ht : t ∈ combos s) {k : Nat} (hk : k ≤ 2) : s.lo.get k ≤ t.get k ∧ t.get k ≤ s.hi.get k := by
  rw [mem_combos] at ht
  obtain rfl | rfl | rfl : k = 0 ∨ k = 1 ∨ k = 2 := by omega
  all_goals
    simp only [T3.get]
    omega
end Go.Ag
