/- Sorting keeps what is in a list: its functions one by one. No conditions. -/
import Derived.Test.YtbiamnobiechmaaGreatBuJ
/- Layer 7: sorting: what is in a list stays in it. -/
namespace Go.Ag
open Go.Proofs
set_option maxRecDepth 100000

theorem look_read {P : Program} {t : TypeId} {cells : List AV} {off : Nat} {v : AV} {K : AV → Prop} (h : readVar P t cells off = some v) (k : K v) : match readVar P t cells off with | some v => K v | none => False := by
  rw [h]; exact k
theorem look_put {cells : List AV} {off : Nat} {vs cs : List AV} {K : List AV → Prop} (h : putAt cells off vs = some cs) (k : K cs) : match putAt cells off vs with | some cs => K cs | none => False := by
  rw [h]; exact k
theorem store_in {c : Prop} [Decidable c] {cells vs cs : List AV} {off : Nat} {K : List AV → Prop} (h0 : c) (h : putAt cells off vs = some cs) (k : K cs) : if c then (match putAt cells off vs with | some cs => K cs | none => False) else False := by
  rw [if_pos h0, h]; exact k
theorem nan_ret (a : Int) : Ret Tryz.prog 154 [I a] (B false) := by
  refine ret_by (hm := true) Tryz.func154 rfl ?_
  conv => whnf
  rw [show (a != a) = false by simp]
  exact .val
theorem less_ret (a b : Int) : Ret Tryz.prog 144 [I a, I b] (B (decide (a < b))) := by
  refine ret_by (hm := true) Tryz.func144 rfl ?_
  conv => whnf
  refine .ret (nan_ret a) rfl ?_
  conv => whnf
  exact .val
/-- Two lists of the same numbers, of one length. -/
structure Same (L M : List Nat) : Prop where
  len : M.length = L.length
  mem : ∀ x, x ∈ M ↔ x ∈ L
theorem Same.refl (L : List Nat) : Same L L := ⟨rfl, fun _ => Iff.rfl⟩
theorem Same.trans {L M N : List Nat} (h : Same L M) (k : Same M N) : Same L N := ⟨k.len.trans h.len, fun x => (k.mem x).trans (h.mem x)⟩
theorem Same.swap {L : List Nat} {i j x y : Nat} (hi : L[i]? = some x) (hj : L[j]? = some y) : Same L ((L.set i y).set j x) := by
  have il : i < L.length := by rcases Nat.lt_or_ge i L.length with h | h; exact h; rw [List.getElem?_eq_none h] at hi; cases hi
  have jl : j < L.length := by rcases Nat.lt_or_ge j L.length with h | h; exact h; rw [List.getElem?_eq_none h] at hj; cases hj
  refine ⟨by simp, fun z => ⟨fun hz => ?_, fun hz => ?_⟩⟩
  · rcases List.mem_or_eq_of_mem_set hz with hz | rfl
    · rcases List.mem_or_eq_of_mem_set hz with hz | rfl
      · exact hz
      · exact List.mem_of_getElem? hj
    · exact List.mem_of_getElem? hi
  · obtain ⟨k, hk⟩ := List.mem_iff_getElem?.1 hz
    rw [List.mem_iff_getElem?]
    by_cases h1 : k = i
    · subst h1
      rw [hi] at hk
      exact ⟨j, by rw [List.getElem?_set_self (by simp; omega)]; exact hk⟩
    · by_cases h2 : k = j
      · subst h2
        rw [hj] at hk
        exact ⟨i, by rw [List.getElem?_set_ne (by omega), List.getElem?_set_self il]; exact hk⟩
      · exact ⟨k, by rw [List.getElem?_set_ne (by omega), List.getElem?_set_ne (by omega)]; exact hk⟩
def nvA (x : Nat) : AV := .c (I x)
def nsB (L : List Nat) : AB := .blk (L.map nvA)
def nsA (o n : Nat) : AV := .msl o 1 0 n n
theorem ns_read {L : List Nat} {i x : Nat} (h : L[i]? = some x) : readVar Tryz.prog 3 (L.map nvA) (0 + (i : Int).toNat * 1) = some (.c (I x)) := by
  have : readVar Tryz.prog 3 (L.map nvA) (0 + (i : Int).toNat * 1) = (L.map nvA)[0 + (i : Int).toNat * 1]? := rfl
  rw [this, Int.toNat_natCast, Nat.zero_add, Nat.mul_one, List.getElem?_map, h]; rfl
theorem put_one {cells : List AV} {off : Nat} (h : off < cells.length) (x : AV) : putAt cells off [x] = some (cells.set off x) := by
  simp only [putAt]
  rw [if_pos (by simp; omega), List.set_eq_take_append_cons_drop, if_pos h]
  simp
theorem ns_put {L : List Nat} {i : Nat} (h : i < L.length) (x : Nat) : putAt (L.map nvA) (0 + (i : Int).toNat * 1) [.c (I x)] = some ((L.set i x).map nvA) := by
  rw [Int.toNat_natCast, Nat.zero_add, Nat.mul_one, put_one (by simpa using h), List.map_set]; rfl
/-- What a function that sorts leaves. -/
def SortTo (o : Nat) (L : List Nat) (h h' : Heap) : Prop := ∃ L', Same L L' ∧ Heap.at h' o = nsB L' ∧ Foot (fun i => i = o) h h'
set_option maxHeartbeats 4000000 in
theorem reverse_call {L : List Nat} (hn : L.length ≤ 100000) {o a b : Nat} (hb1 : 1 ≤ b) (hb : b ≤ L.length) (ha : a ≤ L.length) {h : Heap} (ho : Heap.at h o = nsB L) (hlt : o < h.n) :
    ∃ e h', CallOk Tryz.prog 142 [nsA o L.length, .c (I a), .c (I b)] h .no e h' .no ∧ ((∃ v, e = .ret v) ∧ SortTo o L h h') := by
  refine call_by (hm := false) Tryz.func142 rfl ?_
  conv => whnf
  refine ⟨((b - 1 : Nat) : Int), by rw [wrap_eq (by omega) (by omega)]; omega, ?_⟩
  conv => whnf
  refine loop_by (I := fun z st => ∃ (i j : Nat) (g : Heap) (M : List Nat), z = j - i ∧ j < L.length ∧ i ≤ L.length ∧ Same L M ∧ Heap.at g o = nsB M ∧ Foot (fun i => i = o) h g ∧
      Has st 32 [(0, nsA o L.length), (6, .c (I i)), (7, .c (I j))] [] none g) ?_ (k := b - 1 - a)
    ⟨a, b - 1, _, L, rfl, by omega, ha, .refl _, ho, .refl _ _, rfl, ⟨rfl, rfl, rfl, trivial⟩, rfl, rfl, rfl, rfl⟩
  rintro z st ⟨i, j, g, M, rfl, hj, hi, sm, go, gf, hs1⟩
  refine hs1.run (hm := false) ?_
  conv => whnf
  cases hc : decide ((i : Int) < (j : Int))
  case false =>
    conv => whnf
    exact ⟨⟨_, rfl⟩, M, sm, go, gf⟩
  have hij : i < j := by simp at hc; omega
  have hml := sm.len
  obtain ⟨x, hx⟩ := get_some (l := M) (k := i) (by omega)
  obtain ⟨y, hy⟩ := get_some (l := M) (k := j) (by omega)
  conv => whnf
  refine draw_by (hm := false) (by kernel_rfl) (by kernel_rfl) ?_
  conv => whnf
  refine ⟨⟨rfl, by omega, by omega⟩, ?_⟩
  conv => whnf
  refine ⟨_, go, ?_⟩
  conv => whnf
  refine look_read (ns_read hy) ?_
  conv => whnf
  refine ⟨⟨rfl, by omega, by omega⟩, ?_⟩
  conv => whnf
  refine ⟨_, go, ?_⟩
  conv => whnf
  refine look_read (ns_read hx) ?_
  conv => whnf
  refine ⟨⟨rfl, by omega, by omega⟩, ?_⟩
  conv => whnf
  refine ⟨_, go, ?_⟩
  conv => whnf
  refine look_put (ns_put (i := i) (by omega) y) ?_
  conv => whnf
  have gn : o < g.n := by have := gf.n; omega
  refine ⟨gn, ?_⟩
  conv => whnf
  refine forceL_intro ?_
  conv => whnf
  refine ⟨⟨rfl, by omega, by omega⟩, ?_⟩
  conv => whnf
  refine ⟨_, at_set_self _ _ (i := o) gn, ?_⟩
  conv => whnf
  refine look_put (ns_put (L := M.set i y) (i := j) (by rw [List.length_set]; omega) x) ?_
  conv => whnf
  refine ⟨by rw [TMap.set_n]; exact gn, ?_⟩
  conv => whnf
  refine forceL_intro ?_
  conv => whnf
  refine ⟨?_, ?_⟩
  · exact pairs_via (fun _ => 0) [⟨0, _, _, [], []⟩, ⟨1, _, _, [], []⟩, ⟨2, _, _, [], []⟩, ⟨3, _, _, [], []⟩, ⟨4, _, _, [], []⟩, ⟨5, _, _, [], []⟩, ⟨6, _, _, [], []⟩, ⟨7, _, _, [0], []⟩, ⟨8, _, _, [], []⟩, ⟨9, _, _, [], []⟩, ⟨10, _, _, [], []⟩, ⟨11, _, _, [0], []⟩, ⟨12, _, _, [], []⟩, ⟨13, _, _, [0], [0]⟩, ⟨14, _, _, [], []⟩, ⟨15, _, _, [0], [0]⟩] rfl (by kernel_rfl)
  generalize hG : TMap.set AB.dead (TMap.set AB.dead g _ _) _ _ = G
  have Go : Heap.at G o = nsB ((M.set i y).set j x) := by rw [← hG]; exact at_set_self _ _ (by rw [TMap.set_n]; exact gn)
  have Gf : Foot (fun i => i = o) h G := by rw [← hG]; exact Foot.set (k := o) (Foot.set (k := o) gf (.inl rfl) _) (.inl rfl) _
  clear hG
  conv => whnf
  refine ⟨((i + 1 : Nat) : Int), by rw [wrap_eq (by omega) (by omega)]; omega, ?_⟩
  conv => whnf
  refine ⟨((j - 1 : Nat) : Int), by rw [wrap_eq (by omega) (by omega)]; omega, ?_⟩
  conv => whnf
  exact ⟨j - 1 - (i + 1), by omega, i + 1, j - 1, G, _, rfl, by omega, by omega, sm.trans (.swap hx hy), Go, Gf, rfl, ⟨rfl, rfl, rfl, trivial⟩, rfl, rfl, rfl, rfl⟩
end Go.Ag
/- Layer 7: sorting, by insertion. -/
namespace Go.Ag
open Go.Proofs
set_option maxRecDepth 100000

set_option maxHeartbeats 4000000 in
theorem insert_call {L : List Nat} (hn : L.length ≤ 100000) {o a b : Nat} (hab : a ≤ b) (hb : b ≤ L.length) {h : Heap} (ho : Heap.at h o = nsB L) (hlt : o < h.n) :
    ∃ e h', CallOk Tryz.prog 138 [nsA o L.length, .c (I a), .c (I b)] h .no e h' .no ∧ ((∃ v, e = .ret v) ∧ SortTo o L h h') := by
  refine call_by (hm := false) Tryz.func138 rfl ?_
  conv => whnf
  refine ⟨((a + 1 : Nat) : Int), by rw [wrap_eq (by omega) (by omega)]; omega, ?_⟩
  conv => whnf
  refine loop_by (I := fun z st => ∃ (i : Nat) (g : Heap) (M : List Nat), z = b - i ∧ a + 1 ≤ i ∧ i ≤ b + 1 ∧ Same L M ∧ Heap.at g o = nsB M ∧ Foot (fun i => i = o) h g ∧
      Has st 49 [(0, nsA o L.length), (1, .c (I a)), (2, .c (I b)), (6, .c (I i))] [] none g) ?_ (k := b - (a + 1))
    ⟨a + 1, _, L, rfl, Nat.le_refl _, by omega, .refl _, ho, .refl _ _, rfl, ⟨rfl, rfl, rfl, rfl, trivial⟩, rfl, rfl, rfl, rfl⟩
  rintro z st ⟨i, g, M, rfl, hi1, hi2, sm, go, gf, hs1⟩
  refine hs1.run (hm := false) ?_
  conv => whnf
  cases hc : decide ((i : Int) < (b : Int))
  case false =>
    conv => whnf
    exact ⟨⟨_, rfl⟩, M, sm, go, gf⟩
  have hib : i < b := by simp at hc; omega
  conv => whnf
  refine loop_by (I := fun z st => ∃ (j : Nat) (g : Heap) (M : List Nat), j = z ∧ j ≤ i ∧ Same L M ∧ Heap.at g o = nsB M ∧ Foot (fun i => i = o) h g ∧
      Has st 49 [(0, nsA o L.length), (1, .c (I a)), (2, .c (I b)), (6, .c (I i)), (7, .c (I j))] [] none g) ?_ (k := i)
    ⟨i, _, M, rfl, Nat.le_refl _, sm, go, gf, rfl, ⟨rfl, rfl, rfl, rfl, rfl, trivial⟩, rfl, rfl, rfl, rfl⟩
  rintro z st ⟨j, g, M, rfl, hj, sm, go, gf, hs1⟩
  refine hs1.run (hm := false) ?_
  conv => whnf
  refine draw_by (hm := false) (by kernel_rfl) (by kernel_rfl) ?_
  conv => whnf
  cases hc : decide ((j : Int) > (a : Int))
  case false =>
    conv => whnf
    refine ⟨by kernel_rfl, ?_⟩
    conv => whnf
    refine ⟨((i + 1 : Nat) : Int), by rw [wrap_eq (by omega) (by omega)]; omega, ?_⟩
    conv => whnf
    exact ⟨b - (i + 1), by omega, i + 1, g, M, rfl, by omega, by omega, sm, go, gf, rfl, ⟨rfl, rfl, rfl, rfl, trivial⟩, rfl, rfl, rfl, rfl⟩
  have hja : a < j := by simp at hc; omega
  have hml := sm.len
  obtain ⟨x, hx⟩ := get_some (l := M) (k := j) (by omega)
  obtain ⟨y, hy⟩ := get_some (l := M) (k := j - 1) (by omega)
  conv => whnf
  refine ⟨⟨rfl, by omega, by omega⟩, ?_⟩
  conv => whnf
  refine ⟨_, go, ?_⟩
  conv => whnf
  refine look_read (ns_read hx) ?_
  conv => whnf
  refine ⟨((j - 1 : Nat) : Int), by rw [wrap_eq (by omega) (by omega)]; omega, ?_⟩
  conv => whnf
  refine ⟨⟨rfl, by omega, by omega⟩, ?_⟩
  conv => whnf
  refine ⟨_, go, ?_⟩
  conv => whnf
  refine look_read (ns_read hy) ?_
  conv => whnf
  refine .pure _ _ rfl (less_ret _ _) ?_
  conv => whnf
  refine ⟨by kernel_rfl, ?_⟩
  conv => whnf
  cases hl : decide ((x : Int) < (y : Int))
  case false =>
    conv => whnf
    refine ⟨((i + 1 : Nat) : Int), by rw [wrap_eq (by omega) (by omega)]; omega, ?_⟩
    conv => whnf
    exact ⟨b - (i + 1), by omega, i + 1, g, M, rfl, by omega, by omega, sm, go, gf, rfl, ⟨rfl, rfl, rfl, rfl, trivial⟩, rfl, rfl, rfl, rfl⟩
  conv => whnf
  refine draw_by (hm := false) (by kernel_rfl) (by kernel_rfl) ?_
  conv => whnf
  refine ⟨((j - 1 : Nat) : Int), by rw [wrap_eq (by omega) (by omega)]; omega, ?_⟩
  conv => whnf
  refine ⟨((j - 1 : Nat) : Int), by rw [wrap_eq (by omega) (by omega)]; omega, ?_⟩
  conv => whnf
  refine ⟨⟨rfl, by omega, by omega⟩, ?_⟩
  conv => whnf
  refine ⟨_, go, ?_⟩
  conv => whnf
  refine look_read (ns_read hy) ?_
  conv => whnf
  refine ⟨⟨rfl, by omega, by omega⟩, ?_⟩
  conv => whnf
  refine ⟨_, go, ?_⟩
  conv => whnf
  refine look_read (ns_read hx) ?_
  conv => whnf
  have gn : o < g.n := by have := gf.n; omega
  refine ⟨⟨rfl, by omega, by omega⟩, ?_⟩
  conv => whnf
  refine ⟨_, go, ?_⟩
  conv => whnf
  refine look_put (ns_put (L := M) (i := j) (by omega) y) ?_
  conv => whnf
  refine ⟨gn, ?_⟩
  conv => whnf
  refine forceL_intro ?_
  conv => whnf
  refine ⟨⟨rfl, by omega, by omega⟩, ?_⟩
  conv => whnf
  refine ⟨_, at_set_self _ _ (i := o) gn, ?_⟩
  conv => whnf
  refine look_put (ns_put (L := M.set (j) y) (i := j - 1) (by rw [List.length_set]; omega) x) ?_
  conv => whnf
  refine ⟨by rw [TMap.set_n]; exact gn, ?_⟩
  conv => whnf
  refine forceL_intro ?_
  conv => whnf
  refine ⟨?_, ?_⟩
  · exact pairs_via (fun _ => 0) [⟨0, _, _, [], []⟩, ⟨1, _, _, [], []⟩, ⟨2, _, _, [], []⟩, ⟨3, _, _, [], []⟩, ⟨4, _, _, [], []⟩, ⟨5, _, _, [], []⟩, ⟨6, _, _, [], []⟩, ⟨7, _, _, [], []⟩, ⟨8, _, _, [], []⟩, ⟨9, _, _, [0], []⟩, ⟨10, _, _, [], []⟩, ⟨11, _, _, [], []⟩, ⟨12, _, _, [], []⟩, ⟨13, _, _, [0], []⟩, ⟨14, _, _, [], []⟩, ⟨15, _, _, [0], [0]⟩, ⟨16, _, _, [], []⟩, ⟨17, _, _, [0], [0]⟩] rfl (by kernel_rfl)
  generalize hG : TMap.set AB.dead (TMap.set AB.dead _ _ _) _ _ = G
  have Go : Heap.at G o = nsB ((M.set (j) y).set (j - 1) x) := by rw [← hG]; exact at_set_self _ _ (by rw [TMap.set_n]; exact gn)
  have Gf : Foot (fun i => i = o) h G := by rw [← hG]; exact Foot.set (k := o) (Foot.set (k := o) gf (.inl rfl) _) (.inl rfl) _
  clear hG
  conv => whnf
  refine ⟨((j - 1 : Nat) : Int), by rw [wrap_eq (by omega) (by omega)]; omega, ?_⟩
  conv => whnf
  exact ⟨j - 1, by omega, j - 1, G, _, rfl, by omega, sm.trans (.swap hx hy), Go, Gf, rfl, ⟨rfl, rfl, rfl, rfl, rfl, trivial⟩, rfl, rfl, rfl, rfl⟩
end Go.Ag
/- Layer 7: sorting, by a heap. -/
namespace Go.Ag
open Go.Proofs
set_option maxRecDepth 100000

theorem half (n : Nat) (h : n ≤ 100000) : IntKind.i64.wrap ((n : Int).tdiv 2) = ((n / 2 : Nat) : Int) := by
  rw [Int.tdiv_eq_ediv_of_nonneg (by omega)]
  have : (n : Int) / 2 = ((n / 2 : Nat) : Int) := by omega
  rw [this]; exact wrap_nat (by omega)
set_option maxHeartbeats 4000000 in
theorem sift_call {L : List Nat} (hn : L.length ≤ 100000) {o lo hi f : Nat} (hlo : lo ≤ hi) (hf : f + hi ≤ L.length) {h : Heap} (ho : Heap.at h o = nsB L) (hlt : o < h.n) :
    ∃ e h', CallOk Tryz.prog 149 [nsA o L.length, .c (I lo), .c (I hi), .c (I f)] h .no e h' .no ∧ ((∃ v, e = .ret v) ∧ SortTo o L h h') := by
  refine call_by (hm := false) Tryz.func149 rfl ?_
  conv => whnf
  refine loop_by (I := fun z st => ∃ (r : Nat) (g : Heap) (M : List Nat), z = hi - r ∧ r ≤ hi ∧ Same L M ∧ Heap.at g o = nsB M ∧ Foot (fun i => i = o) h g ∧
      Has st 76 [(0, nsA o L.length), (2, .c (I hi)), (3, .c (I f)), (8, .c (I r))] [] none g) ?_ (k := hi - lo)
    ⟨lo, _, L, rfl, hlo, .refl _, ho, .refl _ _, rfl, ⟨rfl, rfl, rfl, rfl, trivial⟩, rfl, rfl, rfl, rfl⟩
  rintro z st ⟨r, g, M, rfl, hr, sm, go, gf, hs1⟩
  refine hs1.run (hm := false) ?_
  conv => whnf
  refine ⟨((2 * r : Nat) : Int), by rw [wrap_eq (by omega) (by omega)]; omega, ?_⟩
  conv => whnf
  refine ⟨((2 * r + 1 : Nat) : Int), by rw [wrap_eq (by omega) (by omega)]; omega, ?_⟩
  conv => whnf
  cases hc : decide (((2 * r + 1 : Nat) : Int) ≥ (hi : Int))
  case true =>
    conv => whnf
    exact ⟨⟨_, rfl⟩, M, sm, go, gf⟩
  have hch : 2 * r + 1 < hi := by have := of_decide_eq_false hc; omega
  have hml := sm.len
  obtain ⟨x, hx⟩ := get_some (l := M) (k := f + r) (by omega)
  obtain ⟨y, hy⟩ := get_some (l := M) (k := f + (2 * r + 1)) (by omega)
  conv => whnf
  refine draw_by (hm := false) (by kernel_rfl) (by kernel_rfl) ?_
  conv => whnf
  refine ⟨((2 * r + 2 : Nat) : Int), by rw [wrap_eq (by omega) (by omega)]; omega, ?_⟩
  conv => whnf
  cases hc2 : decide (((2 * r + 2 : Nat) : Int) < (hi : Int))
  case false =>
    conv => whnf
    refine ⟨by kernel_rfl, ?_⟩
    conv => whnf
    conv => whnf
    refine draw_by (hm := false) (by kernel_rfl) (by kernel_rfl) ?_
    conv => whnf
    refine ⟨((f + r : Nat) : Int), by rw [wrap_eq (by omega) (by omega)]; omega, ?_⟩
    conv => whnf
    refine ⟨⟨rfl, by omega, by omega⟩, ?_⟩
    conv => whnf
    refine ⟨_, go, ?_⟩
    conv => whnf
    refine look_read (ns_read hx) ?_
    conv => whnf
    refine ⟨((f + (2 * r + 1) : Nat) : Int), by rw [wrap_eq (by omega) (by omega)]; omega, ?_⟩
    conv => whnf
    refine ⟨⟨rfl, by omega, by omega⟩, ?_⟩
    conv => whnf
    refine ⟨_, go, ?_⟩
    conv => whnf
    refine look_read (ns_read hy) ?_
    conv => whnf
    refine .pure _ _ rfl (less_ret _ _) ?_
    conv => whnf
    refine ⟨by kernel_rfl, ?_⟩
    conv => whnf
    cases hl : decide ((x : Int) < (y : Int))
    case false =>
      conv => whnf
      exact ⟨⟨_, rfl⟩, M, sm, go, gf⟩
    conv => whnf
    refine draw_by (hm := false) (by kernel_rfl) (by kernel_rfl) ?_
    conv => whnf
    refine ⟨((f + r : Nat) : Int), by rw [wrap_eq (by omega) (by omega)]; omega, ?_⟩
    conv => whnf
    refine ⟨((f + (2 * r + 1) : Nat) : Int), by rw [wrap_eq (by omega) (by omega)]; omega, ?_⟩
    conv => whnf
    refine ⟨((f + (2 * r + 1) : Nat) : Int), by rw [wrap_eq (by omega) (by omega)]; omega, ?_⟩
    conv => whnf
    refine ⟨⟨rfl, by omega, by omega⟩, ?_⟩
    conv => whnf
    refine ⟨_, go, ?_⟩
    conv => whnf
    refine look_read (ns_read hy) ?_
    conv => whnf
    refine ⟨((f + r : Nat) : Int), by rw [wrap_eq (by omega) (by omega)]; omega, ?_⟩
    conv => whnf
    refine ⟨⟨rfl, by omega, by omega⟩, ?_⟩
    conv => whnf
    refine ⟨_, go, ?_⟩
    conv => whnf
    refine look_read (ns_read hx) ?_
    conv => whnf
    have gn : o < g.n := by have := gf.n; omega
    refine ⟨⟨rfl, by omega, by omega⟩, ?_⟩
    conv => whnf
    refine ⟨_, go, ?_⟩
    conv => whnf
    refine look_put (ns_put (L := M) (i := f + r) (by omega) y) ?_
    conv => whnf
    refine ⟨gn, ?_⟩
    conv => whnf
    refine forceL_intro ?_
    conv => whnf
    refine ⟨⟨rfl, by omega, by omega⟩, ?_⟩
    conv => whnf
    refine ⟨_, at_set_self _ _ (i := o) gn, ?_⟩
    conv => whnf
    refine look_put (ns_put (L := M.set (f + r) y) (i := f + (2 * r + 1)) (by rw [List.length_set]; omega) x) ?_
    conv => whnf
    refine ⟨by rw [TMap.set_n]; exact gn, ?_⟩
    conv => whnf
    refine forceL_intro ?_
    conv => whnf
    refine ⟨?_, ?_⟩
    · exact pairs_via (fun _ => 0) [⟨0, _, _, [], []⟩, ⟨1, _, _, [], []⟩, ⟨2, _, _, [], []⟩, ⟨3, _, _, [], []⟩, ⟨4, _, _, [], []⟩, ⟨5, _, _, [], []⟩, ⟨6, _, _, [], []⟩, ⟨7, _, _, [], []⟩, ⟨8, _, _, [], []⟩, ⟨9, _, _, [], []⟩, ⟨10, _, _, [], []⟩, ⟨11, _, _, [], []⟩, ⟨12, _, _, [], []⟩, ⟨13, _, _, [0], []⟩, ⟨14, _, _, [], []⟩, ⟨15, _, _, [], []⟩, ⟨16, _, _, [], []⟩, ⟨17, _, _, [], []⟩, ⟨18, _, _, [], []⟩, ⟨19, _, _, [0], []⟩, ⟨20, _, _, [], []⟩, ⟨21, _, _, [0], [0]⟩, ⟨22, _, _, [], []⟩, ⟨23, _, _, [0], [0]⟩] rfl (by kernel_rfl)
    generalize hG : TMap.set AB.dead (TMap.set AB.dead _ _ _) _ _ = G
    have Go : Heap.at G o = nsB ((M.set (f + r) y).set (f + (2 * r + 1)) x) := by rw [← hG]; exact at_set_self _ _ (by rw [TMap.set_n]; exact gn)
    have Gf : Foot (fun i => i = o) h G := by rw [← hG]; exact Foot.set (k := o) (Foot.set (k := o) gf (.inl rfl) _) (.inl rfl) _
    clear hG
    conv => whnf
    exact ⟨hi - (2 * r + 1), by omega, (2 * r + 1), G, _, rfl, by omega, sm.trans (.swap hx hy), Go, Gf, rfl, ⟨rfl, rfl, rfl, rfl, trivial⟩, rfl, rfl, rfl, rfl⟩
  have hch2 : 2 * r + 2 < hi := by have := of_decide_eq_true hc2; omega
  obtain ⟨y2, hy2⟩ := get_some (l := M) (k := f + (2 * r + 2)) (by omega)
  conv => whnf
  refine ⟨((f + (2 * r + 1) : Nat) : Int), by rw [wrap_eq (by omega) (by omega)]; omega, ?_⟩
  conv => whnf
  refine ⟨⟨rfl, by omega, by omega⟩, ?_⟩
  conv => whnf
  refine ⟨_, go, ?_⟩
  conv => whnf
  refine look_read (ns_read hy) ?_
  conv => whnf
  refine ⟨((f + (2 * r + 1) : Nat) : Int), by rw [wrap_eq (by omega) (by omega)]; omega, ?_⟩
  conv => whnf
  refine ⟨((f + (2 * r + 2) : Nat) : Int), by rw [wrap_eq (by omega) (by omega)]; omega, ?_⟩
  conv => whnf
  refine ⟨⟨rfl, by omega, by omega⟩, ?_⟩
  conv => whnf
  refine ⟨_, go, ?_⟩
  conv => whnf
  refine look_read (ns_read hy2) ?_
  conv => whnf
  refine .pure _ _ rfl (less_ret _ _) ?_
  conv => whnf
  refine ⟨by kernel_rfl, ?_⟩
  conv => whnf
  cases hl2 : decide ((y : Int) < (y2 : Int))
  case false =>
    conv => whnf
    refine draw_by (hm := false) (by kernel_rfl) (by kernel_rfl) ?_
    conv => whnf
    refine ⟨((f + r : Nat) : Int), by rw [wrap_eq (by omega) (by omega)]; omega, ?_⟩
    conv => whnf
    refine ⟨⟨rfl, by omega, by omega⟩, ?_⟩
    conv => whnf
    refine ⟨_, go, ?_⟩
    conv => whnf
    refine look_read (ns_read hx) ?_
    conv => whnf
    refine ⟨((f + (2 * r + 1) : Nat) : Int), by rw [wrap_eq (by omega) (by omega)]; omega, ?_⟩
    conv => whnf
    refine ⟨⟨rfl, by omega, by omega⟩, ?_⟩
    conv => whnf
    refine ⟨_, go, ?_⟩
    conv => whnf
    refine look_read (ns_read hy) ?_
    conv => whnf
    refine .pure _ _ rfl (less_ret _ _) ?_
    conv => whnf
    refine ⟨by kernel_rfl, ?_⟩
    conv => whnf
    cases hl : decide ((x : Int) < (y : Int))
    case false =>
      conv => whnf
      exact ⟨⟨_, rfl⟩, M, sm, go, gf⟩
    conv => whnf
    refine draw_by (hm := false) (by kernel_rfl) (by kernel_rfl) ?_
    conv => whnf
    refine ⟨((f + r : Nat) : Int), by rw [wrap_eq (by omega) (by omega)]; omega, ?_⟩
    conv => whnf
    refine ⟨((f + (2 * r + 1) : Nat) : Int), by rw [wrap_eq (by omega) (by omega)]; omega, ?_⟩
    conv => whnf
    refine ⟨((f + (2 * r + 1) : Nat) : Int), by rw [wrap_eq (by omega) (by omega)]; omega, ?_⟩
    conv => whnf
    refine ⟨⟨rfl, by omega, by omega⟩, ?_⟩
    conv => whnf
    refine ⟨_, go, ?_⟩
    conv => whnf
    refine look_read (ns_read hy) ?_
    conv => whnf
    refine ⟨((f + r : Nat) : Int), by rw [wrap_eq (by omega) (by omega)]; omega, ?_⟩
    conv => whnf
    refine ⟨⟨rfl, by omega, by omega⟩, ?_⟩
    conv => whnf
    refine ⟨_, go, ?_⟩
    conv => whnf
    refine look_read (ns_read hx) ?_
    conv => whnf
    have gn : o < g.n := by have := gf.n; omega
    refine ⟨⟨rfl, by omega, by omega⟩, ?_⟩
    conv => whnf
    refine ⟨_, go, ?_⟩
    conv => whnf
    refine look_put (ns_put (L := M) (i := f + r) (by omega) y) ?_
    conv => whnf
    refine ⟨gn, ?_⟩
    conv => whnf
    refine forceL_intro ?_
    conv => whnf
    refine ⟨⟨rfl, by omega, by omega⟩, ?_⟩
    conv => whnf
    refine ⟨_, at_set_self _ _ (i := o) gn, ?_⟩
    conv => whnf
    refine look_put (ns_put (L := M.set (f + r) y) (i := f + (2 * r + 1)) (by rw [List.length_set]; omega) x) ?_
    conv => whnf
    refine ⟨by rw [TMap.set_n]; exact gn, ?_⟩
    conv => whnf
    refine forceL_intro ?_
    conv => whnf
    refine ⟨?_, ?_⟩
    · exact pairs_via (fun _ => 0) [⟨0, _, _, [], []⟩, ⟨1, _, _, [], []⟩, ⟨2, _, _, [], []⟩, ⟨3, _, _, [], []⟩, ⟨4, _, _, [], []⟩, ⟨5, _, _, [], []⟩, ⟨6, _, _, [], []⟩, ⟨7, _, _, [], []⟩, ⟨8, _, _, [], []⟩, ⟨9, _, _, [], []⟩, ⟨10, _, _, [], []⟩, ⟨11, _, _, [], []⟩, ⟨12, _, _, [], []⟩, ⟨13, _, _, [0], []⟩, ⟨14, _, _, [], []⟩, ⟨15, _, _, [], []⟩, ⟨16, _, _, [], []⟩, ⟨17, _, _, [], []⟩, ⟨18, _, _, [], []⟩, ⟨19, _, _, [0], []⟩, ⟨20, _, _, [], []⟩, ⟨21, _, _, [0], [0]⟩, ⟨22, _, _, [], []⟩, ⟨23, _, _, [0], [0]⟩] rfl (by kernel_rfl)
    generalize hG : TMap.set AB.dead (TMap.set AB.dead _ _ _) _ _ = G
    have Go : Heap.at G o = nsB ((M.set (f + r) y).set (f + (2 * r + 1)) x) := by rw [← hG]; exact at_set_self _ _ (by rw [TMap.set_n]; exact gn)
    have Gf : Foot (fun i => i = o) h G := by rw [← hG]; exact Foot.set (k := o) (Foot.set (k := o) gf (.inl rfl) _) (.inl rfl) _
    clear hG
    conv => whnf
    exact ⟨hi - (2 * r + 1), by omega, (2 * r + 1), G, _, rfl, by omega, sm.trans (.swap hx hy), Go, Gf, rfl, ⟨rfl, rfl, rfl, rfl, trivial⟩, rfl, rfl, rfl, rfl⟩
  conv => whnf
  refine ⟨((2 * r + 2 : Nat) : Int), by rw [wrap_eq (by omega) (by omega)]; omega, ?_⟩
  conv => whnf
  clear hy hl2
  revert hy2
  generalize y2 = y
  intro hy
  conv => whnf
  refine draw_by (hm := false) (by kernel_rfl) (by kernel_rfl) ?_
  conv => whnf
  refine ⟨((f + r : Nat) : Int), by rw [wrap_eq (by omega) (by omega)]; omega, ?_⟩
  conv => whnf
  refine ⟨⟨rfl, by omega, by omega⟩, ?_⟩
  conv => whnf
  refine ⟨_, go, ?_⟩
  conv => whnf
  refine look_read (ns_read hx) ?_
  conv => whnf
  refine ⟨((f + (2 * r + 2) : Nat) : Int), by rw [wrap_eq (by omega) (by omega)]; omega, ?_⟩
  conv => whnf
  refine ⟨⟨rfl, by omega, by omega⟩, ?_⟩
  conv => whnf
  refine ⟨_, go, ?_⟩
  conv => whnf
  refine look_read (ns_read hy) ?_
  conv => whnf
  refine .pure _ _ rfl (less_ret _ _) ?_
  conv => whnf
  refine ⟨by kernel_rfl, ?_⟩
  conv => whnf
  cases hl : decide ((x : Int) < (y : Int))
  case false =>
    conv => whnf
    exact ⟨⟨_, rfl⟩, M, sm, go, gf⟩
  conv => whnf
  refine draw_by (hm := false) (by kernel_rfl) (by kernel_rfl) ?_
  conv => whnf
  refine ⟨((f + r : Nat) : Int), by rw [wrap_eq (by omega) (by omega)]; omega, ?_⟩
  conv => whnf
  refine ⟨((f + (2 * r + 2) : Nat) : Int), by rw [wrap_eq (by omega) (by omega)]; omega, ?_⟩
  conv => whnf
  refine ⟨((f + (2 * r + 2) : Nat) : Int), by rw [wrap_eq (by omega) (by omega)]; omega, ?_⟩
  conv => whnf
  refine ⟨⟨rfl, by omega, by omega⟩, ?_⟩
  conv => whnf
  refine ⟨_, go, ?_⟩
  conv => whnf
  refine look_read (ns_read hy) ?_
  conv => whnf
  refine ⟨((f + r : Nat) : Int), by rw [wrap_eq (by omega) (by omega)]; omega, ?_⟩
  conv => whnf
  refine ⟨⟨rfl, by omega, by omega⟩, ?_⟩
  conv => whnf
  refine ⟨_, go, ?_⟩
  conv => whnf
  refine look_read (ns_read hx) ?_
  conv => whnf
  have gn : o < g.n := by have := gf.n; omega
  refine ⟨⟨rfl, by omega, by omega⟩, ?_⟩
  conv => whnf
  refine ⟨_, go, ?_⟩
  conv => whnf
  refine look_put (ns_put (L := M) (i := f + r) (by omega) y) ?_
  conv => whnf
  refine ⟨gn, ?_⟩
  conv => whnf
  refine forceL_intro ?_
  conv => whnf
  refine ⟨⟨rfl, by omega, by omega⟩, ?_⟩
  conv => whnf
  refine ⟨_, at_set_self _ _ (i := o) gn, ?_⟩
  conv => whnf
  refine look_put (ns_put (L := M.set (f + r) y) (i := f + (2 * r + 2)) (by rw [List.length_set]; omega) x) ?_
  conv => whnf
  refine ⟨by rw [TMap.set_n]; exact gn, ?_⟩
  conv => whnf
  refine forceL_intro ?_
  conv => whnf
  refine ⟨?_, ?_⟩
  · exact pairs_via (fun _ => 0) [⟨0, _, _, [], []⟩, ⟨1, _, _, [], []⟩, ⟨2, _, _, [], []⟩, ⟨3, _, _, [], []⟩, ⟨4, _, _, [], []⟩, ⟨5, _, _, [], []⟩, ⟨6, _, _, [], []⟩, ⟨7, _, _, [], []⟩, ⟨8, _, _, [], []⟩, ⟨9, _, _, [], []⟩, ⟨10, _, _, [], []⟩, ⟨11, _, _, [], []⟩, ⟨12, _, _, [], []⟩, ⟨13, _, _, [0], []⟩, ⟨14, _, _, [], []⟩, ⟨15, _, _, [], []⟩, ⟨16, _, _, [], []⟩, ⟨17, _, _, [], []⟩, ⟨18, _, _, [], []⟩, ⟨19, _, _, [0], []⟩, ⟨20, _, _, [], []⟩, ⟨21, _, _, [0], [0]⟩, ⟨22, _, _, [], []⟩, ⟨23, _, _, [0], [0]⟩] rfl (by kernel_rfl)
  generalize hG : TMap.set AB.dead (TMap.set AB.dead _ _ _) _ _ = G
  have Go : Heap.at G o = nsB ((M.set (f + r) y).set (f + (2 * r + 2)) x) := by rw [← hG]; exact at_set_self _ _ (by rw [TMap.set_n]; exact gn)
  have Gf : Foot (fun i => i = o) h G := by rw [← hG]; exact Foot.set (k := o) (Foot.set (k := o) gf (.inl rfl) _) (.inl rfl) _
  clear hG
  conv => whnf
  exact ⟨hi - (2 * r + 2), by omega, (2 * r + 2), G, _, rfl, by omega, sm.trans (.swap hx hy), Go, Gf, rfl, ⟨rfl, rfl, rfl, rfl, trivial⟩, rfl, rfl, rfl, rfl⟩
theorem sift_at {L : List Nat} {n : Nat} (hL : L.length = n) (hn : n ≤ 100000) {o lo hi f : Nat} (hlo : lo ≤ hi) (hf : f + hi ≤ n) {h : Heap} (ho : Heap.at h o = nsB L) (hlt : o < h.n) :
    ∃ e h', CallOk Tryz.prog 149 [nsA o n, .c (I lo), .c (I hi), .c (I f)] h .no e h' .no ∧ ((∃ v, e = .ret v) ∧ SortTo o L h h') := by
  subst hL; exact sift_call hn hlo hf ho hlt
set_option maxHeartbeats 4000000 in
theorem heap_call {L : List Nat} (hn : L.length ≤ 100000) {o a b : Nat} (hab : a < b) (hb : b ≤ L.length) {h : Heap} (ho : Heap.at h o = nsB L) (hlt : o < h.n) :
    ∃ e h', CallOk Tryz.prog 139 [nsA o L.length, .c (I a), .c (I b)] h .no e h' .no ∧ ((∃ v, e = .ret v) ∧ SortTo o L h h') := by
  refine call_by (hm := false) Tryz.func139 rfl ?_
  conv => whnf
  refine ⟨((b - a : Nat) : Int), by rw [wrap_eq (by omega) (by omega)]; omega, ?_⟩
  conv => whnf
  refine ⟨((b - a - 1 : Nat) : Int), by rw [wrap_eq (by omega) (by omega)]; omega, ?_⟩
  conv => whnf
  refine ⟨by omega, _, half (b - a - 1) (by omega), ?_⟩
  conv => whnf
  refine loop_by (I := fun z st => ∃ (g : Heap) (M : List Nat), z ≤ b - a ∧ Same L M ∧ Heap.at g o = nsB M ∧ Foot (fun i => i = o) h g ∧
      Has st 56 [(0, nsA o L.length), (6, .c (I a)), (7, .c (I 0)), (8, .c (I ((b - a : Nat) : Int))), (9, .c (I ((z : Int) - 1)))] [] none g) ?_ (k := (b - a - 1) / 2 + 1)
    ⟨_, L, by omega, .refl _, ho, .refl _ _, rfl, ⟨rfl, rfl, rfl, rfl, by rw [show ((((b - a - 1) / 2 + 1 : Nat) : Int) - 1) = (((b - a - 1) / 2 : Nat) : Int) by omega]; rfl, trivial⟩, rfl, rfl, rfl, rfl⟩
  rintro z st ⟨g, M, hz, sm, go, gf, hs1⟩
  refine hs1.run (hm := false) ?_
  conv => whnf
  cases hc : decide ((z : Int) - 1 ≥ 0)
  case true =>
    have hz1 : 1 ≤ z := by have := of_decide_eq_true hc; omega
    conv => whnf
    have gn : o < g.n := by have := gf.n; omega
    rw [show ((z : Int) - 1) = ((z - 1 : Nat) : Int) by omega]
    refine callW_ex (sift_at (n := L.length) sm.len hn (lo := z - 1) (hi := b - a) (f := a) (by omega) (by omega) go gn) ?_
    rintro e G ⟨⟨v, rfl⟩, M', sm', Go, Gf⟩
    conv => whnf
    refine ⟨((z - 1 : Nat) : Int) - 1, by rw [wrap_eq (by omega) (by omega)], ?_⟩
    conv => whnf
    exact ⟨z - 1, by omega, G, M', by omega, sm.trans sm', Go, gf.trans Gf, rfl, ⟨rfl, rfl, rfl, rfl, rfl, trivial⟩, rfl, rfl, rfl, rfl⟩
  conv => whnf
  refine ⟨((b - a - 1 : Nat) : Int), by rw [wrap_eq (by omega) (by omega)]; omega, ?_⟩
  conv => whnf
  refine loop_by (I := fun z st => ∃ (g : Heap) (M : List Nat), z ≤ b - a ∧ Same L M ∧ Heap.at g o = nsB M ∧ Foot (fun i => i = o) h g ∧
      Has st 56 [(0, nsA o L.length), (6, .c (I a)), (7, .c (I 0)), (10, .c (I ((z : Int) - 1)))] [] none g) ?_ (k := b - a)
    ⟨_, M, Nat.le_refl _, sm, go, gf, rfl, ⟨rfl, rfl, rfl, by rw [show ((b - a : Nat) : Int) - 1 = ((b - a - 1 : Nat) : Int) by omega]; rfl, trivial⟩, rfl, rfl, rfl, rfl⟩
  rintro z st ⟨g, M, hz, sm, go, gf, hs1⟩
  refine hs1.run (hm := false) ?_
  conv => whnf
  cases hc : decide ((z : Int) - 1 ≥ 0)
  case false =>
    conv => whnf
    exact ⟨⟨_, rfl⟩, M, sm, go, gf⟩
  have hz1 : 1 ≤ z := by have := of_decide_eq_true hc; omega
  have hml := sm.len
  obtain ⟨x, hx⟩ := get_some (l := M) (k := a) (by omega)
  obtain ⟨y, hy⟩ := get_some (l := M) (k := a + (z - 1)) (by omega)
  conv => whnf
  refine draw_by (hm := false) (by kernel_rfl) (by kernel_rfl) ?_
  conv => whnf
  refine ⟨((a + (z - 1) : Nat) : Int), by rw [wrap_eq (by omega) (by omega)]; omega, ?_⟩
  conv => whnf
  refine ⟨((a + (z - 1) : Nat) : Int), by rw [wrap_eq (by omega) (by omega)]; omega, ?_⟩
  conv => whnf
  refine ⟨⟨rfl, by omega, by omega⟩, ?_⟩
  conv => whnf
  refine ⟨_, go, ?_⟩
  conv => whnf
  refine look_read (ns_read hy) ?_
  conv => whnf
  refine ⟨⟨rfl, by omega, by omega⟩, ?_⟩
  conv => whnf
  refine ⟨_, go, ?_⟩
  conv => whnf
  refine look_read (ns_read hx) ?_
  conv => whnf
  have gn : o < g.n := by have := gf.n; omega
  refine ⟨⟨rfl, by omega, by omega⟩, ?_⟩
  conv => whnf
  refine ⟨_, go, ?_⟩
  conv => whnf
  refine look_put (ns_put (L := M) (i := a) (by omega) y) ?_
  conv => whnf
  refine ⟨gn, ?_⟩
  conv => whnf
  refine forceL_intro ?_
  conv => whnf
  refine ⟨⟨rfl, by omega, by omega⟩, ?_⟩
  conv => whnf
  refine ⟨_, at_set_self _ _ (i := o) gn, ?_⟩
  conv => whnf
  refine look_put (ns_put (L := M.set (a) y) (i := a + (z - 1)) (by rw [List.length_set]; omega) x) ?_
  conv => whnf
  refine ⟨by rw [TMap.set_n]; exact gn, ?_⟩
  conv => whnf
  refine forceL_intro ?_
  conv => whnf
  refine ⟨?_, ?_⟩
  · exact pairs_via (fun _ => 0) [⟨0, _, _, [], []⟩, ⟨1, _, _, [], []⟩, ⟨2, _, _, [], []⟩, ⟨3, _, _, [], []⟩, ⟨4, _, _, [], []⟩, ⟨5, _, _, [], []⟩, ⟨6, _, _, [], []⟩, ⟨7, _, _, [], []⟩, ⟨8, _, _, [], []⟩, ⟨9, _, _, [], []⟩, ⟨10, _, _, [], []⟩, ⟨11, _, _, [0], []⟩, ⟨12, _, _, [], []⟩, ⟨13, _, _, [], []⟩, ⟨14, _, _, [], []⟩, ⟨15, _, _, [0], []⟩, ⟨16, _, _, [], []⟩, ⟨17, _, _, [0], [0]⟩, ⟨18, _, _, [], []⟩, ⟨19, _, _, [0], [0]⟩] rfl (by kernel_rfl)
  generalize hG : TMap.set AB.dead (TMap.set AB.dead _ _ _) _ _ = G
  have Go : Heap.at G o = nsB ((M.set (a) y).set (a + (z - 1)) x) := by rw [← hG]; exact at_set_self _ _ (by rw [TMap.set_n]; exact gn)
  have Gf : Foot (fun i => i = o) h G := by rw [← hG]; exact Foot.set (k := o) (Foot.set (k := o) gf (.inl rfl) _) (.inl rfl) _
  clear hG
  conv => whnf
  rw [show ((z : Int) - 1) = ((z - 1 : Nat) : Int) by omega]
  refine callW_ex (sift_at (L := (M.set a y).set (a + (z - 1)) x) (n := L.length) (by simp; omega) hn (lo := 0) (hi := z - 1) (f := a) (by omega) (by omega) Go (by have := Gf.n; omega)) ?_
  rintro e G' ⟨⟨v, rfl⟩, M', sm', Go', Gf'⟩
  conv => whnf
  refine ⟨((z - 1 : Nat) : Int) - 1, by rw [wrap_eq (by omega) (by omega)], ?_⟩
  conv => whnf
  exact ⟨z - 1, by omega, G', M', by omega, (sm.trans (.swap hx hy)).trans sm', Go', Gf.trans Gf', rfl, ⟨rfl, rfl, rfl, rfl, trivial⟩, rfl, rfl, rfl, rfl⟩
end Go.Ag
/- Layer 7: sorting, the pivot. -/
namespace Go.Ag
open Go.Proofs
set_option maxRecDepth 100000

set_option maxHeartbeats 4000000 in
theorem order2_call {L : List Nat} {n : Nat} (hL : L.length = n) {o p a b : Nat} {s : Nat} (hs : s ≤ 1000) (ha : a < n) (hb : b < n) {h : Heap} (ho : Heap.at h o = nsB L) (hp : Heap.at h p = .blk [.c (I s)]) (hpn : p < h.n) :
    ∃ e h', CallOk Tryz.prog 155 [nsA o n, .c (I a), .c (I b), .ptr p 0] h .no e h' .no ∧ ∃ (x y s' : Nat), e = .ret (.c (.tuple [I x, I y])) ∧ ((x = a ∧ y = b) ∨ (x = b ∧ y = a)) ∧ s' ≤ s + 1 ∧ Heap.at h' p = .blk [.c (I s')] ∧ Foot (fun i => i = p) h h' := by
  obtain ⟨u, hu⟩ := get_some (l := L) (k := a) (by omega)
  obtain ⟨w, hw⟩ := get_some (l := L) (k := b) (by omega)
  refine call_by (hm := false) Tryz.func155 rfl ?_
  conv => whnf
  refine draw_by (hm := false) (by kernel_rfl) (by kernel_rfl) ?_
  conv => whnf
  refine ⟨⟨rfl, by omega, by omega⟩, ?_⟩
  conv => whnf
  refine ⟨_, ho, ?_⟩
  conv => whnf
  refine look_read (ns_read hw) ?_
  conv => whnf
  refine ⟨⟨rfl, by omega, by omega⟩, ?_⟩
  conv => whnf
  refine ⟨_, ho, ?_⟩
  conv => whnf
  refine look_read (ns_read hu) ?_
  conv => whnf
  refine .pure _ _ rfl (less_ret _ _) ?_
  conv => whnf
  refine ⟨by kernel_rfl, ?_⟩
  conv => whnf
  cases hl : decide ((w : Int) < (u : Int))
  case false =>
    conv => whnf
    exact ⟨a, b, s, rfl, .inl ⟨rfl, rfl⟩, by omega, hp, .refl _ _⟩
  conv => whnf
  refine ⟨_, hp, ?_⟩
  conv => whnf
  refine ⟨((s + 1 : Nat) : Int), by rw [wrap_eq (by omega) (by omega)]; omega, ?_⟩
  conv => whnf
  refine ⟨_, hp, ?_⟩
  conv => whnf
  refine ⟨b, a, s + 1, rfl, .inr ⟨rfl, rfl⟩, Nat.le_refl _, at_set_self _ _ (show p < h.n from hpn), Foot.set (W := fun i => i = p) (k := p) (Foot.refl _ _) (.inl rfl) _⟩
set_option maxHeartbeats 4000000 in
theorem median_call {L : List Nat} {n : Nat} (hL : L.length = n) {o p a b c : Nat} {s : Nat} (hs : s ≤ 900) (ha : a < n) (hb : b < n) (hc : c < n) (hne : o ≠ p) {h : Heap} (ho : Heap.at h o = nsB L) (hon : o < h.n) (hp : Heap.at h p = .blk [.c (I s)]) (hpn : p < h.n) :
    ∃ e h', CallOk Tryz.prog 153 [nsA o n, .c (I a), .c (I b), .c (I c), .ptr p 0] h .no e h' .no ∧ ∃ (x s' : Nat), e = .ret (.c (I x)) ∧ (x = a ∨ x = b ∨ x = c) ∧ s' ≤ s + 3 ∧ Heap.at h' p = .blk [.c (I s')] ∧ Foot (fun i => i = p) h h' := by
  refine call_by (hm := false) Tryz.func153 rfl ?_
  conv => whnf
  refine callW_ex (order2_call hL (s := s) (by omega) ha hb ho hp hpn) ?_
  rintro e1 H1 ⟨x1, y1, s1, rfl, hx1, hs1, p1, f1⟩
  have n1 := f1.n
  have o1 := (f1.keep o hon (fun e => hne e)).trans ho
  conv => whnf
  refine callW_ex (order2_call hL (s := s1) (a := y1) (b := c) (by omega) (by omega) hc o1 p1 (by omega)) ?_
  rintro e2 H2 ⟨x2, y2, s2, rfl, hx2, hs2, p2, f2⟩
  have n2 := f2.n
  have o2 := (f2.keep o (by omega) (fun e => hne e)).trans o1
  conv => whnf
  refine callW_ex (order2_call hL (s := s2) (a := x1) (b := x2) (by omega) (by omega) (by omega) o2 p2 (by omega)) ?_
  rintro e3 H3 ⟨x3, y3, s3, rfl, hx3, hs3, p3, f3⟩
  conv => whnf
  exact ⟨y3, s3, rfl, by omega, by omega, p3, (f1.trans f2).trans f3⟩
set_option maxHeartbeats 4000000 in
theorem adjacent_call {L : List Nat} {n : Nat} (hL : L.length = n) (hn : n ≤ 100000) {o p a : Nat} {s : Nat} (hs : s ≤ 900) (ha1 : 1 ≤ a) (ha : a + 1 < n) (hne : o ≠ p) {h : Heap} (ho : Heap.at h o = nsB L) (hon : o < h.n) (hp : Heap.at h p = .blk [.c (I s)]) (hpn : p < h.n) :
    ∃ e h', CallOk Tryz.prog 152 [nsA o n, .c (I a), .ptr p 0] h .no e h' .no ∧ ∃ (x s' : Nat), e = .ret (.c (I x)) ∧ (a - 1 ≤ x ∧ x ≤ a + 1) ∧ s' ≤ s + 3 ∧ Heap.at h' p = .blk [.c (I s')] ∧ Foot (fun i => i = p) h h' := by
  refine call_by (hm := false) Tryz.func152 rfl ?_
  conv => whnf
  refine ⟨((a - 1 : Nat) : Int), by rw [wrap_eq (by omega) (by omega)]; omega, ?_⟩
  conv => whnf
  refine ⟨((a + 1 : Nat) : Int), by rw [wrap_eq (by omega) (by omega)]; omega, ?_⟩
  conv => whnf
  refine callW_ex (median_call hL hs (a := a - 1) (b := a) (c := a + 1) (by omega) (by omega) ha hne ho hon hp hpn) ?_
  rintro e1 H1 ⟨x, s1, rfl, hx, hs1, p1, f1⟩
  conv => whnf
  exact ⟨x, s1, rfl, by omega, hs1, p1, f1⟩
theorem quarter (n : Nat) (h : n ≤ 100000) : IntKind.i64.wrap ((n : Int).tdiv 4) = ((n / 4 : Nat) : Int) := by
  rw [Int.tdiv_eq_ediv_of_nonneg (by omega)]
  have : (n : Int) / 4 = ((n / 4 : Nat) : Int) := by omega
  rw [this]; exact wrap_nat (by omega)
set_option maxHeartbeats 8000000 in
theorem pivot_call {L : List Nat} {n : Nat} (hL : L.length = n) (hn : n ≤ 100000) {o a b : Nat} (hab : a + 12 < b) (hb : b ≤ n) {h : Heap} (ho : Heap.at h o = nsB L) (hon : o < h.n) :
    ∃ e h', CallOk Tryz.prog 141 [nsA o n, .c (I a), .c (I b)] h .no e h' .no ∧ ∃ (x : Nat) (k : Int), e = .ret (.c (.tuple [I x, I k])) ∧ (a ≤ x ∧ x < b) ∧ Foot none' h h' := by
  refine call_by (hm := false) Tryz.func141 rfl ?_
  conv => whnf
  refine ⟨((b - a : Nat) : Int), by rw [wrap_eq (by omega) (by omega)]; omega, ?_⟩
  conv => whnf
  obtain ⟨l, hl⟩ : ∃ l, l = b - a := ⟨_, rfl⟩
  obtain ⟨d, hd⟩ : ∃ d, d = l / 4 := ⟨_, rfl⟩
  rw [← hl]
  conv => whnf
  refine ⟨by omega, ((d : Nat) : Int), by rw [hd]; exact quarter l (by omega), ?_⟩
  conv => whnf
  refine ⟨((d : Nat) : Int), by rw [wrap_eq (by omega) (by omega)]; omega, ?_⟩
  conv => whnf
  refine ⟨((a + d : Nat) : Int), by rw [wrap_eq (by omega) (by omega)]; omega, ?_⟩
  conv => whnf
  refine ⟨by omega, ((d : Nat) : Int), by rw [hd]; exact quarter l (by omega), ?_⟩
  conv => whnf
  refine ⟨((d * 2 : Nat) : Int), by rw [wrap_eq (by omega) (by omega)]; omega, ?_⟩
  conv => whnf
  refine ⟨((a + d * 2 : Nat) : Int), by rw [wrap_eq (by omega) (by omega)]; omega, ?_⟩
  conv => whnf
  refine ⟨by omega, ((d : Nat) : Int), by rw [hd]; exact quarter l (by omega), ?_⟩
  conv => whnf
  refine ⟨((d * 3 : Nat) : Int), by rw [wrap_eq (by omega) (by omega)]; omega, ?_⟩
  conv => whnf
  refine ⟨((a + d * 3 : Nat) : Int), by rw [wrap_eq (by omega) (by omega)]; omega, ?_⟩
  conv => whnf
  rw [decide_eq_true (show (l : Int) ≥ 8 by omega)]
  conv => whnf
  generalize hG : TMap.push AB.dead h _ = G
  have Gn : G.n = h.n + 1 := by rw [← hG]; rfl
  have Gp : Heap.at G h.n = .blk [.c (I 0)] := by rw [← hG]; exact at_push_self _ _
  have Go : Heap.at G o = nsB L := by rw [← hG]; exact (at_push_lt _ _ hon).trans ho
  have Gf : Foot none' h G := by rw [← hG]; exact (Foot.refl _ _).push _
  clear hG
  obtain ⟨p, hp⟩ : ∃ p, p = h.n := ⟨_, rfl⟩
  rw [← hp] at Gp Gn ⊢
  have hne : o ≠ p := by omega
  cases hl5 : decide ((l : Int) ≥ 50)
  case false =>
    conv => whnf
    refine callW_ex (median_call hL (s := 0) (a := a + d) (b := a + d * 2) (c := a + d * 3) (by omega) (by omega) (by omega) (by omega) hne Go (by omega) Gp (by omega)) ?_
    rintro e4 H4 ⟨x, s4, rfl, hx, hs4, p4, f4⟩
    have hh : Foot none' h H4 := Gf.trans_up (N := p) (f4.mono fun i _ hi => by omega) (by omega)
    conv => whnf
    refine ⟨_, p4, ?_⟩
    conv => whnf
    cases hz : (((s4 : Nat) : Int) == 0)
    case true =>
      conv => whnf
      exact ⟨x, 1, rfl, by omega, hh⟩
    conv => whnf
    cases hz2 : (((s4 : Nat) : Int) == 12)
    case true =>
      conv => whnf
      exact ⟨x, 2, rfl, by omega, hh⟩
    conv => whnf
    exact ⟨x, 0, rfl, by omega, hh⟩
  conv => whnf
  refine callW_ex (adjacent_call hL hn (s := 0) (a := a + d) (by omega) (by omega) (by omega) hne Go (by omega) Gp (by omega)) ?_
  rintro e1 H1 ⟨x1, s1, rfl, hx1, hs1, p1, f1⟩
  have n1 := f1.n
  have o1 := (f1.keep o (by omega) (fun e => hne e)).trans Go
  conv => whnf
  refine callW_ex (adjacent_call hL hn (s := s1) (a := a + d * 2) (by omega) (by omega) (by omega) hne o1 (by omega) p1 (by omega)) ?_
  rintro e2 H2 ⟨x2, s2, rfl, hx2, hs2, p2, f2⟩
  have n2 := f2.n
  have o2 := (f2.keep o (by omega) (fun e => hne e)).trans o1
  conv => whnf
  refine callW_ex (adjacent_call hL hn (s := s2) (a := a + d * 3) (by omega) (by omega) (by omega) hne o2 (by omega) p2 (by omega)) ?_
  rintro e3 H3 ⟨x3, s3, rfl, hx3, hs3, p3, f3⟩
  have n3 := f3.n
  have o3 := (f3.keep o (by omega) (fun e => hne e)).trans o2
  conv => whnf
  refine callW_ex (median_call hL (s := s3) (a := x1) (b := x2) (c := x3) (by omega) (by omega) (by omega) (by omega) hne o3 (by omega) p3 (by omega)) ?_
  rintro e4 H4 ⟨x, s4, rfl, hx, hs4, p4, f4⟩
  have hh : Foot none' h H4 := Gf.trans_up (N := p) ((((f1.trans f2).trans f3).trans f4).mono fun i _ hi => by omega) (by omega)
  conv => whnf
  refine ⟨_, p4, ?_⟩
  conv => whnf
  cases hz : (((s4 : Nat) : Int) == 0)
  case true =>
    conv => whnf
    exact ⟨x, 1, rfl, by omega, hh⟩
  conv => whnf
  cases hz2 : (((s4 : Nat) : Int) == 12)
  case true =>
    conv => whnf
    exact ⟨x, 2, rfl, by omega, hh⟩
  conv => whnf
  exact ⟨x, 0, rfl, by omega, hh⟩
end Go.Ag
/- Layer 7: sorting, a little by insertion. -/
namespace Go.Ag
open Go.Proofs
set_option maxRecDepth 100000

set_option maxHeartbeats 8000000 in
theorem partial_call {L : List Nat} (hn : L.length ≤ 100000) {o a b : Nat} (hab : a < b) (hb : b ≤ L.length) {h : Heap} (ho : Heap.at h o = nsB L) (hlt : o < h.n) :
    ∃ e h', CallOk Tryz.prog 143 [nsA o L.length, .c (I a), .c (I b)] h .no e h' .no ∧ ((∃ v, e = .ret (.c (B v))) ∧ SortTo o L h h') := by
  refine call_by (hm := false) Tryz.func143 rfl ?_
  conv => whnf
  refine ⟨((a + 1 : Nat) : Int), by rw [wrap_eq (by omega) (by omega)]; omega, ?_⟩
  conv => whnf
  refine loop_by (I := fun z st => ∃ (s i : Nat) (g : Heap) (M : List Nat), z = 5 - s ∧ s ≤ 5 ∧ a + 1 ≤ i ∧ i ≤ b ∧ Same L M ∧ Heap.at g o = nsB M ∧ Foot (fun i => i = o) h g ∧
      Has st 133 [(0, nsA o L.length), (1, .c (I a)), (2, .c (I b)), (7, .c (I i)), (8, .c (I s))] [] none g) ?_ (k := 5)
    ⟨0, a + 1, _, L, rfl, by omega, Nat.le_refl _, by omega, .refl _, ho, .refl _ _, rfl, ⟨rfl, rfl, rfl, rfl, rfl, trivial⟩, rfl, rfl, rfl, rfl⟩
  rintro z st ⟨s, i, g, M, rfl, hs5, hi1, hi2, sm, go, gf, hs1⟩
  refine hs1.run (hm := false) ?_
  conv => whnf
  cases h3 : decide ((s : Int) < 5)
  case false =>
    conv => whnf
    exact ⟨⟨_, rfl⟩, M, sm, go, gf⟩
  have hs : s < 5 := by simp at h3; omega
  conv => whnf
  refine loop_by (I := fun z st => ∃ (i : Nat) (g : Heap), z = b - i ∧ a + 1 ≤ i ∧ i ≤ b ∧ Heap.at g o = nsB M ∧ Foot (fun i => i = o) h g ∧
      Has st 133 [(0, nsA o L.length), (1, .c (I a)), (2, .c (I b)), (7, .c (I i)), (8, .c (I s))] [] none g) ?_ (k := b - i)
    ⟨i, _, rfl, hi1, hi2, go, gf, rfl, ⟨rfl, rfl, rfl, rfl, rfl, trivial⟩, rfl, rfl, rfl, rfl⟩
  clear hi1 hi2 hs1 gf
  clear go
  rintro z st ⟨i, g, rfl, hi1, hi2, go, gf, hs1⟩
  refine hs1.run (hm := false) ?_
  have hml := sm.len
  conv => whnf
  refine draw_by (hm := false) (by kernel_rfl) (by kernel_rfl) ?_
  conv => whnf
  cases h5 : decide ((i : Int) < (b : Int))
  case false =>
    have hib : i = b := by simp at h5; omega
    conv => whnf
    refine ⟨by kernel_rfl, ?_⟩
    conv => whnf
    rw [show ((i : Int) == (b : Int)) = true by rw [hib]; simp]
    conv => whnf
    exact ⟨⟨_, rfl⟩, M, sm, go, gf⟩
  have hib : i < b := by simp at h5; omega
  obtain ⟨x, hx⟩ := get_some (l := M) (k := i) (by omega)
  obtain ⟨y, hy⟩ := get_some (l := M) (k := i - 1) (by omega)
  conv => whnf
  refine ⟨⟨rfl, by omega, by omega⟩, ?_⟩
  conv => whnf
  refine ⟨_, go, ?_⟩
  conv => whnf
  refine look_read (ns_read hx) ?_
  conv => whnf
  refine ⟨((i - 1 : Nat) : Int), by rw [wrap_eq (by omega) (by omega)]; omega, ?_⟩
  conv => whnf
  refine ⟨⟨rfl, by omega, by omega⟩, ?_⟩
  conv => whnf
  refine ⟨_, go, ?_⟩
  conv => whnf
  refine look_read (ns_read hy) ?_
  conv => whnf
  refine .pure _ _ rfl (less_ret _ _) ?_
  conv => whnf
  refine ⟨by kernel_rfl, ?_⟩
  conv => whnf
  cases hl : decide ((x : Int) < (y : Int))
  case false =>
    conv => whnf
    refine ⟨((i + 1 : Nat) : Int), by rw [wrap_eq (by omega) (by omega)]; omega, ?_⟩
    conv => whnf
    exact ⟨b - (i + 1), by omega, i + 1, _, rfl, by omega, by omega, go, gf, rfl, ⟨rfl, rfl, rfl, rfl, rfl, trivial⟩, rfl, rfl, rfl, rfl⟩
  conv => whnf
  rw [show ((i : Int) == (b : Int)) = false by rw [beq_eq_false_iff_ne]; omega]
  conv => whnf
  refine ⟨((b - a : Nat) : Int), by rw [wrap_eq (by omega) (by omega)]; omega, ?_⟩
  conv => whnf
  cases h9 : decide (((b - a : Nat) : Int) < 50)
  case true =>
    conv => whnf
    exact ⟨⟨_, rfl⟩, M, sm, go, gf⟩
  conv => whnf
  refine draw_by (hm := false) (by kernel_rfl) (by kernel_rfl) ?_
  conv => whnf
  refine ⟨((i - 1 : Nat) : Int), by rw [wrap_eq (by omega) (by omega)]; omega, ?_⟩
  conv => whnf
  refine ⟨((i - 1 : Nat) : Int), by rw [wrap_eq (by omega) (by omega)]; omega, ?_⟩
  conv => whnf
  refine ⟨⟨rfl, by omega, by omega⟩, ?_⟩
  conv => whnf
  refine ⟨_, go, ?_⟩
  conv => whnf
  refine look_read (ns_read hy) ?_
  conv => whnf
  refine ⟨⟨rfl, by omega, by omega⟩, ?_⟩
  conv => whnf
  refine ⟨_, go, ?_⟩
  conv => whnf
  refine look_read (ns_read hx) ?_
  conv => whnf
  have gn : o < g.n := by have := gf.n; omega
  refine ⟨⟨rfl, by omega, by omega⟩, ?_⟩
  conv => whnf
  refine ⟨_, go, ?_⟩
  conv => whnf
  refine look_put (ns_put (L := M) (i := i) (by omega) y) ?_
  conv => whnf
  refine ⟨gn, ?_⟩
  conv => whnf
  refine forceL_intro ?_
  conv => whnf
  refine ⟨⟨rfl, by omega, by omega⟩, ?_⟩
  conv => whnf
  refine ⟨_, at_set_self _ _ (i := o) gn, ?_⟩
  conv => whnf
  refine look_put (ns_put (L := M.set (i) y) (i := i - 1) (by rw [List.length_set]; omega) x) ?_
  conv => whnf
  refine ⟨by rw [TMap.set_n]; exact gn, ?_⟩
  conv => whnf
  refine forceL_intro ?_
  conv => whnf
  refine ⟨?_, ?_⟩
  · exact pairs_via (fun _ => 0) [⟨0, _, _, [], []⟩, ⟨1, _, _, [], []⟩, ⟨2, _, _, [], []⟩, ⟨3, _, _, [], []⟩, ⟨4, _, _, [], []⟩, ⟨5, _, _, [], []⟩, ⟨6, _, _, [], []⟩, ⟨7, _, _, [], []⟩, ⟨8, _, _, [], []⟩, ⟨9, _, _, [0], []⟩, ⟨10, _, _, [], []⟩, ⟨11, _, _, [], []⟩, ⟨12, _, _, [], []⟩, ⟨13, _, _, [0], []⟩, ⟨14, _, _, [], []⟩, ⟨15, _, _, [0], [0]⟩, ⟨16, _, _, [], []⟩, ⟨17, _, _, [0], [0]⟩] rfl (by kernel_rfl)
  generalize hG : TMap.set AB.dead (TMap.set AB.dead _ _ _) _ _ = G
  have Go : Heap.at G o = nsB ((M.set (i) y).set (i - 1) x) := by rw [← hG]; exact at_set_self _ _ (by rw [TMap.set_n]; exact gn)
  have Gf : Foot (fun i => i = o) h G := by rw [← hG]; exact Foot.set (k := o) (Foot.set (k := o) gf (.inl rfl) _) (.inl rfl) _
  clear hG
  have sm2 := sm.trans (.swap hx hy)
  clear hs1 go gf hl hml sm
  revert sm2 Go
  generalize (M.set i y).set (i - 1) x = M2
  clear hx hy
  revert Gf
  generalize G = g
  intro gf go sm
  clear M
  revert sm go
  generalize M2 = M
  intro go sm
  conv => whnf
  refine ⟨((i - a : Nat) : Int), by rw [wrap_eq (by omega) (by omega)]; omega, ?_⟩
  conv => whnf
  cases h12 : decide (((i - a : Nat) : Int) ≥ 2)
  case false =>
    conv => whnf
    refine ⟨((b - i : Nat) : Int), by rw [wrap_eq (by omega) (by omega)]; omega, ?_⟩
    conv => whnf
    cases h18 : decide (((b - i : Nat) : Int) ≥ 2)
    case false =>
      conv => whnf
      refine ⟨((s + 1 : Nat) : Int), by rw [wrap_eq (by omega) (by omega)]; omega, ?_⟩
      conv => whnf
      exact ⟨5 - (s + 1), by omega, s + 1, i, g, M, rfl, by omega, by omega, by omega, sm, go, gf, rfl, ⟨rfl, rfl, rfl, rfl, rfl, trivial⟩, rfl, rfl, rfl, rfl⟩
    conv => whnf
    refine ⟨((i + 1 : Nat) : Int), by rw [wrap_eq (by omega) (by omega)]; omega, ?_⟩
    conv => whnf
    refine loop_by (I := fun z st => ∃ (j : Nat) (g : Heap) (M : List Nat), z = b - j ∧ i + 1 ≤ j ∧ j ≤ b ∧ Same L M ∧ Heap.at g o = nsB M ∧ Foot (fun i => i = o) h g ∧
        Has st 133 [(0, nsA o L.length), (1, .c (I a)), (2, .c (I b)), (7, .c (I i)), (8, .c (I s)), (10, .c (I j))] [] none g) ?_ (k := b - (i + 1))
      ⟨i + 1, _, M, rfl, Nat.le_refl _, by omega, sm, go, gf, rfl, ⟨rfl, rfl, rfl, rfl, rfl, rfl, trivial⟩, rfl, rfl, rfl, rfl⟩
    rintro z st ⟨j, g, M, rfl, hj1, hj2, sm, go, gf, hs1⟩
    refine hs1.run (hm := false) ?_
    conv => whnf
    cases h20 : decide ((j : Int) < (b : Int))
    case false =>
      conv => whnf
      refine ⟨((s + 1 : Nat) : Int), by rw [wrap_eq (by omega) (by omega)]; omega, ?_⟩
      conv => whnf
      exact ⟨5 - (s + 1), by omega, s + 1, i, g, M, rfl, by omega, by omega, by omega, sm, go, gf, rfl, ⟨rfl, rfl, rfl, rfl, rfl, trivial⟩, rfl, rfl, rfl, rfl⟩
    have hjb : j < b := by simp at h20; omega
    have hml := sm.len
    obtain ⟨x, hx⟩ := get_some (l := M) (k := j) (by omega)
    obtain ⟨y, hy⟩ := get_some (l := M) (k := j - 1) (by omega)
    conv => whnf
    refine draw_by (hm := false) (by kernel_rfl) (by kernel_rfl) ?_
    conv => whnf
    refine ⟨⟨rfl, by omega, by omega⟩, ?_⟩
    conv => whnf
    refine ⟨_, go, ?_⟩
    conv => whnf
    refine look_read (ns_read hx) ?_
    conv => whnf
    refine ⟨((j - 1 : Nat) : Int), by rw [wrap_eq (by omega) (by omega)]; omega, ?_⟩
    conv => whnf
    refine ⟨⟨rfl, by omega, by omega⟩, ?_⟩
    conv => whnf
    refine ⟨_, go, ?_⟩
    conv => whnf
    refine look_read (ns_read hy) ?_
    conv => whnf
    refine .pure _ _ rfl (less_ret _ _) ?_
    conv => whnf
    refine ⟨by kernel_rfl, ?_⟩
    conv => whnf
    cases hl : decide ((x : Int) < (y : Int))
    case false =>
      conv => whnf
      refine ⟨((s + 1 : Nat) : Int), by rw [wrap_eq (by omega) (by omega)]; omega, ?_⟩
      conv => whnf
      exact ⟨5 - (s + 1), by omega, s + 1, i, g, M, rfl, by omega, by omega, by omega, sm, go, gf, rfl, ⟨rfl, rfl, rfl, rfl, rfl, trivial⟩, rfl, rfl, rfl, rfl⟩
    conv => whnf
    refine draw_by (hm := false) (by kernel_rfl) (by kernel_rfl) ?_
    conv => whnf
    refine ⟨((j - 1 : Nat) : Int), by rw [wrap_eq (by omega) (by omega)]; omega, ?_⟩
    conv => whnf
    refine ⟨((j - 1 : Nat) : Int), by rw [wrap_eq (by omega) (by omega)]; omega, ?_⟩
    conv => whnf
    refine ⟨⟨rfl, by omega, by omega⟩, ?_⟩
    conv => whnf
    refine ⟨_, go, ?_⟩
    conv => whnf
    refine look_read (ns_read hy) ?_
    conv => whnf
    refine ⟨⟨rfl, by omega, by omega⟩, ?_⟩
    conv => whnf
    refine ⟨_, go, ?_⟩
    conv => whnf
    refine look_read (ns_read hx) ?_
    conv => whnf
    have gn : o < g.n := by have := gf.n; omega
    refine ⟨⟨rfl, by omega, by omega⟩, ?_⟩
    conv => whnf
    refine ⟨_, go, ?_⟩
    conv => whnf
    refine look_put (ns_put (L := M) (i := j) (by omega) y) ?_
    conv => whnf
    refine ⟨gn, ?_⟩
    conv => whnf
    refine forceL_intro ?_
    conv => whnf
    refine ⟨⟨rfl, by omega, by omega⟩, ?_⟩
    conv => whnf
    refine ⟨_, at_set_self _ _ (i := o) gn, ?_⟩
    conv => whnf
    refine look_put (ns_put (L := M.set (j) y) (i := j - 1) (by rw [List.length_set]; omega) x) ?_
    conv => whnf
    refine ⟨by rw [TMap.set_n]; exact gn, ?_⟩
    conv => whnf
    refine forceL_intro ?_
    conv => whnf
    refine ⟨?_, ?_⟩
    · exact pairs_via (fun _ => 0) [⟨0, _, _, [], []⟩, ⟨1, _, _, [], []⟩, ⟨2, _, _, [], []⟩, ⟨3, _, _, [], []⟩, ⟨4, _, _, [], []⟩, ⟨5, _, _, [], []⟩, ⟨6, _, _, [], []⟩, ⟨7, _, _, [], []⟩, ⟨8, _, _, [], []⟩, ⟨9, _, _, [0], []⟩, ⟨10, _, _, [], []⟩, ⟨11, _, _, [], []⟩, ⟨12, _, _, [], []⟩, ⟨13, _, _, [0], []⟩, ⟨14, _, _, [], []⟩, ⟨15, _, _, [0], [0]⟩, ⟨16, _, _, [], []⟩, ⟨17, _, _, [0], [0]⟩] rfl (by kernel_rfl)
    generalize hG : TMap.set AB.dead (TMap.set AB.dead _ _ _) _ _ = G
    have Go : Heap.at G o = nsB ((M.set (j) y).set (j - 1) x) := by rw [← hG]; exact at_set_self _ _ (by rw [TMap.set_n]; exact gn)
    have Gf : Foot (fun i => i = o) h G := by rw [← hG]; exact Foot.set (k := o) (Foot.set (k := o) gf (.inl rfl) _) (.inl rfl) _
    clear hG
    conv => whnf
    refine ⟨((j + 1 : Nat) : Int), by rw [wrap_eq (by omega) (by omega)]; omega, ?_⟩
    conv => whnf
    exact ⟨b - (j + 1), by omega, j + 1, G, _, rfl, by omega, by omega, sm.trans (.swap hx hy), Go, Gf, rfl, ⟨rfl, rfl, rfl, rfl, rfl, rfl, trivial⟩, rfl, rfl, rfl, rfl⟩
  conv => whnf
  refine ⟨((i - 1 : Nat) : Int), by rw [wrap_eq (by omega) (by omega)]; omega, ?_⟩
  conv => whnf
  refine loop_by (I := fun z st => ∃ (j : Nat) (g : Heap) (M : List Nat), j = z ∧ j < i ∧ Same L M ∧ Heap.at g o = nsB M ∧ Foot (fun i => i = o) h g ∧
      Has st 133 [(0, nsA o L.length), (1, .c (I a)), (2, .c (I b)), (7, .c (I i)), (8, .c (I s)), (9, .c (I j))] [] none g) ?_ (k := i - 1)
    ⟨i - 1, _, M, rfl, by omega, sm, go, gf, rfl, ⟨rfl, rfl, rfl, rfl, rfl, rfl, trivial⟩, rfl, rfl, rfl, rfl⟩
  rintro z st ⟨j, g, M, rfl, hj1, sm, go, gf, hs1⟩
  refine hs1.run (hm := false) ?_
  conv => whnf
  cases h14 : decide ((j : Int) ≥ 1)
  case false =>
    conv => whnf
    refine ⟨((b - i : Nat) : Int), by rw [wrap_eq (by omega) (by omega)]; omega, ?_⟩
    conv => whnf
    cases h18 : decide (((b - i : Nat) : Int) ≥ 2)
    case false =>
      conv => whnf
      refine ⟨((s + 1 : Nat) : Int), by rw [wrap_eq (by omega) (by omega)]; omega, ?_⟩
      conv => whnf
      exact ⟨5 - (s + 1), by omega, s + 1, i, g, M, rfl, by omega, by omega, by omega, sm, go, gf, rfl, ⟨rfl, rfl, rfl, rfl, rfl, trivial⟩, rfl, rfl, rfl, rfl⟩
    conv => whnf
    refine ⟨((i + 1 : Nat) : Int), by rw [wrap_eq (by omega) (by omega)]; omega, ?_⟩
    conv => whnf
    refine loop_by (I := fun z st => ∃ (j : Nat) (g : Heap) (M : List Nat), z = b - j ∧ i + 1 ≤ j ∧ j ≤ b ∧ Same L M ∧ Heap.at g o = nsB M ∧ Foot (fun i => i = o) h g ∧
        Has st 133 [(0, nsA o L.length), (1, .c (I a)), (2, .c (I b)), (7, .c (I i)), (8, .c (I s)), (10, .c (I j))] [] none g) ?_ (k := b - (i + 1))
      ⟨i + 1, _, M, rfl, Nat.le_refl _, by omega, sm, go, gf, rfl, ⟨rfl, rfl, rfl, rfl, rfl, rfl, trivial⟩, rfl, rfl, rfl, rfl⟩
    rintro z st ⟨j, g, M, rfl, hj1, hj2, sm, go, gf, hs1⟩
    refine hs1.run (hm := false) ?_
    conv => whnf
    cases h20 : decide ((j : Int) < (b : Int))
    case false =>
      conv => whnf
      refine ⟨((s + 1 : Nat) : Int), by rw [wrap_eq (by omega) (by omega)]; omega, ?_⟩
      conv => whnf
      exact ⟨5 - (s + 1), by omega, s + 1, i, g, M, rfl, by omega, by omega, by omega, sm, go, gf, rfl, ⟨rfl, rfl, rfl, rfl, rfl, trivial⟩, rfl, rfl, rfl, rfl⟩
    have hjb : j < b := by simp at h20; omega
    have hml := sm.len
    obtain ⟨x, hx⟩ := get_some (l := M) (k := j) (by omega)
    obtain ⟨y, hy⟩ := get_some (l := M) (k := j - 1) (by omega)
    conv => whnf
    refine draw_by (hm := false) (by kernel_rfl) (by kernel_rfl) ?_
    conv => whnf
    refine ⟨⟨rfl, by omega, by omega⟩, ?_⟩
    conv => whnf
    refine ⟨_, go, ?_⟩
    conv => whnf
    refine look_read (ns_read hx) ?_
    conv => whnf
    refine ⟨((j - 1 : Nat) : Int), by rw [wrap_eq (by omega) (by omega)]; omega, ?_⟩
    conv => whnf
    refine ⟨⟨rfl, by omega, by omega⟩, ?_⟩
    conv => whnf
    refine ⟨_, go, ?_⟩
    conv => whnf
    refine look_read (ns_read hy) ?_
    conv => whnf
    refine .pure _ _ rfl (less_ret _ _) ?_
    conv => whnf
    refine ⟨by kernel_rfl, ?_⟩
    conv => whnf
    cases hl : decide ((x : Int) < (y : Int))
    case false =>
      conv => whnf
      refine ⟨((s + 1 : Nat) : Int), by rw [wrap_eq (by omega) (by omega)]; omega, ?_⟩
      conv => whnf
      exact ⟨5 - (s + 1), by omega, s + 1, i, g, M, rfl, by omega, by omega, by omega, sm, go, gf, rfl, ⟨rfl, rfl, rfl, rfl, rfl, trivial⟩, rfl, rfl, rfl, rfl⟩
    conv => whnf
    refine draw_by (hm := false) (by kernel_rfl) (by kernel_rfl) ?_
    conv => whnf
    refine ⟨((j - 1 : Nat) : Int), by rw [wrap_eq (by omega) (by omega)]; omega, ?_⟩
    conv => whnf
    refine ⟨((j - 1 : Nat) : Int), by rw [wrap_eq (by omega) (by omega)]; omega, ?_⟩
    conv => whnf
    refine ⟨⟨rfl, by omega, by omega⟩, ?_⟩
    conv => whnf
    refine ⟨_, go, ?_⟩
    conv => whnf
    refine look_read (ns_read hy) ?_
    conv => whnf
    refine ⟨⟨rfl, by omega, by omega⟩, ?_⟩
    conv => whnf
    refine ⟨_, go, ?_⟩
    conv => whnf
    refine look_read (ns_read hx) ?_
    conv => whnf
    have gn : o < g.n := by have := gf.n; omega
    refine ⟨⟨rfl, by omega, by omega⟩, ?_⟩
    conv => whnf
    refine ⟨_, go, ?_⟩
    conv => whnf
    refine look_put (ns_put (L := M) (i := j) (by omega) y) ?_
    conv => whnf
    refine ⟨gn, ?_⟩
    conv => whnf
    refine forceL_intro ?_
    conv => whnf
    refine ⟨⟨rfl, by omega, by omega⟩, ?_⟩
    conv => whnf
    refine ⟨_, at_set_self _ _ (i := o) gn, ?_⟩
    conv => whnf
    refine look_put (ns_put (L := M.set (j) y) (i := j - 1) (by rw [List.length_set]; omega) x) ?_
    conv => whnf
    refine ⟨by rw [TMap.set_n]; exact gn, ?_⟩
    conv => whnf
    refine forceL_intro ?_
    conv => whnf
    refine ⟨?_, ?_⟩
    · exact pairs_via (fun _ => 0) [⟨0, _, _, [], []⟩, ⟨1, _, _, [], []⟩, ⟨2, _, _, [], []⟩, ⟨3, _, _, [], []⟩, ⟨4, _, _, [], []⟩, ⟨5, _, _, [], []⟩, ⟨6, _, _, [], []⟩, ⟨7, _, _, [], []⟩, ⟨8, _, _, [], []⟩, ⟨9, _, _, [0], []⟩, ⟨10, _, _, [], []⟩, ⟨11, _, _, [], []⟩, ⟨12, _, _, [], []⟩, ⟨13, _, _, [0], []⟩, ⟨14, _, _, [], []⟩, ⟨15, _, _, [0], [0]⟩, ⟨16, _, _, [], []⟩, ⟨17, _, _, [0], [0]⟩] rfl (by kernel_rfl)
    generalize hG : TMap.set AB.dead (TMap.set AB.dead _ _ _) _ _ = G
    have Go : Heap.at G o = nsB ((M.set (j) y).set (j - 1) x) := by rw [← hG]; exact at_set_self _ _ (by rw [TMap.set_n]; exact gn)
    have Gf : Foot (fun i => i = o) h G := by rw [← hG]; exact Foot.set (k := o) (Foot.set (k := o) gf (.inl rfl) _) (.inl rfl) _
    clear hG
    conv => whnf
    refine ⟨((j + 1 : Nat) : Int), by rw [wrap_eq (by omega) (by omega)]; omega, ?_⟩
    conv => whnf
    exact ⟨b - (j + 1), by omega, j + 1, G, _, rfl, by omega, by omega, sm.trans (.swap hx hy), Go, Gf, rfl, ⟨rfl, rfl, rfl, rfl, rfl, rfl, trivial⟩, rfl, rfl, rfl, rfl⟩
  have hj0 : 1 ≤ j := by have := of_decide_eq_true h14; omega
  have hml := sm.len
  obtain ⟨x, hx⟩ := get_some (l := M) (k := j) (by omega)
  obtain ⟨y, hy⟩ := get_some (l := M) (k := j - 1) (by omega)
  conv => whnf
  refine draw_by (hm := false) (by kernel_rfl) (by kernel_rfl) ?_
  conv => whnf
  refine ⟨⟨rfl, by omega, by omega⟩, ?_⟩
  conv => whnf
  refine ⟨_, go, ?_⟩
  conv => whnf
  refine look_read (ns_read hx) ?_
  conv => whnf
  refine ⟨((j - 1 : Nat) : Int), by rw [wrap_eq (by omega) (by omega)]; omega, ?_⟩
  conv => whnf
  refine ⟨⟨rfl, by omega, by omega⟩, ?_⟩
  conv => whnf
  refine ⟨_, go, ?_⟩
  conv => whnf
  refine look_read (ns_read hy) ?_
  conv => whnf
  refine .pure _ _ rfl (less_ret _ _) ?_
  conv => whnf
  refine ⟨by kernel_rfl, ?_⟩
  conv => whnf
  cases hl : decide ((x : Int) < (y : Int))
  case false =>
    clear hx hy
    conv => whnf
    refine ⟨((b - i : Nat) : Int), by rw [wrap_eq (by omega) (by omega)]; omega, ?_⟩
    conv => whnf
    cases h18 : decide (((b - i : Nat) : Int) ≥ 2)
    case false =>
      conv => whnf
      refine ⟨((s + 1 : Nat) : Int), by rw [wrap_eq (by omega) (by omega)]; omega, ?_⟩
      conv => whnf
      exact ⟨5 - (s + 1), by omega, s + 1, i, g, M, rfl, by omega, by omega, by omega, sm, go, gf, rfl, ⟨rfl, rfl, rfl, rfl, rfl, trivial⟩, rfl, rfl, rfl, rfl⟩
    conv => whnf
    refine ⟨((i + 1 : Nat) : Int), by rw [wrap_eq (by omega) (by omega)]; omega, ?_⟩
    conv => whnf
    refine loop_by (I := fun z st => ∃ (j : Nat) (g : Heap) (M : List Nat), z = b - j ∧ i + 1 ≤ j ∧ j ≤ b ∧ Same L M ∧ Heap.at g o = nsB M ∧ Foot (fun i => i = o) h g ∧
        Has st 133 [(0, nsA o L.length), (1, .c (I a)), (2, .c (I b)), (7, .c (I i)), (8, .c (I s)), (10, .c (I j))] [] none g) ?_ (k := b - (i + 1))
      ⟨i + 1, _, M, rfl, Nat.le_refl _, by omega, sm, go, gf, rfl, ⟨rfl, rfl, rfl, rfl, rfl, rfl, trivial⟩, rfl, rfl, rfl, rfl⟩
    rintro z st ⟨j, g, M, rfl, hj1, hj2, sm, go, gf, hs1⟩
    refine hs1.run (hm := false) ?_
    conv => whnf
    cases h20 : decide ((j : Int) < (b : Int))
    case false =>
      conv => whnf
      refine ⟨((s + 1 : Nat) : Int), by rw [wrap_eq (by omega) (by omega)]; omega, ?_⟩
      conv => whnf
      exact ⟨5 - (s + 1), by omega, s + 1, i, g, M, rfl, by omega, by omega, by omega, sm, go, gf, rfl, ⟨rfl, rfl, rfl, rfl, rfl, trivial⟩, rfl, rfl, rfl, rfl⟩
    have hjb : j < b := by simp at h20; omega
    have hml := sm.len
    obtain ⟨x, hx⟩ := get_some (l := M) (k := j) (by omega)
    obtain ⟨y, hy⟩ := get_some (l := M) (k := j - 1) (by omega)
    conv => whnf
    refine draw_by (hm := false) (by kernel_rfl) (by kernel_rfl) ?_
    conv => whnf
    refine ⟨⟨rfl, by omega, by omega⟩, ?_⟩
    conv => whnf
    refine ⟨_, go, ?_⟩
    conv => whnf
    refine look_read (ns_read hx) ?_
    conv => whnf
    refine ⟨((j - 1 : Nat) : Int), by rw [wrap_eq (by omega) (by omega)]; omega, ?_⟩
    conv => whnf
    refine ⟨⟨rfl, by omega, by omega⟩, ?_⟩
    conv => whnf
    refine ⟨_, go, ?_⟩
    conv => whnf
    refine look_read (ns_read hy) ?_
    conv => whnf
    refine .pure _ _ rfl (less_ret _ _) ?_
    conv => whnf
    refine ⟨by kernel_rfl, ?_⟩
    conv => whnf
    cases hl : decide ((x : Int) < (y : Int))
    case false =>
      conv => whnf
      refine ⟨((s + 1 : Nat) : Int), by rw [wrap_eq (by omega) (by omega)]; omega, ?_⟩
      conv => whnf
      exact ⟨5 - (s + 1), by omega, s + 1, i, g, M, rfl, by omega, by omega, by omega, sm, go, gf, rfl, ⟨rfl, rfl, rfl, rfl, rfl, trivial⟩, rfl, rfl, rfl, rfl⟩
    conv => whnf
    refine draw_by (hm := false) (by kernel_rfl) (by kernel_rfl) ?_
    conv => whnf
    refine ⟨((j - 1 : Nat) : Int), by rw [wrap_eq (by omega) (by omega)]; omega, ?_⟩
    conv => whnf
    refine ⟨((j - 1 : Nat) : Int), by rw [wrap_eq (by omega) (by omega)]; omega, ?_⟩
    conv => whnf
    refine ⟨⟨rfl, by omega, by omega⟩, ?_⟩
    conv => whnf
    refine ⟨_, go, ?_⟩
    conv => whnf
    refine look_read (ns_read hy) ?_
    conv => whnf
    refine ⟨⟨rfl, by omega, by omega⟩, ?_⟩
    conv => whnf
    refine ⟨_, go, ?_⟩
    conv => whnf
    refine look_read (ns_read hx) ?_
    conv => whnf
    have gn : o < g.n := by have := gf.n; omega
    refine ⟨⟨rfl, by omega, by omega⟩, ?_⟩
    conv => whnf
    refine ⟨_, go, ?_⟩
    conv => whnf
    refine look_put (ns_put (L := M) (i := j) (by omega) y) ?_
    conv => whnf
    refine ⟨gn, ?_⟩
    conv => whnf
    refine forceL_intro ?_
    conv => whnf
    refine ⟨⟨rfl, by omega, by omega⟩, ?_⟩
    conv => whnf
    refine ⟨_, at_set_self _ _ (i := o) gn, ?_⟩
    conv => whnf
    refine look_put (ns_put (L := M.set (j) y) (i := j - 1) (by rw [List.length_set]; omega) x) ?_
    conv => whnf
    refine ⟨by rw [TMap.set_n]; exact gn, ?_⟩
    conv => whnf
    refine forceL_intro ?_
    conv => whnf
    refine ⟨?_, ?_⟩
    · exact pairs_via (fun _ => 0) [⟨0, _, _, [], []⟩, ⟨1, _, _, [], []⟩, ⟨2, _, _, [], []⟩, ⟨3, _, _, [], []⟩, ⟨4, _, _, [], []⟩, ⟨5, _, _, [], []⟩, ⟨6, _, _, [], []⟩, ⟨7, _, _, [], []⟩, ⟨8, _, _, [], []⟩, ⟨9, _, _, [0], []⟩, ⟨10, _, _, [], []⟩, ⟨11, _, _, [], []⟩, ⟨12, _, _, [], []⟩, ⟨13, _, _, [0], []⟩, ⟨14, _, _, [], []⟩, ⟨15, _, _, [0], [0]⟩, ⟨16, _, _, [], []⟩, ⟨17, _, _, [0], [0]⟩] rfl (by kernel_rfl)
    generalize hG : TMap.set AB.dead (TMap.set AB.dead _ _ _) _ _ = G
    have Go : Heap.at G o = nsB ((M.set (j) y).set (j - 1) x) := by rw [← hG]; exact at_set_self _ _ (by rw [TMap.set_n]; exact gn)
    have Gf : Foot (fun i => i = o) h G := by rw [← hG]; exact Foot.set (k := o) (Foot.set (k := o) gf (.inl rfl) _) (.inl rfl) _
    clear hG
    conv => whnf
    refine ⟨((j + 1 : Nat) : Int), by rw [wrap_eq (by omega) (by omega)]; omega, ?_⟩
    conv => whnf
    exact ⟨b - (j + 1), by omega, j + 1, G, _, rfl, by omega, by omega, sm.trans (.swap hx hy), Go, Gf, rfl, ⟨rfl, rfl, rfl, rfl, rfl, rfl, trivial⟩, rfl, rfl, rfl, rfl⟩
  conv => whnf
  refine draw_by (hm := false) (by kernel_rfl) (by kernel_rfl) ?_
  conv => whnf
  refine ⟨((j - 1 : Nat) : Int), by rw [wrap_eq (by omega) (by omega)]; omega, ?_⟩
  conv => whnf
  refine ⟨((j - 1 : Nat) : Int), by rw [wrap_eq (by omega) (by omega)]; omega, ?_⟩
  conv => whnf
  refine ⟨⟨rfl, by omega, by omega⟩, ?_⟩
  conv => whnf
  refine ⟨_, go, ?_⟩
  conv => whnf
  refine look_read (ns_read hy) ?_
  conv => whnf
  refine ⟨⟨rfl, by omega, by omega⟩, ?_⟩
  conv => whnf
  refine ⟨_, go, ?_⟩
  conv => whnf
  refine look_read (ns_read hx) ?_
  conv => whnf
  have gn : o < g.n := by have := gf.n; omega
  refine ⟨⟨rfl, by omega, by omega⟩, ?_⟩
  conv => whnf
  refine ⟨_, go, ?_⟩
  conv => whnf
  refine look_put (ns_put (L := M) (i := j) (by omega) y) ?_
  conv => whnf
  refine ⟨gn, ?_⟩
  conv => whnf
  refine forceL_intro ?_
  conv => whnf
  refine ⟨⟨rfl, by omega, by omega⟩, ?_⟩
  conv => whnf
  refine ⟨_, at_set_self _ _ (i := o) gn, ?_⟩
  conv => whnf
  refine look_put (ns_put (L := M.set (j) y) (i := j - 1) (by rw [List.length_set]; omega) x) ?_
  conv => whnf
  refine ⟨by rw [TMap.set_n]; exact gn, ?_⟩
  conv => whnf
  refine forceL_intro ?_
  conv => whnf
  refine ⟨?_, ?_⟩
  · exact pairs_via (fun _ => 0) [⟨0, _, _, [], []⟩, ⟨1, _, _, [], []⟩, ⟨2, _, _, [], []⟩, ⟨3, _, _, [], []⟩, ⟨4, _, _, [], []⟩, ⟨5, _, _, [], []⟩, ⟨6, _, _, [], []⟩, ⟨7, _, _, [], []⟩, ⟨8, _, _, [], []⟩, ⟨9, _, _, [0], []⟩, ⟨10, _, _, [], []⟩, ⟨11, _, _, [], []⟩, ⟨12, _, _, [], []⟩, ⟨13, _, _, [0], []⟩, ⟨14, _, _, [], []⟩, ⟨15, _, _, [0], [0]⟩, ⟨16, _, _, [], []⟩, ⟨17, _, _, [0], [0]⟩] rfl (by kernel_rfl)
  generalize hG : TMap.set AB.dead (TMap.set AB.dead _ _ _) _ _ = G
  have Go : Heap.at G o = nsB ((M.set (j) y).set (j - 1) x) := by rw [← hG]; exact at_set_self _ _ (by rw [TMap.set_n]; exact gn)
  have Gf : Foot (fun i => i = o) h G := by rw [← hG]; exact Foot.set (k := o) (Foot.set (k := o) gf (.inl rfl) _) (.inl rfl) _
  clear hG
  conv => whnf
  refine ⟨((j - 1 : Nat) : Int), by rw [wrap_eq (by omega) (by omega)]; omega, ?_⟩
  conv => whnf
  exact ⟨j - 1, by omega, j - 1, G, _, rfl, by omega, sm.trans (.swap hx hy), Go, Gf, rfl, ⟨rfl, rfl, rfl, rfl, rfl, rfl, trivial⟩, rfl, rfl, rfl, rfl⟩
end Go.Ag
/- Layer 7: sorting, parts. -/
namespace Go.Ag
open Go.Proofs
set_option maxRecDepth 100000

set_option maxHeartbeats 8000000 in
theorem equal_call {L : List Nat} (hn : L.length ≤ 100000) {o a b p : Nat} (hab : a < b) (hb : b ≤ L.length) (hp : a ≤ p ∧ p < b) {h : Heap} (ho : Heap.at h o = nsB L) (hlt : o < h.n) :
    ∃ e h', CallOk Tryz.prog 145 [nsA o L.length, .c (I a), .c (I b), .c (I p)] h .no e h' .no ∧ ((∃ i : Nat, e = .ret (.c (I i)) ∧ a + 1 ≤ i ∧ i ≤ b) ∧ SortTo o L h h') := by
  obtain ⟨x, hx⟩ := get_some (l := L) (k := a) (by omega)
  obtain ⟨y, hy⟩ := get_some (l := L) (k := p) (by omega)
  have gf := Foot.refl (fun i => i = o) h
  refine call_by (hm := false) Tryz.func145 rfl ?_
  conv => whnf
  refine draw_by (hm := false) (by kernel_rfl) (by kernel_rfl) ?_
  conv => whnf
  refine ⟨⟨rfl, by omega, by omega⟩, ?_⟩
  conv => whnf
  refine ⟨_, ho, ?_⟩
  conv => whnf
  refine look_read (ns_read hy) ?_
  conv => whnf
  refine ⟨⟨rfl, by omega, by omega⟩, ?_⟩
  conv => whnf
  refine ⟨_, ho, ?_⟩
  conv => whnf
  refine look_read (ns_read hx) ?_
  conv => whnf
  have gn : o < h.n := hlt
  refine ⟨⟨rfl, by omega, by omega⟩, ?_⟩
  conv => whnf
  refine ⟨_, ho, ?_⟩
  conv => whnf
  refine look_put (ns_put (L := L) (i := a) (by omega) y) ?_
  conv => whnf
  refine ⟨gn, ?_⟩
  conv => whnf
  refine forceL_intro ?_
  conv => whnf
  refine ⟨⟨rfl, by omega, by omega⟩, ?_⟩
  conv => whnf
  refine ⟨_, at_set_self _ _ (i := o) gn, ?_⟩
  conv => whnf
  refine look_put (ns_put (L := L.set (a) y) (i := p) (by rw [List.length_set]; omega) x) ?_
  conv => whnf
  refine ⟨by rw [TMap.set_n]; exact gn, ?_⟩
  conv => whnf
  refine forceL_intro ?_
  conv => whnf
  refine ⟨?_, ?_⟩
  · exact pairs_via (fun _ => 0) [⟨0, _, _, [], []⟩, ⟨1, _, _, [], []⟩, ⟨2, _, _, [], []⟩, ⟨3, _, _, [], []⟩, ⟨4, _, _, [], []⟩, ⟨5, _, _, [], []⟩, ⟨6, _, _, [], []⟩, ⟨7, _, _, [0], []⟩, ⟨8, _, _, [], []⟩, ⟨9, _, _, [], []⟩, ⟨10, _, _, [], []⟩, ⟨11, _, _, [0], []⟩, ⟨12, _, _, [], []⟩, ⟨13, _, _, [0], [0]⟩, ⟨14, _, _, [], []⟩, ⟨15, _, _, [0], [0]⟩] rfl (by kernel_rfl)
  generalize hG : TMap.set AB.dead (TMap.set AB.dead _ _ _) _ _ = G
  have Go : Heap.at G o = nsB ((L.set (a) y).set (p) x) := by rw [← hG]; exact at_set_self _ _ (by rw [TMap.set_n]; exact gn)
  have Gf : Foot (fun i => i = o) h G := by rw [← hG]; exact Foot.set (k := o) (Foot.set (k := o) gf (.inl rfl) _) (.inl rfl) _
  clear hG
  have sm := Same.swap hx hy
  revert sm Go Gf
  generalize (L.set a y).set p x = M
  generalize G = g
  clear hx hy gf
  intro go gf sm
  conv => whnf
  refine ⟨((a + 1 : Nat) : Int), by rw [wrap_eq (by omega) (by omega)]; omega, ?_⟩
  conv => whnf
  refine ⟨((b - 1 : Nat) : Int), by rw [wrap_eq (by omega) (by omega)]; omega, ?_⟩
  conv => whnf
  refine loop_by (I := fun z st => ∃ (i j : Nat) (g : Heap) (M : List Nat), z = j + 1 - i ∧ a + 1 ≤ i ∧ i ≤ b ∧ a ≤ j ∧ j < b ∧ Same L M ∧ Heap.at g o = nsB M ∧ Foot (fun i => i = o) h g ∧
      Has st 84 [(0, nsA o L.length), (1, .c (I a)), (9, .c (I i)), (10, .c (I j))] [] none g) ?_ (k := b - 1 + 1 - (a + 1))
    ⟨a + 1, b - 1, _, M, rfl, Nat.le_refl _, by omega, by omega, by omega, sm, go, gf, rfl, ⟨rfl, rfl, rfl, rfl, trivial⟩, rfl, rfl, rfl, rfl⟩
  clear go gf sm
  clear M g
  rintro m st ⟨i, j, g, M, hm, hi1, hi2, hja, hjb, sm, go, gf, hs1⟩
  replace hm : j + 1 - i ≤ m := by omega
  refine hs1.run (hm := false) ?_
  conv => whnf
  refine loop_by (I := fun z st => ∃ (i : Nat) (g : Heap), z = j + 1 - i ∧ a + 1 ≤ i ∧ i ≤ b ∧ j + 1 - i ≤ m ∧ Heap.at g o = nsB M ∧ Foot (fun i => i = o) h g ∧
      Has st 84 [(0, nsA o L.length), (1, .c (I a)), (9, .c (I i)), (10, .c (I j))] [] none g) ?_ (k := j + 1 - i)
    ⟨i, _, rfl, hi1, hi2, hm, go, gf, rfl, ⟨rfl, rfl, rfl, rfl, trivial⟩, rfl, rfl, rfl, rfl⟩
  clear hi1 hi2 hs1 gf go hm
  rintro z st ⟨i, g, rfl, hi1, hi2, hm, go, gf, hs1⟩
  refine hs1.run (hm := false) ?_
  have hml := sm.len
  conv => whnf
  refine draw_by (hm := false) (by kernel_rfl) (by kernel_rfl) ?_
  conv => whnf
  cases hc : decide ((i : Int) ≤ (j : Int))
  case false =>
    conv => whnf
    refine ⟨by kernel_rfl, ?_⟩
    conv => whnf
    conv => whnf
    refine loop_by (I := fun z st => ∃ (j : Nat) (g : Heap), z = j + 1 - i ∧ a ≤ j ∧ j < b ∧ j + 1 - i ≤ m ∧ Heap.at g o = nsB M ∧ Foot (fun i => i = o) h g ∧
        Has st 84 [(0, nsA o L.length), (1, .c (I a)), (9, .c (I i)), (10, .c (I j))] [] none g) ?_ (k := j + 1 - i)
      ⟨j, _, rfl, hja, hjb, hm, go, gf, rfl, ⟨rfl, rfl, rfl, rfl, trivial⟩, rfl, rfl, rfl, rfl⟩
    clear hja hjb hs1 gf go hm
    rintro z st ⟨j, g, rfl, hja, hjb, hm, go, gf, hs1⟩
    refine hs1.run (hm := false) ?_
    have hml := sm.len
    conv => whnf
    refine draw_by (hm := false) (by kernel_rfl) (by kernel_rfl) ?_
    conv => whnf
    cases hc : decide ((i : Int) ≤ (j : Int))
    case false =>
      conv => whnf
      refine ⟨by kernel_rfl, ?_⟩
      conv => whnf
      conv => whnf
      cases h7 : decide ((i : Int) > (j : Int))
      case true =>
        conv => whnf
        exact ⟨⟨i, rfl, by omega, by omega⟩, M, sm, go, gf⟩
      have h7' : i ≤ j := by have := of_decide_eq_false h7; omega
      obtain ⟨x, hx⟩ := get_some (l := M) (k := i) (by omega)
      obtain ⟨y, hy⟩ := get_some (l := M) (k := j) (by omega)
      conv => whnf
      refine draw_by (hm := false) (by kernel_rfl) (by kernel_rfl) ?_
      conv => whnf
      refine ⟨⟨rfl, by omega, by omega⟩, ?_⟩
      conv => whnf
      refine ⟨_, go, ?_⟩
      conv => whnf
      refine look_read (ns_read hy) ?_
      conv => whnf
      refine ⟨⟨rfl, by omega, by omega⟩, ?_⟩
      conv => whnf
      refine ⟨_, go, ?_⟩
      conv => whnf
      refine look_read (ns_read hx) ?_
      conv => whnf
      have gn : o < g.n := by have := gf.n; omega
      refine ⟨⟨rfl, by omega, by omega⟩, ?_⟩
      conv => whnf
      refine ⟨_, go, ?_⟩
      conv => whnf
      refine look_put (ns_put (L := M) (i := i) (by omega) y) ?_
      conv => whnf
      refine ⟨gn, ?_⟩
      conv => whnf
      refine forceL_intro ?_
      conv => whnf
      refine ⟨⟨rfl, by omega, by omega⟩, ?_⟩
      conv => whnf
      refine ⟨_, at_set_self _ _ (i := o) gn, ?_⟩
      conv => whnf
      refine look_put (ns_put (L := M.set (i) y) (i := j) (by rw [List.length_set]; omega) x) ?_
      conv => whnf
      refine ⟨by rw [TMap.set_n]; exact gn, ?_⟩
      conv => whnf
      refine forceL_intro ?_
      conv => whnf
      refine ⟨?_, ?_⟩
      · exact pairs_via (fun _ => 0) [⟨0, _, _, [], []⟩, ⟨1, _, _, [], []⟩, ⟨2, _, _, [], []⟩, ⟨3, _, _, [], []⟩, ⟨4, _, _, [], []⟩, ⟨5, _, _, [], []⟩, ⟨6, _, _, [], []⟩, ⟨7, _, _, [0], []⟩, ⟨8, _, _, [], []⟩, ⟨9, _, _, [], []⟩, ⟨10, _, _, [], []⟩, ⟨11, _, _, [0], []⟩, ⟨12, _, _, [], []⟩, ⟨13, _, _, [0], [0]⟩, ⟨14, _, _, [], []⟩, ⟨15, _, _, [0], [0]⟩] rfl (by kernel_rfl)
      generalize hG : TMap.set AB.dead (TMap.set AB.dead _ _ _) _ _ = G
      have Go : Heap.at G o = nsB ((M.set (i) y).set (j) x) := by rw [← hG]; exact at_set_self _ _ (by rw [TMap.set_n]; exact gn)
      have Gf : Foot (fun i => i = o) h G := by rw [← hG]; exact Foot.set (k := o) (Foot.set (k := o) gf (.inl rfl) _) (.inl rfl) _
      clear hG
      conv => whnf
      refine ⟨((i + 1 : Nat) : Int), by rw [wrap_eq (by omega) (by omega)]; omega, ?_⟩
      conv => whnf
      refine ⟨((j - 1 : Nat) : Int), by rw [wrap_eq (by omega) (by omega)]; omega, ?_⟩
      conv => whnf
      exact ⟨j - 1 + 1 - (i + 1), by omega, i + 1, j - 1, G, _, rfl, by omega, by omega, by omega, by omega, sm.trans (.swap hx hy), Go, Gf, rfl, ⟨rfl, rfl, rfl, rfl, trivial⟩, rfl, rfl, rfl, rfl⟩
    have hij : i ≤ j := by simp at hc; omega
    obtain ⟨x, hx⟩ := get_some (l := M) (k := j) (by omega)
    obtain ⟨u, ha⟩ := get_some (l := M) (k := a) (by omega)
    conv => whnf
    refine ⟨⟨rfl, by omega, by omega⟩, ?_⟩
    conv => whnf
    refine ⟨_, go, ?_⟩
    conv => whnf
    refine look_read (ns_read ha) ?_
    conv => whnf
    refine ⟨⟨rfl, by omega, by omega⟩, ?_⟩
    conv => whnf
    refine ⟨_, go, ?_⟩
    conv => whnf
    refine look_read (ns_read hx) ?_
    conv => whnf
    refine .pure _ _ rfl (less_ret _ _) ?_
    conv => whnf
    refine ⟨by kernel_rfl, ?_⟩
    conv => whnf
    cases hl : decide ((u : Int) < (x : Int))
    case false =>
      clear hx ha hc hl
      conv => whnf
      cases h7 : decide ((i : Int) > (j : Int))
      case true =>
        conv => whnf
        exact ⟨⟨i, rfl, by omega, by omega⟩, M, sm, go, gf⟩
      have h7' : i ≤ j := by have := of_decide_eq_false h7; omega
      obtain ⟨x, hx⟩ := get_some (l := M) (k := i) (by omega)
      obtain ⟨y, hy⟩ := get_some (l := M) (k := j) (by omega)
      conv => whnf
      refine draw_by (hm := false) (by kernel_rfl) (by kernel_rfl) ?_
      conv => whnf
      refine ⟨⟨rfl, by omega, by omega⟩, ?_⟩
      conv => whnf
      refine ⟨_, go, ?_⟩
      conv => whnf
      refine look_read (ns_read hy) ?_
      conv => whnf
      refine ⟨⟨rfl, by omega, by omega⟩, ?_⟩
      conv => whnf
      refine ⟨_, go, ?_⟩
      conv => whnf
      refine look_read (ns_read hx) ?_
      conv => whnf
      have gn : o < g.n := by have := gf.n; omega
      refine ⟨⟨rfl, by omega, by omega⟩, ?_⟩
      conv => whnf
      refine ⟨_, go, ?_⟩
      conv => whnf
      refine look_put (ns_put (L := M) (i := i) (by omega) y) ?_
      conv => whnf
      refine ⟨gn, ?_⟩
      conv => whnf
      refine forceL_intro ?_
      conv => whnf
      refine ⟨⟨rfl, by omega, by omega⟩, ?_⟩
      conv => whnf
      refine ⟨_, at_set_self _ _ (i := o) gn, ?_⟩
      conv => whnf
      refine look_put (ns_put (L := M.set (i) y) (i := j) (by rw [List.length_set]; omega) x) ?_
      conv => whnf
      refine ⟨by rw [TMap.set_n]; exact gn, ?_⟩
      conv => whnf
      refine forceL_intro ?_
      conv => whnf
      refine ⟨?_, ?_⟩
      · exact pairs_via (fun _ => 0) [⟨0, _, _, [], []⟩, ⟨1, _, _, [], []⟩, ⟨2, _, _, [], []⟩, ⟨3, _, _, [], []⟩, ⟨4, _, _, [], []⟩, ⟨5, _, _, [], []⟩, ⟨6, _, _, [], []⟩, ⟨7, _, _, [0], []⟩, ⟨8, _, _, [], []⟩, ⟨9, _, _, [], []⟩, ⟨10, _, _, [], []⟩, ⟨11, _, _, [0], []⟩, ⟨12, _, _, [], []⟩, ⟨13, _, _, [0], [0]⟩, ⟨14, _, _, [], []⟩, ⟨15, _, _, [0], [0]⟩] rfl (by kernel_rfl)
      generalize hG : TMap.set AB.dead (TMap.set AB.dead _ _ _) _ _ = G
      have Go : Heap.at G o = nsB ((M.set (i) y).set (j) x) := by rw [← hG]; exact at_set_self _ _ (by rw [TMap.set_n]; exact gn)
      have Gf : Foot (fun i => i = o) h G := by rw [← hG]; exact Foot.set (k := o) (Foot.set (k := o) gf (.inl rfl) _) (.inl rfl) _
      clear hG
      conv => whnf
      refine ⟨((i + 1 : Nat) : Int), by rw [wrap_eq (by omega) (by omega)]; omega, ?_⟩
      conv => whnf
      refine ⟨((j - 1 : Nat) : Int), by rw [wrap_eq (by omega) (by omega)]; omega, ?_⟩
      conv => whnf
      exact ⟨j - 1 + 1 - (i + 1), by omega, i + 1, j - 1, G, _, rfl, by omega, by omega, by omega, by omega, sm.trans (.swap hx hy), Go, Gf, rfl, ⟨rfl, rfl, rfl, rfl, trivial⟩, rfl, rfl, rfl, rfl⟩
    conv => whnf
    refine ⟨((j - 1 : Nat) : Int), by rw [wrap_eq (by omega) (by omega)]; omega, ?_⟩
    conv => whnf
    exact ⟨j - 1 + 1 - i, by omega, j - 1, _, rfl, by omega, by omega, by omega, go, gf, rfl, ⟨rfl, rfl, rfl, rfl, trivial⟩, rfl, rfl, rfl, rfl⟩
  have hij : i ≤ j := by simp at hc; omega
  obtain ⟨x, hx⟩ := get_some (l := M) (k := i) (by omega)
  obtain ⟨u, ha⟩ := get_some (l := M) (k := a) (by omega)
  conv => whnf
  refine ⟨⟨rfl, by omega, by omega⟩, ?_⟩
  conv => whnf
  refine ⟨_, go, ?_⟩
  conv => whnf
  refine look_read (ns_read ha) ?_
  conv => whnf
  refine ⟨⟨rfl, by omega, by omega⟩, ?_⟩
  conv => whnf
  refine ⟨_, go, ?_⟩
  conv => whnf
  refine look_read (ns_read hx) ?_
  conv => whnf
  refine .pure _ _ rfl (less_ret _ _) ?_
  conv => whnf
  refine ⟨by kernel_rfl, ?_⟩
  conv => whnf
  cases hl : decide ((u : Int) < (x : Int))
  case true =>
    clear hx ha hc hl
    conv => whnf
    refine loop_by (I := fun z st => ∃ (j : Nat) (g : Heap), z = j + 1 - i ∧ a ≤ j ∧ j < b ∧ j + 1 - i ≤ m ∧ Heap.at g o = nsB M ∧ Foot (fun i => i = o) h g ∧
        Has st 84 [(0, nsA o L.length), (1, .c (I a)), (9, .c (I i)), (10, .c (I j))] [] none g) ?_ (k := j + 1 - i)
      ⟨j, _, rfl, hja, hjb, hm, go, gf, rfl, ⟨rfl, rfl, rfl, rfl, trivial⟩, rfl, rfl, rfl, rfl⟩
    clear hja hjb hs1 gf go hm
    rintro z st ⟨j, g, rfl, hja, hjb, hm, go, gf, hs1⟩
    refine hs1.run (hm := false) ?_
    have hml := sm.len
    conv => whnf
    refine draw_by (hm := false) (by kernel_rfl) (by kernel_rfl) ?_
    conv => whnf
    cases hc : decide ((i : Int) ≤ (j : Int))
    case false =>
      conv => whnf
      refine ⟨by kernel_rfl, ?_⟩
      conv => whnf
      conv => whnf
      cases h7 : decide ((i : Int) > (j : Int))
      case true =>
        conv => whnf
        exact ⟨⟨i, rfl, by omega, by omega⟩, M, sm, go, gf⟩
      have h7' : i ≤ j := by have := of_decide_eq_false h7; omega
      obtain ⟨x, hx⟩ := get_some (l := M) (k := i) (by omega)
      obtain ⟨y, hy⟩ := get_some (l := M) (k := j) (by omega)
      conv => whnf
      refine draw_by (hm := false) (by kernel_rfl) (by kernel_rfl) ?_
      conv => whnf
      refine ⟨⟨rfl, by omega, by omega⟩, ?_⟩
      conv => whnf
      refine ⟨_, go, ?_⟩
      conv => whnf
      refine look_read (ns_read hy) ?_
      conv => whnf
      refine ⟨⟨rfl, by omega, by omega⟩, ?_⟩
      conv => whnf
      refine ⟨_, go, ?_⟩
      conv => whnf
      refine look_read (ns_read hx) ?_
      conv => whnf
      have gn : o < g.n := by have := gf.n; omega
      refine ⟨⟨rfl, by omega, by omega⟩, ?_⟩
      conv => whnf
      refine ⟨_, go, ?_⟩
      conv => whnf
      refine look_put (ns_put (L := M) (i := i) (by omega) y) ?_
      conv => whnf
      refine ⟨gn, ?_⟩
      conv => whnf
      refine forceL_intro ?_
      conv => whnf
      refine ⟨⟨rfl, by omega, by omega⟩, ?_⟩
      conv => whnf
      refine ⟨_, at_set_self _ _ (i := o) gn, ?_⟩
      conv => whnf
      refine look_put (ns_put (L := M.set (i) y) (i := j) (by rw [List.length_set]; omega) x) ?_
      conv => whnf
      refine ⟨by rw [TMap.set_n]; exact gn, ?_⟩
      conv => whnf
      refine forceL_intro ?_
      conv => whnf
      refine ⟨?_, ?_⟩
      · exact pairs_via (fun _ => 0) [⟨0, _, _, [], []⟩, ⟨1, _, _, [], []⟩, ⟨2, _, _, [], []⟩, ⟨3, _, _, [], []⟩, ⟨4, _, _, [], []⟩, ⟨5, _, _, [], []⟩, ⟨6, _, _, [], []⟩, ⟨7, _, _, [0], []⟩, ⟨8, _, _, [], []⟩, ⟨9, _, _, [], []⟩, ⟨10, _, _, [], []⟩, ⟨11, _, _, [0], []⟩, ⟨12, _, _, [], []⟩, ⟨13, _, _, [0], [0]⟩, ⟨14, _, _, [], []⟩, ⟨15, _, _, [0], [0]⟩] rfl (by kernel_rfl)
      generalize hG : TMap.set AB.dead (TMap.set AB.dead _ _ _) _ _ = G
      have Go : Heap.at G o = nsB ((M.set (i) y).set (j) x) := by rw [← hG]; exact at_set_self _ _ (by rw [TMap.set_n]; exact gn)
      have Gf : Foot (fun i => i = o) h G := by rw [← hG]; exact Foot.set (k := o) (Foot.set (k := o) gf (.inl rfl) _) (.inl rfl) _
      clear hG
      conv => whnf
      refine ⟨((i + 1 : Nat) : Int), by rw [wrap_eq (by omega) (by omega)]; omega, ?_⟩
      conv => whnf
      refine ⟨((j - 1 : Nat) : Int), by rw [wrap_eq (by omega) (by omega)]; omega, ?_⟩
      conv => whnf
      exact ⟨j - 1 + 1 - (i + 1), by omega, i + 1, j - 1, G, _, rfl, by omega, by omega, by omega, by omega, sm.trans (.swap hx hy), Go, Gf, rfl, ⟨rfl, rfl, rfl, rfl, trivial⟩, rfl, rfl, rfl, rfl⟩
    have hij : i ≤ j := by simp at hc; omega
    obtain ⟨x, hx⟩ := get_some (l := M) (k := j) (by omega)
    obtain ⟨u, ha⟩ := get_some (l := M) (k := a) (by omega)
    conv => whnf
    refine ⟨⟨rfl, by omega, by omega⟩, ?_⟩
    conv => whnf
    refine ⟨_, go, ?_⟩
    conv => whnf
    refine look_read (ns_read ha) ?_
    conv => whnf
    refine ⟨⟨rfl, by omega, by omega⟩, ?_⟩
    conv => whnf
    refine ⟨_, go, ?_⟩
    conv => whnf
    refine look_read (ns_read hx) ?_
    conv => whnf
    refine .pure _ _ rfl (less_ret _ _) ?_
    conv => whnf
    refine ⟨by kernel_rfl, ?_⟩
    conv => whnf
    cases hl : decide ((u : Int) < (x : Int))
    case false =>
      clear hx ha hc hl
      conv => whnf
      cases h7 : decide ((i : Int) > (j : Int))
      case true =>
        conv => whnf
        exact ⟨⟨i, rfl, by omega, by omega⟩, M, sm, go, gf⟩
      have h7' : i ≤ j := by have := of_decide_eq_false h7; omega
      obtain ⟨x, hx⟩ := get_some (l := M) (k := i) (by omega)
      obtain ⟨y, hy⟩ := get_some (l := M) (k := j) (by omega)
      conv => whnf
      refine draw_by (hm := false) (by kernel_rfl) (by kernel_rfl) ?_
      conv => whnf
      refine ⟨⟨rfl, by omega, by omega⟩, ?_⟩
      conv => whnf
      refine ⟨_, go, ?_⟩
      conv => whnf
      refine look_read (ns_read hy) ?_
      conv => whnf
      refine ⟨⟨rfl, by omega, by omega⟩, ?_⟩
      conv => whnf
      refine ⟨_, go, ?_⟩
      conv => whnf
      refine look_read (ns_read hx) ?_
      conv => whnf
      have gn : o < g.n := by have := gf.n; omega
      refine ⟨⟨rfl, by omega, by omega⟩, ?_⟩
      conv => whnf
      refine ⟨_, go, ?_⟩
      conv => whnf
      refine look_put (ns_put (L := M) (i := i) (by omega) y) ?_
      conv => whnf
      refine ⟨gn, ?_⟩
      conv => whnf
      refine forceL_intro ?_
      conv => whnf
      refine ⟨⟨rfl, by omega, by omega⟩, ?_⟩
      conv => whnf
      refine ⟨_, at_set_self _ _ (i := o) gn, ?_⟩
      conv => whnf
      refine look_put (ns_put (L := M.set (i) y) (i := j) (by rw [List.length_set]; omega) x) ?_
      conv => whnf
      refine ⟨by rw [TMap.set_n]; exact gn, ?_⟩
      conv => whnf
      refine forceL_intro ?_
      conv => whnf
      refine ⟨?_, ?_⟩
      · exact pairs_via (fun _ => 0) [⟨0, _, _, [], []⟩, ⟨1, _, _, [], []⟩, ⟨2, _, _, [], []⟩, ⟨3, _, _, [], []⟩, ⟨4, _, _, [], []⟩, ⟨5, _, _, [], []⟩, ⟨6, _, _, [], []⟩, ⟨7, _, _, [0], []⟩, ⟨8, _, _, [], []⟩, ⟨9, _, _, [], []⟩, ⟨10, _, _, [], []⟩, ⟨11, _, _, [0], []⟩, ⟨12, _, _, [], []⟩, ⟨13, _, _, [0], [0]⟩, ⟨14, _, _, [], []⟩, ⟨15, _, _, [0], [0]⟩] rfl (by kernel_rfl)
      generalize hG : TMap.set AB.dead (TMap.set AB.dead _ _ _) _ _ = G
      have Go : Heap.at G o = nsB ((M.set (i) y).set (j) x) := by rw [← hG]; exact at_set_self _ _ (by rw [TMap.set_n]; exact gn)
      have Gf : Foot (fun i => i = o) h G := by rw [← hG]; exact Foot.set (k := o) (Foot.set (k := o) gf (.inl rfl) _) (.inl rfl) _
      clear hG
      conv => whnf
      refine ⟨((i + 1 : Nat) : Int), by rw [wrap_eq (by omega) (by omega)]; omega, ?_⟩
      conv => whnf
      refine ⟨((j - 1 : Nat) : Int), by rw [wrap_eq (by omega) (by omega)]; omega, ?_⟩
      conv => whnf
      exact ⟨j - 1 + 1 - (i + 1), by omega, i + 1, j - 1, G, _, rfl, by omega, by omega, by omega, by omega, sm.trans (.swap hx hy), Go, Gf, rfl, ⟨rfl, rfl, rfl, rfl, trivial⟩, rfl, rfl, rfl, rfl⟩
    conv => whnf
    refine ⟨((j - 1 : Nat) : Int), by rw [wrap_eq (by omega) (by omega)]; omega, ?_⟩
    conv => whnf
    exact ⟨j - 1 + 1 - i, by omega, j - 1, _, rfl, by omega, by omega, by omega, go, gf, rfl, ⟨rfl, rfl, rfl, rfl, trivial⟩, rfl, rfl, rfl, rfl⟩
  conv => whnf
  refine ⟨((i + 1 : Nat) : Int), by rw [wrap_eq (by omega) (by omega)]; omega, ?_⟩
  conv => whnf
  exact ⟨j + 1 - (i + 1), by omega, i + 1, _, rfl, by omega, by omega, by omega, go, gf, rfl, ⟨rfl, rfl, rfl, rfl, trivial⟩, rfl, rfl, rfl, rfl⟩
end Go.Ag
/- Layer 7: sorting, two parts. -/
namespace Go.Ag
open Go.Proofs
set_option maxRecDepth 100000

theorem then_block {P : Program} {id : Nat} {c : Code} {s : ASt} {K : AExit → ASt → Prop} (h : Then P c s fun e s1 => match e with | .exit i => (match Nat.beq i id with | true => K .normal s1 | false => K (.exit i) s1) | e => K e s1) : Then P (.block id c) s K := ⟨T_block h.1⟩
set_option maxHeartbeats 8000000 in
theorem parts_call {L : List Nat} (hn : L.length ≤ 100000) {o a b p : Nat} (hab : a < b) (hb : b ≤ L.length) (hp : a ≤ p ∧ p < b) {h : Heap} (ho : Heap.at h o = nsB L) (hlt : o < h.n) :
    ∃ e h', CallOk Tryz.prog 146 [nsA o L.length, .c (I a), .c (I b), .c (I p)] h .no e h' .no ∧ ((∃ (i : Nat) (f : Bool), e = .ret (.c (.tuple [I i, B f])) ∧ a ≤ i ∧ i < b) ∧ SortTo o L h h') := by
  obtain ⟨x, hx⟩ := get_some (l := L) (k := a) (by omega)
  obtain ⟨y, hy⟩ := get_some (l := L) (k := p) (by omega)
  have gf := Foot.refl (fun i => i = o) h
  refine call_then (hm := false) Tryz.func146 rfl ?_
  conv => whnf
  refine then_seq (hm := false) ?_
  conv => whnf
  refine then_seq (hm := false) ?_
  conv => whnf
  refine draw_by (hm := false) (by kernel_rfl) (by kernel_rfl) ?_
  conv => whnf
  refine ⟨⟨rfl, by omega, by omega⟩, ?_⟩
  conv => whnf
  refine ⟨_, ho, ?_⟩
  conv => whnf
  refine look_read (ns_read hy) ?_
  conv => whnf
  refine ⟨⟨rfl, by omega, by omega⟩, ?_⟩
  conv => whnf
  refine ⟨_, ho, ?_⟩
  conv => whnf
  refine look_read (ns_read hx) ?_
  conv => whnf
  have gn : o < h.n := hlt
  refine ⟨⟨rfl, by omega, by omega⟩, ?_⟩
  conv => whnf
  refine ⟨_, ho, ?_⟩
  conv => whnf
  refine look_put (ns_put (L := L) (i := a) (by omega) y) ?_
  conv => whnf
  refine ⟨gn, ?_⟩
  conv => whnf
  refine forceL_intro ?_
  conv => whnf
  refine ⟨⟨rfl, by omega, by omega⟩, ?_⟩
  conv => whnf
  refine ⟨_, at_set_self _ _ (i := o) gn, ?_⟩
  conv => whnf
  refine look_put (ns_put (L := L.set (a) y) (i := p) (by rw [List.length_set]; omega) x) ?_
  conv => whnf
  refine ⟨by rw [TMap.set_n]; exact gn, ?_⟩
  conv => whnf
  refine forceL_intro ?_
  conv => whnf
  refine ⟨?_, ?_⟩
  · exact pairs_via (fun _ => 0) [⟨0, _, _, [], []⟩, ⟨1, _, _, [], []⟩, ⟨2, _, _, [], []⟩, ⟨3, _, _, [], []⟩, ⟨4, _, _, [], []⟩, ⟨5, _, _, [], []⟩, ⟨6, _, _, [], []⟩, ⟨7, _, _, [0], []⟩, ⟨8, _, _, [], []⟩, ⟨9, _, _, [], []⟩, ⟨10, _, _, [], []⟩, ⟨11, _, _, [0], []⟩, ⟨12, _, _, [], []⟩, ⟨13, _, _, [0], [0]⟩, ⟨14, _, _, [], []⟩, ⟨15, _, _, [0], [0]⟩] rfl (by kernel_rfl)
  generalize hG : TMap.set AB.dead (TMap.set AB.dead _ _ _) _ _ = G
  have Go : Heap.at G o = nsB ((L.set (a) y).set (p) x) := by rw [← hG]; exact at_set_self _ _ (by rw [TMap.set_n]; exact gn)
  have Gf : Foot (fun i => i = o) h G := by rw [← hG]; exact Foot.set (k := o) (Foot.set (k := o) gf (.inl rfl) _) (.inl rfl) _
  clear hG
  have sm := Same.swap hx hy
  revert sm Go Gf
  generalize (L.set a y).set p x = M
  generalize G = g
  clear hx hy gf
  intro go gf sm
  conv => whnf
  refine then_seq (hm := false) ?_
  conv => whnf
  refine ⟨((a + 1 : Nat) : Int), by rw [wrap_eq (by omega) (by omega)]; omega, ?_⟩
  conv => whnf
  refine ⟨((b - 1 : Nat) : Int), by rw [wrap_eq (by omega) (by omega)]; omega, ?_⟩
  conv => whnf
  obtain ⟨i, hi⟩ : ∃ i, i = a + 1 := ⟨_, rfl⟩
  obtain ⟨j, hj⟩ : ∃ j, j = b - 1 := ⟨_, rfl⟩
  obtain ⟨m, hm⟩ : ∃ m, j + 1 - i ≤ m := ⟨_, Nat.le_refl _⟩
  have hi1 : a + 1 ≤ i := by omega
  have hi2 : i ≤ b := by omega
  have hja : a ≤ j := by omega
  have hjb : j < b := by omega
  have hs1 := trivial
  rw [← hi, ← hj]
  clear hi hj
  refine then_via (hm := false) (fun st => ∃ (i : Nat) (g : Heap), a + 1 ≤ i ∧ i ≤ b ∧ j + 1 - i ≤ m ∧ Heap.at g o = nsB M ∧ Foot (fun i => i = o) h g ∧ Has st 168 [(0, nsA o L.length), (1, .c (I a)), (10, .c (I i)), (11, .c (I j))] [] none g) ?_ ?_
  · skip
    conv => whnf
    refine loop_by (I := fun z st => ∃ (i : Nat) (g : Heap), z = j + 1 - i ∧ a + 1 ≤ i ∧ i ≤ b ∧ j + 1 - i ≤ m ∧ Heap.at g o = nsB M ∧ Foot (fun i => i = o) h g ∧
        Has st 168 [(0, nsA o L.length), (1, .c (I a)), (10, .c (I i)), (11, .c (I j))] [] none g) ?_ (k := j + 1 - i)
      ⟨i, _, rfl, hi1, hi2, hm, go, gf, rfl, ⟨rfl, rfl, rfl, rfl, trivial⟩, rfl, rfl, rfl, rfl⟩
    clear hi1 hi2 hs1 gf go hm
    rintro z st ⟨i, g, rfl, hi1, hi2, hm, go, gf, hs1⟩
    refine hs1.run (hm := false) ?_
    have hml := sm.len
    conv => whnf
    refine draw_by (hm := false) (by kernel_rfl) (by kernel_rfl) ?_
    conv => whnf
    cases hc : decide ((i : Int) ≤ (j : Int))
    case false =>
      conv => whnf
      refine ⟨by kernel_rfl, ?_⟩
      conv => whnf
      conv => whnf
      exact ⟨i, _, hi1, hi2, hm, go, gf, rfl, ⟨rfl, rfl, rfl, rfl, trivial⟩, rfl, rfl, rfl, rfl⟩
    have hij : i ≤ j := by simp at hc; omega
    obtain ⟨x, hx⟩ := get_some (l := M) (k := i) (by omega)
    obtain ⟨u, ha⟩ := get_some (l := M) (k := a) (by omega)
    conv => whnf
    refine ⟨⟨rfl, by omega, by omega⟩, ?_⟩
    conv => whnf
    refine ⟨_, go, ?_⟩
    conv => whnf
    refine look_read (ns_read hx) ?_
    conv => whnf
    refine ⟨⟨rfl, by omega, by omega⟩, ?_⟩
    conv => whnf
    refine ⟨_, go, ?_⟩
    conv => whnf
    refine look_read (ns_read ha) ?_
    conv => whnf
    refine .pure _ _ rfl (less_ret _ _) ?_
    conv => whnf
    refine ⟨by kernel_rfl, ?_⟩
    conv => whnf
    cases hl : decide ((x : Int) < (u : Int))
    case false =>
      clear hx ha hc hl
      conv => whnf
      exact ⟨i, _, hi1, hi2, hm, go, gf, rfl, ⟨rfl, rfl, rfl, rfl, trivial⟩, rfl, rfl, rfl, rfl⟩
    conv => whnf
    refine ⟨((i + 1 : Nat) : Int), by rw [wrap_eq (by omega) (by omega)]; omega, ?_⟩
    conv => whnf
    exact ⟨j + 1 - (i + 1), by omega, i + 1, _, rfl, by omega, by omega, by omega, go, gf, rfl, ⟨rfl, rfl, rfl, rfl, trivial⟩, rfl, rfl, rfl, rfl⟩
  clear hi1 hi2 hs1 gf go hm
  clear i g
  rintro st ⟨i, g, hi1, hi2, hm, go, gf, hs1⟩
  refine hs1.then ?_
  refine then_via (hm := false) (fun st => ∃ (j : Nat) (g : Heap), a ≤ j ∧ j < b ∧ j + 1 - i ≤ m ∧ Heap.at g o = nsB M ∧ Foot (fun i => i = o) h g ∧ Has st 168 [(0, nsA o L.length), (1, .c (I a)), (10, .c (I i)), (11, .c (I j))] [] none g) ?_ ?_
  · skip
    conv => whnf
    refine loop_by (I := fun z st => ∃ (j : Nat) (g : Heap), z = j + 1 - i ∧ a ≤ j ∧ j < b ∧ j + 1 - i ≤ m ∧ Heap.at g o = nsB M ∧ Foot (fun i => i = o) h g ∧
        Has st 168 [(0, nsA o L.length), (1, .c (I a)), (10, .c (I i)), (11, .c (I j))] [] none g) ?_ (k := j + 1 - i)
      ⟨j, _, rfl, hja, hjb, hm, go, gf, rfl, ⟨rfl, rfl, rfl, rfl, trivial⟩, rfl, rfl, rfl, rfl⟩
    clear hja hjb hs1 gf go hm
    rintro z st ⟨j, g, rfl, hja, hjb, hm, go, gf, hs1⟩
    refine hs1.run (hm := false) ?_
    have hml := sm.len
    conv => whnf
    refine draw_by (hm := false) (by kernel_rfl) (by kernel_rfl) ?_
    conv => whnf
    cases hc : decide ((i : Int) ≤ (j : Int))
    case false =>
      conv => whnf
      refine ⟨by kernel_rfl, ?_⟩
      conv => whnf
      conv => whnf
      exact ⟨j, _, hja, hjb, hm, go, gf, rfl, ⟨rfl, rfl, rfl, rfl, trivial⟩, rfl, rfl, rfl, rfl⟩
    have hij : i ≤ j := by simp at hc; omega
    obtain ⟨x, hx⟩ := get_some (l := M) (k := j) (by omega)
    obtain ⟨u, ha⟩ := get_some (l := M) (k := a) (by omega)
    conv => whnf
    refine ⟨⟨rfl, by omega, by omega⟩, ?_⟩
    conv => whnf
    refine ⟨_, go, ?_⟩
    conv => whnf
    refine look_read (ns_read hx) ?_
    conv => whnf
    refine ⟨⟨rfl, by omega, by omega⟩, ?_⟩
    conv => whnf
    refine ⟨_, go, ?_⟩
    conv => whnf
    refine look_read (ns_read ha) ?_
    conv => whnf
    refine .pure _ _ rfl (less_ret _ _) ?_
    conv => whnf
    refine ⟨by kernel_rfl, ?_⟩
    conv => whnf
    cases hl : decide ((x : Int) < (u : Int))
    case true =>
      clear hx ha hc hl
      conv => whnf
      exact ⟨j, _, hja, hjb, hm, go, gf, rfl, ⟨rfl, rfl, rfl, rfl, trivial⟩, rfl, rfl, rfl, rfl⟩
    conv => whnf
    refine ⟨((j - 1 : Nat) : Int), by rw [wrap_eq (by omega) (by omega)]; omega, ?_⟩
    conv => whnf
    exact ⟨j - 1 + 1 - i, by omega, j - 1, _, rfl, by omega, by omega, by omega, go, gf, rfl, ⟨rfl, rfl, rfl, rfl, trivial⟩, rfl, rfl, rfl, rfl⟩
  clear hja hjb hs1 gf go hm
  clear j g
  rintro st ⟨j, g, hja, hjb, hm, go, gf, hs1⟩
  refine hs1.then ?_
  have hml := sm.len
  refine then_via (hm := false) (fun st => i ≤ j ∧ Has st 168 [(0, nsA o L.length), (1, .c (I a)), (10, .c (I i)), (11, .c (I j))] [] none g) ?_ ?_
  · skip
    conv => whnf
    cases h7 : decide ((i : Int) > (j : Int))
    case false =>
      conv => whnf
      exact ⟨by have := of_decide_eq_false h7; omega, rfl, ⟨rfl, rfl, rfl, rfl, trivial⟩, rfl, rfl, rfl, rfl⟩
    obtain ⟨x, hx⟩ := get_some (l := M) (k := j) (by omega)
    obtain ⟨y, hy⟩ := get_some (l := M) (k := a) (by omega)
    conv => whnf
    refine draw_by (hm := false) (by kernel_rfl) (by kernel_rfl) ?_
    conv => whnf
    refine ⟨⟨rfl, by omega, by omega⟩, ?_⟩
    conv => whnf
    refine ⟨_, go, ?_⟩
    conv => whnf
    refine look_read (ns_read hy) ?_
    conv => whnf
    refine ⟨⟨rfl, by omega, by omega⟩, ?_⟩
    conv => whnf
    refine ⟨_, go, ?_⟩
    conv => whnf
    refine look_read (ns_read hx) ?_
    conv => whnf
    have gn : o < g.n := by have := gf.n; omega
    refine ⟨⟨rfl, by omega, by omega⟩, ?_⟩
    conv => whnf
    refine ⟨_, go, ?_⟩
    conv => whnf
    refine look_put (ns_put (L := M) (i := j) (by omega) y) ?_
    conv => whnf
    refine ⟨gn, ?_⟩
    conv => whnf
    refine forceL_intro ?_
    conv => whnf
    refine ⟨⟨rfl, by omega, by omega⟩, ?_⟩
    conv => whnf
    refine ⟨_, at_set_self _ _ (i := o) gn, ?_⟩
    conv => whnf
    refine look_put (ns_put (L := M.set (j) y) (i := a) (by rw [List.length_set]; omega) x) ?_
    conv => whnf
    refine ⟨by rw [TMap.set_n]; exact gn, ?_⟩
    conv => whnf
    refine forceL_intro ?_
    conv => whnf
    refine ⟨?_, ?_⟩
    · exact pairs_via (fun _ => 0) [⟨0, _, _, [], []⟩, ⟨1, _, _, [], []⟩, ⟨2, _, _, [], []⟩, ⟨3, _, _, [], []⟩, ⟨4, _, _, [], []⟩, ⟨5, _, _, [], []⟩, ⟨6, _, _, [], []⟩, ⟨7, _, _, [0], []⟩, ⟨8, _, _, [], []⟩, ⟨9, _, _, [], []⟩, ⟨10, _, _, [], []⟩, ⟨11, _, _, [0], []⟩, ⟨12, _, _, [], []⟩, ⟨13, _, _, [0], [0]⟩, ⟨14, _, _, [], []⟩, ⟨15, _, _, [0], [0]⟩] rfl (by kernel_rfl)
    generalize hG : TMap.set AB.dead (TMap.set AB.dead _ _ _) _ _ = G
    have Go : Heap.at G o = nsB ((M.set (j) y).set (a) x) := by rw [← hG]; exact at_set_self _ _ (by rw [TMap.set_n]; exact gn)
    have Gf : Foot (fun i => i = o) h G := by rw [← hG]; exact Foot.set (k := o) (Foot.set (k := o) gf (.inl rfl) _) (.inl rfl) _
    clear hG
    conv => whnf
    exact ⟨⟨j, _, rfl, by omega, by omega⟩, _, sm.trans (.swap hx hy), Go, Gf⟩
  clear hs1
  rintro st ⟨h7', hs1⟩
  refine hs1.then ?_
  obtain ⟨x, hx⟩ := get_some (l := M) (k := i) (by omega)
  obtain ⟨y, hy⟩ := get_some (l := M) (k := j) (by omega)
  refine then_seq (hm := false) ?_
  conv => whnf
  refine draw_by (hm := false) (by kernel_rfl) (by kernel_rfl) ?_
  conv => whnf
  refine ⟨⟨rfl, by omega, by omega⟩, ?_⟩
  conv => whnf
  refine ⟨_, go, ?_⟩
  conv => whnf
  refine look_read (ns_read hy) ?_
  conv => whnf
  refine ⟨⟨rfl, by omega, by omega⟩, ?_⟩
  conv => whnf
  refine ⟨_, go, ?_⟩
  conv => whnf
  refine look_read (ns_read hx) ?_
  conv => whnf
  have gn : o < g.n := by have := gf.n; omega
  refine ⟨⟨rfl, by omega, by omega⟩, ?_⟩
  conv => whnf
  refine ⟨_, go, ?_⟩
  conv => whnf
  refine look_put (ns_put (L := M) (i := i) (by omega) y) ?_
  conv => whnf
  refine ⟨gn, ?_⟩
  conv => whnf
  refine forceL_intro ?_
  conv => whnf
  refine ⟨⟨rfl, by omega, by omega⟩, ?_⟩
  conv => whnf
  refine ⟨_, at_set_self _ _ (i := o) gn, ?_⟩
  conv => whnf
  refine look_put (ns_put (L := M.set (i) y) (i := j) (by rw [List.length_set]; omega) x) ?_
  conv => whnf
  refine ⟨by rw [TMap.set_n]; exact gn, ?_⟩
  conv => whnf
  refine forceL_intro ?_
  conv => whnf
  refine ⟨?_, ?_⟩
  · exact pairs_via (fun _ => 0) [⟨0, _, _, [], []⟩, ⟨1, _, _, [], []⟩, ⟨2, _, _, [], []⟩, ⟨3, _, _, [], []⟩, ⟨4, _, _, [], []⟩, ⟨5, _, _, [], []⟩, ⟨6, _, _, [], []⟩, ⟨7, _, _, [0], []⟩, ⟨8, _, _, [], []⟩, ⟨9, _, _, [], []⟩, ⟨10, _, _, [], []⟩, ⟨11, _, _, [0], []⟩, ⟨12, _, _, [], []⟩, ⟨13, _, _, [0], [0]⟩, ⟨14, _, _, [], []⟩, ⟨15, _, _, [0], [0]⟩] rfl (by kernel_rfl)
  generalize hG : TMap.set AB.dead (TMap.set AB.dead _ _ _) _ _ = G
  have Go : Heap.at G o = nsB ((M.set (i) y).set (j) x) := by rw [← hG]; exact at_set_self _ _ (by rw [TMap.set_n]; exact gn)
  have Gf : Foot (fun i => i = o) h G := by rw [← hG]; exact Foot.set (k := o) (Foot.set (k := o) gf (.inl rfl) _) (.inl rfl) _
  clear hG
  conv => whnf
  refine then_seq (hm := false) ?_
  conv => whnf
  refine ⟨((i + 1 : Nat) : Int), by rw [wrap_eq (by omega) (by omega)]; omega, ?_⟩
  conv => whnf
  refine then_seq (hm := false) ?_
  conv => whnf
  refine ⟨((j - 1 : Nat) : Int), by rw [wrap_eq (by omega) (by omega)]; omega, ?_⟩
  conv => whnf
  refine then_via (hm := false) (fun st => ∃ (j : Nat) (g : Heap) (M : List Nat), a ≤ j ∧ j < b ∧ Same L M ∧ Heap.at g o = nsB M ∧ Foot (fun i => i = o) h g ∧ Has st 168 [(0, nsA o L.length), (1, .c (I a)), (11, .c (I j))] [] none g) ?_ ?_
  · skip
    conv => whnf
    refine loop_by (I := fun z st => ∃ (i j : Nat) (g : Heap) (M : List Nat), z = j + 1 - i ∧ a + 1 ≤ i ∧ i ≤ b ∧ a ≤ j ∧ j < b ∧ Same L M ∧ Heap.at g o = nsB M ∧ Foot (fun i => i = o) h g ∧
        Has st 168 [(0, nsA o L.length), (1, .c (I a)), (10, .c (I i)), (11, .c (I j))] [] none g) ?_ (k := j - 1 + 1 - (i + 1))
      ⟨i + 1, j - 1, _, _, rfl, by omega, by omega, by omega, by omega, sm.trans (.swap hx hy), Go, Gf, rfl, ⟨rfl, rfl, rfl, rfl, trivial⟩, rfl, rfl, rfl, rfl⟩
    clear Go Gf G hx hy h7' hm hi1 hi2 hja hjb hml sm go gf hs1 gn
    clear M g i j m
    rintro m st ⟨i, j, g, M, hm, hi1, hi2, hja, hjb, sm, go, gf, hs1⟩
    replace hm : j + 1 - i ≤ m := by omega
    refine (hs1.then (then_block ?_)).1
    refine then_via (hm := false) (fun st => ∃ (i : Nat) (g : Heap), a + 1 ≤ i ∧ i ≤ b ∧ j + 1 - i ≤ m ∧ Heap.at g o = nsB M ∧ Foot (fun i => i = o) h g ∧ Has st 168 [(0, nsA o L.length), (1, .c (I a)), (10, .c (I i)), (11, .c (I j))] [] none g) ?_ ?_
    · skip
      conv => whnf
      refine loop_by (I := fun z st => ∃ (i : Nat) (g : Heap), z = j + 1 - i ∧ a + 1 ≤ i ∧ i ≤ b ∧ j + 1 - i ≤ m ∧ Heap.at g o = nsB M ∧ Foot (fun i => i = o) h g ∧
          Has st 168 [(0, nsA o L.length), (1, .c (I a)), (10, .c (I i)), (11, .c (I j))] [] none g) ?_ (k := j + 1 - i)
        ⟨i, _, rfl, hi1, hi2, hm, go, gf, rfl, ⟨rfl, rfl, rfl, rfl, trivial⟩, rfl, rfl, rfl, rfl⟩
      clear hi1 hi2 hs1 gf go hm
      rintro z st ⟨i, g, rfl, hi1, hi2, hm, go, gf, hs1⟩
      refine hs1.run (hm := false) ?_
      have hml := sm.len
      conv => whnf
      refine draw_by (hm := false) (by kernel_rfl) (by kernel_rfl) ?_
      conv => whnf
      cases hc : decide ((i : Int) ≤ (j : Int))
      case false =>
        conv => whnf
        refine ⟨by kernel_rfl, ?_⟩
        conv => whnf
        conv => whnf
        exact ⟨i, _, hi1, hi2, hm, go, gf, rfl, ⟨rfl, rfl, rfl, rfl, trivial⟩, rfl, rfl, rfl, rfl⟩
      have hij : i ≤ j := by simp at hc; omega
      obtain ⟨x, hx⟩ := get_some (l := M) (k := i) (by omega)
      obtain ⟨u, ha⟩ := get_some (l := M) (k := a) (by omega)
      conv => whnf
      refine ⟨⟨rfl, by omega, by omega⟩, ?_⟩
      conv => whnf
      refine ⟨_, go, ?_⟩
      conv => whnf
      refine look_read (ns_read hx) ?_
      conv => whnf
      refine ⟨⟨rfl, by omega, by omega⟩, ?_⟩
      conv => whnf
      refine ⟨_, go, ?_⟩
      conv => whnf
      refine look_read (ns_read ha) ?_
      conv => whnf
      refine .pure _ _ rfl (less_ret _ _) ?_
      conv => whnf
      refine ⟨by kernel_rfl, ?_⟩
      conv => whnf
      cases hl : decide ((x : Int) < (u : Int))
      case false =>
        clear hx ha hc hl
        conv => whnf
        exact ⟨i, _, hi1, hi2, hm, go, gf, rfl, ⟨rfl, rfl, rfl, rfl, trivial⟩, rfl, rfl, rfl, rfl⟩
      conv => whnf
      refine ⟨((i + 1 : Nat) : Int), by rw [wrap_eq (by omega) (by omega)]; omega, ?_⟩
      conv => whnf
      exact ⟨j + 1 - (i + 1), by omega, i + 1, _, rfl, by omega, by omega, by omega, go, gf, rfl, ⟨rfl, rfl, rfl, rfl, trivial⟩, rfl, rfl, rfl, rfl⟩
    clear hi1 hi2 hs1 gf go hm
    clear i g
    rintro st ⟨i, g, hi1, hi2, hm, go, gf, hs1⟩
    refine hs1.then ?_
    refine then_via (hm := false) (fun st => ∃ (j : Nat) (g : Heap), a ≤ j ∧ j < b ∧ j + 1 - i ≤ m ∧ Heap.at g o = nsB M ∧ Foot (fun i => i = o) h g ∧ Has st 168 [(0, nsA o L.length), (1, .c (I a)), (10, .c (I i)), (11, .c (I j))] [] none g) ?_ ?_
    · skip
      conv => whnf
      refine loop_by (I := fun z st => ∃ (j : Nat) (g : Heap), z = j + 1 - i ∧ a ≤ j ∧ j < b ∧ j + 1 - i ≤ m ∧ Heap.at g o = nsB M ∧ Foot (fun i => i = o) h g ∧
          Has st 168 [(0, nsA o L.length), (1, .c (I a)), (10, .c (I i)), (11, .c (I j))] [] none g) ?_ (k := j + 1 - i)
        ⟨j, _, rfl, hja, hjb, hm, go, gf, rfl, ⟨rfl, rfl, rfl, rfl, trivial⟩, rfl, rfl, rfl, rfl⟩
      clear hja hjb hs1 gf go hm
      rintro z st ⟨j, g, rfl, hja, hjb, hm, go, gf, hs1⟩
      refine hs1.run (hm := false) ?_
      have hml := sm.len
      conv => whnf
      refine draw_by (hm := false) (by kernel_rfl) (by kernel_rfl) ?_
      conv => whnf
      cases hc : decide ((i : Int) ≤ (j : Int))
      case false =>
        conv => whnf
        refine ⟨by kernel_rfl, ?_⟩
        conv => whnf
        conv => whnf
        exact ⟨j, _, hja, hjb, hm, go, gf, rfl, ⟨rfl, rfl, rfl, rfl, trivial⟩, rfl, rfl, rfl, rfl⟩
      have hij : i ≤ j := by simp at hc; omega
      obtain ⟨x, hx⟩ := get_some (l := M) (k := j) (by omega)
      obtain ⟨u, ha⟩ := get_some (l := M) (k := a) (by omega)
      conv => whnf
      refine ⟨⟨rfl, by omega, by omega⟩, ?_⟩
      conv => whnf
      refine ⟨_, go, ?_⟩
      conv => whnf
      refine look_read (ns_read hx) ?_
      conv => whnf
      refine ⟨⟨rfl, by omega, by omega⟩, ?_⟩
      conv => whnf
      refine ⟨_, go, ?_⟩
      conv => whnf
      refine look_read (ns_read ha) ?_
      conv => whnf
      refine .pure _ _ rfl (less_ret _ _) ?_
      conv => whnf
      refine ⟨by kernel_rfl, ?_⟩
      conv => whnf
      cases hl : decide ((x : Int) < (u : Int))
      case true =>
        clear hx ha hc hl
        conv => whnf
        exact ⟨j, _, hja, hjb, hm, go, gf, rfl, ⟨rfl, rfl, rfl, rfl, trivial⟩, rfl, rfl, rfl, rfl⟩
      conv => whnf
      refine ⟨((j - 1 : Nat) : Int), by rw [wrap_eq (by omega) (by omega)]; omega, ?_⟩
      conv => whnf
      exact ⟨j - 1 + 1 - i, by omega, j - 1, _, rfl, by omega, by omega, by omega, go, gf, rfl, ⟨rfl, rfl, rfl, rfl, trivial⟩, rfl, rfl, rfl, rfl⟩
    clear hja hjb hs1 gf go hm
    clear j g
    rintro st ⟨j, g, hja, hjb, hm, go, gf, hs1⟩
    refine hs1.then ?_
    have hml := sm.len
    refine then_via (hm := false) (fun st => i ≤ j ∧ Has st 168 [(0, nsA o L.length), (1, .c (I a)), (10, .c (I i)), (11, .c (I j))] [] none g) ?_ ?_
    · skip
      conv => whnf
      cases h7 : decide ((i : Int) > (j : Int))
      case false =>
        conv => whnf
        exact ⟨by have := of_decide_eq_false h7; omega, rfl, ⟨rfl, rfl, rfl, rfl, trivial⟩, rfl, rfl, rfl, rfl⟩
      conv => whnf
      exact ⟨j, g, M, hja, hjb, sm, go, gf, rfl, ⟨rfl, rfl, rfl, trivial⟩, rfl, rfl, rfl, rfl⟩
    clear hs1
    rintro st ⟨h7', hs1⟩
    refine hs1.then ?_
    obtain ⟨x, hx⟩ := get_some (l := M) (k := i) (by omega)
    obtain ⟨y, hy⟩ := get_some (l := M) (k := j) (by omega)
    refine then_seq (hm := false) ?_
    conv => whnf
    refine draw_by (hm := false) (by kernel_rfl) (by kernel_rfl) ?_
    conv => whnf
    refine ⟨⟨rfl, by omega, by omega⟩, ?_⟩
    conv => whnf
    refine ⟨_, go, ?_⟩
    conv => whnf
    refine look_read (ns_read hy) ?_
    conv => whnf
    refine ⟨⟨rfl, by omega, by omega⟩, ?_⟩
    conv => whnf
    refine ⟨_, go, ?_⟩
    conv => whnf
    refine look_read (ns_read hx) ?_
    conv => whnf
    have gn : o < g.n := by have := gf.n; omega
    refine ⟨⟨rfl, by omega, by omega⟩, ?_⟩
    conv => whnf
    refine ⟨_, go, ?_⟩
    conv => whnf
    refine look_put (ns_put (L := M) (i := i) (by omega) y) ?_
    conv => whnf
    refine ⟨gn, ?_⟩
    conv => whnf
    refine forceL_intro ?_
    conv => whnf
    refine ⟨⟨rfl, by omega, by omega⟩, ?_⟩
    conv => whnf
    refine ⟨_, at_set_self _ _ (i := o) gn, ?_⟩
    conv => whnf
    refine look_put (ns_put (L := M.set (i) y) (i := j) (by rw [List.length_set]; omega) x) ?_
    conv => whnf
    refine ⟨by rw [TMap.set_n]; exact gn, ?_⟩
    conv => whnf
    refine forceL_intro ?_
    conv => whnf
    refine ⟨?_, ?_⟩
    · exact pairs_via (fun _ => 0) [⟨0, _, _, [], []⟩, ⟨1, _, _, [], []⟩, ⟨2, _, _, [], []⟩, ⟨3, _, _, [], []⟩, ⟨4, _, _, [], []⟩, ⟨5, _, _, [], []⟩, ⟨6, _, _, [], []⟩, ⟨7, _, _, [0], []⟩, ⟨8, _, _, [], []⟩, ⟨9, _, _, [], []⟩, ⟨10, _, _, [], []⟩, ⟨11, _, _, [0], []⟩, ⟨12, _, _, [], []⟩, ⟨13, _, _, [0], [0]⟩, ⟨14, _, _, [], []⟩, ⟨15, _, _, [0], [0]⟩] rfl (by kernel_rfl)
    generalize hG : TMap.set AB.dead (TMap.set AB.dead _ _ _) _ _ = G
    have Go : Heap.at G o = nsB ((M.set (i) y).set (j) x) := by rw [← hG]; exact at_set_self _ _ (by rw [TMap.set_n]; exact gn)
    have Gf : Foot (fun i => i = o) h G := by rw [← hG]; exact Foot.set (k := o) (Foot.set (k := o) gf (.inl rfl) _) (.inl rfl) _
    clear hG
    conv => whnf
    refine then_end (hm := false) ?_
    conv => whnf
    refine ⟨((i + 1 : Nat) : Int), by rw [wrap_eq (by omega) (by omega)]; omega, ?_⟩
    conv => whnf
    refine ⟨((j - 1 : Nat) : Int), by rw [wrap_eq (by omega) (by omega)]; omega, ?_⟩
    conv => whnf
    exact ⟨j - 1 + 1 - (i + 1), by omega, i + 1, j - 1, G, _, rfl, by omega, by omega, by omega, by omega, sm.trans (.swap hx hy), Go, Gf, rfl, ⟨rfl, rfl, rfl, rfl, trivial⟩, rfl, rfl, rfl, rfl⟩
  clear Go Gf G hx hy h7' hm hi1 hi2 hja hjb hml sm go gf hs1 gn
  clear M g i j m
  rintro st ⟨j, g, M, hja, hjb, sm, go, gf, hs1⟩
  have hml := sm.len
  refine hs1.then ?_
  refine then_seq (hm := false) ?_
  obtain ⟨x, hx⟩ := get_some (l := M) (k := j) (by omega)
  obtain ⟨y, hy⟩ := get_some (l := M) (k := a) (by omega)
  conv => whnf
  refine draw_by (hm := false) (by kernel_rfl) (by kernel_rfl) ?_
  conv => whnf
  refine ⟨⟨rfl, by omega, by omega⟩, ?_⟩
  conv => whnf
  refine ⟨_, go, ?_⟩
  conv => whnf
  refine look_read (ns_read hy) ?_
  conv => whnf
  refine ⟨⟨rfl, by omega, by omega⟩, ?_⟩
  conv => whnf
  refine ⟨_, go, ?_⟩
  conv => whnf
  refine look_read (ns_read hx) ?_
  conv => whnf
  have gn : o < g.n := by have := gf.n; omega
  refine ⟨⟨rfl, by omega, by omega⟩, ?_⟩
  conv => whnf
  refine ⟨_, go, ?_⟩
  conv => whnf
  refine look_put (ns_put (L := M) (i := j) (by omega) y) ?_
  conv => whnf
  refine ⟨gn, ?_⟩
  conv => whnf
  refine forceL_intro ?_
  conv => whnf
  refine ⟨⟨rfl, by omega, by omega⟩, ?_⟩
  conv => whnf
  refine ⟨_, at_set_self _ _ (i := o) gn, ?_⟩
  conv => whnf
  refine look_put (ns_put (L := M.set (j) y) (i := a) (by rw [List.length_set]; omega) x) ?_
  conv => whnf
  refine ⟨by rw [TMap.set_n]; exact gn, ?_⟩
  conv => whnf
  refine forceL_intro ?_
  conv => whnf
  refine ⟨?_, ?_⟩
  · exact pairs_via (fun _ => 0) [⟨0, _, _, [], []⟩, ⟨1, _, _, [], []⟩, ⟨2, _, _, [], []⟩, ⟨3, _, _, [], []⟩, ⟨4, _, _, [], []⟩, ⟨5, _, _, [], []⟩, ⟨6, _, _, [], []⟩, ⟨7, _, _, [0], []⟩, ⟨8, _, _, [], []⟩, ⟨9, _, _, [], []⟩, ⟨10, _, _, [], []⟩, ⟨11, _, _, [0], []⟩, ⟨12, _, _, [], []⟩, ⟨13, _, _, [0], [0]⟩, ⟨14, _, _, [], []⟩, ⟨15, _, _, [0], [0]⟩] rfl (by kernel_rfl)
  generalize hG : TMap.set AB.dead (TMap.set AB.dead _ _ _) _ _ = G
  have Go : Heap.at G o = nsB ((M.set (j) y).set (a) x) := by rw [← hG]; exact at_set_self _ _ (by rw [TMap.set_n]; exact gn)
  have Gf : Foot (fun i => i = o) h G := by rw [← hG]; exact Foot.set (k := o) (Foot.set (k := o) gf (.inl rfl) _) (.inl rfl) _
  clear hG
  conv => whnf
  refine then_end (hm := false) ?_
  conv => whnf
  exact ⟨⟨j, _, rfl, by omega, by omega⟩, _, sm.trans (.swap hx hy), Go, Gf⟩
end Go.Ag
