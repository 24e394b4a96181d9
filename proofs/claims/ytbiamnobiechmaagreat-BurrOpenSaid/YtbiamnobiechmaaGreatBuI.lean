/- How few bales tell of the top line; the law BurrOpen returns true for arguments that are not far too long. No conditions. -/
import Derived.Test.YtbiamnobiechmaaGreatBuH
/- Layer 7: how many different things are found. -/
namespace Go.Ag
open Go.Proofs
set_option maxRecDepth 100000

/-- What is found: of bales, and of the top line. -/
structure Fi where
  o : Nat
  t : Nat
deriving DecidableEq
def fiC (k : Fi) : CV := .agg [I k.o, I k.t]
def fiV (k : Fi) : Value := .agg #[.int .i64 (k.o : Nat), .int .i64 (k.t : Nat)]
theorem fiV_val (k : Fi) : (AV.c (fiC k)).toVal = some (fiV k) := rfl
theorem mt151 : mapType Tryz.prog 151 = some (153, 4) := by kernel_rfl
theorem u153 : pureRun Tryz.prog (underlying 153) = some (.struct #[⟨"opened", 3, 0, false, "", "shearworks/burr", 0⟩, ⟨"top", 3, 1, false, "", "shearworks/burr", 8⟩]) := by kernel_rfl
theorem st153 : Tryz.prog.stoodInHeld 153 = false := by kernel_rfl
theorem key_ok (k : Fi) (e : Bool) : pureRun Tryz.prog (Instr.checkKey e 10000 153 (fiV k)) = some () := by kernel_rfl
theorem nodup_le {α : Type} [DecidableEq α] : ∀ {l m : List α}, l.Nodup → (∀ x ∈ l, x ∈ m) → l.length ≤ m.length
  | [], m, _, _ => Nat.zero_le _
  | a :: l, m, hn, hs => by
    have h1 := List.nodup_cons.1 hn
    have ha : a ∈ m := hs a (by simp)
    have h2 := nodup_le (m := m.erase a) h1.2 (fun x hx => by
      have hne : x ≠ a := fun e => h1.1 (e ▸ hx)
      exact (List.mem_erase_of_ne hne).2 (hs x (by simp [hx])))
    rw [List.length_erase_of_mem ha] at h2
    have := List.length_pos_of_mem ha
    simp only [List.length_cons]
    omega
theorem eq_fi (k l : Fi) : pureRun Tryz.prog (Op.equal 153 (fiV k) (fiV l)) = some (decide (k = l)) := by
  show pureRun Tryz.prog (Op.equalIn (9998 + 1 + 1) 153 _ _) = _
  rw [Op.equalIn.eq_def]
  simp only [pureRun_bind, u153, Option.bind_some, pp0, pureRun_ite, st153, Bool.false_eq_true, if_false, fiV]
  simp [pureRun_bind, pureRun_ite, partT ag3, eq_intT u3, pureRun_pure]
  cases k with | mk a b => cases l with | mk a' b' =>
  by_cases h1 : a = a'
  · by_cases h2 : b = b'
    · simp [pureRun_bind, pureRun_ite, partT ag3, eq_intT u3, pureRun_pure, h1, h2]
    · have h2' : ¬ (b : Int) = b' := by omega
      simp [pureRun_bind, pureRun_ite, partT ag3, eq_intT u3, pureRun_pure, h1, h2, h2']
  · have h1' : ¬ (a : Int) = a' := by omega
    simp [pureRun_pure, h1, h1']
theorem find_key (k : Fi) : ∀ (ks : List Fi) (i : Nat), ∃ r, pureRun Tryz.prog (Instr.findAsking 153 (fiV k) (ks.map fun l => { key := fiV l, val := Go.undef, born := 0 }) i) = some r ∧
    match r with
    | none => k ∉ ks
    | some (j, _) => i ≤ j ∧ ks[j - i]? = some k
  | [], i => ⟨none, rfl, by simp⟩
  | l :: ks, i => by
    simp only [List.map_cons, Instr.findAsking, pureRun_bind, eq_fi, Option.bind_some, pureRun_ite]
    by_cases h : k = l
    · subst h
      exact ⟨some (i, Go.undef), by simp [pureRun_pure], Nat.le_refl _, by simp⟩
    · obtain ⟨r, h1, h2⟩ := find_key k ks (i + 1)
      refine ⟨r, by simp [h, h1], ?_⟩
      cases r with
      | none => simp only at h2 ⊢; simp [h, h2]
      | some p =>
        simp only at h2 ⊢
        refine ⟨by omega, ?_⟩
        rw [show p.1 - i = (p.1 - (i + 1)) + 1 by omega, List.getElem?_cons_succ]
        exact h2.2
theorem key_index (k : Fi) (ks : List Fi) (e : Bool) : ∃ r, keyIndex Tryz.prog 153 (ks.map fiV) e (fiV k) = some r ∧ match r with
    | none => k ∉ ks
    | some j => ks[j]? = some k := by
  obtain ⟨r, h1, h2⟩ := find_key k ks 0
  have hn : pureRun Tryz.prog (Instr.findKey 153 (fiV k) ((ks.map fiV).map fun l => { key := l, val := Go.undef, born := 0 })) = some r := by
    simp only [Instr.findKey, pureRun_bind, u153, Option.bind_some, List.map_map, Function.comp_def]
    cases ks with
    | nil => exact h1
    | cons l ks => exact h1
  refine ⟨r.map (·.1), ?_, ?_⟩
  · simp only [keyIndex, key_ok, hn]
  · cases r with
    | none => exact h2
    | some p => simpa using h2.2
/-- A map whose keys are these, each once. -/
def FMap (S : Fi → Prop) (b : AB) : Prop := ∃ (ks : List Fi) (vals : List AV) (borns : List Nat) (clock : Nat), b = .map (ks.map fiV) vals borns clock ∧ ks.Nodup ∧ ∀ k, k ∈ ks ↔ S k
theorem f_update {S : Fi → Prop} {rd : Nat → AB} {m : Nat} (h : FMap S (rd m)) (y : Fi) (v : AV) : ∃ b, amapUpdate Tryz.prog rd 151 (.map m) (.c (fiC y)) v = some { val := .undef, reads := [m], upds := [(m, b)] } ∧ FMap (fun k => S k ∨ k = y) b := by
  obtain ⟨ks, vals, borns, clock, hb, hnd, hv⟩ := h
  obtain ⟨r, h1, h2⟩ := key_index y ks false
  unfold amapUpdate
  simp only [mt151, fiV_val, hb, h1]
  cases r with
  | none =>
    have h2 : y ∉ ks := h2
    refine ⟨_, rfl, ks ++ [y], _, _, _, by rw [List.map_append]; rfl, ?_, ?_⟩
    · rw [List.nodup_append]
      exact ⟨hnd, by simp, fun a ha b hb => by rw [List.mem_singleton] at hb; rintro rfl; exact h2 (hb ▸ ha)⟩
    · intro k
      rw [List.mem_append, List.mem_singleton, hv]
  | some j =>
    have h2 : ks[j]? = some y := h2
    have hj : (ks.map fiV)[j]? = some (fiV y) := by simp only [List.getElem?_map]; rw [h2]; rfl
    have hs : Instr.sameBits 10000 (fiV y) (fiV y) = true := by
      unfold fiV
      rw [show (10000 : Nat) = 9999 + 1 from rfl]
      simp [Instr.sameBits]
    simp only [hj, hs, if_true]
    refine ⟨_, rfl, ks, vals.set j v, borns, clock, ?_, hnd, ?_⟩
    · congr 1
      apply List.ext_getElem?
      intro i
      rw [List.getElem?_set]
      by_cases hij : j = i
      · subst hij
        have hjl : j < (ks.map fiV).length := by
          rcases Nat.lt_or_ge j (ks.map fiV).length with h | h
          · exact h
          · rw [List.getElem?_eq_none h] at hj; cases hj
        rw [hj]; simp [hjl]; simpa using hjl
      · simp [hij]
    · intro k
      rw [hv]
      refine ⟨.inl, ?_⟩
      rintro (h | rfl)
      · exact h
      · exact (hv _).1 (List.mem_of_getElem? h2)
end Go.Ag
/- Layer 7: what can be found in sets. -/
namespace Go.Ag
open Go.Proofs
set_option maxRecDepth 100000

theorem seen_ret {o x : Nat} (ho : o < 64) (hx : x < 64) : Ret Tryz.prog 172 [.agg [I o], I x] (I (o &&& x : Nat)) := by
  refine ret_by (hm := true) Tryz.func172 rfl ?_
  conv => whnf
  refine ⟨_, and_nat (a := o) (b := x) (by omega) (by omega), ?_⟩
  conv => whnf
  exact .val
theorem find1_ret {o x : Nat} (ho : o < 64) (hx : x < 64) : Ret Tryz.prog 171 [.agg [I o], I x] (fiC ⟨o &&& x, 0⟩) := by
  refine ret_by (hm := true) Tryz.func171 rfl ?_
  conv => whnf
  refine .ret (seen_ret ho hx) rfl ?_
  conv => whnf
  exact .val
theorem find2_ret {o t x : Nat} (ho : o < 64) (ht : t < 64) (hx : x < 64) : Ret Tryz.prog 173 [.agg [I o, I t], I x] (fiC ⟨o &&& x, t &&& x⟩) := by
  refine ret_by (hm := false) Tryz.func173 rfl ?_
  conv => whnf
  refine draw_by (hm := false) (by kernel_rfl) (by kernel_rfl) ?_
  conv => whnf
  refine ⟨_, rfl, ?_⟩
  conv => whnf
  refine .pure _ _ rfl (seen_ret ho hx) ?_
  conv => whnf
  refine ⟨_, rfl, ?_⟩
  conv => whnf
  refine ⟨_, and_nat (a := t) (b := x) (by omega) (by omega), ?_⟩
  conv => whnf
  refine ⟨_, rfl, ?_⟩
  conv => whnf
  refine ⟨Nat.lt_succ_self 1, ?_⟩
  conv => whnf
  refine ⟨by kernel_rfl, ?_⟩
  conv => whnf
  refine ⟨_, rfl, ?_⟩
  conv => whnf
  exact .val
theorem nsv_get {cells : List CV} {L : List Nat} (h : SlOf 1 (L.map row1) cells 0 L.length) {k x : Nat} (hk : L[k]? = some x) : readVarC Tryz.prog 3 cells (0 + (k : Int).toNat * 1) = some (I x) := by
  rw [Int.toNat_natCast, rv3]
  exact sliceOf_get (h.row k (row1 x) (by simp [hk])) (j := 0) (by omega)
/-- How many different things are found. -/
def Found (f : Nat → Fi) (L : List Nat) (n : Nat) : Prop := ∃ ks : List Fi, ks.length = n ∧ ks.Nodup ∧ ∀ k, k ∈ ks ↔ ∃ x, x ∈ L ∧ f x = k
theorem Found.eq {f : Nat → Fi} {L : List Nat} {n m : Nat} (h : Found f L n) (k : Found f L m) : n = m := by
  obtain ⟨a, rfl, h1, h2⟩ := h
  obtain ⟨b, rfl, k1, k2⟩ := k
  have e1 := nodup_le h1 fun x hx => (k2 x).2 ((h2 x).1 hx)
  have e2 := nodup_le k1 fun x hx => (h2 x).2 ((k2 x).1 hx)
  omega
theorem found_ex (f : Nat → Fi) (L : List Nat) : ∃ n, Found f L n := by
  induction L with
  | nil => exact ⟨0, [], rfl, List.nodup_nil, fun k => by simp⟩
  | cons x L ih =>
    obtain ⟨n, ks, rfl, h1, h2⟩ := ih
    by_cases hx : f x ∈ ks
    · refine ⟨_, ks, rfl, h1, fun k => ?_⟩
      rw [h2]
      constructor
      · rintro ⟨y, hy, rfl⟩; exact ⟨y, by simp [hy], rfl⟩
      · rintro ⟨y, hy, rfl⟩
        rcases List.mem_cons.1 hy with rfl | hy
        · exact (h2 _).1 hx
        · exact ⟨y, hy, rfl⟩
    · refine ⟨_, f x :: ks, rfl, List.nodup_cons.2 ⟨hx, h1⟩, fun k => ?_⟩
      rw [List.mem_cons, h2]
      constructor
      · rintro (rfl | ⟨y, hy, rfl⟩)
        · exact ⟨x, by simp, rfl⟩
        · exact ⟨y, by simp [hy], rfl⟩
      · rintro ⟨y, hy, rfl⟩
        rcases List.mem_cons.1 hy with rfl | hy
        · exact .inl rfl
        · exact .inr ⟨y, hy, rfl⟩
/-- The least many: as many things are found if the one tells of the other. -/
theorem found_iff {f g : Nat → Fi} {L : List Nat} {n m : Nat} (hfg : ∀ x y, g x = g y → f x = f y) (hf : Found f L n) (hg : Found g L m) : n = m ↔ ∀ x ∈ L, ∀ y ∈ L, f x = f y → g x = g y := by
  obtain ⟨a, rfl, h1, h2⟩ := hf
  obtain ⟨b, rfl, k1, k2⟩ := hg
  -- a choice of a number for each thing found
  have pick : ∀ k : Fi, ∃ x : Nat, (∃ y ∈ L, g y = k) → x ∈ L ∧ g x = k := fun k => by
    by_cases h : ∃ y ∈ L, g y = k
    · obtain ⟨y, h1, h2⟩ := h; exact ⟨y, fun _ => ⟨h1, h2⟩⟩
    · exact ⟨0, fun h' => absurd h' h⟩
  let p : Fi → Nat := fun k => (pick k).choose
  have hp : ∀ k ∈ b, p k ∈ L ∧ g (p k) = k := fun k hk => (pick k).choose_spec (by obtain ⟨x, h3, h4⟩ := (k2 k).1 hk; exact ⟨x, h3, h4⟩)
  have cover : ∀ (c : List Fi), (∀ k ∈ c, k ∈ b) → (∀ x ∈ L, ∃ k ∈ c, f (p k) = f x) → a.length ≤ c.length := by
    intro c hc hx
    have := nodup_le (l := a) (m := c.map fun k => f (p k)) h1 fun k hk => by
      obtain ⟨x, h3, rfl⟩ := (h2 k).1 hk
      obtain ⟨q, h4, h5⟩ := hx x h3
      exact List.mem_map.2 ⟨q, h4, h5⟩
    rwa [List.length_map] at this
  have self : ∀ x ∈ L, g x ∈ b ∧ f (p (g x)) = f x := fun x hx => by
    have hb : g x ∈ b := (k2 _).2 ⟨x, hx, rfl⟩
    exact ⟨hb, hfg _ _ (hp _ hb).2⟩
  constructor
  · intro he x hx y hy hxy
    apply Classical.byContradiction
    intro hne
    obtain ⟨b1, e1⟩ := self x hx
    obtain ⟨b2, e2⟩ := self y hy
    have := cover (b.erase (g y)) (fun k hk => List.mem_of_mem_erase hk) fun z hz => by
      obtain ⟨b3, e3⟩ := self z hz
      by_cases hzy : g z = g y
      · exact ⟨g x, (List.mem_erase_of_ne hne).2 b1, by rw [e1, hxy, hfg _ _ hzy]⟩
      · exact ⟨g z, (List.mem_erase_of_ne hzy).2 b3, e3⟩
    rw [List.length_erase_of_mem b2] at this
    have := List.length_pos_of_mem b2
    omega
  · intro h
    have l1 := cover b (fun k hk => hk) fun x hx => ⟨g x, self x hx⟩
    have hinj : (b.map fun k => f (p k)).Nodup := by
      rw [List.Nodup, List.pairwise_map]
      refine k1.imp_of_mem fun {q r} hq hr hne he => hne ?_
      rw [← (hp q hq).2, ← (hp r hr).2]
      exact h _ (hp q hq).1 _ (hp r hr).1 he
    have l2 := nodup_le (m := a) hinj fun k hk => by
      obtain ⟨q, hq, rfl⟩ := List.mem_map.1 hk
      exact (h2 _).2 ⟨p q, (hp q hq).1, rfl⟩
    rw [List.length_map] at l2
    omega
def setA (o : Nat) : CV := .iface 115 (.agg [I o])
def setB (o t : Nat) : CV := .iface 142 (.agg [I o, I t])
end Go.Ag
/- Layer 7: how many different things are found. -/
namespace Go.Ag
open Go.Proofs
set_option maxRecDepth 100000

theorem len_map {o : Oper} {x : Operand} {σ : Operand → AV} {rd : Nat → AB} {n id : Nat} {ks : List Fi} {vals : List AV} {borns : List Nat} {clock : Nat} (ho : o.op = .call ⟨.builtin .len, #[x], #[151]⟩) (hx : σ x = .map id) (hb : rd id = .map (ks.map fiV) vals borns clock) : aop Tryz.prog o σ rd n = some (.simple { val := .int (ks.length : Nat), reads := [id] }) := by
  unfold aop
  rw [ho]
  have e : (#[x] : Array Operand).toList = [x] := rfl
  have e2 : (#[151] : Array TypeId)[0]? = some 151 := rfl
  have hu : Tryz.prog.underlying 151 = some (.map 153 4) := by kernel_rfl
  simp only [acall, e, e2, hx, alen, hu, hb, List.length_map]
set_option maxHeartbeats 4000000 in
theorem findA_ret {c : CV} {L : List Nat} (hc : NsV c L) (hlen : L.length ≤ 2048) (hx : ∀ x ∈ L, x < 64) {o : Nat} (ho : o < 64) {n : Nat} (hn : Found (fun x => ⟨o &&& x, 0⟩) L n) : Ret Tryz.prog 130 [c, setA o] (I n) := by
  obtain ⟨cells, rfl, hsl⟩ := hc.ex
  refine ret_by (hm := false) Tryz.func130 rfl ?_
  conv => whnf
  refine loop_by (I := fun z st => ∃ (q : Nat) (h : Heap), q ≤ L.length ∧ z = L.length - q ∧ FMap (fun k => ∃ x, x ∈ L.take q ∧ (fun x => (⟨o &&& x, 0⟩ : Fi)) x = k) (Heap.at h 0) ∧ 0 < h.n ∧
      Has st 22 [(1, .c (setA o)), (5, .map 0), (9, .c (.sl cells 0 L.length)), (10, .c (I L.length)), (11, .c (I q))] [] none h) ?_ (k := L.length)
    ⟨0, _, Nat.zero_le _, rfl, ⟨[], [], [], 0, rfl, List.nodup_nil, fun k => by simp⟩, Nat.zero_lt_succ _, rfl, ⟨rfl, rfl, rfl, rfl, rfl, trivial⟩, rfl, rfl, rfl, rfl⟩
  rintro z st ⟨q, h, hq, rfl, hm, hn0, hs1⟩
  refine hs1.run (hm := false) ?_
  conv => whnf
  cases hcq : decide ((q : Int) < (L.length : Int))
  case false =>
    have hqe : q = L.length := by simp at hcq; omega
    subst hqe
    rw [List.take_length] at hm
    obtain ⟨ks, vals, borns, clock, hb, hnd, hmem⟩ := hm
    have hkn : ks.length = n := Found.eq ⟨ks, rfl, hnd, hmem⟩ hn
    conv => whnf
    refine ⟨{ val := .int (ks.length : Nat), reads := [0] }, got_clear (len_map (o := _) (x := .tmp 20) rfl (by rfl) hb), ?_⟩
    conv => whnf
    rw [hkn]
    exact .val
  have hq : q < L.length := by simp at hcq; omega
  obtain ⟨x, hxq⟩ := get_some hq
  have hx6 := hx x (List.mem_of_getElem? hxq)
  conv => whnf
  refine ⟨⟨by omega, by omega⟩, ?_⟩
  conv => whnf
  refine ⟨_, nsv_get hsl hxq, ?_⟩
  conv => whnf
  refine .ret (find1_ret ho hx6) rfl ?_
  conv => whnf
  obtain ⟨b, hu, hb⟩ := f_update hm (⟨o &&& x, 0⟩) (.c (B true))
  refine ⟨_, hu, ?_⟩
  conv => whnf
  generalize hG : TMap.app AB.dead _ _ = G
  have hGe : G = h.set .dead 0 b := by rw [← hG]; rfl
  have Gn : 0 < G.n := by rw [hGe, TMap.set_n]; exact hn0
  have G0 : Heap.at G 0 = b := by rw [hGe]; exact at_set_self _ _ hn0
  clear hG hGe
  have hS : FMap (fun k => ∃ x, x ∈ L.take (q + 1) ∧ (fun x => (⟨o &&& x, 0⟩ : Fi)) x = k) (Heap.at G 0) := by
    rw [G0]
    obtain ⟨ks, vals, borns, clock, e1, e2, e3⟩ := hb
    refine ⟨ks, vals, borns, clock, e1, e2, fun k => (e3 k).trans ?_⟩
    rw [List.take_add_one, hxq]
    constructor
    · rintro (⟨y, h1, h2⟩ | rfl)
      · exact ⟨y, List.mem_append_left _ h1, h2⟩
      · exact ⟨x, List.mem_append_right _ (by simp), rfl⟩
    · rintro ⟨y, h1, h2⟩
      rcases List.mem_append.1 h1 with h1 | h1
      · exact .inl ⟨y, h1, h2⟩
      · have : y = x := by simpa using h1
        subst this
        exact .inr h2.symm
  refine ⟨((q + 1 : Nat) : Int), by rw [wrap_eq (by omega) (by omega)]; omega, ?_⟩
  conv => whnf
  exact ⟨L.length - (q + 1), by omega, q + 1, G, by omega, rfl, hS, Gn, rfl, ⟨rfl, rfl, rfl, rfl, rfl, trivial⟩, rfl, rfl, rfl, rfl⟩
set_option maxHeartbeats 4000000 in
theorem findB_ret {c : CV} {L : List Nat} (hc : NsV c L) (hlen : L.length ≤ 2048) (hx : ∀ x ∈ L, x < 64) {o t : Nat} (ho : o < 64) (ht : t < 64) {n : Nat} (hn : Found (fun x => ⟨o &&& x, t &&& x⟩) L n) : Ret Tryz.prog 130 [c, setB o t] (I n) := by
  obtain ⟨cells, rfl, hsl⟩ := hc.ex
  refine ret_by (hm := false) Tryz.func130 rfl ?_
  conv => whnf
  refine loop_by (I := fun z st => ∃ (q : Nat) (h : Heap), q ≤ L.length ∧ z = L.length - q ∧ FMap (fun k => ∃ x, x ∈ L.take q ∧ (fun x => (⟨o &&& x, t &&& x⟩ : Fi)) x = k) (Heap.at h 0) ∧ 0 < h.n ∧
      Has st 22 [(1, .c (setB o t)), (5, .map 0), (9, .c (.sl cells 0 L.length)), (10, .c (I L.length)), (11, .c (I q))] [] none h) ?_ (k := L.length)
    ⟨0, _, Nat.zero_le _, rfl, ⟨[], [], [], 0, rfl, List.nodup_nil, fun k => by simp⟩, Nat.zero_lt_succ _, rfl, ⟨rfl, rfl, rfl, rfl, rfl, trivial⟩, rfl, rfl, rfl, rfl⟩
  rintro z st ⟨q, h, hq, rfl, hm, hn0, hs1⟩
  refine hs1.run (hm := false) ?_
  conv => whnf
  cases hcq : decide ((q : Int) < (L.length : Int))
  case false =>
    have hqe : q = L.length := by simp at hcq; omega
    subst hqe
    rw [List.take_length] at hm
    obtain ⟨ks, vals, borns, clock, hb, hnd, hmem⟩ := hm
    have hkn : ks.length = n := Found.eq ⟨ks, rfl, hnd, hmem⟩ hn
    conv => whnf
    refine ⟨{ val := .int (ks.length : Nat), reads := [0] }, got_clear (len_map (o := _) (x := .tmp 20) rfl (by rfl) hb), ?_⟩
    conv => whnf
    rw [hkn]
    exact .val
  have hq : q < L.length := by simp at hcq; omega
  obtain ⟨x, hxq⟩ := get_some hq
  have hx6 := hx x (List.mem_of_getElem? hxq)
  conv => whnf
  refine ⟨⟨by omega, by omega⟩, ?_⟩
  conv => whnf
  refine ⟨_, nsv_get hsl hxq, ?_⟩
  conv => whnf
  refine .ret (find2_ret ho ht hx6) rfl ?_
  conv => whnf
  obtain ⟨b, hu, hb⟩ := f_update hm (⟨o &&& x, t &&& x⟩) (.c (B true))
  refine ⟨_, hu, ?_⟩
  conv => whnf
  generalize hG : TMap.app AB.dead _ _ = G
  have hGe : G = h.set .dead 0 b := by rw [← hG]; rfl
  have Gn : 0 < G.n := by rw [hGe, TMap.set_n]; exact hn0
  have G0 : Heap.at G 0 = b := by rw [hGe]; exact at_set_self _ _ hn0
  clear hG hGe
  have hS : FMap (fun k => ∃ x, x ∈ L.take (q + 1) ∧ (fun x => (⟨o &&& x, t &&& x⟩ : Fi)) x = k) (Heap.at G 0) := by
    rw [G0]
    obtain ⟨ks, vals, borns, clock, e1, e2, e3⟩ := hb
    refine ⟨ks, vals, borns, clock, e1, e2, fun k => (e3 k).trans ?_⟩
    rw [List.take_add_one, hxq]
    constructor
    · rintro (⟨y, h1, h2⟩ | rfl)
      · exact ⟨y, List.mem_append_left _ h1, h2⟩
      · exact ⟨x, List.mem_append_right _ (by simp), rfl⟩
    · rintro ⟨y, h1, h2⟩
      rcases List.mem_append.1 h1 with h1 | h1
      · exact .inl ⟨y, h1, h2⟩
      · have : y = x := by simpa using h1
        subst this
        exact .inr h2.symm
  refine ⟨((q + 1 : Nat) : Int), by rw [wrap_eq (by omega) (by omega)]; omega, ?_⟩
  conv => whnf
  exact ⟨L.length - (q + 1), by omega, q + 1, G, by omega, rfl, hS, Gn, rfl, ⟨rfl, rfl, rfl, rfl, rfl, trivial⟩, rfl, rfl, rfl, rfl⟩
end Go.Ag
/- Layer 7: how few bales tell of the top line. -/
namespace Go.Ag
open Go.Proofs
set_option maxRecDepth 100000

/-- Whether bales tell of the top line, by what can hold a burr. -/
def tellB (t : Nat) (L : List Nat) (o : Nat) : Bool := decide (∀ x ∈ L, ∀ y ∈ L, o &&& x = o &&& y → t &&& x = t &&& y)
theorem tell_ret {c : CV} {L : List Nat} (hc : NsV c L) (hlen : L.length ≤ 2048) (hx : ∀ x ∈ L, x < 64) {o t : Nat} (ho : o < 64) (ht : t < 64) : Ret Tryz.prog 105 [.agg [I o], c, I t] (B (tellB t L o)) := by
  obtain ⟨n, hn⟩ := found_ex (fun x => ⟨o &&& x, 0⟩) L
  obtain ⟨m, hm⟩ := found_ex (fun x => ⟨o &&& x, t &&& x⟩) L
  have ha := findA_ret hc hlen hx ho hn
  have hb := findB_ret hc hlen hx ho ht hm
  have hiff := found_iff (fun x y e => by have := congrArg Fi.o e; simpa using this) hn hm
  have hv : (((n : Nat) : Int) == ((m : Nat) : Int)) = tellB t L o := by
    unfold tellB
    rw [Bool.eq_iff_iff, beq_iff_eq, decide_eq_true_eq, show (((n : Nat) : Int) = ((m : Nat) : Int)) ↔ n = m by omega, hiff]
    constructor
    · intro h x hx y hy e
      have := h x hx y hy (by simp [e])
      exact congrArg Fi.t this
    · intro h x hx y hy e
      have e1 : o &&& x = o &&& y := congrArg Fi.o e
      simp [e1, h x hx y hy e1]
  obtain ⟨cells, rfl, hsl⟩ := hc.ex
  refine ret_by (hm := false) Tryz.func105 rfl ?_
  conv => whnf
  refine draw_by (hm := false) (by kernel_rfl) (by kernel_rfl) ?_
  conv => whnf
  refine ⟨_, rfl, ?_⟩
  conv => whnf
  refine .pure _ _ rfl (ha) ?_
  conv => whnf
  refine ⟨_, rfl, ?_⟩
  conv => whnf
  refine .pure _ _ rfl (hb) ?_
  conv => whnf
  refine ⟨by kernel_rfl, ?_⟩
  conv => whnf
  rw [hv]
  exact .val
theorem tell_clos {v : BV} {d : Bn} (hd : d.Good) {c : CV} {L : List Nat} (hc : NsV c L) (hlen : L.length ≤ 2048) (hx : ∀ x ∈ L, x < 64) {o : Nat} (ho : o < 64) {a b : Nat} {h : Heap} (ha : Heap.at h a = .blk [.c c]) (hb : Heap.at h b = v.blk d.bu) :
    ∃ e h', CallOk Tryz.prog 104 [.c (I o), .ptr a 0, .ptr b 0] h .no e h' .no ∧ (e = .ret (.c (B (tellB d.top L o))) ∧ Foot none' h h') := by
  have ht := tell_ret hc hlen hx ho (top_lt hd)
  obtain ⟨cells, rfl, hsl⟩ := hc.ex
  refine call_by (hm := false) Tryz.func104 rfl ?_
  conv => whnf
  refine ⟨_, ha, ?_⟩
  conv => whnf
  refine ⟨_, hb, ?_⟩
  conv => whnf
  refine .ret (ht) rfl ?_
  conv => whnf
  exact ⟨rfl, Foot.refl _ _⟩
def fewB (d : Bn) (L : List Nat) : Option Nat := (bySize d.k).find? (tellB d.top L)
theorem fewest_call {v : BV} {d : Bn} (hv : v.Is d.bu) (hd : d.Good) {c : CV} {L : List Nat} (hc : NsV c L) (hlen : L.length ≤ 2048) (hx : ∀ x ∈ L, x < 64) (h : Heap) :
    ∃ e h', CallOk Tryz.prog 62 [.c c, .c (v.cv d.bu)] h .no e h' .no ∧ (e = firstC 4 (fewB d L) ∧ Foot none' h h') := by
  have e2 : v.bn = d.k := hv.bn.trans (bu_k d)
  have k6 : d.k ≤ 6 := hd.k6
  have pw := pow_b k6
  have hc' := hc
  obtain ⟨cells, rfl, hsl⟩ := hc.ex
  refine call_by (hm := false) Tryz.func62 rfl ?_
  conv => whnf
  generalize hH : TMap.push AB.dead (TMap.push AB.dead h _) _ = H
  have Hn : H.n = h.n + 2 := by rw [← hH]; rfl
  have b0 : Heap.at H h.n = .blk [.c (.sl cells 0 L.length)] := by rw [← hH]; exact (at_push_lt _ _ (by rw [push_n]; omega)).trans (at_push_self _ _)
  have b1 : Heap.at H (h.n + 1) = v.blk d.bu := by rw [← hH]; exact at_push_self _ _
  have fH : Foot none' h H := by rw [← hH]; exact ((Foot.refl _ _).push _).push _
  clear hH
  refine ⟨_, b1, ?_⟩
  conv => whnf
  rw [e2]
  refine .ret (bySize_ret d.k) rfl ?_
  conv => whnf
  obtain ⟨e2', H2, hc2, rfl, f2⟩ := first_tell (a := h.n) (b := h.n + 1) (err := 4) (h := H) (bySize_iter k6) (p := tellB d.top L) (fun y hy h1 fx => tell_clos hd hc' hlen hx (by have := (mem_bySize.1 hy).1; omega) ((fx.keep h.n (by omega) (fun x => x)).trans b0) ((fx.keep (h.n + 1) (by omega) (fun x => x)).trans b1))
  refine .inl _ H2 .no hc2 ?_
  conv => whnf
  unfold fewB
  cases hf : (bySize d.k).find? (tellB d.top L) with
  | none =>
    conv => whnf
    exact ⟨rfl, fH.trans f2⟩
  | some y =>
    conv => whnf
    exact ⟨rfl, fH.trans f2⟩
theorem tr_lt {d : Bn} (hd : d.Good) {x : Nat} (h : ∃ m, Tr d m x) : x < 64 := by
  obtain ⟨m, h⟩ := h
  have := h.lt; have := pow_b (n := d.k) hd.k6; omega
theorem fewI (o : Option Nat) : firstC 4 o = endI (o.map fun n => ((n : Nat) : Int)) 4 := first_endI 4 o
theorem open_clos {v : BV} {d : Bn} (hv : v.Is d.bu) (hd : d.Good) {c : CV} {L : List Nat} (hR : Ret Tryz.prog 63 [knC d] c) (hc : NsV c L) (hlen : L.length ≤ 2048) (hx : ∀ x ∈ L, x < 64) {p : Nat} {h : Heap} (hp : Heap.at h p = v.blk d.bu) (hpn : p < h.n) :
    ∃ e h', CallOk Tryz.prog 61 [.c (knC d), .ptr p 0] h .no e h' .no ∧ (e = endI ((fewB d L).map fun n => ((n : Nat) : Int)) 4 ∧ Foot none' h h') := by
  rw [← fewI]
  obtain ⟨cells, rfl, hsl⟩ := hc.ex
  refine call_by (hm := false) Tryz.func61 rfl ?_
  conv => whnf
  generalize hG : TMap.push AB.dead h _ = G
  have Gn : G.n = h.n + 1 := by rw [← hG]; rfl
  have Gk : ∃ X, X = knC d ∧ Heap.at G h.n = .blk [.c (.sl (rowsM (knowL d)).flatten 0 (rowsM (knowL d)).length), .c (.sl (rowsB (knowL d)).flatten 0 (rowsB (knowL d)).length)] := ⟨_, rfl, by rw [← hG]; exact at_push_self _ _⟩
  have Gp : Heap.at G p = v.blk d.bu := by rw [← hG]; exact (at_push_lt _ _ hpn).trans hp
  have Gf : Foot none' h G := by rw [← hG]; exact (Foot.refl _ _).push _
  clear hG
  obtain ⟨_, _, Gk⟩ := Gk
  obtain ⟨e1, H1, hc1, he1, f1⟩ := fewest_call hv hd hc hlen hx G
  refine mixed_by (hm := false) (by kernel_rfl) (by kernel_rfl) ?_
  conv => whnf
  refine ⟨_, Gk, ?_⟩
  conv => whnf
  refine .ret _ _ (hR) rfl ?_
  conv => whnf
  refine ⟨_, Gp, ?_⟩
  conv => whnf
  refine .heavy _ H1 (.inl hc1) ?_
  subst he1
  cases hfw : fewB d L with
  | none =>
    conv => whnf
    refine mOps_list (l' := []) (by kernel_rfl) ?_
    conv => whnf
    refine ⟨by kernel_rfl, heaps_nil (by kernel_rfl), ?_⟩
    intro ds
    conv => whnf
    exact ⟨rfl, Gf.trans f1⟩
  | some y =>
    conv => whnf
    refine ⟨by kernel_rfl, heaps_nil (by kernel_rfl), ?_⟩
    conv => whnf
    exact ⟨rfl, Gf.trans f1⟩
end Go.Ag
/- Layer 7: Open. -/
namespace Go.Ag
open Go.Proofs
set_option maxRecDepth 100000

set_option maxHeartbeats 1000000 in
theorem kn_few {v : BV} {d : Bn} (hv : v.Is d.bu) (hd : d.Good) {p : Nat} {a b : Nat} {o : Option Int} {err : Int} {h : Heap} (ha : Heap.at h a = .blk [.func (.func 61) [] [.ptr p 0]]) (hb : Heap.at h b = v.blk d.bu) (han : a < h.n) (hbn : b < h.n)
    (hG : canB d = true → ∀ h1, h.n ≤ h1.n → (∀ i, i < h.n → Heap.at h1 i = Heap.at h i) → ∃ e h2, CallOk Tryz.prog 61 [.c (knC d), .ptr p 0] h1 .no e h2 .no ∧ (e = endI o err ∧ Foot none' h1 h2)) :
    ∃ e h', CallOk Tryz.prog 85 [.ptr a 0, .ptr b 0] h .no e h' .no ∧ (e = endI (orO d o) (erO d err) ∧ Foot none' h h') := by
  have hk := know_ret hv hd
  unfold orO erO
  refine call_by (hm := false) Tryz.func85 rfl ?_
  conv => whnf
  cases hc : canB d
  · obtain ⟨e1, H1, hc1, rfl, f1⟩ := sure_no hc h
    refine mixed_by (hm := false) (by kernel_rfl) (by kernel_rfl) ?_
    conv => whnf
    refine ⟨_, ha, ?_⟩
    conv => whnf
    refine ⟨_, hb, ?_⟩
    conv => whnf
    refine .ret _ _ (hk) rfl ?_
    conv => whnf
    refine .heavy _ H1 (.inl hc1) ?_
    conv => whnf
    refine mOps_list (l' := []) (by kernel_rfl) ?_
    conv => whnf
    refine ⟨by kernel_rfl, heaps_eq (l' := [(a, h, H1)]) (by kernel_rfl) (heaps_cons (f1.keep a (by omega) (fun x => x)) (by simp [HeapsOk])), ?_⟩
    intro ds
    conv => whnf
    exact ⟨rfl, f1⟩
  · obtain ⟨e2, H2, hc2, he2, f2⟩ := hG hc h (Nat.le_refl _) (fun _ _ => rfl)
    refine mixed_by (hm := false) (by kernel_rfl) (by kernel_rfl) ?_
    conv => whnf
    refine ⟨_, ha, ?_⟩
    conv => whnf
    refine ⟨_, hb, ?_⟩
    conv => whnf
    refine .ret _ _ (hk) rfl ?_
    conv => whnf
    refine .ret _ _ (sure_ok hc) rfl ?_
    conv => whnf
    refine .heavy _ H2 (.inl hc2) ?_
    subst he2
    rw [if_pos rfl, if_pos rfl]
    cases o with
    | none =>
      conv => whnf
      refine mOps_list (l' := []) (by kernel_rfl) ?_
      conv => whnf
      refine ⟨by kernel_rfl, heaps_nil (by kernel_rfl), ?_⟩
      intro ds
      conv => whnf
      exact ⟨rfl, f2⟩
    | some y =>
      conv => whnf
      refine ⟨by kernel_rfl, heaps_nil (by kernel_rfl), ?_⟩
      conv => whnf
      exact ⟨rfl, f2⟩
set_option maxHeartbeats 1000000 in
theorem of_few_bad {v : BV} {c : Bu} (hv : v.Is c) (hc : validB c = false) {p : Nat} (h : Heap) :
    ∃ e h', CallOk Tryz.prog 52 [.c (v.cv c), .func (.func 61) [] [.ptr p 0]] h .no e h' .no ∧ (e = .ret (.c (.tuple [I 0, I 1])) ∧ Foot none' h h') := by
  have hval := valid_ret hv
  rw [hc] at hval
  refine call_by (hm := false) Tryz.func52 rfl ?_
  conv => whnf
  generalize hH : TMap.push AB.dead (TMap.push AB.dead h _) _ = H
  have Hn : H.n = h.n + 2 := by rw [← hH]; rfl
  have b0 : Heap.at H h.n = v.blk c := by rw [← hH]; exact (at_push_lt _ _ (by simp only [push_n]; omega)).trans (at_push_self _ _)
  have b1 : Heap.at H (h.n + 1) = .blk [.func (.func 61) [] [.ptr p 0]] := by rw [← hH]; exact at_push_self _ _
  have ha : ∀ i, i < h.n → Heap.at H i = Heap.at h i := fun i hi => by rw [← hH]; exact (at_push_lt _ _ (by simp only [push_n]; omega)).trans (at_push_lt _ _ hi)
  have f0 : Foot none' h H := by rw [← hH]; exact ((Foot.refl _ _).push _).push _
  clear hH
  refine ⟨_, b0, ?_⟩
  conv => whnf
  refine .ret (hval) rfl ?_
  conv => whnf
  exact ⟨rfl, f0⟩
set_option maxHeartbeats 1000000 in
theorem of_few_ok {v : BV} {d : Bn} (hv : v.Is d.bu) (hd : d.Good) (h6 : d.tests.length ≤ 6) {p : Nat} {o : Option Int} {err : Int} {h : Heap}
    (hG : canB d = true → ∀ h1, h.n ≤ h1.n → (∀ i, i < h.n → Heap.at h1 i = Heap.at h i) → ∃ e h2, CallOk Tryz.prog 61 [.c (knC d), .ptr p 0] h1 .no e h2 .no ∧ (e = endI o err ∧ Foot none' h1 h2)) :
    ∃ e h', CallOk Tryz.prog 52 [.c (v.cv d.bu), .func (.func 61) [] [.ptr p 0]] h .no e h' .no ∧ (e = .ret (.c (ansI (orO d o) (erO d err))) ∧ Foot none' h h') := by
  have hval := valid_ret hv
  rw [valid_yes hd h6 hv] at hval
  refine call_by (hm := false) Tryz.func52 rfl ?_
  conv => whnf
  generalize hH : TMap.push AB.dead (TMap.push AB.dead h _) _ = H
  have Hn : H.n = h.n + 2 := by rw [← hH]; rfl
  have b0 : Heap.at H h.n = v.blk d.bu := by rw [← hH]; exact (at_push_lt _ _ (by simp only [push_n]; omega)).trans (at_push_self _ _)
  have b1 : Heap.at H (h.n + 1) = .blk [.func (.func 61) [] [.ptr p 0]] := by rw [← hH]; exact at_push_self _ _
  have ha : ∀ i, i < h.n → Heap.at H i = Heap.at h i := fun i hi => by rw [← hH]; exact (at_push_lt _ _ (by simp only [push_n]; omega)).trans (at_push_lt _ _ hi)
  have f0 : Foot none' h H := by rw [← hH]; exact ((Foot.refl _ _).push _).push _
  clear hH
  refine ⟨_, b0, ?_⟩
  conv => whnf
  refine .ret (hval) rfl ?_
  conv => whnf
  obtain ⟨e2, H2, hc2, rfl, f2⟩ := ans_known (a := h.n + 1) (b := h.n) (h := H) (o := orO d o) (err := erO d err) (fun h1 h1n h1a => kn_few hv hd ((h1a (h.n + 1) (by omega)).trans b1) ((h1a h.n (by omega)).trans b0) (by omega) (by omega) (fun hc g gn ga => hG hc g (by omega) (fun i hi => (ga i (by omega)).trans ((h1a i (by omega)).trans (ha i hi)))))
  refine .inl _ H2 .no hc2 ?_
  conv => whnf
  have f2n := f2.n
  cases ho : orO d o with
  | none =>
    conv => whnf
    exact ⟨rfl, f0.trans f2⟩
  | some y =>
    conv => whnf
    exact ⟨rfl, f0.trans f2⟩
theorem openX_bad {v : BV} {c : Bu} (hv : v.Is c) (hc : validB c = false) : Ret Tryz.prog 25 [v.cv c] (.tuple [I 0, I 0, I 1]) := by
  refine close_val ?_
  refine call_by (hm := false) Tryz.func25 rfl ?_
  conv => whnf
  refine ⟨v.blk c, at_push_self _ _, ?_⟩
  conv => whnf
  obtain ⟨e1, H1, hc1, rfl, f1⟩ := of_few_bad hv hc (p := 0) (TMap.push .dead TMap.nil (v.blk c))
  refine .inl _ H1 .no hc1 ?_
  conv => whnf
  refine .ret (size_ret (n := 0) (by omega)) rfl ?_
  conv => whnf
  rfl
theorem openX_no {v : BV} {d : Bn} (hv : v.Is d.bu) (hd : d.Good) (h6 : d.tests.length ≤ 6) (hc : canB d = false) : Ret Tryz.prog 25 [v.cv d.bu] (.tuple [I 0, I 0, I 10]) := by
  refine close_val ?_
  refine call_by (hm := false) Tryz.func25 rfl ?_
  conv => whnf
  refine ⟨v.blk d.bu, at_push_self _ _, ?_⟩
  conv => whnf
  obtain ⟨e1, H1, hc1, rfl, f1⟩ := of_few_ok hv hd h6 (p := 0) (h := TMap.push .dead TMap.nil (v.blk d.bu)) (o := none) (err := 4) (fun hcan => by rw [hc] at hcan; cases hcan)
  refine .inl _ H1 .no hc1 ?_
  conv => whnf
  unfold orO erO
  rw [hc]
  conv => whnf
  refine .ret (size_ret (n := 0) (by omega)) rfl ?_
  conv => whnf
  rfl
theorem few_some {d : Bn} (hd : d.Good) {L : List Nat} (hx : ∀ x ∈ L, x < 2 ^ d.k) : ∃ s, fewB d L = some s := by
  unfold fewB
  cases hf : (bySize d.k).find? (tellB d.top L) with
  | some s => exact ⟨s, rfl⟩
  | none =>
    have := List.find?_eq_none.1 hf d.top (mem_bySize.2 ⟨hd.tp, by
      unfold popB
      have h1 : (List.range 8).countP (fun i => d.top.testBit i) ≤ (List.range 8).countP (fun i => decide (i < d.k)) := List.countP_mono_left fun i _ hi => decide_eq_true (bit_lt hd.tp hi)
      have h2 : ∀ k, k ≤ 6 → (List.range 8).countP (fun i => decide (i < k)) ≤ k := by decide
      have := h2 d.k hd.k6
      omega⟩)
    exfalso
    apply this
    unfold tellB
    exact decide_eq_true fun x _ y _ e => e
theorem openX_ret {v : BV} {d : Bn} (hv : v.Is d.bu) (hd : d.Good) (h6 : d.tests.length ≤ 6) {c : CV} {L : List Nat} (hR : Ret Tryz.prog 63 [knC d] c) (hc : NsV c L) (hlen : L.length ≤ 2048) (hx : ∀ x ∈ L, x < 64) (hcan : canB d = true) {s : Nat} (hs : fewB d L = some s) : Ret Tryz.prog 25 [v.cv d.bu] (.tuple [I (popB s), I s, I 0]) := by
  have hs64 : s < 64 := by
    have h1 := (mem_bySize.1 (List.mem_of_find?_eq_some hs)).1
    have := pow_b (n := d.k) hd.k6
    omega
  refine close_val ?_
  refine call_by (hm := false) Tryz.func25 rfl ?_
  conv => whnf
  refine ⟨v.blk d.bu, at_push_self _ _, ?_⟩
  conv => whnf
  obtain ⟨e1, H1, hc1, rfl, f1⟩ := of_few_ok hv hd h6 (p := 0) (h := TMap.push .dead TMap.nil (v.blk d.bu)) (o := (fewB d L).map fun n => ((n : Nat) : Int)) (err := 4) (fun hcan h1 h1n h1a => open_clos hv hd hR hc hlen hx ((h1a 0 (Nat.lt_succ_self 0)).trans (at_push_self TMap.nil (v.blk d.bu))) (Nat.lt_of_lt_of_le (Nat.lt_succ_self 0) h1n))
  refine .inl _ H1 .no hc1 ?_
  conv => whnf
  unfold orO erO
  rw [hcan, hs]
  conv => whnf
  refine .ret (size_ret hs64) rfl ?_
  conv => whnf
  rfl
end Go.Ag
/- Layer 7: whether tests tell of the top line, by all truths. -/
namespace Go.Ag
open Go.Proofs
set_option maxRecDepth 100000

def kV (x : Nat) : Value := .int .i64 (x : Nat)
theorem mt48 : mapType Tryz.prog 48 = some (3, 3) := by kernel_rfl
theorem zero3 : elemZero Tryz.prog 3 = some (.c (I 0)) := by kernel_rfl
theorem ikey_ok (k : Nat) (e : Bool) : pureRun Tryz.prog (Instr.checkKey e 10000 3 (kV k)) = some () := by kernel_rfl
theorem eq_ik (k l : Nat) : pureRun Tryz.prog (Op.equal 3 (kV k) (kV l)) = some (decide (k = l)) := by
  show pureRun Tryz.prog (Op.equalIn (9999 + 1) 3 _ _) = _
  unfold kV
  rw [eq_intT u3]
  congr 1
  rw [Bool.eq_iff_iff, beq_iff_eq, decide_eq_true_eq]; omega
theorem same_ik (k l : Nat) : Instr.sameNow (.int .i64) (kV k) (kV l) = some (decide (k = l)) := by
  show (if IntKind.i64 = IntKind.i64 then some (((k : Nat) : Int) == ((l : Nat) : Int)) else none) = _
  rw [if_pos rfl]
  congr 1
  rw [Bool.eq_iff_iff, beq_iff_eq, decide_eq_true_eq]; omega
theorem ifind_key (k : Nat) : ∀ (ks : List Nat) (i : Nat), ∃ r, Instr.findNow (.int .i64) (kV k) (ks.map fun l => { key := kV l, val := Go.undef, born := 0 }) i = some r ∧
    match r with
    | none => k ∉ ks
    | some (j, _) => i ≤ j ∧ ks[j - i]? = some k
  | [], i => ⟨none, rfl, by simp⟩
  | l :: ks, i => by
    simp only [List.map_cons, Instr.findNow, same_ik]
    by_cases h : k = l
    · subst h
      exact ⟨some (i, Go.undef), by simp, Nat.le_refl _, by simp⟩
    · obtain ⟨r, h1, h2⟩ := ifind_key k ks (i + 1)
      refine ⟨r, by simp [h, h1], ?_⟩
      cases r with
      | none => simp only at h2 ⊢; simp [h, h2]
      | some p =>
        simp only at h2 ⊢
        refine ⟨by omega, ?_⟩
        rw [show p.1 - i = (p.1 - (i + 1)) + 1 by omega, List.getElem?_cons_succ]
        exact h2.2
theorem ikey_index (k : Nat) (ks : List Nat) (e : Bool) : ∃ r, keyIndex Tryz.prog 3 (ks.map kV) e (kV k) = some r ∧ match r with
    | none => k ∉ ks
    | some j => ks[j]? = some k := by
  obtain ⟨r, h1, h2⟩ := ifind_key k ks 0
  have hn : pureRun Tryz.prog (Instr.findKey 3 (kV k) ((ks.map kV).map fun l => { key := l, val := Go.undef, born := 0 })) = some r := by
    simp only [Instr.findKey, pureRun_bind, u3, Option.bind_some, List.map_map, Function.comp_def, h1]
    rfl
  refine ⟨r.map (·.1), ?_, ?_⟩
  · simp only [keyIndex, ikey_ok, hn]
  · cases r with
    | none => exact h2
    | some p => simpa using h2.2
/-- A map of numbers: of each key one of its values. -/
def IMap (S : Nat → Nat → Prop) (b : AB) : Prop := ∃ (ks : List Nat) (vs : List Nat) (borns : List Nat) (clock : Nat), b = .map (ks.map kV) (vs.map nvA) borns clock ∧ vs.length = ks.length ∧ (∀ (i k v : Nat), ks[i]? = some k → vs[i]? = some v → S k v) ∧ ∀ k v, S k v → k ∈ ks
theorem i_lookup {S : Nat → Nat → Prop} {rd : Nat → AB} {m : Nat} (h : IMap S (rd m)) (y : Nat) :
    ∃ (w : Nat) (ok : Bool), alookup Tryz.prog rd 48 (.map m) (.c (I y)) true = some { val := .c (.tuple [I w, B ok]), reads := [m] } ∧ (ok = true → S y w) ∧ (ok = false → ∀ v, ¬ S y v) := by
  obtain ⟨ks, vs, borns, clock, hb, hl, hv, hk⟩ := h
  obtain ⟨r, h1, h2⟩ := ikey_index y ks (ks.map kV).isEmpty
  have hval : (AV.c (I (y : Nat))).toVal = some (kV y) := rfl
  unfold alookup
  simp only [mt48, hval, mapOf, hb, h1]
  cases r with
  | none =>
    refine ⟨0, false, ?_, (fun h => by cases h), fun _ v hs => h2 (hk _ _ hs)⟩
    simp only [zero3]; rfl
  | some j =>
    have h2 : ks[j]? = some y := h2
    have hj : j < ks.length := by rcases Nat.lt_or_ge j ks.length with h | h; exact h; rw [List.getElem?_eq_none h] at h2; cases h2
    obtain ⟨w, hw⟩ := get_some (l := vs) (k := j) (by omega)
    refine ⟨w, true, ?_, fun _ => hv j y w h2 hw, (fun h => by cases h)⟩
    have : (vs.map nvA)[j]? = some (.c (I w)) := by rw [List.getElem?_map, hw]; rfl
    simp only [this]; rfl
theorem i_update {S : Nat → Nat → Prop} {rd : Nat → AB} {m : Nat} (h : IMap S (rd m)) (y w : Nat) : ∃ b, amapUpdate Tryz.prog rd 48 (.map m) (.c (I y)) (.c (I w)) = some { val := .undef, reads := [m], upds := [(m, b)] } ∧ IMap (fun k v => S k v ∨ (k = y ∧ v = w)) b := by
  obtain ⟨ks, vs, borns, clock, hb, hl, hv, hk⟩ := h
  obtain ⟨r, h1, h2⟩ := ikey_index y ks false
  have hval : (AV.c (I (y : Nat))).toVal = some (kV y) := rfl
  unfold amapUpdate
  simp only [mt48, hval, hb, h1]
  cases r with
  | none =>
    refine ⟨_, rfl, ks ++ [y], vs ++ [w], _, _, by rw [List.map_append, List.map_append]; rfl, by simp [hl], ?_, ?_⟩
    · intro i k v hi hvi
      by_cases hlt : i < ks.length
      · rw [List.getElem?_append_left hlt] at hi
        rw [List.getElem?_append_left (by omega)] at hvi
        exact .inl (hv i k v hi hvi)
      · rw [List.getElem?_append_right (by omega)] at hi hvi
        have h0 : i - ks.length = 0 := by
          rcases Nat.eq_zero_or_pos (i - ks.length) with h | h
          · exact h
          · rw [List.getElem?_eq_none (by simp; omega)] at hi; cases hi
        rw [hl] at hvi
        rw [h0] at hi hvi
        simp at hi hvi
        exact .inr ⟨hi.symm, hvi.symm⟩
    · rintro k v (h | ⟨rfl, _⟩)
      · exact List.mem_append_left _ (hk k v h)
      · simp
  | some j =>
    have h2 : ks[j]? = some y := h2
    have hjl : j < ks.length := by rcases Nat.lt_or_ge j ks.length with h | h; exact h; rw [List.getElem?_eq_none h] at h2; cases h2
    have hj : (ks.map kV)[j]? = some (kV y) := by simp only [List.getElem?_map]; rw [h2]; rfl
    have hs : Instr.sameBits 10000 (kV y) (kV y) = true := by unfold kV; simp [Instr.sameBits]
    simp only [hj, hs, if_true]
    refine ⟨_, rfl, ks, vs.set j w, borns, clock, ?_, by simp [hl], ?_, ?_⟩
    · congr 1
      · apply List.ext_getElem?
        intro i
        rw [List.getElem?_set]
        by_cases hij : j = i
        · subst hij; rw [hj]; simp [hjl]
        · simp [hij]
      · rw [List.map_set]; rfl
    · intro i k v hi hvi
      rw [List.getElem?_set] at hvi
      by_cases hij : j = i
      · subst hij
        rw [h2] at hi
        simp [hl, hjl] at hvi
        exact .inr ⟨(Option.some.inj hi).symm, hvi.symm⟩
      · rw [if_neg hij] at hvi
        exact .inl (hv i k v hi hvi)
    · rintro k v (h | ⟨rfl, _⟩)
      · exact hk k v h
      · exact List.mem_of_getElem? h2
/-- Whether truths tell of the top line by bales. -/
def okB (d : Bn) (s : Nat) (l : List (Nat × Nat)) : Bool := decide (∀ p ∈ l, ∀ q ∈ l, p.2 &&& s = q.2 &&& s → p.2 &&& d.top = q.2 &&& d.top)
theorem okB_snoc {d : Bn} {s : Nat} {l : List (Nat × Nat)} {m x w : Nat} {ok : Bool} (h1 : ok = true → ∃ p ∈ l, p.2 &&& s = x &&& s ∧ p.2 &&& d.top = w) (h2 : ok = false → ∀ v, ¬ ∃ p ∈ l, p.2 &&& s = x &&& s ∧ p.2 &&& d.top = v) :
    okB d s (l ++ [(m, x)]) = (okB d s l && (!ok || decide (w = x &&& d.top))) := by
  unfold okB
  rw [Bool.eq_iff_iff, Bool.and_eq_true, decide_eq_true_eq, decide_eq_true_eq, Bool.or_eq_true, Bool.not_eq_true', decide_eq_true_eq]
  constructor
  · intro h
    refine ⟨fun p hp q hq => h p (by simp [hp]) q (by simp [hq]), ?_⟩
    cases ok with
    | false => exact .inl rfl
    | true =>
      obtain ⟨p, hp, e1, e2⟩ := h1 rfl
      exact .inr (e2.symm.trans (h p (by simp [hp]) (m, x) (by simp) e1))
  · rintro ⟨h, hk⟩
    have key : ∀ p ∈ l, p.2 &&& s = x &&& s → p.2 &&& d.top = x &&& d.top := by
      intro p hp e
      cases ok with
      | false => exact absurd ⟨p, hp, e, rfl⟩ (h2 rfl _)
      | true =>
        obtain ⟨q, hq, e1, e2⟩ := h1 rfl
        rcases hk with hk | hk
        · cases hk
        · rw [h p hp q hq (e.trans e1.symm), e2, hk]
    intro p hp q hq e
    rcases List.mem_append.1 hp with hp | hp <;> rcases List.mem_append.1 hq with hq | hq
    · exact h p hp q hq e
    · obtain rfl : q = (m, x) := by simpa using hq
      exact key p hp e
    · obtain rfl : p = (m, x) := by simpa using hp
      exact (key q hq e.symm).symm
    · obtain rfl : p = (m, x) := by simpa using hp
      obtain rfl : q = (m, x) := by simpa using hq
      rfl
structure OS (v : BV) (d : Bn) (s a Q : Nat) (l : List (Nat × Nat)) (h : Heap) : Prop where
  b0 : Heap.at h a = v.blk d.bu
  ba : Heap.at h Q = .blk [.c (I s)]
  bm : IMap (fun k v => ∃ p ∈ l, p.2 &&& s = k ∧ p.2 &&& d.top = v) (Heap.at h (Q + 1))
  bc : Heap.at h (Q + 2) = .blk [.map (Q + 1)]
  bd : Heap.at h (Q + 3) = .blk [.c (B (okB d s l))]
  n : Q + 4 ≤ h.n
  an : a < Q
theorem imap_eq {S : Nat → Nat → Prop} {b b' : AB} (e : b = b') (h : IMap S b') : IMap S b := e ▸ h
theorem OS.up {v : BV} {d : Bn} {s a Q : Nat} {l : List (Nat × Nat)} {h h' : Heap} (e : OS v d s a Q l h) (hn : h.n ≤ h'.n) (hk : ∀ i, i < Q + 4 → Heap.at h' i = Heap.at h i) : OS v d s a Q l h' :=
  ⟨(hk _ (by have := e.an; omega)).trans e.b0, (hk _ (by omega)).trans e.ba, imap_eq (hk _ (by omega)) e.bm, (hk _ (by omega)).trans e.bc, (hk _ (by omega)).trans e.bd, Nat.le_trans e.n hn, e.an⟩
def openF (a Q : Nat) : AV := .func (.func 42) [] [.ptr (Q + 2) 0, .ptr Q 0, .ptr (Q + 3) 0, .ptr a 0]
theorem open_end {v : BV} {d : Bn} {s a Q : Nat} {l : List (Nat × Nat)} {m x : Nat} {h G : Heap} (e : OS v d s a Q l h) (_ : m < 64) (Gd : Heap.at G (Q + 3) = .blk [.c (B (okB d s (l ++ [(m, x)])))]) (Gk : ∀ i, i ≠ Q + 3 → Heap.at G i = Heap.at h i) (Gn : G.n = h.n) (Gf : Foot (fun i => Q ≤ i ∧ i < Q + 4) h G) {b : AB}
    (hb : IMap (fun k v => (∃ p ∈ l, p.2 &&& s = k ∧ p.2 &&& d.top = v) ∨ (k = x &&& s ∧ v = x &&& d.top)) b) : AEnd.ret (.c (.tuple [])) = .ret (.c (.tuple [])) ∧ OS v d s a Q (l ++ [(m, x)]) (G.set .dead (Q + 1) b) ∧ Foot (fun i => Q ≤ i ∧ i < Q + 4) h (G.set .dead (Q + 1) b) := by
  have en := e.n
  have an := e.an
  refine ⟨rfl, ⟨(at_set_ne _ _ (by omega)).trans ((Gk a (by omega)).trans e.b0), (at_set_ne _ _ (by omega)).trans ((Gk Q (by omega)).trans e.ba), ?_, (at_set_ne _ _ (by omega)).trans ((Gk (Q + 2) (by omega)).trans e.bc), (at_set_ne _ _ (by omega)).trans Gd, by rw [TMap.set_n]; omega, an⟩, Foot.set (k := Q + 1) Gf (.inl ⟨by omega, by omega⟩) _⟩
  refine imap_eq (at_set_self _ _ (by omega)) ?_
  obtain ⟨ks, vs, borns, clock, h1, h2, h3, h4⟩ := hb
  refine ⟨ks, vs, borns, clock, h1, h2, fun i k v hi hv => ?_, fun k v hp => h4 k v ?_⟩
  · rcases h3 i k v hi hv with ⟨p, hp, e1⟩ | ⟨rfl, rfl⟩
    · exact ⟨p, List.mem_append_left _ hp, e1⟩
    · exact ⟨(m, x), by simp, rfl, rfl⟩
  · obtain ⟨p, hp, e1, e2⟩ := hp
    rcases List.mem_append.1 hp with hp | hp
    · exact .inl ⟨p, hp, e1, e2⟩
    · obtain rfl : p = (m, x) := by simpa using hp
      exact .inr ⟨e1.symm, e2.symm⟩
set_option maxHeartbeats 4000000 in
theorem open_step {v : BV} {d : Bn} (hd : d.Good) {s a Q : Nat} (hs : s < 64) {l : List (Nat × Nat)} {m x : Nat} (hm : m < 64) (hx : x < 64) {h : Heap} (e : OS v d s a Q l h) :
    ∃ ex h', CallOk Tryz.prog 42 [.c (I m), .c (I x), .ptr (Q + 2) 0, .ptr Q 0, .ptr (Q + 3) 0, .ptr a 0] h .no ex h' .no ∧ (ex = .ret (.c (.tuple [])) ∧ OS v d s a Q (l ++ [(m, x)]) h' ∧ Foot (fun i => Q ≤ i ∧ i < Q + 4) h h') := by
  have ht := top_lt hd
  have en := e.n
  have an := e.an
  obtain ⟨w, ok, hlk, hw1, hw2⟩ := i_lookup e.bm (x &&& s)
  have hsn := okB_snoc (m := m) hw1 hw2
  refine call_then (hm := false) Tryz.func42 rfl ?_
  conv => whnf
  repeat (refine then_seq (hm := false) ?_; conv => whnf)
  refine ⟨_, e.bc, ?_⟩
  conv => whnf
  refine ⟨_, e.ba, ?_⟩
  conv => whnf
  refine ⟨_, and_nat (a := x) (b := s) (by omega) (by omega), ?_⟩
  conv => whnf
  refine ⟨_, hlk, ?_⟩
  conv => whnf
  repeat (refine then_seq (hm := false) ?_; conv => whnf)
  refine ⟨_, e.bd, ?_⟩
  conv => whnf
  cases hok : okB d s l
  · rw [hok, Bool.false_and] at hsn
    conv => whnf
    refine ⟨_, e.bd, ?_⟩
    conv => whnf
    generalize hG : TMap.set AB.dead h (Q + 3) _ = G
    have Gd : Heap.at G (Q + 3) = .blk [.c (B (okB d s (l ++ [(m, x)])))] := by rw [hsn, ← hG]; exact at_set_self _ _ (by omega)
    have Gk : ∀ i, i ≠ Q + 3 → Heap.at G i = Heap.at h i := fun i hi => by rw [← hG]; exact at_set_ne _ _ hi
    have Gn : G.n = h.n := by rw [← hG, TMap.set_n]
    have Gf : Foot (fun i => Q ≤ i ∧ i < Q + 4) h G := by rw [← hG]; exact Foot.set (k := Q + 3) (.refl _ _) (.inl ⟨by omega, by omega⟩) _
    clear hG
    obtain ⟨b, hup, hb⟩ := i_update (rd := Heap.at G) (imap_eq (Gk (Q + 1) (by omega)) e.bm) (x &&& s) (x &&& d.top)
    refine then_end (hm := false) ?_
    conv => whnf
    refine ⟨_, (Gk (Q + 2) (by omega)).trans e.bc, ?_⟩
    conv => whnf
    refine ⟨_, (Gk Q (by omega)).trans e.ba, ?_⟩
    conv => whnf
    refine ⟨_, and_nat (a := x) (b := s) (by omega) (by omega), ?_⟩
    conv => whnf
    refine ⟨_, (Gk a (by omega)).trans e.b0, ?_⟩
    conv => whnf
    refine ⟨_, and_nat (a := x) (b := d.top) (by omega) (by omega), ?_⟩
    conv => whnf
    refine ⟨_, hup, ?_⟩
    conv => whnf
    exact open_end e hm Gd Gk Gn Gf hb
  rw [hok, Bool.true_and] at hsn
  cases ok with
  | false =>
    rw [Bool.not_false, Bool.true_or] at hsn
    conv => whnf
    refine ⟨_, e.bd, ?_⟩
    conv => whnf
    generalize hG : TMap.set AB.dead h (Q + 3) _ = G
    have Gd : Heap.at G (Q + 3) = .blk [.c (B (okB d s (l ++ [(m, x)])))] := by rw [hsn, ← hG]; exact at_set_self _ _ (by omega)
    have Gk : ∀ i, i ≠ Q + 3 → Heap.at G i = Heap.at h i := fun i hi => by rw [← hG]; exact at_set_ne _ _ hi
    have Gn : G.n = h.n := by rw [← hG, TMap.set_n]
    have Gf : Foot (fun i => Q ≤ i ∧ i < Q + 4) h G := by rw [← hG]; exact Foot.set (k := Q + 3) (.refl _ _) (.inl ⟨by omega, by omega⟩) _
    clear hG
    obtain ⟨b, hup, hb⟩ := i_update (rd := Heap.at G) (imap_eq (Gk (Q + 1) (by omega)) e.bm) (x &&& s) (x &&& d.top)
    refine then_end (hm := false) ?_
    conv => whnf
    refine ⟨_, (Gk (Q + 2) (by omega)).trans e.bc, ?_⟩
    conv => whnf
    refine ⟨_, (Gk Q (by omega)).trans e.ba, ?_⟩
    conv => whnf
    refine ⟨_, and_nat (a := x) (b := s) (by omega) (by omega), ?_⟩
    conv => whnf
    refine ⟨_, (Gk a (by omega)).trans e.b0, ?_⟩
    conv => whnf
    refine ⟨_, and_nat (a := x) (b := d.top) (by omega) (by omega), ?_⟩
    conv => whnf
    refine ⟨_, hup, ?_⟩
    conv => whnf
    exact open_end e hm Gd Gk Gn Gf hb
  | true =>
    rw [Bool.not_true, Bool.false_or] at hsn
    conv => whnf
    refine ⟨_, e.b0, ?_⟩
    conv => whnf
    refine ⟨_, and_nat (a := x) (b := d.top) (by omega) (by omega), ?_⟩
    conv => whnf
    rw [show (((w : Nat) : Int) == ((x &&& d.top : Nat) : Int)) = decide (w = x &&& d.top) by rw [Bool.eq_iff_iff, beq_iff_eq, decide_eq_true_eq]; omega, ← hsn]
    conv => whnf
    refine ⟨_, e.bd, ?_⟩
    conv => whnf
    generalize hG : TMap.set AB.dead h (Q + 3) _ = G
    have Gd : Heap.at G (Q + 3) = .blk [.c (B (okB d s (l ++ [(m, x)])))] := by rw [← hG]; exact at_set_self _ _ (by omega)
    have Gk : ∀ i, i ≠ Q + 3 → Heap.at G i = Heap.at h i := fun i hi => by rw [← hG]; exact at_set_ne _ _ hi
    have Gn : G.n = h.n := by rw [← hG, TMap.set_n]
    have Gf : Foot (fun i => Q ≤ i ∧ i < Q + 4) h G := by rw [← hG]; exact Foot.set (k := Q + 3) (.refl _ _) (.inl ⟨by omega, by omega⟩) _
    clear hG
    obtain ⟨b, hup, hb⟩ := i_update (rd := Heap.at G) (imap_eq (Gk (Q + 1) (by omega)) e.bm) (x &&& s) (x &&& d.top)
    refine then_end (hm := false) ?_
    conv => whnf
    refine ⟨_, (Gk (Q + 2) (by omega)).trans e.bc, ?_⟩
    conv => whnf
    refine ⟨_, (Gk Q (by omega)).trans e.ba, ?_⟩
    conv => whnf
    refine ⟨_, and_nat (a := x) (b := s) (by omega) (by omega), ?_⟩
    conv => whnf
    refine ⟨_, (Gk a (by omega)).trans e.b0, ?_⟩
    conv => whnf
    refine ⟨_, and_nat (a := x) (b := d.top) (by omega) (by omega), ?_⟩
    conv => whnf
    refine ⟨_, hup, ?_⟩
    conv => whnf
    exact open_end e hm Gd Gk Gn Gf hb
end Go.Ag
/- Layer 7: all truths, whether tests tell of the top line. -/
namespace Go.Ag
open Go.Proofs
set_option maxRecDepth 100000

set_option maxHeartbeats 4000000 in
theorem every_open {v : BV} {d : Bn} (hv : v.Is d.bu) (hd : d.Good) {s a Q : Nat} (hs : s < 64) {h : Heap} (e : OS v d s a Q [] h) :
    ∃ ex h', CallOk Tryz.prog 39 [.c (v.cv d.bu), openF a Q] h .no ex h' .no ∧ (ex = .ret (.c (.tuple [])) ∧ OS v d s a Q (truthsL d) h' ∧ Foot (fun i => Q ≤ i ∧ i < Q + 4) h h') := by
  have e1 := hv.bn; have e3 := hv.tn
  rw [bu_k] at e1
  rw [bu_t] at e3
  have k6 : d.k ≤ 6 := hd.k6
  have hpk := pow_b k6
  have hpn := pow_c hd.n5
  have en := e.n
  have hn5 := hd.n5
  have tn7 := hd.tn
  refine call_then (hm := false) Tryz.func39 rfl ?_
  conv => whnf
  repeat (refine then_seq (hm := false) ?_; conv => whnf)
  generalize hH : TMap.push AB.dead h _ = H
  obtain ⟨N, hN⟩ : ∃ N, N = h.n := ⟨_, rfl⟩
  have Hn : H.n = N + 1 := by rw [← hH, hN]; rfl
  have b0 : Heap.at H N = v.blk d.bu := by rw [← hH, hN]; exact at_push_self _ _
  have eH : OS v d s a Q [] H := by rw [← hH]; exact e.up (by rw [push_n]; omega) (fun i hi => at_push_lt _ _ (by omega))
  have FH : Foot (fun i => Q ≤ i ∧ i < Q + 4) h H := by rw [← hH]; exact (Foot.refl _ _).push _
  clear hH
  rw [← hN]
  refine ⟨_, b0, ?_⟩
  conv => whnf
  refine ⟨Int.natCast_nonneg d.n, _, shl_nat 1 d.n (by omega) (by omega), ?_⟩
  conv => whnf
  rw [Nat.one_mul]
  repeat (first | refine then_seq (hm := false) ?_ | refine then_end (hm := false) ?_) <;> conv => whnf
  refine loop_by (I := fun z st => ∃ (q : Nat) (g : Heap), q ≤ 2 ^ d.n ∧ z = 2 ^ d.n - q ∧ OS v d s a Q ((List.range q).flatMap (ofM d)) g ∧ Heap.at g N = v.blk d.bu ∧ N < g.n ∧ Foot (fun i => Q ≤ i ∧ i < Q + 4) h g ∧
      Has st 82 [(1, openF a Q), (2, .ptr N 0), (14, .c (I (2 ^ d.n : Nat))), (15, .c (I q))] [] none g) ?_ (k := 2 ^ d.n)
    ⟨0, _, Nat.zero_le _, rfl, eH, b0, by omega, FH, rfl, ⟨rfl, rfl, rfl, rfl, trivial⟩, rfl, rfl, rfl, rfl⟩
  rintro z st ⟨q, g, hq, rfl, eg, gb, gn, Fg, hs1⟩
  refine hs1.run (hm := false) ?_
  conv => whnf
  cases hcq : decide ((q : Int) < ((2 ^ d.n : Nat) : Int))
  case false =>
    have : q = 2 ^ d.n := by have := of_decide_eq_false hcq; omega
    subst this
    conv => whnf
    exact ⟨rfl, eg, Fg⟩
  have hq : q < 2 ^ d.n := by have := of_decide_eq_true hcq; exact_mod_cast this
  have hlq := ofM_len hd q
  have hsucc : (List.range (q + 1)).flatMap (ofM d) = (List.range q).flatMap (ofM d) ++ ofM d q := by
    rw [List.range_succ, List.flatMap_append]; simp
  have hsz : sizeOk d q = (decide ((d.lo : Int) ≤ popB q) && decide ((popB q : Int) ≤ d.hi)) := rfl
  conv => whnf
  refine .ret (lsize_ret (n := q) (by omega)) rfl ?_
  conv => whnf
  refine ⟨_, gb, ?_⟩
  conv => whnf
  cases c1 : decide ((popB q : Int) < (d.lo : Int))
  case true =>
    have hno : sizeOk d q = false := by rw [hsz, decide_eq_false (by have := of_decide_eq_true c1; omega)]; rfl
    have hof : ofM d q = [] := by unfold ofM; rw [hno]; rfl
    rw [hof, List.append_nil] at hsucc
    rw [show decide ((popB q : Int) < d.bu.lo) = true from c1]
    conv => whnf
    refine ⟨((q + 1 : Nat) : Int), by rw [wrap_eq (by omega) (by omega)]; omega, ?_⟩
    conv => whnf
    exact ⟨2 ^ d.n - (q + 1), by omega, q + 1, g, by omega, rfl, by rw [hsucc]; exact eg, gb, gn, Fg, rfl, ⟨rfl, rfl, rfl, rfl, trivial⟩, rfl, rfl, rfl, rfl⟩
  rw [show decide ((popB q : Int) < d.bu.lo) = false from c1]
  conv => whnf
  refine ⟨_, gb, ?_⟩
  conv => whnf
  cases c2 : decide ((popB q : Int) > (d.hi : Int))
  case true =>
    have hno : sizeOk d q = false := by rw [hsz, decide_eq_false (p := (popB q : Int) ≤ d.hi) (by have := of_decide_eq_true c2; omega)]; simp
    have hof : ofM d q = [] := by unfold ofM; rw [hno]; rfl
    rw [hof, List.append_nil] at hsucc
    rw [show decide ((popB q : Int) > d.bu.hi) = true from c2]
    conv => whnf
    refine ⟨((q + 1 : Nat) : Int), by rw [wrap_eq (by omega) (by omega)]; omega, ?_⟩
    conv => whnf
    exact ⟨2 ^ d.n - (q + 1), by omega, q + 1, g, by omega, rfl, by rw [hsucc]; exact eg, gb, gn, Fg, rfl, ⟨rfl, rfl, rfl, rfl, trivial⟩, rfl, rfl, rfl, rfl⟩
  have hyes : sizeOk d q = true := by rw [hsz, decide_eq_true (by have := of_decide_eq_false c1; omega), decide_eq_true (by have := of_decide_eq_false c2; omega)]; rfl
  have hof : ofM d q = ((List.range (2 ^ d.k)).filter (rightB d q)).map fun x => (q, x) := by unfold ofM; rw [hyes]; rfl
  rw [hof] at hsucc
  rw [show decide ((popB q : Int) > d.bu.hi) = false from c2]
  have hL := hold_Lt hd q
  have hS := hL.s; have hP := hL.p
  have hpre := pre_len hd q
  conv => whnf
  refine ⟨_, gb, ?_⟩
  conv => whnf
  refine .ret (holds_ret hv hd (m := q) (by omega)) rfl ?_
  conv => whnf
  refine ⟨_, gb, ?_⟩
  conv => whnf
  refine ⟨Int.natCast_nonneg v.bn, _, shl_nat 1 v.bn (by omega) (by rw [e1]; omega), ?_⟩
  conv => whnf
  rw [Nat.one_mul, e1]
  refine loop_by (I := fun z st => ∃ (j : Nat) (g : Heap), j ≤ 2 ^ d.k ∧ z = 2 ^ d.k - j ∧ OS v d s a Q ((List.range q).flatMap (ofM d) ++ ((List.range j).filter (rightB d q)).map fun x => (q, x)) g ∧ Heap.at g N = v.blk d.bu ∧ N < g.n ∧ Foot (fun i => Q ≤ i ∧ i < Q + 4) h g ∧
      Has st 82 [(1, openF a Q), (2, .ptr N 0), (4, .c (I q)), (6, .c (I (hold d q).s)), (7, .c (I (hold d q).p)), (14, .c (I (2 ^ d.n : Nat))), (15, .c (I q)), (41, .c (I (2 ^ d.k : Nat))), (42, .c (I j))] [] none g) ?_ (k := 2 ^ d.k)
    ⟨0, _, Nat.zero_le _, rfl, by simpa using eg, gb, gn, Fg, rfl, ⟨rfl, rfl, rfl, rfl, rfl, rfl, rfl, rfl, rfl, trivial⟩, rfl, rfl, rfl, rfl⟩
  clear eg gb gn Fg
  rintro z st ⟨j, g, hj, rfl, eg, gb, gn, Fg, hs1⟩
  refine hs1.run (hm := false) ?_
  conv => whnf
  cases hcj : decide ((j : Int) < ((2 ^ d.k : Nat) : Int))
  case false =>
    have : j = 2 ^ d.k := by have := of_decide_eq_false hcj; omega
    subst this
    conv => whnf
    refine ⟨((q + 1 : Nat) : Int), by rw [wrap_eq (by omega) (by omega)]; omega, ?_⟩
    conv => whnf
    exact ⟨2 ^ d.n - (q + 1), by omega, q + 1, g, by omega, rfl, by rw [hsucc]; exact eg, gb, gn, Fg, rfl, ⟨rfl, rfl, rfl, rfl, trivial⟩, rfl, rfl, rfl, rfl⟩
  have hj : j < 2 ^ d.k := by have := of_decide_eq_true hcj; exact_mod_cast this
  have hsj : ((List.range (j + 1)).filter (rightB d q)).map (fun x => (q, x)) = ((List.range j).filter (rightB d q)).map (fun x => (q, x)) ++ (if rightB d q j then [(q, j)] else []) := by
    rw [List.range_succ, List.filter_append, List.map_append]
    congr 1
    cases hr : rightB d q j <;> simp [hr]
  have hlj : ((List.range q).flatMap (ofM d) ++ ((List.range j).filter (rightB d q)).map fun x => (q, x)).length < 4096 := by
    rw [List.length_append, List.length_map]
    have := List.length_filter_le (rightB d q) (List.range j)
    rw [List.length_range] at this
    omega
  have hmj : ∀ y ∈ (List.range q).flatMap (ofM d) ++ ((List.range j).filter (rightB d q)).map (fun x => (q, x)), y.1 < 64 ∧ y.2 < 64 := by
    intro y hy
    rcases List.mem_append.1 hy with hy | hy
    · exact pre_mem hd (by omega) hy
    · obtain ⟨x, hx, rfl⟩ := List.mem_map.1 hy
      have := List.mem_range.1 (List.mem_filter.1 hx).1
      exact ⟨by show q < 64; omega, by show x < 64; omega⟩
  have hrb : rightB d q j = ((diffN (hold d q).s j == 0 && diffN j (hold d q).p == 0) && d.tests.all fun t => j.testBit t.1 == t.2) := rfl
  have z1 : (((diffN (hold d q).s j : Nat) : Int) == 0) = (diffN (hold d q).s j == 0) := by rw [Bool.eq_iff_iff, beq_iff_eq, beq_iff_eq]; omega
  have z2 : (((diffN j (hold d q).p : Nat) : Int) == 0) = (diffN j (hold d q).p == 0) := by rw [Bool.eq_iff_iff, beq_iff_eq, beq_iff_eq]; omega
  conv => whnf
  refine ⟨_, andNot_nat (by omega) (by omega), ?_⟩
  conv => whnf
  rw [z1]
  cases g1 : (diffN (hold d q).s j == 0)
  · rw [g1, Bool.false_and] at hrb
    conv => whnf
    refine ⟨_, gb, ?_⟩
    conv => whnf
    refine loop_by (I := fun z st => ∃ (i : Nat) (g : Heap) (c0 : Bool), i ≤ d.tests.length ∧ z = d.tests.length - i ∧ c0 = (false && (d.tests.take i).all fun t => j.testBit t.1 == t.2) ∧ OS v d s a Q ((List.range q).flatMap (ofM d) ++ ((List.range j).filter (rightB d q)).map fun x => (q, x)) g ∧ Heap.at g N = v.blk d.bu ∧ N < g.n ∧ Foot (fun i => Q ≤ i ∧ i < Q + 4) h g ∧
        Has st 82 [(1, openF a Q), (2, .ptr N 0), (4, .c (I q)), (6, .c (I (hold d q).s)), (7, .c (I (hold d q).p)), (8, .c (I j)), (9, .c (B c0)), (14, .c (I (2 ^ d.n : Nat))), (15, .c (I q)), (41, .c (I (2 ^ d.k : Nat))), (42, .c (I j)), (56, .c (.sl v.tc v.ot v.tn)), (57, .c (I v.tn)), (58, .c (I i))] [] none g) ?_ (k := d.tests.length)
      ⟨0, _, false, Nat.zero_le _, rfl, by simp, eg, gb, gn, Fg, rfl, ⟨rfl, rfl, rfl, rfl, rfl, rfl, rfl, rfl, rfl, rfl, rfl, rfl, rfl, rfl, trivial⟩, rfl, rfl, rfl, rfl⟩
    clear eg gb gn Fg
    rintro z st ⟨i, g, c0, hi, rfl, hc0, eg, gb, gn, Fg, hs2⟩
    refine hs2.run (hm := false) ?_
    conv => whnf
    cases hci : decide ((i : Int) < (v.tn : Int))
    case false =>
      have : i = d.tests.length := by simp at hci; omega
      subst this
      rw [List.take_length, ← hrb] at hc0
      rw [← hc0] at hsj
      cases c0
      · rw [if_neg (by simp), List.append_nil] at hsj
        conv => whnf
        refine ⟨((j + 1 : Nat) : Int), by rw [wrap_eq (by omega) (by omega)]; omega, ?_⟩
        conv => whnf
        exact ⟨2 ^ d.k - (j + 1), by omega, j + 1, g, by omega, rfl, by rw [hsj]; exact eg, gb, gn, Fg, rfl, ⟨rfl, rfl, rfl, rfl, rfl, rfl, rfl, rfl, rfl, trivial⟩, rfl, rfl, rfl, rfl⟩
      · rw [if_pos rfl] at hsj
        have egn := eg.n
        obtain ⟨ex, h2, hc2, rfl, e2, f2⟩ := open_step hd hs (m := q) (x := j) (by omega) (by omega) eg
        conv => whnf
        refine .inl _ h2 .no hc2 ?_
        conv => whnf
        refine ⟨((j + 1 : Nat) : Int), by rw [wrap_eq (by omega) (by omega)]; omega, ?_⟩
        conv => whnf
        have fn := f2.n
        exact ⟨2 ^ d.k - (j + 1), by omega, j + 1, h2, by omega, rfl, by rw [hsj, ← List.append_assoc]; exact e2, (f2.keep N gn (by omega)).trans gb, by omega, Fg.trans f2, rfl, ⟨rfl, rfl, rfl, rfl, rfl, rfl, rfl, rfl, rfl, trivial⟩, rfl, rfl, rfl, rfl⟩
    have hi : i < d.tests.length := by simp at hci; omega
    have hte := te_all hi false fun t : Nat × Bool => j.testBit t.1 == t.2
    rw [← hc0] at hte
    have ht6 : (d.te i).1 < 6 := by have := hd.ts _ (te_mem hi); have : d.bales.length ≤ 6 := k6; omega
    have egn := eg.n
    conv => whnf
    refine ⟨⟨by omega, by omega⟩, ?_⟩
    conv => whnf
    refine ⟨_, hv.test (bu_test hi), ?_⟩
    conv => whnf
    refine ⟨_, at_push_self _ _, ?_⟩
    conv => whnf
    generalize hG : TMap.set AB.dead (TMap.push AB.dead g _) _ _ = G
    have Gn : G.n = g.n + 1 := by rw [← hG]; exact new_n _ _ _
    have Ga : ∀ i, i < g.n → Heap.at G i = Heap.at g i := fun i hi => by rw [← hG]; exact at_old _ _ _ hi
    have Gt : Heap.at G g.n = .blk [.c (I (d.te i).1), .c (B (d.te i).2)] := by rw [← hG]; exact at_new _ _ _
    have FG : Foot (fun i => Q ≤ i ∧ i < Q + 4) h G := by rw [← hG]; exact Fg.trans ((footNew _ _ _).mono fun i _ hi => hi.elim)
    clear hG
    have eG := eg.up (h' := G) (by omega) (fun i hi => Ga i (by omega))
    cases c0
    · rw [Bool.false_and] at hte
      conv => whnf
      refine draw_by (hm := false) (by kernel_rfl) (by kernel_rfl) ?_
      conv => whnf
      refine ⟨by kernel_rfl, ?_⟩
      conv => whnf
      refine ⟨((i + 1 : Nat) : Int), by rw [wrap_eq (by omega) (by omega)]; omega, ?_⟩
      conv => whnf
      exact ⟨d.tests.length - (i + 1), by omega, i + 1, G, false, by omega, rfl, hte.symm, eG, (Ga N gn).trans gb, by omega, FG, rfl, ⟨rfl, rfl, rfl, rfl, rfl, rfl, rfl, rfl, rfl, rfl, rfl, rfl, rfl, rfl, trivial⟩, rfl, rfl, rfl, rfl⟩
    · rw [Bool.true_and] at hte
      conv => whnf
      refine draw_by (hm := false) (by kernel_rfl) (by kernel_rfl) ?_
      conv => whnf
      refine ⟨_, Gt, ?_⟩
      conv => whnf
      refine ⟨by omega, _, shr_nat j (d.te i).1 (by omega), ?_⟩
      conv => whnf
      refine ⟨_, and_nat (b := 1) (Nat.lt_of_le_of_lt (Nat.shiftRight_le j (d.te i).1) (by omega)) (by omega), ?_⟩
      conv => whnf
      rw [bit_nat]
      refine ⟨_, Gt, ?_⟩
      conv => whnf
      refine ⟨by kernel_rfl, ?_⟩
      conv => whnf
      refine ⟨((i + 1 : Nat) : Int), by rw [wrap_eq (by omega) (by omega)]; omega, ?_⟩
      conv => whnf
      exact ⟨d.tests.length - (i + 1), by omega, i + 1, G, _, by omega, rfl, hte.symm, eG, (Ga N gn).trans gb, by omega, FG, rfl, ⟨rfl, rfl, rfl, rfl, rfl, rfl, rfl, rfl, rfl, rfl, rfl, rfl, rfl, rfl, trivial⟩, rfl, rfl, rfl, rfl⟩
  conv => whnf
  refine ⟨_, andNot_nat (by omega) (by omega), ?_⟩
  conv => whnf
  rw [z2]
  cases g2 : (diffN j (hold d q).p == 0)
  · rw [g1, g2, Bool.and_false] at hrb
    conv => whnf
    refine ⟨_, gb, ?_⟩
    conv => whnf
    refine loop_by (I := fun z st => ∃ (i : Nat) (g : Heap) (c0 : Bool), i ≤ d.tests.length ∧ z = d.tests.length - i ∧ c0 = (false && (d.tests.take i).all fun t => j.testBit t.1 == t.2) ∧ OS v d s a Q ((List.range q).flatMap (ofM d) ++ ((List.range j).filter (rightB d q)).map fun x => (q, x)) g ∧ Heap.at g N = v.blk d.bu ∧ N < g.n ∧ Foot (fun i => Q ≤ i ∧ i < Q + 4) h g ∧
        Has st 82 [(1, openF a Q), (2, .ptr N 0), (4, .c (I q)), (6, .c (I (hold d q).s)), (7, .c (I (hold d q).p)), (8, .c (I j)), (9, .c (B c0)), (14, .c (I (2 ^ d.n : Nat))), (15, .c (I q)), (41, .c (I (2 ^ d.k : Nat))), (42, .c (I j)), (56, .c (.sl v.tc v.ot v.tn)), (57, .c (I v.tn)), (58, .c (I i))] [] none g) ?_ (k := d.tests.length)
      ⟨0, _, false, Nat.zero_le _, rfl, by simp, eg, gb, gn, Fg, rfl, ⟨rfl, rfl, rfl, rfl, rfl, rfl, rfl, rfl, rfl, rfl, rfl, rfl, rfl, rfl, trivial⟩, rfl, rfl, rfl, rfl⟩
    clear eg gb gn Fg
    rintro z st ⟨i, g, c0, hi, rfl, hc0, eg, gb, gn, Fg, hs2⟩
    refine hs2.run (hm := false) ?_
    conv => whnf
    cases hci : decide ((i : Int) < (v.tn : Int))
    case false =>
      have : i = d.tests.length := by simp at hci; omega
      subst this
      rw [List.take_length, ← hrb] at hc0
      rw [← hc0] at hsj
      cases c0
      · rw [if_neg (by simp), List.append_nil] at hsj
        conv => whnf
        refine ⟨((j + 1 : Nat) : Int), by rw [wrap_eq (by omega) (by omega)]; omega, ?_⟩
        conv => whnf
        exact ⟨2 ^ d.k - (j + 1), by omega, j + 1, g, by omega, rfl, by rw [hsj]; exact eg, gb, gn, Fg, rfl, ⟨rfl, rfl, rfl, rfl, rfl, rfl, rfl, rfl, rfl, trivial⟩, rfl, rfl, rfl, rfl⟩
      · rw [if_pos rfl] at hsj
        have egn := eg.n
        obtain ⟨ex, h2, hc2, rfl, e2, f2⟩ := open_step hd hs (m := q) (x := j) (by omega) (by omega) eg
        conv => whnf
        refine .inl _ h2 .no hc2 ?_
        conv => whnf
        refine ⟨((j + 1 : Nat) : Int), by rw [wrap_eq (by omega) (by omega)]; omega, ?_⟩
        conv => whnf
        have fn := f2.n
        exact ⟨2 ^ d.k - (j + 1), by omega, j + 1, h2, by omega, rfl, by rw [hsj, ← List.append_assoc]; exact e2, (f2.keep N gn (by omega)).trans gb, by omega, Fg.trans f2, rfl, ⟨rfl, rfl, rfl, rfl, rfl, rfl, rfl, rfl, rfl, trivial⟩, rfl, rfl, rfl, rfl⟩
    have hi : i < d.tests.length := by simp at hci; omega
    have hte := te_all hi false fun t : Nat × Bool => j.testBit t.1 == t.2
    rw [← hc0] at hte
    have ht6 : (d.te i).1 < 6 := by have := hd.ts _ (te_mem hi); have : d.bales.length ≤ 6 := k6; omega
    have egn := eg.n
    conv => whnf
    refine ⟨⟨by omega, by omega⟩, ?_⟩
    conv => whnf
    refine ⟨_, hv.test (bu_test hi), ?_⟩
    conv => whnf
    refine ⟨_, at_push_self _ _, ?_⟩
    conv => whnf
    generalize hG : TMap.set AB.dead (TMap.push AB.dead g _) _ _ = G
    have Gn : G.n = g.n + 1 := by rw [← hG]; exact new_n _ _ _
    have Ga : ∀ i, i < g.n → Heap.at G i = Heap.at g i := fun i hi => by rw [← hG]; exact at_old _ _ _ hi
    have Gt : Heap.at G g.n = .blk [.c (I (d.te i).1), .c (B (d.te i).2)] := by rw [← hG]; exact at_new _ _ _
    have FG : Foot (fun i => Q ≤ i ∧ i < Q + 4) h G := by rw [← hG]; exact Fg.trans ((footNew _ _ _).mono fun i _ hi => hi.elim)
    clear hG
    have eG := eg.up (h' := G) (by omega) (fun i hi => Ga i (by omega))
    cases c0
    · rw [Bool.false_and] at hte
      conv => whnf
      refine draw_by (hm := false) (by kernel_rfl) (by kernel_rfl) ?_
      conv => whnf
      refine ⟨by kernel_rfl, ?_⟩
      conv => whnf
      refine ⟨((i + 1 : Nat) : Int), by rw [wrap_eq (by omega) (by omega)]; omega, ?_⟩
      conv => whnf
      exact ⟨d.tests.length - (i + 1), by omega, i + 1, G, false, by omega, rfl, hte.symm, eG, (Ga N gn).trans gb, by omega, FG, rfl, ⟨rfl, rfl, rfl, rfl, rfl, rfl, rfl, rfl, rfl, rfl, rfl, rfl, rfl, rfl, trivial⟩, rfl, rfl, rfl, rfl⟩
    · rw [Bool.true_and] at hte
      conv => whnf
      refine draw_by (hm := false) (by kernel_rfl) (by kernel_rfl) ?_
      conv => whnf
      refine ⟨_, Gt, ?_⟩
      conv => whnf
      refine ⟨by omega, _, shr_nat j (d.te i).1 (by omega), ?_⟩
      conv => whnf
      refine ⟨_, and_nat (b := 1) (Nat.lt_of_le_of_lt (Nat.shiftRight_le j (d.te i).1) (by omega)) (by omega), ?_⟩
      conv => whnf
      rw [bit_nat]
      refine ⟨_, Gt, ?_⟩
      conv => whnf
      refine ⟨by kernel_rfl, ?_⟩
      conv => whnf
      refine ⟨((i + 1 : Nat) : Int), by rw [wrap_eq (by omega) (by omega)]; omega, ?_⟩
      conv => whnf
      exact ⟨d.tests.length - (i + 1), by omega, i + 1, G, _, by omega, rfl, hte.symm, eG, (Ga N gn).trans gb, by omega, FG, rfl, ⟨rfl, rfl, rfl, rfl, rfl, rfl, rfl, rfl, rfl, rfl, rfl, rfl, rfl, rfl, trivial⟩, rfl, rfl, rfl, rfl⟩
  rw [g1, g2, Bool.and_true] at hrb
  conv => whnf
  refine ⟨_, gb, ?_⟩
  conv => whnf
  refine loop_by (I := fun z st => ∃ (i : Nat) (g : Heap) (c0 : Bool), i ≤ d.tests.length ∧ z = d.tests.length - i ∧ c0 = (true && (d.tests.take i).all fun t => j.testBit t.1 == t.2) ∧ OS v d s a Q ((List.range q).flatMap (ofM d) ++ ((List.range j).filter (rightB d q)).map fun x => (q, x)) g ∧ Heap.at g N = v.blk d.bu ∧ N < g.n ∧ Foot (fun i => Q ≤ i ∧ i < Q + 4) h g ∧
      Has st 82 [(1, openF a Q), (2, .ptr N 0), (4, .c (I q)), (6, .c (I (hold d q).s)), (7, .c (I (hold d q).p)), (8, .c (I j)), (9, .c (B c0)), (14, .c (I (2 ^ d.n : Nat))), (15, .c (I q)), (41, .c (I (2 ^ d.k : Nat))), (42, .c (I j)), (56, .c (.sl v.tc v.ot v.tn)), (57, .c (I v.tn)), (58, .c (I i))] [] none g) ?_ (k := d.tests.length)
    ⟨0, _, true, Nat.zero_le _, rfl, by simp, eg, gb, gn, Fg, rfl, ⟨rfl, rfl, rfl, rfl, rfl, rfl, rfl, rfl, rfl, rfl, rfl, rfl, rfl, rfl, trivial⟩, rfl, rfl, rfl, rfl⟩
  clear eg gb gn Fg
  rintro z st ⟨i, g, c0, hi, rfl, hc0, eg, gb, gn, Fg, hs2⟩
  refine hs2.run (hm := false) ?_
  conv => whnf
  cases hci : decide ((i : Int) < (v.tn : Int))
  case false =>
    have : i = d.tests.length := by simp at hci; omega
    subst this
    rw [List.take_length, ← hrb] at hc0
    rw [← hc0] at hsj
    cases c0
    · rw [if_neg (by simp), List.append_nil] at hsj
      conv => whnf
      refine ⟨((j + 1 : Nat) : Int), by rw [wrap_eq (by omega) (by omega)]; omega, ?_⟩
      conv => whnf
      exact ⟨2 ^ d.k - (j + 1), by omega, j + 1, g, by omega, rfl, by rw [hsj]; exact eg, gb, gn, Fg, rfl, ⟨rfl, rfl, rfl, rfl, rfl, rfl, rfl, rfl, rfl, trivial⟩, rfl, rfl, rfl, rfl⟩
    · rw [if_pos rfl] at hsj
      have egn := eg.n
      obtain ⟨ex, h2, hc2, rfl, e2, f2⟩ := open_step hd hs (m := q) (x := j) (by omega) (by omega) eg
      conv => whnf
      refine .inl _ h2 .no hc2 ?_
      conv => whnf
      refine ⟨((j + 1 : Nat) : Int), by rw [wrap_eq (by omega) (by omega)]; omega, ?_⟩
      conv => whnf
      have fn := f2.n
      exact ⟨2 ^ d.k - (j + 1), by omega, j + 1, h2, by omega, rfl, by rw [hsj, ← List.append_assoc]; exact e2, (f2.keep N gn (by omega)).trans gb, by omega, Fg.trans f2, rfl, ⟨rfl, rfl, rfl, rfl, rfl, rfl, rfl, rfl, rfl, trivial⟩, rfl, rfl, rfl, rfl⟩
  have hi : i < d.tests.length := by simp at hci; omega
  have hte := te_all hi true fun t : Nat × Bool => j.testBit t.1 == t.2
  rw [← hc0] at hte
  have ht6 : (d.te i).1 < 6 := by have := hd.ts _ (te_mem hi); have : d.bales.length ≤ 6 := k6; omega
  have egn := eg.n
  conv => whnf
  refine ⟨⟨by omega, by omega⟩, ?_⟩
  conv => whnf
  refine ⟨_, hv.test (bu_test hi), ?_⟩
  conv => whnf
  refine ⟨_, at_push_self _ _, ?_⟩
  conv => whnf
  generalize hG : TMap.set AB.dead (TMap.push AB.dead g _) _ _ = G
  have Gn : G.n = g.n + 1 := by rw [← hG]; exact new_n _ _ _
  have Ga : ∀ i, i < g.n → Heap.at G i = Heap.at g i := fun i hi => by rw [← hG]; exact at_old _ _ _ hi
  have Gt : Heap.at G g.n = .blk [.c (I (d.te i).1), .c (B (d.te i).2)] := by rw [← hG]; exact at_new _ _ _
  have FG : Foot (fun i => Q ≤ i ∧ i < Q + 4) h G := by rw [← hG]; exact Fg.trans ((footNew _ _ _).mono fun i _ hi => hi.elim)
  clear hG
  have eG := eg.up (h' := G) (by omega) (fun i hi => Ga i (by omega))
  cases c0
  · rw [Bool.false_and] at hte
    conv => whnf
    refine draw_by (hm := false) (by kernel_rfl) (by kernel_rfl) ?_
    conv => whnf
    refine ⟨by kernel_rfl, ?_⟩
    conv => whnf
    refine ⟨((i + 1 : Nat) : Int), by rw [wrap_eq (by omega) (by omega)]; omega, ?_⟩
    conv => whnf
    exact ⟨d.tests.length - (i + 1), by omega, i + 1, G, false, by omega, rfl, hte.symm, eG, (Ga N gn).trans gb, by omega, FG, rfl, ⟨rfl, rfl, rfl, rfl, rfl, rfl, rfl, rfl, rfl, rfl, rfl, rfl, rfl, rfl, trivial⟩, rfl, rfl, rfl, rfl⟩
  · rw [Bool.true_and] at hte
    conv => whnf
    refine draw_by (hm := false) (by kernel_rfl) (by kernel_rfl) ?_
    conv => whnf
    refine ⟨_, Gt, ?_⟩
    conv => whnf
    refine ⟨by omega, _, shr_nat j (d.te i).1 (by omega), ?_⟩
    conv => whnf
    refine ⟨_, and_nat (b := 1) (Nat.lt_of_le_of_lt (Nat.shiftRight_le j (d.te i).1) (by omega)) (by omega), ?_⟩
    conv => whnf
    rw [bit_nat]
    refine ⟨_, Gt, ?_⟩
    conv => whnf
    refine ⟨by kernel_rfl, ?_⟩
    conv => whnf
    refine ⟨((i + 1 : Nat) : Int), by rw [wrap_eq (by omega) (by omega)]; omega, ?_⟩
    conv => whnf
    exact ⟨d.tests.length - (i + 1), by omega, i + 1, G, _, by omega, rfl, hte.symm, eG, (Ga N gn).trans gb, by omega, FG, rfl, ⟨rfl, rfl, rfl, rfl, rfl, rfl, rfl, rfl, rfl, rfl, rfl, rfl, rfl, rfl, trivial⟩, rfl, rfl, rfl, rfl⟩
end Go.Ag
/- Layer 7: the law BurrOpen. -/
namespace Go.Ag
open Go.Proofs
set_option maxRecDepth 100000

def okT (d : Bn) (s : Nat) : Bool := okB d s (truthsL d)
theorem okT_iff {d : Bn} {s : Nat} : okT d s = true ↔ Tells d s := by
  unfold okT okB Tells
  rw [decide_eq_true_eq]
  exact ⟨fun h m x m' x' h1 h2 e => h (m, x) (mem_of.2 h1) (m', x') (mem_of.2 h2) e, fun h p hp q hq e => h p.1 p.2 q.1 q.2 (mem_of.1 hp) (mem_of.1 hq) e⟩
theorem tell_ok {d : Bn} {L : List Nat} (hL : ∀ x, x ∈ L ↔ ∃ m, Tr d m x) (s : Nat) : tellB d.top L s = okT d s := by
  rw [Bool.eq_iff_iff, okT_iff]
  unfold tellB Tells
  rw [decide_eq_true_eq]
  constructor
  · intro h m x m' x' h1 h2 e
    rw [Nat.and_comm x, Nat.and_comm x'] at e ⊢
    exact h x ((hL x).2 ⟨m, h1⟩) x' ((hL x').2 ⟨m', h2⟩) e
  · intro h x hx y hy e
    obtain ⟨m, h1⟩ := (hL x).1 hx
    obtain ⟨m', h2⟩ := (hL y).1 hy
    have := h m x m' y h1 h2 (by rw [Nat.and_comm x, Nat.and_comm y]; exact e)
    rw [Nat.and_comm x, Nat.and_comm y] at this
    exact this
structure OpIs (d : Bn) (s : Nat) : Prop where
  ok : okT d s = true
  lt : s < 2 ^ d.k
  least : ∀ t, t < 2 ^ d.k → okT d t = true → t = s ∨ Less s t
theorem open_is {d : Bn} (hd : d.Good) {L : List Nat} (hL : ∀ x, x ∈ L ↔ ∃ m, Tr d m x) : ∃ s, fewB d L = some s ∧ OpIs d s := by
  obtain ⟨s, hs⟩ := few_some hd (L := L) (fun x hx => by obtain ⟨m, h⟩ := (hL x).1 hx; exact h.lt)
  have hs' := hs
  unfold fewB at hs'
  obtain ⟨h1, h2, h3⟩ := first_least (m := d.k) hd.k6 hs'
  exact ⟨s, hs, by rw [← tell_ok hL]; exact h1, h2, fun t ht hq => h3 t ht (by rw [tell_ok hL]; exact hq)⟩
theorem open_zero {d : Bn} (hd : d.Good) (hc : canB d = true) {s : Nat} (h : OpIs d s) : decide (s = 0) = decide ((balesB d).s &&& d.top = (balesB d).p &&& d.top) := by
  rw [decide_eq_decide, ← tells_zero hd hc, ← okT_iff]
  constructor
  · rintro rfl; exact h.ok
  · intro h0
    rcases h.least 0 (Nat.pow_pos (by omega)) h0 with h1 | h1
    · exact h1.symm
    · unfold Less at h1
      have : popB 0 = 0 := by decide
      omega
theorem open_drop {d : Bn} (hd : d.Good) {s q : Nat} (h : OpIs d s) (hq : q < d.k) (hb : s.testBit q = true) : okT d (diffN s (2 ^ q)) = false := by
  have k6 : d.k ≤ 6 := hd.k6
  have hp := pow_b k6
  have h1 := h.lt
  have hpd := pop_drop s (by omega) q (by omega) hb
  cases hc : okT d (diffN s (2 ^ q))
  · rfl
  · exfalso
    rcases h.least _ (diffN_lt h1) hc with h2 | h2
    · rw [h2] at hpd; omega
    · unfold Less at h2; omega
set_option maxHeartbeats 4000000 in
theorem open41 {v : BV} {d : Bn} (hv : v.Is d.bu) (hd : d.Good) {s : Nat} (hs : s < 64) {a : Nat} {h : Heap} (ha : Heap.at h a = v.blk d.bu) (han : a < h.n) :
    ∃ e h', CallOk Tryz.prog 41 [.c (I s), .ptr a 0] h .no e h' .no ∧ (e = .ret (.c (B (okT d s))) ∧ Foot none' h h') := by
  refine call_by (hm := false) Tryz.func41 rfl ?_
  conv => whnf
  generalize hH : TMap.push AB.dead (TMap.push AB.dead (TMap.push AB.dead (TMap.push AB.dead h _) _) _) _ = H
  obtain ⟨Q, hQ⟩ : ∃ Q, Q = h.n := ⟨_, rfl⟩
  have Hn : H.n = Q + 4 := by rw [← hH, hQ]; rfl
  have c0 : Heap.at H a = v.blk d.bu := by rw [← hH]; exact (at_push_lt _ _ (by simp only [push_n]; omega)).trans ((at_push_lt _ _ (by simp only [push_n]; omega)).trans ((at_push_lt _ _ (by simp only [push_n]; omega)).trans ((at_push_lt _ _ han).trans ha)))
  have c1 : Heap.at H Q = .blk [.c (I s)] := by rw [← hH, hQ]; exact (at_push_lt _ _ (by simp only [push_n]; omega)).trans ((at_push_lt _ _ (by simp only [push_n]; omega)).trans ((at_push_lt _ _ (by simp only [push_n]; omega)).trans (at_push_self _ _)))
  have c2 : Heap.at H (Q + 1) = .map [] [] [] 0 := by rw [← hH, hQ]; exact (at_push_lt _ _ (by simp only [push_n]; omega)).trans ((at_push_lt _ _ (by simp only [push_n]; omega)).trans (at_push_self _ _))
  have c3 : Heap.at H (Q + 2) = .blk [AV.lit (.map none)] := by rw [← hH, hQ]; exact (at_push_lt _ _ (by simp only [push_n]; omega)).trans (at_push_self _ _)
  have c4 : Heap.at H (Q + 3) = .blk [AV.lit (.bool false)] := by rw [← hH, hQ]; exact at_push_self _ _
  have fH : Foot none' h H := by rw [← hH]; exact ((((Foot.refl _ _).push _).push _).push _).push _
  clear hH
  subst hQ
  refine ⟨_, c3, ?_⟩
  conv => whnf
  refine ⟨_, (at_set_ne _ _ (by simp only [push_n]; omega)).trans c4, ?_⟩
  conv => whnf
  generalize hG : TMap.set AB.dead (TMap.set AB.dead H _ _) _ _ = G
  have Gn : G.n = h.n + 4 := by rw [← hG, TMap.set_n, TMap.set_n]; exact Hn
  have hk : ∀ i, i ≠ h.n + 2 → i ≠ h.n + 3 → Heap.at G i = Heap.at H i := fun i h1 h2 => by rw [← hG]; exact (at_set_ne _ _ h2).trans (at_set_ne _ _ h1)
  have d3 : Heap.at G (h.n + 2) = .blk [.map (h.n + 1)] := by rw [← hG]; exact (at_set_ne _ _ (by simp only [push_n]; omega)).trans (at_set_self _ _ (by show h.n + 2 < H.n; omega))
  have d4 : Heap.at G (h.n + 3) = .blk [.c (B true)] := by rw [← hG]; exact at_set_self _ _ (by rw [TMap.set_n]; show h.n + 3 < H.n; omega)
  have fG : Foot none' h G := by rw [← hG]; exact Foot.set (k := h.n + 3) (Foot.set (k := h.n + 2) fH (.inr (by omega)) _) (.inr (by omega)) _
  clear hG
  have d0 := (hk a (by omega) (by omega)).trans c0
  have e0 : OS v d s a h.n [] G := ⟨d0, (hk h.n (by omega) (by omega)).trans c1, imap_eq ((hk (h.n + 1) (by omega) (by omega)).trans c2) ⟨[], [], [], 0, rfl, rfl, fun i k v hi => by simp at hi, fun k v hp => by obtain ⟨p, hp, _⟩ := hp; cases hp⟩, d3, d4, by omega, han⟩
  obtain ⟨ex, K, hc, rfl, eK, fK⟩ := every_open hv hd hs e0
  refine ⟨_, d0, ?_⟩
  conv => whnf
  refine .inl _ K .no hc ?_
  conv => whnf
  refine ⟨_, eK.bd, ?_⟩
  conv => whnf
  exact ⟨rfl, fG.trans_up (N := h.n) (fK.mono fun i _ hi => hi.1) (Nat.le_refl _)⟩
set_option maxHeartbeats 8000000 in
theorem openLaw_ret {v : BV} {c : Bu} (h : v.IsS c) (hA : Ret Tryz.prog 13 [] (B true)) (w : Nat) (hw : w < 256) : Ret Tryz.prog 8 [v.cv c, .lit (.int .u8 w)] (B true) := by
  have hv := h.toIs
  have r6 := ref_ret hv
  refine ret_then (hm := true) Tryz.func8 rfl ?_
  conv => whnf
  repeat (refine then_seq (hm := true) ?_; conv => whnf)
  refine .ret (h.far) rfl ?_
  conv => whnf
  refine .ret (r6) rfl ?_
  conv => whnf
  cases hval : validB c
  · conv => whnf
    repeat (refine then_seq (hm := true) ?_; conv => whnf)
    refine .ret (hA) rfl ?_
    conv => whnf
    exact .val
  obtain ⟨d, hd, h6, rfl⟩ := (valid_iff hv.rg).1 hval
  have e2 : v.bn = d.k := hv.bn.trans (bu_k d)
  have k6 : d.k ≤ 6 := hd.k6
  have hp := pow_b k6
  have x2 := balesX_ret hv hd h6
  cases hc : canB d
  case false =>
    rw [hc, if_neg (by simp)] at x2
    conv => whnf
    repeat (refine then_seq (hm := true) ?_; conv => whnf)
    refine .ret (openX_no hv hd h6 hc) rfl ?_
    conv => whnf
    repeat (refine then_seq (hm := true) ?_; conv => whnf)
    refine .ret (x2) rfl ?_
    conv => whnf
    repeat (refine then_seq (hm := true) ?_; conv => whnf)
    refine .ret (hA) rfl ?_
    conv => whnf
    exact .val
  rw [hc, if_pos rfl] at x2
  obtain ⟨cv, L, hR, hns, hlen, hL⟩ := burrs_ex hd hc
  obtain ⟨s, hs, hi⟩ := open_is hd hL
  have hx : ∀ x ∈ L, x < 64 := fun x hx => tr_lt hd ((hL x).1 hx)
  have ho := openX_ret hv hd h6 hR hns hlen hx hc hs
  have hslt := hi.lt
  have hz := open_zero hd hc hi
  have hbl := balesB_Lt hd
  have htop := top_lt hd
  obtain ⟨N, hN⟩ : ∃ N, N = 2 ^ d.k - 1 := ⟨_, rfl⟩
  conv => whnf
  repeat (refine then_seq (hm := true) ?_; conv => whnf)
  refine .ret (ho) rfl ?_
  conv => whnf
  repeat (refine then_seq (hm := true) ?_; conv => whnf)
  refine .ret (x2) rfl ?_
  conv => whnf
  repeat (refine then_seq (hm := true) ?_; conv => whnf)
  refine ⟨by omega, _, shl_nat 1 v.bn (by omega) (by rw [e2]; omega), ?_⟩
  conv => whnf
  refine ⟨(N : Int), by rw [wrap_eq (by rw [e2]; omega) (by rw [e2]; omega), e2]; omega, ?_⟩
  conv => whnf
  repeat (refine then_seq (hm := false) ?_; conv => whnf)
  rw [decide_eq_false (show ¬ (s : Int) < 0 by omega)]
  conv => whnf
  rw [decide_eq_false (show ¬ (s : Int) > (N : Int) by omega)]
  conv => whnf
  refine .ret (lsize_ret (n := s) (by omega)) rfl ?_
  conv => whnf
  rw [show (((popB s : Nat) : Int) != ((popB s : Nat) : Int)) = false by simp]
  conv => whnf
  refine callW_ex (open41 hv hd (s := s) (by omega) (a := 0) rfl (Nat.zero_lt_succ _)) ?_
  rintro e1 H1 ⟨he1, f1⟩
  rw [hi.ok] at he1
  subst he1
  have n1 : 0 < H1.n := Nat.lt_of_lt_of_le (Nat.zero_lt_succ _) f1.n
  have b1 : Heap.at H1 0 = v.blk d.bu := (f1.keep 0 (Nat.zero_lt_succ _) (fun x => x)).trans rfl
  conv => whnf
  refine ⟨_, b1, ?_⟩
  conv => whnf
  refine ⟨_, and_nat (a := (balesB d).s) (b := d.top) (by have := hbl.s; omega) (by omega), ?_⟩
  conv => whnf
  refine ⟨_, b1, ?_⟩
  conv => whnf
  refine ⟨_, and_nat (a := (balesB d).p) (b := d.top) (by have := hbl.p; omega) (by omega), ?_⟩
  conv => whnf
  have z1 : (((s : Nat) : Int) == 0) = decide (s = 0) := by rw [Bool.eq_iff_iff, beq_iff_eq, decide_eq_true_eq]; omega
  have z2 : (((((balesB d).s &&& d.top : Nat)) : Int) == (((balesB d).p &&& d.top : Nat) : Int)) = decide (s = 0) := by rw [hz, Bool.eq_iff_iff, beq_iff_eq, decide_eq_true_eq]; omega
  refine ⟨_, bool_neq (a := decide (s = 0)) (b := decide (s = 0)) (by rfl) (by rw [← z1]; rfl) (by rw [← z2]; rfl) _ _, ?_⟩
  conv => whnf
  rw [show (decide (s = 0) != decide (s = 0)) = false by cases decide (s = 0) <;> rfl]
  conv => whnf
  refine ⟨_, andNot_nat (a := s) (b := N) (by omega) (by omega), ?_⟩
  conv => whnf
  have hdz : diffN s N = 0 := diff_zero.2 fun i hb => by rw [hN, Nat.testBit_two_pow_sub_one, decide_eq_true (bit_lt hslt hb)]
  rw [hdz]
  conv => whnf
  repeat (refine then_seq (hm := false) ?_; conv => whnf)
  refine ⟨_, b1, ?_⟩
  conv => whnf
  refine loop_by (I := fun z st => ∃ (q : Nat) (g : Heap), q ≤ d.k ∧ z = d.k - q ∧ Heap.at g 0 = v.blk d.bu ∧ 0 < g.n ∧
    Has st 150 [(1, .c (.lit (.int .u8 w))), (5, .c (I (popB s : Nat))), (6, .c (I s)), (11, .func (.func 41) [] [.ptr 0 0]), (12, .c (I N)), (104, .c (I v.bn)), (105, .c (I q))] [] none g) ?_ (k := d.k)
    ⟨0, _, Nat.zero_le _, rfl, b1, n1, rfl, ⟨rfl, rfl, rfl, rfl, rfl, rfl, rfl, trivial⟩, rfl, rfl, rfl, rfl⟩
  rintro z st ⟨q, g, hq, rfl, g0, gn, hs1⟩
  refine hs1.run (hm := false) ?_
  conv => whnf
  cases hcq : decide ((q : Int) < (v.bn : Int))
  case true =>
    have hq : q < d.k := by simp at hcq; omega
    conv => whnf
    refine ⟨by omega, _, shr_nat s q (by omega), ?_⟩
    conv => whnf
    refine ⟨_, and_nat (b := 1) (Nat.lt_of_le_of_lt (Nat.shiftRight_le s q) (by omega)) (by omega), ?_⟩
    conv => whnf
    rw [bit_nat]
    cases hb : s.testBit q
    · conv => whnf
      refine ⟨((q + 1 : Nat) : Int), by rw [wrap_eq (by omega) (by omega)]; omega, ?_⟩
      conv => whnf
      exact ⟨d.k - (q + 1), by omega, q + 1, g, by omega, rfl, g0, gn, rfl, ⟨rfl, rfl, rfl, rfl, rfl, rfl, rfl, trivial⟩, rfl, rfl, rfl, rfl⟩
    · have hno := open_drop hd hi hq hb
      have h2q : 2 ^ q ≤ 2 ^ 6 := Nat.pow_le_pow_right (by omega) (by omega)
      conv => whnf
      refine ⟨by omega, ((2 ^ q : Nat) : Int), (shl_nat 1 q (by omega) (by omega)).trans (by rw [Nat.one_mul]), ?_⟩
      conv => whnf
      refine ⟨_, andNot_nat (by omega) (by omega), ?_⟩
      conv => whnf
      refine callW_ex (open41 hv hd (s := diffN s (2 ^ q)) (by have := diffN_lt (n := 6) (a := s) (b := 2 ^ q) (by omega); omega) (a := 0) g0 gn) ?_
      rintro e3 G ⟨he3, f3⟩
      rw [hno] at he3
      subst he3
      have n3 := f3.n
      conv => whnf
      refine ⟨((q + 1 : Nat) : Int), by rw [wrap_eq (by omega) (by omega)]; omega, ?_⟩
      conv => whnf
      exact ⟨d.k - (q + 1), by omega, q + 1, _, by omega, rfl, (f3.keep 0 gn (fun x => x)).trans g0, by omega, rfl, ⟨rfl, rfl, rfl, rfl, rfl, rfl, rfl, trivial⟩, rfl, rfl, rfl, rfl⟩
  conv => whnf
  repeat (refine then_seq (hm := false) ?_; conv => whnf)
  rw [wrap_u8j hw]
  refine ⟨_, and_nat (b := N) (by omega) (by omega), ?_⟩
  conv => whnf
  have hand : w &&& N ≤ N := Nat.and_le_right
  generalize w &&& N = X at hand
  repeat (refine then_seq (hm := false) ?_; conv => whnf)
  refine callW_ex (open41 hv hd (s := X) (by omega) (a := 0) g0 gn) ?_
  rintro e3 G ⟨rfl, f3⟩
  cases hbx : okT d X
  case false =>
    conv => whnf
    refine .ret (hA) rfl ?_
    conv => whnf
    refine then_end (hm := false) ?_
    conv => whnf
    exact .val
  have hleast := hi.least X (by omega) hbx
  conv => whnf
  refine .ret (lsize_ret (n := X) (by omega)) rfl ?_
  conv => whnf
  cases hgt : decide ((popB X : Int) > (popB s : Int))
  case true =>
    conv => whnf
    refine .ret (hA) rfl ?_
    conv => whnf
    refine then_end (hm := false) ?_
    conv => whnf
    exact .val
  have hgt : ¬ popB X > popB s := by simpa using hgt
  have heq : popB s = popB X ∧ s ≤ X := by
    rcases hleast with rfl | h1
    · exact ⟨rfl, Nat.le_refl _⟩
    · unfold Less at h1; omega
  conv => whnf
  refine .ret (lsize_ret (n := X) (by omega)) rfl ?_
  conv => whnf
  rw [show (((popB X : Nat) : Int) == ((popB s : Nat) : Int)) = true by rw [beq_iff_eq]; omega]
  conv => whnf
  rw [show decide ((X : Int) ≥ (s : Int)) = true by simp; omega]
  conv => whnf
  refine .ret (hA) rfl ?_
  conv => whnf
  refine then_end (hm := false) ?_
  conv => whnf
  exact .val
end Go.Ag
