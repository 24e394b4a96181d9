/- Contracts of functions of layer 2: what is possible, a pen, which pens are dry, the sheep. No conditions. -/
import Derived.Test.YthoappjepbaocaaDrA
/- Layer 2: is there a truth? -/
namespace Go.Ag
open Go.Proofs
set_option maxRecDepth 100000

def okS (f : Fl) (s : Nat) : Bool := decide (among f.least s ≤ roomF f s) && decide (needF f s ≤ among f.most s)
def possibleF (f : Fl) : Bool := allTo (okS f) (2 ^ f.mobs)

def wetC (g : Nat → Int) : CV := .agg (row4 g)
def boundsBlk (f : Fl) : AB := .blk [.c (.func (.func 87) [wetC f.least] []), .c (.func (.func 89) [flCV f] []), .c (.func (.func 88) [flCV f] []), .c (.func (.func 87) [wetC f.most] [])]

theorem upN_sets (m : Nat) : upN 0 ((2 ^ m - 1 : Nat) : Int) = 2 ^ m := by
  have := Nat.two_pow_pos m
  unfold upN; omega

set_option maxHeartbeats 1000000 in
theorem possible_ret {f : Fl} (hf : FlOk f) : Ret Try.prog 101 [flCV f] (B (possibleF f)) := by
  have hm := hf.mobs
  have h16 : 2 ^ f.mobs ≤ 16 := (pow_small hm (Nat.two_pow_pos f.mobs)).2
  refine ret_by (hm := false) Try.func101 rfl ?_
  conv => whnf
  refine ⟨flBlkC f, rfl, ?_⟩
  conv => whnf
  refine ⟨flBlkC f, rfl, ?_⟩
  conv => whnf
  refine ⟨flBlkC f, rfl, ?_⟩
  conv => whnf
  refine ⟨flBlkC f, rfl, ?_⟩
  conv => whnf
  refine ⟨_, at_push_self _ _, ?_⟩
  conv => whnf
  refine ⟨_, at_push_self _ _, ?_⟩
  conv => whnf
  refine ⟨flBlkC f, by kernel_rfl, ?_⟩
  conv => whnf
  refine .ret (sets_ret f.mobs (by omega)) rfl ?_
  conv => whnf
  refine range_n (hm := false) 3 rfl (it := upC 0 ((2 ^ f.mobs - 1 : Nat) : Int)) (ys := upL 0 (2 ^ f.mobs) 0) rfl ?_
    (I := fun ys h => Heap.at h 1 = boundsBlk f ∧ Heap.at h 2 = .blk [.c (B true)] ∧ ∃ j, j ≤ 2 ^ f.mobs ∧ ys = upL 0 (2 ^ f.mobs) j ∧ allTo (okS f) j = true)
    (E := fun e h => e = .exit 0 ∧ Heap.at h 2 = .blk [.c (B false)] ∧ possibleF f = false) (X := fun _ _ => False) ?_ ?_ ?_ ?_ ?_ ?_ ?_
  · have := up_iter (lo := 0) (hi := ((2 ^ f.mobs - 1 : Nat) : Int)) (by unfold tame; omega) (by unfold tame; omega)
    rw [upN_sets] at this
    exact this
  · rintro ys h h' ⟨h1, h2, h3⟩ hn ff
    exact ⟨(ff.below hn (show 1 < 3 by omega)).trans h1, (ff.below hn (show 2 < 3 by omega)).trans h2, h3⟩
  · rintro e h h' ⟨h1, h2, h3⟩ hn ff
    exact ⟨h1, (ff.below hn (show 2 < 3 by omega)).trans h2, h3⟩
  · exact ⟨by kernel_rfl, by kernel_rfl, 0, Nat.zero_le _, rfl, rfl⟩
  · rintro y ys h hn ⟨h1, h2, j, hj, hys, hall⟩
    have hlt : j < 2 ^ f.mobs := Nat.lt_of_not_le fun hle => by rw [upL_nil hle] at hys; cases hys
    rw [upL_cons hlt] at hys
    obtain ⟨rfl, rfl⟩ := List.cons.inj hys
    rw [Int.zero_add]
    conv => whnf
    refine ⟨rfl, fun hb fb hbn => ?_⟩
    have h1b := (fb.keep 1 (by omega) (by omega)).trans h1
    have h2b := (fb.keep 2 (by omega) (by omega)).trans h2
    conv => whnf
    refine ⟨boundsBlk f, h1b, ?_⟩
    conv => whnf
    refine loop_by (I := fun k s => ∃ (i : Nat) (h' : Heap), i ≤ 2 ∧ k = 2 - i ∧ Foot (fun i => i < 3) hb h' ∧ Heap.at h' 1 = boundsBlk f ∧ Heap.at h' 2 = .blk [.c (B true)] ∧ (1 ≤ i → among f.least j ≤ roomF f j) ∧ (2 ≤ i → needF f j ≤ among f.most j) ∧
      Has s 40 [(4, .ptr 2 0), (5, .c (I j)), (25, .c (.agg [.func (.func 87) [wetC f.least] [], .func (.func 89) [flCV f] [], .func (.func 88) [flCV f] [], .func (.func 87) [wetC f.most] []])), (26, .c (I i))] [] (some 4) h') ?_ (k := 2)
      ⟨0, hb, by omega, rfl, Foot.refl _ _, h1b, h2b, by omega, by omega, rfl, ⟨rfl, rfl, rfl, rfl, trivial⟩, rfl, rfl, rfl, rfl⟩
    rintro k s ⟨i, h', hi, rfl, ff, k1, k2, b1, b2, hs⟩
    have hn' : 5 ≤ h'.n := by have := ff.n; omega
    have hfoot : ∀ a b, Foot (fun i => i < 3) hb ((h'.push .dead a).set .dead h'.n b) := fun a b => Foot.set (ff.push a) (.inr ff.n) b
    refine hs.run (hm := false) ?_
    conv => whnf
    cases hc : decide ((i : Int) < 2)
    case true =>
      have hi : i < 2 := by simp at hc; omega
      obtain rfl | rfl : i = 0 ∨ i = 1 := by omega
      · conv => whnf
        refine ⟨_, at_push_self _ _, ?_⟩
        conv => whnf
        refine draw_by (hm := false) (by kernel_rfl) (by kernel_rfl) ?_
        conv => whnf
        refine ⟨_, at_new _ _ _, ?_⟩
        conv => whnf
        refine .ret (among_ret f.least j (by omega) (fun i _ => (hf.least i).tame)) rfl ?_
        conv => whnf
        refine ⟨_, at_new _ _ _, ?_⟩
        conv => whnf
        refine .ret (room_ret hf hlt) rfl ?_
        conv => whnf
        refine ⟨by kernel_rfl, ?_⟩
        conv => whnf
        cases hg : decide (among f.least j > roomF f j)
        · conv => whnf
          refine ⟨1, wrap_eq (by decide) (by decide), ?_⟩
          conv => whnf
          simp at hg
          exact ⟨1, by omega, 1, _, by omega, rfl, hfoot _ _, (at_old _ _ _ (by omega)).trans k1, (at_old _ _ _ (by omega)).trans k2, fun _ => hg, by omega, rfl, ⟨rfl, rfl, rfl, rfl, trivial⟩, rfl, rfl, rfl, rfl⟩
        · conv => whnf
          refine ⟨_, (at_old _ _ _ (by omega)).trans k2, ?_⟩
          conv => whnf
          simp at hg
          exact ⟨Foot.set (hfoot _ _) (.inl (by decide)) _, rfl, at_set_self _ _ (by show 2 < h'.n + 1; omega), allTo_false hlt (by simp [okS]; omega)⟩
      · conv => whnf
        refine ⟨_, at_push_self _ _, ?_⟩
        conv => whnf
        refine draw_by (hm := false) (by kernel_rfl) (by kernel_rfl) ?_
        conv => whnf
        refine ⟨_, at_new _ _ _, ?_⟩
        conv => whnf
        refine .ret (need_ret hf hlt) rfl ?_
        conv => whnf
        refine ⟨_, at_new _ _ _, ?_⟩
        conv => whnf
        refine .ret (among_ret f.most j (by omega) (fun i _ => (hf.most i).tame)) rfl ?_
        conv => whnf
        refine ⟨by kernel_rfl, ?_⟩
        conv => whnf
        cases hg : decide (needF f j > among f.most j)
        · conv => whnf
          refine ⟨2, wrap_eq (by decide) (by decide), ?_⟩
          conv => whnf
          simp at hg
          exact ⟨0, by omega, 2, _, by omega, rfl, hfoot _ _, (at_old _ _ _ (by omega)).trans k1, (at_old _ _ _ (by omega)).trans k2, fun _ => b1 (by omega), fun _ => hg, rfl, ⟨rfl, rfl, rfl, rfl, trivial⟩, rfl, rfl, rfl, rfl⟩
        · conv => whnf
          refine ⟨_, (at_old _ _ _ (by omega)).trans k2, ?_⟩
          conv => whnf
          simp at hg
          exact ⟨Foot.set (hfoot _ _) (.inl (by decide)) _, rfl, at_set_self _ _ (by show 2 < h'.n + 1; omega), allTo_false hlt (by simp [okS]; omega)⟩
    have : i = 2 := by simp at hc; omega
    subst this
    conv => whnf
    exact ⟨ff, k1, k2, j + 1, hlt, rfl, allTo_succ hall (by simp [okS, b1 (by omega), b2 (by omega)])⟩
  · rintro h hn hc ⟨h1, h2, j, hj, hys, hall⟩
    have : j = 2 ^ f.mobs := Nat.le_antisymm hj (Nat.le_of_not_lt fun hlt => by rw [upL_cons hlt] at hys; cases hys)
    subst this
    have : possibleF f = true := hall
    rw [this]
    conv => whnf
    refine ⟨_, h2, ?_⟩
    conv => whnf
    refine ⟨_, hc, ?_⟩
    conv => whnf
    exact .val
  · rintro e h hn hc ⟨rfl, h2, hp⟩ _
    rw [hp]
    conv => whnf
    refine ⟨_, h2, ?_⟩
    conv => whnf
    refine ⟨_, hc, ?_⟩
    conv => whnf
    exact .val
  · rintro v h _ _ hx
    exact hx.elim
end Go.Ag
/- Layer 2: a pen is held fixed. -/
namespace Go.Ag
open Go.Proofs
set_option maxRecDepth 100000

def setPen (f : Fl) (k : Nat) (p : Pn) : Fl := { f with pens := f.pens.set k p }
def penC (p : Pn) : CV := .agg (rowPn p)

theorem penOf_ret {f : Fl} {k : Nat} (hk : k < f.pens.length) : Ret Try.prog 130 [.agg [I k], flCV f] (penC (penF f k)) := by
  refine ret_by (hm := true) Try.func130 rfl ?_
  conv => whnf
  refine ⟨⟨by omega, by omega⟩, ?_⟩
  conv => whnf
  refine ⟨_, fl_pen hk, ?_⟩
  conv => whnf
  exact .val

set_option maxHeartbeats 4000000 in
theorem instead_ret {f : Fl} {k : Nat} (hk : k < f.pens.length) (h5 : f.pens.length ≤ 5) (p : Pn) : Ret Try.prog 131 [.agg [I k], flCV f, penC p] (flCV (setPen f k p)) := by
  obtain ⟨m, l1, l2, l3, ps⟩ := f
  simp only at hk h5
  rcases ps with _ | ⟨p0, _ | ⟨p1, _ | ⟨p2, _ | ⟨p3, _ | ⟨p4, _ | ⟨p5, ps⟩⟩⟩⟩⟩⟩
  case nil => simp at hk
  case cons.cons.cons.cons.cons.cons => simp only [List.length_cons] at h5; omega
  all_goals
    simp only [List.length_cons, List.length_nil] at hk
    rcases k with _ | _ | _ | _ | _ | k
    any_goals (exfalso; omega)
  all_goals
    refine ret_by (hm := true) Try.func131 rfl ?_
    conv => whnf
    refine ⟨_, rfl, ?_⟩
    conv => whnf
    refine ⟨⟨rfl, by decide, by simp only [List.length_cons, List.length_nil]; omega⟩, ?_⟩
    conv => whnf
    exact ⟨200, _, rfl⟩

theorem given_pen_ret {f : Fl} {k : Nat} (hk : k < f.pens.length) : Ret Try.prog 127 [.agg [I k], flCV f] (.agg [I (penF f k).lo, I (penF f k).hi]) := by
  refine ret_by (hm := true) Try.func127 rfl ?_
  conv => whnf
  refine .ret (penOf_ret hk) rfl ?_
  conv => whnf
  exact .val
theorem named_pen_ret (k : Nat) (n : Int) : Ret Try.prog 129 [.agg [I k], I n] (.agg [I (-1), I k, I n]) := by
  refine ret_by (hm := true) Try.func129 rfl ?_
  conv => whnf
  exact .val
def fixPen (p : Pn) (n : Int) : Pn := ⟨p.fr, n, n⟩
theorem hold_pen_ret {f : Fl} {k : Nat} (hk : k < f.pens.length) (h5 : f.pens.length ≤ 5) (n : Int) : Ret Try.prog 128 [.agg [I k], flCV f, I n] (flCV (setPen f k (fixPen (penF f k) n))) := by
  refine ret_by (hm := true) Try.func128 rfl ?_
  conv => whnf
  refine .ret (penOf_ret hk) rfl ?_
  conv => whnf
  refine .ret (instead_ret hk h5 (fixPen (penF f k) n)) rfl ?_
  conv => whnf
  exact .val
end Go.Ag
/- Layer 2: what is kept in a map. -/
namespace Go.Ag
open Go.Proofs
set_option maxRecDepth 100000
theorem u3 : pureRun Try.prog (underlying 3) = some (.int .i64) := by kernel_rfl
theorem eq_int (d : Nat) (a b : Int) : pureRun Try.prog (Op.equalIn (d + 1) 3 (.int .i64 a) (.int .i64 b)) = some (a == b) := by
  unfold Op.equalIn
  rw [pureRun_bind, u3]
  simp
  rfl
theorem pureRun_ite {α : Type} (P : Program) (c : Prop) [Decidable c] (x y : Sem α) : pureRun P (if c then x else y) = if c then pureRun P x else pureRun P y := by by_cases h : c <;> simp [h]
def fld (n : String) (t o b : Nat) : Field := { name := n, type := t, offset := o, embedded := false, tag := "", pkgPath := "shearworks/dry", byteOffset := b }
theorem u112 : pureRun Try.prog (underlying 112) = some (.struct #[fld "mob" 3 0 0, fld "pen" 3 1 8, fld "wet" 3 2 16]) := by kernel_rfl
theorem u115 : pureRun Try.prog (underlying 115) = some (.struct #[fld "findings" 3 0 0, fld "held" 112 1 8]) := by kernel_rfl
theorem pp0 : pureRun Try.prog program = some Try.prog := by kernel_rfl
theorem st112 : Try.prog.stoodInHeld 112 = false := by kernel_rfl
theorem st115 : Try.prog.stoodInHeld 115 = false := by kernel_rfl
theorem part3 (v : Array Value) (i : Nat) (x : Value) (h : v[i]? = some x) : pureRun Try.prog (part 3 v i) = some x := by
  have ha : pureRun Try.prog (isAgg 3) = some false := by kernel_rfl
  unfold part
  rw [pureRun_bind, ha]
  simp only [Option.bind_some, Bool.false_eq_true, if_false, h]
  rfl
theorem eq_held (d : Nat) (a b c a' b' c' : Int) : pureRun Try.prog (Op.equalIn (d + 1 + 1) 112 (.agg #[.int .i64 a, .int .i64 b, .int .i64 c]) (.agg #[.int .i64 a', .int .i64 b', .int .i64 c'])) = some (decide (a = a' ∧ b = b' ∧ c = c')) := by
  rw [Op.equalIn.eq_def]
  simp only [pureRun_bind, u112, Option.bind_some, pp0, pureRun_ite, st112, Bool.false_eq_true, if_false]
  simp [pureRun_bind, pureRun_ite, fld, part3, eq_int, pureRun_pure]
  by_cases h1 : a = a'
  · by_cases h2 : b = b'
    · by_cases h3 : c = c'
      · simp [pureRun_bind, pureRun_ite, part3, eq_int, pureRun_pure, h1, h2, h3]
      · simp [pureRun_bind, pureRun_ite, part3, eq_int, pureRun_pure, h1, h2, h3]
    · simp [pureRun_bind, pureRun_ite, part3, eq_int, pureRun_pure, h1, h2]
  · simp [pureRun_pure, h1]

/-- What is supposed: a set of findings, a mob, a pen, a number. -/
structure K4 where
  a : Int
  b : Int
  c : Int
  e : Int
  deriving DecidableEq
def K4.v (k : K4) : Value := .agg #[.int .i64 k.a, .int .i64 k.b, .int .i64 k.c, .int .i64 k.e]
def K4.cv (k : K4) : CV := .agg [I k.a, I k.b, I k.c, I k.e]
theorem K4.toVal (k : K4) : (AV.c k.cv).toVal = some k.v := rfl
theorem K4.v_inj {k l : K4} (h : k.v = l.v) : k = l := by
  cases k; cases l; simp [K4.v] at h; simp [h]

theorem key_ok (k : K4) (e : Bool) : pureRun Try.prog (Instr.checkKey e 10000 115 k.v) = some () := by kernel_rfl

theorem part112 (a b c e : Int) : pureRun Try.prog (part 112 #[.int .i64 a, .int .i64 b, .int .i64 c, .int .i64 e] 1) = some (.agg #[.int .i64 b, .int .i64 c, .int .i64 e]) := by kernel_rfl
theorem eq_key' (d : Nat) (k l : K4) : pureRun Try.prog (Op.equalIn (d + 1 + 1 + 1) 115 k.v l.v) = some (decide (k = l)) := by
  obtain ⟨a, b, c, e⟩ := k
  obtain ⟨a', b', c', e'⟩ := l
  rw [Op.equalIn.eq_def]
  simp only [pureRun_bind, u115, Option.bind_some, pp0, pureRun_ite, st115, Bool.false_eq_true, if_false, K4.v]
  simp [pureRun_bind, pureRun_ite, fld, part3, eq_int, pureRun_pure]
  by_cases h1 : a = a'
  · by_cases h2 : b = b' ∧ c = c' ∧ e = e'
    · simp [pureRun_bind, pureRun_ite, part112, eq_held, pureRun_pure, h1, h2]
    · simp [pureRun_bind, pureRun_ite, part112, eq_held, pureRun_pure, h1, h2]
      exact fun x y z => h2 ⟨x, y, z⟩
  · simp [pureRun_pure, h1]
theorem key_eq (k l : K4) : pureRun Try.prog (Op.equal 115 k.v l.v) = some (decide (k = l)) := eq_key' 9997 k l

theorem find_key (k : K4) : ∀ (ks : List K4) (i : Nat), ∃ r, pureRun Try.prog (Instr.findAsking 115 k.v (ks.map fun l => { key := l.v, val := Go.undef, born := 0 }) i) = some r ∧
    match r with
    | none => k ∉ ks
    | some (j, _) => i ≤ j ∧ ks[j - i]? = some k
  | [], i => ⟨none, rfl, by simp⟩
  | l :: ks, i => by
    simp only [List.map_cons, Instr.findAsking, pureRun_bind, key_eq, Option.bind_some, pureRun_ite]
    by_cases h : k = l
    · subst h
      exact ⟨some (i, Go.undef), by simp [pureRun_pure], Nat.le_refl _, by simp⟩
    · obtain ⟨r, h1, h2⟩ := find_key k ks (i + 1)
      refine ⟨r, by simp [h, h1], ?_⟩
      cases r with
      | none => simp only at h2 ⊢; simp [h, h2]
      | some p =>
        simp only at h2 ⊢
        refine ⟨by omega, ?_⟩
        rw [show p.1 - i = (p.1 - (i + 1)) + 1 by omega, List.getElem?_cons_succ]
        exact h2.2

theorem key_index (k : K4) (ks : List K4) (e : Bool) : ∃ r, keyIndex Try.prog 115 (ks.map K4.v) e k.v = some r ∧ match r with
    | none => k ∉ ks
    | some j => ks[j]? = some k := by
  obtain ⟨r, h1, h2⟩ := find_key k ks 0
  have hn : pureRun Try.prog (Instr.findKey 115 k.v ((ks.map K4.v).map fun l => { key := l, val := Go.undef, born := 0 })) = some r := by
    simp only [Instr.findKey, pureRun_bind, u115, Option.bind_some, List.map_map, Function.comp_def]
    cases ks with
    | nil => exact h1
    | cons l ks => exact h1
  refine ⟨r.map (·.1), ?_, ?_⟩
  · simp only [keyIndex, key_ok, hn]
  · cases r with
    | none => exact h2
    | some p => simpa using h2.2

/-- A map that holds what is true of its keys. -/
def MapInv (spec : K4 → Bool) (b : AB) : Prop := ∃ (ks : List K4) (vals : List AV) (borns : List Nat) (clock : Nat), b = .map (ks.map K4.v) vals borns clock ∧ vals.length = ks.length ∧ ∀ (i : Nat) (k : K4), ks[i]? = some k → vals[i]? = some (.c (B (spec k)))

theorem map_lookup {spec : K4 → Bool} {rd : Nat → AB} {m : Nat} (h : MapInv spec (rd m)) (k : K4) :
    (alookup Try.prog rd 86 (.map m) (.c k.cv) true = some { val := .c (.tuple [B (spec k), B true]), reads := [m] }) ∨ (alookup Try.prog rd 86 (.map m) (.c k.cv) true = some { val := .c (.tuple [B false, B false]), reads := [m] }) := by
  obtain ⟨ks, vals, borns, clock, hb, hl, hv⟩ := h
  have hm : mapType Try.prog 86 = some (115, 4) := by kernel_rfl
  obtain ⟨r, h1, h2⟩ := key_index k ks (ks.map K4.v).isEmpty
  have hz : elemZero Try.prog 4 = some (.c (B false)) := by kernel_rfl
  unfold alookup
  simp only [hm, K4.toVal, mapOf, hb, h1]
  cases r with
  | none => right; simp only [hz]; rfl
  | some j =>
    left
    have := hv j k h2
    simp only [this]; rfl

theorem map_update {spec : K4 → Bool} {rd : Nat → AB} {m : Nat} (h : MapInv spec (rd m)) (k : K4) : ∃ b, amapUpdate Try.prog rd 86 (.map m) (.c k.cv) (.c (B (spec k))) = some { val := .undef, reads := [m], upds := [(m, b)] } ∧ MapInv spec b := by
  obtain ⟨ks, vals, borns, clock, hb, hl, hv⟩ := h
  have hm : mapType Try.prog 86 = some (115, 4) := by kernel_rfl
  obtain ⟨r, h1, h2⟩ := key_index k ks false
  unfold amapUpdate
  simp only [hm, K4.toVal, hb, h1]
  cases r with
  | none =>
    refine ⟨_, rfl, ks ++ [k], vals ++ [.c (B (spec k))], borns ++ [clock], clock + 1, by simp, by simp [hl], ?_⟩
    intro i l hi
    by_cases hlt : i < ks.length
    · rw [List.getElem?_append_left hlt] at hi
      rw [List.getElem?_append_left (by omega)]
      exact hv i l hi
    · rw [List.getElem?_append_right (by omega)] at hi
      rw [List.getElem?_append_right (by omega), hl]
      have : i - ks.length = 0 := by
        rcases Nat.eq_zero_or_pos (i - ks.length) with h | h
        · exact h
        · rw [List.getElem?_eq_none (by simp; omega)] at hi; cases hi
      rw [this] at hi ⊢
      simp at hi ⊢
      rw [hi]
  | some j =>
    have h2 : ks[j]? = some k := h2
    have hjl : j < ks.length := by
      rcases Nat.lt_or_ge j ks.length with h | h
      · exact h
      · rw [List.getElem?_eq_none h] at h2; cases h2
    have hj : (ks.map K4.v)[j]? = some k.v := by simp only [List.getElem?_map]; rw [show ks[j]? = some k from h2]; rfl
    have hs : Instr.sameBits 10000 k.v k.v = true := by
      have : ∀ n : Int, Instr.sameBits 9999 (.int .i64 n) (.int .i64 n) = true := fun n => by simp [Instr.sameBits]
      unfold K4.v
      rw [show (10000 : Nat) = 9999 + 1 from rfl]
      simp [Instr.sameBits]
    simp only [hj, hs, if_true]
    refine ⟨_, rfl, ks, vals.set j (.c (B (spec k))), borns, clock, ?_, by simp [hl], ?_⟩
    · congr 1
      apply List.ext_getElem?
      intro i
      rw [List.getElem?_set]
      by_cases hij : j = i
      · subst hij; rw [hj]; simp [hjl]
      · simp [hij]
    · intro i l hi
      rw [List.getElem?_set]
      by_cases hij : j = i
      · subst hij
        rw [h2] at hi
        obtain rfl := Option.some.inj hi
        simp [hl, hjl]
      · simp [hij, hv i l hi]
end Go.Ag
/- Layer 2: what is known. -/
namespace Go.Ag
open Go.Proofs
set_option maxRecDepth 100000

/-- A flock, and what was found of it. -/
def knAV (f : Fl) (m : Nat) : AV := .agg [.c (I f.mobs), .c (I (f.least 0)), .c (I (f.least 1)), .c (I (f.least 2)), .c (I (f.least 3)), .c (I (f.most 0)), .c (I (f.most 1)), .c (I (f.most 2)), .c (I (f.most 3)), .c (I (f.left 0)), .c (I (f.left 1)), .c (I (f.left 2)), .c (I (f.left 3)), .c (.sl (penCells f.pens) 0 f.pens.length), .map m]
def knBlk (f : Fl) (m : Nat) : AB := .blk [.c (I f.mobs), .c (I (f.least 0)), .c (I (f.least 1)), .c (I (f.least 2)), .c (I (f.least 3)), .c (I (f.most 0)), .c (I (f.most 1)), .c (I (f.most 2)), .c (I (f.most 3)), .c (I (f.left 0)), .c (I (f.left 1)), .c (I (f.left 2)), .c (I (f.left 3)), .c (.sl (penCells f.pens) 0 f.pens.length), .map m]

theorem mapInv_eq {spec : K4 → Bool} {b b' : AB} (e : b = b') (h : MapInv spec b') : MapInv spec b := e ▸ h

set_option maxHeartbeats 1000000 in
theorem known_possible {f fl : Fl} {m : Nat} {h : Heap} {spec : K4 → Bool} {k : K4} {g : FuncId} {cap : List AV} (hg : g = 106 ∨ g = 84) (hm : m < h.n) (hI : MapInv spec (Heap.at h m)) (hfl : FlOk fl) (hs : possibleF fl = spec k)
    (hof : ∀ h1, Foot (fun _ => False) h h1 → ∃ h2, CallOk Try.prog g cap h1 .no (.ret (.c (flCV fl))) h2 .no ∧ Foot (fun _ => False) h1 h2) :
    ∃ e h', CallOk Try.prog 83 [knAV f m, .c k.cv, .func (.func g) [] cap] h .no e h' .no ∧ (e = .ret (.c (B (spec k))) ∧ Foot (fun i => i = m) h h' ∧ MapInv spec (Heap.at h' m)) := by
  refine call_by (hm := false) Try.func83 rfl ?_
  conv => whnf
  have a0 : ∀ a b, Heap.at ((h.push .dead a).push .dead b) h.n = a := fun a b => (at_push_lt _ _ (by rw [push_n]; omega)).trans (at_push_self _ _)
  have am : ∀ a b, Heap.at ((h.push .dead a).push .dead b) m = Heap.at h m := fun a b => (at_push_lt _ _ (by rw [push_n]; omega)).trans (at_push_lt _ _ hm)
  have ft : ∀ a b, Foot (fun _ => False) h ((h.push .dead a).push .dead b) := fun a b => ((Foot.refl _ _).push _).push _
  refine ⟨knBlk f m, a0 _ _, ?_⟩
  conv => whnf
  refine ⟨_, at_push_self _ _, ?_⟩
  conv => whnf
  have hl := map_lookup (spec := spec) (rd := Heap.at ((h.push .dead (knBlk f m)).push .dead (.blk [.c (I k.a), .c (I k.b), .c (I k.c), .c (I k.e)]))) (m := m) (by rw [am]; exact hI) k
  rcases hl with hl | hl
  · refine ⟨_, hl, ?_⟩
    conv => whnf
    exact ⟨rfl, (ft _ _).mono (fun _ _ h => h.elim), mapInv_eq (am _ _) hI⟩
  · refine ⟨_, hl, ?_⟩
    obtain ⟨h2, hc2, f2⟩ := hof _ (ft (knBlk f m) (.blk [.c (I k.a), .c (I k.b), .c (I k.c), .c (I k.e)]))
    have k0 : Heap.at h2 h.n = knBlk f m := (f2.keep _ (by simp only [push_n]; omega) (by simp)).trans (a0 _ _)
    have k1 : Heap.at h2 (h.n + 1) = .blk [.c (I k.a), .c (I k.b), .c (I k.c), .c (I k.e)] := (f2.keep _ (by simp only [push_n]; omega) (by simp)).trans (at_push_self _ _)
    have km : Heap.at h2 m = Heap.at h m := (f2.keep _ (by simp only [push_n]; omega) (by simp)).trans (am _ _)
    have fh : Foot (fun _ => False) h h2 := (ft _ _).trans f2
    have hmap := map_update (spec := spec) (rd := Heap.at h2) (m := m) (by rw [km]; exact hI) k
    obtain ⟨b, hu, hb⟩ := hmap
    rcases hg with rfl | rfl
    all_goals
      conv => whnf
      refine .inl _ h2 .no hc2 ?_
      conv => whnf
      refine .ret (possible_ret hfl) rfl ?_
      conv => whnf
      refine ⟨_, k0, ?_⟩
      conv => whnf
      refine ⟨_, k1, ?_⟩
      conv => whnf
      rw [hs]
      refine ⟨_, hu, ?_⟩
      conv => whnf
      exact ⟨rfl, Foot.set (W := fun i => i = m) (k := m) (fh.mono (fun _ _ h => h.elim)) (.inl rfl) b, mapInv_eq (at_set_self _ _ (Nat.lt_of_lt_of_le hm fh.n)) hb⟩
end Go.Ag
/- Layer 2: whether a number of a pen's sheep can be wet. -/
namespace Go.Ag
open Go.Proofs
set_option maxRecDepth 100000

def penFl (f : Fl) (k : Nat) (n : Int) : Fl := setPen f k (fixPen (penF f k) n)
def specPen (f : Fl) (k : Nat) : K4 → Bool := fun key => possibleF (penFl f k key.e)
def askPen (k : Nat) : CV := .iface 73 (.agg [I k])

theorem penFl_ok {f : Fl} (hf : FlOk f) (k : Nat) {n : Int} (hn : smallI n) : FlOk (penFl f k n) := by
  have key : ∀ j, penF (penFl f k n) j = penF f j ∨ penF (penFl f k n) j = fixPen (penF f k) n := by
    intro j
    unfold penFl setPen penF
    simp only [List.getD_eq_getElem?_getD, List.getElem?_set]
    by_cases hjk : k = j
    · subst hjk
      by_cases hlt : k < f.pens.length
      · right; simp [hlt]
      · left; simp [hlt]
    · left; simp [hjk]
  refine ⟨hf.mobs, hf.least, hf.most, hf.left, by unfold penFl setPen; simp; exact hf.pens, fun j i => ?_, fun j => ?_, fun j => ?_⟩
  · rcases key j with h | h
    · rw [h]; exact hf.fr j i
    · rw [h]; exact hf.fr k i
  · rcases key j with h | h
    · rw [h]; exact hf.lo j
    · rw [h]; exact hn
  · rcases key j with h | h
    · rw [h]; exact hf.hi j
    · rw [h]; exact hn

/-- The flock that is asked for. -/
theorem held_pen {f : Fl} {k : Nat} (hk : k < f.pens.length) (h5 : f.pens.length ≤ 5) (n : Int) {m a b c : Nat} {h : Heap} (ha : Heap.at h a = .blk [.c (askPen k)]) (hb : Heap.at h b = knBlk f m) (hc : Heap.at h c = .blk [.c (I n)]) :
    ∃ h2, CallOk Try.prog 106 [.ptr a 0, .ptr b 0, .ptr c 0] h .no (.ret (.c (flCV (penFl f k n)))) h2 .no ∧ Foot (fun _ => False) h h2 := by
  suffices H : ∃ e h2, CallOk Try.prog 106 [.ptr a 0, .ptr b 0, .ptr c 0] h .no e h2 .no ∧ (e = .ret (.c (flCV (penFl f k n))) ∧ Foot (fun _ => False) h h2) by
    obtain ⟨e, h2, h3, rfl, h4⟩ := H
    exact ⟨h2, h3, h4⟩
  have lt : ∀ {i x}, Heap.at h i = .blk x → i < h.n := fun {i x} hx => Nat.lt_of_not_le fun hle => by
    unfold Heap.at at hx; rw [TMap.get_ge hle] at hx; cases hx
  have la := lt ha
  have lb := lt hb
  have lc := lt hc
  refine call_by (hm := false) Try.func106 rfl ?_
  conv => whnf
  refine ⟨_, (at_push_lt _ _ la).trans ha, ?_⟩
  conv => whnf
  refine ⟨_, (at_push_lt _ _ lb).trans hb, ?_⟩
  conv => whnf
  refine ⟨_, (at_push_lt _ _ lc).trans hc, ?_⟩
  conv => whnf
  refine .ret (hold_pen_ret hk h5 n) rfl ?_
  conv => whnf
  refine ⟨_, at_push_self _ _, ?_⟩
  conv => whnf
  refine ⟨_, at_new _ _ _, ?_⟩
  conv => whnf
  exact ⟨rfl, Foot.set ((Foot.refl _ _).push _) (.inr (Nat.le_refl _)) _⟩

set_option maxHeartbeats 1000000 in
theorem canBe_pen {f : Fl} (hf : FlOk f) {k : Nat} (hk : k < f.pens.length) {n : Int} (hn : smallI n) {m : Nat} {h : Heap} (hm : m < h.n) (hI : MapInv (specPen f k) (Heap.at h m)) :
    ∃ e h', CallOk Try.prog 98 [knAV f m, .c (askPen k), .c (I n)] h .no e h' .no ∧ (e = .ret (.c (B (possibleF (penFl f k n)))) ∧ Foot (fun i => i = m) h h' ∧ MapInv (specPen f k) (Heap.at h' m)) := by
  have h5 := hf.pens
  refine call_by (hm := false) Try.func98 rfl ?_
  have a0 : ∀ a b c, Heap.at (((h.push .dead a).push .dead b).push .dead c) h.n = a := fun a b c => (at_push_lt _ _ (by simp only [push_n]; omega)).trans ((at_push_lt _ _ (by simp only [push_n]; omega)).trans (at_push_self _ _))
  have a1 : ∀ a b c, Heap.at (((h.push .dead a).push .dead b).push .dead c) (h.n + 1) = b := fun a b c => (at_push_lt _ _ (by simp only [push_n]; omega)).trans (at_push_self _ _)
  have a2 : ∀ a b c, Heap.at (((h.push .dead a).push .dead b).push .dead c) (h.n + 2) = c := fun a b c => at_push_self _ _
  have am : ∀ a b c, Heap.at (((h.push .dead a).push .dead b).push .dead c) m = Heap.at h m := fun a b c => (at_push_lt _ _ (by simp only [push_n]; omega)).trans ((at_push_lt _ _ (by simp only [push_n]; omega)).trans (at_push_lt _ _ hm))
  have ft : ∀ a b c, Foot (fun _ => False) h (((h.push .dead a).push .dead b).push .dead c) := fun a b c => (((Foot.refl _ _).push _).push _).push _
  conv => whnf
  refine ⟨knBlk f m, a0 _ _ _, ?_⟩
  conv => whnf
  refine .ret (allOf_ret f.pens.length (by omega)) rfl ?_
  conv => whnf
  refine mixed_by (hm := false) (by kernel_rfl) (by kernel_rfl) ?_
  conv => whnf
  refine ⟨knBlk f m, a0 _ _ _, ?_⟩
  conv => whnf
  refine ⟨_, a1 _ _ _, ?_⟩
  conv => whnf
  refine ⟨_, a2 _ _ _, ?_⟩
  conv => whnf
  refine .ret _ _ (named_pen_ret k n) rfl ?_
  conv => whnf
  have hs3 : smallI n := hn
  obtain ⟨e, h', hc, rfl, hf', hI'⟩ := known_possible (f := f) (fl := penFl f k n) (m := m) (h := ((h.push .dead (knBlk f m)).push .dead (.blk [.c (askPen k)])).push .dead (.blk [.c (I n)])) (spec := specPen f k) (k := ⟨((2 ^ f.pens.length - 1 : Nat) : Int), -1, k, n⟩) (g := 106) (cap := [.ptr (h.n + 1) 0, .ptr h.n 0, .ptr (h.n + 2) 0]) (.inl rfl)
    (by simp only [push_n]; omega) (mapInv_eq (am _ _ _) hI) (penFl_ok hf k hn) rfl (fun h1 f1 => held_pen hk h5 n ((f1.keep _ (by simp only [push_n]; omega) (by simp)).trans (a1 _ _ _)) ((f1.keep _ (by simp only [push_n]; omega) (by simp)).trans (a0 _ _ _)) ((f1.keep _ (by simp only [push_n]; omega) (by simp)).trans (a2 _ _ _)))
  refine .heavy _ h' (.inl hc) ?_
  conv => whnf
  refine ⟨by kernel_rfl, heaps_nil (by kernel_rfl), ?_⟩
  conv => whnf
  exact ⟨rfl, ((ft _ _ _).mono (fun _ _ h => h.elim)).trans hf', hI'⟩
end Go.Ag
/- Layer 2: the first number that suits. -/
namespace Go.Ag
open Go.Proofs
set_option maxRecDepth 100000

theorem suits_pen {f : Fl} (hf : FlOk f) {k : Nat} (hk : k < f.pens.length) {n : Int} (hn : smallI n) {m a b : Nat} {h : Heap} (hm : m < h.n) (ha : Heap.at h a = knBlk f m) (hb : Heap.at h b = .blk [.c (askPen k)]) (hI : MapInv (specPen f k) (Heap.at h m)) :
    ∃ h2, CallOk Try.prog 97 [.c (I n), .ptr a 0, .ptr b 0] h .no (.ret (.c (B (possibleF (penFl f k n))))) h2 .no ∧ Foot (fun i => i = m) h h2 ∧ MapInv (specPen f k) (Heap.at h2 m) := by
  suffices H : ∃ e h2, CallOk Try.prog 97 [.c (I n), .ptr a 0, .ptr b 0] h .no e h2 .no ∧ (e = .ret (.c (B (possibleF (penFl f k n)))) ∧ Foot (fun i => i = m) h h2 ∧ MapInv (specPen f k) (Heap.at h2 m)) by
    obtain ⟨e, h2, h3, rfl, h4⟩ := H
    exact ⟨h2, h3, h4⟩
  obtain ⟨e, h', hc, rfl, hf', hI'⟩ := canBe_pen hf hk hn hm hI
  refine call_by (hm := false) Try.func97 rfl ?_
  conv => whnf
  refine ⟨_, ha, ?_⟩
  conv => whnf
  refine ⟨_, hb, ?_⟩
  conv => whnf
  refine .inl _ h' .no hc ?_
  conv => whnf
  exact ⟨rfl, hf', hI'⟩

def wantAV (a b : Nat) : AV := .agg [.func (.func 97) [] [.ptr a 0, .ptr b 0], .c (I 10)]
def clashV : AV := .c (.iface 30 (I 10))
def firstOf (o : Option Int) : AEnd := match o with
  | some y => .ret (.c (I y))
  | none => .panic clashV

set_option maxHeartbeats 1000000 in
theorem first_ret {it : CV} {ys : List Int} (hit : IterC Try.prog it (ys.map I)) {p : Int → Bool} {spec : K4 → Bool} {a b m : Nat} {h : Heap} (hm : m < h.n) (hI : MapInv spec (Heap.at h m))
    (hs : ∀ y, y ∈ ys → ∀ h1, Foot (fun i => i = m) h h1 → MapInv spec (Heap.at h1 m) → ∃ h2, CallOk Try.prog 97 [.c (I y), .ptr a 0, .ptr b 0] h1 .no (.ret (.c (B (p y)))) h2 .no ∧ Foot (fun i => i = m) h1 h2 ∧ MapInv spec (Heap.at h2 m)) :
    ∃ e h', CallOk Try.prog 66 [.c it, wantAV a b] h .no e h' .no ∧ (e = firstOf (ys.find? p) ∧ Foot (fun i => i = m) h h' ∧ MapInv spec (Heap.at h' m)) := by
  refine call_by (hm := false) Try.func66 rfl ?_
  conv => whnf
  refine range_n (hm := false) (h.n + 2) rfl (it := it) (ys := ys.map I) rfl hit
    (I := fun l h1 => Heap.at h1 h.n = .blk [.func (.func 97) [] [.ptr a 0, .ptr b 0], .c (I 10)] ∧ Heap.at h1 (h.n + 1) = .blk [.c (I 0)] ∧ Foot (fun i => i = m) h h1 ∧ MapInv spec (Heap.at h1 m) ∧ ∃ done rest, l = rest.map I ∧ ys = done ++ rest ∧ ∀ y ∈ done, p y = false)
    (E := fun e h1 => e = .ret ∧ ∃ y, ys.find? p = some y ∧ Heap.at h1 (h.n + 1) = .blk [.c (I y)] ∧ Foot (fun i => i = m) h h1 ∧ MapInv spec (Heap.at h1 m)) (X := fun _ _ => False) ?_ ?_ ?_ ?_ ?_ ?_ ?_
  · rintro l h1 h2 ⟨k1, k2, k3, k4, k5⟩ hn ff
    exact ⟨(ff.below hn (by omega)).trans k1, (ff.below hn (by omega)).trans k2, k3.trans_up ff (by omega), mapInv_eq (ff.below hn (by omega)) k4, k5⟩
  · rintro e h1 h2 ⟨k1, y, k2, k3, k4, k5⟩ hn ff
    exact ⟨k1, y, k2, (ff.below hn (by omega)).trans k3, k4.trans_up ff (by omega), mapInv_eq (ff.below hn (by omega)) k5⟩
  · refine ⟨(at_push_lt _ _ (by rw [push_n]; omega)).trans (at_push_self _ _), at_push_self _ _, ((Foot.refl _ _).push _).push _, mapInv_eq ((at_push_lt _ _ (by rw [push_n]; omega)).trans (at_push_lt _ _ hm)) hI, [], ys, rfl, rfl, by simp⟩
  · rintro y l h1 hn ⟨k1, k2, k3, k4, done, rest, e1, e2, e3⟩
    cases rest with
    | nil => cases e1
    | cons y0 rest =>
    obtain ⟨rfl, rfl⟩ := List.cons.inj e1
    conv => whnf
    refine ⟨rfl, fun hb fb hbn => ?_⟩
    have b1 := (fb.keep h.n (by omega) (by omega)).trans k1
    have b2 := (fb.keep (h.n + 1) (by omega) (by omega)).trans k2
    have b3 : Foot (fun i => i = m) h hb := k3.trans_up (N := h.n) (fb.mono fun i _ hi => by omega) (Nat.le_refl _)
    have b4 : MapInv spec (Heap.at hb m) := mapInv_eq (fb.keep m (by omega) (by omega)) k4
    obtain ⟨h2, hc, f2, i2⟩ := hs y0 (by rw [e2]; simp) hb b3 b4
    have c1 := (f2.keep (h.n + 1) (by omega) (by omega)).trans b2
    have c0 := (f2.keep h.n (by omega) (by omega)).trans b1
    have hn2 := f2.n
    conv => whnf
    refine ⟨_, b1, ?_⟩
    conv => whnf
    refine .inl _ h2 .no hc ?_
    conv => whnf
    have fend : Foot (fun i => i < h.n + 2) hb h2 := f2.mono fun i _ hi => by omega
    cases hp : p y0
    · conv => whnf
      exact ⟨fend, c0, c1, b3.trans f2, i2, done ++ [y0], rest, rfl, by rw [e2]; simp, fun z hz => by
        rcases List.mem_append.1 hz with h | h
        · exact e3 z h
        · rw [List.mem_singleton] at h; rw [h]; exact hp⟩
    · conv => whnf
      refine ⟨_, c1, ?_⟩
      conv => whnf
      refine ⟨Foot.set (W := fun i => i < h.n + 2) (k := h.n + 1) fend (.inl (by omega)) _, rfl, y0, ?_, at_set_self _ _ (i := h.n + 1) (by omega), Foot.set (W := fun i => i = m) (k := h.n + 1) (b3.trans f2) (.inr (by omega)) _, mapInv_eq (at_set_ne _ _ (i := m) (k := h.n + 1) (by omega)) i2⟩
      rw [e2, List.find?_append]
      have : done.find? p = none := List.find?_eq_none.2 fun x hx => by rw [e3 x hx]; simp
      rw [this]
      simp [hp]
  · rintro h1 hn hc ⟨k1, k2, k3, k4, done, rest, e1, e2, e3⟩
    have : rest = [] := by cases rest with | nil => rfl | cons a l => cases e1
    subst this
    have hnone : ys.find? p = none := List.find?_eq_none.2 fun x hx => by rw [e2, List.append_nil] at hx; rw [e3 x hx]; simp
    rw [hnone]
    conv => whnf
    refine ⟨_, k1, ?_⟩
    conv => whnf
    refine ⟨_, hc, ?_⟩
    conv => whnf
    exact ⟨rfl, Foot.set (W := fun i => i = m) (k := h.n + 2) k3 (.inr (by omega)) _, mapInv_eq (at_set_ne _ _ (by omega)) k4⟩
  · rintro e h1 hn hc ⟨rfl, y, k2, k3, k4, k5⟩ _
    rw [k2]
    conv => whnf
    refine ⟨_, hc, ?_⟩
    conv => whnf
    refine ⟨_, (at_set_ne _ _ (i := h.n + 1) (k := h.n + 2) (by omega)).trans k3, ?_⟩
    conv => whnf
    exact ⟨rfl, Foot.set (W := fun i => i = m) (k := h.n + 2) k4 (.inr (by omega)) _, mapInv_eq (at_set_ne _ _ (by omega)) k5⟩
  · rintro v h1 _ _ hx
    exact hx.elim
end Go.Ag
/- Layer 2: the span of a pen's numbers. -/
namespace Go.Ag
open Go.Proofs
set_option maxRecDepth 100000

def intsUp (lo hi : Int) : List Int := (List.range' 0 (upN lo hi)).map fun i : Nat => lo + i
def intsDown (lo hi : Int) : List Int := (List.range' 0 (upN lo hi)).map fun i : Nat => hi - i
theorem upL_ints (lo hi : Int) : upL lo (upN lo hi) 0 = (intsUp lo hi).map I := by simp [upL, intsUp, List.map_map, Function.comp_def]
theorem downL_ints (lo hi : Int) : downL hi (upN lo hi) 0 = (intsDown lo hi).map I := by simp [downL, intsDown, List.map_map, Function.comp_def]
theorem mem_up {lo hi y : Int} : y ∈ intsUp lo hi ↔ lo ≤ y ∧ y ≤ hi := by
  unfold intsUp upN
  simp only [List.mem_map, List.mem_range']
  constructor
  · rintro ⟨i, ⟨j, h1, rfl⟩, rfl⟩; omega
  · intro h; exact ⟨(y - lo).toNat, ⟨(y - lo).toNat, by omega, by omega⟩, by omega⟩
theorem mem_down {lo hi y : Int} : y ∈ intsDown lo hi ↔ lo ≤ y ∧ y ≤ hi := by
  unfold intsDown upN
  simp only [List.mem_map, List.mem_range']
  constructor
  · rintro ⟨i, ⟨j, h1, rfl⟩, rfl⟩; omega
  · intro h; exact ⟨(hi - y).toNat, ⟨(hi - y).toNat, by omega, by omega⟩, by omega⟩

/-- The least and the greatest number that can be. -/
def spanBy (lo hi : Int) (p : Int → Bool) : Option (Int × Int) := match (intsUp lo hi).find? p, (intsDown lo hi).find? p with
  | some a, some b => some (a, b)
  | _, _ => none
theorem down_some {lo hi : Int} {p : Int → Bool} {a : Int} (h : (intsUp lo hi).find? p = some a) : ∃ b, (intsDown lo hi).find? p = some b := by
  cases hb : (intsDown lo hi).find? p with
  | some b => exact ⟨b, rfl⟩
  | none =>
    have h1 := List.find?_eq_none.1 hb a (mem_down.2 (mem_up.1 (List.mem_of_find?_eq_some h)))
    exact absurd (List.find?_some h) h1
def endOf (o : Option (Int × Int)) : AEnd := match o with
  | some s => .ret (.c (.agg [I s.1, I s.2]))
  | none => .panic clashV
def spanPen (f : Fl) (k : Nat) : Option (Int × Int) := spanBy (penF f k).lo (penF f k).hi fun n => possibleF (penFl f k n)

def H5 (f : Fl) (k m : Nat) (h : Heap) : Heap :=
  TMap.set .dead (TMap.push .dead (TMap.set .dead (TMap.push .dead (TMap.push .dead (TMap.push .dead (TMap.push .dead h (knBlk f m)) (.blk [.c (askPen k)])) (.blk [AV.lit (.int .i64 0), AV.lit (.int .i64 0)])) (.blk [AV.lit .nilFunc, AV.lit (.int .i64 0)])) (h.n + 3) (.blk [.func (.func 97) [] [.ptr h.n 0, .ptr (h.n + 1) 0], .c (I 10)])) (.blk [AV.lit (.int .i64 0), AV.lit (.int .i64 0)])) (h.n + 4) (.blk [.c (I (penF f k).lo), .c (I (penF f k).hi)])
theorem H5_n (f : Fl) (k m : Nat) (h : Heap) : (H5 f k m h).n = h.n + 5 := rfl
theorem H5_0 (f : Fl) (k m : Nat) (h : Heap) : Heap.at (H5 f k m h) h.n = knBlk f m := by
  unfold H5
  have h2 : h.n ≠ h.n + 1 + 1 := by omega
  have h5 : h.n ≠ h.n + 1 + 1 + 1 := by omega
  have h6 : h.n ≠ h.n + 1 + 1 + 1 + 1 := by omega
  simp [at_set, at_push, push_n, TMap.set_n, h2, h5, h6]
theorem H5_1 (f : Fl) (k m : Nat) (h : Heap) : Heap.at (H5 f k m h) (h.n + 1) = .blk [.c (askPen k)] := by unfold H5; simp [at_set, at_push, push_n, TMap.set_n]
theorem H5_2 (f : Fl) (k m : Nat) (h : Heap) : Heap.at (H5 f k m h) (h.n + 2) = .blk [AV.lit (.int .i64 0), AV.lit (.int .i64 0)] := by unfold H5; simp [at_set, at_push, push_n, TMap.set_n]
theorem H5_3 (f : Fl) (k m : Nat) (h : Heap) : Heap.at (H5 f k m h) (h.n + 3) = .blk [.func (.func 97) [] [.ptr h.n 0, .ptr (h.n + 1) 0], .c (I 10)] := by unfold H5; simp [at_set, at_push, push_n, TMap.set_n]
theorem H5_4 (f : Fl) (k m : Nat) (h : Heap) : Heap.at (H5 f k m h) (h.n + 4) = .blk [.c (I (penF f k).lo), .c (I (penF f k).hi)] := by unfold H5; simp [at_set, at_push, push_n, TMap.set_n]
theorem H5_lt (f : Fl) (k m : Nat) (h : Heap) {i : Nat} (hi : i < h.n) : Heap.at (H5 f k m h) i = Heap.at h i := by
  unfold H5
  have h0 : i ≠ h.n := by omega
  have h1 : i ≠ h.n + 1 := by omega
  have h2 : i ≠ h.n + 1 + 1 := by omega
  have h3 : i ≠ h.n + 3 := by omega
  have h4 : i ≠ h.n + 4 := by omega
  have h5 : i ≠ h.n + 1 + 1 + 1 := by omega
  have h6 : i ≠ h.n + 1 + 1 + 1 + 1 := by omega
  simp [at_set, at_push, push_n, TMap.set_n, h0, h1, h2, h3, h4, h5, h6]

theorem H5_foot (f : Fl) (k m : Nat) (h : Heap) {W : Nat → Prop} : Foot W h (H5 f k m h) := ⟨by rw [H5_n]; omega, fun i hi _ => H5_lt f k m h hi⟩

set_option maxHeartbeats 2000000 in
theorem span_pen_ret {f : Fl} (hf : FlOk f) {k : Nat} (hk : k < f.pens.length) {m : Nat} {h : Heap} (hm : m < h.n) (hI : MapInv (specPen f k) (Heap.at h m)) :
    ∃ e h', CallOk Try.prog 79 [knAV f m, .c (askPen k)] h .no e h' .no ∧ (e = endOf (spanPen f k) ∧ Foot (fun i => i = m) h h') := by
  have blo := hf.lo k
  have bhi := hf.hi k
  have small : ∀ y, (penF f k).lo ≤ y ∧ y ≤ (penF f k).hi → smallI y := fun y hy => by unfold smallI at *; omega
  refine call_by (hm := false) Try.func79 rfl ?_
  conv => whnf
  refine ⟨_, at_push_self _ _, ?_⟩
  conv => whnf
  refine ⟨_, (at_old _ _ _ (by simp only [push_n]; omega)).trans ((at_push_lt _ _ (by simp only [push_n]; omega)).trans (at_push_self _ _)), ?_⟩
  conv => whnf
  refine ⟨knBlk f m, (at_old _ _ _ (by simp only [push_n]; omega)).trans ((at_push_lt _ _ (by simp only [push_n]; omega)).trans ((at_push_lt _ _ (by simp only [push_n]; omega)).trans (at_push_self _ _))), ?_⟩
  conv => whnf
  refine .ret (given_pen_ret hk) rfl ?_
  conv => whnf
  refine ⟨_, at_push_self _ _, ?_⟩
  conv => whnf
  refine mixed_by (hm := false) (by kernel_rfl) (by kernel_rfl) ?_
  conv => whnf
  refine ⟨_, at_new _ _ _, ?_⟩
  conv => whnf
  refine .ret _ _ (up_ret _ _) rfl ?_
  conv => whnf
  refine ⟨_, (at_old _ _ _ (by simp only [push_n, TMap.set_n]; omega)).trans (at_new _ _ _), ?_⟩
  conv => whnf
  have fin : ∀ h1, Foot (fun i => i = m) (H5 f k m h) h1 → MapInv (specPen f k) (Heap.at h1 m) → ∀ y, (penF f k).lo ≤ y ∧ y ≤ (penF f k).hi → ∃ h2, CallOk Try.prog 97 [.c (I y), .ptr h.n 0, .ptr (h.n + 1) 0] h1 .no (.ret (.c (B (possibleF (penFl f k y))))) h2 .no ∧ Foot (fun i => i = m) h1 h2 ∧ MapInv (specPen f k) (Heap.at h2 m) := by
    intro h1 f1 i1 y hy
    have hn1 := f1.n
    rw [H5_n] at hn1
    exact suits_pen hf hk (small y hy) (by omega) ((f1.keep _ (by rw [H5_n]; omega) (by omega)).trans (H5_0 f k m h)) ((f1.keep _ (by rw [H5_n]; omega) (by omega)).trans (H5_1 f k m h)) i1
  have i5 : MapInv (specPen f k) (Heap.at (H5 f k m h) m) := mapInv_eq (H5_lt f k m h hm) hI
  obtain ⟨e1, h1, hc1, he1, f1, i1⟩ := first_ret (it := upC (penF f k).lo (penF f k).hi) (ys := intsUp (penF f k).lo (penF f k).hi) (by rw [← upL_ints]; exact up_iter blo.tame bhi.tame) (p := fun n => possibleF (penFl f k n)) (spec := specPen f k) (a := h.n) (b := h.n + 1) (m := m) (h := H5 f k m h) (by rw [H5_n]; omega) i5
    (fun y hy h1 f1 i1 => fin h1 f1 i1 y (mem_up.1 hy))
  have hn1 := f1.n
  rw [H5_n] at hn1
  cases hfu : (intsUp (penF f k).lo (penF f k).hi).find? (fun n => possibleF (penFl f k n)) with
  | none =>
    rw [hfu] at he1
    subst he1
    have hsp : spanPen f k = none := by unfold spanPen spanBy; rw [hfu]
    rw [hsp]
    refine .heavy _ h1 (.inl hc1) ?_
    conv => whnf
    refine mOps_list (l' := [4, 6]) (by kernel_rfl) ?_
    conv => whnf
    refine ⟨_, H5_4 f k m h, ?_⟩
    conv => whnf
    refine ⟨_, H5_3 f k m h, ?_⟩
    conv => whnf
    refine ⟨by kernel_rfl, heaps_eq (l' := [(h.n + 4, H5 f k m h, h1), (h.n + 3, H5 f k m h, h1)]) (by kernel_rfl) (heaps_cons (f1.keep _ (by rw [H5_n]; omega) (by omega)) (heaps_cons (f1.keep _ (by rw [H5_n]; omega) (by omega)) (by simp [HeapsOk]))), ?_⟩
    intro ds
    conv => whnf
    exact ⟨rfl, (H5_foot f k m h).trans f1⟩
  | some lo =>
    rw [hfu] at he1
    subst he1
    obtain ⟨hi, hfd⟩ := down_some hfu
    obtain ⟨e2, h2, hc2, he2, f2, i2⟩ := first_ret (it := downC (penF f k).lo (penF f k).hi) (ys := intsDown (penF f k).lo (penF f k).hi) (by rw [← downL_ints]; exact down_iter blo.tame bhi.tame) (p := fun n => possibleF (penFl f k n)) (spec := specPen f k) (a := h.n) (b := h.n + 1) (m := m) (h := h1) (by omega) i1
      (fun y hy h2 f2 i2 => fin h2 (f1.trans f2) i2 y (mem_down.1 hy))
    rw [hfd] at he2
    subst he2
    have g4 := (f1.keep (h.n + 4) (by rw [H5_n]; omega) (by omega)).trans (H5_4 f k m h)
    have g3 := (f1.keep (h.n + 3) (by rw [H5_n]; omega) (by omega)).trans (H5_3 f k m h)
    have g2 := (f2.keep (h.n + 2) (by omega) (by omega)).trans ((f1.keep (h.n + 2) (by rw [H5_n]; omega) (by omega)).trans (H5_2 f k m h))
    refine .heavy _ h1 (.inl hc1) ?_
    conv => whnf
    refine ⟨_, g4, ?_⟩
    conv => whnf
    refine .ret _ _ (down_ret _ _) rfl ?_
    conv => whnf
    refine ⟨_, g3, ?_⟩
    conv => whnf
    refine .heavy _ h2 (.inl hc2) ?_
    conv => whnf
    refine ⟨_, g2, ?_⟩
    conv => whnf
    have hn2 := f2.n
    have hsp : spanPen f k = some (lo, hi) := by unfold spanPen spanBy; rw [hfu, hfd]
    rw [hsp]
    refine ⟨by show h.n + 2 < h2.n; omega, ?_⟩
    conv => whnf
    refine ⟨by kernel_rfl, heaps_eq (l' := [(h.n + 4, H5 f k m h, h1), (h.n + 3, H5 f k m h, h1)]) (by kernel_rfl) (heaps_cons (f1.keep _ (by rw [H5_n]; omega) (by omega)) (heaps_cons (f1.keep _ (by rw [H5_n]; omega) (by omega)) (by simp [HeapsOk]))), ?_⟩
    conv => whnf
    refine ⟨_, at_set_self _ _ (i := h.n + 2) (by omega), ?_⟩
    conv => whnf
    exact ⟨rfl, Foot.set (W := fun i => i = m) (k := h.n + 2) (((H5_foot f k m h).trans f1).trans f2) (.inr (by omega)) _⟩
end Go.Ag
/- Layer 2: how many sheep of a pen are wet. -/
namespace Go.Ag
open Go.Proofs
set_option maxRecDepth 100000

theorem valid_sizes {d : Dr} (h : validB d = true) : 1 ≤ d.mobs.length ∧ d.mobs.length ≤ 4 ∧ 1 ≤ d.pens.length ∧ d.pens.length ≤ 5 ∧ 0 ≤ d.limit ∧ d.limit ≤ 36 := by
  simp only [validB, sizesOk, inB, Bool.and_eq_true, decide_eq_true_eq] at h
  omega
theorem valid_pen {d : Dr} (h : validB d = true) {k : Nat} (hk : k < d.pens.length) : 0 ≤ (penAt d k).lo ∧ (penAt d k).lo ≤ (penAt d k).hi ∧ (penAt d k).hi ≤ 36 ∧ ∀ j, j < d.mobs.length → 0 ≤ (penAt d k).fr j ∧ (penAt d k).fr j ≤ 9 := by
  simp only [validB, Bool.and_eq_true] at h
  have h1 := allTo_iff.1 h.1.2 k hk
  simp only [penOk, spanB, fromOk, Bool.and_eq_true, decide_eq_true_eq] at h1
  refine ⟨h1.1.1.1, h1.1.1.2, h1.1.2, fun j hj => ?_⟩
  have := allTo_iff.1 h1.2 j hj
  simpa [inB] using this
theorem valid_mob {d : Dr} (h : validB d = true) {j : Nat} (hj : j < d.mobs.length) : 0 ≤ (mobAt d j).left ∧ (mobAt d j).left ≤ 9 ∧ 0 ≤ (mobAt d j).lo ∧ (mobAt d j).lo ≤ (mobAt d j).hi ∧ (mobAt d j).hi ≤ 54 ∧ (mobAt d j).lo ≤ sheepF d j := by
  simp only [validB, Bool.and_eq_true] at h
  have h1 := allTo_iff.1 h.2 j hj
  simp only [mobOk, spanB, inB, Bool.and_eq_true, decide_eq_true_eq, Bool.not_eq_true', decide_eq_false_iff_not] at h1
  omega
theorem penF_flock {d : Dr} {k : Nat} (hk : k < d.pens.length) : penF (flockF d) k = cutPen d.mobs.length (penAt d k) := by
  simp [penF, flockF, penAt, hk]
theorem penF_out {d : Dr} {k : Nat} (hk : ¬ k < d.pens.length) : penF (flockF d) k = default := by
  simp [penF, flockF, hk]
theorem flock_ok {d : Dr} (h : validB d = true) : FlOk (flockF d) := by
  obtain ⟨h1, h2, h3, h4, h5, h6⟩ := valid_sizes h
  have cut : ∀ (g : Nat → Int), (∀ j, j < d.mobs.length → smallI (g j)) → ∀ i, smallI (cutF d.mobs.length g i) := by
    intro g hg i
    unfold cutF
    split
    · exact hg i (by assumption)
    · unfold smallI; omega
  have pen : ∀ k, smallI (penF (flockF d) k).lo ∧ smallI (penF (flockF d) k).hi ∧ ∀ i, smallI ((penF (flockF d) k).fr i) := by
    intro k
    by_cases hk : k < d.pens.length
    · rw [penF_flock hk]
      have := valid_pen h hk
      refine ⟨by unfold smallI cutPen; dsimp only; omega, by unfold smallI cutPen; dsimp only; omega, cut _ fun j hj => ?_⟩
      have := this.2.2.2 j hj
      unfold smallI; omega
    · rw [penF_out hk]
      refine ⟨?_, ?_, fun i => ?_⟩ <;> (show smallI 0; unfold smallI; omega)
  exact ⟨h2, cut _ fun j hj => by have := valid_mob h hj; unfold smallI; omega, cut _ fun j hj => by have := valid_mob h hj; unfold smallI; omega, cut _ fun j hj => by have := valid_mob h hj; unfold smallI; omega,
    by simp [flockF]; exact h4, fun k i => (pen k).2.2 i, fun k => (pen k).1, fun k => (pen k).2.1⟩

theorem know_ret {v : DV} {d : Dr} (hv : v.Is d) (hm4 : d.mobs.length ≤ 4) (hp : d.pens ≠ []) (spec : K4 → Bool) (h : Heap) : ∃ e h', CallOk Try.prog 60 [.c v.cv] h .no e h' .no ∧ ∃ m, e = .ret (knAV (flockF d) m) ∧ h.n ≤ m ∧ m < h'.n ∧ MapInv spec (Heap.at h' m) ∧ Foot (fun _ => False) h h' := by
  refine call_by (hm := false) Try.func60 rfl ?_
  conv => whnf
  refine ⟨_, (at_push_lt _ _ (by rw [push_n]; omega)).trans (at_push_self _ _), ?_⟩
  conv => whnf
  refine .ret (flockOf_ret hv hm4 hp) rfl ?_
  conv => whnf
  refine ⟨_, (at_push_lt _ _ (by simp only [push_n]; omega)).trans (at_push_self _ _), ?_⟩
  conv => whnf
  refine ⟨_, at_set_self _ _ (by simp only [push_n]; omega), ?_⟩
  conv => whnf
  refine ⟨h.n + 2, rfl, by omega, by show h.n + 2 < h.n + 3; omega, ⟨[], [], [], 0, ?_, rfl, by simp⟩, Foot.set (W := fun _ => False) (k := h.n + 1) ((((Foot.refl _ _).push _).push _).push _) (.inr (by omega)) _⟩
  exact (at_set_ne _ _ (i := h.n + 2) (k := h.n + 1) (by omega)).trans (at_push_self _ _)

def dP (v : DV) : CV := .cptr [.sl v.mc v.mo v.mn, .sl v.pc v.po v.pn, I v.lim] 0
def qP (k : Nat) : CV := .cptr [askPen k] 0

set_option maxHeartbeats 1000000 in
theorem find_pen {v : DV} {d : Dr} (hv : v.Is d) (hd : validB d = true) {k : Nat} (hk : k < d.pens.length) : CallOk Try.prog 78 ([dP v, qP k].map .c) TMap.nil .no (endOf (spanPen (flockF d) k)) TMap.nil .no := by
  obtain ⟨s1, s2, s3, s4, _⟩ := valid_sizes hd
  have hp : d.pens ≠ [] := fun e => by rw [e] at s3; simp at s3
  have hf := flock_ok hd
  have hkf : k < (flockF d).pens.length := by simp [flockF]; exact hk
  suffices H : ∃ e h', CallOk Try.prog 78 ([dP v, qP k].map .c) TMap.nil .no e h' .no ∧ e = endOf (spanPen (flockF d) k) by
    obtain ⟨e, h', hc, rfl⟩ := H
    have hval : ∃ c, (endOf (spanPen (flockF d) k)).val = .c c ∧ (endOf (spanPen (flockF d) k)).setVal (.c c) = endOf (spanPen (flockF d) k) := by
      cases spanPen (flockF d) k with
      | none => exact ⟨_, rfl, rfl⟩
      | some s => exact ⟨_, rfl, rfl⟩
    obtain ⟨c, h1, h2⟩ := hval
    have := callOk_close (args := [dP v, qP k]) hc (fuel := 1) (r := (c, [])) (by rw [h1]; rfl)
    rw [h2] at this
    exact this
  refine call_by (hm := false) Try.func78 rfl ?_
  conv => whnf
  refine mixed_by (hm := false) (by kernel_rfl) (by kernel_rfl) ?_
  conv => whnf
  refine ⟨_, rfl, ?_⟩
  conv => whnf
  obtain ⟨e1, h1, hc1, m, rfl, hm0, hm1, hI1, f1⟩ := know_ret hv s2 hp (specPen (flockF d) k) (TMap.push .dead TMap.nil (.blk [AV.lit (.int .i64 0), AV.lit (.int .i64 0)]))
  refine .heavy _ h1 (.inl hc1) ?_
  conv => whnf
  refine ⟨_, rfl, ?_⟩
  conv => whnf
  obtain ⟨e2, h2, hc2, he2, f2⟩ := span_pen_ret hf hkf hm1 hI1
  cases hsp : spanPen (flockF d) k with
  | none =>
    rw [hsp] at he2
    subst he2
    refine .heavy _ h2 (.inl hc2) ?_
    conv => whnf
    refine mOps_list (l' := []) (by kernel_rfl) ?_
    conv => whnf
    refine ⟨by kernel_rfl, heaps_nil (by kernel_rfl), ?_⟩
    intro ds
    conv => whnf
    rfl
  | some s =>
    rw [hsp] at he2
    subst he2
    have hm0 : 1 ≤ m := hm0
    have hn1 : 1 ≤ h1.n := f1.n
    have hn2 := f2.n
    have g0 : Heap.at h2 0 = .blk [AV.lit (.int .i64 0), AV.lit (.int .i64 0)] := (f2.keep 0 (by omega) (by omega)).trans ((f1.keep 0 (Nat.lt_succ_self 0) (by simp)).trans (at_push_self _ _))
    refine .heavy _ h2 (.inl hc2) ?_
    conv => whnf
    refine ⟨_, g0, ?_⟩
    conv => whnf
    refine ⟨by show 0 < h2.n; omega, ?_⟩
    conv => whnf
    refine ⟨by kernel_rfl, heaps_nil (by kernel_rfl), ?_⟩
    conv => whnf
    refine ⟨_, at_set_self _ _ (i := 0) (by omega), ?_⟩
    conv => whnf
    rfl

/-! A panic is recovered. -/
theorem caught_no (id : Nat) (h : Heap) : CallOk Try.prog 82 [.ptr id 0] h .no (.ret (.c (.tuple []))) h .no := by
  suffices H : ∃ e h' p', CallOk Try.prog 82 [.ptr id 0] h .no e h' p' ∧ (e = .ret (.c (.tuple [])) ∧ h' = h ∧ p' = .no) by
    obtain ⟨e, h', p', h1, rfl, rfl, rfl⟩ := H
    exact h1
  refine call_byP (hm := false) Try.func82 rfl ?_
  conv => whnf
  exact ⟨rfl, rfl, rfl⟩
theorem caught_live {id : Nat} {h : Heap} {c c0 : Int} (hb : Heap.at h id = .blk [.c (I c0)]) : CallOk Try.prog 82 [.ptr id 0] h (.live (.c (.iface 30 (I c)))) (.ret (.c (.tuple []))) (h.set .dead id (.blk [.c (I c)])) .taken := by
  suffices H : ∃ e h' p', CallOk Try.prog 82 [.ptr id 0] h (.live (.c (.iface 30 (I c)))) e h' p' ∧ (e = .ret (.c (.tuple [])) ∧ h' = h.set .dead id (.blk [.c (I c)]) ∧ p' = .taken) by
    obtain ⟨e, h', p', h1, rfl, rfl, rfl⟩ := H
    exact h1
  refine call_byP (hm := false) Try.func82 rfl ?_
  conv => whnf
  refine ⟨_, hb, ?_⟩
  conv => whnf
  exact ⟨rfl, rfl, rfl⟩

def toldV (o : Option (Int × Int)) : CV := match o with
  | some s => .tuple [.agg [I s.1, I s.2], I 0]
  | none => .tuple [.agg [I 0, I 0], I 10]
theorem told_ret {v : DV} {d : Dr} (hv : v.Is d) (hd : validB d = true) {k : Nat} (hk : k < d.pens.length) : Ret Try.prog 58 [.func (.func 78) [] [dP v, qP k]] (toldV (spanPen (flockF d) k)) := by
  have hc := find_pen hv hd hk
  refine ret_by (hm := true) Try.func58 rfl ?_
  conv => whnf
  cases hsp : spanPen (flockF d) k with
  | none =>
    rw [hsp] at hc
    refine .pure [dP v, qP k] _ rfl hc ⟨_, rfl⟩ ?_
    conv => whnf
    refine .mk _ _ _ (caught_live (c := 10) (c0 := 10) rfl) ?_
    conv => whnf
    exact .val
  | some s =>
    rw [hsp] at hc
    refine .pure [dP v, qP k] _ rfl hc ⟨_, rfl⟩ ?_
    conv => whnf
    refine .mk _ _ _ (caught_no _ _) ?_
    conv => whnf
    exact .val

theorem howMany_ret {v : DV} {d : Dr} (hv : v.Is d) (hd : validB d = true) {k : Nat} (hk : k < d.pens.length) : Ret Try.prog 48 [v.cv, askPen k] (toldV (spanPen (flockF d) k)) := by
  have hc := told_ret hv hd hk
  refine ret_by (hm := true) Try.func48 rfl ?_
  conv => whnf
  cases hsp : spanPen (flockF d) k with
  | none =>
    rw [hsp] at hc
    refine .snapped 10 _ _ _ _ rfl hc rfl ?_
    conv => whnf
    exact .val
  | some s =>
    rw [hsp] at hc
    refine .snapped 10 _ _ _ _ rfl hc rfl ?_
    conv => whnf
    exact .val

/-- What Pen returns. -/
def penR (d : Dr) (n : Int) : (Int × Int) × Int :=
  if validB d = false then ((0, 0), 1) else if inB n 0 (d.pens.length - 1) = false then ((0, 0), 2) else match spanPen (flockF d) n.toNat with
    | some s => (s, 0)
    | none => ((0, 0), 10)
theorem pen_ret {v : DV} {d : Dr} (hv : v.Is d) (n : Int) : Ret Try.prog 16 [v.cv, I n] (.tuple [.agg [I (penR d n).1.1, I (penR d n).1.2], I (penR d n).2]) := by
  refine ret_by (hm := true) Try.func16 rfl ?_
  conv => whnf
  refine .ret (valid_ret hv) rfl ?_
  conv => whnf
  unfold penR
  cases h1 : validB d
  · conv => whnf
    exact .val
  conv => whnf
  refine .ret (isPen_ret hv _) rfl ?_
  conv => whnf
  cases h2 : inB n 0 (d.pens.length - 1)
  · conv => whnf
    exact .val
  obtain ⟨k, rfl, hk⟩ : ∃ k : Nat, n = k ∧ k < d.pens.length := by
    simp only [inB, Bool.and_eq_true, decide_eq_true_eq] at h2
    exact ⟨n.toNat, by omega, by omega⟩
  have hc := howMany_ret hv h1 hk
  simp only [Bool.true_eq_false, if_false, Int.toNat_natCast]
  conv => whnf
  cases hsp : spanPen (flockF d) k with
  | none =>
    rw [hsp] at hc
    refine .ret hc rfl ?_
    conv => whnf
    exact .val
  | some s =>
    rw [hsp] at hc
    refine .ret hc rfl ?_
    conv => whnf
    exact .val
end Go.Ag
/- Layer 2: which pens are dry, and how many sheep can be shorn. -/
namespace Go.Ag
open Go.Proofs
set_option maxRecDepth 100000

def dryR (d : Dr) (n : Int) : Int × Int :=
  if (penR d n).2 ≠ 0 then (0, (penR d n).2) else if (penR d n).1.2 ≤ d.limit then (2, 0) else if (penR d n).1.1 ≤ d.limit then (1, 0) else (0, 0)
theorem dryOf_ret {v : DV} {d : Dr} (hv : v.Is d) (n : Int) : Ret Try.prog 20 [v.cv, I n] (.tuple [I (dryR d n).1, I (dryR d n).2]) := by
  have e1 := hv.lim
  refine ret_by (hm := true) Try.func20 rfl ?_
  conv => whnf
  refine .ret (pen_ret hv n) rfl ?_
  conv => whnf
  unfold dryR
  cases h1 : ((penR d n).2 != 0)
  · have h1' : ¬ ((penR d n).2 ≠ 0) := by simpa using h1
    rw [if_neg h1']
    conv => whnf
    cases h2 : decide ((penR d n).1.2 ≤ v.lim)
    · have h2' : ¬ ((penR d n).1.2 ≤ d.limit) := by rw [← e1]; simpa using h2
      rw [if_neg h2']
      conv => whnf
      cases h3 : decide ((penR d n).1.1 ≤ v.lim)
      · have h3' : ¬ ((penR d n).1.1 ≤ d.limit) := by rw [← e1]; simpa using h3
        rw [if_neg h3']
        conv => whnf
        exact .val
      · have h3' : (penR d n).1.1 ≤ d.limit := by rw [← e1]; simpa using h3
        rw [if_pos h3']
        conv => whnf
        exact .val
    · have h2' : (penR d n).1.2 ≤ d.limit := by rw [← e1]; simpa using h2
      rw [if_pos h2']
      conv => whnf
      exact .val
  · have h1' : (penR d n).2 ≠ 0 := by simpa using h1
    rw [if_pos h1']
    conv => whnf
    exact .val

def bitsOf (p : Nat → Bool) : Nat → Nat
  | 0 => 0
  | n + 1 => if p n then bitsOf p n ||| 1 * 2 ^ n else bitsOf p n
theorem bitsOf_lt (p : Nat → Bool) : ∀ n, bitsOf p n < 2 ^ n
  | 0 => by simp [bitsOf]
  | n + 1 => by
    have ih := bitsOf_lt p n
    have h2 : 2 ^ (n + 1) = 2 ^ n + 2 ^ n := by rw [Nat.pow_succ]; omega
    simp only [bitsOf]
    split
    · exact Nat.or_lt_two_pow (by omega) (by omega)
    · omega
theorem bitsOf_test (p : Nat → Bool) : ∀ n i, (bitsOf p n).testBit i = (decide (i < n) && p i)
  | 0, i => by simp [bitsOf]
  | n + 1, i => by
    have ih := bitsOf_test p n i
    simp only [bitsOf]
    by_cases hi : i = n
    · subst hi
      split
      · rename_i h; simp [Nat.testBit_or, h]
      · rename_i h
        have h : p i = false := by simpa using h
        rw [ih]; simp [h]
    · have h1 : (i < n + 1) ↔ i < n := by omega
      split
      · rw [Nat.testBit_or, ih, Nat.one_mul, Nat.testBit_two_pow]
        have : ¬ n = i := fun e => hi e.symm
        simp [this, h1]
      · rw [ih]; simp [h1]

def sureB (d : Dr) (j : Nat) : Bool := (dryR d j).1 == 2
def mayB (d : Dr) (j : Nat) : Bool := (dryR d j).1 != 0
def fineB (d : Dr) (j : Nat) : Bool := (dryR d j).2 == 0
theorem dry_err {d : Dr} (h : validB d = true) {j : Nat} (hj : j < d.pens.length) : (dryR d j).2 = 0 ∨ (dryR d j).2 = 10 := by
  have hi : inB (j : Int) 0 (d.pens.length - 1) = true := by simp [inB]; omega
  unfold dryR penR
  rw [h, hi]
  simp only [Bool.true_eq_false, if_false, Int.toNat_natCast]
  cases spanPen (flockF d) j with
  | none => simp
  | some s =>
    simp only [ne_eq, not_true, if_false]
    split
    · simp
    · split <;> simp

/-- What Shear returns. -/
def shearR (d : Dr) : Nat × Nat × Int := if validB d = false then (0, 0, 1) else if allTo (fineB d) d.pens.length = false then (0, 0, 10) else (bitsOf (sureB d) d.pens.length, bitsOf (mayB d) d.pens.length, 0)
theorem shear_ret {v : DV} {d : Dr} (hv : v.Is d) : Ret Try.prog 22 [v.cv] (.tuple [I (shearR d).1, I (shearR d).2.1, I (shearR d).2.2]) := by
  have e1 := hv.pn
  refine ret_by (hm := true) Try.func22 rfl ?_
  conv => whnf
  refine .ret (valid_ret hv) rfl ?_
  conv => whnf
  unfold shearR
  cases h1 : validB d
  · conv => whnf
    exact .val
  obtain ⟨s1, s2, s3, s4, _⟩ := valid_sizes h1
  simp only [Bool.true_eq_false, if_false]
  conv => whnf
  refine loop_by (I := fun n st => ∃ (q : Nat), q ≤ d.pens.length ∧ n = d.pens.length - q ∧ allTo (fineB d) q = true ∧ Has st 41 [(1, .ptr 0 0), (2, .c (I (bitsOf (sureB d) q))), (3, .c (I (bitsOf (mayB d) q))), (13, .c (I v.pn)), (14, .c (I q))] [] none ⟨1, .node v.blk .leaf .leaf⟩) ?_ (k := d.pens.length)
    ⟨0, Nat.zero_le _, rfl, rfl, rfl, ⟨rfl, rfl, rfl, rfl, rfl, trivial⟩, rfl, rfl, rfl, rfl⟩
  rintro n st ⟨q, hq, rfl, hall, hs1⟩
  refine hs1.run (hm := true) ?_
  conv => whnf
  cases hc : decide ((q : Int) < (v.pn : Int))
  case true =>
    have hq : q < d.pens.length := by simp at hc; omega
    have q32 : 2 ^ q ≤ 2 ^ 4 := Nat.pow_le_pow_right (by omega) (by omega)
    have bs := bitsOf_lt (sureB d) q
    have bm := bitsOf_lt (mayB d) q
    conv => whnf
    refine .ret (dryOf_ret hv (q : Int)) rfl ?_
    conv => whnf
    cases h2 : ((dryR d q).2 != 0)
    case true =>
      have h2' : (dryR d q).2 ≠ 0 := by simpa using h2
      have h10 : (dryR d q).2 = 10 := (dry_err h1 hq).resolve_left h2'
      rw [h10]
      have hf : allTo (fineB d) d.pens.length = false := allTo_false hq (by simp [fineB, h2'])
      rw [hf]
      conv => whnf
      exact .val
    have h2' : (dryR d q).2 = 0 := by simpa using h2
    have hall' : allTo (fineB d) (q + 1) = true := allTo_succ hall (by simp [fineB, h2'])
    have close : ∀ (a b : Nat), a = bitsOf (sureB d) (q + 1) → b = bitsOf (mayB d) (q + 1) → ∃ j, j < d.pens.length - q ∧ ∃ q, q ≤ d.pens.length ∧ j = d.pens.length - q ∧ allTo (fineB d) q = true ∧ a = bitsOf (sureB d) q ∧ b = bitsOf (mayB d) q := fun a b ha hb => ⟨d.pens.length - (q + 1), by omega, q + 1, by omega, rfl, hall', ha, hb⟩
    conv => whnf
    cases h3 : ((dryR d q).1 == 2)
    · conv => whnf
      cases h4 : ((dryR d q).1 != 0)
      · conv => whnf
        refine ⟨((q + 1 : Nat) : Int), by rw [wrap_eq (by omega) (by omega)]; omega, ?_⟩
        conv => whnf
        exact ⟨d.pens.length - (q + 1), by omega, q + 1, by omega, rfl, hall', rfl, ⟨rfl, by simp [bitsOf, sureB, h3]; rfl, by simp [bitsOf, mayB, h4]; rfl, rfl, rfl, trivial⟩, rfl, rfl, rfl, rfl⟩
      · conv => whnf
        refine ⟨by omega, _, shl_nat 1 q (by omega) (by omega), ?_⟩
        conv => whnf
        refine ⟨_, or_nat (a := bitsOf (mayB d) q) (b := 1 * 2 ^ q) (by omega) (by omega), ?_⟩
        conv => whnf
        refine ⟨((q + 1 : Nat) : Int), by rw [wrap_eq (by omega) (by omega)]; omega, ?_⟩
        conv => whnf
        exact ⟨d.pens.length - (q + 1), by omega, q + 1, by omega, rfl, hall', rfl, ⟨rfl, by simp [bitsOf, sureB, h3]; rfl, by simp [bitsOf, mayB, h4]; rfl, rfl, rfl, trivial⟩, rfl, rfl, rfl, rfl⟩
    · have h4 : ((dryR d q).1 != 0) = true := by
        have : (dryR d q).1 = 2 := by simpa using h3
        rw [this]; rfl
      conv => whnf
      refine ⟨by omega, _, shl_nat 1 q (by omega) (by omega), ?_⟩
      conv => whnf
      refine ⟨_, or_nat (a := bitsOf (sureB d) q) (b := 1 * 2 ^ q) (by omega) (by omega), ?_⟩
      conv => whnf
      rw [h4]
      conv => whnf
      refine ⟨by omega, _, shl_nat 1 q (by omega) (by omega), ?_⟩
      conv => whnf
      refine ⟨_, or_nat (a := bitsOf (mayB d) q) (b := 1 * 2 ^ q) (by omega) (by omega), ?_⟩
      conv => whnf
      refine ⟨((q + 1 : Nat) : Int), by rw [wrap_eq (by omega) (by omega)]; omega, ?_⟩
      conv => whnf
      exact ⟨d.pens.length - (q + 1), by omega, q + 1, by omega, rfl, hall', rfl, ⟨rfl, by simp [bitsOf, sureB, h3]; rfl, by simp [bitsOf, mayB, h4]; rfl, rfl, rfl, trivial⟩, rfl, rfl, rfl, rfl⟩
  have : q = d.pens.length := by simp at hc; omega
  subst this
  rw [hall]
  conv => whnf
  exact .val
end Go.Ag
/- Layer 2: how many sheep can be shorn. -/
namespace Go.Ag
open Go.Proofs
set_option maxRecDepth 100000

def inPensF (f : Fl) (s : Nat) : Int := sumTo (fun k => if s.testBit k then sum4 (penF f k).fr else 0) f.pens.length
theorem inPens_ret {f : Fl} (hf : FlOk f) {s : Nat} (hs : s < 2 ^ 63) : Ret Try.prog 55 [flCV f, I s, .func (.func 56) [] []] (I (inPensF f s)) := by
  have hp := hf.pens
  have b4 : ∀ k, -40000 ≤ sum4 (penF f k).fr ∧ sum4 (penF f k).fr ≤ 40000 := fun k => by
    have := sumTo_bound (f := (penF f k).fr) (b := 10000) 4 (fun i _ => by have := hf.fr k i; unfold smallI at this; omega)
    unfold sum4; omega
  have bt : ∀ k, -40000 ≤ (if s.testBit k then sum4 (penF f k).fr else 0) ∧ (if s.testBit k then sum4 (penF f k).fr else 0) ≤ 40000 := fun k => by
    have := b4 k
    split <;> omega
  have bs : ∀ q, -(q * 40000) ≤ sumTo (fun k => if s.testBit k then sum4 (penF f k).fr else 0) q ∧ sumTo (fun k => if s.testBit k then sum4 (penF f k).fr else 0) q ≤ q * 40000 := fun q => sumTo_bound q fun i _ => by have := bt i; omega
  refine ret_by (hm := false) Try.func55 rfl ?_
  conv => whnf
  refine ⟨flBlkC f, rfl, ?_⟩
  conv => whnf
  refine loop_by (I := fun n st => ∃ (q : Nat) (h : Heap), q ≤ f.pens.length ∧ n = f.pens.length - q ∧ 0 < h.n ∧
    Has st 30 [(1, .c (I s)), (2, .c (.func (.func 56) [] [])), (7, .c (I (sumTo (fun k => if s.testBit k then sum4 (penF f k).fr else 0) q))), (11, .c (.sl (penCells f.pens) 0 f.pens.length)), (12, .c (I f.pens.length)), (13, .c (I q))] [] none h) ?_ (k := f.pens.length)
    ⟨0, _, Nat.zero_le _, rfl, Nat.lt_succ_self 0, rfl, ⟨rfl, rfl, rfl, rfl, rfl, rfl, trivial⟩, rfl, rfl, rfl, rfl⟩
  rintro n st ⟨q, h, hq, rfl, hn, hs1⟩
  refine hs1.run (hm := false) ?_
  conv => whnf
  cases hc : decide ((q : Int) < (f.pens.length : Int))
  case true =>
    have hq : q < f.pens.length := by simp at hc; omega
    have b1 := b4 q; have b2 := bs q
    conv => whnf
    refine ⟨⟨by omega, by omega⟩, ?_⟩
    conv => whnf
    refine ⟨_, fl_pen hq, ?_⟩
    conv => whnf
    refine ⟨_, at_push_self _ _, ?_⟩
    conv => whnf
    refine .ret (has_ret s q hs (by omega)) rfl ?_
    conv => whnf
    cases hb : s.testBit q
    · conv => whnf
      refine ⟨((q + 1 : Nat) : Int), by rw [wrap_eq (by omega) (by omega)]; omega, ?_⟩
      conv => whnf
      exact ⟨f.pens.length - (q + 1), by omega, q + 1, _, by omega, rfl, Nat.succ_pos _, rfl, ⟨rfl, rfl, by simp [sumTo, hb]; rfl, rfl, rfl, rfl, trivial⟩, rfl, rfl, rfl, rfl⟩
    · conv => whnf
      refine ⟨_, at_new _ _ _, ?_⟩
      conv => whnf
      refine .ret (all_ret (penF f q).fr (fun i _ => (hf.fr q i).tame)) rfl ?_
      conv => whnf
      refine CallW.msl (cs := [I _, I _]) (at_push_self _ _) (sum2_ret _ _ (by unfold tame; omega) (by unfold tame; omega)) rfl ?_
      conv => whnf
      refine ⟨((q + 1 : Nat) : Int), by rw [wrap_eq (by omega) (by omega)]; omega, ?_⟩
      conv => whnf
      exact ⟨f.pens.length - (q + 1), by omega, q + 1, _, by omega, rfl, Nat.succ_pos _, rfl, ⟨rfl, rfl, by simp [sumTo, hb]; rfl, rfl, rfl, rfl, trivial⟩, rfl, rfl, rfl, rfl⟩
  have : q = f.pens.length := by simp at hc; omega
  subst this
  conv => whnf
  exact .val

/-- What Sheep returns. -/
def sheepR (d : Dr) : Int × Int := if (shearR d).2.2 ≠ 0 then (0, (shearR d).2.2) else (inPensF (flockF d) (shearR d).1, 0)
theorem sheep_ret {v : DV} {d : Dr} (hv : v.Is d) : Ret Try.prog 24 [v.cv] (.tuple [I (sheepR d).1, I (sheepR d).2]) := by
  refine ret_by (hm := true) Try.func24 rfl ?_
  conv => whnf
  refine .ret (shear_ret hv) rfl ?_
  conv => whnf
  unfold sheepR
  cases h1 : ((shearR d).2.2 != 0)
  · have h1' : ¬ ((shearR d).2.2 ≠ 0) := by simpa using h1
    rw [if_neg h1']
    have hd : validB d = true := by
      cases h : validB d with
      | true => rfl
      | false => exfalso; apply h1'; unfold shearR; rw [if_pos h]; decide
    obtain ⟨s1, s2, s3, s4, _⟩ := valid_sizes hd
    have hlt : (shearR d).1 < 2 ^ 63 := by
      have h16 : 2 ^ d.pens.length ≤ 2 ^ 5 := Nat.pow_le_pow_right (by omega) s4
      have := bitsOf_lt (sureB d) d.pens.length
      unfold shearR
      split
      · decide
      · split
        · decide
        · show bitsOf (sureB d) d.pens.length < 2 ^ 63
          omega
    conv => whnf
    refine .ret (flockOf_ret hv s2 (fun e => by rw [e] at s3; simp at s3)) rfl ?_
    conv => whnf
    refine .ret (inPens_ret (flock_ok hd) hlt) rfl ?_
    conv => whnf
    exact .val
  · have h1' : (shearR d).2.2 ≠ 0 := by simpa using h1
    rw [if_pos h1']
    conv => whnf
    exact .val

theorem sum_cut (g : Nat → Int) {n : Nat} (h : n ≤ 4) : sum4 (cutF n g) = sumTo g n := by
  obtain rfl | rfl | rfl | rfl | rfl : n = 0 ∨ n = 1 ∨ n = 2 ∨ n = 3 ∨ n = 4 := by omega
  all_goals simp [sum4, sumTo, cutF]

theorem far_ret {v : DV} {d : Dr} (hv : v.Is d) : Ret Try.prog 34 [v.cv] (B false) := by
  have e1 := hv.pn; have e2 := hv.mn; have e3 := hv.short
  refine ret_by (hm := true) Try.func34 rfl ?_
  conv => whnf
  have : decide (max (v.mn : Int) (v.pn : Int) > 40) = false := by simp; omega
  rw [this]
  exact .val
theorem fine_ret {v : DV} {d : Dr} (hv : v.Is d) : Ret Try.prog 30 [v.cv] (B (validB d)) := by
  refine ret_by (hm := true) Try.func30 rfl ?_
  conv => whnf
  refine .ret (far_ret hv) rfl ?_
  conv => whnf
  refine .ret (dry_ret hv) rfl ?_
  conv => whnf
  exact .val
end Go.Ag
