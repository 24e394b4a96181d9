/- Iterators, regions whose order is open, integers and lists on open values. No conditions. -/
import Derived.Test.YtgidjimpobeahaaAgD
import Derived.KernelRfl
import Derived.IntWalk
/- Proofs with open values: iterators, and ranges over them. -/
namespace Go.Ag

/-- All stays but W, and what is new. -/
structure Foot (W : Nat → Prop) (h h' : Heap) : Prop where
  n : h.n ≤ h'.n
  keep : ∀ i, i < h.n → ¬ W i → Heap.at h' i = Heap.at h i
theorem Foot.refl (W : Nat → Prop) (h : Heap) : Foot W h h := ⟨Nat.le_refl _, fun _ _ _ => rfl⟩
theorem Foot.trans {W : Nat → Prop} {a b c : Heap} (h : Foot W a b) (k : Foot W b c) : Foot W a c :=
  ⟨Nat.le_trans h.n k.n, fun i hi hw => (k.keep i (Nat.lt_of_lt_of_le hi h.n) hw).trans (h.keep i hi hw)⟩
theorem Foot.mono {W W' : Nat → Prop} {a b : Heap} (h : Foot W a b) (hw : ∀ i, i < a.n → W i → W' i) : Foot W' a b := ⟨h.n, fun i hi hn => h.keep i hi fun x => hn (hw i hi x)⟩
theorem Foot.push {W : Nat → Prop} {a b : Heap} (h : Foot W a b) (x : AB) : Foot W a (b.push .dead x) :=
  ⟨by rw [push_n]; exact Nat.le_succ_of_le h.n, fun i hi hw => by rw [at_push_lt _ _ (Nat.lt_of_lt_of_le hi h.n)]; exact h.keep i hi hw⟩
theorem Foot.set {W : Nat → Prop} {a b : Heap} (h : Foot W a b) {k : Nat} (hk : W k ∨ a.n ≤ k) (x : AB) : Foot W a (b.set .dead k x) :=
  ⟨by rw [TMap.set_n]; exact h.n, fun i hi hw => by
    have : i ≠ k := by rintro rfl; rcases hk with hk | hk; exact hw hk; omega
    rw [at_set_ne _ _ this]; exact h.keep i hi hw⟩

theorem Foot.below {n : Nat} {h h' : Heap} (f : Foot (fun i => n ≤ i) h h') (hn : n ≤ h.n) {i : Nat} (hi : i < n) : Heap.at h' i = Heap.at h i := f.keep i (Nat.lt_of_lt_of_le hi hn) (Nat.not_le.2 hi)

section
variable {P : Program}

theorem YieldOk.mono {id : Nat} {args : List AV} {h : Heap} {K K' : Bool → Heap → Prop} {X X' : AV → Heap → Prop} (hy : YieldOk P id args h K X) (hk : ∀ b h', K b h' → K' b h') (hx : ∀ v h', X v h' → X' v h') : YieldOk P id args h K' X' := by
  intro ops i o s ho hw ha hs
  refine (hy ops i o s ho hw ha hs).mono ?_ ?_
  · rintro s1 ⟨b, h', k, e⟩; exact ⟨b, h', hk _ _ k, e⟩
  · rintro v s1 ⟨h', k, e⟩; exact ⟨h', hx _ _ k, e⟩

/-- The rounds of a range, as an iterator sees them. -/
structure RoundsOk (P : Program) (id n0 : Nat) (J : List CV → Heap → Prop) (D : Heap → Prop) (X : AV → Heap → Prop) : Prop where
  stable : ∀ ys h h', J ys h → n0 ≤ h.n → Foot (fun i => n0 ≤ i) h h' → J ys h'
  dstable : ∀ h h', D h → n0 ≤ h.n → Foot (fun i => n0 ≤ i) h h' → D h'
  xstable : ∀ v h h', X v h → n0 ≤ h.n → Foot (fun i => n0 ≤ i) h h' → X v h'
  round : ∀ y ys h, J (y :: ys) h → n0 ≤ h.n → YieldOk P id [.c y] h (fun b h' => Foot (fun i => i < n0) h h' ∧ match b with | true => J ys h' | false => D h') (fun v h' => X v h' ∧ n0 ≤ h'.n ∧ Foot (fun i => i < n0) h h')

/-- A function value that yields these. -/
def IterC (P : Program) (it : CV) (ys : List CV) : Prop := ∃ g a b, it = .func (.func g) a b ∧ callable P g = true ∧ ∀ id n0 J D X, RoundsOk P id n0 J D X → id < n0 → ∀ h, n0 ≤ h.n → J ys h →
  ∃ e h', CallOk P g (a.map .c ++ [.yield id] ++ b.map .c) h .no e h' .no ∧ n0 ≤ h'.n ∧ match e with | .ret _ => J [] h' ∨ D h' | .panic v => X v h'

/-- How a round's body ends. -/
def roundEnd (n : Nat) (h0 : Heap) (I : List CV → Heap → Prop) (E : AExit → Heap → Prop) (X : AV → Heap → Prop) (ys : List CV) (e : AExit) (s : ASt) : Prop := match s.defers with
  | [] => Foot (fun i => i < n) h0 s.h ∧ match e with
    | .normal => I ys s.h
    | .panic v => X v s.h
    | e => E e s.h
  | _ :: _ => False

/-- A round: the assignment, then the body. -/
def roundT (P : Program) (s : ASt) (t : Tmp) (assign body : Code) (I : List CV → Heap → Prop) (E : AExit → Heap → Prop) (X : AV → Heap → Prop) (y : CV) (ys : List CV) (h : Heap) : Prop :=
  T P (.code assign) ⟨s.tmps.set .undef t (.c y), [], .no, some (s.h.n + 1), h⟩ fun e s1 => match e, s1 with
    | .normal, ⟨t1, [], .no, rd, h1⟩ => h1 = h ∧ T P (.code body) ⟨t1, [], .no, rd, h.set .dead (s.h.n + 1) (.loop 0 s.tmps [t] assign body .busy none s.h.n)⟩
        (roundEnd s.h.n (h.set .dead (s.h.n + 1) (.loop 0 s.tmps [t] assign body .busy none s.h.n)) I E X ys)
    | _, _ => False

theorem round_ok {s : ASt} {t : Tmp} {assign body : Code} {I : List CV → Heap → Prop} {E : AExit → Heap → Prop} {X : AV → Heap → Prop} {y : CV} {ys : List CV} {h : Heap}
    (hI : ∀ ys h h', I ys h → s.h.n ≤ h.n → Foot (fun i => s.h.n ≤ i) h h' → I ys h') (hE : ∀ e h h', E e h → s.h.n ≤ h.n → Foot (fun i => s.h.n ≤ i) h h' → E e h')
    (hn : s.h.n + 2 ≤ h.n) (hc : Heap.at h s.h.n = .coll true) (hb : Heap.at h (s.h.n + 1) = .loop 0 s.tmps [t] assign body .ready none s.h.n) (hr : roundT P s t assign body I E X y ys h) :
    YieldOk P (s.h.n + 1) [.c y] h (fun b h' => Foot (fun i => i < s.h.n + 2) h h' ∧ match b with
      | true => s.h.n + 2 ≤ h'.n ∧ Heap.at h' s.h.n = .coll true ∧ Heap.at h' (s.h.n + 1) = .loop 0 s.tmps [t] assign body .ready none s.h.n ∧ I ys h'
      | false => s.h.n + 2 ≤ h'.n ∧ Heap.at h' s.h.n = .coll true ∧ ∃ e c, jumpOf e = some c ∧ Heap.at h' (s.h.n + 1) = .loop 0 s.tmps [t] assign body .done (some c) s.h.n ∧ E e h')
      (fun v h' => (s.h.n + 2 ≤ h'.n ∧ Heap.at h' s.h.n = .coll true ∧ X v h') ∧ s.h.n + 2 ≤ h'.n ∧ Foot (fun i => i < s.h.n + 2) h h') := by
  intro ops i o s0 ho hw ha hs0
  subst hs0
  obtain ⟨e1, s1, h1, k1⟩ := hr
  obtain ⟨t1, ds1, p1, rd1, hp1⟩ := s1
  split at k1
  case h_2 => exact k1.elim
  rename_i e2 s2 t2 rd2 hp2 he2
  simp only [ASt.mk.injEq] at he2
  obtain ⟨rfl, rfl, rfl, rfl, rfl⟩ := he2
  obtain ⟨rfl, k1⟩ := k1
  obtain ⟨e, s2, h2, k2⟩ := k1
  unfold roundEnd at k2
  split at k2
  case h_2 => exact k2.elim
  rename_i hd2
  obtain ⟨kf, k2⟩ := k2
  have hbusy : ∀ x, Heap.at (s0.h.set .dead (s.h.n + 1) x) (s.h.n + 1) = x := fun x => at_set_self _ _ (by omega)
  have hb2 : Heap.at s2.h (s.h.n + 1) = .loop 0 s.tmps [t] assign body .busy none s.h.n := by
    rw [kf.keep _ (by rw [TMap.set_n]; omega) (by omega)]; exact hbusy _
  have hc2 : Heap.at s2.h s.h.n = .coll true := by
    rw [kf.keep _ (by rw [TMap.set_n]; omega) (by omega), at_set_ne _ _ (by omega)]; exact hc
  have hn2 : s.h.n + 2 ≤ s2.h.n := by have := kf.n; rw [TMap.set_n] at this; omega
  have foot : ∀ x, Foot (fun i => i < s.h.n + 2) s0.h (s2.h.set .dead (s.h.n + 1) x) := by
    intro x
    refine Foot.set (Foot.trans (Foot.set (Foot.refl _ _) (.inl (by omega)) _) (kf.mono fun i _ hi => by omega)) (.inl (by omega)) x
  have up : ∀ x, Foot (fun i => s.h.n ≤ i) s2.h (s2.h.set .dead (s.h.n + 1) x) := fun x => Foot.set (Foot.refl _ _) (.inl (by omega)) x
  have hy := fun rest => ok_yield (P := P) (rest := rest) ho hw ha hb (by rfl) h1 hb h2 hd2
  cases e with
  | panic v =>
    exact ⟨.inr ⟨v, { s0 with h := s2.h }, ⟨s2.h, ⟨⟨hn2, hc2, k2⟩, hn2, Foot.trans (Foot.set (Foot.refl _ _) (.inl (by omega)) _) (kf.mono fun i _ hi => by omega)⟩, rfl⟩, fun rest => (hy rest).1 v rfl⟩⟩
  | normal =>
    refine ⟨.inl ⟨_, ⟨true, _, ⟨foot _, by rw [TMap.set_n]; exact hn2, ?_, at_set_self _ _ (by omega), hI _ _ _ k2 (by omega) (up _)⟩, rfl⟩, fun rest ex s' hk => (hy rest).2 _ _ _ _ _ _ _ _ s' ex (by simp) hb2 hk⟩⟩
    rw [at_set_ne _ _ (by omega)]; exact hc2
  | exit j =>
    refine ⟨.inl ⟨_, ⟨false, _, ⟨foot _, by rw [TMap.set_n]; exact hn2, ?_, .exit j, .exit j, rfl, at_set_self _ _ (by omega), hE _ _ _ k2 (by omega) (up _)⟩, rfl⟩, fun rest ex s' hk => (hy rest).2 _ _ _ _ _ _ _ _ s' ex (by simp) hb2 hk⟩⟩
    rw [at_set_ne _ _ (by omega)]; exact hc2
  | ret =>
    refine ⟨.inl ⟨_, ⟨false, _, ⟨foot _, by rw [TMap.set_n]; exact hn2, ?_, .ret, .ret, rfl, at_set_self _ _ (by omega), hE _ _ _ k2 (by omega) (up _)⟩, rfl⟩, fun rest ex s' hk => (hy rest).2 _ _ _ _ _ _ _ _ s' ex (by simp) hb2 hk⟩⟩
    rw [at_set_ne _ _ (by omega)]; exact hc2

/-- A RANGE OVER AN ITERATOR. -/
theorem range_by {f : Operand} {t : Tmp} {assign body : Code} {tmps : TMap AV} {ds : List ADef} {p : Pan} {hp : Heap} {K : AExit → ASt → Prop} {it : CV} {ys : List CV} (hf : evalF tmps f = .c it) (hi : IterC P it ys)
    (I : List CV → Heap → Prop) (E : AExit → Heap → Prop) (X : AV → Heap → Prop)
    (hI : ∀ ys h h', I ys h → hp.n ≤ h.n → Foot (fun i => hp.n ≤ i) h h' → I ys h') (hE : ∀ e h h', E e h → hp.n ≤ h.n → Foot (fun i => hp.n ≤ i) h h' → E e h')
    (start : I ys hp)
    (round : ∀ y ys h, hp.n + 2 ≤ h.n → I (y :: ys) h → roundT P ⟨tmps, ds, p, none, hp⟩ t assign body I E X y ys h)
    (done : ∀ h, hp.n + 2 ≤ h.n → Heap.at h hp.n = .coll true → I [] h → K .normal ⟨tmps, .coll hp.n :: ds, p, none, h⟩)
    (left : ∀ e h, hp.n + 2 ≤ h.n → Heap.at h hp.n = .coll true → E e h → (jumpOf e).isSome = true → K e ⟨tmps, .coll hp.n :: ds, p, none, h⟩)
    (fell : ∀ v h, hp.n + 2 ≤ h.n → Heap.at h hp.n = .coll true → X v h → K (.panic v) ⟨tmps, .coll hp.n :: ds, p, none, h⟩)
    (hX : ∀ v h h', X v h → hp.n ≤ h.n → Foot (fun i => hp.n ≤ i) h h' → X v h' := by intro _ _ _ hx; exact False.elim hx) : RangeW P f #[t] assign body ⟨tmps, ds, p, none, hp⟩ K := by
  obtain ⟨g, a, b, rfl, hcall, hi⟩ := hi
  let s : ASt := ⟨tmps, ds, p, none, hp⟩
  have hev : s.eval f = .c (.func (.func g) a b) := by rw [← hf]; exact (congrFun (evalF_eq tmps ds p none hp) f).symm
  have htarget : targetOf P (s.eval f) [.yield (s.h.n + 1)] = some (g, a.map .c ++ [.yield (s.h.n + 1)] ++ b.map .c) := by
    rw [hev]; simp only [targetOf, hcall, if_true]
  let J : List CV → Heap → Prop := fun ys h => hp.n + 2 ≤ h.n ∧ Heap.at h hp.n = .coll true ∧ Heap.at h (hp.n + 1) = .loop 0 tmps [t] assign body .ready none hp.n ∧ I ys h
  let D : Heap → Prop := fun h => hp.n + 2 ≤ h.n ∧ Heap.at h hp.n = .coll true ∧ ∃ e c, jumpOf e = some c ∧ Heap.at h (hp.n + 1) = .loop 0 tmps [t] assign body .done (some c) hp.n ∧ E e h
  have rounds : RoundsOk P (hp.n + 1) (hp.n + 2) J D (fun v h => hp.n + 2 ≤ h.n ∧ Heap.at h hp.n = .coll true ∧ X v h) := by
    refine ⟨?_, ?_, ?_, ?_⟩
    · rintro ys h h' ⟨j1, j2, j3, j4⟩ _ ff
      exact ⟨Nat.le_trans j1 ff.n, (ff.keep _ (by omega) (by omega)).trans j2, (ff.keep _ (by omega) (by omega)).trans j3, hI _ _ _ j4 (by omega) (ff.mono fun i _ hi => by omega)⟩
    · rintro h h' ⟨j1, j2, e, c, j3, j4, j5⟩ _ ff
      exact ⟨Nat.le_trans j1 ff.n, (ff.keep _ (by omega) (by omega)).trans j2, e, c, j3, (ff.keep _ (by omega) (by omega)).trans j4, hE _ _ _ j5 (by omega) (ff.mono fun i _ hi => by omega)⟩
    · rintro v h h' ⟨j1, j2, j3⟩ _ ff
      exact ⟨Nat.le_trans j1 ff.n, (ff.keep _ (by omega) (by omega)).trans j2, hX _ _ _ j3 (by omega) (ff.mono fun i _ hi => by omega)⟩
    · rintro y ys h ⟨j1, j2, j3, j4⟩ _
      exact (round_ok (s := s) hI hE j1 j2 j3 (round y ys h j1 j4)).mono (fun b h' k => k) (fun v h' k => k)
  have h0 : (rangeStart s #[t] assign body).h = (hp.push .dead (.coll true)).push .dead (.loop 0 tmps [t] assign body .ready none hp.n) := rfl
  have f0 : Foot (fun i => hp.n ≤ i) hp (rangeStart s #[t] assign body).h := by rw [h0]; exact ((Foot.refl _ _).push _).push _
  have J0 : J ys (rangeStart s #[t] assign body).h := by
    refine ⟨by rw [h0]; simp only [push_n]; omega, ?_, ?_, hI _ _ _ start (Nat.le_refl _) f0⟩
    · rw [h0, at_push_lt _ _ (by rw [push_n]; omega)]; exact at_push_self _ _
    · rw [h0]; exact at_push_self _ _
  obtain ⟨e, h2, hc, hn2, hend⟩ := hi (hp.n + 1) (hp.n + 2) J D _ rounds (by omega) _ (by rw [h0]; simp only [push_n]; omega) J0
  have R := ok_range (P := P) (f := f) (params := #[t]) (assign := assign) (body := body) (s := s) rfl htarget hc
  have fin : ∀ x, Foot (fun i => hp.n ≤ i) h2 (h2.set .dead (hp.n + 1) x) := fun x => Foot.set (Foot.refl _ _) (.inl (Nat.le_succ hp.n)) x
  refine ⟨?_⟩
  cases e with
  | panic v =>
    obtain ⟨k1, k2, k3⟩ := hend
    exact ⟨_, _, R.1 v rfl, fell v h2 k1 k2 k3⟩
  | ret v =>
    rcases hend with ⟨j1, j2, j3, j4⟩ | ⟨j1, j2, ex, c, j3, j4, j5⟩
    · refine ⟨_, _, (R.2 v _ _ _ _ _ _ _ _ rfl j3 (by simp)).1 rfl, done _ (by rw [TMap.set_n]; exact j1) ?_ (hI _ _ _ j4 (by omega) (fin _))⟩
      exact (at_set_ne h2 _ (i := hp.n) (k := hp.n + 1) (by omega)).trans j2
    · have hk := left ex (h2.set .dead (hp.n + 1) (.loop 0 tmps [t] assign body .exhausted (some c) hp.n)) (by rw [TMap.set_n]; exact j1) (by rw [at_set_ne _ _ (by omega)]; exact j2) (hE _ _ _ j5 (by omega) (fin _)) (by rw [j3]; rfl)
      refine ⟨_, _, (R.2 v _ _ _ _ _ _ _ _ rfl j4 (by simp)).2 c _ _ rfl ?_, hk⟩
      cases ex with
      | exit i => simp only [jumpOf, Option.some.injEq] at j3; subst j3; exact ok_exit
      | ret => simp only [jumpOf, Option.some.injEq] at j3; subst j3; exact ok_ret
      | normal => simp [jumpOf] at j3
      | panic v => simp [jumpOf] at j3

/-- A round, where it is known how many blocks there are. -/
noncomputable def roundN (P : Program) (hm : Bool) (tmps : TMap AV) (N : Nat) (t : Tmp) (assign body : Code) (I : List CV → Heap → Prop) (E : AExit → Heap → Prop) (X : AV → Heap → Prop) (y : CV) (ys : List CV) (h : Heap) : Prop :=
  mapK .undef tmps t (.c y) fun tm => wCode P hm assign ⟨tm, [], .no, some (N + 1), h⟩ fun e s1 => match e, s1 with
    | .normal, ⟨t1, [], .no, rd, h1⟩ => Both (h1 = h) (∀ hb, Foot (fun i => i = N + 1) h hb → hb.n = h.n → wCode P hm body ⟨t1, [], .no, rd, hb⟩ (roundEnd N hb I E X ys))
    | _, _ => False

theorem range_n {hm : Bool} {f : Operand} {t : Tmp} {assign body : Code} {tmps : TMap AV} {ds : List ADef} {p : Pan} {hp : Heap} {K : AExit → ASt → Prop} {it : CV} {ys : List CV} (N : Nat) (hN : hp.n = N) (hf : evalF tmps f = .c it) (hi : IterC P it ys)
    (I : List CV → Heap → Prop) (E : AExit → Heap → Prop) (X : AV → Heap → Prop)
    (hI : ∀ ys h h', I ys h → N ≤ h.n → Foot (fun i => N ≤ i) h h' → I ys h') (hE : ∀ e h h', E e h → N ≤ h.n → Foot (fun i => N ≤ i) h h' → E e h')
    (start : I ys hp)
    (round : ∀ y ys h, N + 2 ≤ h.n → I (y :: ys) h → roundN P hm tmps N t assign body I E X y ys h)
    (done : ∀ h, N + 2 ≤ h.n → Heap.at h N = .coll true → I [] h → K .normal ⟨tmps, .coll N :: ds, p, none, h⟩)
    (left : ∀ e h, N + 2 ≤ h.n → Heap.at h N = .coll true → E e h → (jumpOf e).isSome = true → K e ⟨tmps, .coll N :: ds, p, none, h⟩)
    (fell : ∀ v h, N + 2 ≤ h.n → Heap.at h N = .coll true → X v h → K (.panic v) ⟨tmps, .coll N :: ds, p, none, h⟩)
    (hX : ∀ v h h', X v h → N ≤ h.n → Foot (fun i => N ≤ i) h h' → X v h' := by intro _ _ _ hx; exact False.elim hx) : RangeW P f #[t] assign body ⟨tmps, ds, p, none, hp⟩ K := by
  subst hN
  refine range_by hf hi I E X hI hE start ?_ done left fell hX
  intro y ys h hn hy
  have hr := round y ys h hn hy
  unfold roundN at hr
  rw [mapK_eq] at hr
  refine (wCode_ok assign _ _ hr).mono ?_
  intro e s1 hk
  obtain ⟨t1, ds1, p1, rd1, h1⟩ := s1
  cases e with
  | normal =>
    cases ds1 with
    | nil =>
      cases p1 with
      | no =>
        obtain ⟨hh, hk⟩ := hk
        exact ⟨hh, wCode_ok body _ _ (hk _ (Foot.set (W := fun i => i = hp.n + 1) (k := hp.n + 1) (Foot.refl _ _) (.inl rfl) _) rfl)⟩
      | live v => exact hk
      | taken => exact hk
    | cons a l => exact hk
  | exit i => exact hk
  | ret => exact hk
  | panic v => exact hk
end
end Go.Ag
/- Proofs with open values: regions whose order is open, with calls that write. -/
namespace Go.Ag

/-- What an operation did: one that writes nothing (kind none), or one that turns one heap into another. -/
structure MRec where
  idx : Nat
  dst : Option Tmp
  looks : List Tmp
  tv : Tmp → AV
  val : AV
  reads : List Nat
  rv : Nat → AB
  kind : Option (Heap × Heap)
  pan : Option AV

structure XSt where
  n : Nat
  T : Tmp → AV
  h : Heap

def MRec.req (m : MRec) (s : XSt) : Prop := (∀ t ∈ m.looks, s.T t = m.tv t) ∧ match m.kind with
  | none => ∀ r ∈ m.reads, Heap.at s.h r = m.rv r
  | some p => s.h = p.1
def MRec.on (m : MRec) (s : XSt) : XSt where
  n := s.n
  T := match m.dst with | some d => fun t => if t = d ∧ d < s.n then m.val else s.T t | none => s.T
  h := match m.kind with | none => s.h | some p => p.2

structure MIndep (a b : MRec) : Prop where
  ab : ∀ d, a.dst = some d → d ∉ b.looks ∧ b.dst ≠ some d
  ba : ∀ d, b.dst = some d → d ∉ a.looks
  heap : match a.kind, b.kind with
    | none, none => True
    | some p, none => ∀ r ∈ b.reads, Heap.at p.2 r = Heap.at p.1 r
    | none, some p => ∀ r ∈ a.reads, Heap.at p.2 r = Heap.at p.1 r
    | some _, some _ => False

theorem MRec.on_T {m : MRec} {s : XSt} {t : Tmp} (h : m.dst ≠ some t) : (m.on s).T t = s.T t := by
  unfold MRec.on
  cases hd : m.dst with
  | none => rfl
  | some d => simp only; rw [if_neg]; rintro ⟨rfl, _⟩; exact h hd

theorem xst_eq {a b : XSt} (h1 : a.n = b.n) (h2 : a.T = b.T) (h3 : a.h = b.h) : a = b := by
  cases a; cases b; simp only at h1 h2 h3; rw [h1, h2, h3]

theorem mswap {a b : MRec} {s : XSt} (h : MIndep a b) (ha : a.req s) (hb : b.req (a.on s)) : b.req s ∧ a.req (b.on s) ∧ b.on (a.on s) = a.on (b.on s) := by
  obtain ⟨hab, hba, hh⟩ := h
  have t1 : ∀ t ∈ b.looks, (a.on s).T t = s.T t := fun t ht => MRec.on_T fun hd => (hab t hd).1 ht
  have t2 : ∀ t ∈ a.looks, (b.on s).T t = s.T t := fun t ht => MRec.on_T fun hd => hba t hd ht
  have eT : (b.on (a.on s)).T = (a.on (b.on s)).T := by
    funext t
    unfold MRec.on
    cases hda : a.dst with
    | none => rfl
    | some d =>
      cases hdb : b.dst with
      | none => rfl
      | some d' =>
        have : d ≠ d' := by rintro rfl; exact (hab d hda).2 hdb
        simp only
        by_cases h1 : t = d
        · subst h1
          have : ¬ (t = d' ∧ d' < s.n) := fun x => this x.1
          rw [if_neg this, if_neg this]
        · have h1' : ¬ (t = d ∧ d < s.n) := fun x => h1 x.1
          rw [if_neg h1', if_neg h1']
  obtain ⟨a1, a2⟩ := ha
  obtain ⟨b1, b2⟩ := hb
  have bT : ∀ t ∈ b.looks, s.T t = b.tv t := fun t ht => (t1 t ht).symm.trans (b1 t ht)
  have aT : ∀ t ∈ a.looks, (b.on s).T t = a.tv t := fun t ht => (t2 t ht).trans (a1 t ht)
  cases hka : a.kind with
  | none =>
    rw [hka] at a2
    have eh : (a.on s).h = s.h := by unfold MRec.on; rw [hka]
    cases hkb : b.kind with
    | none =>
      rw [hkb] at b2
      have eh2 : (b.on s).h = s.h := by unfold MRec.on; rw [hkb]
      refine ⟨⟨bT, by rw [hkb]; intro r hr; rw [← b2 r hr, eh]⟩, ⟨aT, by rw [hka]; intro r hr; rw [eh2]; exact a2 r hr⟩, ?_⟩
      have : (b.on (a.on s)).h = (a.on (b.on s)).h := by
        have e1 : (b.on (a.on s)).h = (a.on s).h := by unfold MRec.on; simp only [hkb]
        have e2 : (a.on (b.on s)).h = (b.on s).h := by unfold MRec.on; simp only [hka]
        rw [e1, e2, eh, eh2]
      exact xst_eq rfl eT this
    | some p =>
      rw [hkb] at b2
      rw [hka, hkb] at hh
      simp only at hh
      have e1 : (b.on (a.on s)).h = p.2 := by unfold MRec.on; simp only [hkb]
      have e2 : (b.on s).h = p.2 := by unfold MRec.on; simp only [hkb]
      have e3 : (a.on (b.on s)).h = (b.on s).h := by unfold MRec.on; simp only [hka]
      have es : s.h = p.1 := by rw [← eh]; exact b2
      refine ⟨⟨bT, by rw [hkb]; exact es⟩, ⟨aT, by rw [hka]; intro r hr; rw [e2, hh r hr, ← es]; exact a2 r hr⟩, ?_⟩
      have : (b.on (a.on s)).h = (a.on (b.on s)).h := by rw [e1, e3, e2]
      exact xst_eq rfl eT this
  | some p =>
    rw [hka] at a2
    cases hkb : b.kind with
    | some q => rw [hka, hkb] at hh; exact hh.elim
    | none =>
      rw [hkb] at b2
      rw [hka, hkb] at hh
      simp only at hh a2
      have eh : (a.on s).h = p.2 := by unfold MRec.on; simp only [hka]
      have e2 : (b.on s).h = s.h := by unfold MRec.on; simp only [hkb]
      have e1 : (b.on (a.on s)).h = (a.on s).h := by unfold MRec.on; simp only [hkb]
      have e3 : (a.on (b.on s)).h = p.2 := by unfold MRec.on; simp only [hka]
      refine ⟨⟨bT, by rw [hkb]; intro r hr; rw [← b2 r hr, eh, hh r hr, a2]⟩, ⟨aT, by rw [hka]; simp only; rw [e2]; exact a2⟩, ?_⟩
      have : (b.on (a.on s)).h = (a.on (b.on s)).h := by rw [e1, e3, eh]
      exact xst_eq rfl eT this

inductive XSteps : List MRec → XSt → XSt → Prop
  | nil (s) : XSteps [] s s
  | cons {r l s s'} (h : r.req s) (t : XSteps l (r.on s) s') : XSteps (r :: l) s s'

theorem XSteps.later {r : MRec} : ∀ {l rest : List MRec} {s s' : XSt}, (∀ x ∈ l, MIndep r x) → XSteps (r :: (l ++ rest)) s s' → XSteps (l ++ r :: rest) s s'
  | [], _, _, _, _, h => h
  | x :: l, rest, s, s', hl, h => by
    cases h with
    | cons hr h =>
      cases h with
      | cons hx h =>
        obtain ⟨h1, h2, h3⟩ := mswap (hl x (List.mem_cons_self ..)) hr hx
        rw [h3] at h
        exact .cons h1 (XSteps.later (fun y hy => hl y (List.mem_cons_of_mem _ hy)) (.cons h2 h))

theorem XSteps.perm {Ord : Nat → Nat → Prop} : ∀ {L : List MRec} {s s' : XSt} {σ : List Nat}, XSteps L s s' →
    L.Pairwise (fun a b => Ord a.idx b.idx ∨ MIndep a b) → (L.map (·.idx)).Nodup → σ.Perm (L.map (·.idx)) → σ.Pairwise (fun b a => ¬ Ord a b) →
    ∃ L', L'.map (·.idx) = σ ∧ L'.Perm L ∧ XSteps L' s s'
  | [], s, s', σ, h, _, _, hp, _ => by
    have : σ = [] := by simpa using hp
    subst this
    exact ⟨[], rfl, .refl _, h⟩
  | r :: L, s, s', σ, h, hpw, hnd, hp, ho => by
    cases h with
    | cons hr h =>
      simp only [List.map_cons, List.nodup_cons] at hnd
      have hm : r.idx ∈ σ := hp.symm.subset (by simp)
      obtain ⟨α, β, rfl⟩ := List.append_of_mem hm
      have hp' : (α ++ β).Perm (L.map (·.idx)) := by
        have h1 : (α ++ r.idx :: β).Perm (r.idx :: (α ++ β)) := List.perm_middle
        exact List.Perm.cons_inv (h1.symm.trans hp)
      rw [List.pairwise_cons] at hpw
      have ho' : (α ++ β).Pairwise (fun b a => ¬ Ord a b) := by
        rw [List.pairwise_append] at ho ⊢
        obtain ⟨h1, h2, h3⟩ := ho
        rw [List.pairwise_cons] at h2
        exact ⟨h1, h2.2, fun a ha b hb => h3 a ha b (List.mem_cons_of_mem _ hb)⟩
      obtain ⟨L', e', p', d'⟩ := XSteps.perm h hpw.2 hnd.2 hp' ho'
      obtain ⟨La, Lb, rfl, ea, eb⟩ := List.map_eq_append_iff.1 e'
      refine ⟨La ++ r :: Lb, by simp [ea, eb], List.perm_middle.trans (p'.cons r), XSteps.later ?_ (.cons hr d')⟩
      intro x hx
      have hxL : x ∈ L := p'.subset (List.mem_append_left _ hx)
      refine (hpw.1 x hxL).resolve_left (fun hOrd => ?_)
      rw [List.pairwise_append] at ho
      exact ho.2.2 x.idx (ea ▸ List.mem_map_of_mem hx) r.idx (List.mem_cons_self ..) hOrd

theorem XSteps.split : ∀ {L1 L2 : List MRec} {s s' : XSt}, XSteps (L1 ++ L2) s s' → ∃ m, XSteps L1 s m ∧ XSteps L2 m s'
  | [], L2, s, _, h => ⟨s, .nil s, h⟩
  | r :: L1, L2, s, s', h => by
    cases h with
    | cons hr h =>
      obtain ⟨m, h1, h2⟩ := XSteps.split (L1 := L1) (L2 := L2) h
      exact ⟨m, .cons hr h1, h2⟩

theorem XSteps.append : ∀ {L1 L2 : List MRec} {s m s' : XSt}, XSteps L1 s m → XSteps L2 m s' → XSteps (L1 ++ L2) s s'
  | [], _, _, _, _, h, h' => by cases h; exact h'
  | r :: L1, L2, s, m, s', h, h' => by
    cases h with
    | cons hr h => exact .cons hr (XSteps.append h h')

/-- Only some of them. -/
theorem XSteps.sub (p : MRec → Bool) : ∀ {L : List MRec} {s s' : XSt}, XSteps L s s' → L.Pairwise (fun a b => p a = false → p b = true → MIndep a b) → ∃ m, XSteps (L.filter p) s m
  | [], s, _, _, _ => ⟨s, .nil s⟩
  | r :: L, s, s', h, hp => by
    rw [List.pairwise_cons] at hp
    cases h with
    | cons hr h =>
      obtain ⟨m, h1⟩ := XSteps.sub p h hp.2
      cases hpr : p r with
      | true => exact ⟨m, by rw [List.filter_cons_of_pos hpr]; exact .cons hr h1⟩
      | false =>
        have h2 : XSteps (r :: (L.filter p ++ [])) s m := by simpa using XSteps.cons hr h1
        have h3 := XSteps.later (fun x hx => hp.1 x (List.mem_filter.1 hx).1 hpr (List.mem_filter.1 hx).2) h2
        obtain ⟨m', h4, _⟩ := XSteps.split h3
        exact ⟨m', by rw [List.filter_cons_of_neg (by simp [hpr])]; exact h4⟩

def ASt.x (s : ASt) : XSt := ⟨s.tmps.n, s.tmps.get .undef, s.h⟩
def MRec.heapOf (m : MRec) (h : Heap) : Heap := match m.kind with | none => h | some p => p.2

/-- An operation, step by step: all temporaries but its own stay. -/
def StepF (P : Program) (ops : Array Oper) (i : Nat) (dst : Option Tmp) (s s1 : ASt) : Prop := ∀ (g : G) (fr : Frame) (cs base : List Frame) (w : World) (k : List Item) (rest : List Nat), StRel P g s fr w → CsRel g s.pan fr.kind cs base → fr.todo = .inRegion ops (i :: rest) :: k → fr.mode = .run →
  ∃ g1 fr1 w1, Steps P (lone fr cs w) (lone fr1 cs w1) ∧ StRel P g1 s1 fr1 w1 ∧ CsRel g1 s1.pan fr.kind cs base ∧ Evolves g (Heap.at s.h) w g1 (Heap.at s1.h) w1 ∧ s1.round = s.round ∧ fr1.todo = .inRegion ops rest :: k ∧ fr1.mode = fr.mode ∧ fr1.fn = fr.fn ∧ fr1.kind = fr.kind ∧ ∀ t, dst ≠ some t → fr1.tmps[t]? = fr.tmps[t]?
/-- The operation does so from each state that is as it wants. -/
def Ev (P : Program) (ops : Array Oper) (m : MRec) : Prop := (∀ d, m.dst = some d → m.pan = none) ∧ (∀ s : ASt, m.req s.x → OpStep P ops m.idx s (fun s1 => m.pan = none ∧ s1 = ({ s with h := m.heapOf s.h } : ASt).put m.dst m.val) (fun v s1 => m.pan = some v ∧ s1 = { s with h := m.heapOf s.h })) ∧
  (m.pan = none → ∀ s : ASt, m.req s.x → StepF P ops m.idx m.dst s (({ s with h := m.heapOf s.h } : ASt).put m.dst m.val))
theorem set_other {d : Option Tmp} {a : Array Value} {v : Value} : ∀ t, d ≠ some t → (match d with | some d => a.setIfInBounds d v | none => a)[t]? = a[t]? := by
  intro t ht
  cases d with
  | none => rfl
  | some d =>
    have : d ≠ t := fun h => ht (by rw [h])
    simp [Array.getElem?_setIfInBounds, this]

section
variable {P : Program} {ops : Array Oper}

theorem put_x {s : ASt} {m : MRec} : (({ s with h := m.heapOf s.h } : ASt).put m.dst m.val).x = m.on s.x := by
  unfold ASt.x ASt.put MRec.on MRec.heapOf
  cases h : m.dst with
  | none => rfl
  | some d =>
    refine xst_eq rfl ?_ rfl
    funext t
    exact TMap.get_set ..

/-- The same, as far as it can be seen. -/
structure Alike (s s1 : ASt) : Prop where
  n : s1.tmps.n = s.tmps.n
  x : s1.x = s.x
  defers : s1.defers = s.defers
  pan : s1.pan = s.pan
  round : s1.round = s.round

theorem xsteps_ok : ∀ {L : List MRec} {s : ASt} {x' : XSt}, XSteps L s.x x' → (∀ m ∈ L, Ev P ops m) → (∀ m ∈ L, m.pan = none) →
    ∃ s', s'.x = x' ∧ s'.tmps.n = s.tmps.n ∧ s'.defers = s.defers ∧ s'.pan = s.pan ∧ s'.round = s.round ∧ ∀ rest e sf, CodeOk P s' (.inRegion ops rest) e sf → CodeOk P s (.inRegion ops (L.map (·.idx) ++ rest)) e sf
  | [], s, x', h, _, _ => by
    cases h
    exact ⟨s, rfl, rfl, rfl, rfl, rfl, fun _ _ _ h => h⟩
  | r :: L, s, x', h, he, hp => by
    cases h with
    | cons hr h =>
      have hrp := hp r (List.mem_cons_self ..)
      obtain ⟨h1⟩ := (he r (List.mem_cons_self ..)).2.1 s hr
      rcases h1 with ⟨s1, ⟨_, rfl⟩, h1⟩ | ⟨v, s1, ⟨h2, _⟩, _⟩
      · rw [← put_x] at h
        have en : (({ s with h := r.heapOf s.h } : ASt).put r.dst r.val).tmps.n = s.tmps.n := by unfold ASt.put; cases r.dst <;> rfl
        have ed : (({ s with h := r.heapOf s.h } : ASt).put r.dst r.val).defers = s.defers := by unfold ASt.put; cases r.dst <;> rfl
        have ep : (({ s with h := r.heapOf s.h } : ASt).put r.dst r.val).pan = s.pan := by unfold ASt.put; cases r.dst <;> rfl
        have er : (({ s with h := r.heapOf s.h } : ASt).put r.dst r.val).round = s.round := by unfold ASt.put; cases r.dst <;> rfl
        obtain ⟨s', k1, k2, k3, k4, k5, k6⟩ := xsteps_ok h (fun m hm => he m (List.mem_cons_of_mem _ hm)) (fun m hm => hp m (List.mem_cons_of_mem _ hm))
        exact ⟨s', k1, k2.trans en, k3.trans ed, k4.trans ep, k5.trans er, fun rest e sf hk => h1 _ _ _ (k6 rest e sf hk)⟩
      · rw [hrp] at h2; cases h2

/-- A region whose order is open: whatever the order. -/
theorem region_any (hmix : P.follows .mixedOrders = true) {id : Nat} {s sf : ASt} {e : AExit} (hback : backGo ops.toList 0 = true)
    (h : ∀ σ : List Nat, σ.Perm (List.range ops.size) → σ.Pairwise (fun b a => ¬ Before (masks ops) a b) → CodeOk P s (.inRegion ops σ) e sf) : CodeOk P s (.code (.region id ops true)) e sf := by
  intro g fr cs base w k hst hcs ht hm
  obtain ⟨hperm, hord⟩ := linearise_spec hback (w.tape w.drawn (.order fr.fn id))
  have hsched : Region.schedule (P.follows .mixedOrders) ops (w.tape w.drawn (.order fr.fn id)) = Region.linearise .any ops (w.tape w.drawn (.order fr.fn id)) := by
    simp only [Region.schedule, hmix, Bool.true_or, if_true]
  have st1 := step_draw (P := P) (cs := cs) (w := w) hm ht
  rw [hsched] at st1
  have hinv : Inv g (Heap.at s.h) { w with drawn := w.drawn + 1 } := ⟨hst.inv.frozen, hst.inv.block, hst.inv.apart, hst.inv.inj⟩
  obtain ⟨g2, fr2, cs2, w2, G2⟩ := h _ hperm hord g { fr with todo := .inRegion ops (Region.linearise .any ops (w.tape w.drawn (.order fr.fn id))) :: k } cs base { w with drawn := w.drawn + 1 } k
    ⟨hinv, hst.A, hst.len, hst.tmps, hst.defers, hst.round⟩ hcs rfl hm
  have hev := G2.ev
  exact ⟨g2, fr2, cs2, w2, st1.trans G2.steps, G2.st, G2.cs, G2.fn, G2.kind, G2.lands, ⟨hev.le, hev.os, hev.tape, hev.output, hev.size, hev.keep, hev.fro, hev.own⟩, G2.round⟩

theorem CodeOk.weakR {s s1 s' : ASt} {item : Item} {e : AExit} (hw : Weak s' s1) (h : CodeOk P s item e s') : CodeOk P s item e s1 := by
  intro g fr cs base w k hst hcs ht hm
  obtain ⟨g', fr', cs', w', G'⟩ := h g fr cs base w k hst hcs ht hm
  exact ⟨g', fr', cs', w', G'.steps, G'.st.weak hw, by rw [hw.pan]; exact G'.cs, G'.fn, G'.kind, G'.lands, by rw [hw.h]; exact G'.ev, hw.round.trans G'.round⟩

/-- ALL OF A REGION WHOSE ORDER IS OPEN. -/
theorem mixed_ok (hmix : P.follows .mixedOrders = true) {id : Nat} {s s1 : ASt} {L : List MRec} (hback : backGo ops.toList 0 = true) (hL : L.map (·.idx) = List.range ops.size) (hx : XSteps L s.x s1.x) (he : ∀ m ∈ L, Ev P ops m) (hp : ∀ m ∈ L, m.pan = none)
    (hpw : L.Pairwise (fun a b => Before (masks ops) a.idx b.idx ∨ MIndep a b)) (hn : s1.tmps.n = s.tmps.n) (hds : s1.defers = s.defers) (hpan : s1.pan = s.pan) (hr : s1.round = s.round) :
    CodeOk P s (.code (.region id ops true)) .normal s1 := by
  refine region_any hmix hback fun σ hσ ho => ?_
  rw [← hL] at hσ
  obtain ⟨L', e', p', d'⟩ := XSteps.perm (Ord := Before (masks ops)) hx hpw (by rw [hL]; exact List.nodup_range) hσ ho
  obtain ⟨s', k1, k2, k3, k4, k5, k6⟩ := xsteps_ok (P := P) (ops := ops) d' (fun m hm => he m (p'.subset hm)) (fun m hm => hp m (p'.subset hm))
  have := k6 [] .normal s1 (CodeOk.weakR (s' := s') ⟨hn.trans k2.symm, fun i _ => .inr (by have := congrArg XSt.T k1; exact (congrFun this i).symm), hds.trans k3.symm, hpan.trans k4.symm, hr.trans k5.symm, (congrArg XSt.h k1).symm⟩ ok_ops_nil)
  rw [List.append_nil, e'] at this
  exact this

/-- A region whose order is open, left by a panic. -/
theorem mixed_fall (hmix : P.follows .mixedOrders = true) {id : Nat} {s : ASt} {x1 : XSt} {L : List MRec} {p : MRec} {v : AV} {q : Heap × Heap} (hback : backGo ops.toList 0 = true) (hpp : p.pan = some v) (hk : p.kind = some q) (hsub : ∀ m ∈ L ++ [p], m.idx < ops.size) (hnd : ((L ++ [p]).map (·.idx)).Nodup)
    (hall : ∀ i, i < ops.size → i ∈ (L ++ [p]).map (·.idx) ∨ Before (masks ops) p.idx i)
    (hx : XSteps (L ++ [p]) s.x x1) (he : ∀ m ∈ L ++ [p], Ev P ops m) (hp : ∀ m ∈ L, m.pan = none)
    (hpw : (L ++ [p]).Pairwise (fun a b => Before (masks ops) a.idx b.idx ∨ MIndep a b)) :
    CodeOk P s (.code (.region id ops true)) (.panic v) { s with tmps := junked s.tmps (L.filterMap (·.dst)), h := q.2 } := by
  refine region_any hmix hback fun σ hσ ho => ?_
  have hσnd : σ.Nodup := hσ.symm.nodup List.nodup_range
  have him : p.idx ∈ σ := hσ.symm.subset (List.mem_range.2 (hsub p (by simp)))
  obtain ⟨α, β, rfl⟩ := List.append_of_mem him
  have hσ2 : α ++ p.idx :: β = (α ++ [p.idx]) ++ β := by simp
  rw [List.pairwise_append] at ho
  obtain ⟨ho1, ho2, ho3⟩ := ho
  rw [List.pairwise_cons] at ho2
  let f : MRec → Bool := fun x => (α ++ [p.idx]).contains x.idx
  have hsubS : (L ++ [p]).Pairwise (fun a b => f a = false → f b = true → MIndep a b) := by
    refine hpw.imp_of_mem ?_
    intro a b ha hb h1 hfa hfb
    refine h1.resolve_left fun hB => ?_
    have ha' : a.idx ∈ α ++ p.idx :: β := hσ.symm.subset (List.mem_range.2 (hsub a ha))
    have hna : a.idx ∉ α ++ [p.idx] := by simpa [f] using hfa
    have hb' : b.idx ∈ α ++ [p.idx] := by simpa [f] using hfb
    have haβ : a.idx ∈ β := by rw [hσ2] at ha'; exact (List.mem_append.1 ha').resolve_left hna
    rcases List.mem_append.1 hb' with h2 | h2
    · exact ho3 _ h2 _ (List.mem_cons_of_mem _ haβ) hB
    · rw [List.mem_singleton] at h2
      rw [h2] at hB
      exact ho2.1 _ haβ hB
  obtain ⟨m0, hS⟩ := XSteps.sub f hx hsubS
  have hfp : f p = true := by simp [f]
  have hfilt : (L ++ [p]).filter f = L.filter f ++ [p] := by rw [List.filter_append, List.filter_cons_of_pos hfp, List.filter_nil]
  rw [hfilt] at hS
  have hndF : ((L.filter f ++ [p]).map (·.idx)).Nodup := by
    refine hnd.sublist (List.Sublist.map _ ?_)
    exact List.Sublist.append List.filter_sublist (List.Sublist.refl _)
  have hαnd : (α ++ [p.idx]).Nodup := by rw [hσ2, List.nodup_append] at hσnd; exact hσnd.1
  have hperm : (α ++ [p.idx]).Perm ((L.filter f ++ [p]).map (·.idx)) := by
    refine (List.perm_ext_iff_of_nodup hαnd hndF).2 fun i => ?_
    rw [← hfilt]
    constructor
    · intro hi
      have hir : i < ops.size := List.mem_range.1 (hσ.subset (by rw [hσ2]; exact List.mem_append_left _ hi))
      rcases hall i hir with h1 | h1
      · obtain ⟨m, hm, rfl⟩ := List.mem_map.1 h1
        exact List.mem_map_of_mem (List.mem_filter.2 ⟨hm, by simpa [f] using hi⟩)
      · exfalso
        rcases List.mem_append.1 hi with h2 | h2
        · exact ho3 _ h2 _ (List.mem_cons_self ..) h1
        · rw [List.mem_singleton] at h2
          rw [h2] at h1
          exact absurd (before_lt hback _ _ h1) (Nat.lt_irrefl _)
    · intro hi
      obtain ⟨m, hm, rfl⟩ := List.mem_map.1 hi
      simpa [f] using (List.mem_filter.1 hm).2
  have hoα : (α ++ [p.idx]).Pairwise (fun b a => ¬ Before (masks ops) a b) := by
    rw [List.pairwise_append]
    exact ⟨ho1, by simp, fun a ha b hb => by rw [List.mem_singleton] at hb; subst hb; exact ho3 a ha _ (List.mem_cons_self ..)⟩
  have hpwF : (L.filter f ++ [p]).Pairwise (fun a b => Before (masks ops) a.idx b.idx ∨ MIndep a b) := hpw.sublist (List.Sublist.append List.filter_sublist (List.Sublist.refl _))
  obtain ⟨L', e', p', d'⟩ := XSteps.perm (Ord := Before (masks ops)) hS hpwF hndF hperm hoα
  -- the last of them is the one that panics
  obtain ⟨La, Lb, rfl, ea, eb⟩ := List.map_eq_append_iff.1 e'
  have hLb : ∃ b, Lb = [b] ∧ b.idx = p.idx := by
    cases Lb with
    | nil => simp at eb
    | cons b l =>
      simp only [List.map_cons, List.cons.injEq, List.map_eq_nil_iff] at eb
      exact ⟨b, by rw [eb.2], eb.1⟩
  obtain ⟨b, rfl, hb⟩ := hLb
  have inj : ∀ {l : List MRec} {a b : MRec}, (l.map (·.idx)).Nodup → a ∈ l → b ∈ l → a.idx = b.idx → a = b := by
    intro l
    induction l with
    | nil => intro a b _ ha; cases ha
    | cons x l ih =>
      intro a b hn ha hb he
      simp only [List.map_cons, List.nodup_cons] at hn
      rcases List.mem_cons.1 ha with h1 | h1
      · rcases List.mem_cons.1 hb with h2 | h2
        · rw [h1, h2]
        · subst h1; exact absurd (he ▸ List.mem_map_of_mem h2) hn.1
      · rcases List.mem_cons.1 hb with h2 | h2
        · subst h2; exact absurd (he ▸ List.mem_map_of_mem h1) hn.1
        · exact ih hn.2 h1 h2 he
  have hbp : b = p := inj hndF (p'.subset (by simp)) (by simp) hb
  subst hbp
  obtain ⟨xm, d1, d2⟩ := XSteps.split d'
  have hLaL : ∀ m ∈ La, m ∈ L := by
    intro m hm
    have h1 : m ∈ L.filter f ++ [b] := p'.subset (List.mem_append_left _ hm)
    rcases List.mem_append.1 h1 with h2 | h2
    · exact (List.mem_filter.1 h2).1
    · rw [List.mem_singleton] at h2
      subst h2
      have h3 : (La ++ [m]).Nodup := by
        have : ((La ++ [m]).map (·.idx)).Nodup := by rw [e']; exact hαnd
        exact List.Pairwise.of_map (S := (· ≠ ·)) (f := fun x : MRec => x.idx) (fun a b h hab => h (congrArg _ hab)) this
      rw [List.nodup_append] at h3
      exact absurd rfl (h3.2.2 m hm m (by simp))
  obtain ⟨s', k1, k2, k3, k4, k5, k6⟩ := xsteps_ok (P := P) (ops := ops) d1 (fun m hm => he m (List.mem_append_left _ (hLaL m hm))) (fun m hm => hp m (hLaL m hm))
  cases d2 with
  | cons hreq _ =>
  rw [← k1] at hreq
  obtain ⟨h1⟩ := (he b (by simp)).2.1 s' hreq
  rcases h1 with ⟨s1, ⟨h2, _⟩, _⟩ | ⟨v', s1, ⟨h2, rfl⟩, h1⟩
  · rw [hpp] at h2; cases h2
  · rw [hpp] at h2
    obtain rfl := Option.some.inj h2
    have := k6 (b.idx :: β) (.panic v) _ (h1 β)
    rw [ea] at this
    refine CodeOk.weakR ?_ this
    refine ⟨by rw [junked_n]; exact k2.symm, ?_, k3.symm, k4.symm, k5.symm, by show q.2 = b.heapOf s'.h; unfold MRec.heapOf; rw [hk]⟩
    intro i hi
    rcases junked_get (L.filterMap (·.dst)) s.tmps i with j1 | ⟨j1, j2⟩
    · exact .inl j1
    · right
      show (junked s.tmps (L.filterMap (·.dst))).get .undef i = s'.tmps.get .undef i
      rw [j1]
      have hT : s'.tmps.get .undef i = xm.T i := congrFun (congrArg XSt.T k1) i
      rw [hT]
      have keeps : ∀ {l : List MRec} {x y : XSt}, XSteps l x y → i ∉ l.filterMap (·.dst) → y.T i = x.T i := by
        intro l
        induction l with
        | nil => intro x y h _; cases h; rfl
        | cons r l ih =>
          intro x y h hn
          cases h with
          | cons hr h =>
            have hn1 : r.dst ≠ some i := fun hh => hn (by simp [hh])
            have hn2 : i ∉ l.filterMap (·.dst) := fun hh => hn (by
              simp only [List.mem_filterMap] at hh ⊢
              obtain ⟨z, hz, hz2⟩ := hh
              exact ⟨z, List.mem_cons_of_mem _ hz, hz2⟩)
            rw [ih h hn2, MRec.on_T hn1]
      rcases j2 with j2 | j2
      · have hn : i ∉ La.filterMap (·.dst) := fun hh => j2 (by
          simp only [List.mem_filterMap] at hh ⊢
          obtain ⟨z, hz, hz2⟩ := hh
          exact ⟨z, hLaL z hz, hz2⟩)
        exact (keeps d1 hn).symm
      · have hi' : i < s'.tmps.n := hi
        omega

/-- A call from one memory to another. -/
def CallOnce (P : Program) (f : FuncId) (args : List AV) (h : Heap) (e : AEnd) (h' : Heap) : Prop := ∀ (g : G) (w : World) (cs : List Frame) (vs : Array Value), Inv g (Heap.at h) w → (∀ i, g.A i ↔ i < h.n) → args.length = vs.size → Pw (Rep g) args vs.toList →
  ∃ g' fr' w', Steps P (lone (Frame.enter P f vs .normal) cs w) (lone fr' cs w') ∧ Inv g' (Heap.at h') w' ∧ (∀ i, g'.A i ↔ i < h'.n) ∧ Evolves g (Heap.at h) w g' (Heap.at h') w' ∧ fr'.fn = f ∧ fr'.kind = .normal ∧ fr'.defers = [] ∧ EndOk P g' f fr' w' e

theorem CallOnce.inl {f : FuncId} {args : List AV} {h h' : Heap} {e : AEnd} {pan' : Pan} (hk : CallOk P f args h .no e h' pan') : CallOnce P f args h e h' := by
  intro g w cs vs hi hA hl hp
  obtain ⟨g', fr', cs', w', k1, k2, k3, k4, k5, k6, k7, k8, k9, k10⟩ := hk g .normal cs cs w vs hi hA hl hp ⟨rfl, .inl rfl⟩
  have := normal_cs k4
  subst this
  exact ⟨g', fr', w', k1, k2, k3, k5, k6, k7, k9, k10⟩

theorem OpStep.once {i : Nat} {o : Oper} {s : ASt} {K : ASt → Prop} {X : AV → ASt → Prop} (ho : ops[i]? = some o) (hw : wantedA ops o s = some true) {f : FuncId} {args : List AV} (ha : aop P o s.eval (Heap.at s.h) s.h.n = some (.call f args)) {e : AEnd} {h' : Heap} (hc : CallOnce P f args s.h e h')
    (hk : match e with | .ret v => K ({ s with h := h' }.put o.dst v) | .panic v => X v { s with h := h' }) : OpStep P ops i s K X := by
  cases e with
  | ret v => exact ⟨.inl ⟨_, hk, fun rest e s' hr => (ok_callop ho hw ha hc).1 v s' e rfl hr⟩⟩
  | panic v => exact ⟨.inr ⟨v, _, hk, fun rest => (ok_callop ho hw ha hc).2 v rfl⟩⟩

/-- An operation that makes no call, from any state that is as it wants. -/
theorem dstep_opStep {r : DRec} {s s1 : ASt} (hs : DStep P ops r s.d s1.d) (hp : r.pan = none) (hn : r.fresh.isSome = true → r.fid = s.h.n) (hlen : s1.h.n = s.h.n + (if r.fresh.isSome then 1 else 0)) (_ : s1.tmps.n = s.tmps.n) (hds : s1.defers = s.defers) (hpan : s1.pan = s.pan) (hr : s1.round = s.round) {X : AV → ASt → Prop} :
    OpStep P ops r.idx s (fun s' => s' = s1) X := by
  refine ⟨.inl ⟨s1, rfl, fun rest e sf hrest => ?_⟩⟩
  intro g fr cs base w k hst hcs ht hm
  obtain ⟨g', w', tm, a1, a2, a3, a4, a5⟩ := dstep_ok hs (cs := cs) hp hst.inv (fun hf ha => by have h1 := (hst.A _).1 ha; rw [hn hf] at h1; exact absurd h1 (Nat.lt_irrefl _)) ⟨s.h.n, fun ha => absurd ((hst.A _).1 ha) (Nat.lt_irrefl _)⟩ ⟨by rw [← hst.len]; exact TMap.toList_length _ _, hst.tmps⟩ ht hm
  have hst1 : StRel P g' s1 { fr with tmps := tm, todo := .inRegion ops rest :: k } w' := by
    refine ⟨a2, ?_, by rw [← a5.len]; exact (TMap.toList_length _ _).symm, a5.pw, by rw [hds]; exact hst.defers.mono a4.le, ?_⟩
    · intro i
      rw [a3, hst.A, hlen]
      cases hf : r.fresh with
      | none => simp
      | some b =>
        have := hn (by rw [hf]; rfl)
        simp only [Option.isSome_some, if_true, true_and]
        omega
    · rw [hr]
      rcases hst.round with h | ⟨i, h1, h2, h3⟩
      · exact .inl h
      · exact .inr ⟨i, h1, a4.le.A _ h2, by rw [a4.le.j _ h2]; exact h3⟩
  obtain ⟨g2, fr2, cs2, w2, G2⟩ := hrest g' { fr with tmps := tm, todo := .inRegion ops rest :: k } cs base w' k hst1 (by rw [hpan]; exact hcs.mono a4.le) rfl hm
  exact ⟨g2, fr2, cs2, w2, a1.trans G2.steps, G2.st, G2.cs, G2.fn, G2.kind, G2.lands, a4.trans G2.ev, G2.round.trans hr⟩

theorem dstep_tm {r : DRec} {d d' : DSt} (h : DStep P ops r d d') {g : G} {fr : Frame} {cs : List Frame} {w : World} {rest : List Nat} {k : List Item}
    (hpan : r.pan = none) (hi : Inv g d.H w) (hn : r.fresh.isSome = true → ¬ g.A r.fid) (hm' : ∃ m, ¬ g.A m) (htr : TmpRel g d.tmps fr.tmps) (ht : fr.todo = .inRegion ops (r.idx :: rest) :: k) (hm : fr.mode = .run) :
    ∃ g' w' v, Steps P (lone fr cs w) (lone { fr with tmps := (match r.dst with | some d => fr.tmps.setIfInBounds d v | none => fr.tmps), todo := .inRegion ops rest :: k } cs w') ∧ Inv g' d'.H w' ∧ (∀ i, g'.A i ↔ g.A i ∨ (r.fresh.isSome = true ∧ i = r.fid)) ∧ Evolves g d.H w g' d'.H w' ∧ TmpRel g' d'.tmps (match r.dst with | some d => fr.tmps.setIfInBounds d v | none => fr.tmps) := by
  obtain ⟨⟨o, ho, hlooks, hdo⟩, hto⟩ := h
  subst hto
  have hdst : r.dst = o.dst := by
    cases hdo with
    | skip _ hd _ _ _ _ => exact hd
    | simple _ hd _ _ => exact hd
    | call _ hd _ _ _ _ _ _ => exact hd
    | panics v hn _ _ _ _ _ => rw [hpan] at hn; cases hn
    | falls v us hn _ _ _ _ _ _ _ _ => rw [hpan] at hn; cases hn
  have fin : ∀ v, fr.finish v = { fr with tmps := (match r.dst with | some d => fr.tmps.setIfInBounds d v | none => fr.tmps), todo := .inRegion ops rest :: k } := by
    intro v; rw [hdst]; exact finish_eq ht ho v
  cases hdo with
  | panics v hn _ _ _ _ _ => rw [hpan] at hn; cases hn
  | falls v us hn _ _ _ _ _ _ _ _ => rw [hpan] at hn; cases hn
  | skip _ _ hw hv hu hf =>
    refine ⟨g, w, undef, ?_, ?_, ?_, ?_, on_tmps (.refl g) htr (v := undef) (by rw [hv]; rfl)⟩
    · rw [← fin undef]
      exact op_skip hm ht ho (wanted_specT htr.len htr.pw hw)
    · simpa [DRec.on, hf, hu, updF] using hi
    · simp [hf]
    · have : (r.on d).H = d.H := by simp [DRec.on, hf, hu, updF]
      rw [this]; exact .refl _ _ _
  | simple _ _ hw ha =>
    obtain ⟨m, hmA, ha'⟩ : ∃ m, ¬ g.A m ∧ aop P o (evalT d.tmps) d.H m = some (.simple { val := r.val, reads := r.reads, upds := r.upds, fresh := r.fresh }) ∧ (r.fresh.isSome = true → m = r.fid) := by
      cases hf : r.fresh with
      | none =>
        obtain ⟨m, hmm⟩ := hm'
        exact ⟨m, hmm, by rw [← hf]; exact aop_nofresh ha hf, by simp⟩
      | some b => exact ⟨r.fid, hn (by simp [hf]), by rw [← hf]; exact ha, fun _ => rfl⟩
    obtain ⟨ha', hmf⟩ := ha'
    obtain ⟨v, w', g', hres, hrv, hinv, hev, hA, hup⟩ := aop_sim (P := P) (w := w) hi (σ := fr.eval) (evalT_rep htr.len htr.pw) hmA ha'
    have he : effect d.H m { val := r.val, reads := r.reads, upds := r.upds, fresh := r.fresh } = (r.on d).H := by
      unfold effect DRec.on
      cases hf : r.fresh with
      | none => rfl
      | some b => simp only; rw [hmf (by simp [hf])]
    rw [he] at hinv hev
    have hnd : fr.roundOf = none ∨ ∀ c, o.op ≠ .defer c := .inr (fun c hc => by obtain ⟨_, _, hh⟩ := aop_defer hc ha; cases hh)
    refine ⟨g', w', v, ?_, hinv, ?_, hev, on_tmps hev.le htr hrv⟩
    · rw [← fin v]
      refine step_go ?_
      rw [op_do hm ht ho (wanted_specT htr.len htr.pw hw) hnd]
      rcases hres with hres | ⟨hres, rfl⟩
      · exact apply_value hres
      · exact apply_skip hres
    · intro i
      rw [hA]
      simp only
      constructor
      · rintro (h | ⟨h1, rfl⟩)
        · exact .inl h
        · exact .inr ⟨h1, hmf h1⟩
      · rintro (h | ⟨h1, rfl⟩)
        · exact .inl h
        · exact .inr ⟨h1, (hmf h1).symm⟩
  | call _ _ hw f args ha hc hf =>
    obtain ⟨m, hmm⟩ := hm'
    obtain ⟨_, vs, hres, hl, hpw⟩ := aop_sim (P := P) (w := w) hi (σ := fr.eval) (evalT_rep htr.len htr.pw) hmm (aop_call_nofresh (m := m) ha)
    have hnd : fr.roundOf = none ∨ ∀ c, o.op ≠ .defer c := .inr (fun c hc => by obtain ⟨_, _, hh⟩ := aop_defer hc ha; cases hh)
    have h1 : Steps P (lone fr cs w) (lone (Frame.enter P f vs .normal) (fr :: cs) w) := by
      refine step_go ?_
      rw [op_do hm ht ho (wanted_specT htr.len htr.pw hw) hnd]
      exact apply_enter (by rw [ht]; intro _ _ _ _ _ hh; simp at hh) hres
    obtain ⟨fuel, args', e', h', pan, fuel', r', hs, hok, hsn, hc1, hc3⟩ := hc
    obtain ⟨g', fr', w', k1, k2, k3, k4, k5, k6, k7, k8⟩ := pure_okF hi hl hpw hs hok hsn (fr :: cs)
    have he : updF d.H (killed r'.1 r.reads) = (r.on d).H := by
      unfold DRec.on
      rw [hf, hc3]
    rw [he] at k2 k4
    have k8' : EndOk P g' f fr' w' (.ret r.val) := by rw [hc1]; exact k8
    obtain ⟨u, hu, hst⟩ := leave_ret (fr := fr) (cs := cs) k8' k5 k6 k7
    refine ⟨g', w', u, ?_, k2, ?_, k4, on_tmps k4.le htr hu⟩
    · rw [← fin u]
      exact h1.trans (k1.trans hst)
    · intro i; rw [k3]; simp [hf]
theorem dstep_stepF {r : DRec} {s s1 : ASt} (hs : DStep P ops r s.d s1.d) (hp : r.pan = none) (hn : r.fresh.isSome = true → r.fid = s.h.n) (hlen : s1.h.n = s.h.n + (if r.fresh.isSome then 1 else 0)) (hds : s1.defers = s.defers) (hpan : s1.pan = s.pan) (hr : s1.round = s.round) : StepF P ops r.idx r.dst s s1 := by
  intro g fr cs base w k rest hst hcs ht hm
  obtain ⟨g', w', v, a1, a2, a3, a4, a5⟩ := dstep_tm hs (cs := cs) hp hst.inv (fun hf ha => by have h1 := (hst.A _).1 ha; rw [hn hf] at h1; exact absurd h1 (Nat.lt_irrefl _)) ⟨s.h.n, fun ha => absurd ((hst.A _).1 ha) (Nat.lt_irrefl _)⟩ ⟨by rw [← hst.len]; exact TMap.toList_length _ _, hst.tmps⟩ ht hm
  refine ⟨g', _, w', a1, ⟨a2, ?_, by rw [← a5.len]; exact (TMap.toList_length _ _).symm, a5.pw, by rw [hds]; exact hst.defers.mono a4.le, ?_⟩, by rw [hpan]; exact hcs.mono a4.le, a4, hr, rfl, rfl, rfl, rfl, set_other⟩
  · intro i
    rw [a3, hst.A, hlen]
    cases hf : r.fresh with
    | none => simp
    | some b =>
      have := hn (by rw [hf]; rfl)
      simp only [Option.isSome_some, if_true, true_and]
      omega
  · rw [hr]
    rcases hst.round with h | ⟨i, h1, h2, h3⟩
    · exact .inl h
    · exact .inr ⟨i, h1, a4.le.A _ h2, by rw [a4.le.j _ h2]; exact h3⟩
theorem StepF.once {i : Nat} {o : Oper} {s : ASt} (ho : ops[i]? = some o) (hw : wantedA ops o s = some true) {f : FuncId} {args : List AV} (ha : aop P o s.eval (Heap.at s.h) s.h.n = some (.call f args)) {v : AV} {h' : Heap} (hc : CallOnce P f args s.h (.ret v) h') : StepF P ops i o.dst s (({ s with h := h' } : ASt).put o.dst v) := by
  intro g fr cs base w k rest hst hcs ht hm
  have hsim := aop_sim (P := P) (w := w) hst.inv (σ := fr.eval) hst.eval (fresh := s.h.n) (fun h => absurd ((hst.A _).1 h) (Nat.lt_irrefl _)) ha
  obtain ⟨_, vs, hres, hl, hp⟩ := hsim
  have hnd : fr.roundOf = none ∨ ∀ c, o.op ≠ .defer c := .inr (fun c hc => by obtain ⟨_, _, hh⟩ := aop_defer hc ha; cases hh)
  have h1 : Steps P (lone fr cs w) (lone (Frame.enter P f vs .normal) (fr :: cs) w) := by
    refine step_go ?_
    rw [op_do hm ht ho (wanted_spec hst hw) hnd]
    exact apply_enter (by rw [ht]; intro _ _ _ _ _ hh; simp at hh) hres
  obtain ⟨g', fr', w', k1, k2, k3, k4, k5, k6, k7, k8⟩ := hc g w (fr :: cs) vs hst.inv hst.A hl hp
  obtain ⟨u, hu, hs⟩ := leave_ret (fr := fr) (cs := cs) k8 k5 k6 k7
  obtain ⟨h1', h2', h3, h4, h5, h6, h7, h8⟩ := hst.finish k4.le ht ho hu k2 k3
  refine ⟨g', fr.finish u, w', h1.trans (k1.trans hs), h1', by rw [h6]; exact hcs.mono k4.le, by rw [h8]; exact k4, h7, h2', h3, h4, h5, ?_⟩
  rw [finish_eq ht ho]
  exact set_other

def mOf (tv : Tmp → AV) (h h1 : Heap) (r : DRec) : MRec := match r.upds, r.fresh with
  | [], none => ⟨r.idx, r.dst, r.looks, tv, r.val, r.reads, Heap.at h, none, none⟩
  | _, _ => ⟨r.idx, r.dst, r.looks, tv, r.val, [], Heap.at h, some (h, h1), none⟩

theorem get_d (s : ASt) (t : Tmp) : s.d.tmps.getD t .undef = s.tmps.get .undef t := TMap.toList_getD AV.undef s.tmps t

theorem d_eq {s s' : ASt} (h1 : s'.tmps.toList .undef = s.tmps.toList .undef) (h2 : Heap.at s'.h = Heap.at s.h) : s'.d = s.d := by unfold ASt.d; rw [h1, h2]

theorem ev_of_done {i : Nat} {s s1 : ASt} {r : DRec} (D : OpDone P ops i s s1 r) : Ev P ops (mOf (s.tmps.get .undef) s.h s1.h r) := by
  have hstep := D.step
  have hto : s1.d = r.on s.d := hstep.to
  have base : ∀ s' : ASt, (∀ t ∈ r.looks, s'.tmps.get .undef t = s.tmps.get .undef t) → (∀ x ∈ r.reads, Heap.at s'.h x = Heap.at s.h x) → DStep P ops r s'.d (r.on s'.d) := fun s' h1 h2 => hstep.at (t := s'.d) (fun d hd => by rw [get_d, get_d]; exact h1 d hd) h2
  have mk : ∀ (s' : ASt) (hp : Heap), Heap.at hp = (r.on s'.d).H → (({ s' with h := hp } : ASt).put r.dst r.val).d = r.on s'.d := by
    intro s' hp hh
    unfold ASt.d ASt.put DRec.on at *
    cases r.dst with
    | none => simp only; rw [hh]
    | some d => simp only [TMap.toList_set]; rw [hh]
  have fields : ∀ (s' : ASt) (hp : Heap), (({ s' with h := hp } : ASt).put r.dst r.val).tmps.n = s'.tmps.n ∧ (({ s' with h := hp } : ASt).put r.dst r.val).defers = s'.defers ∧ (({ s' with h := hp } : ASt).put r.dst r.val).pan = s'.pan ∧ (({ s' with h := hp } : ASt).put r.dst r.val).round = s'.round ∧ (({ s' with h := hp } : ASt).put r.dst r.val).h = hp := by
    intro s' hp
    unfold ASt.put
    cases r.dst <;> exact ⟨rfl, rfl, rfl, rfl, rfl⟩
  have heavy : ∀ s' : ASt, (∀ t ∈ r.looks, s'.tmps.get .undef t = s.tmps.get .undef t) → s'.h = s.h → OpStep P ops r.idx s' (fun x => x = ({ s' with h := s1.h } : ASt).put r.dst r.val) (fun _ _ => False) := by
    intro s' h1 h2
    have hd := base s' h1 (fun x _ => by rw [h2])
    have hH : Heap.at s1.h = (r.on s'.d).H := by
      have e1 : Heap.at s1.h = (r.on s.d).H := congrArg DSt.H hto
      rw [e1]
      unfold DRec.on ASt.d
      simp only [h2]
    rw [← mk s' s1.h hH] at hd
    obtain ⟨f1, f2, f3, f4, f5⟩ := fields s' s1.h
    exact dstep_opStep hd D.quiet (fun _ => by rw [h2]; exact D.fid) (by rw [f5, h2]; exact D.len) f1 f2 f3 f4
  have heavyF : ∀ s' : ASt, (∀ t ∈ r.looks, s'.tmps.get .undef t = s.tmps.get .undef t) → s'.h = s.h → StepF P ops r.idx r.dst s' (({ s' with h := s1.h } : ASt).put r.dst r.val) := by
    intro s' h1 h2
    have hd := base s' h1 (fun x _ => by rw [h2])
    have hH : Heap.at s1.h = (r.on s'.d).H := by
      have e1 : Heap.at s1.h = (r.on s.d).H := congrArg DSt.H hto
      rw [e1]
      unfold DRec.on ASt.d
      simp only [h2]
    rw [← mk s' s1.h hH] at hd
    obtain ⟨f1, f2, f3, f4, f5⟩ := fields s' s1.h
    exact dstep_stepF hd D.quiet (fun _ => by rw [h2]; exact D.fid) (by rw [f5, h2]; exact D.len) f2 f3 f4
  unfold mOf
  split
  · rename_i hu hf
    refine ⟨fun _ _ => rfl, ?_, ?_⟩
    case refine_2 =>
      rintro _ s' ⟨q1, q2⟩
      have hd := base s' q1 q2
      have hH : Heap.at s'.h = (r.on s'.d).H := by unfold DRec.on ASt.d; simp only [hu, hf, updF]
      rw [← mk s' s'.h hH] at hd
      obtain ⟨f1, f2, f3, f4, f5⟩ := fields s' s'.h
      have q : StepF P ops r.idx r.dst s' (({ s' with h := s'.h } : ASt).put r.dst r.val) := dstep_stepF hd D.quiet (fun hh => by rw [hf] at hh; cases hh) (by rw [f5, hf]; rfl) f2 f3 f4
      exact q
    rintro s' ⟨q1, q2⟩
    have hd := base s' q1 q2
    have hH : Heap.at s'.h = (r.on s'.d).H := by unfold DRec.on ASt.d; simp only [hu, hf, updF]
    rw [← mk s' s'.h hH] at hd
    obtain ⟨f1, f2, f3, f4, f5⟩ := fields s' s'.h
    refine (dstep_opStep hd D.quiet (fun hh => by rw [hf] at hh; cases hh) (by rw [f5, hf]; rfl) f1 f2 f3 f4 (X := fun _ _ => False)).mono ?_ (fun _ _ h => h.elim)
    rintro x rfl
    exact ⟨rfl, rfl⟩
  · refine ⟨fun _ _ => rfl, ?_, ?_⟩
    case refine_2 =>
      rintro _ s' ⟨q1, q2⟩
      exact heavyF s' q1 q2
    rintro s' ⟨q1, q2⟩
    refine (heavy s' q1 q2).mono ?_ (fun _ _ h => h.elim)
    rintro x rfl
    exact ⟨rfl, rfl⟩

/-- What a call comes to among operations that may change places: one that writes nothing, or one that may. -/
inductive CallM (P : Program) (f : FuncId) (args : List AV) (h : Heap) (KL : CV → List Nat → Prop) (KH : AEnd → Heap → Prop) : Prop
  | ret (args' : List CV) (v : CV) (hk : Ret P f args' v) (ha : allC args = some args') (k : KL v [])
  | snapped (fuel : Nat) (args' : List CV) (ids : List Nat) (v : CV) (hk : Ret P f args' v) (ha : snaps (Heap.at h) fuel args = some (args', ids)) (hp : v.plain = true) (k : KL v ids)
  | heavy (e : AEnd) (h' : Heap) (hk : CallOnce P f args h e h') (k : KH e h')

variable (P) in
noncomputable def mOp (hm : Bool) (ops : Array Oper) (i : Nat) (o : Oper) (tmps : TMap AV) (ds : List ADef) (p : Pan) (rd : Option Nat) (h : Heap) (K : ASt → MRec → Prop) (X : MRec → AV → Heap → Prop) : Prop :=
  match o.op with
  | .call ⟨.builtin _, _, _⟩ => dOp P hm ops i o tmps ds p rd h fun s r => K s (mOf (tmps.get .undef) h s.h r)
  | .call _ => match aop P o (evalF tmps) (fun _ => .dead) h.n with
    | some (.call f args) => CallM P f args h
        (fun v ids => putK tmps o.dst (.c v) fun t => K ⟨t, ds, p, rd, h⟩ ⟨i, o.dst, o.looksAt ops, tmps.get .undef, .c v, ids, Heap.at h, none, none⟩)
        (fun e h' => match e with
          | .ret v => putK tmps o.dst v fun t => K ⟨t, ds, p, rd, h'⟩ ⟨i, o.dst, o.looksAt ops, tmps.get .undef, v, [], Heap.at h, some (h, h'), none⟩
          | .panic v => X ⟨i, none, o.looksAt ops, tmps.get .undef, v, [], Heap.at h, some (h, h'), some v⟩ v h')
    | _ => False
  | _ => dOp P hm ops i o tmps ds p rd h fun s r => K s (mOf (tmps.get .undef) h s.h r)

/-- One operation is done, or panics. -/
structure MDone (P : Program) (ops : Array Oper) (i : Nat) (s s1 : ASt) (m : MRec) : Prop where
  ev : Ev P ops m
  idx : m.idx = i
  pan : m.pan = none
  req : m.req s.x
  on : s1.x = m.on s.x
  n : s1.tmps.n = s.tmps.n
  defers : s1.defers = s.defers
  span : s1.pan = s.pan
  round : s1.round = s.round

theorem mdone_of {i : Nat} {s s1 : ASt} {r : DRec} (D : OpDone P ops i s s1 r) : MDone P ops i s s1 (mOf (s.tmps.get .undef) s.h s1.h r) := by
  have hto : s1.d = r.on s.d := D.step.to
  have hidx : (mOf (s.tmps.get .undef) s.h s1.h r).idx = i := by unfold mOf; split <;> exact D.idx
  refine ⟨ev_of_done D, hidx, by unfold mOf; split <;> rfl, ?_, ?_, D.tn, D.defers, D.pan, D.round⟩
  · unfold mOf
    split
    · exact ⟨fun _ _ => rfl, fun _ _ => rfl⟩
    · exact ⟨fun _ _ => rfl, rfl⟩
  · have hT : s1.x.T = ((mOf (s.tmps.get .undef) s.h s1.h r).on s.x).T := by
      funext t
      have e1 : s1.x.T t = (r.on s.d).tmps.getD t .undef := by rw [← hto]; exact (get_d s1 t).symm
      rw [e1]
      have e2 : ((mOf (s.tmps.get .undef) s.h s1.h r).on s.x).T t = match r.dst with | some d => if t = d ∧ d < s.tmps.n then r.val else s.tmps.get .undef t | none => s.tmps.get .undef t := by
        unfold mOf
        split <;> (unfold MRec.on ASt.x; simp only; cases r.dst <;> rfl)
      rw [e2]
      unfold DRec.on
      cases hdst : r.dst with
      | none => exact get_d s t
      | some d =>
        simp only
        rw [List.getD_eq_getElem?_getD, List.getElem?_set]
        have hlen : s.d.tmps.length = s.tmps.n := TMap.toList_length _ _
        by_cases htd : t = d
        · subst htd
          by_cases hlt : t < s.tmps.n
          · simp [hlen, hlt]
          · rw [if_pos rfl, if_neg (by rw [hlen]; exact hlt), if_neg (fun x => hlt x.2), TMap.get_ge (Nat.le_of_not_lt hlt)]; rfl
        · rw [if_neg (fun x => htd x.symm), if_neg (fun x => htd x.1), ← List.getD_eq_getElem?_getD]; exact get_d s t
    have hh : s1.x.h = ((mOf (s.tmps.get .undef) s.h s1.h r).on s.x).h := by
      unfold mOf
      split
      · rename_i h1 h2; exact D.same h1 h2
      · rfl
    exact xst_eq D.tn hT hh

theorem callOnce_ret {f : FuncId} {args' : List CV} {v : CV} (hk : Ret P f args' v) {args : List AV} {h : Heap} {fuel : Nat} {ids : List Nat} (ha : snaps (Heap.at h) fuel args = some (args', ids)) : CallOnce P f args h (.ret (.c v)) (Heap.upd h (killed v ids)) := by
  intro g w cs vs hi hA hl hp
  have hsn : snap (Heap.at TMap.nil) 1 (AEnd.ret (.c v)).val = some (v, []) := rfl
  exact pure_ok hi hA hl hp ha hk hsn cs

variable {hm : Bool} {i : Nat} {o : Oper} {tmps : TMap AV} {ds : List ADef} {p : Pan} {rd : Option Nat} {h : Heap} {K : ASt → MRec → Prop} {X : MRec → AV → Heap → Prop}

theorem mOp_ok (ho : ops[i]? = some o) (hw : wantedA ops o ⟨tmps, ds, p, rd, h⟩ = some true) (hk : mOp P hm ops i o tmps ds p rd h K X) :
    (∃ s1 m, MDone P ops i ⟨tmps, ds, p, rd, h⟩ s1 m ∧ K s1 m) ∨ (∃ m v h', Ev P ops m ∧ m.idx = i ∧ m.pan = some v ∧ m.dst = none ∧ m.kind = some (h, h') ∧ m.req (ASt.x ⟨tmps, ds, p, rd, h⟩) ∧ X m v h') := by
  have dcase : dOp P hm ops i o tmps ds p rd h (fun s r => K s (mOf (tmps.get .undef) h s.h r)) → ∃ s1 m, MDone P ops i ⟨tmps, ds, p, rd, h⟩ s1 m ∧ K s1 m := by
    intro hk
    obtain ⟨s1, r, D, k⟩ := dOp_ok ho hw hk
    exact ⟨s1, _, mdone_of D, k⟩
  have agree : ∀ s' : ASt, (∀ t ∈ o.looksAt ops, s'.tmps.get .undef t = tmps.get .undef t) → wantedA ops o s' = some true ∧ ∀ rd' n, aop P o s'.eval rd' n = aop P o (evalF tmps) rd' n := by
    intro s' hs'
    have hl : ∀ t ∈ o.looksAt ops, (s'.tmps.toList .undef).getD t .undef = (tmps.toList .undef).getD t .undef := fun t ht => by
      rw [TMap.toList_getD, TMap.toList_getD]; exact hs' t ht
    refine ⟨?_, fun rd' n => ?_⟩
    · rw [wanted_wantedT, wantedT_congr hl, ← hw, wanted_wantedT]
    · rw [evalF_eq tmps ds p rd h, eval_evalT s', eval_evalT ⟨tmps, ds, p, rd, h⟩]
      exact aop_congr (evalT_congr hl) _ _
  unfold mOp at hk
  split at hk
  · exact .inl (dcase hk)
  · rename_i c hnb hop
    split at hk
    case h_2 => exact hk.elim
    rename_i f args ha
    have hcallT : ∀ s' : ASt, (∀ t ∈ o.looksAt ops, s'.tmps.get .undef t = tmps.get .undef t) → aop P o s'.eval (Heap.at s'.h) s'.h.n = some (.call f args) := fun s' hs' => by
      rw [(agree s' hs').2]; exact aop_call_local (aop_call_nofresh ha)
    have light : ∀ (v : CV) (ids : List Nat), (∀ h1 : Heap, (∀ x ∈ ids, Heap.at h1 x = Heap.at h x) → CallOnce P f args h1 (.ret (.c v)) h1) → (putK tmps o.dst (.c v) fun t => K ⟨t, ds, p, rd, h⟩ ⟨i, o.dst, o.looksAt ops, tmps.get .undef, .c v, ids, Heap.at h, none, none⟩) → ∃ s1 m, MDone P ops i ⟨tmps, ds, p, rd, h⟩ s1 m ∧ K s1 m := by
      intro v ids hc k
      rw [putK_eq] at k
      refine ⟨_, _, ?_, k⟩
      refine ⟨⟨fun _ _ => rfl, ?_, ?_⟩, rfl, rfl, ⟨fun _ _ => rfl, fun _ _ => rfl⟩, ?_, ?_, rfl, rfl, rfl⟩
      · rintro s' ⟨q1, q2⟩
        exact .once ho (agree s' q1).1 (hcallT s' q1) (hc s'.h q2) ⟨rfl, rfl⟩
      · rintro _ s' ⟨q1, q2⟩
        exact .once ho (agree s' q1).1 (hcallT s' q1) (hc s'.h q2)
      · have := put_x (s := ⟨tmps, ds, p, rd, h⟩) (m := ⟨i, o.dst, o.looksAt ops, tmps.get .undef, .c v, ids, Heap.at h, none, none⟩)
        rw [← this]
        simp only [put_mk, MRec.heapOf]
      · cases o.dst <;> rfl
    cases hk with
    | ret args' v hr hall k =>
      refine .inl (light v [] (fun h1 _ => ?_) k)
      obtain ⟨n, hn⟩ := allC_snaps (Heap.at h1) _ _ hall
      have := callOnce_ret hr hn
      rw [killed_nil] at this
      exact this
    | snapped fuel args' ids v hr hs hpl k =>
      refine .inl (light v ids (fun h1 hh => ?_) k)
      have hs1 := snaps_local fuel args (args', ids) hs (rd' := Heap.at h1) (fun x hx => hh x hx)
      have := callOnce_ret hr hs1
      have hkl : killed v ids = [] := by unfold killed; rw [if_pos hpl]
      rw [hkl] at this
      exact this
    | heavy e h' hc k =>
      cases e with
      | ret v =>
        simp only [putK_eq] at k
        refine .inl ⟨_, _, ?_, k⟩
        refine ⟨⟨fun _ _ => rfl, ?_, ?_⟩, rfl, rfl, ⟨fun _ _ => rfl, rfl⟩, ?_, ?_, rfl, rfl, rfl⟩
        · rintro s' ⟨q1, q2⟩
          have q2 : s'.h = h := q2
          have hc' : CallOnce P f args s'.h (.ret v) h' := by rw [q2]; exact hc
          exact .once ho (agree s' q1).1 (hcallT s' q1) hc' ⟨rfl, rfl⟩
        · rintro _ s' ⟨q1, q2⟩
          have q2 : s'.h = h := q2
          have hc' : CallOnce P f args s'.h (.ret v) h' := by rw [q2]; exact hc
          exact .once ho (agree s' q1).1 (hcallT s' q1) hc'
        · have := put_x (s := ⟨tmps, ds, p, rd, h⟩) (m := ⟨i, o.dst, o.looksAt ops, tmps.get .undef, v, [], Heap.at h, some (h, h'), none⟩)
          rw [← this]
          simp only [put_mk, MRec.heapOf]
        · cases o.dst <;> rfl
      | panic v =>
        refine .inr ⟨_, v, h', ⟨fun _ hd => (by cases hd), ?_, fun hh => (by cases hh)⟩, rfl, rfl, rfl, rfl, ⟨fun _ _ => rfl, rfl⟩, k⟩
        rintro s' ⟨q1, q2⟩
        have q2 : s'.h = h := q2
        have hc' : CallOnce P f args s'.h (.panic v) h' := by rw [q2]; exact hc
        exact .once ho (agree s' q1).1 (hcallT s' q1) hc' ⟨rfl, rfl⟩
  · exact .inl (dcase hk)

variable (P) in
noncomputable def mOps (hm : Bool) (ops : Array Oper) : List Nat → ASt → List MRec → (List MRec → ASt → Prop) → (List Nat → ASt → List MRec → MRec → AV → Heap → Prop) → Prop
  | [], s, l, K, _ => K l s
  | i :: rest, ⟨tmps, ds, p, rd, h⟩, l, K, X => match nthF ops i with
    | none => False
    | some o => match guardV ops o tmps with
      | .yes => mOp P hm ops i o tmps ds p rd h (fun s r => mOps hm ops rest s (r :: l) K X) (fun r v h' => X rest ⟨tmps, ds, p, rd, h⟩ l r v h')
      | .no => finD ops i o tmps ds p rd h h.n .undef [] [] none fun s r => mOps hm ops rest s (mOf (tmps.get .undef) h h r :: l) K X
      | .bool b want => match want with
        | true => decB b (mOp P hm ops i o tmps ds p rd h (fun s r => mOps hm ops rest s (r :: l) K X) (fun r v h' => X rest ⟨tmps, ds, p, rd, h⟩ l r v h')) (finD ops i o tmps ds p rd h h.n .undef [] [] none fun s r => mOps hm ops rest s (mOf (tmps.get .undef) h h r :: l) K X)
        | false => decB b (finD ops i o tmps ds p rd h h.n .undef [] [] none fun s r => mOps hm ops rest s (mOf (tmps.get .undef) h h r :: l) K X) (mOp P hm ops i o tmps ds p rd h (fun s r => mOps hm ops rest s (r :: l) K X) (fun r v h' => X rest ⟨tmps, ds, p, rd, h⟩ l r v h'))
      | .bad => False

/-- Some operations are done. -/
structure MRuns (P : Program) (ops : Array Oper) (is : List Nat) (s s1 : ASt) (l : List MRec) : Prop where
  idx : l.map (·.idx) = is
  steps : XSteps l s.x s1.x
  ev : ∀ m ∈ l, Ev P ops m
  pan : ∀ m ∈ l, m.pan = none
  n : s1.tmps.n = s.tmps.n
  defers : s1.defers = s.defers
  span : s1.pan = s.pan
  round : s1.round = s.round

theorem MRuns.nil (s : ASt) : MRuns P ops [] s s [] := ⟨rfl, .nil _, by simp, by simp, rfl, rfl, rfl, rfl⟩
theorem MRuns.cons {i : Nat} {is : List Nat} {s s1 s2 : ASt} {m : MRec} {l : List MRec} (d : MDone P ops i s s1 m) (r : MRuns P ops is s1 s2 l) : MRuns P ops (i :: is) s s2 (m :: l) := by
  refine ⟨by simp [d.idx, r.idx], .cons d.req (by rw [← d.on]; exact r.steps), ?_, ?_, r.n.trans d.n, r.defers.trans d.defers, r.span.trans d.span, r.round.trans d.round⟩
  · intro x hx
    rcases List.mem_cons.1 hx with rfl | hx
    · exact d.ev
    · exact r.ev x hx
  · intro x hx
    rcases List.mem_cons.1 hx with rfl | hx
    · exact d.pan
    · exact r.pan x hx

/-- What becomes of them. -/
def MRes (P : Program) (ops : Array Oper) (is : List Nat) (s : ASt) (l : List MRec) (K : List MRec → ASt → Prop) (X : List Nat → ASt → List MRec → MRec → AV → Heap → Prop) : Prop :=
  (∃ s1 l1, MRuns P ops is s s1 l1 ∧ K (l1.reverse ++ l) s1) ∨
    (∃ is1 i rest s1 l1 m v h', is = is1 ++ i :: rest ∧ MRuns P ops is1 s s1 l1 ∧ Ev P ops m ∧ m.idx = i ∧ m.pan = some v ∧ m.dst = none ∧ m.kind = some (s1.h, h') ∧ m.req s1.x ∧ X rest s1 (l1.reverse ++ l) m v h')

theorem mOps_ok {hm : Bool} : ∀ (is : List Nat) (s : ASt) (l : List MRec) (K : List MRec → ASt → Prop) (X : List Nat → ASt → List MRec → MRec → AV → Heap → Prop), mOps P hm ops is s l K X → MRes P ops is s l K X
  | [], s, l, K, X, h => .inl ⟨s, [], .nil s, by simpa [mOps] using h⟩
  | i :: rest, ⟨tmps, ds, p, rd, hp⟩, l, K, X, h => by
    have next : ∀ {s1 : ASt} {m : MRec}, MDone P ops i ⟨tmps, ds, p, rd, hp⟩ s1 m → mOps P hm ops rest s1 (m :: l) K X → MRes P ops (i :: rest) ⟨tmps, ds, p, rd, hp⟩ l K X := by
      intro s1 m d1 h1
      rcases mOps_ok rest s1 (m :: l) K X h1 with ⟨s2, l2, d2, k⟩ | ⟨is1, i', rest', s2, l2, m2, v, h', e, d2, k1, k2, k3, k4, k5, k6, k⟩
      · exact .inl ⟨s2, m :: l2, .cons d1 d2, by simpa using k⟩
      · exact .inr ⟨i :: is1, i', rest', s2, m :: l2, m2, v, h', by rw [e]; rfl, .cons d1 d2, k1, k2, k3, k4, k5, k6, by simpa using k⟩
    have doOp : ∀ {o : Oper}, ops[i]? = some o → wantedA ops o ⟨tmps, ds, p, rd, hp⟩ = some true → mOp P hm ops i o tmps ds p rd hp (fun s r => mOps P hm ops rest s (r :: l) K X) (fun r v h' => X rest ⟨tmps, ds, p, rd, hp⟩ l r v h') → MRes P ops (i :: rest) ⟨tmps, ds, p, rd, hp⟩ l K X := by
      intro o ho hw hk
      rcases mOp_ok ho hw hk with ⟨s1, m, d1, k⟩ | ⟨m, v, h', k1, k2, k3, k4, k5, k6, k⟩
      · exact next d1 k
      · exact .inr ⟨[], i, rest, _, [], m, v, h', rfl, .nil _, k1, k2, k3, k4, k5, k6, by simpa using k⟩
    have doSkip : ∀ {o : Oper}, ops[i]? = some o → wantedA ops o ⟨tmps, ds, p, rd, hp⟩ = some false → finD ops i o tmps ds p rd hp hp.n .undef [] [] none (fun s r => mOps P hm ops rest s (mOf (tmps.get .undef) hp hp r :: l) K X) → MRes P ops (i :: rest) ⟨tmps, ds, p, rd, hp⟩ l K X := by
      intro o ho hw hk
      rw [finD_eq] at hk
      have d := mdone_of (done_skip (P := P) (s := ⟨tmps, ds, p, rd, hp⟩) ho hw)
      have eh : ((⟨tmps, ds, p, rd, hp⟩ : ASt).put o.dst .undef).h = hp := by cases o.dst <;> rfl
      rw [eh] at d
      exact next d hk
    simp only [mOps, nthF_eq] at h
    split at h
    · exact h.elim
    rename_i o ho
    split at h
    · rename_i hg; exact doOp ho (guardV_yes (s := ⟨tmps, ds, p, rd, hp⟩) hg) h
    · rename_i hg; exact doSkip ho (guardV_no (s := ⟨tmps, ds, p, rd, hp⟩) hg) h
    · rename_i b want hg
      have hw := guardV_bool (s := ⟨tmps, ds, p, rd, hp⟩) hg
      cases want <;> cases b
      · simp only [decB] at h; exact doOp ho hw h
      · simp only [decB] at h; exact doSkip ho hw h
      · simp only [decB] at h; exact doSkip ho hw h
      · simp only [decB] at h; exact doOp ho hw h
    · exact h.elim

/-! What must hold for them to change places. -/
def mTmps (a b : MRec) : Bool := (match a.dst with | some d => !b.looks.contains d && b.dst != some d | none => true) && (match b.dst with | some d => !a.looks.contains d | none => true) && (a.kind.isNone || b.kind.isNone)
def mCheck1 (ms : List Nat) (a : MRec) : List MRec → Bool
  | [] => true
  | b :: l => ((ms.getD b.idx 0).testBit a.idx || mTmps a b) && mCheck1 ms a l
def mCheck (ms : List Nat) : List MRec → Bool
  | [] => true
  | a :: l => mCheck1 ms a l && mCheck ms l

def mNeed (a b : MRec) : List (Nat × Heap × Heap) := match a.kind with
  | none => match b.kind with
    | none => []
    | some p => a.reads.map fun r => (r, p.1, p.2)
  | some p => match b.kind with
    | none => b.reads.map fun r => (r, p.1, p.2)
    | some _ => []
def mNeeds1 (ms : List Nat) (a : MRec) : List MRec → List (Nat × Heap × Heap)
  | [] => []
  | b :: l => (if (ms.getD b.idx 0).testBit a.idx then [] else mNeed a b) ++ mNeeds1 ms a l
/-- What the calls that write must leave alone. -/
def mNeeds (ms : List Nat) : List MRec → List (Nat × Heap × Heap)
  | [] => []
  | a :: l => mNeeds1 ms a l ++ mNeeds ms l
def HeapsOk (l : List (Nat × Heap × Heap)) : Prop := ∀ x ∈ l, Heap.at x.2.2 x.1 = Heap.at x.2.1 x.1
theorem heaps_eq {l l' : List (Nat × Heap × Heap)} (h : l = l') (hl : HeapsOk l') : HeapsOk l := h ▸ hl
theorem heaps_nil {l : List (Nat × Heap × Heap)} (h : l = []) : HeapsOk l := h ▸ (by simp [HeapsOk])
theorem heaps_cons {r : Nat} {h0 h1 : Heap} {l : List (Nat × Heap × Heap)} (h : Heap.at h1 r = Heap.at h0 r) (hl : HeapsOk l) : HeapsOk ((r, h0, h1) :: l) := by
  intro x hx
  rcases List.mem_cons.1 hx with rfl | hx
  · exact h
  · exact hl x hx

theorem mIndep_of {a b : MRec} (ht : mTmps a b = true) (hh : HeapsOk (mNeed a b)) : MIndep a b := by
  unfold mTmps at ht
  simp only [Bool.and_eq_true, Bool.or_eq_true] at ht
  obtain ⟨⟨h1, h2⟩, h3⟩ := ht
  have hq : (match a.kind, b.kind with
    | none, none => True
    | some p, none => ∀ r ∈ b.reads, Heap.at p.2 r = Heap.at p.1 r
    | none, some p => ∀ r ∈ a.reads, Heap.at p.2 r = Heap.at p.1 r
    | some _, some _ => False) := by
    unfold mNeed at hh
    cases ha : a.kind with
    | none =>
      rw [ha] at hh
      cases hb : b.kind with
      | none => exact trivial
      | some p =>
        rw [hb] at hh
        exact fun r hr => hh (r, p.1, p.2) (List.mem_map_of_mem (f := fun r => (r, p.1, p.2)) hr)
    | some p =>
      rw [ha] at hh
      cases hb : b.kind with
      | none =>
        rw [hb] at hh
        exact fun r hr => hh (r, p.1, p.2) (List.mem_map_of_mem (f := fun r => (r, p.1, p.2)) hr)
      | some q => rw [ha, hb] at h3; simp at h3
  refine ⟨?_, ?_, hq⟩
  · intro d hd
    rw [hd] at h1
    simp only [Bool.and_eq_true] at h1
    exact ⟨by simpa using h1.1, by simpa using h1.2⟩
  · intro d hd
    rw [hd] at h2
    simpa using h2

theorem mCheck_spec {ms : List Nat} : ∀ {l : List MRec}, mCheck ms l = true → HeapsOk (mNeeds ms l) → l.Pairwise (fun a b => Before ms a.idx b.idx ∨ MIndep a b)
  | [], _, _ => .nil
  | a :: l, hc, hh => by
    simp only [mCheck, Bool.and_eq_true] at hc
    have one : ∀ {l : List MRec}, mCheck1 ms a l = true → HeapsOk (mNeeds1 ms a l) → ∀ b ∈ l, Before ms a.idx b.idx ∨ MIndep a b := by
      intro l
      induction l with
      | nil => intro _ _; simp
      | cons b l ih =>
        intro h1 h2
        simp only [mCheck1, Bool.and_eq_true, Bool.or_eq_true] at h1
        have h3 : HeapsOk (mNeeds1 ms a l) := fun x hx => h2 x (by simp only [mNeeds1]; exact List.mem_append_right _ hx)
        intro x hx
        rcases List.mem_cons.1 hx with rfl | hx
        · cases hb : (ms.getD x.idx 0).testBit a.idx with
          | true => exact .inl hb
          | false =>
            refine .inr (mIndep_of (h1.1.resolve_left (by rw [hb]; simp)) fun y hy => h2 y ?_)
            simp only [mNeeds1, hb]
            exact List.mem_append_left _ hy
        · exact ih h1.2 h3 x hx
    refine .cons (one hc.1 fun x hx => hh x (by simp only [mNeeds]; exact List.mem_append_left _ hx)) (mCheck_spec hc.2 fun x hx => hh x (by simp only [mNeeds]; exact List.mem_append_right _ hx))

theorem req_on {x p : MRec} {s : XSt} (hp : p.req s) (h : MIndep x p) (hk : p.kind.isSome = true) : p.req (x.on s) := by
  obtain ⟨h1, h2⟩ := hp
  refine ⟨fun t ht => (MRec.on_T fun hd => (h.ab t hd).1 ht).trans (h1 t ht), ?_⟩
  cases hpk : p.kind with
  | none => rw [hpk] at hk; cases hk
  | some q =>
    rw [hpk] at h2
    have hh := h.heap
    rw [hpk] at hh
    cases hxk : x.kind with
    | none =>
      simp only at h2 ⊢
      unfold MRec.on
      rw [hxk]
      exact h2
    | some q' => rw [hxk] at hh; exact hh.elim

theorem req_steps {p : MRec} : ∀ {l : List MRec} {s s' : XSt}, XSteps l s s' → p.req s → (∀ x ∈ l, MIndep x p) → p.kind.isSome = true → p.req s'
  | [], _, _, h, hp, _, _ => by cases h; exact hp
  | x :: l, s, s', h, hp, hi, hk => by
    cases h with
    | cons hr h => exact req_steps h (req_on hp (hi x (List.mem_cons_self ..)) hk) (fun y hy => hi y (List.mem_cons_of_mem _ hy)) hk

/-- A REGION WHOSE ORDER IS OPEN. -/
theorem mixed_by {hm : Bool} (hmix : P.follows .mixedOrders = true) {id : Nat} {ops : Array Oper} {s : ASt} {K : AExit → ASt → Prop} (hb : backGo ops.toList 0 = true)
    (h : mOps P hm ops (List.range ops.size) s [] (fun l s1 => Both (mCheck (masks ops) l.reverse = true) (Both (HeapsOk (mNeeds (masks ops) l.reverse)) (K .normal s1)))
      (fun rest s0 l r v h' => mOps P hm ops (rest.filter fun k => !((masks ops).getD k 0).testBit r.idx) s0 l (fun l2 _ => Both (mCheck (masks ops) (r :: l2).reverse = true) (Both (HeapsOk (mNeeds (masks ops) (r :: l2).reverse)) (∀ ds, K (.panic v) { s with tmps := junked s.tmps ds, h := h' }))) (fun _ _ _ _ _ _ => False))) : DrawW P id ops s K := by
  refine ⟨?_⟩
  rcases mOps_ok _ _ _ _ _ h with ⟨s1, l1, d, k⟩ | ⟨is1, i, rest, s1, l1, m, v, h', e, d, k1, k2, k3, k4, k5, k6, k⟩
  · simp only [List.append_nil, List.reverse_reverse] at k
    obtain ⟨hc, hhp, k⟩ := k
    have hp := mCheck_spec hc hhp
    exact ⟨.normal, s1, mixed_ok hmix hb d.idx d.steps d.ev d.pan hp d.n d.defers d.span d.round, k⟩
  · rcases mOps_ok _ _ _ _ _ k with ⟨s2, l2, d2, k⟩ | ⟨_, _, _, _, _, _, _, _, _, _, _, _, _, _, _, _, k⟩
    case inr => exact k.elim
    simp only [List.append_nil, List.reverse_cons, List.reverse_append, List.reverse_reverse] at k
    obtain ⟨hc, hhp, k⟩ := k
    have hp := mCheck_spec hc hhp
    have hi2 : ∀ x ∈ l2, i < x.idx ∧ ¬ Before (masks ops) i x.idx := by
      intro x hx
      have h1 : x.idx ∈ rest.filter fun k => !((masks ops).getD k 0).testBit m.idx := by rw [← d2.idx]; exact List.mem_map_of_mem hx
      obtain ⟨h2, h3⟩ := List.mem_filter.1 h1
      have hs : (List.range ops.size).Pairwise (· < ·) := List.pairwise_lt_range
      rw [e, List.pairwise_append, List.pairwise_cons] at hs
      refine ⟨hs.2.1.1 _ h2, ?_⟩
      unfold Before
      rw [k2] at h3
      simpa using h3
    rw [List.pairwise_append] at hp
    have hind : ∀ x ∈ l2, MIndep x m := by
      intro x hx
      refine (hp.2.2 x (List.mem_append_right _ hx) m (by simp)).resolve_left fun hB => ?_
      have := before_lt hb _ _ hB
      have := (hi2 x hx).1
      omega
    have hks : m.kind.isSome = true := by rw [k5]; rfl
    have hreq := req_steps d2.steps k6 hind hks
    have hL : (l1 ++ l2 ++ [m]).map (·.idx) = is1 ++ (rest.filter fun k => !((masks ops).getD k 0).testBit m.idx) ++ [i] := by simp [d.idx, d2.idx, k2]
    have hnd : (is1 ++ i :: rest).Nodup := by rw [← e]; exact List.nodup_range
    have hsubl : (is1 ++ i :: (rest.filter fun k => !((masks ops).getD k 0).testBit m.idx)).Sublist (is1 ++ i :: rest) := List.Sublist.append (List.Sublist.refl _) (List.Sublist.cons_cons _ List.filter_sublist)
    have hperm : (is1 ++ (rest.filter fun k => !((masks ops).getD k 0).testBit m.idx) ++ [i]).Perm (is1 ++ i :: (rest.filter fun k => !((masks ops).getD k 0).testBit m.idx)) := by
      rw [List.append_assoc]
      exact List.Perm.append_left _ (List.perm_append_singleton _ _)
    refine ⟨.panic v, _, mixed_fall (s := s) (p := m) (L := l1 ++ l2) (v := v) (x1 := m.on s2.x) hmix hb k3 k5 ?_ ?_ ?_ ?_ ?_ ?_ ?_, k _⟩
    · intro x hx
      have h1 : x.idx ∈ is1 ++ (rest.filter fun k => !((masks ops).getD k 0).testBit m.idx) ++ [i] := by rw [← hL]; exact List.mem_map_of_mem hx
      have h2 := hsubl.subset (hperm.subset h1)
      rw [← e] at h2
      exact List.mem_range.1 h2
    · rw [hL]
      exact hperm.symm.nodup (hnd.sublist hsubl)
    · intro j hj
      have h1 : j ∈ is1 ++ i :: rest := by rw [← e]; exact List.mem_range.2 hj
      rw [hL]
      by_cases hB : Before (masks ops) m.idx j
      · exact .inr hB
      · left
        refine hperm.symm.subset ?_
        rcases List.mem_append.1 h1 with h2 | h2
        · exact List.mem_append_left _ h2
        · refine List.mem_append_right _ ?_
          rcases List.mem_cons.1 h2 with h3 | h3
          · rw [h3]; exact List.mem_cons_self ..
          · exact List.mem_cons_of_mem _ (List.mem_filter.2 ⟨h3, by unfold Before at hB; simpa using hB⟩)
    · exact XSteps.append (XSteps.append d.steps d2.steps) (.cons hreq (.nil _))
    · intro x hx
      simp only [List.mem_append, List.mem_singleton] at hx
      rcases hx with (hx | hx) | rfl
      · exact d.ev x hx
      · exact d2.ev x hx
      · exact k1
    · intro x hx
      rcases List.mem_append.1 hx with hx | hx
      · exact d.pan x hx
      · exact d2.pan x hx
    · rw [List.pairwise_append]
      exact hp
end
end Go.Ag
/- Numbers, sets as numbers, slices by rows. -/
namespace Go.Ag
abbrev I (n : Int) : CV := .lit (.int .i64 n)
abbrev B (b : Bool) : CV := .lit (.bool b)
theorem wrap_eq {n : Int} (h1 : -9223372036854775808 ≤ n) (h2 : n < 9223372036854775808) : IntKind.i64.wrap n = n := IntWalk.i64_in n ⟨h1, by omega⟩

/-- A slice whose rows these are. -/
structure SlOf (sz : Nat) (rows : List (List CV)) (cells : List CV) (off len : Nat) : Prop where
  len : len = rows.length
  row : ∀ i (r : List CV), rows[i]? = some r → sliceOf cells (off + i * sz) sz = some r

theorem sliceOf_get {α : Type} {l : List α} {off n : Nat} {r : List α} (h : sliceOf l off n = some r) {j : Nat} (hj : j < n) : l[off + j]? = r[j]? := by
  simp only [sliceOf] at h
  split at h
  · simp only [Option.some.injEq] at h
    subst h
    rw [List.getElem?_take, if_pos hj, List.getElem?_drop]
  · cases h

/-- Where a value's outermost layer is not known. -/
theorem layV_i {v : AV} {k : AV → Prop} (h : k v) : layV v k := by rw [layV_eq]; exact h

theorem mOps_list {P : Program} {hm : Bool} {ops : Array Oper} {l l' : List Nat} {s : ASt} {a : List MRec} {K : List MRec → ASt → Prop} {X : List Nat → ASt → List MRec → MRec → AV → Heap → Prop} (h : l = l') (hk : mOps P hm ops l' s a K X) : mOps P hm ops l s a K X := h ▸ hk

def inB (n lo hi : Int) : Bool := decide (lo ≤ n) && decide (n ≤ hi)

/-! Sets as numbers. -/
theorem ofInt_nat (a : Nat) (h : a < 2 ^ 63) : (BitVec.ofInt 64 (a : Int)).toNat = a := by
  rw [BitVec.toNat_ofInt]
  have : (a : Int) % ((2 ^ 64 : Nat) : Int) = a := Int.emod_eq_of_lt (by omega) (by omega)
  rw [this]; rfl
theorem wrap_nat {a : Nat} (h : a < 2 ^ 63) : IntKind.i64.wrap (a : Int) = a := wrap_eq (by omega) (by omega)
theorem and_nat {a b : Nat} (ha : a < 2 ^ 63) (hb : b < 2 ^ 63) : IntKind.i64.wrap ((BitVec.ofInt 64 (a : Int) &&& BitVec.ofInt 64 (b : Int)).toNat : Int) = ((a &&& b : Nat) : Int) := by
  rw [BitVec.toNat_and, ofInt_nat a ha, ofInt_nat b hb]
  exact wrap_nat (Nat.lt_of_le_of_lt Nat.and_le_left ha)
theorem or_nat {a b : Nat} (ha : a < 2 ^ 63) (hb : b < 2 ^ 63) : IntKind.i64.wrap ((BitVec.ofInt 64 (a : Int) ||| BitVec.ofInt 64 (b : Int)).toNat : Int) = ((a ||| b : Nat) : Int) := by
  rw [BitVec.toNat_or, ofInt_nat a ha, ofInt_nat b hb]
  exact wrap_nat (Nat.or_lt_two_pow ha hb)
theorem shr_nat (a n : Nat) (h : n < 64) : ((a : Int).fdiv (2 ^ (min (n : Int).toNat 64))) = ((a >>> n : Nat) : Int) := by
  have e : min (n : Int).toNat 64 = n := by rw [Int.toNat_natCast]; omega
  rw [e, Nat.shiftRight_eq_div_pow]
  have : (2 : Int) ^ n = ((2 ^ n : Nat) : Int) := by norm_cast
  rw [this, Int.fdiv_eq_ediv_of_nonneg _ (Int.natCast_nonneg _)]
  norm_cast
theorem shl_nat (a n : Nat) (h : n < 64) (hs : a * 2 ^ n < 2 ^ 63) : IntKind.i64.wrap ((a : Int) * 2 ^ (min (n : Int).toNat 64)) = ((a * 2 ^ n : Nat) : Int) := by
  have e : min (n : Int).toNat 64 = n := by rw [Int.toNat_natCast]; omega
  rw [e]
  have : (a : Int) * 2 ^ n = ((a * 2 ^ n : Nat) : Int) := by norm_cast
  rw [this]
  exact wrap_nat hs
theorem bit_nat (s n : Nat) : (((s >>> n &&& 1 : Nat) : Int) == 1) = s.testBit n := by
  rw [Nat.testBit, Nat.and_comm]
  have : 1 &&& s >>> n = 0 ∨ 1 &&& s >>> n = 1 := by
    have := Nat.and_le_left (n := 1) (m := s >>> n); omega
  rcases this with h | h <;> rw [h] <;> rfl

/-! Calls on slices of own blocks. -/
theorem snaps_map_c (H : Nat → AB) : ∀ (cs : List CV) (n : Nat), cs.length + 1 < n → snaps H n (cs.map .c) = some (cs, [])
  | [], n + 1, _ => rfl
  | c :: cs, n + 1, h => by
    have : snap H n (.c c) = some (c, []) := by cases n with | zero => simp at h | succ n => rfl
    simp only [List.map_cons, snaps, this, Option.bind_some]
    rw [snaps_map_c H cs n (by simp at h; omega)]
    rfl
theorem snaps_msl {H : Nat → AB} {id sz off len cap : Nat} {cs : List CV} (hb : H id = .blk (cs.map .c)) : snaps H (cs.length + 10) [.msl id sz off len cap] = some ([.sl cs off len], [id]) := by
  have h1 : snap H (cs.length + 9) (.msl id sz off len cap) = some (.sl cs off len, [id]) := by
    simp only [snap, hb]
    rw [snaps_map_c H cs _ (by omega)]
    rfl
  show (snap H (cs.length + 9) (.msl id sz off len cap)).bind _ = _
  rw [h1]
  rfl
section
variable {P : Program} {f : FuncId} {id sz off len cap : Nat} {cs : List CV} {v : CV} {h : Heap}
theorem CallW.msl {K : AEnd → Heap → Prop} (hb : Heap.at h id = .blk (cs.map .c)) (hk : Ret P f [.sl cs off len] v) (hp : v.plain = true) (k : K (.ret (.c v)) h) : CallW P f [.msl id sz off len cap] h K := by
  have hkl : killed v [id] = [] := by unfold killed; rw [if_pos hp]
  exact .snapped _ _ [id] _ v (snaps_msl hb) hk rfl (by rw [hkl]; exact k)
theorem CallD.msl {K : CV → List Nat → List (Nat × AB) → Prop} (hb : Heap.at h id = .blk (cs.map .c)) (hk : Ret P f [.sl cs off len] v) (hp : v.plain = true) (k : K v [id] []) : CallD P f [.msl id sz off len cap] h K := by
  have hkl : killed v [id] = [] := by unfold killed; rw [if_pos hp]
  exact .snapped _ _ [id] v (snaps_msl hb) hk (by rw [hkl]; exact k)
end

/-! Sums. -/
def sumTo (f : Nat → Int) : Nat → Int
  | 0 => 0
  | n + 1 => sumTo f n + f n
theorem sumTo_bound {f : Nat → Int} {b : Int} : ∀ (n : Nat), (∀ i, i < n → -b ≤ f i ∧ f i ≤ b) → -(n * b) ≤ sumTo f n ∧ sumTo f n ≤ n * b
  | 0, _ => by simp [sumTo]
  | n + 1, h => by
    have h1 := sumTo_bound n (fun i hi => h i (by omega))
    have h2 := h n (by omega)
    have e : ((n + 1 : Nat) : Int) * b = n * b + b := by rw [Int.natCast_succ, Int.add_mul, Int.one_mul]
    simp only [sumTo]
    rw [e]
    omega
theorem sumTo_congr {f g : Nat → Int} : ∀ (n : Nat), (∀ i, i < n → f i = g i) → sumTo f n = sumTo g n
  | 0, _ => rfl
  | n + 1, h => by simp only [sumTo]; rw [sumTo_congr n (fun i hi => h i (by omega)), h n (by omega)]

theorem all_false {α : Type} {p : α → Bool} {l : List α} {j : Nat} {a : α} (h : l[j]? = some a) (hp : p a = false) : l.all p = false := by
  rw [List.all_eq_false]
  exact ⟨a, List.mem_of_getElem? h, by simp [hp]⟩
theorem all_upto {α : Type} {p : α → Bool} {l : List α} {j : Nat} (h : ∀ i a, i < j → l[i]? = some a → p a = true) (hj : l.length ≤ j) : l.all p = true := by
  rw [List.all_eq_true]
  intro a ha
  obtain ⟨i, hi, rfl⟩ := List.mem_iff_getElem.1 ha
  exact h i _ (by omega) (by simp [hi])
end Go.Ag
/- Appends to own slices; values that say less. -/
namespace Go.Ag
theorem append_grow {P : Program} {rd : Nat → AB} {fresh id sz len : Nat} {ts : Array TypeId} {t u elem : TypeId} {du : TypeDesc} {x : AV} {new cells : List AV} {n : Nat} {reads : List Nat} (h0 : ts[0]? = some t) (h1 : ts[1]? = some u) (ht : P.underlying t = some (.slice elem)) (hu : P.underlying u = some du)
    (hdu : isSliceOrString du = true) (hs : slicePart P elem = some sz) (hx : firstCells rd sz x = some (new, n, reads)) (hc : new.all AV.cellish = true) (hn : n ≠ 0) (hlim : len + n ≤ limit) (hb : rd id = .blk cells) (hlen : cells.length = len * sz) :
    aappend P rd fresh ts (.msl id sz 0 len len) x = some { val := .msl fresh sz 0 (len + n) (len + n), reads := id :: reads, upds := [(id, .dead)], fresh := some (.blk (cells ++ new)) } := by
  have hsl : sliceOf cells 0 (len * sz) = some cells := by
    simp only [sliceOf, List.drop_zero]
    rw [List.take_of_length_le (by omega), if_pos hlen]
  simp only [aappend, h0, h1, ht, hu, hdu, if_true, hs, hx, hc, appendTo, ne_eq, not_true, if_false, hn, hb]
  rw [if_neg (by omega), if_pos hlim]
  simp only [hsl, Option.map_some]

theorem append_first {P : Program} {rd : Nat → AB} {fresh sz : Nat} {ts : Array TypeId} {t u elem : TypeId} {du : TypeDesc} {x : AV} {new : List AV} {n : Nat} {reads : List Nat} (h0 : ts[0]? = some t) (h1 : ts[1]? = some u) (ht : P.underlying t = some (.slice elem)) (hu : P.underlying u = some du)
    (hdu : isSliceOrString du = true) (hs : slicePart P elem = some sz) (hx : firstCells rd sz x = some (new, n, reads)) (hc : new.all AV.cellish = true) (hn : n ≠ 0) (hlim : n ≤ limit) :
    aappend P rd fresh ts (.c (.lit (.slice none 0 0))) x = some { val := .msl fresh sz 0 n n, reads, fresh := some (.blk new) } := by
  simp only [aappend, h0, h1, ht, hu, hdu, if_true, hs, hx, hc, appendTo, hn, if_false, hlim]

theorem append_none {P : Program} {rd : Nat → AB} {fresh id sz len cap : Nat} {ts : Array TypeId} {t u elem : TypeId} {du : TypeDesc} {x : AV} {reads : List Nat} (h0 : ts[0]? = some t) (h1 : ts[1]? = some u) (ht : P.underlying t = some (.slice elem)) (hu : P.underlying u = some du)
    (hdu : isSliceOrString du = true) (hs : slicePart P elem = some sz) (hx : firstCells rd sz x = some ([], 0, reads)) :
    aappend P rd fresh ts (.msl id sz 0 len cap) x = some { val := .msl id sz 0 len cap, reads } := by
  simp only [aappend, h0, h1, ht, hu, hdu, if_true, hs, hx, appendTo, ne_eq, not_true, if_false, List.all_nil]

theorem first_own {rd : Nat → AB} {id sz len cap : Nat} {cells : List AV} (hb : rd id = .blk cells) (hlen : cells.length = len * sz) : firstCells rd sz (.msl id sz 0 len cap) = some (cells, len, [id]) := by
  simp only [firstCells, hb, if_true]
  have hsl : sliceOf cells 0 (len * sz) = some cells := by
    simp only [sliceOf, List.drop_zero]
    rw [List.take_of_length_le (by omega), if_pos hlen]
  rw [hsl]; rfl

def outId : AV → Option Nat
  | .msl id _ _ _ _ => some id
  | _ => none
abbrev nilA : AV := .c (.lit (.slice none 0 0))
theorem at_push (h : Heap) (b : AB) (i : Nat) : Heap.at (h.push .dead b) i = if i = h.n then b else Heap.at h i := by unfold Heap.at; rw [TMap.get_push]
theorem at_set (h : Heap) (b : AB) (k i : Nat) : Heap.at (h.set .dead k b) i = if i = k ∧ k < h.n then b else Heap.at h i := by unfold Heap.at; rw [TMap.get_set]
/-- A value says no more than another. -/
def CV.Le (a b : CV) : Prop := ∀ (Φ : Nat → Option Obj) (v : Value), RepC Φ a v → RepC Φ b v
theorem CV.Le.refl (a : CV) : a.Le a := fun _ _ h => h
abbrev nilC : CV := .lit (.slice none 0 0)
theorem CV.Le.nil (c : List CV) (o : Nat) : nilC.Le (.sl c o 0) := fun _ v h => by
  have h : v = .slice none 0 0 := h
  subst h; exact .inl ⟨rfl, .inr rfl⟩
def Les : List CV → List CV → Prop
  | [], [] => True
  | a :: l, b :: m => a.Le b ∧ Les l m
  | _, _ => False
theorem Les.refl : ∀ l : List CV, Les l l
  | [] => trivial
  | a :: l => ⟨.refl a, Les.refl l⟩
theorem les_rep {Φ : Nat → Option Obj} : ∀ {l m : List CV} {vs : List Value}, Les l m → RepP Φ l vs → RepP Φ m vs
  | [], [], vs, h, hv => hv
  | [], _ :: _, vs, h, hv => h.elim
  | a :: l, [], vs, h, hv => h.elim
  | a :: l, b :: m, [], h, hv => absurd hv (by simp [RepP])
  | a :: l, b :: m, v :: vs, h, hv => ⟨h.1 Φ v hv.1, les_rep h.2 hv.2⟩
theorem CV.Le.sl {c c' : List CV} (h : Les c c') (o n : Nat) : (CV.sl c o n).Le (.sl c' o n) := fun Φ v hv => by
  rcases hv with hv | ⟨b, base, cap, cs, e, fr, h1, h2, h3, h4⟩
  · exact .inl hv
  · exact .inr ⟨b, base, cap, cs, e, fr, h1, h2, h3, les_rep h h4⟩

theorem Ret.weaken {P : Program} {f : FuncId} {args : List CV} {v v' : CV} (h : Ret P f args v) (hv : v.Le v') : Ret P f args v' := by
  intro g kind cs base w vs hi hA hl hp hc
  obtain ⟨g', fr', cs', w', k1, k2, k3, k4, k5, k6, k7, k8, k9, k10, fn, u, k11, k12, k13⟩ := h g kind cs base w vs hi hA hl hp hc
  exact ⟨g', fr', cs', w', k1, k2, k3, k4, k5, k6, k7, k8, k9, k10, fn, u, k11, k12, hv _ _ k13⟩
theorem les_args {g : G} : ∀ (l m : List CV) (vs : List Value), Les l m → Pw (Rep g) (l.map .c) vs → Pw (Rep g) (m.map .c) vs
  | [], [], vs, _, h => h
  | [], _ :: _, vs, h, _ => h.elim
  | _ :: _, [], vs, h, _ => h.elim
  | a :: l, b :: m, [], _, h => absurd h Pw.not_cons_nil
  | a :: l, b :: m, v :: vs, h, h2 => by
    rw [List.map_cons, Pw.cons_iff] at h2
    rw [List.map_cons, Pw.cons_iff]
    exact ⟨h.1 _ _ h2.1, les_args l m vs h.2 h2.2⟩
theorem les_len : ∀ {l m : List CV}, Les l m → l.length = m.length
  | [], [], _ => rfl
  | [], _ :: _, h => h.elim
  | _ :: _, [], h => h.elim
  | _ :: _, _ :: _, h => by simp [les_len h.2]
theorem Ret.args {P : Program} {f : FuncId} {args args' : List CV} {v : CV} (h : Ret P f args v) (ha : Les args' args) : Ret P f args' v := by
  intro g kind cs base w vs hi hA hl hp hc
  have hlen := les_len ha
  exact h g kind cs base w vs hi hA (by simpa [hlen] using hl) (les_args _ _ _ ha hp) hc

theorem Foot.trans_up {W : Nat → Prop} {a b c : Heap} {N : Nat} (f : Foot W a b) (g : Foot (fun i => N ≤ i) b c) (hN : a.n ≤ N) : Foot W a c :=
  ⟨Nat.le_trans f.n g.n, fun i hi hw => (g.keep i (Nat.lt_of_lt_of_le hi f.n) (by omega)).trans (f.keep i hi hw)⟩

/-- Rows of closed cells in a heap. -/
def RowsL (sz : Nat) (h : Heap) (out : AV) (rows : List (List CV)) : Prop := (out = nilA ∧ rows = []) ∨ ∃ o, out = .msl o sz 0 rows.length rows.length ∧ Heap.at h o = .blk (rows.flatten.map .c) ∧ o < h.n ∧ rows ≠ []

theorem flat_len {sz : Nat} : ∀ (rows : List (List CV)), (∀ r ∈ rows, r.length = sz) → rows.flatten.length = rows.length * sz
  | [], _ => by simp
  | r :: rows, h => by
    rw [List.flatten_cons, List.length_append, flat_len rows (fun x hx => h x (List.mem_cons_of_mem _ hx)), h r (List.mem_cons_self ..), List.length_cons, Nat.succ_mul]; omega

def after (h : Heap) (r : SOut) : Heap := (Heap.upd h r.upds).app .dead r.fresh.toList

theorem rows_append {P : Program} {sz : Nat} {h : Heap} {out : AV} {rows : List (List CV)} {row : List CV} {t u elem : TypeId} {du : TypeDesc} (R : RowsL sz h out rows) (ht : P.underlying t = some (.slice elem)) (hu : P.underlying u = some du)
    (hdu : isSliceOrString du = true) (hs : slicePart P elem = some sz) (hrow : row.length = sz) (hall : ∀ r ∈ rows, r.length = sz) (hc : (row.map AV.c).all AV.cellish = true) (hlim : rows.length + 1 ≤ limit) :
    ∃ r, aappend P (atF (h.push .dead (.blk (row.map .c)))) (h.n + 1) #[t, u] out (.msl h.n sz 0 1 1) = some r ∧ RowsL sz (after (h.push .dead (.blk (row.map .c))) r) r.val (rows ++ [row]) ∧
      (∀ i, i < h.n → outId out ≠ some i → Heap.at (after (h.push .dead (.blk (row.map .c))) r) i = Heap.at h i) ∧ h.n ≤ (after (h.push .dead (.blk (row.map .c))) r).n ∧ (∀ o, outId r.val = some o → h.n ≤ o) := by
  have hf : firstCells (Heap.at (h.push .dead (.blk (row.map .c)))) sz (.msl h.n sz 0 1 1) = some (row.map .c, 1, [h.n]) := first_own (by rw [at_push, if_pos rfl]) (by simp [hrow])
  rw [atF_eq]
  rcases R with ⟨rfl, rfl⟩ | ⟨o, rfl, h2, h3, h4⟩
  · refine ⟨_, append_first rfl rfl ht hu hdu hs hf hc (by decide) (by decide), ?_⟩
    refine ⟨.inr ⟨h.n + 1, rfl, ?_, ?_, by simp⟩, fun i hi _ => ?_, ?_, fun o ho => by simp [outId] at ho; omega⟩
    · show Heap.at ((h.push .dead (.blk (row.map .c))).push .dead (.blk (row.map .c))) (h.n + 1) = _
      rw [at_push, if_pos (by rw [push_n])]; simp
    · show h.n + 1 < h.n + 1 + 1; omega
    · show Heap.at ((h.push .dead (.blk (row.map .c))).push .dead (.blk (row.map .c))) i = _
      rw [at_push, if_neg (by rw [push_n]; omega), at_push, if_neg (by omega)]
    · show h.n ≤ h.n + 1 + 1; omega
  · have hl : ((rows.flatten).map AV.c).length = rows.length * sz := by rw [List.length_map, flat_len rows hall]
    refine ⟨_, append_grow rfl rfl ht hu hdu hs hf hc (by decide) hlim (by rw [at_push, if_neg (by omega)]; exact h2) hl, ?_⟩
    refine ⟨.inr ⟨h.n + 1, by simp, ?_, ?_, by simp⟩, fun i hi hne => ?_, ?_, fun o ho => by simp [outId] at ho; omega⟩
    · show Heap.at (((h.push .dead (.blk (row.map .c))).set .dead o .dead).push .dead (.blk (rows.flatten.map .c ++ row.map .c))) (h.n + 1) = _
      rw [at_push, if_pos (by rw [TMap.set_n, push_n])]; simp
    · show h.n + 1 < h.n + 1 + 1; omega
    · show Heap.at (((h.push .dead (.blk (row.map .c))).set .dead o .dead).push .dead (.blk (rows.flatten.map .c ++ row.map .c))) i = _
      rw [at_push, if_neg (by rw [TMap.set_n, push_n]; omega), at_set, if_neg (fun x => hne (by rw [x.1]; rfl)), at_push, if_neg (by omega)]
    · show h.n ≤ h.n + 1 + 1; omega

theorem RowsL.ext {sz : Nat} {h h' : Heap} {out : AV} {rows : List (List CV)} (R : RowsL sz h out rows) (hn : h.n ≤ h'.n) (he : ∀ i, i < h.n → outId out = some i → Heap.at h' i = Heap.at h i) : RowsL sz h' out rows := by
  rcases R with h1 | ⟨o, rfl, h2, h3, h4⟩
  · exact .inl h1
  · exact .inr ⟨o, rfl, (he o h3 rfl).trans h2, by omega, h4⟩
theorem RowsL.set {sz : Nat} {h : Heap} {out : AV} {rows : List (List CV)} (R : RowsL sz h out rows) {k : Nat} (hk : outId out ≠ some k) (b : AB) : RowsL sz (h.set .dead k b) out rows :=
  R.ext (by rw [TMap.set_n]; exact Nat.le_refl _) (fun i _ ho => at_set_ne _ _ (fun e => hk (e ▸ ho)))
theorem RowsL.shape {sz : Nat} {h : Heap} {out : AV} {rows : List (List CV)} (R : RowsL sz h out rows) : out = nilA ∨ ∃ o n, out = .msl o sz 0 n n := by
  rcases R with ⟨rfl, _⟩ | ⟨o, rfl, _⟩
  · exact .inl rfl
  · exact .inr ⟨o, _, rfl⟩
theorem RowsL.lt {sz : Nat} {h : Heap} {out : AV} {rows : List (List CV)} (R : RowsL sz h out rows) : ∀ o, outId out = some o → o < h.n := by
  rcases R with ⟨rfl, _⟩ | ⟨o, rfl, _, h3, _⟩
  · intro o ho; cases ho
  · intro o' ho; cases ho; exact h3

/-- The end of a function whose result says no more than a value. -/
theorem ret_le {hm : Bool} {P : Program} {f : FuncId} {fn : Func} {body : Code} {args : List CV} {v : CV} (hf : P.funcs[f]? = some fn) (hb : fn.body = some body)
    (hw : initK (args.map .c) (fn.ntmps - (args.map AV.c).length) fun t => wCode P hm body ⟨t, [], .no, none, TMap.nil⟩ (fun e s => endW hm P fn (fun e h' => ∃ v', retW v' e h' ∧ v'.Le v) e s)) : Ret P f args v := by
  obtain ⟨e, h', h1, v', h2, h4⟩ := call_by hf hb hw
  cases e with
  | panic _ => exact h2.elim
  | ret u =>
    obtain ⟨fuel, ids, h3⟩ := (h2 : RetW v' u h')
    have : Ret P f args v' := callOk_close h1 (r := (v', ids)) h3
    exact this.weaken h4

end Go.Ag
/- Proofs with open values: a region whose order is open but for its end. -/
namespace Go.Ag

theorem range'_sorted : ∀ (m k : Nat) (l : List Nat), l.Perm (List.range' k m) → l.Pairwise (fun b a => ¬ a < b) → l = List.range' k m
  | 0, k, l, hp, _ => by simpa using hp
  | m + 1, k, [], hp, _ => by have := hp.length_eq; simp at this
  | m + 1, k, x :: l, hp, hs => by
    rw [List.pairwise_cons] at hs
    have hx : x ∈ List.range' k (m + 1) := hp.subset (List.mem_cons_self ..)
    have hk : k ∈ x :: l := hp.symm.subset (by simp [List.mem_range'])
    have e : x = k := by
      rw [List.mem_range'] at hx
      obtain ⟨i, hi, hx⟩ := hx
      rcases List.mem_cons.1 hk with h | h
      · exact h.symm
      · have := hs.1 k h
        omega
    subst e
    rw [List.range'_succ] at hp ⊢
    rw [range'_sorted m (x + 1) l (List.Perm.cons_inv hp) hs.2]

/-- All from a place on come behind what is before it, and one behind the other. -/
def tailOk (ms : List Nat) (k n : Nat) : Bool := (List.range n).all fun j => Nat.blt j k || (List.range j).all fun i => (ms.getD j 0).testBit i
theorem tailOk_spec {ms : List Nat} {k n : Nat} (h : tailOk ms k n = true) {i j : Nat} (hij : i < j) (hk : k ≤ j) (hn : j < n) : Before ms i j := by
  unfold tailOk at h
  rw [List.all_eq_true] at h
  have := h j (List.mem_range.2 hn)
  rw [Bool.or_eq_true] at this
  rcases this with h1 | h1
  · rw [blt_true] at h1; omega
  · rw [List.all_eq_true] at h1
    exact h1 i (List.mem_range.2 hij)

theorem tail_split {ms : List Nat} {k n : Nat} (hkn : k ≤ n) (h : tailOk ms k n = true) {σ : List Nat} (hp : σ.Perm (List.range n)) (ho : σ.Pairwise (fun b a => ¬ Before ms a b)) : ∃ α, σ = α ++ List.range' k (n - k) ∧ α.Perm (List.range k) := by
  let p : Nat → Bool := fun i => Nat.blt i k
  have hσnd : σ.Nodup := hp.symm.nodup List.nodup_range
  have hlt : ∀ i ∈ σ, i < n := fun i hi => List.mem_range.1 (hp.subset hi)
  have e : σ = σ.takeWhile p ++ σ.dropWhile p := (List.takeWhile_append_dropWhile (p := p) (l := σ)).symm
  have ha : ∀ i ∈ σ.takeWhile p, i < k := by
    intro i hi
    have : ∀ (l : List Nat), i ∈ l.takeWhile p → p i = true := by
      intro l
      induction l with
      | nil => intro h; simp at h
      | cons a l ih =>
        intro h
        rw [List.takeWhile_cons] at h
        split at h
        · rcases List.mem_cons.1 h with rfl | h
          · assumption
          · exact ih h
        · simp at h
    exact blt_true.1 (this σ hi)
  have hb : ∀ i ∈ σ.dropWhile p, k ≤ i := by
    intro i hi
    cases hd : σ.dropWhile p with
    | nil => rw [hd] at hi; simp at hi
    | cons x l =>
      have hx : k ≤ x := by
        have : p x = false := by
          have h1 : ∀ (l' : List Nat), l'.dropWhile p = x :: l → p x = false := by
            intro l'
            induction l' with
            | nil => intro h; simp at h
            | cons a l' ih =>
              intro h
              rw [List.dropWhile_cons] at h
              split at h
              · exact ih h
              · rename_i hpa
                simp only [List.cons.injEq] at h
                rw [← h.1]; simpa using hpa
          exact h1 σ hd
        exact blt_false.1 this
      rw [hd] at hi
      rcases List.mem_cons.1 hi with rfl | hi
      · exact hx
      · rcases Nat.lt_or_ge i k with hik | hik
        · exfalso
          rw [e, hd, List.pairwise_append, List.pairwise_cons] at ho
          have hxn : x < n := hlt x (by rw [e, hd]; simp)
          exact ho.2.1.1 i hi (tailOk_spec h (by omega) hx hxn)
        · exact hik
  have hσ' : (σ.takeWhile p ++ σ.dropWhile p).Perm (List.range k ++ List.range' k (n - k)) := by
    rw [← e]
    have : List.range n = List.range k ++ List.range' k (n - k) := by
      rw [List.range_eq_range', List.range_eq_range']
      have := List.range'_append (s := 0) (m := k) (n := n - k) (step := 1)
      simp only [Nat.one_mul, Nat.zero_add] at this
      rw [this, show k + (n - k) = n by omega]
    rw [← this]; exact hp
  have f1 : (σ.takeWhile p ++ σ.dropWhile p).filter p = σ.takeWhile p := by
    rw [List.filter_append, List.filter_eq_self.2 (fun i hi => blt_true.2 (ha i hi)), List.filter_eq_nil_iff.2 (fun i hi => by rw [show p i = false from blt_false.2 (hb i hi)]; simp), List.append_nil]
  have f2 : (σ.takeWhile p ++ σ.dropWhile p).filter (fun i => !p i) = σ.dropWhile p := by
    rw [List.filter_append, List.filter_eq_nil_iff.2 (fun i hi => by rw [show p i = true from blt_true.2 (ha i hi)]; simp), List.filter_eq_self.2 (fun i hi => by rw [show p i = false from blt_false.2 (hb i hi)]; rfl), List.nil_append]
  have g1 : (List.range k ++ List.range' k (n - k)).filter p = List.range k := by
    rw [List.filter_append, List.filter_eq_self.2 (fun i hi => blt_true.2 (List.mem_range.1 hi)), List.filter_eq_nil_iff.2 (fun i hi => by
      rw [List.mem_range'] at hi
      obtain ⟨j, hj, rfl⟩ := hi
      rw [show p (k + 1 * j) = false from blt_false.2 (by omega)]; simp), List.append_nil]
  have g2 : (List.range k ++ List.range' k (n - k)).filter (fun i => !p i) = List.range' k (n - k) := by
    rw [List.filter_append, List.filter_eq_nil_iff.2 (fun i hi => by rw [show p i = true from blt_true.2 (List.mem_range.1 hi)]; simp), List.filter_eq_self.2 (fun i hi => by
      rw [List.mem_range'] at hi
      obtain ⟨j, hj, rfl⟩ := hi
      rw [show p (k + 1 * j) = false from blt_false.2 (by omega)]; rfl), List.nil_append]
  have q1 := hσ'.filter p
  rw [f1, g1] at q1
  have q2 := hσ'.filter (fun i => !p i)
  rw [f2, g2] at q2
  refine ⟨σ.takeWhile p, ?_, q1⟩
  have ho2 : (σ.dropWhile p).Pairwise (fun b a => ¬ a < b) := by
    rw [e, List.pairwise_append] at ho
    refine ho.2.1.imp_of_mem ?_
    intro b a hb1 ha1 hn hlt'
    exact hn (tailOk_spec h hlt' (hb b hb1) (hlt b (by rw [e]; exact List.mem_append_right _ hb1)))
  rw [← range'_sorted (n - k) k _ q2 ho2]
  exact e

section
variable {P : Program} {ops : Array Oper}

theorem split_ok (hmix : P.follows .mixedOrders = true) {id k : Nat} {s s1 sf : ASt} {e : AExit} {L : List MRec} (hkn : k ≤ ops.size) (hback : backGo ops.toList 0 = true) (htail : tailOk (masks ops) k ops.size = true)
    (hL : L.map (·.idx) = List.range k) (hx : XSteps L s.x s1.x) (he : ∀ m ∈ L, Ev P ops m) (hp : ∀ m ∈ L, m.pan = none)
    (hpw : L.Pairwise (fun a b => Before (masks ops) a.idx b.idx ∨ MIndep a b)) (hn : s1.tmps.n = s.tmps.n) (hds : s1.defers = s.defers) (hpan : s1.pan = s.pan) (hr : s1.round = s.round)
    (ht : CodeOk P s1 (.inRegion ops (List.range' k (ops.size - k))) e sf) : CodeOk P s (.code (.region id ops true)) e sf := by
  refine region_any hmix hback fun σ hσ ho => ?_
  obtain ⟨α, rfl, hα⟩ := tail_split hkn htail hσ ho
  rw [← hL] at hα
  rw [List.pairwise_append] at ho
  obtain ⟨L', e', p', d'⟩ := XSteps.perm (Ord := Before (masks ops)) hx hpw (by rw [hL]; exact List.nodup_range) hα ho.1
  obtain ⟨s', k1, k2, k3, k4, k5, k6⟩ := xsteps_ok (P := P) (ops := ops) d' (fun m hm => he m (p'.subset hm)) (fun m hm => hp m (p'.subset hm))
  have hw : Weak s' s1 := ⟨hn.trans k2.symm, fun i _ => .inr (by have := congrArg XSt.T k1; exact (congrFun this i).symm), hds.trans k3.symm, hpan.trans k4.symm, hr.trans k5.symm, (congrArg XSt.h k1).symm⟩
  have := k6 _ e sf (ht.weak hw)
  rw [e'] at this
  exact this

/-- A region whose order is open but for its end. -/
theorem split_by {hm : Bool} (k : Nat) (hmix : P.follows .mixedOrders = true) {id : Nat} {s : ASt} {K : AExit → ASt → Prop} (hb : backGo ops.toList 0 = true) (hkn : k ≤ ops.size) (htail : tailOk (masks ops) k ops.size = true)
    (h : mOps P hm ops (List.range k) s [] (fun l s1 => Both (mCheck (masks ops) l.reverse = true) (Both (HeapsOk (mNeeds (masks ops) l.reverse)) (wOps P hm ops (List.range' k (ops.size - k)) s1 K)))
      (fun _ _ _ _ _ _ => False)) : DrawW P id ops s K := by
  refine ⟨?_⟩
  rcases mOps_ok _ _ _ _ _ h with ⟨s1, l1, d, k⟩ | ⟨_, _, _, _, _, _, _, _, _, _, _, _, _, _, _, _, k⟩
  · simp only [List.append_nil, List.reverse_reverse] at k
    obtain ⟨hc, hhp, k⟩ := k
    have hp := mCheck_spec hc hhp
    obtain ⟨e, sf, h1, h2⟩ := wOps_ok _ _ _ k
    exact ⟨e, sf, split_ok hmix hkn hb htail d.idx d.steps d.ev d.pan hp d.n d.defers d.span d.round h1, h2⟩
  · exact k.elim
end
end Go.Ag
/- Iterators that yield several values, of heaps of which something holds. -/
namespace Go.Ag
section
variable {P : Program}

/-- The blocks that an iterator may write, and those that it has laid meanwhile. -/
def grow (W : Nat → Prop) (h h' : Heap) (i : Nat) : Prop := W i ∨ (h.n ≤ i ∧ i < h'.n)
def none' (_ : Nat) : Prop := False

/-- The rounds of a range, as an iterator sees them. W: the blocks that the iterator has laid, and no round writes. -/
structure RoundsA (P : Program) (id n0 : Nat) (J : (Nat → Prop) → List (List CV) → Heap → Prop) (D : (Nat → Prop) → Heap → Prop) (X : (Nat → Prop) → AV → Heap → Prop) : Prop where
  stable : ∀ W ys h h', J W ys h → n0 ≤ h.n → Foot W h h' → J (grow W h h') ys h'
  dstable : ∀ W h h', D W h → n0 ≤ h.n → Foot W h h' → D (grow W h h') h'
  xstable : ∀ W v h h', X W v h → n0 ≤ h.n → Foot W h h' → X (grow W h h') v h'
  mono : ∀ W W' ys h, J W ys h → (∀ i, W' i → W i) → J W' ys h
  dmono : ∀ W W' h, D W h → (∀ i, W' i → W i) → D W' h
  xmono : ∀ W W' v h, X W v h → (∀ i, W' i → W i) → X W' v h
  round : ∀ W y ys h, J W (y :: ys) h → n0 ≤ h.n → (∀ i, W i → n0 ≤ i ∧ i < h.n) → YieldOk P id (y.map .c) h (fun b h' => Foot (fun i => ¬ W i) h h' ∧ match b with | true => J W ys h' | false => D W h') (fun v h' => X W v h' ∧ n0 ≤ h'.n ∧ Foot (fun i => ¬ W i) h h')

/-- A function value that yields these, of heaps of which something holds. -/
def IterA (P : Program) (Q : Heap → Prop) (it : AV) (ys : List (List CV)) : Prop := ∃ g a b, (∀ args, targetOf P it args = some (g, a ++ args ++ b)) ∧ ∀ id n0 J D X, RoundsA P id n0 J D X → (∀ W ys h, J W ys h → Q h) → id < n0 → ∀ h, n0 ≤ h.n → J none' ys h →
  ∃ e h', CallOk P g (a ++ [.yield id] ++ b) h .no e h' .no ∧ n0 ≤ h'.n ∧ match e with | .ret _ => J none' [] h' ∨ D none' h' | .panic v => X none' v h'

noncomputable def setsK : TMap AV → List Tmp → List CV → (TMap AV → Prop) → Prop
  | tm, t :: ts, c :: cs, k => mapK .undef tm t (.c c) fun tm => setsK tm ts cs k
  | tm, _, _, k => k tm
theorem setsK_eq : ∀ (tm : TMap AV) (ts : List Tmp) (cs : List CV) (k : TMap AV → Prop), setsK tm ts cs k = k ((ts.zip (cs.map AV.c)).foldl (fun l (x : Tmp × AV) => l.set .undef x.1 x.2) tm)
  | tm, [], _, k => by simp [setsK]
  | tm, _ :: _, [], k => by simp [setsK]
  | tm, t :: ts, c :: cs, k => by
    simp only [setsK, mapK_eq, List.map_cons, List.zip_cons_cons, List.foldl_cons]
    exact setsK_eq _ ts cs k

/-- What a round leaves alone: what the iterator has laid, and the range itself. -/
def apart (W : Nat → Prop) (n : Nat) (i : Nat) : Prop := ¬ (W i ∨ i = n ∨ i = n + 1)

/-- How a round's body ends. -/
def roundEndA (n : Nat) (W : Nat → Prop) (h0 : Heap) (I : (Nat → Prop) → List (List CV) → Heap → Prop) (E : (Nat → Prop) → AExit → Heap → Prop) (X : (Nat → Prop) → AV → Heap → Prop) (ys : List (List CV)) (e : AExit) (s : ASt) : Prop := match s.defers with
  | [] => Foot (apart W n) h0 s.h ∧ match e with
    | .normal => I W ys s.h
    | .panic v => X W v s.h
    | e => E W e s.h
  | _ :: _ => False

/-- A round: the assignment, then the body. -/
def roundTA (P : Program) (s : ASt) (ps : List Tmp) (assign body : Code) (I : (Nat → Prop) → List (List CV) → Heap → Prop) (E : (Nat → Prop) → AExit → Heap → Prop) (X : (Nat → Prop) → AV → Heap → Prop) (W : Nat → Prop) (y : List CV) (ys : List (List CV)) (h : Heap) : Prop :=
  T P (.code assign) ⟨(ps.zip (y.map AV.c)).foldl (fun l (x : Tmp × AV) => l.set .undef x.1 x.2) s.tmps, [], .no, some (s.h.n + 1), h⟩ fun e s1 => match e, s1 with
    | .normal, ⟨t1, [], .no, rd, h1⟩ => Foot (fun _ => False) h h1 ∧ T P (.code body) ⟨t1, [], .no, rd, h1.set .dead (s.h.n + 1) (.loop 0 s.tmps ps assign body .busy none s.h.n)⟩
        (roundEndA s.h.n W (h1.set .dead (s.h.n + 1) (.loop 0 s.tmps ps assign body .busy none s.h.n)) I E X ys)
    | _, _ => False

theorem round_okA {s : ASt} {ps : List Tmp} {assign body : Code} {I : (Nat → Prop) → List (List CV) → Heap → Prop} {E : (Nat → Prop) → AExit → Heap → Prop} {X : (Nat → Prop) → AV → Heap → Prop} {W : Nat → Prop} {y : List CV} {ys : List (List CV)} {h : Heap}
    (hI : ∀ W ys h h', I W ys h → s.h.n ≤ h.n → (∀ i, W i → s.h.n + 2 ≤ i) → Foot (fun i => W i ∨ i = s.h.n ∨ i = s.h.n + 1) h h' → I (grow W h h') ys h') (hE : ∀ W e h h', E W e h → s.h.n ≤ h.n → (∀ i, W i → s.h.n + 2 ≤ i) → Foot (fun i => W i ∨ i = s.h.n ∨ i = s.h.n + 1) h h' → E (grow W h h') e h')
    (mI : ∀ W W' ys h, I W ys h → (∀ i, W' i → W i) → I W' ys h) (mE : ∀ W W' e h, E W e h → (∀ i, W' i → W i) → E W' e h)
    (hW : ∀ i, W i → s.h.n + 2 ≤ i)
    (hn : s.h.n + 2 ≤ h.n) (hc : Heap.at h s.h.n = .coll true) (hb : Heap.at h (s.h.n + 1) = .loop 0 s.tmps ps assign body .ready none s.h.n) (hlen : y.length = ps.length) (hr : roundTA P s ps assign body I E X W y ys h) :
    YieldOk P (s.h.n + 1) (y.map .c) h (fun b h' => Foot (fun i => ¬ W i) h h' ∧ match b with
      | true => s.h.n + 2 ≤ h'.n ∧ Heap.at h' s.h.n = .coll true ∧ Heap.at h' (s.h.n + 1) = .loop 0 s.tmps ps assign body .ready none s.h.n ∧ (∀ i, W i → s.h.n + 2 ≤ i) ∧ I W ys h'
      | false => s.h.n + 2 ≤ h'.n ∧ Heap.at h' s.h.n = .coll true ∧ (∀ i, W i → s.h.n + 2 ≤ i) ∧ ∃ e c, jumpOf e = some c ∧ Heap.at h' (s.h.n + 1) = .loop 0 s.tmps ps assign body .done (some c) s.h.n ∧ E W e h')
      (fun v h' => (s.h.n + 2 ≤ h'.n ∧ Heap.at h' s.h.n = .coll true ∧ (∀ i, W i → s.h.n + 2 ≤ i) ∧ X W v h') ∧ s.h.n + 2 ≤ h'.n ∧ Foot (fun i => ¬ W i) h h') := by
  intro ops i o s0 ho hw ha hs0
  subst hs0
  obtain ⟨e1, s1, h1, k1⟩ := hr
  obtain ⟨t1, ds1, p1, rd1, hp1⟩ := s1
  split at k1
  case h_2 => exact k1.elim
  rename_i e2 s2 t2 rd2 hp2 he2
  simp only [ASt.mk.injEq] at he2
  obtain ⟨rfl, rfl, rfl, rfl, rfl⟩ := he2
  obtain ⟨kg, k1⟩ := k1
  have gn := kg.n
  have hb' := (kg.keep (s.h.n + 1) (by omega) (by simp)).trans hb
  have hc' := (kg.keep s.h.n (by omega) (by simp)).trans hc
  obtain ⟨e, s2, h2, k2⟩ := k1
  unfold roundEndA at k2
  split at k2
  case h_2 => exact k2.elim
  rename_i hd2
  obtain ⟨kf, k2⟩ := k2
  have nap : ¬ apart W s.h.n (s.h.n + 1) := fun x => x (.inr (.inr rfl))
  have nap0 : ¬ apart W s.h.n s.h.n := fun x => x (.inr (.inl rfl))
  have hbusy : ∀ x, Heap.at (hp1.set .dead (s.h.n + 1) x) (s.h.n + 1) = x := fun x => at_set_self _ _ (by omega)
  have hb2 : Heap.at s2.h (s.h.n + 1) = .loop 0 s.tmps ps assign body .busy none s.h.n := by
    rw [kf.keep _ (by rw [TMap.set_n]; omega) nap]; exact hbusy _
  have hc2 : Heap.at s2.h s.h.n = .coll true := by
    rw [kf.keep _ (by rw [TMap.set_n]; omega) nap0, at_set_ne _ _ (by omega)]; exact hc'
  have hn2 : s.h.n + 2 ≤ s2.h.n := by have := kf.n; rw [TMap.set_n] at this; omega
  have nw : ¬ W (s.h.n + 1) := fun x => by have := hW _ x; omega
  have foot0 : Foot (fun i => ¬ W i) s0.h s2.h := Foot.trans (kg.mono fun i _ hi => hi.elim) (Foot.trans (Foot.set (Foot.refl _ _) (.inl nw) _) (kf.mono fun i _ hi hw => hi (.inl hw)))
  have foot : ∀ x, Foot (fun i => ¬ W i) s0.h (s2.h.set .dead (s.h.n + 1) x) := fun x => Foot.set foot0 (.inl nw) x
  have up : ∀ x, Foot (fun i => W i ∨ i = s.h.n ∨ i = s.h.n + 1) s2.h (s2.h.set .dead (s.h.n + 1) x) := fun x => Foot.set (Foot.refl _ _) (.inl (.inr (.inr rfl))) x
  have hy := fun rest => ok_yield (P := P) (rest := rest) ho hw ha hb (by rw [List.length_map]; exact hlen) h1 hb' h2 hd2
  cases e with
  | panic v =>
    exact ⟨.inr ⟨v, { s0 with h := s2.h }, ⟨s2.h, ⟨⟨hn2, hc2, hW, k2⟩, hn2, foot0⟩, rfl⟩, fun rest => (hy rest).1 v rfl⟩⟩
  | normal =>
    refine ⟨.inl ⟨_, ⟨true, _, ⟨foot _, by rw [TMap.set_n]; exact hn2, ?_, at_set_self _ _ (by omega), hW, mI _ _ _ _ (hI _ _ _ _ k2 (by omega) hW (up _)) (fun i hi => .inl hi)⟩, rfl⟩, fun rest ex s' hk => (hy rest).2 _ _ _ _ _ _ _ _ s' ex (by simp) hb2 hk⟩⟩
    rw [at_set_ne _ _ (by omega)]; exact hc2
  | exit j =>
    refine ⟨.inl ⟨_, ⟨false, _, ⟨foot _, by rw [TMap.set_n]; exact hn2, ?_, hW, .exit j, .exit j, rfl, at_set_self _ _ (by omega), mE _ _ _ _ (hE _ _ _ _ k2 (by omega) hW (up _)) (fun i hi => .inl hi)⟩, rfl⟩, fun rest ex s' hk => (hy rest).2 _ _ _ _ _ _ _ _ s' ex (by simp) hb2 hk⟩⟩
    rw [at_set_ne _ _ (by omega)]; exact hc2
  | ret =>
    refine ⟨.inl ⟨_, ⟨false, _, ⟨foot _, by rw [TMap.set_n]; exact hn2, ?_, hW, .ret, .ret, rfl, at_set_self _ _ (by omega), mE _ _ _ _ (hE _ _ _ _ k2 (by omega) hW (up _)) (fun i hi => .inl hi)⟩, rfl⟩, fun rest ex s' hk => (hy rest).2 _ _ _ _ _ _ _ _ s' ex (by simp) hb2 hk⟩⟩
    rw [at_set_ne _ _ (by omega)]; exact hc2

/-- A RANGE OVER AN ITERATOR. -/
theorem range_byA {f : Operand} {params : Array Tmp} {ps : List Tmp} {assign body : Code} {tmps : TMap AV} {ds : List ADef} {p : Pan} {hp : Heap} {K : AExit → ASt → Prop} {Q : Heap → Prop} {it : AV} {ys : List (List CV)} (hps : params.toList = ps) (hf : evalF tmps f = it) (hi : IterA P Q it ys)
    (I : (Nat → Prop) → List (List CV) → Heap → Prop) (E : (Nat → Prop) → AExit → Heap → Prop) (X : (Nat → Prop) → AV → Heap → Prop)
    (hI : ∀ W ys h h', I W ys h → hp.n ≤ h.n → (∀ i, W i → hp.n + 2 ≤ i) → Foot (fun i => W i ∨ i = hp.n ∨ i = hp.n + 1) h h' → I (grow W h h') ys h') (hE : ∀ W e h h', E W e h → hp.n ≤ h.n → (∀ i, W i → hp.n + 2 ≤ i) → Foot (fun i => W i ∨ i = hp.n ∨ i = hp.n + 1) h h' → E (grow W h h') e h')
    (hX : ∀ W v h h', X W v h → hp.n ≤ h.n → (∀ i, W i → hp.n + 2 ≤ i) → Foot (fun i => W i ∨ i = hp.n ∨ i = hp.n + 1) h h' → X (grow W h h') v h')
    (mI : ∀ W W' ys h, I W ys h → (∀ i, W' i → W i) → I W' ys h) (mE : ∀ W W' e h, E W e h → (∀ i, W' i → W i) → E W' e h) (mX : ∀ W W' v h, X W v h → (∀ i, W' i → W i) → X W' v h)
    (hQ : ∀ W ys h, I W ys h → Q h) (start : I none' ys hp)
    (round : ∀ W y ys h, hp.n + 2 ≤ h.n → (∀ i, W i → hp.n + 2 ≤ i ∧ i < h.n) → I W (y :: ys) h → y.length = ps.length ∧ roundTA P ⟨tmps, ds, p, none, hp⟩ ps assign body I E X W y ys h)
    (done : ∀ h, hp.n + 2 ≤ h.n → Heap.at h hp.n = .coll true → I none' [] h → K .normal ⟨tmps, .coll hp.n :: ds, p, none, h⟩)
    (left : ∀ e h, hp.n + 2 ≤ h.n → Heap.at h hp.n = .coll true → E none' e h → (jumpOf e).isSome = true → K e ⟨tmps, .coll hp.n :: ds, p, none, h⟩)
    (fell : ∀ v h, hp.n + 2 ≤ h.n → Heap.at h hp.n = .coll true → X none' v h → K (.panic v) ⟨tmps, .coll hp.n :: ds, p, none, h⟩) : RangeW P f params assign body ⟨tmps, ds, p, none, hp⟩ K := by
  subst hps
  obtain ⟨g, a, b, htar, hi⟩ := hi
  let s : ASt := ⟨tmps, ds, p, none, hp⟩
  have hev : s.eval f = it := by rw [← hf]; exact (congrFun (evalF_eq tmps ds p none hp) f).symm
  have htarget : targetOf P (s.eval f) [.yield (s.h.n + 1)] = some (g, a ++ [.yield (s.h.n + 1)] ++ b) := by
    rw [hev]; exact htar _
  let J : (Nat → Prop) → List (List CV) → Heap → Prop := fun W ys h => hp.n + 2 ≤ h.n ∧ Heap.at h hp.n = .coll true ∧ Heap.at h (hp.n + 1) = .loop 0 tmps params.toList assign body .ready none hp.n ∧ (∀ i, W i → hp.n + 2 ≤ i) ∧ I W ys h
  let D : (Nat → Prop) → Heap → Prop := fun W h => hp.n + 2 ≤ h.n ∧ Heap.at h hp.n = .coll true ∧ (∀ i, W i → hp.n + 2 ≤ i) ∧ ∃ e c, jumpOf e = some c ∧ Heap.at h (hp.n + 1) = .loop 0 tmps params.toList assign body .done (some c) hp.n ∧ E W e h
  let X' : (Nat → Prop) → AV → Heap → Prop := fun W v h => hp.n + 2 ≤ h.n ∧ Heap.at h hp.n = .coll true ∧ (∀ i, W i → hp.n + 2 ≤ i) ∧ X W v h
  have hgrow : ∀ {W : Nat → Prop} {h h' : Heap}, hp.n + 2 ≤ h.n → (∀ i, W i → hp.n + 2 ≤ i) → ∀ i, grow W h h' i → hp.n + 2 ≤ i := by
    rintro W h h' hn hw i (hi | hi)
    · exact hw i hi
    · omega
  have nw : ∀ {W : Nat → Prop}, (∀ i, W i → hp.n + 2 ≤ i) → ¬ W hp.n ∧ ¬ W (hp.n + 1) := fun hw => ⟨fun x => by have := hw _ x; omega, fun x => by have := hw _ x; omega⟩
  have rounds : RoundsA P (hp.n + 1) (hp.n + 2) J D X' := by
    refine ⟨?_, ?_, ?_, ?_, ?_, ?_, ?_⟩
    · rintro W ys h h' ⟨j1, j2, j3, jw, j4⟩ _ ff
      exact ⟨Nat.le_trans j1 ff.n, (ff.keep _ (by omega) (nw jw).1).trans j2, (ff.keep _ (by omega) (nw jw).2).trans j3, hgrow j1 jw, hI _ _ _ _ j4 (by omega) jw (ff.mono fun i _ hi => .inl hi)⟩
    · rintro W h h' ⟨j1, j2, jw, e, c, j3, j4, j5⟩ _ ff
      exact ⟨Nat.le_trans j1 ff.n, (ff.keep _ (by omega) (nw jw).1).trans j2, hgrow j1 jw, e, c, j3, (ff.keep _ (by omega) (nw jw).2).trans j4, hE _ _ _ _ j5 (by omega) jw (ff.mono fun i _ hi => .inl hi)⟩
    · rintro W v h h' ⟨j1, j2, jw, j3⟩ _ ff
      exact ⟨Nat.le_trans j1 ff.n, (ff.keep _ (by omega) (nw jw).1).trans j2, hgrow j1 jw, hX _ _ _ _ j3 (by omega) jw (ff.mono fun i _ hi => .inl hi)⟩
    · rintro W W' ys h ⟨j1, j2, j3, jw, j4⟩ hw
      exact ⟨j1, j2, j3, fun i hi => jw i (hw i hi), mI _ _ _ _ j4 hw⟩
    · rintro W W' h ⟨j1, j2, jw, e, c, j3, j4, j5⟩ hw
      exact ⟨j1, j2, fun i hi => jw i (hw i hi), e, c, j3, j4, mE _ _ _ _ j5 hw⟩
    · rintro W W' v h ⟨j1, j2, jw, j3⟩ hw
      exact ⟨j1, j2, fun i hi => jw i (hw i hi), mX _ _ _ _ j3 hw⟩
    · rintro W y ys h ⟨j1, j2, j3, jw, j4⟩ _ hwn
      obtain ⟨hl, hr⟩ := round W y ys h j1 hwn j4
      exact (round_okA (s := s) hI hE mI mE jw j1 j2 j3 hl hr).mono (fun b h' k => k) (fun v h' k => k)
  have h0 : (rangeStart s params assign body).h = (hp.push .dead (.coll true)).push .dead (.loop 0 tmps params.toList assign body .ready none hp.n) := rfl
  have f0 : Foot (fun i => none' i ∨ i = hp.n ∨ i = hp.n + 1) hp (rangeStart s params assign body).h := by rw [h0]; exact ((Foot.refl _ _).push _).push _
  have J0 : J none' ys (rangeStart s params assign body).h := by
    refine ⟨by rw [h0]; simp only [push_n]; omega, ?_, ?_, fun i hi => hi.elim, mI _ _ _ _ (hI _ _ _ _ start (Nat.le_refl _) (fun i hi => hi.elim) f0) (fun i hi => hi.elim)⟩
    · rw [h0, at_push_lt _ _ (by rw [push_n]; omega)]; exact at_push_self _ _
    · rw [h0]; exact at_push_self _ _
  obtain ⟨e, h2, hc, hn2, hend⟩ := hi (hp.n + 1) (hp.n + 2) J D X' rounds (fun W ys h j => hQ W ys h j.2.2.2.2) (by omega) _ (by rw [h0]; simp only [push_n]; omega) J0
  have R := ok_range (P := P) (f := f) (params := params) (assign := assign) (body := body) (s := s) rfl htarget hc
  have fin : ∀ x, Foot (fun i => none' i ∨ i = hp.n ∨ i = hp.n + 1) h2 (h2.set .dead (hp.n + 1) x) := fun x => Foot.set (Foot.refl _ _) (.inl (.inr (.inr rfl))) x
  refine ⟨?_⟩
  cases e with
  | panic v =>
    obtain ⟨k1, k2, _, k3⟩ := hend
    exact ⟨_, _, R.1 v rfl, fell v h2 k1 k2 k3⟩
  | ret v =>
    rcases hend with ⟨j1, j2, j3, jw, j4⟩ | ⟨j1, j2, jw, ex, c, j3, j4, j5⟩
    · refine ⟨_, _, (R.2 v _ _ _ _ _ _ _ _ rfl j3 (by simp)).1 rfl, done _ (by rw [TMap.set_n]; exact j1) ?_ (mI _ _ _ _ (hI _ _ _ _ j4 (by omega) jw (fin _)) (fun i hi => hi.elim))⟩
      exact (at_set_ne h2 _ (i := hp.n) (k := hp.n + 1) (by omega)).trans j2
    · have hk := left ex (h2.set .dead (hp.n + 1) (.loop 0 tmps params.toList assign body .exhausted (some c) hp.n)) (by rw [TMap.set_n]; exact j1) (by rw [at_set_ne _ _ (by omega)]; exact j2) (mE _ _ _ _ (hE _ _ _ _ j5 (by omega) jw (fin _)) (fun i hi => hi.elim)) (by rw [j3]; rfl)
      refine ⟨_, _, (R.2 v _ _ _ _ _ _ _ _ rfl j4 (by simp)).2 c _ _ rfl ?_, hk⟩
      cases ex with
      | exit i => simp only [jumpOf, Option.some.injEq] at j3; subst j3; exact ok_exit
      | ret => simp only [jumpOf, Option.some.injEq] at j3; subst j3; exact ok_ret
      | normal => simp [jumpOf] at j3
      | panic v => simp [jumpOf] at j3

/-- A round, where it is known how many blocks there are. -/
noncomputable def roundNA (P : Program) (hm : Bool) (tmps : TMap AV) (N : Nat) (ps : List Tmp) (assign body : Code) (I : (Nat → Prop) → List (List CV) → Heap → Prop) (E : (Nat → Prop) → AExit → Heap → Prop) (X : (Nat → Prop) → AV → Heap → Prop) (W : Nat → Prop) (y : List CV) (ys : List (List CV)) (h : Heap) : Prop :=
  setsK tmps ps y fun tm => wCode P hm assign ⟨tm, [], .no, some (N + 1), h⟩ fun e s1 => match e, s1 with
    | .normal, ⟨t1, [], .no, rd, h1⟩ => Both (Foot (fun _ => False) h h1) (∀ hb, Foot (fun i => i = N + 1) h1 hb → hb.n = h1.n → wCode P hm body ⟨t1, [], .no, rd, hb⟩ (roundEndA N W hb I E X ys))
    | _, _ => False

theorem range_nA {hm : Bool} {f : Operand} {params : Array Tmp} {ps : List Tmp} {assign body : Code} {tmps : TMap AV} {ds : List ADef} {p : Pan} {hp : Heap} {K : AExit → ASt → Prop} {Q : Heap → Prop} {it : AV} {ys : List (List CV)} (N : Nat) (hN : hp.n = N) (hps : params.toList = ps) (hf : evalF tmps f = it) (hi : IterA P Q it ys)
    (I : (Nat → Prop) → List (List CV) → Heap → Prop) (E : (Nat → Prop) → AExit → Heap → Prop) (X : (Nat → Prop) → AV → Heap → Prop)
    (hI : ∀ W ys h h', I W ys h → N ≤ h.n → (∀ i, W i → N + 2 ≤ i) → Foot (fun i => W i ∨ i = N ∨ i = N + 1) h h' → I (grow W h h') ys h') (hE : ∀ W e h h', E W e h → N ≤ h.n → (∀ i, W i → N + 2 ≤ i) → Foot (fun i => W i ∨ i = N ∨ i = N + 1) h h' → E (grow W h h') e h')
    (hX : ∀ W v h h', X W v h → N ≤ h.n → (∀ i, W i → N + 2 ≤ i) → Foot (fun i => W i ∨ i = N ∨ i = N + 1) h h' → X (grow W h h') v h')
    (mI : ∀ W W' ys h, I W ys h → (∀ i, W' i → W i) → I W' ys h) (mE : ∀ W W' e h, E W e h → (∀ i, W' i → W i) → E W' e h) (mX : ∀ W W' v h, X W v h → (∀ i, W' i → W i) → X W' v h)
    (hQ : ∀ W ys h, I W ys h → Q h) (start : I none' ys hp)
    (round : ∀ W y ys h, N + 2 ≤ h.n → (∀ i, W i → N + 2 ≤ i ∧ i < h.n) → I W (y :: ys) h → Both (y.length = ps.length) (roundNA P hm tmps N ps assign body I E X W y ys h))
    (done : ∀ h, N + 2 ≤ h.n → Heap.at h N = .coll true → I none' [] h → K .normal ⟨tmps, .coll N :: ds, p, none, h⟩)
    (left : ∀ e h, N + 2 ≤ h.n → Heap.at h N = .coll true → E none' e h → (jumpOf e).isSome = true → K e ⟨tmps, .coll N :: ds, p, none, h⟩)
    (fell : ∀ v h, N + 2 ≤ h.n → Heap.at h N = .coll true → X none' v h → K (.panic v) ⟨tmps, .coll N :: ds, p, none, h⟩) : RangeW P f params assign body ⟨tmps, ds, p, none, hp⟩ K := by
  subst hN
  refine range_byA hps hf hi I E X hI hE hX mI mE mX hQ start ?_ done left fell
  intro W y ys h hn hw hy
  obtain ⟨hl, hr⟩ := round W y ys h hn hw hy
  unfold roundNA at hr
  rw [setsK_eq] at hr
  refine ⟨hl, (wCode_ok assign _ _ hr).mono ?_⟩
  intro e s1 hk
  obtain ⟨t1, ds1, p1, rd1, h1⟩ := s1
  cases e with
  | normal =>
    cases ds1 with
    | nil =>
      cases p1 with
      | no =>
        obtain ⟨hh, hk⟩ := hk
        exact ⟨hh, wCode_ok body _ _ (hk _ (Foot.set (W := fun i => i = hp.n + 1) (k := hp.n + 1) (Foot.refl _ _) (.inl rfl) _) rfl)⟩
      | live v => exact hk
      | taken => exact hk
    | cons a l => exact hk
  | exit i => exact hk
  | ret => exact hk
  | panic v => exact hk
end
end Go.Ag
