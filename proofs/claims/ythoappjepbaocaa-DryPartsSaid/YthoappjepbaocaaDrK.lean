/- The law DryParts returns true for arguments that are not far too long. No conditions. -/
import Derived.Test.YthoappjepbaocaaDrI
/- Layer 2: a drove without the sheep of a mob in a pen. -/
namespace Go.Ag
open Go.Proofs
set_option maxRecDepth 100000

def lessD (d : Dr) (k j : Nat) (n : Int) : Dr := setM (setP d k ⟨putF (penAt d k).fr j 0, max 0 ((penAt d k).lo - n), (penAt d k).hi - n⟩) j ⟨max 0 ((mobAt d j).lo - n), (mobAt d j).hi - n, (mobAt d j).left⟩
/-- Where nothing is asked that is less than nothing. -/
def up (g : Fl) (k j : Nat) : Fl := { setPen g k ⟨(penF g k).fr, max 0 (penF g k).lo, (penF g k).hi⟩ with least := putF g.least j (max 0 (g.least j)) }

theorem fl_ext {f g : Fl} (h1 : f.mobs = g.mobs) (h2 : f.least = g.least) (h3 : f.most = g.most) (h4 : f.left = g.left) (h5 : f.pens = g.pens) : f = g := by
  cases f; cases g; simp only at h1 h2 h3 h4 h5; subst h1 h2 h3 h4 h5; rfl
theorem put_put (g : Nat → Int) (j : Nat) (a b : Int) : putF (putF g j a) j b = putF g j b := by
  funext i; simp only [putF]; split <;> rfl
theorem put_at (g : Nat → Int) (j : Nat) (a : Int) : putF g j a j = a := by simp [putF]

theorem flock_less {d : Dr} {k j : Nat} (hk : k < d.pens.length) (hj : j < d.mobs.length) (n : Int) : flockF (lessD d k j n) = up (partFl (flockF d) k j n) k j := by
  have hl : (lessD d k j n).mobs.length = d.mobs.length := setM_len _ _ _
  have ha : ∀ i, mobAt (lessD d k j n) i = if i = j then ⟨max 0 ((mobAt d j).lo - n), (mobAt d j).hi - n, (mobAt d j).left⟩ else mobAt d i := fun i => setM_at (d := setP d k _) hj _ i
  have hfl : k < (flockF d).pens.length := by simpa [flockF] using hk
  have ep : penF (partFl (flockF d) k j n) k = lessPn (penF (flockF d) k) j n := by
    unfold partFl
    rw [set_pen (f := lessFl (flockF d) j n) hfl, if_pos rfl]
  have e0 : (flockF d).least j = (mobAt d j).lo := by simp [flockF, cutF, hj]
  refine fl_ext hl ?_ ?_ ?_ ?_
  · funext i
    show cutF (lessD d k j n).mobs.length (fun i => (mobAt (lessD d k j n) i).lo) i = putF (putF (flockF d).least j ((flockF d).least j - n)) j (max 0 (putF (flockF d).least j ((flockF d).least j - n) j)) i
    rw [hl, put_put, put_at, e0]
    simp only [cutF, ha, putF, flockF]
    by_cases h : i = j
    · subst h; simp [hj]
    · simp [h]
  · funext i
    show cutF (lessD d k j n).mobs.length (fun i => (mobAt (lessD d k j n) i).hi) i = putF (flockF d).most j ((flockF d).most j - n) i
    rw [hl]
    simp only [cutF, ha, putF, flockF]
    by_cases h : i = j
    · subst h; simp [hj]
    · simp [h]
  · funext i
    show cutF (lessD d k j n).mobs.length (fun i => (mobAt (lessD d k j n) i).left) i = cutF d.mobs.length (fun i => (mobAt d i).left) i
    rw [hl]
    simp only [cutF, ha]
    by_cases h : i = j
    · subst h; simp [hj]
    · simp [h]
  · show (d.pens.set k ⟨putF (penAt d k).fr j 0, max 0 ((penAt d k).lo - n), (penAt d k).hi - n⟩).map (cutPen (lessD d k j n).mobs.length) = ((flockF d).pens.set k (lessPn (penF (flockF d) k) j n)).set k ⟨(penF (partFl (flockF d) k j n) k).fr, max 0 (penF (partFl (flockF d) k j n) k).lo, (penF (partFl (flockF d) k j n) k).hi⟩
    rw [hl, ep, List.set_set, List.map_set]
    have : cutPen d.mobs.length ⟨putF (penAt d k).fr j 0, max 0 ((penAt d k).lo - n), (penAt d k).hi - n⟩ = ⟨(lessPn (penF (flockF d) k) j n).fr, max 0 (lessPn (penF (flockF d) k) j n).lo, (lessPn (penF (flockF d) k) j n).hi⟩ := by
      rw [penF_flock hk]
      have : cutF d.mobs.length (putF (penAt d k).fr j 0) = putF (cutF d.mobs.length (penAt d k).fr) j 0 := by
        funext i
        simp only [cutF, putF]
        by_cases h : i = j
        · subst h; simp
        · simp [h]
      simp only [cutPen, lessPn, this]
    rw [this]
    rfl

theorem up_pens (g : Fl) (k j : Nat) : (up g k j).pens.length = g.pens.length := by simp [up, setPen]
theorem up_room {g : Fl} {k : Nat} (hk : k < g.pens.length) (j s : Nat) : roomF (up g k j) s = roomF g s := by
  have e1 := room_set hk ⟨(penF g k).fr, max 0 (penF g k).lo, (penF g k).hi⟩ s
  have e2 := room_set hk (penF g k) s
  rw [set_same hk] at e2
  have e3 : roomF (up g k j) s = roomF (setPen g k ⟨(penF g k).fr, max 0 (penF g k).lo, (penF g k).hi⟩) s := rfl
  rw [e3, e1, e2]
theorem up_need {g : Fl} {k : Nat} (hk : k < g.pens.length) (hf : ∀ i, 0 ≤ (penF g k).fr i) (j s : Nat) : needF (up g k j) s = needF g s := by
  have e1 := need_set hk ⟨(penF g k).fr, max 0 (penF g k).lo, (penF g k).hi⟩ s
  have e2 := need_set hk (penF g k) s
  rw [set_same hk] at e2
  have e3 : needF (up g k j) s = needF (setPen g k ⟨(penF g k).fr, max 0 (penF g k).lo, (penF g k).hi⟩) s := rfl
  have := among_nonneg hf (othersOf g.mobs s)
  rw [e3, e1, e2]
  dsimp only
  omega
theorem room_mono {g : Fl} (hl : ∀ i, 0 ≤ g.left i) (hf : ∀ k i, 0 ≤ (penF g k).fr i) (s j : Nat) : roomF g (sub s (2 ^ j)) ≤ roomF g s := by
  have am : ∀ {x : Nat → Int}, (∀ i, 0 ≤ x i) → among x (sub s (2 ^ j)) ≤ among x s := by
    intro x hx
    have := among_parts x s (2 ^ j)
    have := among_nonneg hx (s &&& 2 ^ j)
    omega
  unfold roomF
  have : ∀ n, sumTo (fun k => min (penF g k).hi (among (penF g k).fr (sub s (2 ^ j)))) n ≤ sumTo (fun k => min (penF g k).hi (among (penF g k).fr s)) n := by
    intro n
    induction n with
    | zero => exact Int.le_refl _
    | succ n ih => have := am (hf n); simp only [sumTo]; omega
  have := this g.pens.length
  have := am hl
  omega
theorem up_pos {g : Fl} {k j : Nat} (hk : k < g.pens.length) (hj : j < 4) (hl : ∀ i, 0 ≤ g.left i) (hf : ∀ k i, 0 ≤ (penF g k).fr i) : possibleF (up g k j) = possibleF g := by
  have em : (up g k j).mobs = g.mobs := rfl
  have eo : (up g k j).most = g.most := rfl
  rw [Bool.eq_iff_iff, possible_iff, possible_iff, em, eo]
  have el : ∀ s, among (up g k j).least s = among g.least s + (if s.testBit j then max 0 (g.least j) - g.least j else 0) := fun s => among_put hj _ s
  constructor
  · intro h s hs
    have h1 := h s hs
    rw [up_room hk, up_need hk (hf k), el] at h1
    refine ⟨?_, h1.2⟩
    split at h1 <;> omega
  · intro h s hs
    have h1 := h s hs
    rw [up_room hk, up_need hk (hf k), el]
    refine ⟨?_, h1.2⟩
    cases hb : s.testBit j
    · simp; exact h1.1
    · have hs' : sub s (2 ^ j) < 2 ^ g.mobs := by
        unfold sub
        exact Nat.xor_lt_two_pow hs (Nat.lt_of_le_of_lt Nat.and_le_left hs)
      have h2 := (h _ hs').1
      have h3 := room_mono hl hf s j
      have h4 := among_parts g.least s (2 ^ j)
      have h5 : s &&& 2 ^ j = 2 ^ j := by
        apply Nat.eq_of_testBit_eq
        intro i
        rw [Nat.testBit_and, Nat.testBit_two_pow]
        by_cases hi : j = i
        · subst hi; simp [hb]
        · simp [hi]
      rw [h5, among_one _ hj] at h4
      simp only [if_true]
      omega

/-! What is possible of the rest tells what is of the mob and of the pen. -/
theorem mob_up {g : Fl} {k j : Nat} (hk : k < g.pens.length) (hf : ∀ i, 0 ≤ (penF g k).fr i) (y : Int) : possibleF (mobFl (up g k j) j y) = possibleF (mobFl g j y) := by
  have e1 : (mobFl (up g k j) j y).least = (mobFl g j y).least := by show putF (putF g.least j _) j y = putF g.least j y; exact put_put _ _ _ _
  have e2 : ∀ s, roomF (mobFl (up g k j) j y) s = roomF (mobFl g j y) s := fun s => up_room hk j s
  have e3 : ∀ s, needF (mobFl (up g k j) j y) s = needF (mobFl g j y) s := fun s => up_need hk hf j s
  have e4 : (mobFl (up g k j) j y).most = (mobFl g j y).most := rfl
  have e5 : (mobFl (up g k j) j y).mobs = (mobFl g j y).mobs := rfl
  rw [Bool.eq_iff_iff, possible_iff, possible_iff, e1, e4, e5]
  simp only [e2, e3]
theorem pen_up {g : Fl} {k j : Nat} (hk : k < g.pens.length) (hj : j < 4) (y : Int) (h : possibleF (penFl (up g k j) k y) = true) : possibleF (penFl g k y) = true := by
  have ep : penF (up g k j) k = ⟨(penF g k).fr, max 0 (penF g k).lo, (penF g k).hi⟩ := by
    show penF (setPen g k _) k = _
    rw [set_pen hk, if_pos rfl]
  have e1 : (penFl (up g k j) k y).pens = (penFl g k y).pens := by
    show (g.pens.set k _).set k (fixPen (penF (up g k j) k) y) = g.pens.set k (fixPen (penF g k) y)
    rw [List.set_set, ep]; rfl
  have e2 : ∀ s, roomF (penFl (up g k j) k y) s = roomF (penFl g k y) s := fun s => by unfold roomF penF; rw [e1]; rfl
  have e3 : ∀ s, needF (penFl (up g k j) k y) s = needF (penFl g k y) s := fun s => by unfold needF penF; rw [e1]; rfl
  rw [possible_iff] at h ⊢
  intro s hs
  have h1 := h s hs
  rw [e2, e3] at h1
  refine ⟨?_, h1.2⟩
  have el : among (penFl (up g k j) k y).least s = among g.least s + (if s.testBit j then max 0 (g.least j) - g.least j else 0) := among_put hj _ s
  have : among (penFl g k y).least s = among g.least s := rfl
  rw [this]
  rw [el] at h1
  split at h1 <;> omega

theorem part_mob (f : Fl) (k j : Nat) (n y : Int) : partFl (mobFl f j (y + n)) k j n = mobFl (partFl f k j n) j y := by
  refine fl_ext rfl ?_ ?_ rfl rfl
  · show putF (putF f.least j (y + n)) j (putF f.least j (y + n) j - n) = putF (putF f.least j _) j y
    rw [put_put, put_put, put_at]
    congr 1; omega
  · show putF (putF f.most j (y + n)) j (putF f.most j (y + n) j - n) = putF (putF f.most j _) j y
    rw [put_put, put_put, put_at]
    congr 1; omega
theorem part_pen {f : Fl} {k : Nat} (hk : k < f.pens.length) (j : Nat) (n y : Int) : partFl (penFl f k (y + n)) k j n = penFl (partFl f k j n) k y := by
  have e1 : penF (penFl f k (y + n)) k = fixPen (penF f k) (y + n) := by
    unfold penFl; rw [set_pen hk, if_pos rfl]
  have e2 : penF (partFl f k j n) k = lessPn (penF f k) j n := by
    unfold partFl; rw [set_pen (f := lessFl f j n) hk, if_pos rfl]
  refine fl_ext rfl rfl rfl rfl ?_
  show (f.pens.set k (fixPen (penF f k) (y + n))).set k (lessPn (penF (penFl f k (y + n)) k) j n) = (f.pens.set k (lessPn (penF f k) j n)).set k (fixPen (penF (partFl f k j n) k) y)
  rw [List.set_set, List.set_set, e1, e2]
  have : y + n - n = y := by omega
  simp only [lessPn, fixPen, this]

/-! Whether the rest is valid. -/
theorem sum_less {g h : Nat → Int} {k n : Nat} {c : Int} (hk : k < n) (hg : ∀ i, g i = if i = k then h i - c else h i) : sumTo g n = sumTo h n - c := by
  have := sum_one (g := g) (h := h) (k := k) (fun i hi => by rw [hg, if_neg hi]) n
  rw [this, if_pos hk, hg, if_pos rfl]
  omega
theorem less_fr {d : Dr} {k : Nat} (hk : k < d.pens.length) (j : Nat) (n : Int) (i : Nat) : (penAt (lessD d k j n) i).fr = if i = k then putF (penAt d k).fr j 0 else (penAt d i).fr := by
  have : penAt (lessD d k j n) i = penAt (setP d k ⟨putF (penAt d k).fr j 0, max 0 ((penAt d k).lo - n), (penAt d k).hi - n⟩) i := rfl
  rw [this, setP_at hk]
  split <;> rfl
theorem less_sheep {d : Dr} {k j : Nat} (hk : k < d.pens.length) (hj : j < d.mobs.length) (n : Int) (i : Nat) : sheepF (lessD d k j n) i = if i = j then sheepF d j - (penAt d k).fr j else sheepF d i := by
  have ha : mobAt (lessD d k j n) i = if i = j then ⟨max 0 ((mobAt d j).lo - n), (mobAt d j).hi - n, (mobAt d j).left⟩ else mobAt d i := setM_at (d := setP d k _) hj _ i
  have hpl : (lessD d k j n).pens.length = d.pens.length := setP_len d k _
  unfold sheepF
  rw [ha, hpl]
  by_cases h : i = j
  · subst h
    rw [if_pos rfl, if_pos rfl]
    have := sum_less (g := fun q => (penAt (lessD d k i n) q).fr i) (h := fun q => (penAt d q).fr i) (c := (penAt d k).fr i) hk (fun q => by
      rw [less_fr hk]
      by_cases hq : q = k
      · subst hq; rw [if_pos rfl, if_pos rfl, put_at]; omega
      · rw [if_neg hq, if_neg hq])
    dsimp only at this ⊢
    rw [this]
    omega
  · rw [if_neg h, if_neg h]
    congr 1
    refine sumTo_congr _ fun q _ => ?_
    rw [less_fr hk]
    by_cases hq : q = k
    · subst hq; rw [if_pos rfl]; simp [putF, h]
    · rw [if_neg hq]
theorem valid_less {d : Dr} (h : validB d = true) {k j : Nat} (hk : k < d.pens.length) (hj : j < d.mobs.length) {n : Int} (h0 : 0 ≤ n) (h1 : n ≤ (penAt d k).hi) (h2 : n ≤ (mobAt d j).hi) : validB (lessD d k j n) = decide (max 0 ((mobAt d j).lo - n) ≤ sheepF d j - (penAt d k).fr j) := by
  obtain ⟨k1, k2, k3⟩ := (valid_iff d).1 h
  have ha : ∀ i, mobAt (lessD d k j n) i = if i = j then ⟨max 0 ((mobAt d j).lo - n), (mobAt d j).hi - n, (mobAt d j).left⟩ else mobAt d i := fun i => setM_at (d := setP d k _) hj _ i
  have hpl : (lessD d k j n).pens.length = d.pens.length := setP_len d k _
  have hml : (lessD d k j n).mobs.length = d.mobs.length := setM_len _ _ _
  have hp : ∀ i, penAt (lessD d k j n) i = if i = k then ⟨putF (penAt d k).fr j 0, max 0 ((penAt d k).lo - n), (penAt d k).hi - n⟩ else penAt d i := fun i => setP_at hk _ i
  have vj := k3 j hj
  have vk := k2 k hk
  rw [Bool.eq_iff_iff, valid_iff]
  simp only [decide_eq_true_eq]
  rw [hpl, hml]
  constructor
  · rintro ⟨_, _, h3⟩
    have := (h3 j hj).2.2.2.2.2
    rw [ha, if_pos rfl, less_sheep hk hj, if_pos rfl] at this
    exact this
  · intro h3
    refine ⟨k1, fun i hi => ?_, fun i hi => ?_⟩
    · rw [hp]
      by_cases he : i = k
      · rw [if_pos he]
        refine ⟨by show 0 ≤ max 0 _; omega, by show max 0 _ ≤ _ - _; omega, by show _ - _ ≤ (36 : Int); omega, fun q hq => ?_⟩
        show 0 ≤ putF (penAt d k).fr j 0 q ∧ putF (penAt d k).fr j 0 q ≤ 9
        simp only [putF]
        split
        · omega
        · exact vk.2.2.2 q hq
      · rw [if_neg he]; exact k2 i hi
    · rw [ha, less_sheep hk hj]
      by_cases he : i = j
      · rw [if_pos he, if_pos he]
        refine ⟨vj.1, vj.2.1, by show 0 ≤ max 0 _; omega, by show max 0 _ ≤ _ - _; omega, by show _ - _ ≤ (54 : Int); omega, h3⟩
      · rw [if_neg he, if_neg he]; exact k3 i hi

theorem need_nonneg (f : Fl) (s : Nat) : 0 ≤ needF f s := by
  have : ∀ n, 0 ≤ sumTo (fun k => max 0 ((penF f k).lo - among (penF f k).fr (othersOf f.mobs s))) n := by
    intro n
    induction n with
    | zero => exact Int.le_refl _
    | succ n ih => simp only [sumTo]; omega
  exact this f.pens.length
theorem room_le (f : Fl) {j : Nat} (hj : j < 4) : roomF f (2 ^ j) ≤ f.left j + sumTo (fun k => (penF f k).fr j) f.pens.length := by
  unfold roomF
  rw [among_one _ hj]
  have : ∀ n, sumTo (fun k => min (penF f k).hi (among (penF f k).fr (2 ^ j))) n ≤ sumTo (fun k => (penF f k).fr j) n := by
    intro n
    induction n with
    | zero => exact Int.le_refl _
    | succ n ih => have := among_one (penF f n).fr hj; simp only [sumTo]; omega
  have := this f.pens.length
  omega
theorem fr_flock {d : Dr} (h : validB d = true) (k : Nat) (i : Nat) : 0 ≤ (penF (flockF d) k).fr i := (flock_good h).1.fr k i
theorem part_hi {d : Dr} (h : validB d = true) {k j : Nat} (hk : k < d.pens.length) (hj : j < d.mobs.length) {n : Int} (hp : possibleF (partFl (flockF d) k j n) = true) : n ≤ (penAt d k).hi ∧ n ≤ (mobAt d j).hi ∧ max 0 ((mobAt d j).lo - n) ≤ sheepF d j - (penAt d k).fr j := by
  obtain ⟨s1, s2, s3, s4, _⟩ := valid_sizes h
  obtain ⟨hg, hlm⟩ := flock_good h
  have hfl : (flockF d).pens.length = d.pens.length := by simp [flockF]
  have hk' : k < (flockF d).pens.length := by omega
  have hj4 : j < 4 := by omega
  have hp := possible_iff.1 hp
  have ehi : (penF (flockF d) k).hi = (penAt d k).hi := by rw [penF_flock hk]; rfl
  have efr : (penF (flockF d) k).fr j = (penAt d k).fr j := by rw [penF_flock hk]; simp [cutPen, cutF, hj]
  have elo : (flockF d).least j = (mobAt d j).lo := by simp [flockF, cutF, hj]
  have emo : (flockF d).most j = (mobAt d j).hi := by simp [flockF, cutF, hj]
  have eml : (partFl (flockF d) k j n).mobs = d.mobs.length := rfl
  refine ⟨?_, ?_, ?_⟩
  · obtain ⟨c1, c2, c3, c4⟩ := part_cuts hg hk' hj n (s := 0) (Nat.two_pow_pos _)
    have h0 := hp 0 (Nat.two_pow_pos _)
    rw [c1, c3] at h0
    have z : ∀ g : Nat → Int, among g 0 = 0 := fun g => by rw [among_eq]; simp
    have zr : roomF (setPen (flockF d) k zeroP) 0 ≤ 0 := by
      unfold roomF
      rw [z]
      have : ∀ q, sumTo (fun i => min (penF (setPen (flockF d) k zeroP) i).hi (among (penF (setPen (flockF d) k zeroP) i).fr 0)) q ≤ 0 := by
        intro q
        induction q with
        | zero => exact Int.le_refl _
        | succ q ih =>
          have := z (penF (setPen (flockF d) k zeroP) q).fr
          simp only [sumTo]; omega
      have := this (setPen (flockF d) k zeroP).pens.length
      omega
    have z1 := z (flockF d).least
    have z2 := z (penF (flockF d) k).fr
    rw [Nat.zero_testBit] at h0
    simp only [Bool.false_eq_true, if_false] at h0
    omega
  · obtain ⟨c1, c2, c3, c4⟩ := part_cuts hg hk' hj n (s := 2 ^ j) (Nat.pow_lt_pow_right (by omega) hj)
    have h0 := (hp (2 ^ j) (Nat.pow_lt_pow_right (by omega) hj)).2
    have := need_nonneg (partFl (flockF d) k j n) (2 ^ j)
    rw [c2, among_one _ hj4, Nat.testBit_two_pow_self] at h0
    simp only [if_true] at h0
    omega
  · have h0 := (hp (2 ^ j) (Nat.pow_lt_pow_right (by omega) hj)).1
    obtain ⟨c1, _⟩ := part_cuts hg hk' hj n (s := 2 ^ j) (Nat.pow_lt_pow_right (by omega) hj)
    have h1 := room_le (partFl (flockF d) k j n) hj4
    rw [c1, among_one _ hj4, Nat.testBit_two_pow_self] at h0
    simp only [if_true] at h0
    have el : (partFl (flockF d) k j n).left j = (mobAt d j).left := by show (flockF d).left j = _; simp [flockF, cutF, hj]
    have epl : (partFl (flockF d) k j n).pens.length = d.pens.length := by simp [partFl, setPen, lessFl, flockF]
    have esum : sumTo (fun q => (penF (partFl (flockF d) k j n) q).fr j) d.pens.length = sumTo (fun q => (penAt d q).fr j) d.pens.length - (penAt d k).fr j := by
      have e1 : ∀ q, q < d.pens.length → (penF (partFl (flockF d) k j n) q).fr j = if q = k then (penAt d q).fr j - (penAt d k).fr j else (penAt d q).fr j := by
        intro q hq
        unfold partFl
        rw [set_pen (f := lessFl (flockF d) j n) hk']
        by_cases he : q = k
        · subst he
          rw [if_pos rfl, if_pos rfl]
          simp [lessPn, putF]
        · rw [if_neg he, if_neg he]
          show (penF (flockF d) q).fr j = _
          rw [penF_flock hq]; simp [cutPen, cutF, hj]
      rw [sumTo_congr _ e1]
      exact sum_less hk (fun q => rfl)
    rw [el, epl, esum] at h1
    have hs : sheepF d j = (mobAt d j).left + sumTo (fun q => (penAt d q).fr j) d.pens.length := rfl
    have hge : (penAt d k).fr j ≤ sumTo (fun q => (penAt d q).fr j) d.pens.length := by
      have key : ∀ q, q ≤ d.pens.length → 0 ≤ sumTo (fun q => (penAt d q).fr j) q ∧ (k < q → (penAt d k).fr j ≤ sumTo (fun q => (penAt d q).fr j) q) := by
        intro q
        induction q with
        | zero => intro _; exact ⟨Int.le_refl _, by omega⟩
        | succ q ih =>
          intro hq
          have := ih (by omega)
          have v := ((valid_pen h (k := q) (by omega)).2.2.2 j hj).1
          simp only [sumTo]
          refine ⟨by omega, fun hk2 => ?_⟩
          rcases Nat.lt_or_ge k q with h2 | h2
          · have := this.2 h2; omega
          · have : k = q := by omega
            subst this; omega
      exact (key _ (Nat.le_refl _)).2 hk
    have v := valid_mob h hj
    omega

theorem part_can {d : Dr} (h : validB d = true) (hp : possibleF (flockF d) = true) {k j : Nat} (hk : k < d.pens.length) (hj : j < d.mobs.length) : ∃ a b, partR d j k = ((a, b), 0) ∧ a ≤ b ∧ 0 ≤ a ∧ b ≤ (penAt d k).fr j ∧
    (∀ n, 0 ≤ n → n ≤ (penAt d k).fr j → ((a ≤ n ∧ n ≤ b) ↔ possibleF (partFl (flockF d) k j n) = true)) ∧ b ≤ (mobR d j).1.2 ∧ b ≤ (penR d k).1.2 := by
  obtain ⟨s1, s2, s3, s4, _⟩ := valid_sizes h
  obtain ⟨hg, hlm⟩ := flock_good h
  have hfl : (flockF d).pens.length = d.pens.length := by simp [flockF]
  have hk' : k < (flockF d).pens.length := by omega
  have hj4 : j < 4 := by omega
  have efr : (penF (flockF d) k).fr j = (penAt d k).fr j := by rw [penF_flock hk]; simp [cutPen, cutF, hj]
  obtain ⟨n0, i1, i2, i3⟩ := part_some hg (fun s => among_mono hlm s) hk' (j := j) hj hp
  obtain ⟨a, b, hs, hab, hla, hbh, ha, hb, hall⟩ := spanBy_some (lo := (0 : Int)) (hi := (penF (flockF d) k).fr j) (p := fun n => possibleF (partFl (flockF d) k j n)) ⟨n0, i1, i2, i3⟩
  rw [efr] at hbh
  obtain ⟨b1, b2, b3⟩ := part_hi h hk hj hb
  have hvl : validB (lessD d k j b) = true := by
    rw [valid_less h hk hj (by omega) b1 b2]
    simpa using b3
  have eX := flock_less hk hj b
  have hG0 : ∀ q i, 0 ≤ (penF (partFl (flockF d) k j b) q).fr i := by
    intro q i
    unfold partFl
    rw [set_pen (f := lessFl (flockF d) j b) hk']
    split
    · show 0 ≤ putF (penF (flockF d) k).fr j 0 i
      simp only [putF]
      split
      · omega
      · exact hg.fr k i
    · exact hg.fr q i
  have hGk : k < (partFl (flockF d) k j b).pens.length := by simpa [partFl, setPen, lessFl, flockF] using hk
  have hX : possibleF (flockF (lessD d k j b)) = true := by
    rw [eX, up_pos hGk hj4 hg.left hG0]
    exact hb
  obtain ⟨gX, lX⟩ := flock_good hvl
  have hml : (lessD d k j b).mobs.length = d.mobs.length := setM_len _ _ _
  have hmob : ∃ y, 0 ≤ y ∧ b + y ≤ (mobR d j).1.2 := by
    obtain ⟨a', b', xm, mab, ma0, mb54, mbs, mall⟩ := mob_can h hp hj
    obtain ⟨y, y1, y2, y3⟩ := mob_some gX lX (k := j) (by show j < (lessD d k j b).mobs.length; rw [hml]; exact hj) hX
    rw [eX, mob_up hGk (hG0 k), ← part_mob] at y3
    have y4 := part_only (f := mobFl (flockF d) j (y + b)) ⟨hg.mobs, hg.left, hg.fr, hg.out, hg.span⟩ hk' hj (by omega) (by show b ≤ (penF (flockF d) k).fr j; rw [efr]; exact hbh) y3
    have e1 : (flockF (lessD d k j b)).least j = max 0 ((mobAt d j).lo - b) := by
      have : mobAt (lessD d k j b) j = ⟨max 0 ((mobAt d j).lo - b), (mobAt d j).hi - b, (mobAt d j).left⟩ := by
        have := setM_at (d := setP d k ⟨putF (penAt d k).fr j 0, max 0 ((penAt d k).lo - b), (penAt d k).hi - b⟩) (j := j) hj ⟨max 0 ((mobAt d j).lo - b), (mobAt d j).hi - b, (mobAt d j).left⟩ j
        rw [if_pos rfl] at this; exact this
      show cutF (lessD d k j b).mobs.length (fun i => (mobAt (lessD d k j b) i).lo) j = _
      rw [hml]; simp [cutF, hj, this]
    have e2 : (flockF (lessD d k j b)).most j = (mobAt d j).hi - b := by
      have : mobAt (lessD d k j b) j = ⟨max 0 ((mobAt d j).lo - b), (mobAt d j).hi - b, (mobAt d j).left⟩ := by
        have := setM_at (d := setP d k ⟨putF (penAt d k).fr j 0, max 0 ((penAt d k).lo - b), (penAt d k).hi - b⟩) (j := j) hj ⟨max 0 ((mobAt d j).lo - b), (mobAt d j).hi - b, (mobAt d j).left⟩ j
        rw [if_pos rfl] at this; exact this
      show cutF (lessD d k j b).mobs.length (fun i => (mobAt (lessD d k j b) i).hi) j = _
      rw [hml]; simp [cutF, hj, this]
    rw [e1] at y1
    rw [e2] at y2
    have := (mall (y + b)).2 ⟨y4, by omega, by omega⟩
    refine ⟨y, by omega, ?_⟩
    rw [xm]; dsimp only; omega
  have hpen : ∃ y, 0 ≤ y ∧ b + y ≤ (penR d k).1.2 := by
    obtain ⟨a', b', xp, pab, pa0, pb36, pall⟩ := pen_can h hp hk
    have hpl : (flockF (lessD d k j b)).pens.length = d.pens.length := by simp [flockF, lessD, setM, setP]
    obtain ⟨y, y1, y2, y3⟩ := pen_some gX (fun s => among_mono lX s) (k := k) (by omega) hX
    have e0 : penF (flockF (lessD d k j b)) k = cutPen (lessD d k j b).mobs.length ⟨putF (penAt d k).fr j 0, max 0 ((penAt d k).lo - b), (penAt d k).hi - b⟩ := by
      have := penF_flock (d := lessD d k j b) (k := k) (by show k < (setP d k _).pens.length; rw [setP_len]; exact hk)
      rw [this]
      have := setP_at hk ⟨putF (penAt d k).fr j 0, max 0 ((penAt d k).lo - b), (penAt d k).hi - b⟩ k
      rw [if_pos rfl] at this
      rw [show penAt (lessD d k j b) k = penAt (setP d k ⟨putF (penAt d k).fr j 0, max 0 ((penAt d k).lo - b), (penAt d k).hi - b⟩) k from rfl, this]
    have e1 : (penF (flockF (lessD d k j b)) k).lo = max 0 ((penAt d k).lo - b) := by rw [e0]; rfl
    have e2 : (penF (flockF (lessD d k j b)) k).hi = (penAt d k).hi - b := by rw [e0]; rfl
    rw [eX] at y3
    have y3 := pen_up hGk hj4 y y3
    rw [← part_pen hk'] at y3
    have hk2 : k < (penFl (flockF d) k (y + b)).pens.length := by simpa [penFl, setPen] using hk'
    have ep : ∀ q, penF (penFl (flockF d) k (y + b)) q = if q = k then fixPen (penF (flockF d) k) (y + b) else penF (flockF d) q := fun q => by unfold penFl; exact set_pen hk' _ q
    have y4 := part_only (f := penFl (flockF d) k (y + b)) ⟨hg.mobs, hg.left, fun q i => by rw [ep]; split; exact hg.fr k i; exact hg.fr q i, fun q i hi => by rw [ep]; split; exact hg.out k i hi; exact hg.out q i hi, fun q => by rw [ep]; split; exact Int.le_refl _; exact hg.span q⟩ hk2 hj (by omega)
      (by rw [ep, if_pos rfl]; show b ≤ (penF (flockF d) k).fr j; rw [efr]; exact hbh) y3
    rw [e1] at y1
    rw [e2] at y2
    have v := valid_pen h hk
    have := (pall (y + b) (by omega) (by omega)).2 ⟨y4, by omega, by omega⟩
    refine ⟨y, by omega, ?_⟩
    rw [xp]; dsimp only; omega
  obtain ⟨y1, z1, z2⟩ := hmob
  obtain ⟨y2, z3, z4⟩ := hpen
  refine ⟨a, b, ?_, hab, hla, hbh, fun n h1 h2 => ⟨fun hn => part_between hg hk' hj hn.1 hn.2 ha hb, fun hn => hall n h1 (by rw [efr]; exact h2) hn⟩, by omega, by omega⟩
  unfold partR
  have hin1 : inB (j : Int) 0 ((d.mobs.length : Int) - 1) = true := by simp only [inB, Bool.and_eq_true, decide_eq_true_eq]; omega
  have hin2 : inB (k : Int) 0 ((d.pens.length : Int) - 1) = true := by simp only [inB, Bool.and_eq_true, decide_eq_true_eq]; omega
  rw [h, hin1, hin2]
  have : spanPart (flockF d) (k : Int).toNat (j : Int).toNat = some (a, b) := hs
  simp only [Bool.true_eq_false, if_false, this]
theorem part_fail {d : Dr} (h : validB d = true) (hp : possibleF (flockF d) = false) {k j : Nat} (hk : k < d.pens.length) (hj : j < d.mobs.length) : partR d j k = ((0, 0), 10) := by
  obtain ⟨hg, hlm⟩ := flock_good h
  have hfl : (flockF d).pens.length = d.pens.length := by simp [flockF]
  have hin1 : inB (j : Int) 0 ((d.mobs.length : Int) - 1) = true := by simp only [inB, Bool.and_eq_true, decide_eq_true_eq]; omega
  have hin2 : inB (k : Int) 0 ((d.pens.length : Int) - 1) = true := by simp only [inB, Bool.and_eq_true, decide_eq_true_eq]; omega
  have : spanPart (flockF d) (k : Int).toNat (j : Int).toNat = none := (part_span hg (fun s => among_mono hlm s) (k := k) (by omega) (j := j) hj).1 hp
  unfold partR
  rw [h, hin1, hin2]
  simp only [Bool.true_eq_false, if_false, this]
/-- Whether the rest clashes. -/
theorem less_clash {d : Dr} (h : validB d = true) {k j : Nat} (hk : k < d.pens.length) (hj : j < d.mobs.length) {n : Int} (h0 : 0 ≤ n) (hv : validB (lessD d k j n) = true) : possibleF (flockF (lessD d k j n)) = possibleF (partFl (flockF d) k j n) := by
  obtain ⟨s1, s2, s3, s4, _⟩ := valid_sizes h
  obtain ⟨hg, hlm⟩ := flock_good h
  have hfl : (flockF d).pens.length = d.pens.length := by simp [flockF]
  have hk' : k < (flockF d).pens.length := by omega
  rw [flock_less hk hj]
  refine up_pos (by simpa [partFl, setPen, lessFl, flockF] using hk) (by omega) hg.left fun q i => ?_
  unfold partFl
  rw [set_pen (f := lessFl (flockF d) j n) hk']
  split
  · show 0 ≤ putF (penF (flockF d) k).fr j 0 i
    simp only [putF]
    split
    · omega
    · exact hg.fr k i
  · exact hg.fr q i
end Go.Ag
/- Layer 2: the law DryParts. -/
namespace Go.Ag
open Go.Proofs
set_option maxRecDepth 100000
set_option maxHeartbeats 2000000

theorem flat_cell {α : Type} {sz : Nat} {rows : List (List α)} (hr : ∀ r ∈ rows, r.length = sz) {k : Nat} {r : List α} (h : rows[k]? = some r) {j : Nat} (hj : j < sz) : rows.flatten[k * sz + j]? = r[j]? := by
  have := sliceOf_get (flat_sl rows hr k r h) hj
  exact this
theorem pen_cell {l : List Pn} {k : Nat} (hk : k < l.length) {j : Nat} (hj : j < 6) : (penCells l)[k * 6 + j]? = (rowPn (l.getD k default))[j]? :=
  flat_cell (rowPn_len l) (by simp [hk]) hj
theorem mob_cell {l : List Mo} {k : Nat} (hk : k < l.length) {j : Nat} (hj : j < 3) : (mobCells l)[k * 3 + j]? = (rowMo (l.getD k default))[j]? :=
  flat_cell (rowMo_len l) (by simp [hk]) hj
theorem put_from {d : Dr} {k j : Nat} (hk : k < d.pens.length) (hj : j < 4) (a : Int) : putAt ((penCells d.pens).map AV.c) (0 + (k : Int).toNat * 6 + 0 + (j : Int).toNat * 1) [.c (I a)] = some ((penCells (setP d k ⟨putF (penAt d k).fr j a, (penAt d k).lo, (penAt d k).hi⟩).pens).map AV.c) := by
  rw [show 0 + (k : Int).toNat * 6 + 0 + (j : Int).toNat * 1 = k * 6 + j by omega, penCells_map, penCells_map]
  have hg : d.pens[k]? = some (penAt d k) := penAt_get hk
  rw [flat_put _ (by intro r hr; obtain ⟨x, _, rfl⟩ := List.mem_map.1 hr; rfl) k ((rowPn (penAt d k)).map AV.c) j [.c (I a)] (by simp only [List.getElem?_map, hg, Option.map_some]) (by simp; omega)]
  simp only [setP, List.map_set]
  rcases (by omega : j = 0 ∨ j = 1 ∨ j = 2 ∨ j = 3) with rfl | rfl | rfl | rfl <;> rfl

/-- A copy of which one block was written. -/
structure OwnHeap1 (h1 : Heap) (k : Nat) (O B : AB) (H : Heap) : Prop where
  n : H.n = h1.n + 1
  o : Heap.at H h1.n = O
  b : Heap.at H k = B
  old : ∀ i, i < h1.n → i ≠ k → Heap.at H i = Heap.at h1 i
theorem own_heap1 {h1 : Heap} {k : Nat} {Z O B : AB} (hk : k < h1.n) : OwnHeap1 h1 k O B (TMap.set .dead (TMap.set .dead (TMap.push .dead h1 Z) h1.n O) k B) := by
  refine ⟨rfl, ?_, ?_, fun i hi hne => ?_⟩
  · rw [at_set_ne _ _ (by omega)]
    exact at_new _ _ _
  · exact at_set_self _ _ (by show k < h1.n + 1; omega)
  · rw [at_set_ne _ _ hne, at_set_ne _ _ (by omega), at_push_lt _ _ hi]
theorem rd_mob {d : Dr} {k : Nat} (hk : k < d.mobs.length) (a : Nat) (ha : a < 2) : readVarC Try.prog 3 (mobCells d.mobs) (0 + (k : Int).toNat * 3 + 0 + a) = some (I (if a = 0 then (mobAt d k).lo else (mobAt d k).hi)) := by
  rw [rv3, show 0 + (k : Int).toNat * 3 + 0 + a = k * 3 + a by omega, mob_cell hk (by omega)]
  rcases (by omega : a = 0 ∨ a = 1) with rfl | rfl <;> rfl
theorem rd_pen {d : Dr} {k : Nat} (hk : k < d.pens.length) (a : Nat) (ha : a < 2) : readVarC Try.prog 3 (penCells d.pens) (0 + (k : Int).toNat * 6 + 4 + a) = some (I (if a = 0 then (penAt d k).lo else (penAt d k).hi)) := by
  rw [rv3, show 0 + (k : Int).toNat * 6 + 4 + a = k * 6 + (4 + a) by omega, pen_cell hk (by omega)]
  rcases (by omega : a = 0 ∨ a = 1) with rfl | rfl <;> rfl

theorem parts_ret {v : DV} {d : Dr} (hv : v.Is d) (hA : Ret Try.prog 13 [] (B true)) (w : Nat) (hw : w < 256) (w2 : Nat) (hw2 : w2 < 256) : Ret Try.prog 7 [v.cv, .lit (.int .u8 w), .lit (.int .u8 w2)] (B true) := by
  have e1 := hv.pn; have e0 := hv.mn; have e2 := hv.lim; have e3 := hv.short
  refine ret_by (hm := true) Try.func7 rfl ?_
  conv => whnf
  refine .ret (fine_ret hv) rfl ?_
  conv => whnf
  cases hd : validB d
  · conv => whnf
    refine .ret hA rfl ?_
    conv => whnf
    exact .val
  obtain ⟨s1, s2, s3, s4, s5, s6⟩ := valid_sizes hd
  conv => whnf
  refine draw_by (hm := true) (by kernel_rfl) (by kernel_rfl) ?_
  conv => whnf
  refine dplain_val (rem_to (a := IntKind.i64.wrap w) (b := v.mn) ((w % v.mn : Nat) : Int) rfl rfl rfl (by omega) (rem_nat hw _) _ _) ?_
  conv => whnf
  refine dplain_val (rem_to (a := IntKind.i64.wrap w2) (b := v.pn) ((w2 % v.pn : Nat) : Int) rfl rfl rfl (by omega) (rem_nat hw2 _) _ _) ?_
  conv => whnf
  refine ⟨by kernel_rfl, ?_⟩
  obtain ⟨m, hm, hml⟩ : ∃ m, w % v.mn = m ∧ m < d.mobs.length := ⟨_, rfl, by rw [← e0]; exact Nat.mod_lt _ (by omega)⟩
  obtain ⟨p, hp, hpl⟩ : ∃ p, w2 % v.pn = p ∧ p < d.pens.length := ⟨_, rfl, by rw [← e1]; exact Nat.mod_lt _ (by omega)⟩
  rw [hp, hm]
  have hpen := pen_ret hv p
  have hmob := mob_ret hv m
  have hprt := part_ret hv m p
  cases hpos : possibleF (flockF d)
  · obtain ⟨f1, f2, f3⟩ := all_fail hd hpos
    rw [f1 p hpl] at hpen; rw [f2 m hml] at hmob; rw [part_fail hd hpos hpl hml] at hprt
    dsimp only at hpen hmob hprt
    conv => whnf
    refine .ret hprt rfl ?_
    conv => whnf
    refine .ret hmob rfl ?_
    conv => whnf
    refine .ret hpen rfl ?_
    conv => whnf
    refine plain_val (span_eql rfl rfl rfl _ _) ?_
    conv => whnf
    refine .ret hA rfl ?_
    conv => whnf
    exact .val
  obtain ⟨a, b, xs, hab, ha0, hbf, hall, hbm, hbp⟩ := part_can hd hpos hpl hml
  obtain ⟨a1, b1, xm, _⟩ := mob_can hd hpos hml
  obtain ⟨a2, b2, xp, _⟩ := pen_can hd hpos hpl
  rw [xm] at hmob hbm; rw [xp] at hpen hbp; rw [xs] at hprt
  dsimp only at hpen hmob hprt hbm hbp
  have vp := valid_pen hd hpl
  have vm := valid_mob hd hml
  have vf := vp.2.2.2 m hml
  have rdF := hv.from hpl (j := m) (by omega)
  conv => whnf
  refine .ret hprt rfl ?_
  conv => whnf
  refine .ret hmob rfl ?_
  conv => whnf
  refine .ret hpen rfl ?_
  conv => whnf
  refine draw_by (hm := true) (by kernel_rfl) (by kernel_rfl) ?_
  conv => whnf
  have k1 : decide (a < 0) = false := by rw [decide_eq_false_iff_not]; omega
  rw [k1]
  conv => whnf
  refine ⟨⟨by omega, by omega⟩, ?_⟩
  conv => whnf
  refine ⟨⟨by decide, by omega, by omega⟩, ?_⟩
  conv => whnf
  refine ⟨_, rdF, ?_⟩
  conv => whnf
  have k2 : decide (b > (penAt d p).fr m) = false := by rw [decide_eq_false_iff_not]; omega
  have k3 : decide (b > b1) = false := by rw [decide_eq_false_iff_not]; omega
  have k4 : decide (b > b2) = false := by rw [decide_eq_false_iff_not]; omega
  rw [k2]
  conv => whnf
  rw [k3]
  conv => whnf
  rw [k4]
  conv => whnf
  refine ⟨by kernel_rfl, ?_⟩
  conv => whnf
  refine ⟨⟨by omega, by omega⟩, ?_⟩
  conv => whnf
  refine ⟨⟨by decide, by omega, by omega⟩, ?_⟩
  conv => whnf
  refine ⟨_, rdF, ?_⟩
  conv => whnf
  refine ⟨(penAt d p).fr m + 1, by rw [wrap_eq (by omega) (by omega)], ?_⟩
  conv => whnf
  refine loop_by (I := fun q st => ∃ (x : Int) (h : Heap), 0 ≤ x ∧ x ≤ (penAt d p).fr m + 1 ∧ q = ((penAt d p).fr m + 1 - x).toNat ∧ 2 ≤ h.n ∧ Heap.at h 0 = v.blk ∧ Heap.at h 1 = .blk [.c (I a), .c (I b)] ∧
      Has st 217 [(3, .ptr 0 0), (7, .c (I m)), (8, .c (I p)), (9, .ptr 1 0), (126, .c (I ((penAt d p).fr m + 1))), (127, .c (I x))] [] none h) ?_ (k := ((penAt d p).fr m + 1 - 0).toNat)
    ⟨0, _, by omega, by omega, rfl, (by show 2 ≤ 4; omega), rfl, rfl, rfl, ⟨rfl, rfl, rfl, rfl, rfl, rfl, trivial⟩, rfl, rfl, rfl, rfl⟩
  rintro q st ⟨x, h, hx0, hx1, rfl, hn, b0, b1', hs⟩
  refine hs.run (hm := false) ?_
  conv => whnf
  cases hc : decide (x < (penAt d p).fr m + 1)
  · conv => whnf
    refine .ret hA rfl ?_
    conv => whnf
    exact .val
  have hxf : x ≤ (penAt d p).fr m := by simp at hc; omega
  conv => whnf
  refine ⟨_, b0, ?_⟩
  conv => whnf
  obtain ⟨ec, h1, hc1, rfl, f1, c3, c5, hn1⟩ := copied_ret hv s1 s3 h
  have c5' : Heap.at h1 (h.n + 5) = .blk ((penCells d.pens).map .c) := c5
  have c3' : Heap.at h1 (h.n + 3) = .blk ((mobCells d.mobs).map .c) := c3
  refine .inl _ h1 .no hc1 ?_
  conv => whnf
  refine ⟨_, at_push_self _ _, ?_⟩
  conv => whnf
  refine ⟨_, at_new _ _ _, ?_⟩
  conv => whnf
  refine ⟨⟨rfl, by omega, by omega⟩, ?_⟩
  conv => whnf
  refine ⟨⟨by decide, by omega, by omega⟩, ?_⟩
  conv => whnf
  refine ⟨_, (at_old _ _ _ (by omega)).trans c5', look_put (put_from hpl (by omega) 0) ?_⟩
  conv => whnf
  refine forceL_intro ?_
  conv => whnf
  have oh := fun (Z O B : AB) => own_heap1 (Z := Z) (O := O) (B := B) (show h.n + 5 < h1.n by omega)
  refine draw_by (hm := false) (by kernel_rfl) (by kernel_rfl) ?_
  conv => whnf
  refine ⟨_, (oh _ _ _).o, ?_⟩
  conv => whnf
  refine ⟨⟨rfl, by omega, by omega⟩, ?_⟩
  conv => whnf
  refine ⟨_, (oh _ _ _).o, ?_⟩
  conv => whnf
  refine ⟨⟨rfl, by omega, by omega⟩, ?_⟩
  conv => whnf
  refine ⟨by kernel_rfl, ?_⟩
  conv => whnf
  have r1 : readVarC Try.prog 3 (mobCells d.mobs) (0 + (m : Int).toNat * 3 + 0 + 1) = some (I (mobAt d m).hi) := rd_mob hml 1 (by omega)
  have r0 : readVarC Try.prog 3 (mobCells d.mobs) (0 + (m : Int).toNat * 3 + 0 + 0) = some (I (mobAt d m).lo) := rd_mob hml 0 (by omega)
  have hpl1 : p < (setP d p ⟨putF (penAt d p).fr m 0, (penAt d p).lo, (penAt d p).hi⟩).pens.length := by rw [setP_len]; exact hpl
  have hat1 : penAt (setP d p ⟨putF (penAt d p).fr m 0, (penAt d p).lo, (penAt d p).hi⟩) p = ⟨putF (penAt d p).fr m 0, (penAt d p).lo, (penAt d p).hi⟩ := by rw [setP_at hpl, if_pos rfl]
  have q1 : readVarC Try.prog 3 (penCells (setP d p ⟨putF (penAt d p).fr m 0, (penAt d p).lo, (penAt d p).hi⟩).pens) (0 + (p : Int).toNat * 6 + 4 + 1) = some (I (penAt d p).hi) := by
    have := rd_pen hpl1 1 (by omega); rw [hat1] at this; exact this
  have q0 : readVarC Try.prog 3 (penCells (setP d p ⟨putF (penAt d p).fr m 0, (penAt d p).lo, (penAt d p).hi⟩).pens) (0 + (p : Int).toNat * 6 + 4 + 0) = some (I (penAt d p).lo) := by
    have := rd_pen hpl1 0 (by omega); rw [hat1] at this; exact this
  have keep : ∀ {Z O B : AB} {i : Nat}, i < h.n → Heap.at (TMap.set .dead (TMap.set .dead (TMap.push .dead h1 Z) h1.n O) (h.n + 5) B) i = Heap.at h i := fun {Z O B i} hi => ((oh Z O B).old i (by omega) (by omega)).trans (f1.keep i hi (by simp))
  have fin : ((penAt d p).fr m + 1 - (x + 1)).toNat < ((penAt d p).fr m + 1 - x).toNat := by omega
  have hin1 := inside_ret x a b
  have hiff := hall x hx0 hxf
  refine ⟨_, ((oh _ _ _).old (h.n + 3) (by omega) (by omega)).trans c3', look_read (readVar_map r1) ?_⟩
  conv => whnf
  cases hg1 : decide (x > (mobAt d m).hi)
  case true =>
    have hg1 : x > (mobAt d m).hi := by simpa using hg1
    have hno : (decide (a ≤ x) && decide (x ≤ b)) = false := by
      rw [Bool.eq_false_iff]
      simp only [ne_eq, Bool.and_eq_true, decide_eq_true_eq]
      intro hh
      have := part_hi hd hpl hml (hiff.1 hh)
      omega
    rw [hno] at hin1
    conv => whnf
    refine ⟨_, (keep (by omega)).trans b1', ?_⟩
    conv => whnf
    refine .ret hin1 rfl ?_
    conv => whnf
    refine ⟨x + 1, by rw [wrap_eq (by omega) (by omega)], ?_⟩
    conv => whnf
    exact ⟨((penAt d p).fr m + 1 - (x + 1)).toNat, fin, x + 1, _, by omega, by omega, rfl, by show 2 ≤ h1.n + 1; omega, (keep (by omega)).trans b0, (keep (by omega)).trans b1', rfl, ⟨rfl, rfl, rfl, rfl, rfl, rfl, trivial⟩, rfl, rfl, rfl, rfl⟩
  have hg1 : x ≤ (mobAt d m).hi := by simpa using hg1
  conv => whnf
  refine ⟨_, (oh _ _ _).b, look_read (readVar_map q1) ?_⟩
  conv => whnf
  cases hg2 : decide (x > (penAt d p).hi)
  case true =>
    have hg2 : x > (penAt d p).hi := by simpa using hg2
    have hno : (decide (a ≤ x) && decide (x ≤ b)) = false := by
      rw [Bool.eq_false_iff]
      simp only [ne_eq, Bool.and_eq_true, decide_eq_true_eq]
      intro hh
      have := part_hi hd hpl hml (hiff.1 hh)
      omega
    rw [hno] at hin1
    conv => whnf
    refine ⟨_, (keep (by omega)).trans b1', ?_⟩
    conv => whnf
    refine .ret hin1 rfl ?_
    conv => whnf
    refine ⟨x + 1, by rw [wrap_eq (by omega) (by omega)], ?_⟩
    conv => whnf
    exact ⟨((penAt d p).fr m + 1 - (x + 1)).toNat, fin, x + 1, _, by omega, by omega, rfl, by show 2 ≤ h1.n + 1; omega, (keep (by omega)).trans b0, (keep (by omega)).trans b1', rfl, ⟨rfl, rfl, rfl, rfl, rfl, rfl, trivial⟩, rfl, rfl, rfl, rfl⟩
  have hg2 : x ≤ (penAt d p).hi := by simpa using hg2
  conv => whnf
  refine draw_by (hm := false) (by kernel_rfl) (by kernel_rfl) ?_
  conv => whnf
  refine ⟨_, ((oh _ _ _).old (h.n + 3) (by omega) (by omega)).trans c3', look_read (readVar_map r0) ?_⟩
  conv => whnf
  refine ⟨(mobAt d m).lo - x, by rw [wrap_eq (by omega) (by omega)], ?_⟩
  conv => whnf
  refine ⟨_, ((oh _ _ _).old (h.n + 3) (by omega) (by omega)).trans c3', look_read (readVar_map r1) ?_⟩
  conv => whnf
  refine ⟨(mobAt d m).hi - x, by rw [wrap_eq (by omega) (by omega)], ?_⟩
  conv => whnf
  refine .ret (mkspan_ret _ _) rfl ?_
  conv => whnf
  refine ⟨_, (oh _ _ _).b, look_read (readVar_map q0) ?_⟩
  conv => whnf
  refine ⟨(penAt d p).lo - x, by rw [wrap_eq (by omega) (by omega)], ?_⟩
  conv => whnf
  refine ⟨_, (oh _ _ _).b, look_read (readVar_map q1) ?_⟩
  conv => whnf
  refine ⟨(penAt d p).hi - x, by rw [wrap_eq (by omega) (by omega)], ?_⟩
  conv => whnf
  refine .ret (mkspan_ret _ _) rfl ?_
  conv => whnf
  refine ⟨_, ((oh _ _ _).old (h.n + 3) (by omega) (by omega)).trans c3', look_put (put_wet' hml _ _) ?_⟩
  conv => whnf
  refine ⟨by show h.n + 3 < h1.n + 1; omega, ?_⟩
  conv => whnf
  refine forceL_intro ?_
  conv => whnf
  refine ⟨_, (at_set_ne _ _ (i := h.n + 5) (k := h.n + 3) (by omega)).trans (oh _ _ _).b, look_put (put_found' hpl1 _ _) ?_⟩
  conv => whnf
  refine ⟨by show h.n + 5 < h1.n + 1; omega, ?_⟩
  conv => whnf
  refine forceL_intro ?_
  conv => whnf
  refine ⟨by kernel_rfl, ?_⟩
  have hpens : (setP (setP d p ⟨putF (penAt d p).fr m 0, (penAt d p).lo, (penAt d p).hi⟩) p ⟨(penAt (setP d p ⟨putF (penAt d p).fr m 0, (penAt d p).lo, (penAt d p).hi⟩) p).fr, max 0 ((penAt d p).lo - x), (penAt d p).hi - x⟩).pens = (lessD d p m x).pens := by
    rw [hat1]
    simp [setP, lessD, setM, List.set_set]
  have hml2 : (lessD d p m x).mobs.length = d.mobs.length := setM_len _ _ _
  have hpl2 : (lessD d p m x).pens.length = d.pens.length := setP_len d p _
  have g0 : ∀ {Z O B A2 B2 : AB}, Heap.at (TMap.set .dead (TMap.set .dead (TMap.set .dead (TMap.set .dead (TMap.push .dead h1 Z) h1.n O) (h.n + 5) B) (h.n + 3) A2) (h.n + 5) B2) h1.n = O := fun {Z O B A2 B2} => (at_set_ne _ _ (by omega)).trans ((at_set_ne _ _ (by omega)).trans (oh Z O B).o)
  have g3 : ∀ {Z O B A2 B2 : AB}, Heap.at (TMap.set .dead (TMap.set .dead (TMap.set .dead (TMap.set .dead (TMap.push .dead h1 Z) h1.n O) (h.n + 5) B) (h.n + 3) A2) (h.n + 5) B2) (h.n + 3) = A2 := fun {Z O B A2 B2} => (at_set_ne _ _ (by omega)).trans (at_set_self _ _ (by show h.n + 3 < h1.n + 1; omega))
  have g5 : ∀ {Z O B A2 : AB} {l l' : List Pn}, l = l' → Heap.at (TMap.set .dead (TMap.set .dead (TMap.set .dead (TMap.set .dead (TMap.push .dead h1 Z) h1.n O) (h.n + 5) B) (h.n + 3) A2) (h.n + 5) (.blk ((penCells l).map .c))) (h.n + 5) = .blk ((penCells l').map .c) := fun {Z O B A2 l l'} e => by
    rw [← e]; exact at_set_self _ _ (by show h.n + 5 < h1.n + 1; omega)
  have keep2 : ∀ {Z O B A2 B2 : AB} {i : Nat}, i < h.n → Heap.at (TMap.set .dead (TMap.set .dead (TMap.set .dead (TMap.set .dead (TMap.push .dead h1 Z) h1.n O) (h.n + 5) B) (h.n + 3) A2) (h.n + 5) B2) i = Heap.at h i := fun {Z O B A2 B2 i} hi => (at_set_ne _ _ (by omega)).trans ((at_set_ne _ _ (by omega)).trans (keep hi))
  have his := vOf_is (d := lessD d p m x) ⟨by rw [hml2]; exact e3.1, by rw [hpl2]; exact e3.2⟩
  have hdx2 := dry_ret his
  have hcx := clash_ret his
  have hval := valid_less hd hpl hml hx0 hg2 hg1
  have e1' : (decide (a ≤ x) && decide (x ≤ b)) = possibleF (partFl (flockF d) p m x) := by
    rw [Bool.eq_iff_iff]
    simp only [Bool.and_eq_true, decide_eq_true_eq]
    exact hiff
  conv => whnf
  refine ⟨_, g0, ?_⟩
  conv => whnf
  refine .snapped _ _ _ _ _ (snap_own (d := lessD d p m x) hml2 hpl2 e2.symm g3 (g5 hpens)) hdx2 rfl ?_
  conv => whnf
  cases hvd : validB (lessD d p m x)
  · have hno : (decide (a ≤ x) && decide (x ≤ b)) = false := by
      rw [hvd] at hval
      have h9 := of_decide_eq_false hval.symm
      rw [Bool.eq_false_iff]
      simp only [ne_eq, Bool.and_eq_true, decide_eq_true_eq]
      intro hh
      exact h9 (part_hi hd hpl hml (hiff.1 hh)).2.2
    rw [hno] at hin1
    conv => whnf
    refine ⟨_, (keep2 (by omega)).trans b1', ?_⟩
    conv => whnf
    refine .ret hin1 rfl ?_
    conv => whnf
    refine ⟨x + 1, by rw [wrap_eq (by omega) (by omega)], ?_⟩
    conv => whnf
    exact ⟨((penAt d p).fr m + 1 - (x + 1)).toNat, fin, x + 1, _, by omega, by omega, rfl, by show 2 ≤ h1.n + 1; omega, (keep2 (by omega)).trans b0, (keep2 (by omega)).trans b1', rfl, ⟨rfl, rfl, rfl, rfl, rfl, rfl, trivial⟩, rfl, rfl, rfl, rfl⟩
  rw [clash_err hvd, less_clash hd hpl hml hx0 hvd] at hcx
  rw [e1'] at hin1
  conv => whnf
  refine ⟨_, g0, ?_⟩
  conv => whnf
  refine .snapped _ _ _ _ _ (snap_own (d := lessD d p m x) hml2 hpl2 e2.symm g3 (g5 hpens)) hcx rfl ?_
  conv => whnf
  refine ⟨_, (keep2 (by omega)).trans b1', ?_⟩
  conv => whnf
  refine .ret hin1 rfl ?_
  conv => whnf
  cases hP : possibleF (partFl (flockF d) p m x)
  · rw [hP] at *
    conv => whnf
    refine ⟨x + 1, by rw [wrap_eq (by omega) (by omega)], ?_⟩
    conv => whnf
    exact ⟨((penAt d p).fr m + 1 - (x + 1)).toNat, fin, x + 1, _, by omega, by omega, rfl, by show 2 ≤ h1.n + 1; omega, (keep2 (by omega)).trans b0, (keep2 (by omega)).trans b1', rfl, ⟨rfl, rfl, rfl, rfl, rfl, rfl, trivial⟩, rfl, rfl, rfl, rfl⟩
  · rw [hP] at *
    conv => whnf
    refine ⟨x + 1, by rw [wrap_eq (by omega) (by omega)], ?_⟩
    conv => whnf
    exact ⟨((penAt d p).fr m + 1 - (x + 1)).toNat, fin, x + 1, _, by omega, by omega, rfl, by show 2 ≤ h1.n + 1; omega, (keep2 (by omega)).trans b0, (keep2 (by omega)).trans b1', rfl, ⟨rfl, rfl, rfl, rfl, rfl, rfl, trivial⟩, rfl, rfl, rfl, rfl⟩
end Go.Ag
