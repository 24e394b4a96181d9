/- The law StandEnds returns true for arguments that are not far too long. No conditions. -/
import Derived.Test.YtdjgafdekabolaaStF
import Derived.Test.YtdjgafdekabolaaStG
/- Layer 4: the day as the laws tell it, run by run. -/
namespace Go.Ag
open Go.Proofs
set_option maxRecDepth 100000

/-- When each sheep that is shorn is begun, and done: run by run. -/
def lw (t : T3) (rs : List Ru) (ks : List Int) (free : Int) : List (Int × Int) := match rs, ks with
  | [], _ => []
  | _ :: _, [] => []
  | x :: rs, k :: ks => if max free x.start < x.bell then (max free x.start, max free x.start + t.get k.toNat) :: lw t (x :: rs) ks (max free x.start + t.get k.toNat) else lw t rs (k :: ks) free
termination_by rs.length + ks.length
theorem lw_nil (t : T3) (ks : List Int) (free : Int) : lw t [] ks free = [] := by rw [lw]
theorem lw_nil' (t : T3) (rs : List Ru) (free : Int) : lw t rs [] free = [] := by cases rs <;> rw [lw]
theorem lw_in {t : T3} {x : Ru} {rs : List Ru} {k : Int} {ks : List Int} {free : Int} (h : max free x.start < x.bell) : lw t (x :: rs) (k :: ks) free = (max free x.start, max free x.start + t.get k.toNat) :: lw t (x :: rs) ks (max free x.start + t.get k.toNat) := by
  rw [lw, if_pos h]
theorem lw_out {t : T3} {x : Ru} {rs : List Ru} {k : Int} {ks : List Int} {free : Int} (h : ¬ max free x.start < x.bell) : lw t (x :: rs) (k :: ks) free = lw t rs (k :: ks) free := by
  rw [lw, if_neg h]
/-- It is the same day. -/
theorem lw_day {runs : List Ru} {t : T3} (hr : ∀ x ∈ runs, 0 ≤ x.start ∧ x.start < x.bell ∧ x.bell ≤ 600) : ∀ (m : Nat) (run : Nat) (ks : List Int) (free : Int), m = (runs.length - run) + ks.length → run ≤ runs.length →
    (lw t (runs.drop run) ks free).map (·.2) = (dayF runs t ks run free).map (·.done) := by
  intro m
  induction m using Nat.strongRecOn with
  | _ m ih =>
    intro run ks free hm hle
    cases ks with
    | nil => rw [lw_nil']; rfl
    | cons k ks =>
      by_cases hlt : run < runs.length
      · obtain ⟨x, hx⟩ := get_some hlt
        have hxr := hr x (List.mem_of_getElem? hx)
        rw [drop_get hx]
        by_cases hin : max free x.start < x.bell
        · rw [lw_in hin]
          have hn : nextRun runs free run = run := by rw [next_step hx, if_neg (by omega)]
          have hx' : runs[nextRun runs free run]? = some x := by rw [hn]; exact hx
          rw [dayF_some hx', hn]
          simp only [List.map_cons]
          have := ih _ (by rw [hm]; simp) run ks (max free x.start + t.get k.toNat) rfl hle
          rw [drop_get hx] at this
          rw [this]
        · rw [lw_out hin]
          have hn : nextRun runs free run = nextRun runs free (run + 1) := by rw [next_step hx, if_pos (by omega)]
          have := ih _ (by rw [hm]; simp only [List.length_cons]; omega) (run + 1) (k :: ks) free rfl (by omega)
          rw [this]
          cases h1 : runs[nextRun runs free run]? with
          | none =>
            rw [dayF_none h1, dayF_none (by rw [← hn]; exact h1)]
          | some y =>
            rw [dayF_some h1, dayF_some (by rw [← hn]; exact h1), hn]
      · have he : run = runs.length := by omega
        subst he
        rw [List.drop_length, lw_nil]
        have h1 : runs[nextRun runs free runs.length]? = none := by rw [next_end]; exact List.getElem?_eq_none (Nat.le_refl _)
        rw [dayF_none h1]
        rfl
end Go.Ag
/- Layer 4: the day as the laws tell it, in code. -/
namespace Go.Ag
open Go.Proofs
set_option maxRecDepth 100000

theorem look_read {P : Program} {t : TypeId} {cells : List AV} {off : Nat} {v : AV} {K : AV → Prop} (h : readVar P t cells off = some v) (k : K v) : match readVar P t cells off with | some v => K v | none => False := by
  rw [h]; exact k
theorem U26 : Try.prog.underlying 26 = some (.slice 3) := by kernel_rfl
theorem S3 : slicePart Try.prog 3 = some 1 := by kernel_rfl
def row1 (n : Int) : List CV := [I n]
theorem row1_len {α : Type} {f : α → Int} {l : List α} : ∀ r ∈ (l.map f).map row1, r.length = 1 := by
  intro r hr; simp only [List.mem_map] at hr; obtain ⟨p, _, rfl⟩ := hr; rfl
theorem read_takes (t : T3) {kk : Nat} (hk : kk ≤ 2) : readVar Try.prog 3 [.c (I t.a), .c (I t.b), .c (I t.c)] (0 + (kk : Int).toNat * 1) = some (.c (I (t.get kk))) := by
  obtain rfl | rfl | rfl : kk = 0 ∨ kk = 1 ∨ kk = 2 := by omega
  all_goals rfl

theorem RowsL.cast {sz : Nat} {h : Heap} {out : AV} {r r' : List (List CV)} (R : RowsL sz h out r) (e : r = r') : RowsL sz h out r' := e ▸ R
/-- Where the law's day is, in code. -/
structure DayH (v : SV) (t : T3) (H0 : Heap) (L0 : List (Int × Int)) (bo dd : AV) (h : Heap) : Prop where
  b0 : Heap.at h H0.n = v.blk
  b1 : Heap.at h (H0.n + 1) = .blk [.c (I t.a), .c (I t.b), .c (I t.c)]
  n : H0.n + 1 < h.n
  old : ∀ i, i < H0.n → Heap.at h i = Heap.at H0 i
  rb : RowsL 1 h bo ((L0.map (·.1)).map row1)
  rd : RowsL 1 h dd ((L0.map (·.2)).map row1)
  ob : ∀ o, outId bo = some o → H0.n + 1 < o
  od : ∀ o, outId dd = some o → H0.n + 1 < o ∧ outId bo ≠ some o
theorem DayH.up {v : SV} {t : T3} {H0 : Heap} {L0 : List (Int × Int)} {bo dd : AV} {h h' : Heap} (H : DayH v t H0 L0 bo dd h) (f : Foot none' h h') : DayH v t H0 L0 bo dd h' :=
  ⟨(f.keep _ (by have := H.n; omega) (fun x => x)).trans H.b0, (f.keep _ H.n (fun x => x)).trans H.b1, Nat.lt_of_lt_of_le H.n f.n, fun i hi => (f.keep i (by have := H.n; omega) (fun x => x)).trans (H.old i hi), H.rb.ext f.n (fun i hi _ => f.keep i hi (fun x => x)), H.rd.ext f.n (fun i hi _ => f.keep i hi (fun x => x)), H.ob, H.od⟩

set_option maxHeartbeats 4000000 in
theorem day_ret {v : SV} {s : Sd} (hv : v.Is s) (hr : ∀ x ∈ s.runs, 0 ≤ x.start ∧ x.start < x.bell ∧ x.bell ≤ 600) (hk : ∀ k ∈ s.sheep, 0 ≤ k ∧ k ≤ 2) {t : T3} (ht : ∀ k, 1 ≤ t.get k ∧ t.get k ≤ 40) (H0 : Heap) :
    ∃ e h', CallOk Try.prog 30 [.c v.cv, .c t.cv] H0 .no e h' .no ∧ ∃ bo dd j, (lw t s.runs s.sheep 0).length + j = s.sheep.length ∧ DayH v t H0 (lw t s.runs s.sheep 0 ++ List.replicate j (1000, 1000)) bo dd h' ∧ e = .ret (mkTuple [bo, dd]) := by
  have e1 := hv.kn; have e2 := hv.short; have e3 := hv.rn
  refine call_by (hm := false) Try.func30 rfl ?_
  have p0 : ∀ b : AB, Heap.at ((H0.push .dead v.blk).push .dead b) H0.n = v.blk := fun b => by rw [at_push, if_neg (by rw [push_n]; omega), at_push, if_pos rfl]
  conv => whnf
  refine ⟨v.blk, p0 _, ?_⟩
  conv => whnf
  refine loop_by (I := fun n st => ∃ (r next : Nat) (free : Int) (h : Heap) (bo dd : AV) (L0 : List (Int × Int)), r ≤ s.runs.length ∧ n = s.runs.length - r ∧ next ≤ s.sheep.length ∧ L0.length = next ∧ 0 ≤ free ∧ free ≤ 640 ∧ lw t s.runs s.sheep 0 = L0 ++ lw t (s.runs.drop r) (s.sheep.drop next) free ∧ DayH v t H0 L0 bo dd h ∧
    Has st 69 [(2, .ptr H0.n 0), (3, .ptr (H0.n + 1) 0), (4, bo), (5, dd), (6, .c (I next)), (7, .c (I free)), (12, .c (.sl v.rc v.ro v.rn)), (13, .c (I v.rn)), (14, .c (I r))] [] none h) ?_ (k := s.runs.length)
    ⟨0, 0, 0, _, nilA, nilA, [], Nat.zero_le _, rfl, Nat.zero_le _, rfl, by omega, by omega, rfl, ⟨p0 _, at_push_self _ _, by rw [push_n, push_n]; omega, fun i hi => by rw [at_push, if_neg (by rw [push_n]; omega), at_push, if_neg (by omega)], .inl ⟨rfl, rfl⟩, .inl ⟨rfl, rfl⟩, by simp [outId], by simp [outId]⟩, rfl, ⟨rfl, rfl, rfl, rfl, rfl, rfl, rfl, rfl, rfl, trivial⟩, rfl, rfl, rfl, rfl⟩
  rintro n st ⟨r, next, free, h, bo, dd, L0, hrl, rfl, hnx, hL0, hf0, hf1, hlw, H, hs1⟩
  refine hs1.run (hm := false) ?_
  conv => whnf
  cases hc : decide ((r : Int) < (v.rn : Int))
  case true =>
    have hrl2 : r < s.runs.length := by simp at hc; omega
    obtain ⟨x, hx⟩ := get_some hrl2
    have hxr := hr x (List.mem_of_getElem? hx)
    rw [drop_get hx] at hlw
    conv => whnf
    refine ⟨⟨by omega, by omega⟩, ?_⟩
    conv => whnf
    refine ⟨_, hv.run hx, ?_⟩
    conv => whnf
    refine ⟨_, at_push_self _ _, ?_⟩
    conv => whnf
    refine ⟨_, at_new _ _ _, ?_⟩
    conv => whnf
    have hB1 := H.n
    have fB : Foot none' h ((h.push .dead (.blk [AV.lit (.int .i64 0), AV.lit (.int .i64 0)])).set .dead h.n (.blk [.c (I x.start), .c (I x.bell)])) := Foot.set ((Foot.refl _ _).push _) (.inr (Nat.le_refl _)) _
    refine loop_by (I := fun n st => ∃ (next : Nat) (free : Int) (h' : Heap) (bo dd : AV) (L0 : List (Int × Int)), next ≤ s.sheep.length ∧ n = s.sheep.length - next ∧ L0.length = next ∧ 0 ≤ free ∧ free ≤ 640 ∧ lw t s.runs s.sheep 0 = L0 ++ lw t (x :: s.runs.drop (r + 1)) (s.sheep.drop next) free ∧ DayH v t H0 L0 bo dd h' ∧
      Heap.at h' h.n = .blk [.c (I x.start), .c (I x.bell)] ∧ h.n < h'.n ∧ outId bo ≠ some h.n ∧ outId dd ≠ some h.n ∧
      Has st 69 [(2, .ptr H0.n 0), (3, .ptr (H0.n + 1) 0), (4, bo), (5, dd), (6, .c (I next)), (7, .c (I free)), (9, .ptr h.n 0), (10, .c (I (max free x.start))), (12, .c (.sl v.rc v.ro v.rn)), (13, .c (I v.rn)), (14, .c (I r))] [] none h') ?_ (k := s.sheep.length - next)
      ⟨next, free, _, bo, dd, L0, hnx, rfl, hL0, hf0, hf1, hlw, H.up fB, at_new _ _ _, by rw [new_n]; omega, fun e => by have := H.rb.lt _ e; omega, fun e => by have := H.rd.lt _ e; omega, rfl, ⟨rfl, rfl, rfl, rfl, rfl, rfl, rfl, rfl, rfl, rfl, rfl, trivial⟩, rfl, rfl, rfl, rfl⟩
    clear hs1 H hlw hf0 hf1 hL0 hnx fB
    rintro n st ⟨next, free, h', bo, dd, L0, hnx, rfl, hL0, hf0, hf1, hlw, H, hB, hBn, nb, nd, hs2⟩
    refine hs2.run (hm := false) ?_
    conv => whnf
    refine ⟨_, hB, ?_⟩
    conv => whnf
    cases hc1 : decide (max free x.start < x.bell)
    case true =>
      have hin : max free x.start < x.bell := by simpa using hc1
      conv => whnf
      refine ⟨_, H.b0, ?_⟩
      conv => whnf
      cases hc2 : decide ((next : Int) < (v.kn : Int))
      case true =>
        have hnx2 : next < s.sheep.length := by simp at hc2; omega
        obtain ⟨k, hkk⟩ := get_some hnx2
        obtain ⟨kk, rfl⟩ : ∃ kk : Nat, k = kk := ⟨k.toNat, by have := (hk k (List.mem_of_getElem? hkk)).1; omega⟩
        have hk2 : kk ≤ 2 := by have := (hk _ (List.mem_of_getElem? hkk)).2; omega
        have htk := ht kk
        rw [drop_get hkk, lw_in hin, Int.toNat_natCast] at hlw
        have hlen1 : ((L0.map (·.1)).map row1).length + 1 ≤ limit := by simp only [List.length_map]; unfold limit; omega
        have hlen2 : ((L0.map (·.2)).map row1).length + 1 ≤ limit := by simp only [List.length_map]; unfold limit; omega
        obtain ⟨now, hnow⟩ : ∃ now, now = max free x.start := ⟨_, rfl⟩
        rw [← hnow] at hlw hin ⊢
        have hnow2 : 0 ≤ now ∧ now < 600 ∧ x.start ≤ now := by omega
        rcases H.rb.shape with rfl | ⟨o, m, rfl⟩
        all_goals
          rcases H.rd.shape with rfl | ⟨o2, m2, rfl⟩
          all_goals
            conv => whnf
            obtain ⟨r1, hr1, hR1, hold1, hn1, hfresh1⟩ := rows_append (row := row1 now) (t := 26) (u := 26) H.rb U26 U26 rfl S3 rfl row1_len rfl hlen1
            obtain ⟨rv, rreads, rupds, rfresh⟩ := r1
            have k0 := (hold1 H0.n (by omega) (fun e => absurd (H.ob _ e) (by omega))).trans H.b0
            have k1 := (hold1 (H0.n + 1) (by omega) (fun e => absurd (H.ob _ e) (by omega))).trans H.b1
            have kB := (hold1 h.n hBn nb).trans hB
            have hRd := H.rd.ext hn1 (fun i hi ho => hold1 i hi (fun e => (H.od i ho).2 e))
            rcases hR1 with ⟨_, hh⟩ | ⟨o', ho', hb', hlt', hne'⟩
            · exact absurd hh (by simp)
            simp only at ho'
            subst ho'
            refine ⟨_, hr1, ?_⟩
            conv => whnf
            refine ⟨_, k0, ?_⟩
            conv => whnf
            refine ⟨⟨by omega, by omega⟩, ?_⟩
            conv => whnf
            refine ⟨_, hv.kind hkk, ?_⟩
            conv => whnf
            refine ⟨⟨by decide, by omega, by omega⟩, ?_⟩
            conv => whnf
            refine ⟨_, k1, look_read (read_takes t hk2) ?_⟩
            conv => whnf
            refine ⟨now + t.get kk, by rw [wrap_eq (by omega) (by omega)], ?_⟩
            conv => whnf
            have o1h := hfresh1 o' rfl
            have hdl := H.rd.lt
            obtain ⟨r2, hr2, hR2, hold2, hn2, hfresh2⟩ := rows_append (row := row1 (now + t.get kk)) (t := 26) (u := 26) hRd U26 U26 rfl S3 rfl row1_len rfl hlen2
            obtain ⟨rv2, rreads2, rupds2, rfresh2⟩ := r2
            have q0 := (hold2 H0.n (by omega) (fun e => absurd (H.od _ e).1 (by omega))).trans k0
            have q1 := (hold2 (H0.n + 1) (by omega) (fun e => absurd (H.od _ e).1 (by omega))).trans k1
            have qB := (hold2 h.n (by omega) nd).trans kB
            have qb := (hold2 o' hlt' (fun e => by have := hdl _ e; omega)).trans hb'
            rcases hR2 with ⟨_, hh⟩ | ⟨p', hp', hpb', hplt', hpne'⟩
            · exact absurd hh (by simp)
            simp only at hp'
            subst hp'
            refine ⟨_, hr2, ?_⟩
            conv => whnf
            refine ⟨((next + 1 : Nat) : Int), by rw [wrap_eq (by omega) (by omega)]; omega, ?_⟩
            conv => whnf
            have qo : ∀ i, i < H0.n → _ = Heap.at H0 i := fun i hi => ((hold2 i (by have := H.n; omega) (fun e => absurd (H.od _ e).1 (by omega))).trans (hold1 i (by have := H.n; omega) (fun e => absurd (H.ob _ e) (by omega)))).trans (H.old i hi)
            have RB : RowsL 1 _ (.msl o' 1 0 _ _) _ := .inr ⟨o', rfl, qb, Nat.lt_of_lt_of_le hlt' hn2, hne'⟩
            have RD : RowsL 1 _ (.msl p' 1 0 _ _) _ := .inr ⟨p', rfl, hpb', hplt', hpne'⟩
            have hp2 := hfresh2 p' rfl
            have hmx : max (now + t.get kk) x.start = now + t.get kk := by omega
            exact ⟨s.sheep.length - (next + 1), by omega, next + 1, now + t.get kk, _, _, _, L0 ++ [(now, now + t.get kk)], by omega, rfl, by rw [List.length_append, hL0]; rfl, by omega, by omega, by rw [hlw, List.append_assoc]; rfl,
              ⟨q0, q1, Nat.lt_of_lt_of_le (Nat.lt_of_lt_of_le H.n hn1) hn2, qo, RB.cast (by rw [List.map_append, List.map_append]; rfl), RD.cast (by rw [List.map_append, List.map_append]; rfl),
                fun o ho => by simp [outId] at ho; omega, fun o ho => by simp [outId] at ho ⊢; omega⟩, qB, Nat.lt_of_lt_of_le (Nat.lt_of_lt_of_le hBn hn1) hn2, fun ho => by simp [outId] at ho; omega, fun ho => by simp [outId] at ho; omega, rfl, by
                  rw [hmx]; exact ⟨rfl, rfl, rfl, rfl, rfl, rfl, rfl, rfl, rfl, rfl, rfl, trivial⟩, rfl, rfl, rfl, rfl⟩
      have hnn : next = s.sheep.length := by simp at hc2; omega
      conv => whnf
      refine ⟨((r + 1 : Nat) : Int), by rw [wrap_eq (by omega) (by omega)]; omega, ?_⟩
      conv => whnf
      exact ⟨s.runs.length - (r + 1), by omega, r + 1, next, free, h', bo, dd, L0, by omega, rfl, hnx, hL0, hf0, hf1, by rw [hlw, hnn, List.drop_length, lw_nil', lw_nil'], H, rfl, ⟨rfl, rfl, rfl, rfl, rfl, rfl, rfl, rfl, rfl, trivial⟩, rfl, rfl, rfl, rfl⟩
    have hout : ¬ max free x.start < x.bell := by simpa using hc1
    have hlw' : lw t s.runs s.sheep 0 = L0 ++ lw t (s.runs.drop (r + 1)) (s.sheep.drop next) free := by
      rw [hlw]
      congr 1
      cases hd : s.sheep.drop next with
      | nil => rw [lw_nil', lw_nil']
      | cons k ks => exact lw_out hout
    conv => whnf
    refine ⟨((r + 1 : Nat) : Int), by rw [wrap_eq (by omega) (by omega)]; omega, ?_⟩
    conv => whnf
    exact ⟨s.runs.length - (r + 1), by omega, r + 1, next, free, h', bo, dd, L0, by omega, rfl, hnx, hL0, hf0, hf1, hlw', H, rfl, ⟨rfl, rfl, rfl, rfl, rfl, rfl, rfl, rfl, rfl, trivial⟩, rfl, rfl, rfl, rfl⟩
  have hre : r = s.runs.length := by simp at hc; omega
  rw [hre, List.drop_length, lw_nil, List.append_nil] at hlw
  conv => whnf
  have hlw0 := hlw
  refine loop_by (I := fun n st => ∃ (next : Nat) (h : Heap) (bo dd : AV) (j : Nat), next ≤ s.sheep.length ∧ n = s.sheep.length - next ∧ L0.length + j = next ∧ DayH v t H0 (L0 ++ List.replicate j (1000, 1000)) bo dd h ∧
    Has st 69 [(2, .ptr H0.n 0), (3, .ptr (H0.n + 1) 0), (4, bo), (5, dd), (6, .c (I next))] [] none h) ?_ (k := s.sheep.length - next)
    ⟨next, h, bo, dd, 0, hnx, rfl, hL0, by rw [List.replicate_zero, List.append_nil]; exact H, rfl, ⟨rfl, rfl, rfl, rfl, rfl, trivial⟩, rfl, rfl, rfl, rfl⟩
  clear hs1 H hnx hL0 hf0 hf1 hc
  rintro n st ⟨next, h, bo, dd, j, hnx, rfl, hj, H, hs2⟩
  refine hs2.run (hm := false) ?_
  conv => whnf
  refine ⟨_, H.b0, ?_⟩
  conv => whnf
  cases hc2 : decide ((next : Int) < (v.kn : Int))
  case true =>
    have hnx2 : next < s.sheep.length := by simp at hc2; omega
    obtain ⟨L, hL⟩ : ∃ L, L = L0 ++ List.replicate j ((1000 : Int), (1000 : Int)) := ⟨_, rfl⟩
    have hLl : L.length = next := by rw [hL, List.length_append, List.length_replicate]; exact hj
    rw [← hL] at H
    have hlen1 : ((L.map (·.1)).map row1).length + 1 ≤ limit := by simp only [List.length_map]; unfold limit; omega
    have hlen2 : ((L.map (·.2)).map row1).length + 1 ≤ limit := by simp only [List.length_map]; unfold limit; omega
    rcases H.rb.shape with rfl | ⟨o, m, rfl⟩
    all_goals
      rcases H.rd.shape with rfl | ⟨o2, m2, rfl⟩
      all_goals
        conv => whnf
        obtain ⟨r1, hr1, hR1, hold1, hn1, hfresh1⟩ := rows_append (row := row1 1000) (t := 26) (u := 26) H.rb U26 U26 rfl S3 rfl row1_len rfl hlen1
        obtain ⟨rv, rreads, rupds, rfresh⟩ := r1
        have k0 := (hold1 H0.n (by have := H.n; omega) (fun e => absurd (H.ob _ e) (by omega))).trans H.b0
        have k1 := (hold1 (H0.n + 1) H.n (fun e => absurd (H.ob _ e) (by omega))).trans H.b1
        have hRd := H.rd.ext hn1 (fun i hi ho => hold1 i hi (fun e => (H.od i ho).2 e))
        rcases hR1 with ⟨_, hh⟩ | ⟨o', ho', hb', hlt', hne'⟩
        · exact absurd hh (by simp)
        simp only at ho'
        subst ho'
        refine ⟨_, hr1, ?_⟩
        conv => whnf
        have o1h := hfresh1 o' rfl
        have hdl := H.rd.lt
        obtain ⟨r2, hr2, hR2, hold2, hn2, hfresh2⟩ := rows_append (row := row1 1000) (t := 26) (u := 26) hRd U26 U26 rfl S3 rfl row1_len rfl hlen2
        obtain ⟨rv2, rreads2, rupds2, rfresh2⟩ := r2
        have q0 := (hold2 H0.n (by have := H.n; omega) (fun e => absurd (H.od _ e).1 (by omega))).trans k0
        have q1 := (hold2 (H0.n + 1) (by have := H.n; omega) (fun e => absurd (H.od _ e).1 (by omega))).trans k1
        have qb := (hold2 o' hlt' (fun e => by have := hdl _ e; omega)).trans hb'
        rcases hR2 with ⟨_, hh⟩ | ⟨p', hp', hpb', hplt', hpne'⟩
        · exact absurd hh (by simp)
        simp only at hp'
        subst hp'
        refine ⟨_, hr2, ?_⟩
        conv => whnf
        refine ⟨((next + 1 : Nat) : Int), by rw [wrap_eq (by omega) (by omega)]; omega, ?_⟩
        conv => whnf
        have qo : ∀ i, i < H0.n → _ = Heap.at H0 i := fun i hi => ((hold2 i (by have := H.n; omega) (fun e => absurd (H.od _ e).1 (by omega))).trans (hold1 i (by have := H.n; omega) (fun e => absurd (H.ob _ e) (by omega)))).trans (H.old i hi)
        have RB : RowsL 1 _ (.msl o' 1 0 _ _) _ := .inr ⟨o', rfl, qb, Nat.lt_of_lt_of_le hlt' hn2, hne'⟩
        have RD : RowsL 1 _ (.msl p' 1 0 _ _) _ := .inr ⟨p', rfl, hpb', hplt', hpne'⟩
        have hp2 := hfresh2 p' rfl
        have Hn := H.n
        have hLs : L0 ++ List.replicate (j + 1) ((1000 : Int), (1000 : Int)) = L ++ [(1000, 1000)] := by rw [hL, List.replicate_succ', List.append_assoc]
        exact ⟨s.sheep.length - (next + 1), by omega, next + 1, _, .msl o' 1 0 _ _, .msl p' 1 0 _ _, j + 1, by omega, rfl, by omega, by
          rw [hLs]
          exact ⟨q0, q1, Nat.lt_of_lt_of_le (Nat.lt_of_lt_of_le H.n hn1) hn2, qo, RB.cast (by rw [List.map_append, List.map_append]; rfl), RD.cast (by rw [List.map_append, List.map_append]; rfl),
            fun o ho => by simp [outId] at ho; omega, fun o ho => by simp [outId] at ho ⊢; omega⟩, rfl, ⟨rfl, rfl, rfl, rfl, rfl, trivial⟩, rfl, rfl, rfl, rfl⟩
  have hnn : next = s.sheep.length := by simp at hc2; omega
  conv => whnf
  exact ⟨bo, dd, j, by rw [hlw0]; omega, by rw [hlw0]; exact H, rfl⟩
end Go.Ag
/- Layer 4: how many of some minutes are at most one. -/
namespace Go.Ag
open Go.Proofs
set_option maxRecDepth 100000

def cntF (l : List Int) (m : Int) : Nat := (l.filter fun x => decide (x ≤ m)).length
theorem cntF_succ {l : List Int} {m : Int} {j : Nat} {x : Int} (h : l[j]? = some x) : cntF (l.take (j + 1)) m = cntF (l.take j) m + (if x ≤ m then 1 else 0) := by
  unfold cntF
  rw [List.take_add_one, h, Option.toList_some, List.filter_append, List.length_append]
  by_cases hx : x ≤ m <;> simp [hx]
theorem cntF_le {l : List Int} {m : Int} : cntF l m ≤ l.length := List.length_filter_le ..

theorem flat_row1 (l : List Int) : (l.map row1).flatten = l.map I := by
  induction l with
  | nil => rfl
  | cons x l ih => rw [List.map_cons, List.flatten_cons, ih]; rfl
theorem rvA3 (cells : List AV) (off : Nat) : readVar Try.prog 3 cells off = cells[off]? := rfl
theorem read_row1 {l : List Int} {j : Nat} {x : Int} (h : l[j]? = some x) : readVar Try.prog 3 ((l.map row1).flatten.map AV.c) (0 + (j : Int).toNat * 1) = some (.c (I x)) := by
  rw [rvA3, flat_row1, show 0 + (j : Int).toNat * 1 = j by omega, List.getElem?_map, List.getElem?_map, h]; rfl

set_option maxHeartbeats 4000000 in
theorem many_ret {l : List Int} {a : AV} {h : Heap} (R : RowsL 1 h a (l.map row1)) (hl : l.length ≤ 40) (m : Int) :
    ∃ e h', CallOk Try.prog 32 [a, .c (I m)] h .no e h' .no ∧ e = .ret (.c (I (cntF l m))) ∧ Foot none' h h' := by
  rcases R with ⟨rfl, hn⟩ | ⟨o, rfl, hb, ho, hne⟩
  · have : l = [] := by simpa using hn
    subst this
    refine call_by (hm := false) Try.func32 rfl ?_
    conv => whnf
    refine loop_by (I := fun _ st => Has st 20 [(0, nilA), (1, .c (I m)), (4, .c (I 0)), (7, nilA), (8, .c (I 0)), (9, .c (I 0))] [] none h) ?_ (k := 0) ⟨rfl, ⟨rfl, rfl, rfl, rfl, rfl, rfl, trivial⟩, rfl, rfl, rfl, rfl⟩
    rintro n st hs1
    refine hs1.run (hm := false) ?_
    conv => whnf
    exact ⟨rfl, Foot.refl _ _⟩
  · have hcl := cntF_le (l := l) (m := m)
    refine call_by (hm := false) Try.func32 rfl ?_
    conv => whnf
    refine loop_by (I := fun n st => ∃ j : Nat, j ≤ l.length ∧ n = l.length - j ∧ Has st 20 [(0, .msl o 1 0 (l.map row1).length (l.map row1).length), (1, .c (I m)), (4, .c (I (cntF (l.take j) m))), (7, .msl o 1 0 (l.map row1).length (l.map row1).length), (8, .c (I (l.map row1).length)), (9, .c (I j))] [] none h) ?_ (k := l.length)
      ⟨0, Nat.zero_le _, rfl, rfl, ⟨rfl, rfl, rfl, rfl, rfl, rfl, trivial⟩, rfl, rfl, rfl, rfl⟩
    rintro n st ⟨j, hj, rfl, hs1⟩
    refine hs1.run (hm := false) ?_
    conv => whnf
    cases hc : decide ((j : Int) < ((l.map row1).length : Int))
    case true =>
      have hj2 : j < l.length := by simp at hc; omega
      obtain ⟨x, hx⟩ := get_some hj2
      have hct : cntF (l.take j) m ≤ j := Nat.le_trans cntF_le (by simp; omega)
      conv => whnf
      refine ⟨⟨rfl, by omega, by simpa using hj2⟩, ?_⟩
      conv => whnf
      refine ⟨_, hb, look_read (read_row1 hx) ?_⟩
      conv => whnf
      cases hc1 : decide (x ≤ m)
      case true =>
        have hxm : x ≤ m := by simpa using hc1
        conv => whnf
        refine ⟨((cntF (l.take (j + 1)) m : Nat) : Int), by rw [cntF_succ hx, if_pos hxm, wrap_eq (by omega) (by omega)]; omega, ?_⟩
        conv => whnf
        refine ⟨((j + 1 : Nat) : Int), by rw [wrap_eq (by omega) (by omega)]; omega, ?_⟩
        conv => whnf
        exact ⟨l.length - (j + 1), by omega, j + 1, hj2, rfl, rfl, ⟨rfl, rfl, rfl, rfl, rfl, rfl, trivial⟩, rfl, rfl, rfl, rfl⟩
      have hxm : ¬ x ≤ m := by simpa using hc1
      conv => whnf
      refine ⟨((j + 1 : Nat) : Int), by rw [wrap_eq (by omega) (by omega)]; omega, ?_⟩
      conv => whnf
      have hce : cntF (l.take (j + 1)) m = cntF (l.take j) m := by rw [cntF_succ hx, if_neg hxm]; rfl
      exact ⟨l.length - (j + 1), by omega, j + 1, hj2, rfl, rfl, ⟨rfl, rfl, by rw [hce]; rfl, rfl, rfl, rfl, trivial⟩, rfl, rfl, rfl, rfl⟩
    have hjl : j = l.length := by simp at hc; omega
    subst hjl
    conv => whnf
    exact ⟨by rw [List.take_length]; rfl, Foot.refl _ _⟩
theorem rvC3 (cells : List CV) (off : Nat) : readVarC Try.prog 3 cells off = cells[off]? := rfl
theorem read_ints {l : List Int} {j : Nat} {x : Int} (h : l[j]? = some x) : readVarC Try.prog 3 (l.map I) (0 + (j : Int).toNat * 1) = some (I x) := by
  rw [rvC3, show 0 + (j : Int).toNat * 1 = j by omega, List.getElem?_map, h]; rfl

set_option maxHeartbeats 4000000 in
/-- The same of a slice that nobody writes. -/
theorem many_retC {l : List Int} (hl : l.length ≤ 40) (m : Int) : Ret Try.prog 32 [.sl (l.map I) 0 l.length, I m] (I (cntF l m)) := by
  have hcl := cntF_le (l := l) (m := m)
  refine ret_by (hm := true) Try.func32 rfl ?_
  conv => whnf
  refine loop_by (I := fun n st => ∃ j : Nat, j ≤ l.length ∧ n = l.length - j ∧ Has st 20 [(0, .c (.sl (l.map I) 0 l.length)), (1, .c (I m)), (4, .c (I (cntF (l.take j) m))), (7, .c (.sl (l.map I) 0 l.length)), (8, .c (I l.length)), (9, .c (I j))] [] none TMap.nil) ?_ (k := l.length)
    ⟨0, Nat.zero_le _, rfl, rfl, ⟨rfl, rfl, rfl, rfl, rfl, rfl, trivial⟩, rfl, rfl, rfl, rfl⟩
  rintro n st ⟨j, hj, rfl, hs1⟩
  refine hs1.run (hm := true) ?_
  conv => whnf
  cases hc : decide ((j : Int) < (l.length : Int))
  case true =>
    have hj2 : j < l.length := by simp at hc; omega
    obtain ⟨x, hx⟩ := get_some hj2
    have hct : cntF (l.take j) m ≤ j := Nat.le_trans cntF_le (by simp; omega)
    conv => whnf
    refine ⟨⟨by omega, by simpa using hj2⟩, ?_⟩
    conv => whnf
    refine ⟨_, read_ints hx, ?_⟩
    conv => whnf
    cases hc1 : decide (x ≤ m)
    case true =>
      have hxm : x ≤ m := by simpa using hc1
      conv => whnf
      refine ⟨((cntF (l.take (j + 1)) m : Nat) : Int), by rw [cntF_succ hx, if_pos hxm, wrap_eq (by omega) (by omega)]; omega, ?_⟩
      conv => whnf
      refine ⟨((j + 1 : Nat) : Int), by rw [wrap_eq (by omega) (by omega)]; omega, ?_⟩
      conv => whnf
      exact ⟨l.length - (j + 1), by omega, j + 1, hj2, rfl, rfl, ⟨rfl, rfl, rfl, rfl, rfl, rfl, trivial⟩, rfl, rfl, rfl, rfl⟩
    have hxm : ¬ x ≤ m := by simpa using hc1
    conv => whnf
    refine ⟨((j + 1 : Nat) : Int), by rw [wrap_eq (by omega) (by omega)]; omega, ?_⟩
    conv => whnf
    have hce : cntF (l.take (j + 1)) m = cntF (l.take j) m := by rw [cntF_succ hx, if_neg hxm]; rfl
    exact ⟨l.length - (j + 1), by omega, j + 1, hj2, rfl, rfl, ⟨rfl, rfl, by rw [hce]; rfl, rfl, rfl, rfl, trivial⟩, rfl, rfl, rfl, rfl⟩
  have hjl : j = l.length := by simp at hc; omega
  subst hjl
  conv => whnf
  have hce : cntF (l.take l.length) m = cntF l m := by rw [List.take_length]
  rw [← hce]
  exact .val
theorem many_nil (m : Int) : Ret Try.prog 32 [.lit (.slice none 0 0), I m] (I 0) := by
  refine ret_by (hm := true) Try.func32 rfl ?_
  conv => whnf
  refine loop_by (I := fun _ st => Has st 20 [(4, .c (I 0)), (7, nilA), (8, .c (I 0)), (9, .c (I 0))] [] none TMap.nil) ?_ (k := 0) ⟨rfl, ⟨rfl, rfl, rfl, rfl, trivial⟩, rfl, rfl, rfl, rfl⟩
  rintro n st hs1
  refine hs1.run (hm := true) ?_
  conv => whnf
  exact .val
end Go.Ag
/- Layer 4: a stand of which all is known. -/
namespace Go.Ag
open Go.Proofs
set_option maxRecDepth 100000

def pickF (j : Nat) (t x : T3) : T3 := ⟨if 0 < j then t.a else x.a, if 1 < j then t.b else x.b, if 2 < j then t.c else x.c⟩
/-- The first j kinds are known. -/
def SV.kn' (v : SV) (t : T3) (j : Nat) : SV := { v with lo := pickF j t v.lo, hi := pickF j t v.hi }
theorem SV.Is.known {v : SV} {s : Sd} (hv : v.Is s) (t : T3) : (v.kn' t 3).Is { s with lo := t, hi := t } :=
  ⟨rfl, rfl, hv.r, hv.k, hv.l, hv.short⟩

theorem nine {α : Type} {l : List α} (h : l.length = 9) : ∃ a b c d e f g i j, l = [a, b, c, d, e, f, g, i, j] := by
  match l, h with
  | [a, b, c, d, e, f, g, i, j], _ => exact ⟨a, b, c, d, e, f, g, i, j, rfl⟩

set_option maxHeartbeats 4000000 in
theorem known_ret (v : SV) (t : T3) : Ret Try.prog 35 [v.cv, t.cv] (v.kn' t 3).cv := by
  refine ret_by (hm := false) Try.func35 rfl ?_
  conv => whnf
  refine ⟨_, rfl, ?_⟩
  conv => whnf
  refine loop_by (I := fun n st => ∃ (j : Nat) (h : Heap), j ≤ 3 ∧ n = 3 - j ∧ Heap.at h 0 = (v.kn' t j).blk ∧ (∃ c, Heap.at h 2 = .blk c ∧ c.length = 9) ∧ 2 < h.n ∧ Has st 20 [(2, .ptr 0 0), (4, .ptr 2 0), (7, .c t.cv), (8, .c (I j))] [] none h) ?_ (k := 3)
    ⟨0, _, by omega, rfl, rfl, (by refine ⟨_, at_push_self _ _, ?_⟩; rfl), by exact Nat.lt_succ_self 2, rfl, ⟨rfl, rfl, rfl, rfl, trivial⟩, rfl, rfl, rfl, rfl⟩
  rintro n st ⟨j, h, hj, rfl, h0, ⟨c, h2, hc9⟩, hn, hs1⟩
  refine hs1.run (hm := false) ?_
  obtain rfl | rfl | rfl | rfl : j = 0 ∨ j = 1 ∨ j = 2 ∨ j = 3 := by omega
  · conv => whnf
    refine .ret (mkspan_ret _ _) rfl ?_
    conv => whnf
    refine ⟨⟨by decide, by decide, by decide⟩, ?_⟩
    conv => whnf
    refine ⟨_, h0, ?_⟩
    conv => whnf
    refine ⟨((1 : Nat) : Int), rfl, ?_⟩
    conv => whnf
    exact ⟨3 - 1, by omega, 1, _, by omega, rfl, by rw [at_set_self _ _ (by omega)]; rfl, ⟨c, by rw [at_set_ne _ _ (by decide)]; exact h2, hc9⟩, by rw [TMap.set_n]; exact hn, rfl, ⟨rfl, rfl, rfl, rfl, trivial⟩, rfl, rfl, rfl, rfl⟩
  · conv => whnf
    refine .ret (mkspan_ret _ _) rfl ?_
    conv => whnf
    refine ⟨⟨by decide, by decide, by decide⟩, ?_⟩
    conv => whnf
    refine ⟨_, h0, ?_⟩
    conv => whnf
    refine ⟨((2 : Nat) : Int), rfl, ?_⟩
    conv => whnf
    exact ⟨3 - 2, by omega, 2, _, by omega, rfl, by rw [at_set_self _ _ (by omega)]; rfl, ⟨c, by rw [at_set_ne _ _ (by decide)]; exact h2, hc9⟩, by rw [TMap.set_n]; exact hn, rfl, ⟨rfl, rfl, rfl, rfl, trivial⟩, rfl, rfl, rfl, rfl⟩
  · conv => whnf
    refine .ret (mkspan_ret _ _) rfl ?_
    conv => whnf
    refine ⟨⟨by decide, by decide, by decide⟩, ?_⟩
    conv => whnf
    refine ⟨_, h0, ?_⟩
    conv => whnf
    refine ⟨((3 : Nat) : Int), rfl, ?_⟩
    conv => whnf
    exact ⟨3 - 3, by omega, 3, _, by omega, rfl, by rw [at_set_self _ _ (by omega)]; rfl, ⟨c, by rw [at_set_ne _ _ (by decide)]; exact h2, hc9⟩, by rw [TMap.set_n]; exact hn, rfl, ⟨rfl, rfl, rfl, rfl, trivial⟩, rfl, rfl, rfl, rfl⟩
  · obtain ⟨c0, c1, c2, c3, c4, c5, c6, c7, c8, rfl⟩ := nine hc9
    conv => whnf
    refine ⟨_, h0, ?_⟩
    conv => whnf
    refine ⟨_, h2, ?_⟩
    conv => whnf
    refine ⟨_, at_set_self _ _ hn, ?_⟩
    conv => whnf
    exact .val
end Go.Ag
/- Layer 4: the slower, the later. -/
namespace Go.Ag
open Go.Proofs
set_option maxRecDepth 100000

theorem runs_from : ∀ (b : Int) (l : List Ru), runsOk b l = true → ∀ y ∈ l, b ≤ y.start
  | _, [], _, _, h => by simp at h
  | b, r :: l, h, y, hy => by
    simp only [runsOk, runOk, Bool.and_eq_true, decide_eq_true_eq] at h
    rcases List.mem_cons.1 hy with rfl | hy
    · omega
    · have := runs_from r.bell l h.2 y hy; omega
theorem runs_apart : ∀ (b : Int) (l : List Ru), runsOk b l = true → ∀ (i j : Nat) (x y : Ru), i < j → l[i]? = some x → l[j]? = some y → x.bell ≤ y.start
  | _, [], _, _, _, _, _, _, h, _ => by simp at h
  | b, r :: l, h, i, j, x, y, hij, hx, hy => by
    simp only [runsOk, runOk, Bool.and_eq_true, decide_eq_true_eq] at h
    obtain ⟨j, rfl⟩ : ∃ j', j = j' + 1 := ⟨j - 1, by omega⟩
    rw [List.getElem?_cons_succ] at hy
    cases i with
    | zero =>
      rw [List.getElem?_cons_zero] at hx
      cases hx
      exact runs_from _ _ h.2 _ (List.mem_of_getElem? hy)
    | succ i =>
      rw [List.getElem?_cons_succ] at hx
      exact runs_apart r.bell l h.2 i j x y (by omega) hx hy

theorem next_least {runs : List Ru} {free : Int} : ∀ (n r q : Nat), n = q - r → r ≤ q → q ≤ runs.length → (∀ x, runs[q]? = some x → free < x.bell) → nextRun runs free r ≤ q := by
  intro n
  induction n with
  | zero =>
    intro r q hn hr hq h
    have : r = q := by omega
    subst this
    rcases Nat.lt_or_ge r runs.length with h1 | h1
    · obtain ⟨x, hx⟩ := get_some h1
      rw [next_step hx, if_neg (by have := h x hx; omega)]
      exact Nat.le_refl _
    · exact Nat.le_trans (next_le hq) h1
  | succ n ih =>
    intro r q hn hr hq h
    obtain ⟨x, hx⟩ := get_some (l := runs) (k := r) (by omega)
    rw [next_step hx]
    split
    · exact ih (r + 1) q (by omega) (by omega) hq h
    · omega
theorem next_ge {runs : List Ru} {free : Int} {r : Nat} : r ≤ nextRun runs free r := adv_ge _ _ _ _
theorem next_mono {runs : List Ru} {free free' : Int} {r r' : Nat} (hr : r ≤ r') (hl : r' ≤ runs.length) (hf : free ≤ free') : nextRun runs free r ≤ nextRun runs free' r' := by
  refine next_least _ r _ rfl (Nat.le_trans hr next_ge) (next_le hl) fun x hx => ?_
  have := next_open _ r' rfl hl hx
  omega

theorem day_step {runs : List Ru} (ho : runsOk 0 runs = true) {r r' : Nat} {free free' : Int} (hr : r ≤ r') (hl : r' ≤ runs.length) (hf : free ≤ free') {x' : Ru} (hx' : runs[nextRun runs free' r']? = some x') :
    ∃ x, runs[nextRun runs free r]? = some x ∧ nextRun runs free r ≤ nextRun runs free' r' ∧ max free x.start ≤ max free' x'.start := by
  have hn := next_mono hr hl hf
  have hlt : nextRun runs free' r' < runs.length := by
    rcases Nat.lt_or_ge (nextRun runs free' r') runs.length with h1 | h1
    · exact h1
    · rw [List.getElem?_eq_none h1] at hx'; cases hx'
  obtain ⟨x, hx⟩ := get_some (l := runs) (k := nextRun runs free r) (by omega)
  refine ⟨x, hx, hn, ?_⟩
  rcases Nat.lt_or_ge (nextRun runs free r) (nextRun runs free' r') with h1 | h1
  · have h2 := runs_apart 0 runs ho _ _ x x' h1 hx hx'
    have h3 := (runsOk_all 0 runs (Int.le_refl _) ho x (List.mem_of_getElem? hx)).2.1
    omega
  · have he : nextRun runs free r = nextRun runs free' r' := by omega
    rw [he, hx'] at hx
    cases hx
    omega
theorem day_ends {runs : List Ru} {t : T3} (hg : Runs runs t) : ∀ (ks : List Int) (run : Nat) (free : Int), run ≤ runs.length → 0 ≤ free → ∀ x ∈ dayF runs t ks run free, 0 ≤ x.done ∧ x.done ≤ 640
  | [], _, _, _, _ => by simp [dayF]
  | k :: ks, run, free, hr, hf => by
    unfold dayF
    split
    · simp
    · rename_i x hx
      have hxr := hg.runs x (List.mem_of_getElem? hx)
      have hfb := next_open _ _ rfl hr hx
      have htk := hg.takes k.toNat
      intro y hy
      rcases List.mem_cons.1 hy with rfl | hy
      · simp only; omega
      · exact day_ends hg ks (nextRun runs free run) (max free x.start + t.get k.toNat) (next_le hr) (by omega) y hy
/-- The slower, the later is each sheep done. -/
theorem day_slow {runs : List Ru} (ho : runsOk 0 runs = true) {t t' : T3} (ht : ∀ k, t.get k ≤ t'.get k) (hg : Runs runs t) : ∀ (ks : List Int) (r r' : Nat) (free free' : Int), r ≤ r' → r' ≤ runs.length → 0 ≤ free → free ≤ free' →
    ∀ i, dn (dayF runs t ks r free) i ≤ dn (dayF runs t' ks r' free') i
  | [], _, _, _, _, _, _, _, _, _ => Int.le_refl _
  | k :: ks, r, r', free, free', hr, hl, h0, hf, i => by
    cases hx' : runs[nextRun runs free' r']? with
    | none =>
      rw [dayF_none hx', dn_nil]
      refine dn_le (fun x hx => ?_) i
      have := day_ends hg _ r free (by omega) h0 x hx
      omega
    | some x' =>
      obtain ⟨x, hx, hn, hm⟩ := day_step ho hr hl hf hx'
      rw [dayF_some hx', dayF_some hx]
      have hk := ht k.toNat
      cases i with
      | zero => rw [dn_zero, dn_zero]; dsimp only; omega
      | succ i => rw [dn_succ, dn_succ]; exact day_slow ho ht hg ks _ _ _ _ hn (next_le hl) (by have := (hg.takes k.toNat).1; omega) (by omega) i
theorem doneBy_cons (x : Sh) (d : List Sh) (n : Int) : Me.of (x :: d) (.doneBy n) = Me.of d (.doneBy n) + (if x.done ≤ n then 1 else 0) := by
  simp only [Me.of, List.countP_cons]
  by_cases h : x.done ≤ n <;> simp [h]
/-- The slower, the fewer are done. -/
theorem day_few {runs : List Ru} (ho : runsOk 0 runs = true) {t t' : T3} (ht : ∀ k, t.get k ≤ t'.get k) (n : Int) : ∀ (ks : List Int) (r r' : Nat) (free free' : Int), r ≤ r' → r' ≤ runs.length → free ≤ free' →
    Me.of (dayF runs t' ks r' free') (.doneBy n) ≤ Me.of (dayF runs t ks r free) (.doneBy n)
  | [], _, _, _, _, _, _, _ => Int.le_refl _
  | k :: ks, r, r', free, free', hr, hl, hf => by
    cases hx' : runs[nextRun runs free' r']? with
    | none =>
      rw [dayF_none hx']
      simp only [Me.of, List.countP_nil]
      omega
    | some x' =>
      obtain ⟨x, hx, hn, hm⟩ := day_step ho hr hl hf hx'
      rw [dayF_some hx', dayF_some hx, doneBy_cons, doneBy_cons]
      have hk := ht k.toNat
      have ih := day_few ho ht n ks _ _ (max free x.start + t.get k.toNat) (max free' x'.start + t'.get k.toNat) hn (next_le hl) (by omega)
      dsimp only
      split <;> split <;> omega

/-! Both ends, without looks. -/
def bareD (s : Sd) : Sd := { s with looks := [] }
def quickest (s : Sd) : T3 := s.lo
theorem bare_truths {s : Sd} {t : T3} : t ∈ truths (bareD s) ↔ t ∈ combos s := by
  rw [mem_truths]
  constructor
  · exact fun h => h.1
  · exact fun h => ⟨h, rfl⟩
theorem lo_combo {s : Sd} (hd : validB s = true) : s.lo ∈ combos s ∧ s.hi ∈ combos s := by
  simp only [validB, minsOk, minOk, spanB, Bool.and_eq_true, decide_eq_true_eq] at hd
  rw [mem_combos, mem_combos]
  omega
theorem combo_any {s : Sd} {t : T3} (ht : t ∈ combos s) (k : Nat) : s.lo.get k ≤ t.get k ∧ t.get k ≤ s.hi.get k := by
  rw [mem_combos] at ht
  match k with
  | 0 => exact ht.1
  | 1 => exact ht.2.1
  | _ + 2 => exact ht.2.2
theorem valid_order {s : Sd} (hd : validB s = true) : runsOk 0 s.runs = true := by
  simp only [validB, Bool.and_eq_true] at hd
  exact hd.2.1.2
theorem ends_done {s : Sd} (hd : validB s = true) (i : Nat) : spanM (bareD s) (.doneAt i) = some (Me.of (dayOf s s.lo) (.doneAt i), Me.of (dayOf s s.hi) (.doneAt i)) := by
  have ho := valid_order hd
  have hc := lo_combo hd
  refine span_some.2 ⟨⟨s.lo, bare_truths.2 hc.1, rfl⟩, ⟨s.hi, bare_truths.2 hc.2, rfl⟩, fun t ht => ?_⟩
  have ht := bare_truths.1 ht
  exact ⟨day_slow ho (fun k => (combo_any ht k).1) (valid_good hd hc.1).r _ _ _ _ _ (Nat.le_refl _) (Nat.zero_le _) (Int.le_refl _) (Int.le_refl _) i,
    day_slow ho (fun k => (combo_any ht k).2) (valid_good hd ht).r _ _ _ _ _ (Nat.le_refl _) (Nat.zero_le _) (Int.le_refl _) (Int.le_refl _) i⟩
theorem ends_count {s : Sd} (hd : validB s = true) (n : Int) : spanM (bareD s) (.doneBy n) = some (Me.of (dayOf s s.hi) (.doneBy n), Me.of (dayOf s s.lo) (.doneBy n)) := by
  have ho := valid_order hd
  have hc := lo_combo hd
  refine span_some.2 ⟨⟨s.hi, bare_truths.2 hc.2, rfl⟩, ⟨s.lo, bare_truths.2 hc.1, rfl⟩, fun t ht => ?_⟩
  have ht := bare_truths.1 ht
  exact ⟨day_few ho (fun k => (combo_any ht k).2) n _ _ _ _ _ (Nat.le_refl _) (Nat.zero_le _) (Int.le_refl _),
    day_few ho (fun k => (combo_any ht k).1) n _ _ _ _ _ (Nat.le_refl _) (Nat.zero_le _) (Int.le_refl _)⟩
end Go.Ag
/- Layer 4: both ends of a day: the law. -/
namespace Go.Ag
open Go.Proofs
set_option maxRecDepth 100000

/-- When each sheep is done, as the law has it. -/
def doneL (s : Sd) (t : T3) (j : Nat) : List Int := (lw t s.runs s.sheep 0 ++ List.replicate j ((1000 : Int), (1000 : Int))).map (·.2)
theorem doneL_eq {s : Sd} (hd : validB s = true) (t : T3) (j : Nat) : doneL s t j = (dayOf s t).map (·.done) ++ List.replicate j 1000 := by
  have h := lw_day (t := t) (runsOk_all 0 s.runs (Int.le_refl _) (valid_order hd)) _ 0 s.sheep 0 rfl (Nat.zero_le _)
  rw [List.drop_zero] at h
  unfold doneL
  rw [List.map_append, h, List.map_replicate]
  rfl
theorem doneL_cnt {s : Sd} (hd : validB s = true) (t : T3) (j : Nat) {n : Int} (hn : n < 1000) : (cntF (doneL s t j) n : Int) = Me.of (dayOf s t) (.doneBy n) := by
  rw [doneL_eq hd]
  unfold cntF
  rw [List.filter_append, List.length_append]
  have h1 : (List.replicate j (1000 : Int)).filter (fun x => decide (x ≤ n)) = [] := by
    rw [List.filter_eq_nil_iff]
    intro x hx
    rw [List.eq_of_mem_replicate hx]
    simp; omega
  rw [h1, List.filter_map, List.length_map]
  simp only [Me.of, List.countP_eq_length_filter, List.length_nil, Nat.add_zero]
  rfl
theorem doneL_len {s : Sd} {t : T3} {j : Nat} (hj : (lw t s.runs s.sheep 0).length + j = s.sheep.length) : (doneL s t j).length = s.sheep.length := by
  unfold doneL; rw [List.length_map, List.length_append, List.length_replicate]; exact hj
theorem doneL_at {s : Sd} (hd : validB s = true) (t : T3) {j : Nat} (hj : (lw t s.runs s.sheep 0).length + j = s.sheep.length) {i : Nat} (hi : i < s.sheep.length) : (doneL s t j)[i]? = some (Me.of (dayOf s t) (.doneAt i)) := by
  have hl := doneL_len hj
  rw [doneL_eq hd] at hl ⊢
  cases hx : (dayOf s t)[i]? with
  | some x =>
    have hi2 : i < (dayOf s t).length := by
      rcases Nat.lt_or_ge i (dayOf s t).length with h1 | h1
      · exact h1
      · rw [List.getElem?_eq_none h1] at hx; cases hx
    rw [List.getElem?_append_left (by rw [List.length_map]; exact hi2), List.getElem?_map, hx]
    simp only [Me.of, hx, Option.map_some]
  | none =>
    have hi2 : (dayOf s t).length ≤ i := List.getElem?_eq_none_iff.1 hx
    rw [List.length_append, List.length_map, List.length_replicate] at hl
    rw [List.getElem?_append_right (by rw [List.length_map]; exact hi2), List.getElem?_replicate, if_pos (by rw [List.length_map]; omega)]
    simp only [Me.of, hx]

/-- Of whom all is known nothing is in doubt. -/
theorem known_one {s : Sd} (hl : s.looks = []) (he : s.lo = s.hi) (f : T3 → Int) : spanS s f = some (f s.lo, f s.lo) := by
  have hm : s.lo ∈ truths s := by
    rw [mem_truths, mem_combos, hl, ← he]
    exact ⟨by omega, rfl⟩
  refine span_some.2 ⟨⟨s.lo, hm, rfl⟩, ⟨s.lo, hm, rfl⟩, fun t ht => ?_⟩
  have h := (mem_combos.1 (mem_truths.1 ht).1)
  rw [← he] at h
  have : t = s.lo := by
    generalize s.lo = u at h
    obtain ⟨a, b, c⟩ := t
    obtain ⟨a', b', c'⟩ := u
    dsimp only at h
    simp only [T3.mk.injEq]
    omega
  rw [this]
  exact ⟨Int.le_refl _, Int.le_refl _⟩
end Go.Ag
/- Layer 4: both ends of a day: the law's walk. -/
namespace Go.Ag
open Go.Proofs
set_option maxRecDepth 100000


def zeroT : T3 := ⟨0, 0, 0⟩
def t3Blk (t : T3) : AB := .blk [.c (I t.a), .c (I t.b), .c (I t.c)]
def bareBlk (v : SV) : AB := .blk [.c (I v.lo.a), .c (I v.hi.a), .c (I v.lo.b), .c (I v.hi.b), .c (I v.lo.c), .c (I v.hi.c), .c (.sl v.rc v.ro v.rn), .c (.sl v.kc v.ko v.kn), nilA]
def bareV (v : SV) : SV := { v with lc := [], lo' := 0, ln := 0 }

theorem RowsL.two {h : Heap} {a : AV} {l : List Int} (R : RowsL 1 h a (l.map row1)) : (l = [] → a = nilA) ∧ (l ≠ [] → ∃ o, a = .msl o 1 0 l.length l.length ∧ Heap.at h o = .blk ((l.map I).map .c)) := by
  rcases R with ⟨rfl, h1⟩ | ⟨o, rfl, hb, hlt, hne⟩
  · have : l = [] := by simpa using h1
    exact ⟨fun _ => rfl, fun h => absurd this h⟩
  · refine ⟨fun h => absurd (by rw [h]; rfl) hne, fun _ => ⟨o, by rw [List.length_map], by rw [hb, flat_row1]⟩⟩

theorem bare_is {v : SV} {s : Sd} (hv : v.Is s) : (bareV v).Is (bareD s) := withV_is hv (L := []) (Nat.zero_le _)
theorem bare_valid {s : Sd} (hd : validB s = true) : validB (bareD s) = true := withL_valid hd (L := []) (Nat.zero_le _) rfl
def bareA (v : SV) : CV := .agg [I v.lo.a, I v.hi.a, I v.lo.b, I v.hi.b, I v.lo.c, I v.hi.c, .sl v.rc v.ro v.rn, .sl v.kc v.ko v.kn, nilC]
theorem bare_args {v : SV} {f : FuncId} {x r : CV} (h : Ret Try.prog f [(bareV v).cv, x] r) : Ret Try.prog f [bareA v, x] r :=
  h.args ⟨.agg ⟨.refl _, .refl _, .refl _, .refl _, .refl _, .refl _, .refl _, .refl _, .nil _ _, trivial⟩, .refl _, trivial⟩

theorem known_valid {s : Sd} (hd : validB s = true) {t : T3} (ht : t ∈ combos s) : validB { bareD s with lo := t, hi := t } = true := by
  have hb := bare_valid hd
  have hc := mem_combos.1 ht
  unfold validB at hb ⊢
  rw [Bool.and_eq_true] at hb ⊢
  refine ⟨?_, hb.2⟩
  have hm := hd
  simp only [validB, minsOk, minOk, spanB, Bool.and_eq_true, decide_eq_true_eq] at hm
  simp only [minsOk, minOk, spanB, Bool.and_eq_true, decide_eq_true_eq]
  omega
theorem knownB_ret (v : SV) (t : T3) : Ret Try.prog 35 [bareA v, t.cv] ((bareV v).kn' t 3).cv := bare_args (known_ret (bareV v) t)
theorem knownM {v : SV} {s : Sd} (hv : v.Is s) (hd : validB s = true) {t : T3} (ht : t ∈ combos s) {r : Nat} (hr : r < s.runs.length) : (∃ x, Ret Try.prog 20 [((bareV v).kn' t 3).cv, I r] (.tuple [.agg [I x, I x], I 0])) ∧ ∃ x, Ret Try.prog 22 [((bareV v).kn' t 3).cv, I r] (.tuple [.agg [I x, I x], I 0]) := by
  have hS := (bare_is hv).known t
  have hV := known_valid hd ht
  have hin : inB (r : Int) 0 (({ bareD s with lo := t, hi := t } : Sd).runs.length - 1) = true := by
    show inB (r : Int) 0 (s.runs.length - 1) = true
    simp [inB]; omega
  have h1 := begun_all hS r
  have h2 := over_ret hS r
  rw [hin] at h1 h2
  rw [show spanM { bareD s with lo := t, hi := t } (.begun r r) = _ from known_one rfl rfl _, spR_ok hV] at h1
  rw [show spanM { bareD s with lo := t, hi := t } (.past r r _) = _ from known_one rfl rfl _, spR_ok hV] at h2
  exact ⟨⟨_, h1⟩, ⟨_, h2⟩⟩
theorem read_intsA {l : List Int} {j : Nat} {x : Int} (h : l[j]? = some x) : readVar Try.prog 3 ((l.map I).map AV.c) (0 + (j : Int).toNat * 1) = some (.c (I x)) := by
  rw [rvA3, show 0 + (j : Int).toNat * 1 = j by omega, List.getElem?_map, List.getElem?_map, h]; rfl
theorem snap_two {H : Nat → AB} {o n : Nat} {cs : List CV} (hb : H o = .blk (cs.map .c)) (x : CV) : snaps H (cs.length + 40) [.msl o 1 0 n n, .c x] = some ([.sl cs 0 n, x], [o]) := by
  simp only [snap, snaps, Option.bind_some, Option.map_some, hb]
  rw [snaps_map_c H cs _ (by omega)]
  rfl

set_option maxHeartbeats 8000000 in
theorem endsLaw_ret {v : SV} {s : Sd} (hv : v.Is s) (hA : Ret Try.prog 13 [] (B true)) (w1 w2 : Nat) (hw1 : w1 < 256) (hw2 : w2 < 65536) : Ret Try.prog 6 [v.cv, .lit (.int .u8 w1), .lit (.int .u16 w2)] (B true) := by
  have e1 := hv.kn; have e2 := hv.short; have e3 := hv.rn; have e4 := hv.lo; have e5 := hv.hi
  refine ret_by (hm := false) Try.func6 rfl ?_
  conv => whnf
  refine ⟨v.blk, rfl, ?_⟩
  conv => whnf
  refine .ret (far_ret hv) rfl ?_
  conv => whnf
  refine ⟨by omega, ((w2 % 1000 : Nat) : Int), rem_nat16 hw2 1000, ?_⟩
  conv => whnf
  obtain ⟨mn, hmn, hm9⟩ : ∃ mn, w2 % 1000 = mn ∧ mn ≤ 999 := ⟨_, rfl, by have := Nat.mod_lt w2 (show 0 < 1000 by omega); omega⟩
  rw [hmn]
  refine ⟨v.blk, rfl, ?_⟩
  conv => whnf
  refine .ret (ref_ret hv) rfl ?_
  conv => whnf
  have hc1 := count_ret hv mn
  have hcl := clash_ret hv
  cases hd : validB s
  · rw [show spR s (inB (mn : Int) 0 999) (spanM s (.doneBy mn)) = ((0, 0), 1) by unfold spR; rw [hd]; rfl] at hc1
    rw [show clashR s = (0, 1) by unfold clashR; rw [hd]; rfl] at hcl
    dsimp only [spV] at hc1 hcl
    conv => whnf
    refine ⟨v.blk, rfl, ?_⟩
    conv => whnf
    refine .ret hc1 rfl ?_
    conv => whnf
    refine ⟨_, at_push_self _ _, ?_⟩
    conv => whnf
    refine ⟨v.blk, rfl, ?_⟩
    conv => whnf
    refine .ret hcl rfl ?_
    conv => whnf
    refine ⟨_, rfl, ?_⟩
    conv => whnf
    refine ⟨_, span_eql rfl rfl rfl _ _, ?_⟩
    conv => whnf
    refine .ret hA rfl ?_
    conv => whnf
    exact .val
  have out : ∀ {o : Option (Int × Int)}, spR s false o = ((0, 0), 2) := fun {o} => by unfold spR; rw [hd]; rfl
  have q1 := done_ret hv v.kn
  rw [show inB (v.kn : Int) 0 (s.sheep.length - 1) = false by simp [inB]; omega, out] at q1
  have q2 := count_ret hv 1000
  rw [show inB (1000 : Int) 0 999 = false from rfl, out] at q2
  have q3 := takes_ret hv 3
  rw [show inB (3 : Int) 0 2 = false from rfl, out] at q3
  have q4 := begun_all hv (-1)
  rw [show inB (-1 : Int) 0 (s.runs.length - 1) = false by simp [inB], out] at q4
  have q5 := over_ret hv v.rn
  rw [show inB (v.rn : Int) 0 (s.runs.length - 1) = false by simp [inB]; omega, out] at q5
  have q6 := late_ret hv 0
  rw [show lateR s 0 = (0, 2) by unfold lateR; rw [hd]; rfl] at q6
  dsimp only [spV] at q1 q2 q3 q4 q5 q6
  conv => whnf
  refine ⟨v.blk, rfl, ?_⟩
  conv => whnf
  refine ⟨_, rfl, ?_⟩
  conv => whnf
  refine .ret q1 rfl ?_
  conv => whnf
  refine ⟨_, at_push_self _ _, ?_⟩
  conv => whnf
  refine ⟨v.blk, rfl, ?_⟩
  conv => whnf
  refine .ret q2 rfl ?_
  conv => whnf
  refine ⟨_, at_push_self _ _, ?_⟩
  conv => whnf
  refine ⟨v.blk, rfl, ?_⟩
  conv => whnf
  refine .ret q3 rfl ?_
  conv => whnf
  refine ⟨_, at_push_self _ _, ?_⟩
  conv => whnf
  refine ⟨v.blk, by (first | rfl | ((repeat (refine (at_old _ _ _ (by first | (rw [new_n]; exact Nat.zero_lt_succ _) | exact Nat.zero_lt_succ _)).trans ?_)); rfl)), ?_⟩
  conv => whnf
  refine .ret q4 rfl ?_
  conv => whnf
  refine ⟨_, at_push_self _ _, ?_⟩
  conv => whnf
  refine ⟨v.blk, by (first | rfl | ((repeat (refine (at_old _ _ _ (by first | (rw [new_n]; exact Nat.zero_lt_succ _) | exact Nat.zero_lt_succ _)).trans ?_)); rfl)), ?_⟩
  conv => whnf
  refine ⟨v.blk, by (first | rfl | ((repeat (refine (at_old _ _ _ (by first | (rw [new_n]; exact Nat.zero_lt_succ _) | exact Nat.zero_lt_succ _)).trans ?_)); rfl)), ?_⟩
  conv => whnf
  refine .ret q5 rfl ?_
  conv => whnf
  refine ⟨_, at_push_self _ _, ?_⟩
  conv => whnf
  refine ⟨v.blk, by (first | rfl | ((repeat (refine (at_old _ _ _ (by first | (rw [new_n]; exact Nat.zero_lt_succ _) | exact Nat.zero_lt_succ _)).trans ?_)); rfl)), ?_⟩
  conv => whnf
  refine .ret q6 rfl ?_
  conv => whnf
  refine ⟨v.blk, by (first | rfl | ((repeat (refine (at_old _ _ _ (by first | (rw [new_n]; exact Nat.zero_lt_succ _) | exact Nat.zero_lt_succ _)).trans ?_)); rfl)), ?_⟩
  conv => whnf
  refine ⟨_, at_push_self _ _, ?_⟩
  conv => whnf
  refine ⟨_, at_new _ _ _, ?_⟩
  conv => whnf
  refine ⟨v.blk, by (repeat (first | refine (at_push_lt _ _ (by (simp only [new_n, push_n, TMap.set_n]; omega))).trans ?_ | refine (at_old _ _ _ (by (simp only [new_n, push_n, TMap.set_n]; omega))).trans ?_ | refine (at_set_ne _ _ (by (simp only [new_n, push_n, TMap.set_n]; omega))).trans ?_)); exact at_push_self _ _, ?_⟩
  conv => whnf
  refine loop_by (I := fun n st => ∃ (j : Nat) (h : Heap) (a b c : Nat), j ≤ 3 ∧ n = 3 - j ∧ Heap.at h 0 = v.blk ∧ Heap.at h a = bareBlk v ∧ Heap.at h b = t3Blk (pickF j s.lo zeroT) ∧ Heap.at h c = t3Blk (pickF j s.hi zeroT) ∧ (a = 6 ∧ b = 7 ∧ c = 8 ∧ h.n = 9 + j) ∧
    Has st 271 [(1, .c (.lit (.int .u8 w1))), (3, .ptr 0 0), (7, .c (I mn)), (24, .ptr a 0), (25, .ptr b 0), (26, .ptr c 0), (148, .c (.agg [I v.lo.a, I v.hi.a, I v.lo.b, I v.hi.b, I v.lo.c, I v.hi.c])), (149, .c (I j))] [] none h) ?_ (k := 3)
    ⟨0, _, _, _, _, by omega, rfl, ?_, ?_, ?_, ?_, ?_, rfl, ⟨rfl, rfl, rfl, rfl, rfl, rfl, rfl, rfl, trivial⟩, rfl, rfl, rfl, rfl⟩
  · rintro n st ⟨j, h, a, b, c, hj, rfl, h0, ha, hb, hc, ⟨rfl, rfl, rfl, hn⟩, hs1⟩
    refine hs1.run (hm := false) ?_
    obtain rfl | rfl | rfl | rfl : j = 0 ∨ j = 1 ∨ j = 2 ∨ j = 3 := by omega
    · conv => whnf
      refine ⟨_, at_push_self _ _, ?_⟩
      conv => whnf
      refine draw_by (hm := false) (by kernel_rfl) (by kernel_rfl) ?_
      conv => whnf
      refine ⟨_, at_new _ _ _, ?_⟩
      conv => whnf
      refine ⟨_, at_new _ _ _, ?_⟩
      conv => whnf
      refine ⟨by decide, ?_⟩
      conv => whnf
      refine ⟨_, (at_old _ _ _ (by omega)).trans hb, ?_⟩
      conv => whnf
      refine ⟨by rw [new_n]; omega, ?_⟩
      conv => whnf
      refine ⟨by decide, ?_⟩
      conv => whnf
      refine ⟨_, (at_set_ne _ _ (by decide)).trans ((at_old _ _ _ (by omega)).trans hc), ?_⟩
      conv => whnf
      refine ⟨by rw [TMap.set_n, new_n]; omega, ?_⟩
      conv => whnf
      refine ⟨by rw [show h.n = 9 from hn]; kernel_rfl , ?_⟩
      conv => whnf
      refine ⟨((1 : Nat) : Int), rfl, ?_⟩
      conv => whnf
      exact ⟨3 - 1, by omega, 1, _, 6, 7, 8, by omega, rfl, (at_set_ne _ _ (by decide)).trans ((at_set_ne _ _ (by decide)).trans ((at_old _ _ _ (by omega)).trans h0)), (at_set_ne _ _ (by decide)).trans ((at_set_ne _ _ (by decide)).trans ((at_old _ _ _ (by omega)).trans ha)),
        (at_set_ne _ _ (by decide)).trans ((at_set_self _ _ (by rw [new_n]; omega)).trans (by rw [e4.symm]; rfl)), (at_set_self _ _ (by rw [TMap.set_n, new_n]; omega)).trans (by rw [e5.symm]; rfl), ⟨rfl, rfl, rfl, by rw [TMap.set_n, TMap.set_n, new_n]; omega⟩, rfl, ⟨rfl, rfl, rfl, rfl, rfl, rfl, rfl, rfl, trivial⟩, rfl, rfl, rfl, rfl⟩
    · conv => whnf
      refine ⟨_, at_push_self _ _, ?_⟩
      conv => whnf
      refine draw_by (hm := false) (by kernel_rfl) (by kernel_rfl) ?_
      conv => whnf
      refine ⟨_, at_new _ _ _, ?_⟩
      conv => whnf
      refine ⟨_, at_new _ _ _, ?_⟩
      conv => whnf
      refine ⟨by decide, ?_⟩
      conv => whnf
      refine ⟨_, (at_old _ _ _ (by omega)).trans hb, ?_⟩
      conv => whnf
      refine ⟨by rw [new_n]; omega, ?_⟩
      conv => whnf
      refine ⟨by decide, ?_⟩
      conv => whnf
      refine ⟨_, (at_set_ne _ _ (by decide)).trans ((at_old _ _ _ (by omega)).trans hc), ?_⟩
      conv => whnf
      refine ⟨by rw [TMap.set_n, new_n]; omega, ?_⟩
      conv => whnf
      refine ⟨by rw [show h.n = 10 from hn]; kernel_rfl , ?_⟩
      conv => whnf
      refine ⟨((2 : Nat) : Int), rfl, ?_⟩
      conv => whnf
      exact ⟨3 - 2, by omega, 2, _, 6, 7, 8, by omega, rfl, (at_set_ne _ _ (by decide)).trans ((at_set_ne _ _ (by decide)).trans ((at_old _ _ _ (by omega)).trans h0)), (at_set_ne _ _ (by decide)).trans ((at_set_ne _ _ (by decide)).trans ((at_old _ _ _ (by omega)).trans ha)),
        (at_set_ne _ _ (by decide)).trans ((at_set_self _ _ (by rw [new_n]; omega)).trans (by rw [e4.symm]; rfl)), (at_set_self _ _ (by rw [TMap.set_n, new_n]; omega)).trans (by rw [e5.symm]; rfl), ⟨rfl, rfl, rfl, by rw [TMap.set_n, TMap.set_n, new_n]; omega⟩, rfl, ⟨rfl, rfl, rfl, rfl, rfl, rfl, rfl, rfl, trivial⟩, rfl, rfl, rfl, rfl⟩
    · conv => whnf
      refine ⟨_, at_push_self _ _, ?_⟩
      conv => whnf
      refine draw_by (hm := false) (by kernel_rfl) (by kernel_rfl) ?_
      conv => whnf
      refine ⟨_, at_new _ _ _, ?_⟩
      conv => whnf
      refine ⟨_, at_new _ _ _, ?_⟩
      conv => whnf
      refine ⟨by decide, ?_⟩
      conv => whnf
      refine ⟨_, (at_old _ _ _ (by omega)).trans hb, ?_⟩
      conv => whnf
      refine ⟨by rw [new_n]; omega, ?_⟩
      conv => whnf
      refine ⟨by decide, ?_⟩
      conv => whnf
      refine ⟨_, (at_set_ne _ _ (by decide)).trans ((at_old _ _ _ (by omega)).trans hc), ?_⟩
      conv => whnf
      refine ⟨by rw [TMap.set_n, new_n]; omega, ?_⟩
      conv => whnf
      refine ⟨by rw [show h.n = 11 from hn]; kernel_rfl , ?_⟩
      conv => whnf
      refine ⟨((3 : Nat) : Int), rfl, ?_⟩
      conv => whnf
      exact ⟨3 - 3, by omega, 3, _, 6, 7, 8, by omega, rfl, (at_set_ne _ _ (by decide)).trans ((at_set_ne _ _ (by decide)).trans ((at_old _ _ _ (by omega)).trans h0)), (at_set_ne _ _ (by decide)).trans ((at_set_ne _ _ (by decide)).trans ((at_old _ _ _ (by omega)).trans ha)),
        (at_set_ne _ _ (by decide)).trans ((at_set_self _ _ (by rw [new_n]; omega)).trans (by rw [e4.symm]; rfl)), (at_set_self _ _ (by rw [TMap.set_n, new_n]; omega)).trans (by rw [e5.symm]; rfl), ⟨rfl, rfl, rfl, by rw [TMap.set_n, TMap.set_n, new_n]; omega⟩, rfl, ⟨rfl, rfl, rfl, rfl, rfl, rfl, rfl, rfl, trivial⟩, rfl, rfl, rfl, rfl⟩
    · conv => whnf
      refine ⟨v.blk, h0, ?_⟩
      conv => whnf
      refine ⟨_, hb, ?_⟩
      conv => whnf
      have hgl := (valid_good hd (lo_combo hd).1)
      have hgh := (valid_good hd (lo_combo hd).2)
      obtain ⟨ea, h1, ca, da, dda, ja, hja, HA, rfl⟩ := day_ret hv (runsOk_all 0 s.runs (Int.le_refl _) (valid_order hd)) hgl.kinds hgl.takes h
      obtain ⟨eb, h2, cb, db, ddb, jb, hjb, HB, rfl⟩ := day_ret hv (runsOk_all 0 s.runs (Int.le_refl _) (valid_order hd)) hgh.kinds hgh.takes h1
      have hn1 := HA.n
      have hn2 := HB.n
      have o1 : ∀ i, i < h.n → Heap.at h1 i = Heap.at h i := HA.old
      have o2 : ∀ i, i < h1.n → Heap.at h2 i = Heap.at h1 i := HB.old
      have RA : RowsL 1 h2 dda ((doneL s s.lo ja).map row1) := HA.rd.ext (by omega) fun i hi _ => o2 i hi
      have RB : RowsL 1 h2 ddb ((doneL s s.hi jb).map row1) := HB.rd
      have lA := doneL_len hja
      have lB := doneL_len hjb
      have RA0 := HA.rb.two
      have RA1 := HA.rd.two
      have RB0 := HB.rb.two
      have RB1 := HB.rd.two
      have g0 : Heap.at h2 0 = v.blk := (o2 0 (by omega)).trans ((o1 0 (by omega)).trans h0)
      have g6 : Heap.at h2 6 = bareBlk v := (o2 6 (by omega)).trans ((o1 6 (by omega)).trans ha)
      have g7 : Heap.at h2 7 = t3Blk s.lo := (o2 7 (by omega)).trans ((o1 7 (by omega)).trans hb)
      have g8 : Heap.at h2 8 = t3Blk s.hi := (o2 8 (by omega)).trans ((o1 8 (by omega)).trans hc)
      have gl0 : Heap.at h1 0 = v.blk := (o1 0 (by omega)).trans h0
      have gl8 : Heap.at h1 8 = t3Blk s.hi := (o1 8 (by omega)).trans hc
      have hcb := bare_args (count_ret (bare_is hv) mn)
      rw [show inB (mn : Int) 0 999 = true by simp [inB]; omega, ends_count hd, spR_ok (bare_valid hd)] at hcb
      dsimp only [spV] at hcb
      have kA := doneL_cnt hd s.lo ja (n := mn) (by omega)
      have kB := doneL_cnt hd s.hi jb (n := mn) (by omega)
      rw [← kA, ← kB] at hcb
      have mA := many_retC (l := doneL s s.lo ja) (by omega) mn
      have mB := many_retC (l := doneL s s.hi jb) (by omega) mn
      by_cases hz : s.sheep = []
      · have nlA : doneL s s.lo ja = [] := List.length_eq_zero_iff.1 (by rw [lA, hz]; rfl)
        have nlB : doneL s s.hi jb = [] := List.length_eq_zero_iff.1 (by rw [lB, hz]; rfl)
        rw [nlA, nlB] at hcb
        have z0 : s.sheep.length = 0 := by rw [hz]; rfl
        obtain rfl := RA0.1 (List.length_eq_zero_iff.1 (by rw [List.length_map, List.length_append, List.length_replicate]; omega))
        obtain rfl := RA1.1 (List.length_eq_zero_iff.1 (by rw [List.length_map, List.length_append, List.length_replicate]; omega))
        obtain rfl := RB0.1 (List.length_eq_zero_iff.1 (by rw [List.length_map, List.length_append, List.length_replicate]; omega))
        obtain rfl := RB1.1 (List.length_eq_zero_iff.1 (by rw [List.length_map, List.length_append, List.length_replicate]; omega))
        refine .inl _ h1 .no ca ?_
        conv => whnf
        refine ⟨v.blk, gl0, ?_⟩
        conv => whnf
        refine ⟨_, gl8, ?_⟩
        conv => whnf
        refine .inl _ h2 .no cb ?_
        conv => whnf
        refine ⟨_, g6, ?_⟩
        conv => whnf
        refine .ret hcb rfl ?_
        conv => whnf
        refine ⟨_, at_push_self _ _, ?_⟩
        conv => whnf
        refine draw_by (hm := false) (by kernel_rfl) (by kernel_rfl) ?_
        conv => whnf
        refine ⟨_, at_new _ _ _, ?_⟩
        conv => whnf
        refine .pure _ _ rfl (many_nil _) ?_
        conv => whnf
        refine .pure _ _ rfl (many_nil _) ?_
        conv => whnf
        refine .pure _ _ rfl (mkspan_ret _ _) ?_
        conv => whnf
        refine dplain_val (span_neq rfl rfl rfl _ _) ?_
        conv => whnf
        rw [show (!(decide (((cntF [] (mn : Int) : Nat) : Int) = 0) && decide (((cntF [] (mn : Int) : Nat) : Int) = 0))) = false from rfl]
        conv => whnf
        refine ⟨by kernel_rfl, ?_⟩
        conv => whnf
        refine ⟨v.blk, (at_old _ _ _ (by omega)).trans g0, ?_⟩
        conv => whnf
        refine loop_by (I := fun n st => ∃ (r : Nat) (h : Heap), r ≤ s.runs.length ∧ n = s.runs.length - r ∧ Heap.at h 0 = v.blk ∧ Heap.at h 6 = bareBlk v ∧ Heap.at h 7 = t3Blk s.lo ∧ Heap.at h 8 = t3Blk s.hi ∧ 8 < h.n ∧
          Has st 271 [(1, .c (.lit (.int .u8 w1))), (3, .ptr 0 0), (24, .ptr 6 0), (25, .ptr 7 0), (26, .ptr 8 0), (195, .c (I v.rn)), (196, .c (I r))] [] none h) ?_ (k := s.runs.length)
          ⟨0, _, Nat.zero_le _, rfl, (at_old _ _ _ (by omega)).trans g0, (at_old _ _ _ (by omega)).trans g6, (at_old _ _ _ (by omega)).trans g7, (at_old _ _ _ (by omega)).trans g8, by rw [new_n]; omega,
            rfl, ⟨rfl, rfl, rfl, rfl, rfl, rfl, rfl, trivial⟩, rfl, rfl, rfl, rfl⟩
        clear g0 g6 g7 g8 h0 ha hb hc hs1 gl0 gl8
        rintro n st ⟨r, h, hr, rfl, g0, g6, g7, g8, hn3, hs1⟩
        refine hs1.run (hm := false) ?_
        conv => whnf
        cases hc : decide ((r : Int) < (v.rn : Int))
        case true =>
          have hr2 : r < s.runs.length := by simp at hc; omega
          obtain ⟨⟨x, hx⟩, _⟩ := knownM hv hd (lo_combo hd).1 hr2
          obtain ⟨_, ⟨y, hy⟩⟩ := knownM hv hd (lo_combo hd).2 hr2
          conv => whnf
          refine ⟨_, g6, ?_⟩
          conv => whnf
          refine ⟨_, g7, ?_⟩
          conv => whnf
          refine .ret (knownB_ret v s.lo) rfl ?_
          conv => whnf
          refine .ret hx rfl ?_
          conv => whnf
          refine ⟨_, at_push_self _ _, ?_⟩
          conv => whnf
          refine ⟨_, (at_old _ _ _ (by omega)).trans g6, ?_⟩
          conv => whnf
          refine ⟨_, (at_old _ _ _ (by omega)).trans g8, ?_⟩
          conv => whnf
          refine .ret (knownB_ret v s.hi) rfl ?_
          conv => whnf
          refine .ret hy rfl ?_
          conv => whnf
          refine ⟨_, at_push_self _ _, ?_⟩
          conv => whnf
          refine ⟨_, (at_old _ _ _ (by rw [new_n]; omega)).trans (at_new _ _ _), ?_⟩
          conv => whnf
          refine ⟨_, (at_old _ _ _ (by rw [new_n]; omega)).trans (at_new _ _ _), ?_⟩
          conv => whnf
          rw [show (x != x) = false by simp]
          conv => whnf
          refine ⟨_, at_new _ _ _, ?_⟩
          conv => whnf
          refine ⟨_, at_new _ _ _, ?_⟩
          conv => whnf
          rw [show (y != y) = false by simp]
          conv => whnf
          refine ⟨((r + 1 : Nat) : Int), by rw [wrap_eq (by omega) (by omega)]; omega, ?_⟩
          conv => whnf
          have up : ∀ (i : Nat) (a b c d : AB), i < h.n → Heap.at ((((h.push .dead a).set .dead h.n b).push .dead c).set .dead ((h.push .dead a).set .dead h.n b).n d) i = Heap.at h i := fun i a b c d hi => (at_old _ _ _ (by rw [new_n]; omega)).trans (at_old _ _ _ hi)
          exact ⟨s.runs.length - (r + 1), by omega, r + 1, _, hr2, rfl, (up 0 _ _ _ _ (by omega)).trans g0, (up 6 _ _ _ _ (by omega)).trans g6, (up 7 _ _ _ _ (by omega)).trans g7, (up 8 _ _ _ _ (by omega)).trans g8, by rw [new_n, new_n]; omega,
            rfl, ⟨rfl, rfl, rfl, rfl, rfl, rfl, rfl, trivial⟩, rfl, rfl, rfl, rfl⟩
        conv => whnf
        refine ⟨_, g0, ?_⟩
        conv => whnf
        rw [show ((v.kn : Int) == 0) = true by simp; omega]
        conv => whnf
        refine .ret hA rfl ?_
        conv => whnf
        exact .val
      have hz2 : s.sheep.length ≠ 0 := fun h => hz (List.length_eq_zero_iff.1 h)
      obtain ⟨i1, rfl, bl1⟩ := RA0.2 (fun h => by have := congrArg List.length h; rw [List.length_map, List.length_append, List.length_replicate, List.length_nil] at this; omega)
      obtain ⟨i2, rfl, bl2⟩ := RA1.2 (fun h => by have := congrArg List.length h; rw [List.length_map, List.length_append, List.length_replicate, List.length_nil] at this; omega)
      obtain ⟨i3, rfl, bl3⟩ := RB0.2 (fun h => by have := congrArg List.length h; rw [List.length_map, List.length_append, List.length_replicate, List.length_nil] at this; omega)
      obtain ⟨i4, rfl, bl4⟩ := RB1.2 (fun h => by have := congrArg List.length h; rw [List.length_map, List.length_append, List.length_replicate, List.length_nil] at this; omega)
      refine .inl _ h1 .no ca ?_
      conv => whnf
      refine ⟨v.blk, gl0, ?_⟩
      conv => whnf
      refine ⟨_, gl8, ?_⟩
      conv => whnf
      refine .inl _ h2 .no cb ?_
      conv => whnf
      refine ⟨_, g6, ?_⟩
      conv => whnf
      refine .ret hcb rfl ?_
      conv => whnf
      refine ⟨_, at_push_self _ _, ?_⟩
      conv => whnf
      have p2 : i2 < h2.n := RA.lt _ rfl
      have p4 : i4 < h2.n := RB.lt _ rfl
      have bl2' : Heap.at h2 i2 = .blk (((doneL s s.lo ja).map I).map .c) := (o2 i2 (HA.rd.lt _ rfl)).trans bl2
      refine draw_by (hm := false) (by kernel_rfl) (by kernel_rfl) ?_
      conv => whnf
      refine ⟨_, at_new _ _ _, ?_⟩
      conv => whnf
      refine .snapped _ _ [i4] _ (snap_two ((at_old _ _ _ p4).trans bl4) _) mB ?_
      rw [show ∀ (z : Int) (ids : List Nat), killed (I z) ids = [] from fun _ _ => rfl]
      conv => whnf
      refine .snapped _ _ [i2] _ (snap_two ((at_old _ _ _ p2).trans bl2') _) mA ?_
      rw [show ∀ (z : Int) (ids : List Nat), killed (I z) ids = [] from fun _ _ => rfl]
      conv => whnf
      refine .pure _ _ rfl (mkspan_ret _ _) ?_
      conv => whnf
      refine dplain_val (span_neq rfl rfl rfl _ _) ?_
      conv => whnf
      rw [show ∀ a b : Int, (!(decide (a = a) && decide (b = b))) = false from fun _ _ => by simp]
      conv => whnf
      refine ⟨by kernel_rfl, ?_⟩
      conv => whnf
      refine ⟨v.blk, (at_old _ _ _ (by omega)).trans g0, ?_⟩
      conv => whnf
      obtain ⟨LA, hLA⟩ : ∃ L, L = doneL s s.lo ja := ⟨_, rfl⟩
      obtain ⟨LB, hLB⟩ : ∃ L, L = doneL s s.hi jb := ⟨_, rfl⟩
      refine loop_by (I := fun n st => ∃ (r : Nat) (h : Heap), r ≤ s.runs.length ∧ n = s.runs.length - r ∧ Heap.at h 0 = v.blk ∧ Heap.at h 6 = bareBlk v ∧ Heap.at h 7 = t3Blk s.lo ∧ Heap.at h 8 = t3Blk s.hi ∧ Heap.at h i2 = .blk ((LA.map I).map .c) ∧ Heap.at h i4 = .blk ((LB.map I).map .c) ∧ (8 < h.n ∧ i2 < h.n ∧ i4 < h.n) ∧
        Has st 271 [(1, .c (.lit (.int .u8 w1))), (3, .ptr 0 0), (24, .ptr 6 0), (25, .ptr 7 0), (26, .ptr 8 0), (30, .msl i2 1 0 LA.length LA.length), (32, .msl i4 1 0 LB.length LB.length), (195, .c (I v.rn)), (196, .c (I r))] [] none h) ?_ (k := s.runs.length)
        ⟨0, _, Nat.zero_le _, rfl, (at_old _ _ _ (by omega)).trans g0, (at_old _ _ _ (by omega)).trans g6, (at_old _ _ _ (by omega)).trans g7, (at_old _ _ _ (by omega)).trans g8, (at_old _ _ _ p2).trans (by rw [hLA]; exact bl2'), (at_old _ _ _ p4).trans (by rw [hLB]; exact bl4), by rw [new_n]; omega,
          rfl, by rw [hLA, hLB]; exact ⟨rfl, rfl, rfl, rfl, rfl, rfl, rfl, rfl, rfl, trivial⟩, rfl, rfl, rfl, rfl⟩
      have hLAl : LA.length = s.sheep.length := by rw [hLA]; exact lA
      have hLBl : LB.length = s.sheep.length := by rw [hLB]; exact lB
      clear g0 g6 g7 g8 h0 ha hb hc hs1 gl0 gl8
      rintro n st ⟨r, h, hr, rfl, g0, g6, g7, g8, b2, b4, hn3, hs1⟩
      refine hs1.run (hm := false) ?_
      conv => whnf
      cases hc : decide ((r : Int) < (v.rn : Int))
      case true =>
        have hr2 : r < s.runs.length := by simp at hc; omega
        obtain ⟨⟨x, hx⟩, _⟩ := knownM hv hd (lo_combo hd).1 hr2
        obtain ⟨_, ⟨y, hy⟩⟩ := knownM hv hd (lo_combo hd).2 hr2
        conv => whnf
        refine ⟨_, g6, ?_⟩
        conv => whnf
        refine ⟨_, g7, ?_⟩
        conv => whnf
        refine .ret (knownB_ret v s.lo) rfl ?_
        conv => whnf
        refine .ret hx rfl ?_
        conv => whnf
        refine ⟨_, at_push_self _ _, ?_⟩
        conv => whnf
        refine ⟨_, (at_old _ _ _ (by omega)).trans g6, ?_⟩
        conv => whnf
        refine ⟨_, (at_old _ _ _ (by omega)).trans g8, ?_⟩
        conv => whnf
        refine .ret (knownB_ret v s.hi) rfl ?_
        conv => whnf
        refine .ret hy rfl ?_
        conv => whnf
        refine ⟨_, at_push_self _ _, ?_⟩
        conv => whnf
        refine ⟨_, (at_old _ _ _ (by rw [new_n]; omega)).trans (at_new _ _ _), ?_⟩
        conv => whnf
        refine ⟨_, (at_old _ _ _ (by rw [new_n]; omega)).trans (at_new _ _ _), ?_⟩
        conv => whnf
        rw [show (x != x) = false by simp]
        conv => whnf
        refine ⟨_, at_new _ _ _, ?_⟩
        conv => whnf
        refine ⟨_, at_new _ _ _, ?_⟩
        conv => whnf
        rw [show (y != y) = false by simp]
        conv => whnf
        refine ⟨((r + 1 : Nat) : Int), by rw [wrap_eq (by omega) (by omega)]; omega, ?_⟩
        conv => whnf
        have up : ∀ (i : Nat) (a b c d : AB), i < h.n → Heap.at ((((h.push .dead a).set .dead h.n b).push .dead c).set .dead ((h.push .dead a).set .dead h.n b).n d) i = Heap.at h i := fun i a b c d hi => (at_old _ _ _ (by rw [new_n]; omega)).trans (at_old _ _ _ hi)
        exact ⟨s.runs.length - (r + 1), by omega, r + 1, _, hr2, rfl, (up 0 _ _ _ _ (by omega)).trans g0, (up 6 _ _ _ _ (by omega)).trans g6, (up 7 _ _ _ _ (by omega)).trans g7, (up 8 _ _ _ _ (by omega)).trans g8, (up i2 _ _ _ _ (by omega)).trans b2, (up i4 _ _ _ _ (by omega)).trans b4, by rw [new_n, new_n]; omega,
          rfl, ⟨rfl, rfl, rfl, rfl, rfl, rfl, rfl, rfl, rfl, trivial⟩, rfl, rfl, rfl, rfl⟩
      have hre : r = s.runs.length := by simp at hc; omega
      conv => whnf
      refine ⟨_, g0, ?_⟩
      conv => whnf
      rw [show ((v.kn : Int) == 0) = false by simp; omega]
      conv => whnf
      refine ⟨_, g0, ?_⟩
      conv => whnf
      refine ⟨by omega, ((w1 % v.kn : Nat) : Int), rem_nat hw1 v.kn, ?_⟩
      conv => whnf
      obtain ⟨j, hj, hjl⟩ : ∃ j, w1 % v.kn = j ∧ j < s.sheep.length := ⟨_, rfl, by rw [← e1]; exact Nat.mod_lt _ (by omega)⟩
      rw [hj]
      have hdn := bare_args (done_ret (bare_is hv) j)
      rw [show inB (j : Int) 0 ((bareD s).sheep.length - 1) = true by show inB (j : Int) 0 (s.sheep.length - 1) = true; simp [inB]; omega, show (j : Int).toNat = j by omega, ends_done hd, spR_ok (bare_valid hd)] at hdn
      dsimp only [spV] at hdn
      have dA := doneL_at hd s.lo hja hjl
      have dB := doneL_at hd s.hi hjb hjl
      rw [← hLA] at dA
      rw [← hLB] at dB
      obtain ⟨xa, hxa⟩ : ∃ x, x = Me.of (dayOf s s.lo) (.doneAt j) := ⟨_, rfl⟩
      obtain ⟨xb, hxb⟩ : ∃ x, x = Me.of (dayOf s s.hi) (.doneAt j) := ⟨_, rfl⟩
      rw [← hxa] at dA hdn
      rw [← hxb] at dB hdn
      refine ⟨_, g6, ?_⟩
      conv => whnf
      refine .ret hdn rfl ?_
      conv => whnf
      refine ⟨_, at_push_self _ _, ?_⟩
      conv => whnf
      refine draw_by (hm := false) (by kernel_rfl) (by kernel_rfl) ?_
      conv => whnf
      refine ⟨_, at_new _ _ _, ?_⟩
      conv => whnf
      refine ⟨⟨rfl, by omega, by omega⟩, ?_⟩
      conv => whnf
      refine ⟨_, (at_old _ _ _ (by omega)).trans b2, look_read (read_intsA dA) ?_⟩
      conv => whnf
      refine ⟨⟨rfl, by omega, by omega⟩, ?_⟩
      conv => whnf
      refine ⟨_, (at_old _ _ _ (by omega)).trans b4, look_read (read_intsA dB) ?_⟩
      conv => whnf
      refine .pure _ _ rfl (mkspan_ret _ _) ?_
      conv => whnf
      refine dplain_val (span_eql rfl rfl rfl _ _) ?_
      conv => whnf
      rw [show ∀ a b : Int, (decide (a = a) && decide (b = b)) = true from fun _ _ => by simp]
      conv => whnf
      refine .pure _ _ rfl hA ?_
      conv => whnf
      refine ⟨by kernel_rfl, ?_⟩
      conv => whnf
      exact .val
  · (repeat (first | refine (at_push_lt _ _ (by (simp only [new_n, push_n, TMap.set_n]; omega))).trans ?_ | refine (at_old _ _ _ (by (simp only [new_n, push_n, TMap.set_n]; omega))).trans ?_ | refine (at_set_ne _ _ (by (simp only [new_n, push_n, TMap.set_n]; omega))).trans ?_)); rfl
  · refine (at_push_lt _ _ (by (simp only [new_n, push_n, TMap.set_n]; omega))).trans ((at_push_lt _ _ (by (simp only [new_n, push_n, TMap.set_n]; omega))).trans ((at_set_self _ _ (by (simp only [new_n, push_n, TMap.set_n]; omega))).trans rfl))
  · refine (at_push_lt _ _ (by (simp only [new_n, push_n, TMap.set_n]; omega))).trans ((at_push_self _ _).trans rfl)
  · exact (at_push_self _ _).trans rfl
  · have hnil : (TMap.nil : Heap).n = 0 := rfl
    simp only [new_n, push_n, TMap.set_n, hnil]
    exact ⟨trivial, trivial, trivial, trivial⟩
end Go.Ag
