/- Layer 8: slices of small numbers read as data. No conditions. -/
import Derived.Test.YtbkbbkkmahenlaaGreatDoorPrP
import Derived.ChangeSlices
import Derived.WideShapes
/- Layer 8: a slice of small numbers is read as data. -/
namespace Go.Ag
open Go.Proofs Go.ChangeShapes Go.WideShapes Go.RowKit
set_option maxRecDepth 100000

structure ByL (bc : List CV) (bo bn : Nat) : Prop where
  el : ∀ i, i < bn → ∃ w : Nat, w < 65536 ∧ bc[bo + i]? = some (.lit (.int .u16 w))
  sz : bn < 2 ^ 63
theorem rvC46 (cells : List CV) (off : Nat) : readVarC Tryz.prog 46 cells off = cells[off]? := rfl
structure By where
  bc : List CV
  bo : Nat
  bn : Nat
def By.ok (b : By) : Prop := ByL b.bc b.bo b.bn
def byW (b : By) : CV := .sl b.bc b.bo b.bn
def W16 (z : Int) : CV := .lit (.int .u16 z)
theorem repP_w {Φ : Nat → Option Obj} : ∀ (zs : List Int) (vs : List Value), (∀ (i : Nat) (z : Int), zs[i]? = some z → vs[i]? = some (Value.int .u16 z)) → RepP Φ (zs.map W16) vs
  | [], _, _ => trivial
  | z :: zs, [], h => by have := h 0 z rfl; simp at this
  | z :: zs, v :: vs, h => by
    have h0 := h 0 z rfl
    simp only [List.getElem?_cons_zero, Option.some.injEq] at h0
    exact ⟨h0, repP_w zs vs fun i y hy => by have := h (i + 1) y (by simpa using hy); simpa using this⟩
theorem byL_of {zs : List Int} (hw : ∀ n ∈ zs, (Lit.int .u16 n).wf = true) (hz : zs.length < 2 ^ 63) : ByL (zs.map W16) 0 zs.length := by
  refine ⟨fun i hi => ?_, hz⟩
  obtain ⟨z, hz⟩ := get_some hi
  obtain ⟨w, rfl, h2⟩ := law_u16 (hw z (List.mem_of_getElem? hz))
  exact ⟨w, h2, by rw [Nat.zero_add, List.getElem?_map, hz]; rfl⟩
theorem byL_nil : ByL [] 0 0 := ⟨fun i hi => absurd hi (by omega), by omega⟩

section
variable {H : Type} {enc : TypeId × Value → H} {w : World} {base : Nat} {spare : Nat → Bool} {held : Bool}
theorem cells46 : Tryz.prog.cellsOf 46 = 1 := by kernel_rfl
theorem open_by0 {r : Reach} {b0 : Nat} {v : Value} {x : DataW H} {ps : List MemPlace} (hv : Value.okWide Tryz.prog w r b0 47 v) (h : DataW.Trod enc Tryz.prog w base spare held 47 v x ps) : ∃ bc bo bn, ByL bc bo bn ∧ RepC (allOf w) (.sl bc bo bn) v := by
  obtain ⟨a, len, cap, rfl⟩ := okWide_slice Tryz.underlying47 hv
  obtain ⟨fuel, hf⟩ := h
  rcases open_ints Tryz.underlying47 Tryz.underlying46 cells46 hf with ⟨h0, _⟩ | ⟨a', len', cap', zs, hcs, hb, hl, hm, hmm, hx, hc, hw⟩
  · have h0 : [Value.slice a len cap] = [.slice none 0 0] := h0
    simp only [List.cons.injEq, and_true] at h0
    rw [h0]
    exact ⟨[], 0, 0, byL_nil, .inl ⟨rfl, .inr rfl⟩⟩
  · have hcs : [Value.slice a len cap] = [.slice (some a') len' cap'] := hcs
    simp only [List.cons.injEq, and_true] at hcs
    rw [hcs]
    clear hcs hx
    have hlm : len' ≤ zs.length := by rw [hmm]; split <;> omega
    by_cases hlen : len' = 0
    · subst hlen
      exact ⟨[], 0, 0, byL_nil, .inl ⟨rfl, .inl ⟨a', cap', rfl⟩⟩⟩
    · have hlt : (zs.take len').length = len' := by rw [List.length_take]; omega
      have hmx : maxLen < 2 ^ 63 := by decide
      refine ⟨(zs.take len').map W16, 0, (zs.take len').length, byL_of (fun n hn => hw n (List.mem_of_mem_take hn)) (by rw [hlt]; omega), .inr ?_⟩
      obtain ⟨b, off, spot⟩ := a'
      have hc0 := hc 0 (by omega)
      have hspot : spot = none := by simpa [Addr.add] using World.cell?_spot hc0
      subst hspot
      have plain : ∀ n, (⟨b, off, none⟩ : Addr).add n = ⟨b, off + n, none⟩ := fun n => by unfold Addr.add; split <;> simp_all
      rw [plain] at hc0
      cases hh : w.heap[b]? with
      | none => simp [World.cell?, hh] at hc0
      | some o =>
        cases o with
        | cells cs e fr =>
          refine ⟨b, off, cap', cs, e, fr, by simp [hlt], by rw [hlt]; simpa using hl, hh, repP_w _ _ fun i z hz => ?_⟩
          have hi : i < len' := by have := (List.getElem?_eq_some_iff.1 hz).1; omega
          have hz' : zs[i]? = some z := by rw [List.getElem?_take_of_lt hi] at hz; exact hz
          have hci := hc i (by omega)
          rw [show zs.getD i 0 = z by rw [List.getD_eq_getElem?_getD, hz']; rfl, plain] at hci
          simp only [World.cell?, hh] at hci
          simpa using hci
        | _ => simp [World.cell?, hh] at hc0
theorem open_by {r : Reach} {b0 : Nat} {v : Value} {x : DataW H} {ps : List MemPlace} (hv : Value.okWide Tryz.prog w r b0 47 v) (h : DataW.Trod enc Tryz.prog w base spare held 47 v x ps) : ∃ b : By, b.ok ∧ RepC (allOf w) (byW b) v := by
  obtain ⟨bc, bo, bn, h1, h2⟩ := open_by0 hv h
  exact ⟨⟨bc, bo, bn⟩, h1, h2⟩
end
end Go.Ag
