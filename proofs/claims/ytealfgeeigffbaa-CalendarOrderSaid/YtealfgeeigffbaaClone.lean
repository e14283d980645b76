/-
  The contract of Clone.
-/
import Derived.Test.YtealfgeeigffbaaOwned
namespace Go.Proofs.Ytealfgeeigffbaa
open Go.RowKit Go.Shelf

theorem CalAt.congr {B : Nat} {c : CalP} {K K' : Kal.Kal} {w : World} (h : CalAt B c K w) (e : ∀ i, i < 60 → K' i = K i) : CalAt B c K' w :=
  ⟨h.box, h.tab, fun i hi => by rw [e i hi]; exact h.rows i hi, h.apart, ⟨fun i hi => by rw [e i hi]; exact h.ok.srt i hi, fun i hi => by rw [e i hi]; exact h.ok.mem i hi⟩, h.lowC, h.lowT⟩
/-- The first k lists. -/
def partK (K : Kal.Kal) (k : Nat) : Kal.Kal := fun j => if j < k then K j else []
theorem partK_ok {K : Kal.Kal} (h : Kal.Ok K) (k : Nat) : Kal.Ok (partK K k) := by
  refine ⟨fun i hi => ?_, fun i hi b hb => ?_⟩
  · unfold partK; split
    · exact h.srt i hi
    · exact Kal.Srt.nil
  · unfold partK at hb; split at hb
    · exact h.mem i hi b hb
    · cases hb
theorem CalAt.mono {B B' : Nat} {c : CalP} {K : Kal.Kal} {w : World} (h : CalAt B c K w) (hB : B' ≤ B) : CalAt B' c K w :=
  ⟨h.box, h.tab, fun i hi => (h.rows i hi).mono hB, h.apart, h.ok, Nat.le_trans hB h.lowC, Nat.le_trans hB h.lowT⟩
/-- A new calendar, in memory of its own. -/
def NewCal (w : World) (K : Kal.Kal) (e : Ending) (w' : World) : Prop := ∃ d : CalP, e = .returned d.ptr ∧ CalAt w.heap.size d K w' ∧ Below w.heap.size w w'
theorem Clone_nil (w : World) : Calls Try.prog 32 #[.pointer none] w fun e w' => e = .returned (.pointer none) ∧ w = w' := by
  go_enter Try.func32, Try.ntmps32
  go_wp2_with fail
  refine (isNil_nil w).mono ?_; rintro _ w1 ⟨rfl, rfl⟩
  go_wp2_with fail
  go_ret
  exact ⟨rfl, rfl⟩

set_option maxRecDepth 100000 in
set_option maxHeartbeats 2000000 in
theorem Clone_any {B : Nat} {c : CalP} {K : Kal.Kal} {w : World} (h : CalAt B c K w) : Calls Try.prog 32 #[c.ptr] w (NewCal w K) := by
  have HN := Lib.hid (isNil_no h)
  have HNew := Lib.hid (New_any w)
  have hc := h.cells.1
  have H := Lib.hid h
  clear h
  generalize newP w = p0 at *
  go_enter Try.func32, Try.ntmps32
  go_wp2_with fail
  refine HN.out.mono ?_; rintro _ w1 ⟨rfl, rfl⟩
  go_wp2_with fail
  refine HNew.out.mono ?_; rintro _ w1 ⟨rfl, d1, g1⟩
  have hc := cell_below g1 hc
  have D1 := Lib.hid (d1.congr (K' := partK K 0) (fun i hi => by simp [partK, Kal.empty]))
  have G1 := Lib.hid g1
  clear d1 g1
  go_wp2_with fail
  go_loopw [14] (fun i wr => ∃ (k : Nat) (d : CalP), k ≤ 60 ∧ i = .int .i64 (k : Int) ∧ d.C = p0.C ∧ d.T = p0.T ∧ Hid (CalAt w.heap.size d (partK K k) wr) ∧ Hid (Below w.heap.size w wr)) (fun i _ => 60 - (intOf i).toNat)
  case atStart => exact ⟨0, p0, by omega, rfl, rfl, rfl, D1, G1⟩
  case round =>
    obtain ⟨k, d, hk, rfl, dC, dT, HD, HB⟩ := hrel
    have DC := Lib.hid dC; have DT := Lib.hid dT
    by_cases hlt : k < 60
    · have d60 : decide ((k : Int) < 60) = true := decide_eq_true (by omega)
      have k0 : (0 : Int) ≤ (k : Int) := by omega
      have k1 : (k : Int) < 60 := by omega
      obtain ⟨a, m, e1, hr⟩ := (H.out.below HB.out).row hlt
      have hv := ((H.out.below HB.out).cells.2 k hlt).1
      rw [e1] at hv
      have HE := Lib.hid e1
      have hle := H.out.ok.len hlt
      have HC := Lib.hid (show ∀ v : World, v.heap = wr.heap → Calls Try.prog 43 #[.slice a (K k).length m] v (NewRow v (K k)) from fun v hv => by
        have := sClone_any _ (K k) B v (((H.out.below HB.out).rows k hlt).of_heap hv) hle
        rw [HE.out] at this; exact this)
      have HS0 := Lib.hid (show ∀ v v1 : World, v.heap = wr.heap → Below v.heap.size v v1 → v1.cell? ⟨p0.C, 0, none⟩ = some (.pointer (some ⟨p0.T, 0, none⟩)) ∧ v1.cell? ⟨p0.T, k, none⟩ = some (d.V k) ∧ v1.frozen? ⟨p0.T, k, none⟩ = false from fun v v1 hv g => by
        have h1 := (HD.out.of_heap hv).below g
        have h2 := h1.cells.1; have h3 := h1.cells.2 k hlt
        rw [DC.out, DT.out] at h2; rw [DT.out] at h3
        exact ⟨h2, h3⟩)
      have HSS := Lib.hid (show ∀ (v1 : World) (x : Value), v1.cell? ⟨p0.C, 0, none⟩ = some (.pointer (some ⟨p0.T, 0, none⟩)) → (v1.setCell ⟨p0.T, k, none⟩ x).cell? ⟨p0.C, 0, none⟩ = some (.pointer (some ⟨p0.T, 0, none⟩)) from fun v1 x hv => by
        exact (World.cell?_of_block (a := ⟨p0.C, 0, none⟩) (Below.heap_setCell _ _ _ _ D1.out.ne)).trans hv)
      clear e1 hr dC dT
      go_wp2_with fail
      go_quiet (fail)
      go_wp2_with fail
      go_region_held3 (fun v => v.cell? ⟨p0.C, 0, none⟩ = some (.pointer (some ⟨p0.T, 0, none⟩)))
        (first | exact (HSS.out _ _ (HS0.out _ _ (by rfl) g3).1) | exact (HS0.out _ _ (by rfl) g3).1 | exact (HS0.out _ _ (by rfl) (Below.refl _ _)).1)
        (first | (go_at_call 43; refine (HC.out _ (by rfl)).mono ?_; rintro e v1 ⟨v', rfl, o3, g3⟩; obtain ⟨a5, m5, rfl, -⟩ := o3.form; have hT := (HS0.out _ _ (by rfl) g3).2; obtain ⟨hT1, hT2⟩ := hT))
      have hM := ((HD.out.of_heap (v := wr.drewN 0) rfl).store (K' := partK K (k + 1)) (x := .slice a5 (K k).length m5) (w2 := v1) hlt
        (fun j _ hj => by unfold partK; by_cases h : j < k; (rw [if_pos h, if_pos (by omega)]); (rw [if_neg h, if_neg (by omega)])) (partK_ok H.out.ok (k + 1))
        (by rw [show partK K (k + 1) k = K k by simp [partK]]; exact o3.mono (by exact HB.out.size)) (Ch.ofBelow (show Below wr.heap.size (wr.drewN 0) v1 from ⟨g3.os, g3.tape, g3.output, g3.size, g3.block⟩)) (fun i e => .inr (o3.lt i e).1))
      have hA := hM.at_
      rw [DT.out] at hA
      have HA := Lib.hid hA
      have HB2 := Lib.hid (((HB.out.trans ((show Below wr.heap.size wr v1 from ⟨g3.os, g3.tape, g3.output, g3.size, g3.block⟩).mono HB.out.size))).setCell (p := ⟨p0.T, k, none⟩) D1.out.lowT (.slice a5 (K k).length m5))
      have hdc := DC.out; have hdt := DT.out
      clear hM hA hT1 hT2 o3 g3
      go_wp2_with fail
      go_roundw
      case rel => exact ⟨k + 1, _, hlt, by go_num, by exact hdc, by exact hdt, HA, HB2⟩
      case measure => simp [intOf]; omega
    · obtain rfl : k = 60 := by omega
      have D2 := Lib.hid (HD.out.congr (K' := K) (fun i hi => by simp [partK, hi]))
      go_wp2_with fail
      go_ret
      exact (show NewCal w K (.returned (.pointer (some ⟨p0.C, 0, none⟩))) _ from ⟨d, by unfold CalP.ptr; rw [DC.out], D2.out, HB.out⟩)
end Go.Proofs.Ytealfgeeigffbaa
