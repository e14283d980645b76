/-
  Contracts of the statements' booked and equal.
-/
import Derived.Test.YtealfgeeigffbaaSome
namespace Go.Proofs.Ytealfgeeigffbaa
open Go.RowKit Go.Shelf

def bookAll (L : List Kal.Bk) : Kal.Kal := L.foldl Kal.book Kal.empty
theorem bookAll_take (L : List Kal.Bk) (k : Nat) (h : k < L.length) : bookAll (L.take (k + 1)) = Kal.book (bookAll (L.take k)) L[k] := by
  unfold bookAll; rw [List.take_succ_eq_append_getElem h, List.foldl_append]; rfl
theorem Moved.bel {B : Nat} {c c' : CalP} {K : Kal.Kal} {w w' W : World} (h : Moved B c c' K w w') (hw : Below W.heap.size W w) (hS : ∀ k, c.owns k → W.heap.size ≤ k) : Below W.heap.size W w' := hw.trans (h.ch.below hw.size hS)
theorem CalAt.size {B : Nat} {c : CalP} {K : Kal.Kal} {w : World} (h : CalAt B c K w) : B ≤ w.heap.size := Nat.le_trans h.lowC (Nat.le_of_lt (lt_of_block h.box))
theorem Book_at {B : Nat} {c : CalP} {K : Kal.Kal} {w : World} (C : Nat) (b : Kal.Bk) (h : CalAt B c K w) (hC : c.C = C) : Calls Try.prog 14 #[.pointer (some ⟨C, 0, none⟩), bkV b] w (BookPost B c K b w) := by
  have := Book_any b h h.size
  unfold CalP.ptr at this; rw [hC] at this; exact this

set_option maxRecDepth 100000 in
set_option maxHeartbeats 2000000 in
theorem booked_any (L : List Kal.Bk) (a : Option Addr) (c : Nat) (w : World) (h : BkA w a c L) : Calls Try.prog 30 #[.slice a L.length c] w (NewCal w (bookAll L)) := by
  have hl := Nat.le_trans h.1 h.2.1
  unfold maxLen at hl
  have H := Lib.hid h
  have HNew := Lib.hid (New_any w)
  generalize newP w = p0 at *
  clear h
  go_enter Try.func30, Try.ntmps30
  go_wp2_with fail
  refine HNew.out.mono ?_; rintro _ w1 ⟨rfl, d1, g1⟩
  have D1 := Lib.hid d1; have G1 := Lib.hid g1
  clear d1 g1
  go_wp2_with fail
  go_loopw [4] (fun i wr => ∃ (k : Nat) (d : CalP), k ≤ L.length ∧ i = .int .i64 (k : Int) ∧ d.C = p0.C ∧ Hid (CalAt w.heap.size d (bookAll (L.take k)) wr) ∧ Hid (Below w.heap.size w wr)) (fun i _ => L.length - (intOf i).toNat)
  case atStart => exact ⟨0, p0, by omega, rfl, rfl, D1, G1⟩
  case round =>
    obtain ⟨k, d, hk, rfl, dC, HD, HB⟩ := hrel
    have DC := Lib.hid dC
    by_cases hlt : k < L.length
    · obtain ⟨b, off, rfl, hb, hc⟩ := (H.out.below HB.out).at (by omega)
      obtain ⟨x0, x1, x2, x3⟩ := hc k hlt
      have HS := Lib.hid (bookAll_take L k hlt)
      have HBk := Lib.hid (Book_at p0.C L[k] HD.out DC.out)
      have k0 : (0 : Int) ≤ (k : Int) := by omega
      have k1 : (k : Int) < (L.length : Int) := by omega
      clear hc dC
      generalize L[k] = x at *
      go_wp2_with fail
      refine HBk.out.mono ?_
      rintro e w2 ⟨d2, rfl, hm⟩
      have HD2 := Lib.hid hm.at_
      rw [← HS.out] at HD2
      have HC2 := Lib.hid (show d2.C = p0.C from hm.same.1.trans DC.out)
      have HB2 := Lib.hid (hm.bel HB.out (fun j hj => (HD.out.lt j hj).1))
      clear hm
      go_wp2_with fail
      go_roundw
      case rel => exact ⟨k + 1, d2, hlt, by go_num, HC2.out, HD2, HB2⟩
      case measure => simp [intOf]; omega
    · have k1 : ¬ (k : Int) < (L.length : Int) := by omega
      have HE := Lib.hid (show bookAll (L.take k) = bookAll L by rw [List.take_of_length_le (by omega)])
      clear dC
      go_wp2_with fail
      go_ret
      exact (show NewCal w (bookAll L) (.returned (.pointer (some ⟨p0.C, 0, none⟩))) _ from ⟨d, by unfold CalP.ptr; rw [DC.out], by rw [← HE.out]; exact HD.out, HB.out⟩)

/-- The same lists. -/
def eqK (K K' : Kal.Kal) : Bool := (List.range 60).all (fun i => decide (K i = K' i))
theorem eqK_true {K K' : Kal.Kal} : eqK K K' = true ↔ ∀ i, i < 60 → K i = K' i := by unfold eqK; simp
theorem eqK_len {K K' : Kal.Kal} (h : ∀ i, i < 60 → K i = K' i) : (Kal.all K).length = (Kal.all K').length := by
  have : ∀ k, k ≤ 60 → Kal.upTo K k = Kal.upTo K' k := by
    intro k hk
    induction k with
    | zero => rfl
    | succ k ih => rw [Kal.upTo_succ, Kal.upTo_succ, ih (by omega), h k (by omega)]
  unfold Kal.all; rw [this 60 (by omega)]
set_option maxRecDepth 100000 in
set_option maxHeartbeats 2000000 in
theorem equal_any {B B' : Nat} {c d : CalP} {K K' : Kal.Kal} {w : World} (h : CalAt B c K w) (h' : CalAt B' d K' w) : Calls Try.prog 31 #[c.ptr, d.ptr] w fun e w' => e = .returned (.bool (eqK K K')) ∧ Below w.heap.size w w' := by
  have H := Lib.hid h; have H' := Lib.hid h'
  clear h h'
  go_enter Try.func31, Try.ntmps31
  go_wp2_with fail
  go_loopw [5] (fun i wr => ∃ k : Nat, k ≤ 60 ∧ i = .int .i64 (k : Int) ∧ Hid (∀ j, j < k → K j = K' j) ∧ Hid (Below w.heap.size w wr)) (fun i _ => 60 - (intOf i).toNat)
  case atStart => exact ⟨0, by omega, rfl, Lib.hid (fun j hj => by omega), Lib.hid (Below.refl _ _)⟩
  case round =>
    obtain ⟨k, hk, rfl, HE, HB⟩ := hrel
    by_cases hlt : k < 60
    · have k1 : (k : Int) < 60 := by omega
      have ht : Kal.isTool (k : Int) = true := by unfold Kal.isTool; simp; omega
      have HL := List_any (k : Int) (H.out.below HB.out)
      rw [ht, if_pos rfl, Int.toNat_natCast] at HL
      have HL := Lib.hid HL
      have HL' := Lib.hid (show ∀ w1, Below wr.heap.size wr w1 → Calls Try.prog 24 #[d.ptr, .int .i64 (k : Int)] w1 (NewRow w1 (K' k)) from fun w1 g => by
        have := List_any (k : Int) ((H'.out.below HB.out).below g)
        rw [ht, if_pos rfl, Int.toNat_natCast] at this
        exact this)
      have HY := Lib.hid (show K k = K' k → ∀ j, j < k + 1 → K j = K' j from fun h j hj => by
        by_cases e : j = k
        · subst e; exact h
        · exact HE.out j (by omega))
      have HNo := Lib.hid (show K k ≠ K' k → false = eqK K K' from fun h => by
        cases he : eqK K K' with
        | false => rfl
        | true => exact absurd (eqK_true.1 he k hlt) h)
      have HS := Lib.hid (show ∀ (w3 : World) (v v' : Value) (B1 B2 : Nat), BkOwn w3 B1 v (K k) → BkOwn w3 B2 v' (K' k) → Calls Try.prog 23 #[v, v'] w3 fun e w' => e = .returned (.bool (decide (K k = K' k))) ∧ Below w3.heap.size w3 w' from fun w3 v v' B1 B2 h1 h2 => by
        obtain ⟨a, m, rfl, ha⟩ := h1.form
        obtain ⟨a', m', rfl, ha'⟩ := h2.form
        exact refSame_any _ _ a m a' m' w3 ha ha')
      clear ht
      generalize K k = l at *
      generalize K' k = l' at *
      go_wp2_with fail
      refine HL.out.mono ?_; rintro e w1 ⟨v, rfl, o1, g1⟩
      have O1 := Lib.hid o1; have G1 := Lib.hid g1
      clear o1 g1
      go_wp2_with fail
      refine (HL'.out _ G1.out).mono ?_; rintro e w2 ⟨v', rfl, o2, g2⟩
      have O2 := Lib.hid o2; have O12 := Lib.hid (own_below O1.out g2); have G2 := Lib.hid (below_step (below_step HB.out G1.out) g2)
      clear o2 g2
      go_wp2_with fail
      refine (HS.out _ _ _ _ _ O12.out O2.out).mono ?_; rintro e w3 ⟨rfl, g3⟩
      have G3 := Lib.hid (below_step G2.out g3)
      clear g3
      by_cases hll : l = l'
      · have hd : decide (l = l') = true := decide_eq_true hll
        have HE2 := Lib.hid (HY.out hll)
        rw [hd]
        clear hll hd
        go_wp2_with fail
        go_roundw
        case rel => exact ⟨k + 1, hlt, by go_num, HE2, G3⟩
        case measure => simp [intOf]; omega
      · have hd : decide (l = l') = false := decide_eq_false hll
        have HN := Lib.hid (HNo.out hll)
        rw [hd]
        clear hll hd
        go_wp2_with fail
        go_ret
        exact ⟨ret_bool HN.out, G3.out⟩
    · obtain rfl : k = 60 := by omega
      have HT := Lib.hid (show true = eqK K K' from (eqK_true.2 HE.out).symm)
      have HL1 := Lib.hid (Len_any (H.out.below HB.out))
      have HL2 := Lib.hid (Len_any (H'.out.below HB.out))
      have hb : (((Kal.all K).length : Int) == ((Kal.all K').length : Int)) = true := by rw [eqK_len HE.out]; simp
      generalize (Kal.all K).length = x at *
      generalize (Kal.all K').length = y at *
      go_wp2_with fail
      refine HL1.out.mono ?_; rintro e w1 ⟨rfl, rfl⟩
      go_wp2_with fail
      refine HL2.out.mono ?_; rintro e w1 ⟨rfl, rfl⟩
      go_wp2_with fail
      go_ret
      exact ⟨ret_bool HT.out, HB.out⟩
end Go.Proofs.Ytealfgeeigffbaa
