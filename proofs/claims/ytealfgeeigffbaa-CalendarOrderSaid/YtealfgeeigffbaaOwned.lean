/-
  The contract of Owned.
-/
import Derived.Test.YtealfgeeigffbaaBook
namespace Go.Proofs.Ytealfgeeigffbaa
open Go.RowKit Go.Shelf

def ofO (o : Int) (b : Kal.Bk) : Bool := decide (b.o = o)
/-- What Owned has collected. -/
def gotO (K : Kal.Kal) (o : Int) (k j : Nat) : List Kal.Bk := (Kal.upTo K k).filter (ofO o) ++ ((K k).take j).filter (ofO o)
theorem gotO_zero (K : Kal.Kal) (o : Int) (k : Nat) : gotO K o k 0 = (Kal.upTo K k).filter (ofO o) := by simp [gotO]
theorem gotO_all (K : Kal.Kal) (o : Int) (k j : Nat) (h : (K k).length ≤ j) : gotO K o k j = (Kal.upTo K (k + 1)).filter (ofO o) := by
  unfold gotO; rw [List.take_of_length_le h, Kal.upTo_succ, List.filter_append]
theorem gotO_yes (K : Kal.Kal) (o : Int) (k j : Nat) (h : j < (K k).length) (hb : (K k)[j].o = o) : gotO K o k (j + 1) = gotO K o k j ++ [(K k)[j]] := by
  unfold gotO; rw [List.take_succ_eq_append_getElem h, List.filter_append, List.append_assoc]
  congr 2
  simp [ofO, hb]
theorem gotO_no (K : Kal.Kal) (o : Int) (k j : Nat) (h : j < (K k).length) (hb : ¬ (K k)[j].o = o) : gotO K o k (j + 1) = gotO K o k j := by
  unfold gotO; rw [List.take_succ_eq_append_getElem h, List.filter_append]
  simp [ofO, hb]
theorem gotO_len {K : Kal.Kal} (h : Kal.Ok K) (o : Int) (k j : Nat) (hk : k < 60) : (gotO K o k j).length ≤ 60000000 := by
  unfold gotO
  rw [List.length_append]
  have h1 := List.length_filter_le (ofO o) (Kal.upTo K k)
  have h2 := List.length_filter_le (ofO o) ((K k).take j)
  have h3 := Kal.upTo_len h k (by omega)
  have h4 := h.len hk
  have h5 : ((K k).take j).length ≤ (K k).length := by rw [List.length_take]; omega
  have h6 : k * 1000000 ≤ 59 * 1000000 := Nat.mul_le_mul_right _ (by omega)
  omega
theorem Owned_nil (o : Int) (w : World) : Calls Try.prog 26 #[.pointer none, .int .i64 o] w (NewRow w []) := by
  unfold NewRow
  go_enter Try.func26, Try.ntmps26
  go_wp2_with fail
  refine (isNil_nil w).mono ?_; rintro _ w1 ⟨rfl, rfl⟩
  go_wp2_with fail
  go_ret
  exact ⟨_, rfl, BkOwn.nil _ _, Below.refl _ _⟩

set_option maxRecDepth 100000 in
set_option maxHeartbeats 2000000 in
theorem Owned_any {B : Nat} {c : CalP} {K : Kal.Kal} {w : World} (o : Int) (h : CalAt B c K w) : Calls Try.prog 26 #[c.ptr, .int .i64 o] w (NewRow w (Kal.owned K o)) := by
  have HN := Lib.hid (isNil_no h)
  have hc := h.cells.1
  have H := Lib.hid h
  have HO : Hid (Kal.owned K o = (Kal.upTo K 60).filter (ofO o)) := Lib.hid rfl
  obtain ⟨i0, hi, hz0, hz1, hz2⟩ := info_parts info_booking
  clear h
  go_enter Try.func26, Try.ntmps26
  go_wp2_with fail
  refine HN.out.mono ?_; rintro _ w1 ⟨rfl, rfl⟩
  go_wp2_with fail
  go_loopw [5, 17] (fun v i wr => ∃ k : Nat, k ≤ 60 ∧ i = .int .i64 (k : Int) ∧ Hid (BkOwn wr w.heap.size v ((Kal.upTo K k).filter (ofO o))) ∧ Hid (Below w.heap.size w wr)) (fun _ i _ => 60 - (intOf i).toNat)
  case atStart => exact ⟨0, by omega, rfl, Lib.hid (BkOwn.nil _ _), Lib.hid (Below.refl _ _)⟩
  case round =>
    obtain ⟨k, hk, rfl, HV, HB⟩ := hrel
    by_cases hlt : k < 60
    · have d60 : decide ((k : Int) < 60) = true := decide_eq_true (by omega)
      obtain ⟨a, m, e1, hr⟩ := H.out.row hlt
      have hv := ((H.out.below HB.out).cells.2 k hlt).1
      rw [e1] at hv
      have hle := H.out.ok.len hlt
      have HR := Lib.hid hr
      have HG := Lib.hid (show (Kal.upTo K k).filter (ofO o) = gotO K o k 0 from (gotO_zero K o k).symm)
      rw [HG.out] at HV
      clear e1 hr HG
      rename World => wo
      go_wp2_with fail
      go_loopw [5, 24] (fun v i wr => ∃ j : Nat, j ≤ (K k).length ∧ i = .int .i64 (j : Int) ∧ Hid (BkOwn wr w.heap.size v (gotO K o k j)) ∧ Hid (Below w.heap.size w wr)) (fun _ i _ => (K k).length - (intOf i).toNat)
      case atStart => exact ⟨0, by omega, rfl, HV, HB⟩
      case round =>
        obtain ⟨j, hj, rfl, HV2, HB2⟩ := hrel
        by_cases hjl : j < (K k).length
        · obtain ⟨b0, off, rfl, hb0, hcs⟩ := (HR.out.below HB2.out).at (by omega)
          obtain ⟨x0, x1, x2, x3⟩ := hcs j hjl
          have HY := Lib.hid (gotO_yes K o k j hjl); have HNo := Lib.hid (gotO_no K o k j hjl)
          have hln := gotO_len H.out.ok o k j hlt
          have j0 : (0 : Int) ≤ (j : Int) := by omega
          have j1 : (j : Int) < ((K k).length : Int) := by omega
          have hsz := HB2.out.size
          clear hcs
          generalize (K k)[j] = x at *
          by_cases ho : x.o = o
          · have e1 : (x.o == o) = true := by rw [beq_iff_eq]; exact ho
            have HG := Lib.hid (HY.out ho)
            have HOwn := Lib.hid ((HV2.out.alloc (bkObj x)).alloc (bkObj x))
            have HNW := Lib.hid (World.news_of_block (w := (wr.alloc (bkObj x)).alloc (bkObj x)) (B := wr.heap.size + 1) (cs := #[.int .i64 x.tool, .int .i64 x.s, .int .i64 x.e, .int .i64 x.o]) (t := 35) (fr := (0, 0)) (by have := heap_alloc_new (wr.alloc (bkObj x)) (bkObj x); rwa [World.size_alloc] at this))
            clear HY HNo ho
            go_wp2_with (at_builtin; refine wpList_append_own _ rfl _ _ 23 rfl w.heap.size 35 i0 _ 4 32 Try.underlying23 hi hz0 hz1 hz2 rfl (by decide) _ _ _ rfl HOwn.out ⟨wr.heap.size + 1, 0, none⟩ 1 1 [.int .i64 x.tool, .int .i64 x.s, .int .i64 x.e, .int .i64 x.o] rfl rfl HNW.out ?c2 ?c3 ?c4 ?c5 ?_)
            case c2 => simp [Value.oneCell']
            case c3 => unfold maxLen; omega
            case c4 => omega
            case c5 => omega
            intro v' w3 hown' hgrow _
            have O3 := Lib.hid (show BkOwn w3 w.heap.size v' (gotO K o k (j + 1)) by rw [HG.out]; exact BkOwn.snoc hown')
            have G3 := Lib.hid (HB2.out.trans (((((Below.refl w.heap.size wr).alloc hsz (bkObj x)).alloc (by simp; omega) (bkObj x)).grown hgrow (by simp; omega) (fun kk e => (HV2.out.lt kk e).1))))
            clear hown' hgrow
            go_wp2_with fail
            go_roundw
            case rel => exact ⟨j + 1, hjl, by go_num, O3, G3⟩
            case measure => simp [intOf]; omega
          · have e1 : (x.o == o) = false := by rw [beq_eq_false_iff_ne]; exact ho
            have HG := Lib.hid (HNo.out ho)
            clear HY HNo ho
            go_wp2_with fail
            go_roundw
            case rel => exact ⟨j + 1, hjl, by go_num, Lib.hid (by rw [HG.out]; exact HV2.out.alloc _), Lib.hid (below_step HB2.out (below_new _ _))⟩
            case measure => simp [intOf]; omega
        · have HG := Lib.hid (gotO_all K o k j (by omega))
          rw [HG.out] at HV2
          have j1 : ¬ (j : Int) < ((K k).length : Int) := by omega
          go_wp2_with fail
          go_roundw
          case rel => exact ⟨k + 1, by omega, by go_num, HV2, HB2⟩
          case measure => simp [intOf]; omega
    · obtain rfl : k = 60 := by omega
      rw [HO.out]
      go_wp2_with fail
      go_ret
      exact ⟨_, rfl, HV.out, HB.out⟩
end Go.Proofs.Ytealfgeeigffbaa
