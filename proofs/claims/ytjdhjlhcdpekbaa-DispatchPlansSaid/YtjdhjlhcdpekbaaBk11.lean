/-
  The statements' calendar with bookings, and how many there are.
-/
import Derived.Test.YtjdhjlhcdpekbaaRules
import Derived.Test.YtjdhjlhcdpekbaaKeep
import Derived.Test.YtjdhjlhcdpekbaaIs
import Derived.Test.YtjdhjlhcdpekbaaOff
import Derived.Lib.MinMax
namespace Go.Proofs.Ytjdhjlhcdpekbaa
open Go.RowKit Go.Shelf Go.Sort Dsp

def bkL (X : List (List Int)) : List Kal.Bk := someL (X.take 20)
def bkK (X : List (List Int)) : Kal.Kal := bookAll (bkL X)
theorem ArrsA.take {k : Nat} {w : World} {a : Option Addr} {c : Nat} {X : List (List Int)} (h : ArrsA k w a c X) (n : Nat) : ArrsA k w a c (X.take n) := by
  refine ⟨by rw [List.length_take]; exact Nat.le_trans (Nat.min_le_right _ _) h.1, h.2.1, fun y hy => h.2.2.1 y (List.mem_of_mem_take hy), fun i hi => ?_⟩
  have hi' : i < X.length := by rw [List.length_take] at hi; omega
  obtain ⟨b, off, e, hb, hc⟩ := h.2.2.2 i hi'
  refine ⟨b, off, e, hb, fun j v hj => hc j v ?_⟩
  rw [List.getElem_take] at hj; exact hj
theorem bookAll_len (L : List Kal.Bk) (k : Nat) (h : k < L.length) : (Kal.all (bookAll (L.take (k + 1)))).length = (Kal.all (bookAll (L.take k))).length + if Kal.free (bookAll (L.take k)) L[k] = true then 1 else 0 := by
  rw [bookAll_take L k h, len_book]
theorem all_le (L : List Kal.Bk) : ∀ k, k ≤ L.length → (Kal.all (bookAll (L.take k))).length ≤ k
  | 0, _ => by
    have e : Kal.all (bookAll (L.take 0)) = [] := by rw [List.eq_nil_iff_forall_not_mem]; intro x hx; obtain ⟨i, -, h⟩ := mem_all.1 hx; simp [bookAll, Kal.empty] at h
    rw [e]; exact Nat.le_refl _
  | k + 1, h => by
    rw [bookAll_len L k (by omega)]
    have := all_le L k (by omega)
    split <;> omega

set_option maxRecDepth 100000 in
set_option maxHeartbeats 1000000 in
theorem booked11_any (X : List (List Int)) (a : Option Addr) (c : Nat) (w : World) (h : ArrsA 4 w a c X) :
    Calls Try.prog 12 #[.slice a X.length c] w fun e w' => ∃ C, e = .returned (.tuple #[.pointer (some ⟨C, 0, none⟩), .int .i64 ((Kal.all (bkK X)).length : Int)]) ∧ CalIs C (bkK X) w w' := by
  have hl := Nat.le_trans h.1 h.2.1
  unfold maxLen at hl
  have hxc : X.length ≤ c := h.1
  have H := Lib.hid (h.take 20)
  have HNew := Lib.hid (new_is w)
  obtain ⟨n0, hn0⟩ : ∃ n0, (X.take 20).length = n0 := ⟨_, rfl⟩
  have hn1 : n0 = min X.length 20 := by rw [← hn0, List.length_take, Nat.min_comm]
  have hmin : min (X.length : Int) 20 = (n0 : Int) := by omega
  have g0 : (0 : Int) ≤ (n0 : Int) := by omega
  have g1 : (n0 : Int) ≤ (c : Int) := by omega
  have HN0 := Lib.hid hn0
  have HK : Hid (bkK X = bookAll (bkL X)) := Lib.hid rfl
  have HSm := Lib.hid (fun (w1 : World) (hb : Below w.heap.size w w1) => some_is (W := w1) (X.take 20) a c (H.out.below hb) (Below.refl _ _))
  rw [hn0] at HSm
  generalize hL : someL (X.take 20) = L at HSm
  have HLL : Hid (bkL X = L) := Lib.hid hL
  have hL40 : L.length ≤ 40 := by rw [← hL]; exact someL_len _
  clear h hn1 hn0 hL H
  go_enter Try.func12, Try.ntmps12
  go_wp2_with fail
  refine HNew.out.mono ?_
  rintro _ w1 ⟨C, rfl, c1⟩
  have C1 := Lib.hid c1
  have HS1 := Lib.hid (HSm.out w1 c1.bel)
  clear c1
  go_wp2_with fail
  refine HS1.out.mono ?_
  rintro _ w2 ⟨v, rfl, o2, b2, -⟩
  have HOff := Lib.hid ((C1.out.off b2).sub (S' := fun k => w1.heap.size ≤ k ∧ k < w2.heap.size) (fun k hk => hk.1))
  have HVS := Lib.hid (show ∀ k, v.ownBlock = some k → w1.heap.size ≤ k ∧ k < w2.heap.size from fun k hk => o2.lt k hk)
  have HV2 := Lib.hid o2
  obtain ⟨av, cv, rfl, -, -⟩ := o2.arg
  clear o2 b2 HSm HS1
  go_wp2_with fail
  go_loopw [5, 7] (fun nn i wr => ∃ (k n : Nat), k ≤ L.length ∧ i = .int .i64 (k : Int) ∧ nn = .int .i64 (n : Int) ∧ n ≤ k ∧ Hid (n = (Kal.all (bookAll (L.take k))).length) ∧ Hid (CalOff C (bookAll (L.take k)) w (fun k => w1.heap.size ≤ k ∧ k < w2.heap.size) wr) ∧ Hid (BkOwn wr w1.heap.size (.slice av L.length cv) L) ∧ Hid (w2.heap.size ≤ wr.heap.size)) (fun _ i _ => L.length - (intOf i).toNat)
  case atStart => exact ⟨0, 0, Nat.zero_le _, rfl, rfl, Nat.le_refl _, Lib.hid (by have := all_le L 0 (Nat.zero_le _); omega), HOff, HV2, Lib.hid (Nat.le_refl _)⟩
  case round =>
    obtain ⟨k, n, hk, rfl, rfl, hnk, HN, HC, HR, HZ⟩ := hrel
    by_cases hlt : k < L.length
    · obtain ⟨av2, cv2, ev, ha, -⟩ := HR.out.arg
      injection ev with e1 e2 e3; subst e1; subst e3
      obtain ⟨b, off, rfl, hb, hc⟩ := ha.at (by omega)
      obtain ⟨x0, x1, x2, x3⟩ := hc k hlt
      have HS := Lib.hid (bookAll_take L k hlt)
      have HLn := Lib.hid (bookAll_len L k hlt)
      have HBk := Lib.hid (book_off L[k] HC.out)
      have k0 : (0 : Int) ≤ (k : Int) := by omega
      have k1 : (k : Int) < (L.length : Int) := by omega
      clear hc ha
      generalize L[k] = x at *
      generalize hf : Kal.free (bookAll (L.take k)) x = F at *
      clear hf
      go_wp2_with fail
      refine HBk.out.mono ?_
      rintro e w3 ⟨rfl, hoff, hch⟩
      have HC3 := Lib.hid (show CalOff C (bookAll (L.take (k + 1))) w (fun k => w1.heap.size ≤ k ∧ k < w2.heap.size) w3 by
        rw [HS.out]; exact hoff.sub (fun k hk => ⟨hk, Nat.lt_of_lt_of_le hk.2 HZ.out⟩))
      have HR3 := Lib.hid (own_ch HR.out hch (fun kk hkk h => h.1 (HVS.out kk hkk)))
      have HZ3 := Lib.hid (Nat.le_trans HZ.out hch.size)
      clear hoff hch
      cases F with
      | true =>
        have HN3 := Lib.hid (show n + 1 = (Kal.all (bookAll (L.take (k + 1)))).length by rw [HLn.out, ← HN.out]; rfl)
        simp only [if_true]
        go_wp2_with fail
        go_roundw
        case rel => exact ⟨k + 1, n + 1, hlt, by go_num, by go_num, by omega, HN3, HC3, HR3, HZ3⟩
        case measure => simp [intOf]; omega
      | false =>
        have HN3 := Lib.hid (show n = (Kal.all (bookAll (L.take (k + 1)))).length by rw [HLn.out, ← HN.out]; rfl)
        simp only [Bool.false_eq_true, if_false]
        go_wp2_with fail
        go_roundw
        case rel => exact ⟨k + 1, n, hlt, by go_num, rfl, by omega, HN3, HC3, HR3, HZ3⟩
        case measure => simp [intOf]; omega
    · have k1 : ¬ (k : Int) < (L.length : Int) := by omega
      have HE := Lib.hid (show bkK X = bookAll (L.take k) by rw [HK.out, HLL.out, List.take_of_length_le (by omega)])
      have HN4 := Lib.hid (show (n : Int) = ((Kal.all (bkK X)).length : Int) by rw [HE.out, ← HN.out])
      go_wp2_with fail
      go_ret2
      exact ⟨C, by rw [← HN4.out]; rfl, by rw [HE.out]; exact HC.out.is⟩
end Go.Proofs.Ytjdhjlhcdpekbaa
