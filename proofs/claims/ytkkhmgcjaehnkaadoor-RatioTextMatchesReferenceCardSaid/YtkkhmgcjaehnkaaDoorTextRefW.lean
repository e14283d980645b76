/-
  The walk of RatioTextMatchesReference: Print and Parse agree with the reference's.
-/
import Derived.Test.YtkkhmgcjaehnkaaDoorRefP
import Derived.Test.YtkkhmgcjaehnkaaDoorTxtB
namespace Go.Proofs.YtkkhmgcjaehnkaaDoor
open Go.RowKit Go.Shelf

theorem rd_fits {l : List UInt8} (h : l.length ≤ 11) : Fits (Ra.rd l) := by
  have := Ra.rdF_small h
  unfold Ra.rd Fits; split <;> omega
theorem ref_fits (l : List UInt8) : Fits (Ra.refNum l) ∧ Fits (Ra.refDen l) := by
  refine ⟨rd_fits (by rw [List.length_take]; omega), ?_⟩
  unfold Ra.refDen
  split
  · exact rd_fits (by rw [List.length_drop, List.length_take]; omega)
  · exact ⟨by omega, by omega⟩
theorem refParse_any (s : ByteArray) (w : World) (hs : s.size ≤ 1000) :
    Calls Tryd.prog 10 #[.string s] w fun e w' => e = .returned (ratRes (Ra.parse s.data.toList)) ∧ Below w.heap.size w w' := by
  rw [← Ra.refParse_eq]
  have hlen : s.data.toList.length = s.size := by simp
  unfold Ra.refParse
  by_cases h22 : 22 < s.size
  · rw [if_pos (by omega)]; exact refParse_long s w h22 hs
  · rw [if_neg (by omega)]
    have ff := ref_fits s.data.toList
    by_cases hp : Ra.slash s.data.toList < s.size
    · by_cases ho : Ra.Ok (Ra.refNum s.data.toList) (Ra.refDen s.data.toList)
      · by_cases hx : Ra.txt (Ra.refNum s.data.toList) (Ra.refDen s.data.toList) = s.data.toList
        · rw [if_pos ⟨ho, hx⟩]; exact refParse_slash_some s w (by omega) _ _ rfl hp rfl ff ho hx
        · rw [if_neg (fun h => hx h.2)]; exact refParse_slash_other s w (by omega) _ _ rfl hp rfl ff ho hx
      · rw [if_neg (fun h => ho h.1)]; exact refParse_slash_bad s w (by omega) _ _ rfl hp rfl ff ho
    · have hp' : Ra.slash s.data.toList = s.size := by have := Ra.slash_le s.data.toList; omega
      have hd : 1 = Ra.refDen s.data.toList := by unfold Ra.refDen; rw [hp', hlen, if_neg (by omega)]
      by_cases ho : Ra.Ok (Ra.refNum s.data.toList) (Ra.refDen s.data.toList)
      · by_cases hx : Ra.txt (Ra.refNum s.data.toList) (Ra.refDen s.data.toList) = s.data.toList
        · rw [if_pos ⟨ho, hx⟩]; exact refParse_plain_some s w (by omega) _ _ rfl hp' hd ff ho hx
        · rw [if_neg (fun h => hx h.2)]; exact refParse_plain_other s w (by omega) _ _ rfl hp' hd ff ho hx
      · rw [if_neg (fun h => ho h.1)]; exact refParse_plain_bad s w (by omega) _ _ rfl hp' hd ff ho

theorem print_both (n d : Int) (a : Addr) (fa : Fits n ∧ Fits d) : ∃ (U : ByteArray) (x : Int),
    (∀ w, Tab a w → Calls Tryd.prog 6 #[ratV n d] w fun e w' => e = .returned (.tuple #[.string U, .int .i64 x]) ∧ Below w.heap.size w w') ∧
    (∀ w, Calls Tryd.prog 8 #[ratV n d] w fun e w' => e = .returned (.tuple #[.string U, .int .i64 x]) ∧ Below w.heap.size w w') := by
  by_cases ho : Ra.Ok n d
  · exact ⟨_, _, fun w ht => Print_yes n d w a ht ho, fun w => refPrint_yes n d w ho⟩
  · exact ⟨_, _, fun w _ => Print_no n d w fa ho, fun w => refPrint_no n d w fa ho⟩
theorem parse_both (s : ByteArray) (a : Addr) (hs : s.size ≤ 1000) : ∃ p q x : Int,
    (∀ w, Tab a w → Calls Tryd.prog 9 #[.string s] w fun e w' => e = .returned (.tuple #[ratV p q, .int .i64 x]) ∧ Below w.heap.size w w') ∧
    (∀ w, Calls Tryd.prog 10 #[.string s] w fun e w' => e = .returned (.tuple #[ratV p q, .int .i64 x]) ∧ Below w.heap.size w w') := by
  have h1 := fun w ht => Parse_any s w a ht hs
  have h2 := fun w => refParse_any s w hs
  cases h : Ra.parse s.data.toList with
  | none => rw [h] at h1 h2; exact ⟨0, 0, 30, h1, h2⟩
  | some x => rw [h] at h1 h2; exact ⟨x.1, x.2, 0, h1, h2⟩

set_option maxRecDepth 100000 in
set_option maxHeartbeats 2000000 in
theorem textRef_any (n d : Int) (s : ByteArray) (w : World) (ht : ∃ ad, Tab ad w) (n1 : -9223372036854775808 ≤ n) (n2 : n ≤ 9223372036854775807) (d1 : -9223372036854775808 ≤ d) (d2 : d ≤ 9223372036854775807) (_ : s.size ≤ maxLen) :
    Calls Tryd.prog 3 #[.int .i64 n, .int .i64 d, .string s] w fun e w' => e = .returned (.bool true) ∧ Below w.heap.size w w' := by
  obtain ⟨ad, ht⟩ := ht
  obtain ⟨S, hS⟩ : ∃ S, s.extract 0 (min (s.size : Int) 60).toNat = S := ⟨_, rfl⟩
  have hSz : S.size ≤ 60 := by rw [← hS, ByteArray.size_extract]; omega
  obtain ⟨U, x, hp1, hp2⟩ := print_both n d ad ⟨⟨n1, n2⟩, ⟨d1, d2⟩⟩
  obtain ⟨p, q, y, hq1, hq2⟩ := parse_both S ad (by omega)
  have hs := fun w ht => sane_any w ad ht
  have hi := fun w => is_any n d w
  have HS := Lib.hid hs; have T0 := Lib.hid ht; have P1 := Lib.hid hp1; have P2 := Lib.hid hp2; have Q1 := Lib.hid hq1; have Q2 := Lib.hid hq2; have HI := Lib.hid hi
  have e1 : (U.toList == U.toList) = true := beq_self_eq_true _
  clear hs ht hp1 hp2 hq1 hq2 hi hSz
  go_enter Tryd.func3, Tryd.ntmps3
  go_wp2_with fail
  refine (HS.out _ T0.out).mono ?_; rintro e w1 ⟨rfl, g1⟩
  have Lc := Lib.hid g1
  go_wp2_with fail
  refine (HI.out _).mono ?_; rintro e w2 ⟨rfl, g2⟩
  have Lc := Lib.hid (below_step Lc.out g2)
  go_wp2_with fail
  refine (P1.out _ (T0.out.below Lc.out)).mono ?_; rintro e w3 ⟨rfl, g3⟩
  have Lc := Lib.hid (below_step Lc.out g3)
  go_wp2_with fail
  refine (HI.out _).mono ?_; rintro e w4 ⟨rfl, g4⟩
  have Lc := Lib.hid (below_step Lc.out g4)
  go_wp2_with fail
  refine (P2.out _).mono ?_; rintro e w5 ⟨rfl, g5⟩
  have Lc := Lib.hid (below_step Lc.out g5)
  go_wp2_with fail
  refine (Q1.out _ (T0.out.below Lc.out)).mono ?_; rintro e w6 ⟨rfl, g6⟩
  have Lc := Lib.hid (below_step Lc.out g6)
  have K := Lib.hid (BoxAt.new w6 p q)
  have Lc := Lib.hid (below_step Lc.out (below_new w6 (.cells #[.int .i64 p, .int .i64 q] 27)))
  go_wp2_with fail
  refine (Q2.out _).mono ?_; rintro e w7 ⟨rfl, g7⟩
  have Lc := Lib.hid (below_step Lc.out g7)
  have K := Lib.hid (K.out.below g7)
  have K := Lib.hid (K.out.below (below_new w7 (.cells #[.int .i64 p, .int .i64 q] 27)))
  have J := Lib.hid (BoxAt.new w7 p q)
  have Lc := Lib.hid (below_step Lc.out (below_new w7 (.cells #[.int .i64 p, .int .i64 q] 27)))
  have K0 := K.out.2.1; have K1 := K.out.2.2
  have J0 := J.out.2.1; have J1 := J.out.2.2
  go_wp2_with fail
  go_ret
  exact ⟨rfl, Lc.out⟩
end Go.Proofs.YtkkhmgcjaehnkaaDoor
