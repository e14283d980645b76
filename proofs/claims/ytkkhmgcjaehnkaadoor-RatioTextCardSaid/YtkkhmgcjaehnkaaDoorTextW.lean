/-
  The walk of RatioText: all cases. No condition beside what an input bears.
-/
import Derived.Test.YtkkhmgcjaehnkaaDoorTxtN
import Derived.Test.YtkkhmgcjaehnkaaDoorTxtS0y
import Derived.Test.YtkkhmgcjaehnkaaDoorTxtS0n
import Derived.Test.YtkkhmgcjaehnkaaDoorTxtS1y
import Derived.Test.YtkkhmgcjaehnkaaDoorTxtS1n
import Derived.Test.YtkkhmgcjaehnkaaDoorTxtS2y
import Derived.Test.YtkkhmgcjaehnkaaDoorTxtS2n
import Derived.Test.YtkkhmgcjaehnkaaDoorTxtN0y
import Derived.Test.YtkkhmgcjaehnkaaDoorTxtN0n
import Derived.Test.YtkkhmgcjaehnkaaDoorTxtN1y
import Derived.Test.YtkkhmgcjaehnkaaDoorTxtN1n
import Derived.Test.YtkkhmgcjaehnkaaDoorTxtN2y
import Derived.Test.YtkkhmgcjaehnkaaDoorTxtN2n
namespace Go.Proofs.YtkkhmgcjaehnkaaDoor
open Go.RowKit Go.Shelf

theorem cmp_three {an ad bn bd : Int} (ha : Ra.Ok an ad) (hb : Ra.Ok bn bd) :
    (cmpR an ad bn bd = -1 ∧ cmpR bn bd an ad = 1) ∨ (cmpR an ad bn bd = 0 ∧ cmpR bn bd an ad = 0) ∨ (cmpR an ad bn bd = 1 ∧ cmpR bn bd an ad = -1) := by
  have e1 : cmpR an ad bn bd = (if an * bd < bn * ad then -1 else if bn * ad < an * bd then 1 else 0) := if_pos ⟨ha, hb⟩
  have e2 : cmpR bn bd an ad = (if bn * ad < an * bd then -1 else if an * bd < bn * ad then 1 else 0) := if_pos ⟨hb, ha⟩
  rw [e1, e2]
  by_cases h : an * bd < bn * ad
  · have h' : ¬ bn * ad < an * bd := by omega
    exact .inl ⟨if_pos h, by rw [if_neg h', if_pos h]⟩
  · by_cases h' : bn * ad < an * bd
    · exact .inr (.inr ⟨by rw [if_neg h, if_pos h'], if_pos h'⟩)
    · exact .inr (.inl ⟨by rw [if_neg h, if_neg h'], by rw [if_neg h', if_neg h]⟩)
theorem cmp_self {n d : Int} (h : Ra.Ok n d) : cmpR n d n d ≤ 0 := by
  rcases cmp_three h h with ⟨a, b⟩ | ⟨a, b⟩ | ⟨a, b⟩ <;> omega
/-- Clamp's answer, by cases: the number and its limits, or a limit. -/
theorem clamp_cases {an ad ln ld hn hd : Int} (oa : Ra.Ok an ad) (ol : Ra.Ok ln ld) (oh : Ra.Ok hn hd) :
    (clampR an ad ln ld hn hd = (ln, ld)) ∨ (clampR an ad ln ld hn hd = (hn, hd)) ∨ (clampR an ad ln ld hn hd = (an, ad) ∧ cmpR ln ld an ad ≤ 0 ∧ cmpR an ad hn hd ≤ 0) := by
  have e : clampR an ad ln ld hn hd = (if cmpR an ad ln ld < 0 then (ln, ld) else if 0 < cmpR an ad hn hd then (hn, hd) else (an, ad)) := if_pos ⟨oa, ol, oh⟩
  rw [e]
  by_cases h : cmpR an ad ln ld < 0
  · exact .inl (if_pos h)
  · rw [if_neg h]
    by_cases h' : 0 < cmpR an ad hn hd
    · exact .inr (.inl (if_pos h'))
    · exact .inr (.inr ⟨if_neg h', by rcases cmp_three oa ol with ⟨a, b⟩ | ⟨a, b⟩ | ⟨a, b⟩ <;> omega, by omega⟩)

theorem ratioText_any (a b c d e f : Int) (s : ByteArray) (w : World) (ht : ∃ ad, Tab ad w) (f0 : Fits a) (f1 : Fits b) (f2 : Fits c) (f3 : Fits d) (f4 : Fits e) (f5 : Fits f) (_ : s.size ≤ maxLen) :
    Calls Tryd.prog 4 #[pairsV a b c d e f, .string s] w fun e' w' => e' = .returned (.bool true) ∧ Below w.heap.size w w' := by
  obtain ⟨ad, ht⟩ := ht
  obtain ⟨S, hS⟩ : ∃ S, s.extract 0 (min (s.size : Int) 60).toNat = S := ⟨_, rfl⟩
  have hSz : S.size ≤ 60 := by rw [← hS, ByteArray.size_extract]; omega
  cases hp : Ra.parse S.data.toList with
  | none =>
    cases h0 : Ra.red a b with
    | none => exact txtW_n_none a b c d e f s S hS hSz w ad ht ⟨f0, f1⟩ ⟨f2, f3⟩ ⟨f4, f5⟩ hp (.inl h0)
    | some x =>
      cases h1 : Ra.red c d with
      | none => exact txtW_n_none a b c d e f s S hS hSz w ad ht ⟨f0, f1⟩ ⟨f2, f3⟩ ⟨f4, f5⟩ hp (.inr (.inl h1))
      | some y =>
        cases h2 : Ra.red e f with
        | none => exact txtW_n_none a b c d e f s S hS hSz w ad ht ⟨f0, f1⟩ ⟨f2, f3⟩ ⟨f4, f5⟩ hp (.inr (.inr h2))
        | some z =>
          obtain ⟨p0, q0⟩ := x; obtain ⟨p1, q1⟩ := y; obtain ⟨p2, q2⟩ := z
          have o0 := (Ra.red_ok h0).1; have o1 := (Ra.red_ok h1).1; have o2 := (Ra.red_ok h2).1
          by_cases hA : 0 < cmpR p1 q1 p2 q2
          · rcases clamp_cases o0 o1 o2 with hc | hc | ⟨hc, _, _⟩
            · exact txtW_n_1y a b c d e f s S hS hSz w ad ht ⟨f0, f1⟩ ⟨f2, f3⟩ ⟨f4, f5⟩ hp p0 q0 p1 q1 p2 q2 h0 h1 h2 hc _ rfl hA
            · exact txtW_n_2y a b c d e f s S hS hSz w ad ht ⟨f0, f1⟩ ⟨f2, f3⟩ ⟨f4, f5⟩ hp p0 q0 p1 q1 p2 q2 h0 h1 h2 hc _ rfl hA
            · exact txtW_n_0y a b c d e f s S hS hSz w ad ht ⟨f0, f1⟩ ⟨f2, f3⟩ ⟨f4, f5⟩ hp p0 q0 p1 q1 p2 q2 h0 h1 h2 hc _ rfl hA
          · rcases clamp_cases o0 o1 o2 with hc | hc | ⟨hc, hl, hh⟩
            · exact txtW_n_1n a b c d e f s S hS hSz w ad ht ⟨f0, f1⟩ ⟨f2, f3⟩ ⟨f4, f5⟩ hp p0 q0 p1 q1 p2 q2 h0 h1 h2 hc _ _ _ rfl hA rfl (cmp_self o1) rfl (by omega)
            · exact txtW_n_2n a b c d e f s S hS hSz w ad ht ⟨f0, f1⟩ ⟨f2, f3⟩ ⟨f4, f5⟩ hp p0 q0 p1 q1 p2 q2 h0 h1 h2 hc _ _ _ rfl hA rfl (by omega) rfl (cmp_self o2)
            · exact txtW_n_0n a b c d e f s S hS hSz w ad ht ⟨f0, f1⟩ ⟨f2, f3⟩ ⟨f4, f5⟩ hp p0 q0 p1 q1 p2 q2 h0 h1 h2 hc _ _ _ rfl hA rfl hl rfl hh
  | some x =>
    obtain ⟨p, q⟩ := x
    cases h0 : Ra.red a b with
    | none => exact txtW_s_none a b c d e f s S hS hSz w ad ht ⟨f0, f1⟩ ⟨f2, f3⟩ ⟨f4, f5⟩ p q hp (.inl h0)
    | some x =>
      cases h1 : Ra.red c d with
      | none => exact txtW_s_none a b c d e f s S hS hSz w ad ht ⟨f0, f1⟩ ⟨f2, f3⟩ ⟨f4, f5⟩ p q hp (.inr (.inl h1))
      | some y =>
        cases h2 : Ra.red e f with
        | none => exact txtW_s_none a b c d e f s S hS hSz w ad ht ⟨f0, f1⟩ ⟨f2, f3⟩ ⟨f4, f5⟩ p q hp (.inr (.inr h2))
        | some z =>
          obtain ⟨p0, q0⟩ := x; obtain ⟨p1, q1⟩ := y; obtain ⟨p2, q2⟩ := z
          have o0 := (Ra.red_ok h0).1; have o1 := (Ra.red_ok h1).1; have o2 := (Ra.red_ok h2).1
          by_cases hA : 0 < cmpR p1 q1 p2 q2
          · rcases clamp_cases o0 o1 o2 with hc | hc | ⟨hc, _, _⟩
            · exact txtW_s_1y a b c d e f s S hS hSz w ad ht ⟨f0, f1⟩ ⟨f2, f3⟩ ⟨f4, f5⟩ p q hp p0 q0 p1 q1 p2 q2 h0 h1 h2 hc _ rfl hA
            · exact txtW_s_2y a b c d e f s S hS hSz w ad ht ⟨f0, f1⟩ ⟨f2, f3⟩ ⟨f4, f5⟩ p q hp p0 q0 p1 q1 p2 q2 h0 h1 h2 hc _ rfl hA
            · exact txtW_s_0y a b c d e f s S hS hSz w ad ht ⟨f0, f1⟩ ⟨f2, f3⟩ ⟨f4, f5⟩ p q hp p0 q0 p1 q1 p2 q2 h0 h1 h2 hc _ rfl hA
          · rcases clamp_cases o0 o1 o2 with hc | hc | ⟨hc, hl, hh⟩
            · exact txtW_s_1n a b c d e f s S hS hSz w ad ht ⟨f0, f1⟩ ⟨f2, f3⟩ ⟨f4, f5⟩ p q hp p0 q0 p1 q1 p2 q2 h0 h1 h2 hc _ _ _ rfl hA rfl (cmp_self o1) rfl (by omega)
            · exact txtW_s_2n a b c d e f s S hS hSz w ad ht ⟨f0, f1⟩ ⟨f2, f3⟩ ⟨f4, f5⟩ p q hp p0 q0 p1 q1 p2 q2 h0 h1 h2 hc _ _ _ rfl hA rfl (by omega) rfl (cmp_self o2)
            · exact txtW_s_0n a b c d e f s S hS hSz w ad ht ⟨f0, f1⟩ ⟨f2, f3⟩ ⟨f4, f5⟩ p q hp p0 q0 p1 q1 p2 q2 h0 h1 h2 hc _ _ _ rfl hA rfl hl rfl hh
end Go.Proofs.YtkkhmgcjaehnkaaDoor
