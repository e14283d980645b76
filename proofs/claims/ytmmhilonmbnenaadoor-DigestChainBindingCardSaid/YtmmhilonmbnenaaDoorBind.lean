/-
  The walk of DigestBinding: it returns true for all arguments. Condition: the table of 64 words reads as the program's text lays it.
-/
import Derived.Test.YtmmhilonmbnenaaDoorAll
namespace Go.Proofs.YtmmhilonmbnenaaDoor
open Go.RowKit Go.Shelf Tree

/-- What a walk with two lists keeps. -/
def TwoAt (w : World) (a : Option Addr) (c : Nat) (P : List ByteArray) (b : Option Addr) (d : Nat) (Q : List ByteArray) (V : World) : Prop := Tab V ∧ StrA V a c P ∧ StrA V b d Q ∧ Below w.heap.size w V
theorem TwoAt.step {w V V' : World} {a b : Option Addr} {c d : Nat} {P Q : List ByteArray} (h : TwoAt w a c P b d Q V) (hb : Below V.heap.size V V') : TwoAt w a c P b d Q V' :=
  ⟨h.1.below hb, h.2.1.below hb, h.2.2.1.below hb, below_step h.2.2.2 hb⟩
theorem two_start {W : World} (ht : Tab W) {pa qa : Option Addr} {pc qc : Nat} {P Q : List ByteArray} (hp : StrA W pa pc P) (hq : StrA W qa qc Q) : TwoAt W pa pc P qa qc Q W := ⟨ht, hp, hq, Below.refl _ _⟩

theorem wayR_bd (s : ByteArray) (hs : s.size ≤ 100) : ∀ (r : List ByteArray) (n i : Nat), (∀ x ∈ r, x.size = 32) → ∀ x ∈ (wayR Sha.shaS s n i r).1, x.size ≤ 1000
  | [], n, i, _, x, hx => by
    unfold wayR at hx
    rw [List.mem_singleton] at hx
    subst hx
    rw [ByteArray.size_append]
    show 1 + s.size ≤ 1000
    omega
  | y :: r, n, i, hr, x, hx => by
    have ih := fun n i => wayR_bd s hs r n i (fun z hz => hr z (List.mem_cons_of_mem _ hz))
    have hy : y.size = 32 := hr y (List.mem_cons_self ..)
    have hv := fun n i => wayR_size Sha.shaS_size s r n i
    unfold wayR at hx
    by_cases h : n ≤ 1
    · rw [if_pos h, List.mem_singleton] at hx
      subst hx
      rw [ByteArray.size_append]
      show 1 + s.size ≤ 1000
      omega
    · by_cases hi : i < leftN n
      · rw [if_neg h, if_pos hi] at hx
        rcases List.mem_cons.1 hx with rfl | hx
        · rw [ByteArray.size_append, ByteArray.size_append, hv, hy]; decide
        · exact ih _ _ x hx
      · rw [if_neg h, if_neg hi] at hx
        rcases List.mem_cons.1 hx with rfl | hx
        · rw [ByteArray.size_append, ByteArray.size_append, hv, hy]; decide
        · exact ih _ _ x hx

set_option maxRecDepth 100000 in
set_option maxHeartbeats 2000000 in
theorem binding_walk (root : ByteArray) (n i : Int) (s : ByteArray) (pa : Option Addr) (pc : Nat) (P : List ByteArray) (t : ByteArray) (qa : Option Addr) (qc : Nat) (Q : List ByteArray) (W : World) (ht : Tab W)
    (_hr : root.size ≤ maxLen) (hn1 : -9223372036854775808 ≤ n) (hn2 : n ≤ 9223372036854775807) (hi1 : -9223372036854775808 ≤ i) (hi2 : i ≤ 9223372036854775807) (_hs : s.size ≤ maxLen)
    (hp : StrA W pa pc P) (hpx : ∀ x ∈ P, x.size ≤ maxLen) (_htt : t.size ≤ maxLen) (hq : StrA W qa qc Q) (hqx : ∀ x ∈ Q, x.size ≤ maxLen) :
    Calls Tryd.prog 7 #[.string root, .int .i64 n, .int .i64 i, .string s, .slice pa P.length pc, .string t, .slice qa Q.length qc] W fun e w' => e = .returned (.bool true) ∧ Below W.heap.size W w' := by
  have H0 := Lib.hid (two_start ht hp hq)
  have HPX := Lib.hid hpx
  have HQX := Lib.hid hqx
  obtain ⟨m, hm, hm', hm1, hm2⟩ := min60 s
  obtain ⟨m2, hn, hn', hn3, hn4⟩ := min60 t
  have hm3 : (m : Int) ≤ (s.size : Int) := by omega
  have hn5 : (m2 : Int) ≤ (t.size : Int) := by omega
  clear ht hp hq hpx hqx
  go_enter Tryd.func7, Tryd.ntmps7
  go_wp2_with fail
  refine (sane_any _ H0.out.1).mono ?_
  rintro e W1 ⟨rfl, hb1⟩
  have H1 := Lib.hid (H0.out.step hb1)
  clear hb1 H0
  go_wp2_with fail
  refine (few_list pa pc P 70 _ H1.out.2.1 (by decide) HPX.out).mono ?_
  rintro e W2 ⟨a2, c2, rfl, hA2, hb2⟩
  have H2 := Lib.hid (And.intro (H1.out.step hb2) hA2)
  clear hb2 H1 hA2
  go_wp2_with fail
  refine (few_list qa qc Q 70 _ H2.out.1.2.2.1 (by decide) HQX.out).mono ?_
  rintro e W3 ⟨a3, c3, rfl, hA3, hb3⟩
  have H3 := Lib.hid (show TwoAt W a2 c2 (fewS P 70) a3 c3 (fewS Q 70) W3 from ⟨H2.out.1.1.below hb3, H2.out.2.below hb3, hA3, below_step H2.out.1.2.2.2 hb3⟩)
  clear hb3 H2 hA3
  have hfp := few_le P 70
  have hfq := few_le Q 70
  have HFP := Lib.hid (few_small P 70)
  have HFQ := Lib.hid (few_small Q 70)
  clear HPX HQX
  generalize fewS P 70 = P1 at *
  generalize fewS Q 70 = Q1 at *
  go_wp2_with fail
  have hcs := cut60_le s
  have hct := cut60_le t
  clear hm hm' hm2 hn hn' hn4
  generalize cut60 s = s1 at *
  generalize cut60 t = t1 at *
  refine (verify_all root s1 n i P1 a2 c2 _ H3.out.1 H3.out.2.1 (by omega) (by omega) (by omega)).mono ?_
  rintro e W4 ⟨rfl, hb4⟩
  have H4 := Lib.hid (H3.out.step hb4)
  clear hb4 H3
  go_wp2_with fail
  refine (verify_all root t1 n i Q1 a3 c3 _ H4.out.1 H4.out.2.2.1 (by omega) (by omega) (by omega)).mono ?_
  rintro e W5 ⟨rfl, hb5⟩
  have H5 := Lib.hid (H4.out.step hb5)
  clear hb5 H4
  cases h1 : verAll root n i s1 P1 with
  | false =>
    go_wp2_with fail
    go_ret
    exact ⟨rfl, H5.out.2.2.2⟩
  | true =>
    cases h2 : verAll root n i t1 Q1 with
    | false =>
      go_wp2_with fail
      go_ret
      exact ⟨rfl, H5.out.2.2.2⟩
    | true =>
      by_cases hst : s1 = t1
      · have hbe : (s1.toList == t1.toList) = true := by rw [hst]; simp
        have hbe' : s1.toList = t1.toList := by rw [hst]
        clear hst
        go_wp2_with fail
        go_ret
        exact ⟨rfl, H5.out.2.2.2⟩
      · have hbe' : ¬ s1.toList = t1.toList := fun e => hst (toList_iff.1 e)
        have hbe : (s1.toList == t1.toList) = false := beq_eq_false_iff_ne.2 hbe'
        clear hbe'
        obtain ⟨n', i', rfl, rfl, hin, hP32, hv1⟩ := verAll_true h1
        obtain ⟨n2, i2, en, ei, _, hQ32, hv2⟩ := verAll_true h2
        obtain rfl : n2 = n' := by omega
        obtain rfl : i2 = i' := by omega
        have hcl := binding Sha.shaS s1 t1 hst P1.reverse Q1.reverse n2 i2 root (fun x hx => hP32 x (List.mem_reverse.1 hx)) (fun x hx => hQ32 x (List.mem_reverse.1 hx)) hv1 hv2
        have hw1 := fun V hT hS => way_any dig s1 (by omega) P1.reverse n2 i2 a2 c2 V hT (by rw [List.length_reverse]; omega) hin (by omega) (fun x hx => by rw [hP32 x (List.mem_reverse.1 hx)]; decide) hS
        have hw2 := fun V hT hS => way_any dig t1 (by omega) Q1.reverse n2 i2 a3 c3 V hT (by rw [List.length_reverse]; omega) hin (by omega) (fun x hx => by rw [hQ32 x (List.mem_reverse.1 hx)]; decide) hS
        have hz1 := wayR_bd s1 (by omega) P1.reverse n2 i2 (fun x hx => hP32 x (List.mem_reverse.1 hx))
        have hz2 := wayR_bd t1 (by omega) Q1.reverse n2 i2 (fun x hx => hQ32 x (List.mem_reverse.1 hx))
        rw [List.reverse_reverse, List.length_reverse] at hw1 hw2
        generalize (wayR Sha.shaS s1 n2 i2 P1.reverse).2 = r1 at *
        generalize (wayR Sha.shaS t1 n2 i2 Q1.reverse).2 = r2 at *
        generalize (wayR Sha.shaS s1 n2 i2 P1.reverse).1 = A at *
        generalize (wayR Sha.shaS t1 n2 i2 Q1.reverse).1 = B at *
        have HW1 := Lib.hid hw1
        have HW2 := Lib.hid hw2
        have HCL := Lib.hid (And.intro hcl (And.intro hz1 hz2))
        clear hw1 hw2 hcl hz1 hz2 hv1 hv2 hP32 hQ32 h1 h2 hst en ei
        go_wp2_with fail
        refine (HW1.out _ H5.out.1 H5.out.2.1).mono ?_
        rintro e W6 ⟨l1, rfl, ho1, hb6⟩
        obtain ⟨b1, d1, rfl, hA1⟩ := ho1.arg
        have H6 := Lib.hid (And.intro (H5.out.step hb6) hA1)
        clear ho1 hA1 hb6 H5 HW1
        go_wp2_with fail
        refine (HW2.out _ H6.out.1.1 H6.out.1.2.2.1).mono ?_
        rintro e W7 ⟨l2, rfl, ho2, hb7⟩
        obtain ⟨b2, d2, rfl, hA2⟩ := ho2.arg
        have H7 := Lib.hid (And.intro (H6.out.1.step hb7) (And.intro (H6.out.2.below hb7) hA2))
        clear ho2 hA2 hb7 H6 HW2
        go_wp2_with fail
        refine (collide_any dig A B b1 b2 d1 d2 _ H7.out.1.1 H7.out.2.1 H7.out.2.2 HCL.out.2.1 HCL.out.2.2 HCL.out.1).mono ?_
        rintro e W8 ⟨rfl, hb8⟩
        have H8 := Lib.hid (H7.out.1.step hb8)
        clear hb8 H7
        go_wp2_with fail
        go_ret
        exact ⟨rfl, H8.out.2.2.2⟩
end Go.Proofs.YtmmhilonmbnenaaDoor
