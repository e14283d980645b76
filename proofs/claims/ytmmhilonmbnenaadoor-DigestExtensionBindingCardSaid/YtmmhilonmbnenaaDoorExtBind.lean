/-
  The walk of DigestExtensionBinding: it returns true for all arguments. Condition: the table of 64 words reads as the program's text lays it.
-/
import Derived.Test.YtmmhilonmbnenaaDoorBind
namespace Go.Proofs.YtmmhilonmbnenaaDoor
open Go.RowKit Go.Shelf Tree

theorem sidesR_bd (old : ByteArray) (ho : old.size = 32) : ∀ (r : List ByteArray) (m n : Nat) (whole : Bool), (∀ x ∈ r, x.size = 32) → ∀ x ∈ (sidesR Sha.shaS old m n whole r).1, x.size ≤ 1000
  | [], m, n, whole, _, x, hx => by unfold sidesR at hx; cases hx
  | y :: r, m, n, whole, hr, x, hx => by
    have ih := fun m n w => sidesR_bd old ho r m n w (fun z hz => hr z (List.mem_cons_of_mem _ hz))
    have hy : y.size = 32 := hr y (List.mem_cons_self ..)
    have hv := fun m n w => sidesR_size Sha.shaS_size old (by omega) r m n w (fun z hz => by rw [hr z (List.mem_cons_of_mem _ hz)]; decide)
    by_cases h : n ≤ m
    · unfold sidesR at hx
      rw [if_pos h] at hx
      cases whole <;> cases hx
    · by_cases hl : m ≤ leftN n
      · rw [sidesR_low Sha.shaS old y r (by omega) hl] at hx
        rcases List.mem_cons.1 hx with rfl | hx
        · rw [ByteArray.size_append, ByteArray.size_append, hy]
          have := hv m (leftN n) whole
          show 1 + _ + 32 ≤ 1000
          omega
        · exact ih _ _ _ x hx
      · rw [sidesR_high Sha.shaS old y r (by omega) hl] at hx
        rcases List.mem_cons.1 hx with rfl | hx
        · rw [ByteArray.size_append, ByteArray.size_append, hy]
          have := hv (m - leftN n) (n - leftN n) false
          show 1 + 32 + _ ≤ 1000
          omega
        · exact ih _ _ _ x hx

/-- Two accepted extensions with different beginnings: the number is between one and the list's, and their strings clash. -/
theorem vex_clash {a b root : ByteArray} {m n : Int} {P Q : List ByteArray} (h1 : vexAll a m root n P = true) (h2 : vexAll b m root n Q = true) (hab : a ≠ b) :
    ∃ m' n' : Nat, m = m' ∧ n = n' ∧ 1 ≤ m' ∧ a.size = 32 ∧ b.size = 32 ∧ (∀ x ∈ P, x.size = 32) ∧ (∀ x ∈ Q, x.size = 32) ∧ Clash Sha.shaS (sidesR Sha.shaS a m' n' true P.reverse).1 (sidesR Sha.shaS b m' n' true Q.reverse).1 := by
  obtain ⟨q1, q2, q3, q4, q5⟩ := vexAll_true h1
  obtain ⟨r1, r2, r3, r4, r5⟩ := vexAll_true h2
  rcases q5 with ⟨z1, z2, z3⟩ | ⟨z1, z2⟩
  · rcases r5 with ⟨y1, y2, y3⟩ | ⟨y1, y2⟩
    · exact absurd (z3.trans y3.symm) hab
    · exact absurd z1 y1
  · rcases r5 with ⟨y1, y2, y3⟩ | ⟨y1, y2⟩
    · exact absurd y1 z1
    · refine ⟨m.toNat, n.toNat, by omega, by omega, by omega, q3, r3, q4, r4, ?_⟩
      have hmn : m.toNat < n.toNat := by
        rcases Nat.lt_or_ge m.toNat n.toNat with h | h
        · exact h
        · have he : m.toNat = n.toNat := by omega
          rw [he] at z2 y2
          exfalso
          have one : ∀ (o : ByteArray) (R : List ByteArray), bothR Sha.shaS o n.toNat n.toNat true R = some (o, root) → o = root := fun o R hR => by
            cases R with
            | nil => unfold bothR at hR; simp at hR; exact hR
            | cons x r => unfold bothR at hR; simp at hR
          exact hab ((one a _ z2).trans (one b _ y2).symm)
      rcases ext_binding Sha.shaS a b P.reverse Q.reverse m.toNat n.toNat true a b root (by omega) (fun _ => .inl hmn) (fun x hx => q4 x (List.mem_reverse.1 hx)) (fun x hx => r4 x (List.mem_reverse.1 hx)) z2 y2 with h | h
      · exact absurd h hab
      · exact h

set_option maxRecDepth 100000 in
set_option maxHeartbeats 2000000 in
theorem extBinding_walk (a : ByteArray) (pa : Option Addr) (pc : Nat) (P : List ByteArray) (b : ByteArray) (qa : Option Addr) (qc : Nat) (Q : List ByteArray) (m : Int) (root : ByteArray) (n : Int) (W : World) (ht : Tab W)
    (_ha : a.size ≤ maxLen) (hp : StrA W pa pc P) (hpx : ∀ x ∈ P, x.size ≤ maxLen) (_hb : b.size ≤ maxLen) (hq : StrA W qa qc Q) (hqx : ∀ x ∈ Q, x.size ≤ maxLen)
    (hm1 : -9223372036854775808 ≤ m) (hm2 : m ≤ 9223372036854775807) (_hr : root.size ≤ maxLen) (hn1 : -9223372036854775808 ≤ n) (hn2 : n ≤ 9223372036854775807) :
    Calls Tryd.prog 9 #[.string a, .slice pa P.length pc, .string b, .slice qa Q.length qc, .int .i64 m, .string root, .int .i64 n] W fun e w' => e = .returned (.bool true) ∧ Below W.heap.size W w' := by
  have H0 := Lib.hid (two_start ht hp hq)
  have HPX := Lib.hid hpx
  have HQX := Lib.hid hqx
  clear ht hp hq hpx hqx
  go_enter Tryd.func9, Tryd.ntmps9
  go_wp2_with fail
  refine (sane_any _ H0.out.1).mono ?_
  rintro e W1 ⟨rfl, hb1⟩
  have H1 := Lib.hid (H0.out.step hb1)
  clear hb1 H0
  go_wp2_with fail
  refine (few_list pa pc P 70 _ H1.out.2.1 (by decide) HPX.out).mono ?_
  rintro e W2 ⟨a2, c2, rfl, hA2, hb2⟩
  have H2 := Lib.hid (And.intro (H1.out.step hb2) hA2)
  clear hb2 H1 hA2
  go_wp2_with fail
  refine (few_list qa qc Q 70 _ H2.out.1.2.2.1 (by decide) HQX.out).mono ?_
  rintro e W3 ⟨a3, c3, rfl, hA3, hb3⟩
  have H3 := Lib.hid (show TwoAt W a2 c2 (fewS P 70) a3 c3 (fewS Q 70) W3 from ⟨H2.out.1.1.below hb3, H2.out.2.below hb3, hA3, below_step H2.out.1.2.2.2 hb3⟩)
  clear hb3 H2 hA3
  have hfp := few_le P 70
  have hfq := few_le Q 70
  have HFP := Lib.hid (few_small P 70)
  have HFQ := Lib.hid (few_small Q 70)
  clear HPX HQX
  generalize fewS P 70 = P1 at *
  generalize fewS Q 70 = Q1 at *
  go_wp2_with fail
  refine (vext_all a root m n P1 a2 c2 _ H3.out.1 H3.out.2.1 (by omega) (by omega)).mono ?_
  rintro e W4 ⟨rfl, hb4⟩
  have H4 := Lib.hid (H3.out.step hb4)
  clear hb4 H3
  go_wp2_with fail
  refine (vext_all b root m n Q1 a3 c3 _ H4.out.1 H4.out.2.2.1 (by omega) (by omega)).mono ?_
  rintro e W5 ⟨rfl, hb5⟩
  have H5 := Lib.hid (H4.out.step hb5)
  clear hb5 H4
  cases h1 : vexAll a m root n P1 with
  | false =>
    go_wp2_with fail
    go_ret
    exact ⟨rfl, H5.out.2.2.2⟩
  | true =>
    cases h2 : vexAll b m root n Q1 with
    | false =>
      go_wp2_with fail
      go_ret
      exact ⟨rfl, H5.out.2.2.2⟩
    | true =>
      by_cases hst : a = b
      · have hbe : (a.toList == b.toList) = true := by rw [hst]; simp
        have hbe' : a.toList = b.toList := by rw [hst]
        clear hst
        go_wp2_with fail
        go_ret
        exact ⟨rfl, H5.out.2.2.2⟩
      · have hbe' : ¬ a.toList = b.toList := fun e => hst (toList_iff.1 e)
        have hbe : (a.toList == b.toList) = false := beq_eq_false_iff_ne.2 hbe'
        clear hbe'
        obtain ⟨m', n', rfl, rfl, hm0, ha32, hb32, hP32, hQ32, hcl⟩ := vex_clash h1 h2 hst
        have hw1 := fun V hT hS => sides_any dig a (by omega) P1.reverse m' n' true a2 c2 V hT (by rw [List.length_reverse]; omega) hm0 (by omega) (fun x hx => by rw [hP32 x (List.mem_reverse.1 hx)]; decide) hS (by omega)
        have hw2 := fun V hT hS => sides_any dig b (by omega) Q1.reverse m' n' true a3 c3 V hT (by rw [List.length_reverse]; omega) hm0 (by omega) (fun x hx => by rw [hQ32 x (List.mem_reverse.1 hx)]; decide) hS (by omega)
        have hz1 := sidesR_bd a ha32 P1.reverse m' n' true (fun x hx => hP32 x (List.mem_reverse.1 hx))
        have hz2 := sidesR_bd b hb32 Q1.reverse m' n' true (fun x hx => hQ32 x (List.mem_reverse.1 hx))
        rw [List.reverse_reverse, List.length_reverse] at hw1 hw2
        generalize (sidesR Sha.shaS a m' n' true P1.reverse).2 = r1 at *
        generalize (sidesR Sha.shaS b m' n' true Q1.reverse).2 = r2 at *
        generalize (sidesR Sha.shaS a m' n' true P1.reverse).1 = A at *
        generalize (sidesR Sha.shaS b m' n' true Q1.reverse).1 = B at *
        have HW1 := Lib.hid hw1
        have HW2 := Lib.hid hw2
        have HCL := Lib.hid (And.intro hcl (And.intro hz1 hz2))
        clear hw1 hw2 hcl hz1 hz2 hP32 hQ32 h1 h2 hst ha32 hb32
        go_wp2_with fail
        refine (HW1.out _ H5.out.1 H5.out.2.1).mono ?_
        rintro e W6 ⟨l1, rfl, ho1, -, hb6⟩
        obtain ⟨b1, d1, rfl, hA1⟩ := ho1.arg
        have H6 := Lib.hid (And.intro (H5.out.step hb6) hA1)
        clear ho1 hA1 hb6 H5 HW1
        go_wp2_with fail
        refine (HW2.out _ H6.out.1.1 H6.out.1.2.2.1).mono ?_
        rintro e W7 ⟨l2, rfl, ho2, -, hb7⟩
        obtain ⟨b2, d2, rfl, hA2⟩ := ho2.arg
        have H7 := Lib.hid (And.intro (H6.out.1.step hb7) (And.intro (H6.out.2.below hb7) hA2))
        clear ho2 hA2 hb7 H6 HW2
        go_wp2_with fail
        refine (collide_any dig A B b1 b2 d1 d2 _ H7.out.1.1 H7.out.2.1 H7.out.2.2 HCL.out.2.1 HCL.out.2.2 HCL.out.1).mono ?_
        rintro e W8 ⟨rfl, hb8⟩
        have H8 := Lib.hid (H7.out.1.step hb8)
        clear hb8 H7
        go_wp2_with fail
        go_ret
        exact ⟨rfl, H8.out.2.2.2⟩
end Go.Proofs.YtmmhilonmbnenaaDoor
