/-
  The contract of the statements' sane: it returns true. Condition: the table of 64 words reads as the program's text lays it.
-/
import Derived.Test.YtbaggjhjkignkaaDoorEx
import Derived.Test.YtbaggjhjkignkaaDoorExtNo
import Derived.Test.YtbaggjhjkignkaaDoorVExtNo
namespace Go.Proofs.YtbaggjhjkignkaaDoor
open Go.RowKit Go.Shelf Tree

theorem strA_three (w : World) (x y z : ByteArray) : StrA (w.alloc (.cells #[.string x, .string y, .string z] 9)) (some ⟨w.heap.size, 0, none⟩) 3 [x, y, z] := by
  refine ⟨by simp, by decide, fun i hi => ⟨w.heap.size, 0, rfl, by simp, ?_⟩⟩
  rw [Nat.zero_add]
  have h := cell_of_row (w.alloc (.cells #[.string x, .string y, .string z] 9)) w.heap.size i _ _ _ (heap_alloc_new w _)
  rw [h]
  match i, hi with
  | 0, _ => rfl
  | 1, _ => rfl
  | 2, _ => rfl

/-- What the walk of sane keeps: the table, the list, what lay before. -/
def SaneAt (w V : World) : Prop := Tab V ∧ StrA V (some ⟨w.heap.size, 0, none⟩) 3 [Ex.a, Ex.b, Ex.c] ∧ Below w.heap.size w V
theorem SaneAt.step {w V V' : World} (h : SaneAt w V) (hb : Below V.heap.size V V') : SaneAt w V' := ⟨h.1.below hb, h.2.1.below hb, below_step h.2.2 hb⟩
theorem SaneAt.start {w : World} (ht : Tab w) : SaneAt w (w.alloc (.cells #[.string Ex.a, .string Ex.b, .string Ex.c] 9)) :=
  have hb : Below w.heap.size w (w.alloc (.cells #[.string Ex.a, .string Ex.b, .string Ex.c] 9)) := (Below.refl _ _).alloc (Nat.le_refl _) _
  ⟨ht.below hb, strA_three w _ _ _, hb⟩
theorem ex_small : ∀ x ∈ [Ex.a, Ex.b, Ex.c], x.size ≤ 1000 := by decide
theorem proofEnd_arg {L : List ByteArray} {x : Int} {w w' : World} {e : Ending} (h : ProofEnd L x w e w') : ∃ a c, e = .returned (.tuple #[.slice a L.length c, .int .i64 x]) ∧ StrA w' a c L ∧ Below w.heap.size w w' := by
  obtain ⟨⟨v, rfl, ho⟩, hb⟩ := h
  obtain ⟨a, c, rfl, hA⟩ := ho.arg
  exact ⟨a, c, rfl, hA, hb⟩

theorem sane_proof (w V : World) (h : SaneAt w V) : Calls Tryd.prog 16 #[.slice (some ⟨w.heap.size, 0, none⟩) 3 3, .int .i64 2] V fun e V' => ∃ a c, e = .returned (.tuple #[.slice a 1 c, .int .i64 0]) ∧ StrA V' a c [Ex.ab] ∧ SaneAt w V' ∧ Below V.heap.size V V' := by
  have := proof_yes [Ex.a, Ex.b, Ex.c] 2 w.heap.size 0 3 V h.1 h.2.1 ex_small (by decide) (by decide)
  rw [Ex.proof_abc] at this
  refine Calls.mono this ?_
  rintro e V' hp
  obtain ⟨a, c, rfl, hA, hb⟩ := proofEnd_arg hp
  exact ⟨a, c, rfl, hA, h.step hb, hb⟩
theorem sane_ext (w V : World) (h : SaneAt w V) : Calls Tryd.prog 18 #[.slice (some ⟨w.heap.size, 0, none⟩) 3 3, .int .i64 1] V fun e V' => ∃ a c, e = .returned (.tuple #[.slice a 2 c, .int .i64 0]) ∧ StrA V' a c [Ex.lb, Ex.lc] ∧ SaneAt w V' ∧ Below V.heap.size V V' := by
  have := ext_yes [Ex.a, Ex.b, Ex.c] 1 w.heap.size 0 3 V h.1 h.2.1 ex_small (by decide) (by decide) (by decide)
  rw [Ex.ext_abc] at this
  refine Calls.mono this ?_
  rintro e V' hp
  obtain ⟨a, c, rfl, hA, hb⟩ := proofEnd_arg hp
  exact ⟨a, c, rfl, hA, h.step hb, hb⟩
theorem sane_none (w V : World) (h : SaneAt w V) : Calls Tryd.prog 16 #[.slice (some ⟨w.heap.size, 0, none⟩) 3 3, .int .i64 3] V fun e V' => ∃ v, e = .returned (.tuple #[v, .int .i64 2]) ∧ SaneAt w V' ∧ Below V.heap.size V V' := by
  refine Calls.mono (proof_no [Ex.a, Ex.b, Ex.c] 3 (some ⟨w.heap.size, 0, none⟩) 3 V (.inr (by decide))) ?_
  rintro e V' ⟨⟨v, rfl, _⟩, hb⟩
  exact ⟨v, rfl, h.step hb, hb⟩
theorem sane_root (w V : World) (h : SaneAt w V) (k : Nat) (L : List ByteArray) (hL : L = [Ex.a, Ex.b, Ex.c].take k) (R : ByteArray) (hR : rootS Sha.shaS L = R) (k' : Nat) (hk : k' = L.length) :
    Calls Tryd.prog 21 #[.slice (some ⟨w.heap.size, 0, none⟩) k' 3] V fun e V' => e = .returned (.string R) ∧ SaneAt w V' ∧ Below V.heap.size V V' := by
  subst hk
  have := root_any L.length L (some ⟨w.heap.size, 0, none⟩) 3 V (Nat.le_refl _) h.1 (by rw [hL]; exact h.2.1.take k) (fun x hx => ex_small x (List.mem_of_mem_take (by rw [← hL]; exact hx)))
  rw [hR] at this
  refine Calls.mono this ?_
  rintro e V' ⟨rfl, hb⟩
  exact ⟨rfl, h.step hb, hb⟩
theorem sane_sum (w V : World) (h : SaneAt w V) (s : ByteArray) (hs : s.size ≤ 2000) : Calls Tryd.prog 7 #[.string s] V fun e V' => e = .returned (.string (Sha.shaS s)) ∧ SaneAt w V' ∧ Below V.heap.size V V' := by
  refine Calls.mono (sum_any s V h.1 hs) ?_
  rintro e V' ⟨rfl, hb⟩
  exact ⟨rfl, h.step hb, hb⟩
theorem sane_hex (w V : World) (h : SaneAt w V) (s r : ByteArray) (hs : s.size ≤ 1000) (hr : hexS s = r) : Calls Tryd.prog 25 #[.string s] V fun e V' => e = .returned (.string r) ∧ SaneAt w V' ∧ Below V.heap.size V V' := by
  subst hr
  refine Calls.mono (hex_any s V hs) ?_
  rintro e V' ⟨rfl, hb⟩
  exact ⟨rfl, h.step hb, hb⟩
theorem sane_verify (w V : World) (h : SaneAt w V) (s r : ByteArray) (hs : s.size ≤ 1000) (hv : valueR Sha.shaS s 3 2 [Ex.ab].reverse = some r) (q : Bool) (hq : decide (r = Ex.root) = q) (a : Option Addr) (c : Nat) (hA : StrA V a c [Ex.ab]) :
    Calls Tryd.prog 24 #[.string Ex.root, .int .i64 3, .int .i64 2, .string s, .slice a 1 c] V fun e V' => e = .returned (.bool q) ∧ SaneAt w V' ∧ Below V.heap.size V V' := by
  have := verify_yes Ex.root s 3 2 [Ex.ab] a c V h.1 hA (by decide) (by decide) hs (by decide) (by decide)
  unfold verB at this
  rw [hv] at this
  refine Calls.mono this ?_
  rintro e V' ⟨rfl, hb⟩
  exact ⟨by rw [← hq]; simp, h.step hb, hb⟩
theorem sane_vext (w V : World) (h : SaneAt w V) (o r : ByteArray) (hd : digsB [o, Ex.root] = true) (hv : bothR Sha.shaS o 1 3 true [Ex.lb, Ex.lc].reverse = some (o, r)) (q : Bool) (hq : decide (r = Ex.root) = q) (a : Option Addr) (c : Nat) (hA : StrA V a c [Ex.lb, Ex.lc]) :
    Calls Tryd.prog 26 #[.string o, .int .i64 1, .string Ex.root, .int .i64 3, .slice a 2 c] V fun e V' => e = .returned (.bool q) ∧ SaneAt w V' ∧ Below V.heap.size V V' := by
  have := vext_yes o Ex.root 3 1 [Ex.lb, Ex.lc] a c V h.1 hA (by decide) hd (by decide) (by decide) (by decide) (by decide)
  unfold vexB at this
  rw [hv] at this
  refine Calls.mono this ?_
  rintro e V' ⟨rfl, hb⟩
  exact ⟨by rw [← hq]; simp, h.step hb, hb⟩

set_option maxRecDepth 100000 in
set_option maxHeartbeats 4000000 in
theorem sane_any (w : World) (ht : Tab w) : Calls Tryd.prog 6 #[] w fun e w' => e = .returned (.bool true) ∧ Below w.heap.size w w' := by
  have HS := Lib.hid (SaneAt.start ht)
  clear ht
  go_enter Tryd.func6, Tryd.ntmps6
  go_wp2_with fail
  refine (sane_proof w _ HS.out).mono ?_
  rintro e V1 ⟨a1, c1, rfl, hA1, hS1, hb1⟩
  have HS1 := Lib.hid (And.intro hA1 hS1)
  clear hA1 hS1 hb1
  go_wp2_with fail
  refine (sane_ext w _ HS1.out.2).mono ?_
  rintro e V2 ⟨a2, c2, rfl, hA2, hS2, hb2⟩
  have HS2 := Lib.hid (And.intro (HS1.out.1.below hb2) (And.intro hA2 hS2))
  clear hA2 hS2 hb2 HS1
  go_wp2_with fail
  refine (sane_none w _ HS2.out.2.2).mono ?_
  rintro e V3 ⟨v3, rfl, hS3, hb3⟩
  have HS3 := Lib.hid (And.intro (HS2.out.1.below hb3) (And.intro (HS2.out.2.1.below hb3) hS3))
  clear hS3 hb3 HS2
  go_wp2_with fail
  refine (sane_root w _ HS3.out.2.2 3 [Ex.a, Ex.b, Ex.c] rfl Ex.root Ex.root_abc 3 rfl).mono ?_
  rintro e V4 ⟨rfl, hS4, hb4⟩
  have HS4 := Lib.hid (And.intro (HS3.out.1.below hb4) (And.intro (HS3.out.2.1.below hb4) hS4))
  clear hS4 hb4 HS3
  go_wp2_with fail
  refine (sane_sum w _ HS4.out.2.2 ⟨#[]⟩ (by decide)).mono ?_
  rintro e V5 ⟨rfl, hS5, hb5⟩
  have HS5 := Lib.hid (And.intro (HS4.out.1.below hb5) (And.intro (HS4.out.2.1.below hb5) hS5))
  clear hS5 hb5 HS4
  go_wp2_with fail
  refine (sane_hex w _ HS5.out.2.2 _ _ (by rw [Sha.shaS_size]; decide) Ex.hex_empty).mono ?_
  rintro e V6 ⟨rfl, hS6, hb6⟩
  have HS6 := Lib.hid (And.intro (HS5.out.1.below hb6) (And.intro (HS5.out.2.1.below hb6) hS6))
  clear hS6 hb6 HS5
  go_wp2_with fail
  refine (sane_sum w _ HS6.out.2.2 ⟨#[97, 98, 99]⟩ (by decide)).mono ?_
  rintro e V7 ⟨rfl, hS7, hb7⟩
  have HS7 := Lib.hid (And.intro (HS6.out.1.below hb7) (And.intro (HS6.out.2.1.below hb7) hS7))
  clear hS7 hb7 HS6
  go_wp2_with fail
  refine (sane_hex w _ HS7.out.2.2 _ _ (by rw [Sha.shaS_size]; decide) Ex.hex_abc).mono ?_
  rintro e V8 ⟨rfl, hS8, hb8⟩
  have HS8 := Lib.hid (And.intro (HS7.out.1.below hb8) (And.intro (HS7.out.2.1.below hb8) hS8))
  clear hS8 hb8 HS7
  go_wp2_with fail
  refine (sane_verify w _ HS8.out.2.2 Ex.c Ex.root (by decide) Ex.value_c true (decide_eq_true rfl) a1 c1 HS8.out.1).mono ?_
  rintro e V9 ⟨rfl, hS9, hb9⟩
  have HS9 := Lib.hid (And.intro (HS8.out.1.below hb9) (And.intro (HS8.out.2.1.below hb9) hS9))
  clear hS9 hb9 HS8
  go_wp2_with fail
  refine (sane_verify w _ HS9.out.2.2 Ex.d Ex.rd (by decide) Ex.value_d false (decide_eq_false Ex.root_ne_rd) a1 c1 HS9.out.1).mono ?_
  rintro e V10 ⟨rfl, hS10, hb10⟩
  have HS10 := Lib.hid (And.intro (HS9.out.1.below hb10) (And.intro (HS9.out.2.1.below hb10) hS10))
  clear hS10 hb10 HS9
  go_wp2_with fail
  refine (sane_root w _ HS10.out.2.2 1 [Ex.a] rfl Ex.la Ex.root_a 1 rfl).mono ?_
  rintro e V11 ⟨rfl, hS11, hb11⟩
  have HS11 := Lib.hid (And.intro (HS10.out.1.below hb11) (And.intro (HS10.out.2.1.below hb11) hS11))
  clear hS11 hb11 HS10
  go_wp2_with fail
  refine (sane_vext w _ HS11.out.2.2 Ex.la Ex.root (by decide) Ex.both_1 true (decide_eq_true rfl) a2 c2 HS11.out.2.1).mono ?_
  rintro e V12 ⟨rfl, hS12, hb12⟩
  have HS12 := Lib.hid (And.intro (HS11.out.1.below hb12) (And.intro (HS11.out.2.1.below hb12) hS12))
  clear hS12 hb12 HS11
  go_wp2_with fail
  refine (sane_root w _ HS12.out.2.2 2 [Ex.a, Ex.b] rfl Ex.ab Ex.root_ab 2 rfl).mono ?_
  rintro e V13 ⟨rfl, hS13, hb13⟩
  have HS13 := Lib.hid (And.intro (HS12.out.1.below hb13) (And.intro (HS12.out.2.1.below hb13) hS13))
  clear hS13 hb13 HS12
  go_wp2_with fail
  refine (sane_vext w _ HS13.out.2.2 Ex.ab Ex.w2 (by decide) Ex.both_2 false (decide_eq_false Ex.root_ne_w2) a2 c2 HS13.out.2.1).mono ?_
  rintro e V14 ⟨rfl, hS14, hb14⟩
  have HS14 := Lib.hid (And.intro (HS13.out.1.below hb14) (And.intro (HS13.out.2.1.below hb14) hS14))
  clear hS14 hb14 HS13
  go_wp2_with fail
  go_ret
  exact ⟨rfl, HS14.out.2.2.2.2⟩
end Go.Proofs.YtbaggjhjkignkaaDoor

