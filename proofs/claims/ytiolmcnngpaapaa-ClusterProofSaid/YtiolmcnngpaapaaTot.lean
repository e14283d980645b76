/-
  Contracts of total (with the two functions that it is called with), isCycle, Refutes.
-/
import Derived.Test.YtiolmcnngpaapaaVa
namespace Go.Proofs.Ytiolmcnngpaapaa
open Go.RowKit Go.Shelf Cy

/-- The weights and tokens of arcs are bounded. -/
def ArcOk (a : Arc) : Prop := (-1000000 ≤ a.w ∧ a.w ≤ 1000000) ∧ (-2 ≤ a.k ∧ a.k ≤ 2)
theorem arcOk_of {n : Int} {l : List Arc} (h : valid n l = true) : ∀ a ∈ l, ArcOk a := fun a ha => by
  obtain ⟨-, -, h3⟩ := valid_iff.1 h
  obtain ⟨-, -, h6, h7⟩ := okArc_iff.1 (h3 a ha)
  exact ⟨h6, h7⟩
theorem Smallest1_any (a : Arc) (w : World) : Calls Try.prog 54 #[arcV a] w fun e w' => e = .returned (.int .i64 a.k) ∧ Below w.heap.size w w' := by
  obtain ⟨f, t, g, k⟩ := a
  go_enter Try.func54, Try.ntmps54
  go_wp2_with fail
  go_ret
  exact ⟨rfl, below_new _ _⟩
set_option maxRecDepth 100000 in
theorem Refutes1_any (a : Arc) (p : Int) (B : Nat) (w : World) (hB : w.cell? ⟨B, 0, none⟩ = some (.int .i64 p)) (ha : ArcOk a) (hp : -1000000 ≤ p ∧ p ≤ 1000000) :
    Calls Try.prog 77 #[arcV a, .pointer (some ⟨B, 0, none⟩)] w fun e w' => e = .returned (.int .i64 (len p a)) ∧ Below w.heap.size w w' := by
  have HG := Lib.hid (below_new w (arcObj a))
  have hc := cell_below HG.out hB
  have HL := Lib.hid (lengthOf_any p a (w.alloc (arcObj a)) ha.1 ha.2 hp)
  have HG2 := Lib.hid (below_step HG.out (below_new (w.alloc (arcObj a)) (arcObj a)))
  generalize len p a = L at *
  obtain ⟨f, t, g, k⟩ := a
  dsimp only [arcObj] at HG hc HL HG2
  clear hB ha
  go_enter Try.func77, Try.ntmps77
  go_wp2_with fail
  refine HL.out.mono ?_; rintro _ w1 ⟨rfl, rfl⟩
  go_wp2_with fail
  go_ret
  exact ⟨rfl, HG2.out⟩
/-- The arc of a number. -/
def arcOf (l : List Arc) (x : Int) : Arc := l.getD x.toNat ⟨0, 0, 0, 0⟩
theorem arcOf_nat {l : List Arc} {k : Nat} (h : k < l.length) : arcOf l (k : Int) = l[k] := by
  unfold arcOf; rw [List.getD_eq_getElem?_getD, Int.toNat_natCast, List.getElem?_eq_getElem h]; rfl
theorem sumOf_succ (f : Arc → Int) (l : List Arc) (c : List Int) (k : Nat) (h : k < c.length) : sumOf f l (c.take (k + 1)) = sumOf f l (c.take k) + f (arcOf l c[k]) := by
  unfold sumOf arcOf; rw [List.take_succ_eq_append_getElem h, List.map_append, List.sum_append]; simp
theorem sumOf_bd {f : Arc → Int} {l : List Arc} {c : List Int} (hf : ∀ a ∈ l, -3000000 ≤ f a ∧ f a ≤ 3000000) (hc : ∀ x ∈ c, 0 ≤ x ∧ x < l.length) : -3000000 * (c.length : Int) ≤ sumOf f l c ∧ sumOf f l c ≤ 3000000 * c.length := by
  induction c with
  | nil => simp [sumOf]
  | cons x c ih =>
    have h1 := ih (fun y hy => hc y (by simp [hy]))
    have h2 := hc x (by simp)
    obtain ⟨m, rfl⟩ := Int.eq_ofNat_of_zero_le h2.1
    have hm : m < l.length := by omega
    have h3 := hf _ (List.getElem_mem hm)
    have e : sumOf f l ((m : Int) :: c) = f l[m] + sumOf f l c := by
      unfold sumOf; rw [List.map_cons, List.sum_cons, List.getD_eq_getElem?_getD, Int.toNat_natCast, List.getElem?_eq_getElem hm]; rfl
    rw [e]; simp only [List.length_cons]; push_cast; omega
/-- The function F answers f for each of the arcs, from the world w on. -/
def Tells (F : Nat) (caps : Array Value) (f : Arc → Int) (l : List Arc) (w : World) : Prop :=
  (∀ args v, (callFunc F args).run Try.prog v = .ok (.enter F args) v) ∧ ∀ a ∈ l, ∀ v, Below w.heap.size w v → Calls Try.prog F (#[arcV a] ++ caps) v fun e w' => e = .returned (.int .i64 (f a)) ∧ Below v.heap.size v w'
set_option maxRecDepth 100000 in
set_option maxHeartbeats 1000000 in
theorem total_any (F : Nat) (caps : Array Value) (f : Arc → Int) (l : List Arc) (a : Option Addr) (cp : Nat) (c : List Int) (ca : Option Addr) (cc : Nat) (w : World) (h : ArcA w a cp l) (hC : IntsA w ca cc c) (hl2 : c.length ≤ 200)
    (hT : Tells F caps f l w) (hf : ∀ a ∈ l, -3000000 ≤ f a ∧ f a ≤ 3000000) (hc : ∀ x ∈ c, 0 ≤ x ∧ x < l.length) :
    Calls Try.prog 53 #[.slice a l.length cp, .slice ca c.length cc, .func (.func F) #[] caps] w fun e w' => e = .returned (.int .i64 (sumOf f l c)) ∧ Below w.heap.size w w' := by
  have hl := h.len
  unfold maxLen at hl
  have HA := Lib.hid h; have HC := Lib.hid hC; have HT := Lib.hid hT.2; have HF := Lib.hid hf; have HB := Lib.hid hc
  have en := hT.1
  clear h hC hT hf hc
  go_enter Try.func53, Try.ntmps53
  go_wp2_with fail
  go_loopw [7, 12] (fun s i wr => ∃ k : Nat, k ≤ c.length ∧ i = .int .i64 (k : Int) ∧ s = .int .i64 (sumOf f l (c.take k)) ∧ Hid (Below w.heap.size w wr)) (fun _ i _ => c.length - (intOf i).toNat)
  case atStart => exact ⟨0, Nat.zero_le _, rfl, rfl, Lib.hid (Below.refl _ _)⟩
  case round =>
    obtain ⟨k, hk, rfl, rfl, HG⟩ := hrel
    by_cases hlt : k < c.length
    · obtain ⟨b, off, rfl, hb, hcc⟩ := (HC.out.below HG.out).at (by omega)
      have y0 := int_cell (hcc k hlt)
      obtain ⟨z1, z2⟩ := HB.out _ (List.getElem_mem hlt)
      have HS := Lib.hid (sumOf_succ f l c k hlt)
      have s1 := sumOf_bd (c := c.take k) HF.out (fun x hx => HB.out x (List.mem_of_mem_take hx))
      rw [List.length_take, Nat.min_eq_left hk] at s1
      obtain ⟨m, hm⟩ := Int.eq_ofNat_of_zero_le z1
      have hm' : m < l.length := by omega
      obtain ⟨b2, off2, rfl, hb2, hc2⟩ := (HA.out.below HG.out).at (by omega)
      obtain ⟨x0, x1, x2, x3⟩ := arc_cells (hc2 m hm')
      have HV := Lib.hid (HT.out l[m] (List.getElem_mem hm') wr HG.out)
      have s2 := HF.out l[m] (List.getElem_mem hm')
      rw [hm, arcOf_nat hm'] at HS
      rw [hm] at y0
      rw [Nat.mul_one] at y0
      have k0 : (0 : Int) ≤ (k : Int) := by omega
      have k1 : (k : Int) < (c.length : Int) := by omega
      have m0 : (0 : Int) ≤ (m : Int) := by omega
      have m1 : (m : Int) < (l.length : Int) := by omega
      clear hcc hc2 hm z1 z2
      generalize f l[m] = V at *
      generalize sumOf f l (c.take k) = T at *
      generalize l[m] = x at *
      have t1 : -9000000000 ≤ T ∧ T ≤ 9000000000 := by omega
      clear s1
      obtain ⟨xf, xt, xg, xq⟩ := x
      simp only at x0 x1 x2 x3
      go_wp2_with fail
      refine HV.out.mono ?_
      rintro _ w1 ⟨rfl, g1⟩
      have G1 := Lib.hid (below_step HG.out g1)
      clear g1
      go_wp2_with fail
      go_roundw
      case rel => exact ⟨k + 1, hlt, by go_num, by rw [HS.out], G1⟩
      case measure => simp [intOf]; omega
    · have k1 : ¬ (k : Int) < (c.length : Int) := by omega
      have HR := Lib.hid (show sumOf f l (c.take k) = sumOf f l c by rw [List.take_of_length_le (by omega)])
      go_wp2_with fail
      go_ret
      exact ⟨ret_int HR.out, HG.out⟩
end Go.Proofs.Ytiolmcnngpaapaa

