/-
  Contract of Levels.
-/
import Derived.Test.YtiolmcnngpaapaaSc
import Derived.Test.YtiolmcnngpaapaaLs
import Derived.Test.YtiolmcnngpaapaaVe
namespace Go.Proofs.Ytiolmcnngpaapaa
open Go.RowKit Go.Shelf Cy

theorem flat_ints (x : List Int) : x.flatMap intCells = x.map (Value.int .i64) := by
  induction x with
  | nil => rfl
  | cons a l ih => rw [List.flatMap_cons, ih]; rfl
theorem IntRow.own {w : World} {B g n : Nat} {x : List Int} (h : IntRow w g x) (hn : x.length = n) (hm : n ≤ 1000) (hB : B ≤ g) : IntsO w B (.slice (some ⟨g, 0, none⟩) n n) x := by
  unfold IntsO RowO
  rw [flat_ints, hn]
  exact ⟨by simp [hn], .inr ⟨g, n, _, rfl, hB, h, Nat.le_refl _, by unfold maxLen; omega, by simp [hn], by rw [Nat.mul_one, List.take_of_length_le (by simp [hn])]⟩⟩
/-- What Levels leaves. -/
def LvPost (n p : Int) (L : List Arc) (w : World) (e : Ending) (w' : World) : Prop :=
  ∃ vs vc, e = .returned (.tuple #[vs, vc, .bool (lvB n p L)]) ∧ IntsO w' w.heap.size vs (lvS n p L) ∧ IntsO w' w.heap.size vc (natsI (lvC n p L)) ∧ Below w.heap.size w w'
theorem LvPost.mk {n p : Int} {L : List Arc} {w w' : World} {e : Ending} {vs vc : Value} {b : Bool} {S : List Int} {C : List Nat} (h : lvB n p L = b ∧ lvS n p L = S ∧ lvC n p L = C) (he : e = .returned (.tuple #[vs, vc, .bool b])) (hs : IntsO w' w.heap.size vs S) (hc : IntsO w' w.heap.size vc (natsI C)) (hb : Below w.heap.size w w') : LvPost n p L w e w' := by
  obtain ⟨h1, h2, h3⟩ := h
  exact ⟨vs, vc, by rw [h1]; exact he, by rw [h2]; exact hs, by rw [h3]; exact hc, hb⟩
theorem lv_no {n p : Int} {L : List Arc} (h : (valid n L && isPer p) = false) : lvB n p L = false ∧ lvS n p L = [] ∧ lvC n p L = [] := by
  unfold lvB lvS lvC; rw [h]; simp
theorem lv_yes {n p : Int} {L : List Arc} {s : List Int} (h : (valid n L && isPer p) = true) (hs : starts p L n.toNat = some s) : lvB n p L = true ∧ lvS n p L = s ∧ lvC n p L = [] := by
  unfold lvB lvS lvC; rw [h, hs]; simp
theorem lv_none {n p : Int} {L : List Arc} (h : (valid n L && isPer p) = true) (hs : starts p L n.toNat = none) : lvB n p L = false ∧ lvS n p L = [] ∧ lvC n p L = cyc p L n.toNat := by
  unfold lvB lvS lvC; rw [h, hs]; simp
set_option maxRecDepth 100000 in
set_option maxHeartbeats 1000000 in
theorem Levels_any (n p : Int) (hn : Fits n) (L : List Arc) (a : Option Addr) (c : Nat) (w : World) (hA : ArcA w a c L) (hS4 : ∀ x, a = some x → x.block < w.heap.size) :
    Calls Try.prog 31 #[.int .i64 n, .slice a L.length c, .int .i64 p] w (LvPost n p L w) := by
  have HV := Lib.hid (Valid_any n hn L a c w hA)
  have HP := Lib.hid (isPeriod_any p)
  have HVi := Lib.hid (fun (h : valid n L = true) => valid_iff.1 h)
  have HNo := Lib.hid (fun h => lv_no (n := n) (p := p) (L := L) h)
  have HYs := Lib.hid (fun s h1 h2 => lv_yes (n := n) (p := p) (L := L) (s := s) h1 h2)
  have HNn := Lib.hid (fun h1 h2 => lv_none (n := n) (p := p) (L := L) h1 h2)
  have HGr := Lib.hid (fun (m : Nat) (e : n = m) (h1 : valid n L = true) (h2 : isPer p = true) => (show Grd m p L ∧ (∀ x ∈ L, ArcOk x) ∧ -1000000 ≤ p ∧ p ≤ 1000000 from ⟨by subst e; exact valid_good h1 h2, arcOk_of h1, Cy.within_iff.1 (show within p (-1000000) 1000000 = true from h2)⟩))
  have HA := Lib.hid hA; have HS4 := Lib.hid hS4
  clear hA hS4 hn
  generalize hv : valid n L = V at *
  cases V with
  | false =>
    obtain ⟨e1, e2, e3⟩ := HNo.out rfl
    have HE := Lib.hid (And.intro e1 (And.intro e2 e3))
    clear e1 e2 e3 hv
    go_enter Try.func31, Try.ntmps31
    go_wp2_with fail
    refine HV.out.mono ?_; rintro _ w1 ⟨rfl, g1⟩
    have G1 := Lib.hid g1; clear g1
    go_wp2_with fail
    go_ret3
    exact LvPost.mk HE.out rfl (RowO.nil _ _ _ _ _) (RowO.nil _ _ _ _ _) G1.out
  | true =>
    generalize hpp : isPer p = U at *
    cases U with
    | false =>
      obtain ⟨e1, e2, e3⟩ := HNo.out rfl
      have HE := Lib.hid (And.intro e1 (And.intro e2 e3))
      clear e1 e2 e3 hv hpp
      go_enter Try.func31, Try.ntmps31
      go_wp2_with fail
      refine HV.out.mono ?_; rintro _ w1 ⟨rfl, g1⟩
      have G1 := Lib.hid g1; clear g1
      go_wp2_with fail
      refine (HP.out _).mono ?_; rintro _ w2 ⟨rfl, rfl⟩
      go_wp2_with fail
      go_ret3
      exact LvPost.mk HE.out rfl (RowO.nil _ _ _ _ _) (RowO.nil _ _ _ _ _) G1.out
    | true =>
      obtain ⟨⟨h1, h2⟩, h3, -⟩ := HVi.out rfl
      obtain ⟨m, rfl⟩ := Int.eq_ofNat_of_zero_le (show 0 ≤ n by omega)
      obtain ⟨hG, hO, hp⟩ := HGr.out m rfl rfl rfl
      have HLs := Lib.hid (fun v (hb : Below w.heap.size w v) => leastStarts_any m p L a c v (by omega) (by omega) hG (HA.out.below hb) h3 (fun x hx => Nat.lt_of_lt_of_le (HS4.out x hx) hb.size) hO hp)
      have HSc := Lib.hid (fun v (hb : Below w.heap.size w v) hs => shortestCycle_any m (by omega) (by omega) p L hG h3 hO hp hs a c v (HA.out.below hb))
      have h1' : 1 ≤ m := by omega
      have h2' : m ≤ 32 := by omega
      have HLen := Lib.hid (fun s (hs : starts p L m = some s) => (least_some hG m (zeros m) s (zeros_len m) hs).1)
      simp only [Int.toNat_natCast] at HYs HNn
      clear HVi HGr hG hO hp hv hpp HNo
      go_enter Try.func31, Try.ntmps31
      go_wp2_with fail
      refine HV.out.mono ?_; rintro _ w1 ⟨rfl, g1⟩
      have G1 := Lib.hid g1; clear g1
      go_wp2_with fail
      refine (HP.out _).mono ?_; rintro _ w2 ⟨rfl, rfl⟩
      go_wp2_with fail
      refine (HLs.out _ G1.out).mono ?_
      rintro _ w3 (⟨s, g, hs, rfl, hrow, hlow, hb⟩ | ⟨hs, rfl, hb⟩)
      · obtain ⟨e1, e2, e3⟩ := HYs.out s rfl hs
        have HE := Lib.hid (And.intro e1 (And.intro e2 e3))
        have HR := Lib.hid (IntRow.own hrow (HLen.out s hs) (by omega) (Nat.le_trans G1.out.size hlow))
        have HB := Lib.hid (below_step G1.out hb)
        clear e1 e2 e3 hs hrow hlow hb
        go_wp2_with fail
        go_ret3
        exact LvPost.mk HE.out rfl HR.out (RowO.nil _ _ _ _ _) HB.out
      · obtain ⟨e1, e2, e3⟩ := HNn.out rfl hs
        have HE := Lib.hid (And.intro e1 (And.intro e2 e3))
        have HB := Lib.hid (below_step G1.out hb)
        have HSc2 := Lib.hid (HSc.out w3 HB.out hs)
        clear e1 e2 e3 hs hb
        go_wp2_with fail
        refine HSc2.out.mono ?_
        rintro _ w4 ⟨v4, rfl, hv4, hb4⟩
        have HV4 := Lib.hid (RowO.mono hv4 HB.out.size)
        have HB4 := Lib.hid (below_step HB.out hb4)
        clear hv4 hb4
        go_wp2_with fail
        go_ret3
        exact LvPost.mk HE.out rfl (RowO.nil _ _ _ _ _) HV4.out HB4.out
end Go.Proofs.Ytiolmcnngpaapaa

