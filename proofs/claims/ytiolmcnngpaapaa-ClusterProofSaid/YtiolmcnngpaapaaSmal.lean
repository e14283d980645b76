/-
  Contract of Smallest.
-/
import Derived.Test.YtiolmcnngpaapaaLv
namespace Go.Proofs.Ytiolmcnngpaapaa
open Go.RowKit Go.Shelf Cy

/-- There are starts with the period. -/
def Cy.feas (L : List Arc) (n : Nat) (p : Int) : Bool := (starts p L n).isSome
def Cy.wSum : List Arc → Int
  | [] => 0
  | a :: c => a.w + wSum c
def Cy.kSum : List Arc → Int
  | [] => 0
  | a :: c => a.k + kSum c
theorem Cy.tot_is (p : Int) (c : List Arc) : tot p c = wSum c - p * kSum c := by
  induction c with
  | nil => simp [tot, wSum, kSum]
  | cons a c ih => simp only [tot, wSum, kSum, ih, len, Int.mul_add]; omega
theorem Cy.sumOf_nats {f : Arc → Int} {L : List Arc} {c : List Nat} (h : ∀ m ∈ c, m < L.length) : sumOf f L (natsI c) = ((arcsOf L c).map f).sum := by
  induction c with
  | nil => rfl
  | cons m c ih =>
    have hm := h m (by simp)
    have h2 := ih (fun x hx => h x (by simp [hx]))
    unfold sumOf natsI arcsOf at *
    rw [List.filterMap_cons_some (List.getElem?_eq_getElem hm)]
    simp only [List.map_cons, List.sum_cons, Int.toNat_natCast, List.getD_eq_getElem?_getD, List.getElem?_eq_getElem hm, Option.getD_some] at h2 ⊢
    rw [← h2]
theorem Cy.kSum_map (c : List Arc) : (c.map (·.k)).sum = kSum c := by
  induction c with
  | nil => rfl
  | cons a c ih => simp only [List.map_cons, List.sum_cons, kSum, ih]
theorem Cy.tot_map (p : Int) (c : List Arc) : (c.map (len p)).sum = tot p c := by
  induction c with
  | nil => rfl
  | cons a c ih => simp only [List.map_cons, List.sum_cons, tot, ih]
theorem Cy.walk_mem {L : List Arc} : ∀ {c i j}, Walk L i c j → ∀ a ∈ c, a ∈ L := by
  intro c; induction c with
  | nil => intro i j _ a ha; cases ha
  | cons b c ih => intro i j h a ha; rcases List.mem_cons.1 ha with rfl | ha; exact h.1; exact ih h.2.2 a ha
/-- A closed walk that is too long with a period: there are no starts with it. -/
theorem Cy.no_feas {n : Nat} {r : Int} {L : List Arc} (hG : Grd n r L) {c : List Arc} {v : Nat} (hw : Walk L v c v) (ht : 0 < tot r c) : feas L n r = false := by
  unfold feas
  cases e : starts r L n with
  | none => rfl
  | some s =>
    have := (least_some hG n (zeros n) s (zeros_len n) e).2.1
    have := no_both this hw
    omega
theorem Cy.feas_low {n : Nat} {p r : Int} {L : List Arc} (hG : Grd n r L) {c : List Arc} {v : Nat} (hw : Walk L v c v) (ht : 0 < tot p c) (hk : 0 < kSum c) (hr : r ≤ p) : feas L n r = false := by
  refine no_feas hG hw ?_
  rw [tot_is] at ht ⊢
  have := Int.mul_le_mul_of_nonneg_right hr (Int.le_of_lt hk)
  omega
theorem Cy.feas_high {n : Nat} {p r : Int} {L : List Arc} (hG : Grd n r L) {c : List Arc} {v : Nat} (hw : Walk L v c v) (ht : 0 < tot p c) (hk : kSum c ≤ 0) (hr : p ≤ r) : feas L n r = false := by
  refine no_feas hG hw ?_
  rw [tot_is] at ht ⊢
  have := Int.mul_le_mul_of_nonpos_right hr hk
  omega
/-- What Smallest answers. -/
structure SmSpec (L : List Arc) (n : Nat) (low high q : Int) (f : Bool) : Prop where
  yes : f = true → low ≤ q ∧ q ≤ high ∧ Cy.feas L n q = true ∧ ∀ r, low ≤ r → r < q → Cy.feas L n r = false
  no : f = false → q = 0 ∧ ∀ r, low ≤ r → r ≤ high → Cy.feas L n r = false
/-- Between two rounds of the search. -/
structure SmInv (L : List Arc) (n : Nat) (low high lo hi q : Int) (f : Bool) : Prop where
  ge : low ≤ lo
  le : hi ≤ high
  yes : f = true → low ≤ q ∧ q ≤ high ∧ Cy.feas L n q = true ∧ hi < q
  no : f = false → q = 0
  rest : ∀ r, low ≤ r → r ≤ high → (f = true → r < q) → Cy.feas L n r = true → lo ≤ r ∧ r ≤ hi
theorem SmInv.fin {L : List Arc} {n : Nat} {low high lo hi q : Int} {f : Bool} (h : SmInv L n low high lo hi q f) (hlt : ¬ lo ≤ hi) : SmSpec L n low high q f := by
  refine ⟨fun hf => ?_, fun hf => ⟨h.no hf, fun r h1 h2 => ?_⟩⟩
  · obtain ⟨h1, h2, h3, -⟩ := h.yes hf
    refine ⟨h1, h2, h3, fun r h4 h5 => ?_⟩
    cases e : Cy.feas L n r with
    | false => rfl
    | true => have := h.rest r h4 (by omega) (fun _ => h5) e; omega
  · cases e : Cy.feas L n r with
    | false => rfl
    | true => have := h.rest r h1 h2 (fun h => by rw [hf] at h; cases h) e; omega
/-- What Smallest leaves. -/
def SmPost (n : Int) (L : List Arc) (low high : Int) (w : World) (e : Ending) (w' : World) : Prop :=
  ∃ q f, e = .returned (.tuple #[.int .i64 q, .bool f]) ∧ Below w.heap.size w w' ∧ ((valid n L && (isPer low && isPer high)) = false → q = 0 ∧ f = false) ∧ ((valid n L && (isPer low && isPer high)) = true → SmSpec L n.toNat low high q f)
set_option maxRecDepth 100000 in
set_option maxHeartbeats 4000000 in
theorem Smallest_any (n low high : Int) (hn : Fits n) (L : List Arc) (a : Option Addr) (c : Nat) (w : World) (hA : ArcA w a c L) (hS4 : ∀ x, a = some x → x.block < w.heap.size) :
    Calls Try.prog 28 #[.int .i64 n, .slice a L.length c, .int .i64 low, .int .i64 high] w (SmPost n L low high w) := by
  have HV := Lib.hid (Valid_any n hn L a c w hA)
  have HP1 := Lib.hid (isPeriod_any low)
  have HP2 := Lib.hid (isPeriod_any high)
  have HA := Lib.hid hA; have HS4 := Lib.hid hS4; have HN := Lib.hid hn
  clear hA hS4 hn
  have HC := Lib.hid (show ∀ V, V = (valid n L && (isPer low && isPer high)) → V = false → ∀ w', Below w.heap.size w w' → SmPost n L low high w (.returned (.tuple #[.int .i64 0, .bool false])) w' from fun V h1 h2 w' hb => ⟨0, false, rfl, hb, fun _ => ⟨rfl, rfl⟩, fun h => by rw [← h1, h2] at h; cases h⟩)
  generalize hv : valid n L = V at *
  cases V with
  | false =>
    have HC2 := Lib.hid (HC.out _ rfl rfl)
    clear HC hv
    go_enter Try.func28, Try.ntmps28
    go_wp2_with fail
    refine HV.out.mono ?_; rintro _ w1 ⟨rfl, g1⟩
    have G1 := Lib.hid g1; clear g1
    go_wp2_with fail
    go_ret2
    exact HC2.out _ G1.out
  | true =>
    generalize hpl : isPer low = U at *
    cases U with
    | false =>
      have HC2 := Lib.hid (HC.out _ rfl rfl)
      clear HC hv hpl
      go_enter Try.func28, Try.ntmps28
      go_wp2_with fail
      refine HV.out.mono ?_; rintro _ w1 ⟨rfl, g1⟩
      have G1 := Lib.hid g1; clear g1
      go_wp2_with fail
      refine (HP1.out _).mono ?_; rintro _ w2 ⟨rfl, rfl⟩
      go_wp2_with fail
      go_ret2
      exact HC2.out _ G1.out
    | true =>
      generalize hph : isPer high = Z at *
      cases Z with
      | false =>
        have HC2 := Lib.hid (HC.out _ rfl rfl)
        clear HC hv hpl hph
        go_enter Try.func28, Try.ntmps28
        go_wp2_with fail
        refine HV.out.mono ?_; rintro _ w1 ⟨rfl, g1⟩
        have G1 := Lib.hid g1; clear g1
        go_wp2_with fail
        refine (HP1.out _).mono ?_; rintro _ w2 ⟨rfl, rfl⟩
        go_wp2_with fail
        refine (HP2.out _).mono ?_; rintro _ w2 ⟨rfl, rfl⟩
        go_wp2_with fail
        go_ret2
        exact HC2.out _ G1.out
      | true =>
        have hl1 := Cy.within_iff.1 (show within low (-1000000) 1000000 = true from hpl)
        have hh1 := Cy.within_iff.1 (show within high (-1000000) 1000000 = true from hph)
        obtain ⟨⟨h1, h2⟩, h3, -⟩ := valid_iff.1 hv
        obtain ⟨m, rfl⟩ := Int.eq_ofNat_of_zero_le (show 0 ≤ n by omega)
        have HGr := Lib.hid (fun (p : Int) (h : -1000000 ≤ p ∧ p ≤ 1000000) => (show Grd m p L ∧ isPer p = true from ⟨valid_good hv (Cy.within_iff.2 h), Cy.within_iff.2 h⟩))
        have HOk := Lib.hid (arcOk_of hv)
        have HLv := Lib.hid (fun p v (hb : Below w.heap.size w v) => Levels_any (m : Int) p HN.out L a c v (HA.out.below hb) (fun x hx => Nat.lt_of_lt_of_le (HS4.out x hx) hb.size))
        have HFe := Lib.hid (fun (p : Int) (h : isPer p = true) => (show lvB (m : Int) p L = Cy.feas L m p ∧ (Cy.feas L m p = false → lvC (m : Int) p L = cyc p L m) from by
          unfold lvB lvC Cy.feas; rw [hv, h]
          refine ⟨by simp, fun e => ?_⟩
          simp only [Int.toNat_natCast] at *
          cases e2 : starts p L m with
          | none => simp
          | some s => rw [e2] at e; cases e))
        have HCy := Lib.hid (fun (p : Int) (h : -1000000 ≤ p ∧ p ≤ 1000000) (hf : Cy.feas L m p = false) => cyc_ok (HGr.out p h).1 (show 1 ≤ m by omega) (by omega) (show starts p L m = none from by
          unfold Cy.feas at hf; cases e : starts p L m with
          | none => rfl
          | some s => rw [e] at hf; cases hf))
        have HEn := Lib.hid (show ∀ q f w', SmSpec L m low high q f → Below w.heap.size w w' → SmPost (m : Int) L low high w (.returned (.tuple #[.int .i64 q, .bool f])) w' from fun q f w' h hb => ⟨q, f, rfl, hb, fun h => (by rw [hv, hpl, hph] at h; cases h), fun _ => (by simpa using h)⟩)
        have hL := h3
        have hm32 : m ≤ 32 := by omega
        clear HC hv hpl hph h1 h2 h3
        go_enter Try.func28, Try.ntmps28
        go_wp2_with fail
        refine HV.out.mono ?_; rintro _ w1 ⟨rfl, g1⟩
        have G1 := Lib.hid g1; clear g1
        go_wp2_with fail
        refine (HP1.out _).mono ?_; rintro _ w2 ⟨rfl, rfl⟩
        go_wp2_with fail
        refine (HP2.out _).mono ?_; rintro _ w2 ⟨rfl, rfl⟩
        go_wp2_with fail
        go_loopw [2, 3, 10, 11] (fun lv hv qv fv wr => ∃ (lo hi q : Int) (f : Bool), lv = .int .i64 lo ∧ hv = .int .i64 hi ∧ qv = .int .i64 q ∧ fv = .bool f ∧ Hid (SmInv L m low high lo hi q f) ∧ Hid (Below w.heap.size w wr)) (fun lv hv _ _ _ => (intOf hv - intOf lv + 1).toNat)
        case atStart => exact ⟨low, high, 0, false, rfl, rfl, rfl, rfl, Lib.hid ⟨Int.le_refl _, Int.le_refl _, fun h => (by cases h), fun _ => rfl, fun r h1 h2 _ _ => ⟨h1, h2⟩⟩, G1⟩
        case round =>
          clear G1
          obtain ⟨lo, hi, q, f, rfl, rfl, rfl, rfl, HI, HB⟩ := hrel
          have b1 := HI.out.ge
          have b2 := HI.out.le
          by_cases hlt : lo ≤ hi
          · have b3 : -1000000 ≤ lo ∧ lo ≤ 1000000 := by omega
            have b4 : -1000000 ≤ hi ∧ hi ≤ 1000000 := by omega
            obtain ⟨mid, hmid⟩ : ∃ mid : Int, mid = lo + (hi - lo) / 2 := ⟨_, rfl⟩
            have m1 : lo ≤ mid ∧ mid ≤ hi := by omega
            have mb : -1000000 ≤ mid ∧ mid ≤ 1000000 := by omega
            have HMid := Lib.hid hmid.symm
            have HL1 := Lib.hid (HLv.out mid wr HB.out)
            have HF1 := Lib.hid (HFe.out mid (HGr.out mid mb).2)
            have m2 : (0 : Int) ≤ hi - lo := by omega
            clear hmid
            unfold LvPost at HL1
            go_upto_region 6 with (fail)
            rw [HMid.out]
            clear HMid
            go_wp2_with fail
            refine HL1.out.mono ?_
            rintro _ w3 ⟨vs, vc, rfl, -, hc, hb⟩
            have HB3 := Lib.hid (below_step HB.out hb)
            have HC3 := Lib.hid hc
            clear hb hc HL1
            obtain ⟨hF1, hF2⟩ := HF1.out
            rw [hF1]
            have HC4 := Lib.hid hF2
            clear hF1 hF2 HF1
            have HCc := Lib.hid (HCy.out mid mb)
            generalize hF : Cy.feas L m mid = F at *
            cases F with
            | true =>
              have HI2 := Lib.hid (show SmInv L m low high lo (mid - 1) mid true from by
                refine ⟨b1, by omega, fun _ => ⟨by omega, by omega, hF, by omega⟩, fun h => (by cases h), fun r h1 h2 h3 h4 => ?_⟩
                have h5 := h3 rfl
                cases f with
                | true => have h7 := HI.out.yes rfl; have h6 := HI.out.rest r h1 h2 (fun _ => by omega) h4; omega
                | false => have h6 := HI.out.rest r h1 h2 (fun h => by cases h) h4; omega)
              clear hF HC3 HC4 HCc
              go_wp2_with fail
              go_roundw
              case rel => exact ⟨lo, mid - 1, mid, true, rfl, rfl, rfl, rfl, HI2, HB3⟩
              case measure => simp [intOf]; omega
            | false =>
              have e2 := HC4.out rfl
              rw [e2] at HC3
              obtain ⟨hl1', hl2, hl3, v, hw, ht⟩ := HCc.out rfl
              obtain ⟨ca, cc, hvc, hcA, -⟩ := RowO.arg (f := intCells) (k := 1) int_len HC3.out
              subst hvc
              have HTt := Lib.hid (total_any 54 #[] (·.k) L a c (natsI (cyc mid L m)) ca cc w3 (HA.out.below HB3.out) hcA (by rw [natsI_len]; omega)
                ⟨enters_of Try.func54 (by kernel_rfl) rfl, fun x hx v hv => Smallest1_any x v⟩
                (fun x hx => by have := (HOk.out x hx).2; omega) (fun x hx => by
                  unfold natsI at hx; obtain ⟨y, hy, rfl⟩ := List.mem_map.1 hx
                  have := hl3 y hy; omega))
              rw [Cy.sumOf_nats hl3, Cy.kSum_map] at HTt
              have HLo := Lib.hid (fun (hk : 0 < Cy.kSum (arcsOf L (cyc mid L m))) (r : Int) (h1 : -1000000 ≤ r ∧ r ≤ 1000000) (h2 : r ≤ mid) => Cy.feas_low (HGr.out r h1).1 hw ht hk h2)
              have HHi := Lib.hid (fun (hk : Cy.kSum (arcsOf L (cyc mid L m)) ≤ 0) (r : Int) (h1 : -1000000 ≤ r ∧ r ≤ 1000000) (h2 : mid ≤ r) => Cy.feas_high (HGr.out r h1).1 hw ht hk h2)
              generalize Cy.kSum (arcsOf L (cyc mid L m)) = K at *
              generalize (natsI (cyc mid L m)).length = cl at *
              clear hl1' hl2 hl3 hw ht hcA HC3 HC4 HCc e2
              by_cases hk : 0 < K
              · have HI2 := Lib.hid (show SmInv L m low high (mid + 1) hi q f from by
                  refine ⟨by omega, b2, HI.out.yes, HI.out.no, fun r h1 h2 h3 h4 => ?_⟩
                  have h5 := HI.out.rest r h1 h2 h3 h4
                  by_cases h6 : r ≤ mid
                  · rw [HLo.out hk r (by omega) h6] at h4; cases h4
                  · omega)
                clear hF HLo HHi
                go_wp2_with fail
                refine HTt.out.mono ?_
                rintro _ w4 ⟨rfl, g4⟩
                have HB4 := Lib.hid (below_step HB3.out g4)
                clear g4
                go_wp2_with fail
                go_roundw
                case rel => exact ⟨mid + 1, hi, q, f, rfl, rfl, rfl, rfl, HI2, HB4⟩
                case measure => simp [intOf]; omega
              · have HI2 := Lib.hid (show SmInv L m low high lo (mid - 1) q f from by
                  refine ⟨b1, by omega, fun hf => (by have := HI.out.yes hf; exact ⟨this.1, this.2.1, this.2.2.1, by omega⟩), HI.out.no, fun r h1 h2 h3 h4 => ?_⟩
                  have h5 := HI.out.rest r h1 h2 h3 h4
                  by_cases h6 : mid ≤ r
                  · rw [HHi.out (by omega) r (by omega) h6] at h4; cases h4
                  · omega)
                clear hF HLo HHi
                go_wp2_with fail
                refine HTt.out.mono ?_
                rintro _ w4 ⟨rfl, g4⟩
                have HB4 := Lib.hid (below_step HB3.out g4)
                clear g4
                go_wp2_with fail
                go_roundw
                case rel => exact ⟨lo, mid - 1, q, f, rfl, rfl, rfl, rfl, HI2, HB4⟩
                case measure => simp [intOf]; omega
          · have HS := Lib.hid (HI.out.fin hlt)
            go_wp2_with fail
            go_ret2
            exact HEn.out q f wr HS.out HB.out
end Go.Proofs.Ytiolmcnngpaapaa

