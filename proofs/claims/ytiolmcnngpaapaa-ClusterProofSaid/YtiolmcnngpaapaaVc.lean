/-
  Cluster tools in memory; contracts of within, isNoChamber, Valid.
-/
import Derived.Test.YtiolmcnngpaapaaCl
import Derived.Test.YtiolmcnngpaapaaBs
import Derived.Shelf.Abstract
namespace Go.Proofs.Ytiolmcnngpaapaa
open Go.RowKit Go.Shelf Cl

def chamCells (x : Cham) : List Value := [.int .i64 x.t, .int .i64 x.s]
theorem cham_len (x : Cham) : (chamCells x).length = 2 := rfl
abbrev ChA := RowA chamCells 2
abbrev toolV (c : Tool) (a : Option Addr) (k : Nat) : Value := .agg #[.slice a c.chs.length k, .int .i64 c.pick, .int .i64 c.place, .int .i64 c.travel, .int .i64 c.blades]
abbrev toolObj (c : Tool) (a : Option Addr) (k : Nat) : Obj := .cells #[.slice a c.chs.length k, .int .i64 c.pick, .int .i64 c.place, .int .i64 c.travel, .int .i64 c.blades] 24
theorem cwithin_any (n a b : Int) (w : World) : Calls Try.prog 36 #[.int .i64 n, .int .i64 a, .int .i64 b] w fun e w' => e = .returned (.bool (Cy.within n a b)) ∧ w = w' := by
  unfold Cy.within
  by_cases h1 : a ≤ n
  · go_enter Try.func36, Try.ntmps36
    go_wp2
    go_ret
    exact ⟨by simp [h1], rfl⟩
  · go_enter Try.func36, Try.ntmps36
    go_wp2
    go_ret
    exact ⟨by simp; omega, rfl⟩
abbrev chV (x : Cham) : Value := .agg #[.int .i64 x.t, .int .i64 x.s]
set_option maxRecDepth 100000 in
theorem isNo_any (x : Cham) (w : World) : Calls Try.prog 38 #[chV x] w fun e w' => e = .returned (.bool (!okCham x)) ∧ Below w.heap.size w w' := by
  unfold okCham
  obtain ⟨t, s⟩ := x
  have HF := Lib.hid (cwithin_any t 0 100000)
  have HT := Lib.hid (cwithin_any s 0 100000)
  have HG := Lib.hid (below_new w (.cells #[.int .i64 t, .int .i64 s] 60))
  simp only
  generalize Cy.within t 0 100000 = V1 at *
  generalize Cy.within s 0 100000 = V2 at *
  cases V1
  · go_enter Try.func38, Try.ntmps38
    go_wp2_with fail
    refine (HF.out _).mono ?_; rintro _ w1 ⟨rfl, rfl⟩
    go_wp2_with fail
    go_ret
    exact ⟨by simp, HG.out⟩
  · go_enter Try.func38, Try.ntmps38
    go_wp2_with fail
    refine (HF.out _).mono ?_; rintro _ w1 ⟨rfl, rfl⟩
    go_wp2_with fail
    refine (HT.out _).mono ?_; rintro _ w1 ⟨rfl, rfl⟩
    go_wp2_with fail
    go_ret
    exact ⟨by simp, HG.out⟩
theorem ch_cells {w : World} {b o : Nat} {x : Cham} (h : ∀ (j : Nat) (v : Value), (chamCells x)[j]? = some v → w.cell? ⟨b, o + j, none⟩ = some v) :
    w.cell? ⟨b, o, none⟩ = some (.int .i64 x.t) ∧ w.cell? ⟨b, o + 1, none⟩ = some (.int .i64 x.s) := ⟨h 0 _ rfl, h 1 _ rfl⟩
def NoBadC (l : List Cham) (k : Nat) : Prop := ∀ i (h : i < l.length), i < k → okCham l[i] = true
def IdxP (V : Bool) (w : World) (e : Ending) (w' : World) : Prop := ∃ r : Int, e = .returned (.int .i64 r) ∧ (0 ≤ r ↔ V = false) ∧ Below w.heap.size w w'
set_option maxRecDepth 100000 in
set_option maxHeartbeats 1000000 in
theorem ixCh_any (l : List Cham) (a : Option Addr) (c : Nat) (w : World) (h : ChA w a c l) :
    Calls Try.prog 69 #[.slice a l.length c, .func (.func 38) #[] #[]] w (IdxP (l.all okCham) w) := by
  have hl := h.len
  unfold maxLen at hl
  have HA := Lib.hid h
  have en := enters_of Try.func38 (by kernel_rfl) rfl
  clear h
  go_enter Try.func69, Try.ntmps69
  go_wp2_with fail
  go_loopw [8] (fun i wr => ∃ k : Nat, k ≤ l.length ∧ i = .int .i64 (k : Int) ∧ Hid (NoBadC l k) ∧ Hid (Below w.heap.size w wr)) (fun i _ => l.length - (intOf i).toNat)
  case atStart => exact ⟨0, Nat.zero_le _, rfl, Lib.hid (fun i _ hi => by omega), Lib.hid (Below.refl _ _)⟩
  case round =>
    obtain ⟨k, hk, rfl, HF, HG⟩ := hrel
    by_cases hlt : k < l.length
    · obtain ⟨b, off, rfl, hb, hc⟩ := (HA.out.below HG.out).at (by omega)
      obtain ⟨x0, x1⟩ := ch_cells (hc k hlt)
      have HV := Lib.hid (isNo_any l[k] wr)
      have HS := Lib.hid (show okCham l[k] = true → NoBadC l (k + 1) from fun h i hi hik => by
        rcases Nat.lt_or_eq_of_le (Nat.le_of_lt_succ hik) with h1 | h1
        · exact HF.out i hi h1
        · subst h1; exact h)
      have HX := Lib.hid (show okCham l[k] = false → l.all okCham = false from fun h => by
        rw [List.all_eq_false]; exact ⟨l[k], List.getElem_mem hlt, by rw [h]; simp⟩)
      have k0 : (0 : Int) ≤ (k : Int) := by omega
      have k1 : (k : Int) < (l.length : Int) := by omega
      clear hc
      generalize okCham l[k] = V at *
      generalize l[k] = x at *
      obtain ⟨f, t⟩ := x
      simp only at x0 x1
      go_wp2_with fail
      refine HV.out.mono ?_
      rintro _ w1 ⟨rfl, g1⟩
      have G1 := Lib.hid (below_step HG.out g1)
      clear g1
      cases V with
      | true =>
        have HR := Lib.hid (HS.out rfl)
        go_wp2_with fail
        go_roundw
        case rel => exact ⟨k + 1, hlt, by go_num, HR, G1⟩
        case measure => simp [intOf]; omega
      | false =>
        have HR := Lib.hid (HX.out rfl)
        go_wp2_with fail
        go_ret
        exact ⟨(k : Int), rfl, ⟨fun _ => HR.out, fun _ => k0⟩, G1.out⟩
    · have k1 : ¬ (k : Int) < (l.length : Int) := by omega
      have HR := Lib.hid (show l.all okCham = true from List.all_eq_true.2 fun x hx => by
        obtain ⟨i, hi, rfl⟩ := List.getElem_of_mem hx
        exact HF.out i hi (by omega))
      go_wp2_with fail
      go_ret
      exact ⟨-1, rfl, ⟨fun h => absurd h (by omega), fun h => by rw [HR.out] at h; cases h⟩, HG.out⟩
set_option maxRecDepth 100000 in
theorem hasCh_any (l : List Cham) (a : Option Addr) (c : Nat) (w : World) (h : ChA w a c l) :
    Calls Try.prog 37 #[.slice a l.length c, .func (.func 38) #[] #[]] w fun e w' => e = .returned (.bool (!l.all okCham)) ∧ Below w.heap.size w w' := by
  have HI := Lib.hid (ixCh_any l a c w h)
  generalize l.length = m at *
  generalize l.all okCham = V at *
  clear h
  go_enter Try.func37, Try.ntmps37
  go_wp2_with fail
  refine HI.out.mono ?_
  rintro _ w1 ⟨r, rfl, hr, g1⟩
  have HR := Lib.hid hr; have G1 := Lib.hid g1
  clear hr g1
  by_cases h0 : 0 ≤ r
  · go_wp2_with fail
    go_ret
    exact ⟨ret_bool (by rw [HR.out.1 h0]; rfl), G1.out⟩
  · have HV := Lib.hid (show V = true by cases V; exact absurd (HR.out.2 rfl) h0; rfl)
    go_wp2_with fail
    go_ret
    exact ⟨ret_bool (by rw [HV.out]; simp; omega), G1.out⟩
set_option maxRecDepth 100000 in
set_option maxHeartbeats 2000000 in
theorem cValid_any (c : Tool) (a : Option Addr) (k : Nat) (w : World) (h : ChA w a k c.chs) :
    Calls Try.prog 16 #[toolV c a k] w fun e w' => e = .returned (.bool (validT c)) ∧ Below w.heap.size w w' := by
  have hl := h.len
  unfold maxLen at hl
  have HB2 := Lib.hid (below_step (below_new w (toolObj c a k)) (below_new (w.alloc (toolObj c a k)) (.cells #[.int .i64 c.pick, .int .i64 c.place, .int .i64 c.travel] 3)))
  have HX := Lib.hid (show ∀ W, Below ((w.alloc (toolObj c a k)).alloc (.cells #[.int .i64 c.pick, .int .i64 c.place, .int .i64 c.travel] 3)).heap.size ((w.alloc (toolObj c a k)).alloc (.cells #[.int .i64 c.pick, .int .i64 c.place, .int .i64 c.travel] 3)) W →
      W.cell? ⟨w.heap.size, 0, none⟩ = some (.slice a c.chs.length k) ∧ W.cell? ⟨w.heap.size, 4, none⟩ = some (.int .i64 c.blades) from fun W hb =>
    ⟨cell_below hb (by go_simp), cell_below hb (by go_simp)⟩)
  have HY := Lib.hid (show ((w.alloc (toolObj c a k)).alloc (.cells #[.int .i64 c.pick, .int .i64 c.place, .int .i64 c.travel] 3)).cell? ⟨w.heap.size + 1, 0, none⟩ = some (.int .i64 c.pick) ∧
      ((w.alloc (toolObj c a k)).alloc (.cells #[.int .i64 c.pick, .int .i64 c.place, .int .i64 c.travel] 3)).cell? ⟨w.heap.size + 1, 1, none⟩ = some (.int .i64 c.place) ∧
      ((w.alloc (toolObj c a k)).alloc (.cells #[.int .i64 c.pick, .int .i64 c.place, .int .i64 c.travel] 3)).cell? ⟨w.heap.size + 1, 2, none⟩ = some (.int .i64 c.travel) from ⟨by go_simp, by go_simp, by go_simp⟩)
  have HH := Lib.hid (fun (W : World) (hb : Below w.heap.size w W) => hasCh_any c.chs a k W (h.below hb))
  have HP := Lib.hid (cwithin_any c.pick 0 10000)
  have HQ := Lib.hid (cwithin_any c.place 0 10000)
  have HT := Lib.hid (cwithin_any c.travel 0 10000)
  have HBl := Lib.hid (cwithin_any c.blades 1 2)
  have HLn := Lib.hid (cwithin_any (c.chs.length : Int) 1 4)
  have HE : validT c = (Cy.within c.pick 0 10000 && Cy.within c.place 0 10000 && Cy.within c.travel 0 10000 && (Cy.within c.blades 1 2 && Cy.within (c.chs.length : Int) 1 4 && c.chs.all okCham)) := rfl
  rw [HE]
  clear HE h
  generalize Cy.within c.pick 0 10000 = V1 at *
  generalize Cy.within c.place 0 10000 = V2 at *
  generalize Cy.within c.travel 0 10000 = V3 at *
  generalize Cy.within c.blades 1 2 = V4 at *
  generalize Cy.within (c.chs.length : Int) 1 4 = V5 at *
  generalize c.chs.all okCham = V6 at *
  generalize c.chs.length = m at *
  go_enter Try.func16, Try.ntmps16
  go_wp2_with fail
  generalize (w.alloc (toolObj c a k)).alloc (.cells #[.int .i64 c.pick, .int .i64 c.place, .int .i64 c.travel] 3) = w2 at *
  have HZ := Lib.hid (show ∀ i : Nat, i < 3 → ∃ (t : Int) (V : Bool), w2.cell? ⟨w.heap.size + 1, i, none⟩ = some (.int .i64 t) ∧ (∀ W, Calls Try.prog 36 #[.int .i64 t, .int .i64 0, .int .i64 10000] W fun e w' => e = .returned (.bool V) ∧ W = w') ∧ (V = false → (V1 && V2 && V3) = false) ∧ (V = true → if i = 0 then V1 = true else if i = 1 then V2 = true else V3 = true) from fun i hi => by
    obtain rfl | rfl | rfl : i = 0 ∨ i = 1 ∨ i = 2 := by omega
    · exact ⟨_, V1, HY.out.1, HP.out, fun h => by rw [h]; rfl, fun h => h⟩
    · exact ⟨_, V2, HY.out.2.1, HQ.out, fun h => by rw [h]; simp, fun h => h⟩
    · exact ⟨_, V3, HY.out.2.2, HT.out, fun h => by rw [h]; simp, fun h => h⟩)
  have HX2 := Lib.hid (HX.out w2 (Below.refl _ _))
  clear HY HX HP HQ HT
  go_loopw [13] (fun i wr => ∃ k : Nat, k ≤ 3 ∧ i = .int .i64 (k : Int) ∧ (0 < k → V1 = true) ∧ (1 < k → V2 = true) ∧ (2 < k → V3 = true) ∧ Hid (wr = w2)) (fun i _ => 3 - (intOf i).toNat)
  case atStart => exact ⟨0, by omega, rfl, by omega, by omega, by omega, Lib.hid rfl⟩
  case round =>
    obtain ⟨q, hq, rfl, i1, i2, i3, HW⟩ := hrel
    obtain rfl := HW.out
    clear HW
    by_cases hlt : q < 3
    · obtain ⟨t, V, hc, hV, h1, h2⟩ := HZ.out q hlt
      have k0 : (0 : Int) ≤ (q : Int) := by omega
      have k1 : (q : Int) < 3 := by omega
      have HV := Lib.hid hV
      have H1 := Lib.hid h1
      have H2 := Lib.hid h2
      clear hV h1 h2 HZ
      go_wp2_with fail
      refine (HV.out _).mono ?_; rintro _ w1 ⟨rfl, rfl⟩
      cases V with
      | true =>
        have hR := H2.out rfl
        go_wp2_with fail
        go_roundw
        case rel =>
          refine ⟨q + 1, by omega, by go_num, ?_, ?_, ?_, Lib.hid (by trivial)⟩
          · intro _; by_cases h0 : q = 0
            · subst h0; exact hR
            · exact i1 (by omega)
          · intro h; by_cases h0 : q = 1
            · subst h0; exact hR
            · exact i2 (by omega)
          · intro h; obtain rfl : q = 2 := by omega
            exact hR
        case measure => simp [intOf]; omega
      | false =>
        have HR := Lib.hid (H1.out rfl)
        go_wp2_with fail
        go_ret
        exact ⟨ret_bool (by rw [HR.out]; rfl), HB2.out⟩
    · have k1 : ¬ (q : Int) < 3 := by omega
      obtain rfl := i1 (by omega)
      obtain rfl := i2 (by omega)
      obtain rfl := i3 (by omega)
      obtain ⟨x0, x1⟩ := HX2.out
      clear HX2 i1 i2 i3 HZ
      cases V4 with
      | false =>
        go_wp2_with fail
        refine (HBl.out _).mono ?_; rintro _ w1 ⟨rfl, rfl⟩
        go_wp2_with fail
        go_ret
        exact ⟨rfl, HB2.out⟩
      | true =>
        cases V5 with
        | false =>
          go_wp2_with fail
          refine (HBl.out _).mono ?_; rintro _ w1 ⟨rfl, rfl⟩
          go_wp2_with fail
          refine (HLn.out _).mono ?_; rintro _ w1 ⟨rfl, rfl⟩
          go_wp2_with fail
          go_ret
          exact ⟨rfl, HB2.out⟩
        | true =>
          go_wp2_with fail
          refine (HBl.out _).mono ?_; rintro _ w1 ⟨rfl, rfl⟩
          go_wp2_with fail
          refine (HLn.out _).mono ?_; rintro _ w1 ⟨rfl, rfl⟩
          go_wp2_with fail
          refine (HH.out _ HB2.out).mono ?_; rintro _ w1 ⟨rfl, b1⟩
          have B1 := Lib.hid (below_step HB2.out b1)
          clear b1
          go_wp2_with fail
          go_ret
          exact ⟨ret_bool (by simp), B1.out⟩
end Go.Proofs.Ytiolmcnngpaapaa
