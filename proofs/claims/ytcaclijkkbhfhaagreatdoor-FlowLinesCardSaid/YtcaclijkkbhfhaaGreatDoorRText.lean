/-
  Contract of the reader's readText: what Parse reads, line by line.
-/
import Derived.Test.YtcaclijkkbhfhaaGreatDoorRLine
namespace Go.Proofs.YtcaclijkkbhfhaaGreatDoor
open Go.RowKit Go.Shelf

def lenOf : Value → Nat | .string s => s.size | _ => 0
def onOf : Value → Nat | .bool true => 1 | _ => 0
theorem lines_len (s : List UInt8) : (Fl.lines s).length ≤ s.length + 1 := by
  induction s with
  | nil => simp [Fl.lines]
  | cons c s ih =>
    unfold Fl.lines
    split
    · simp; exact ih
    · split
      · simp
      · rename_i h; rw [h] at ih; simp at ih ⊢; omega
theorem cut_rest_lt (s : List UInt8) (h : (Lib.cut s [10]).2.2 = true) : (Lib.cut s [10]).2.1.length < s.length := by
  rcases Fl.cut_cases s 10 with ⟨_, e⟩ | ⟨a, b, _, e1, e2⟩
  · rw [e] at h; cases h
  · rw [e2, e1]; simp; omega
/-- The lines that are left. -/
def leftL (m : Bool) (s : List UInt8) : List (List UInt8) := if m = true then Fl.lines s else []
theorem leftL_cut (s : List UInt8) : leftL true s = (Lib.cut s [10]).1 :: leftL (Lib.cut s [10]).2.2 (Lib.cut s [10]).2.1 := Fl.lines_cut s
/-- What readText answers. -/
def TextPost (a : Addr) (B R : Nat) (res : Except Nat Fl.Flow) (w : World) (e : Ending) (w' : World) : Prop :=
  match res with
  | .error n => e = raised a ∧ Fr B R w w' ∧ ∃ c', RdAt w' R c' ∧ c'.line = n
  | .ok f => e = .returned (.tuple #[]) ∧ Fr B R w w' ∧ ∃ c' q', In a B R c' q' w' ∧ q'.f = f
/-- The state at the head of a round. -/
structure TextAt (a : Addr) (B R : Nat) (W : World) (s0 : List UInt8) (c : Rd) (q : FlowP) (n : Nat) (m : Bool) (s : List UInt8) (w : World) : Prop where
  inn : In a B R c q w
  fr : Fr B R W w
  line : c.line = n
  len : s.length ≤ 900000
  res : Fl.readLines 0 ⟨Fl.noFlow, []⟩ (Fl.lines s0) = Fl.readLines n ⟨q.f, c.last⟩ (leftL m s)
  count : n + (leftL m s).length = (Fl.lines s0).length
theorem FlowP.inEta (a : Addr) (B R : Nat) (c : Rd) (q : FlowP) (w : World) (h : In a B R c q w) : (rdCells c)[0]? = some (.int .i64 q.least) ∧ (rdCells c)[1]? = some (.int .i64 q.most) ∧ (rdCells c)[2]? = some (.slice q.sa q.P.length q.sc) ∧ (rdCells c)[3]? = some (.slice q.wa q.W.length q.wc) := by
  unfold rdCells
  rw [h.holds.sv, h.holds.wv, h.holds.mn, h.holds.mx]
  exact ⟨rfl, rfl, rfl, rfl⟩

set_option maxRecDepth 100000 in
set_option maxHeartbeats 4000000 in
theorem readText_any (a : Addr) (B R : Nat) (c : Rd) (q : FlowP) (s0 : List UInt8) (W : World) (h : In a B R c q W) (hl : s0.length ≤ 900000) (h0 : c.line = 0) (h1 : c.last = []) (h2 : q.f = Fl.noFlow) :
    Calls Tryz.prog 44 #[.pointer (some ⟨R, 0, none⟩), .string (bs s0)] W (TextPost a B R (Fl.parse s0) W) := by
  have T0 : Hid (TextAt a B R W s0 c q 0 true s0 W) := Lib.hid ⟨h, Fr.refl _ _ _, h0, hl, by rw [h1, h2]; rfl, by simp [leftL]⟩
  have HN := Lib.hid (fun w ht => require_no w a ht)
  have hll := lines_len s0
  have HLL := Lib.hid (Nat.le_trans hll (by omega : s0.length + 1 ≤ 900001))
  obtain ⟨X, HX⟩ : ∃ X, Hid (Fl.parse s0 = X) := ⟨_, Lib.hid rfl⟩
  rw [HX.out]
  clear h hl h0 h1 h2 hll
  go_enter Tryz.func44, Tryz.ntmps44
  go_wp2_with fail
  go_loopw [1, 4] (fun sv mv wr => ∃ (c : Rd) (q : FlowP) (n : Nat) (m : Bool) (s : List UInt8), sv = .string (bs s) ∧ mv = .bool m ∧ Hid (TextAt a B R W s0 c q n m s wr)) (fun sv mv _ => onOf mv * (lenOf sv + 1))
  case atStart => exact ⟨c, q, 0, true, s0, rfl, rfl, T0⟩
  case round =>
    obtain ⟨c, q, n, m, s, rfl, rfl, HT⟩ := hrel
    cases m with
    | false =>
      have E := Lib.hid (FlowP.inEta _ _ _ _ _ _ HT.out.inn)
      have x0 := HT.out.inn.ok.at_.cell 0 _ E.out.1; have x1 := HT.out.inn.ok.at_.cell 1 _ E.out.2.1
      have x2 := HT.out.inn.ok.at_.cell 2 _ E.out.2.2.1; have x3 := HT.out.inn.ok.at_.cell 3 _ E.out.2.2.2
      obtain ⟨V, hV⟩ : ∃ V, Fl.valid q.f = V := ⟨_, rfl⟩
      have hv := Valid_any q wr HT.out.inn.holds.ok
      rw [hV] at hv
      have HV := Lib.hid hv
      have HX2 : Hid (X = if V = true then .ok q.f else .error n) := Lib.hid (by
        rw [← HX.out, Fl.parse, HT.out.res]
        have hc := HT.out.count
        simp only [leftL, Bool.false_eq_true, if_false, Fl.readLines, List.length_nil, Nat.add_zero] at hc ⊢
        rw [hV, hc])
      clear hv hV
      go_wp2_with fail
      clear x0 x1 x2 x3
      refine HV.out.mono ?_; rintro e w1 ⟨rfl, g1⟩
      have I1 := Lib.hid (HT.out.inn.below g1)
      have F1 := Lib.hid (HT.out.fr.trans (Fr.ofBelow g1 HT.out.inn.lt))
      clear g1
      cases V with
      | false =>
        go_wp2_with fail
        refine (HN.out _ I1.out.ok.tab).mono ?_; rintro e w2 ⟨rfl, rfl⟩
        go_wp2_with fail
        refine ⟨rfl, ?_⟩
        rw [HX2.out]
        exact ⟨rfl, F1.out, _, I1.out.ok.at_, HT.out.line⟩
      | true =>
        go_wp2_with fail
        refine (require_yes _).mono ?_; rintro e w2 ⟨rfl, rfl⟩
        go_wp2_with fail
        go_end0
        rw [HX2.out]
        exact ⟨rfl, F1.out, _, _, I1.out, rfl⟩
    | true =>
      obtain ⟨z, hz⟩ : ∃ z, (Lib.cut s [10]).1 = z := ⟨_, rfl⟩
      obtain ⟨y, hy⟩ : ∃ y, (Lib.cut s [10]).2.1 = y := ⟨_, rfl⟩
      obtain ⟨m, hm⟩ : ∃ m, (Lib.cut s [10]).2.2 = m := ⟨_, rfl⟩
      have hcut := cut_any (bs s) (bs [10]) wr a HT.out.inn.ok.tab (by rw [bs_size]; have := HT.out.len; omega)
      rw [bs_list, bs_list, hz, hy, hm] at hcut
      have HC := Lib.hid hcut
      have HZ := Lib.hid (show z.length ≤ 900000 by rw [← hz]; exact Nat.le_trans (cut_len1 _ _) HT.out.len)
      have HY := Lib.hid (show y.length ≤ 900000 by rw [← hy]; exact Nat.le_trans (cut_len2 _ _) HT.out.len)
      have HLT := Lib.hid (show m = true → y.length < s.length by intro h; rw [← hy]; exact cut_rest_lt s (hm.trans h))
      have HLC := Lib.hid (show leftL true s = z :: leftL m y by rw [leftL_cut, hz, hy, hm])
      have hn1 : (n : Int) ≤ 900001 := by have := HT.out.count; have := HLL.out; omega
      clear hcut hz hy hm
      go_wp2_with fail
      refine HC.out.mono ?_; rintro e w1 ⟨rfl, g1⟩
      have I1 := Lib.hid (HT.out.inn.below g1)
      have F1 := Lib.hid (HT.out.fr.trans (Fr.ofBelow g1 HT.out.inn.lt))
      have x4 : w1.cell? ⟨R, 4, none⟩ = some (.int .i64 (n : Int)) := I1.out.ok.at_.cell 4 _ (by rw [← HT.out.line]; rfl)
      have f4 := I1.out.ok.at_.fz 4
      have I2 : Hid (In a B R { c with line := (n : Int) + 1 } q (w1.setCell ⟨R, 4, none⟩ (.int .i64 ((n : Int) + 1)))) := Lib.hid (I1.out.only (c' := { c with line := (n : Int) + 1 }) ((Only.refl R w1).setCell 4 _) (I1.out.ok.at_.set 4 _ rfl) I1.out.ok.len rfl rfl rfl rfl)
      have F2 := Lib.hid (F1.out.trans (Fr.only ((Only.refl R w1).setCell 4 (.int .i64 ((n : Int) + 1))) I1.out.lt I1.out.holds.ge))
      clear g1
      rcases z with _ | ⟨b, z⟩
      · have HI := Lib.hid (show Fl.ignored [] = true from rfl)
        have hr := (show TextAt a B R W s0 { c with line := (n : Int) + 1 } q (n + 1) m y (w1.setCell ⟨R, 4, none⟩ (.int .i64 ((n : Int) + 1))) from
          ⟨I2.out, F2.out, by simp, HY.out, by rw [HT.out.res, HLC.out, Fl.readLines, if_pos HI.out], by have := HT.out.count; rw [HLC.out] at this; simp at this; omega⟩)
        have HRR := Lib.hid hr; clear hr
        have e1 : (([] : List UInt8) != []) = false := rfl
        go_wp2_with fail
        go_roundw
        case rel => exact ⟨_, q, n + 1, m, y, rfl, rfl, HRR.out⟩
        case measure => 
          cases m with
          | false => simp [onOf]
          | true => simp only [onOf, lenOf, bs_size]; have := HLT.out rfl; omega
      · have hb0 : (bs (b :: z))[0]'(by rw [bs_size]; simp) = b := rfl
        by_cases hc : b = 35
        · have HI := Lib.hid (show Fl.ignored (b :: z) = true by unfold Fl.ignored; simp [hc])
          have hb1 : ((b.toNat : Int) != 35) = false := by rw [hc]; rfl
          have hb2 : ((b.toNat : Int) == 35) = true := by rw [hc]; rfl
          have hr := (show TextAt a B R W s0 { c with line := (n : Int) + 1 } q (n + 1) m y (w1.setCell ⟨R, 4, none⟩ (.int .i64 ((n : Int) + 1))) from
            ⟨I2.out, F2.out, by simp, HY.out, by rw [HT.out.res, HLC.out, Fl.readLines, if_pos HI.out], by have := HT.out.count; rw [HLC.out] at this; simp at this; omega⟩)
          have HRR := Lib.hid hr; clear hr hc
          go_wp2_with fail
          go_roundw
          case rel => exact ⟨_, q, n + 1, m, y, rfl, rfl, HRR.out⟩
          case measure =>
            cases m with
            | false => simp [onOf]
            | true => simp only [onOf, lenOf, bs_size]; have := HLT.out rfl; omega
        · have HI := Lib.hid (show Fl.ignored (b :: z) = false by unfold Fl.ignored; simp [hc])
          have hne : (b.toNat : Int) ≠ 35 := by
            intro h; apply hc; apply UInt8.toNat.inj; show b.toNat = 35; omega
          have hb1 : ((b.toNat : Int) != 35) = true := by simpa using hne
          have hb2 : ((b.toNat : Int) == 35) = false := by simpa using hne
          have hrl := readLine_any a B R { c with line := (n : Int) + 1 } q (b :: z) _ I2.out (by have := HZ.out; omega)
          simp only at hrl
          clear hc hne
          rcases hq : Fl.readLine ⟨q.f, c.last⟩ (b :: z) with _ | st
          · rw [hq] at hrl
            have HRL := Lib.hid hrl
            have HX2 := Lib.hid (show X = .error (n + 1) by
              rw [← HX.out, Fl.parse, HT.out.res, HLC.out, Fl.readLines, if_neg (by rw [HI.out]; decide), hq])
            clear hq hrl
            go_wp2_with fail
            refine HRL.out.mono ?_; rintro e w2 ⟨rfl, f2, c2, r2, l2⟩
            go_wp2_with fail
            refine ⟨rfl, ?_⟩
            rw [HX2.out]
            exact ⟨rfl, F2.out.trans f2, c2, r2, by rw [l2]; simp⟩
          · rw [hq] at hrl
            have HRL := Lib.hid hrl
            have HX2 := Lib.hid (show Fl.readLines 0 ⟨Fl.noFlow, []⟩ (Fl.lines s0) = Fl.readLines (n + 1) st (leftL m y) by
              rw [HT.out.res, HLC.out, Fl.readLines, if_neg (by rw [HI.out]; decide), hq])
            clear hq hrl
            go_wp2_with fail
            refine HRL.out.mono ?_; rintro e w2 ⟨rfl, f2, c2, q2, i2, e1, e2, l2⟩
            have hr := (show TextAt a B R W s0 c2 q2 (n + 1) m y w2 from
              ⟨i2, F2.out.trans f2, by rw [l2]; simp, HY.out, by rw [HX2.out, e1, e2], by have := HT.out.count; rw [HLC.out] at this; simp at this; omega⟩)
            have HRR := Lib.hid hr; clear hr f2 i2 e1 e2 l2
            go_wp2_with fail
            go_roundw
            case rel => exact ⟨_, q2, n + 1, m, y, rfl, rfl, HRR.out⟩
            case measure =>
              cases m with
              | false => simp [onOf]
              | true => simp only [onOf, lenOf, bs_size]; have := HLT.out rfl; omega
end Go.Proofs.YtcaclijkkbhfhaaGreatDoor
