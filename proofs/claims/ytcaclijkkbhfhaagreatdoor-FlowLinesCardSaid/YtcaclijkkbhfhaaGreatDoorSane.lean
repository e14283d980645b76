/-
  The fixed examples of the statements: sane answers true.
-/
import Derived.Test.YtcaclijkkbhfhaaGreatDoorSameB
import Derived.Test.YtcaclijkkbhfhaaGreatDoorFlE
namespace Go.Proofs.YtcaclijkkbhfhaaGreatDoor
open Go.RowKit Go.Shelf

theorem ex_open {q : FlowP} (h : q.f = Fl.exFlow) : ∃ p0 p1, q.least = 5 ∧ q.most = 10 ∧ q.P = [p0, p1] ∧ p1.s = ⟨3, [7], 5, 5, [], 0, 3⟩ ∧ q.W = [⟨0, 1, 60⟩] := by
  have h1 : q.least = 5 := congrArg Fl.Flow.least h
  have h2 : q.most = 10 := congrArg Fl.Flow.most h
  have h3 : stepsOf q.P = [⟨12, [1, 2], 10, 20, [1], -1, 0⟩, ⟨3, [7], 5, 5, [], 0, 3⟩] := congrArg Fl.Flow.steps h
  have h4 : q.W = [⟨0, 1, 60⟩] := congrArg Fl.Flow.wins h
  have hl : q.P.length = 2 := by have := congrArg List.length h3; simpa using this
  obtain ⟨p0, p1, hP⟩ : ∃ p0 p1, q.P = [p0, p1] := by
    match q.P, hl with
    | [p0, p1], _ => exact ⟨p0, p1, rfl⟩
  rw [hP] at h3
  simp only [stepsOf, List.map_cons, List.map_nil, List.cons.injEq, and_true] at h3
  exact ⟨p0, p1, h1, h2, hP, h3.2, h4⟩
theorem ex_print {q : FlowP} (h : q.f = Fl.exFlow) : printS q.f = Fl.exHead ++ Fl.exTail ∧ printE q.f = 0 := by
  unfold printS printE; rw [h, Fl.ex_valid, if_pos rfl, if_pos rfl, Fl.ex_text]; exact ⟨rfl, rfl⟩
theorem parse_err {s : List UInt8} {n : Nat} (h : Fl.parse s = .error n) (w : World) (a : Addr) (ht : Tab a w) (hl : s.length ≤ 900000) :
    Calls Tryz.prog 21 #[.string (bs s)] w fun e w' => e = .returned (.tuple #[.agg #[.int .i64 0, .int .i64 0, .slice none 0 0, .slice none 0 0], .int .i64 n, .int .i64 40]) ∧ Below w.heap.size w w' := by
  have := Parse_any s w a ht hl
  rw [h] at this; exact this
def ParseOk (f : Fl.Flow) (w : World) (e : Ending) (w' : World) : Prop := ∃ q : FlowP, e = .returned (.tuple #[q.v, .int .i64 0, .int .i64 0]) ∧ q.f = f ∧ q.ok w' ∧ Below w.heap.size w w'
theorem parse_ok {s : List UInt8} {f : Fl.Flow} (h : Fl.parse s = .ok f) (w : World) (a : Addr) (ht : Tab a w) (hl : s.length ≤ 900000) :
    Calls Tryz.prog 21 #[.string (bs s)] w (ParseOk f w) := by
  have := Parse_any s w a ht hl
  rw [h] at this
  exact this.mono fun _ _ ⟨q, h1, h2, h3, h4⟩ => ⟨q, h3, h1, h2, h4⟩

def ParseOkS (S : ByteArray) (w : World) (e : Ending) (w' : World) : Prop := ∃ q : FlowP, e = .returned (.tuple #[q.v, .int .i64 0, .int .i64 0]) ∧ q.f = Fl.exFlow ∧ q.ok w' ∧ S = bs (printS q.f) ∧ Below w.heap.size w w'
set_option maxRecDepth 100000 in
theorem parse_okS (S : ByteArray) (hS : S = bs (Fl.exHead ++ Fl.exTail)) (w : World) (a : Addr) (ht : Tab a w) : Calls Tryz.prog 21 #[.string S] w (ParseOkS S w) := by
  subst hS
  exact (parse_ok Fl.ex_parse w a ht (by decide)).mono fun _ _ ⟨q, h1, h2, h3, h4⟩ => ⟨q, h1, h2, h3, by rw [(ex_print h2).1], h4⟩
set_option maxRecDepth 100000 in
set_option maxHeartbeats 4000000 in
theorem sane_any (w : World) (a : Addr) (ht : Tab a w) : Calls Tryz.prog 11 #[] w fun e w' => e = .returned (.bool true) ∧ Below w.heap.size w w' := by
  have HT := Lib.hid ht
  have P1 := Lib.hid (fun S hS w ht => parse_okS S hS w a ht)
  have P2 := Lib.hid (fun w ht => parse_err Fl.ex_parse2 w a ht (by decide))
  have P3 := Lib.hid (fun w ht => parse_err Fl.ex_parse3 w a ht (by decide))
  have P4 := Lib.hid (fun w ht => parse_err Fl.ex_parse4 w a ht (by decide))
  clear ht
  go_enter Tryz.func11, Tryz.ntmps11
  go_wp2_with fail
  refine (P1.out _ (by kernel_rfl) _ HT.out).mono ?_; rintro e w1 ⟨q, rfl, hf, hq, hps, g1⟩
  have HF := Lib.hid hf; have HQ := Lib.hid hq; have L1 := Lib.hid g1; clear hf hq g1
  have HPr := Lib.hid (fun w ht hq => by have := Print_any q w a ht hq; rw [← hps, (ex_print HF.out).2] at this; exact this)
  clear hps
  go_wp2_with fail
  have N2 := Lib.hid (below_new w1 (flowBox q))
  have B2 := Lib.hid (FlowBox.new w1 q)
  unfold flowBox at N2
  generalize w1.alloc (.cells #[.int .i64 q.least, .int .i64 q.most, .slice q.sa q.P.length q.sc, .slice q.wa q.W.length q.wc] 25) = w2 at *
  have L2 := Lib.hid (below_step L1.out N2.out)
  have Q2 := Lib.hid (HQ.out.below N2.out)
  refine (HPr.out _ (HT.out.below L2.out) Q2.out).mono ?_; rintro e w3 ⟨rfl, g3⟩
  have L3 := Lib.hid (below_step L2.out g3); have B3 := Lib.hid (B2.out.below g3); have Q3 := Lib.hid (Q2.out.below g3)
  clear g3 HPr B2 Q2 HQ
  go_wp2_with fail
  refine (P2.out _ (HT.out.below L3.out)).mono ?_; rintro e w4 ⟨rfl, g4⟩
  have hn := below_step g4 (below_new w4 (.cells #[.int .i64 0, .int .i64 0, .slice none 0 0, .slice none 0 0] 25))
  have L4 := Lib.hid (below_step L3.out hn); have B4 := Lib.hid (B3.out.below hn); have Q4 := Lib.hid (Q3.out.below hn)
  clear g4 hn B3 Q3
  go_wp2_with fail
  generalize w4.alloc (.cells #[.int .i64 0, .int .i64 0, .slice none 0 0, .slice none 0 0] 25) = w5 at *
  refine (P3.out _ (HT.out.below L4.out)).mono ?_; rintro e w6 ⟨rfl, g4⟩
  have hn := below_step g4 (below_new w6 (.cells #[.int .i64 0, .int .i64 0, .slice none 0 0, .slice none 0 0] 25))
  have L6 := Lib.hid (below_step L4.out hn); have B6 := Lib.hid (B4.out.below hn); have Q6 := Lib.hid (Q4.out.below hn)
  clear g4 hn B4 Q4
  go_wp2_with fail
  generalize w6.alloc (.cells #[.int .i64 0, .int .i64 0, .slice none 0 0, .slice none 0 0] 25) = w7 at *
  refine (P4.out _ (HT.out.below L6.out)).mono ?_; rintro e w8 ⟨rfl, g4⟩
  have hn := below_step g4 (below_new w8 (.cells #[.int .i64 0, .int .i64 0, .slice none 0 0, .slice none 0 0] 25))
  have L8 := Lib.hid (below_step L6.out hn); have B8 := Lib.hid (B6.out.below hn); have Q8 := Lib.hid (Q6.out.below hn)
  clear g4 hn B6 Q6
  obtain ⟨p0, p1, h1, h2, h3, h4, h5⟩ := ex_open HF.out
  have H1 := Lib.hid h1; have H2 := Lib.hid h2; have H3 := Lib.hid h3; have H4 := Lib.hid h4; have H5 := Lib.hid h5
  have k1 : q.P.length = 2 := by rw [h3]; rfl
  have k2 : q.W.length = 1 := by rw [h5]; rfl
  have K := Lib.hid (And.intro k1 k2)
  have BX := B8.out
  clear h1 h2 h3 h4 h5
  obtain ⟨-, c0, c1, c2, c3⟩ := BX
  rw [k1] at c2; rw [k2] at c3
  obtain ⟨b, off, hsa, -, hAt, -⟩ := Q8.out.1.2.2 1 (by rw [k1]; decide)
  obtain ⟨b', off', hwa, -, hWt⟩ := Q8.out.2.2.2 0 (by rw [k2]; decide)
  have d5 : (w8.alloc (.cells #[.int .i64 0, .int .i64 0, .slice none 0 0, .slice none 0 0] 25)).cell? ⟨b, off + 7 + 5, none⟩ = some (.int .i64 0) := by
    have h0 := hAt.c5
    have hp : q.P[1]'(by rw [k1]; decide) = p1 := by simp [H3.out]
    rw [hp, H4.out, Nat.one_mul] at h0; exact h0
  have d2 : (w8.alloc (.cells #[.int .i64 0, .int .i64 0, .slice none 0 0, .slice none 0 0] 25)).cell? ⟨b', off' + 2, none⟩ = some (.int .i64 60) := by
    have h0 := hWt.c2
    have hp : q.W[0]'(by rw [k2]; decide) = ⟨0, 1, 60⟩ := by simp [H5.out]
    rw [hp, Nat.zero_mul, Nat.add_zero] at h0; exact h0
  have K2 : Hid ((Value.slice q.sa q.P.length q.sc) = .slice (some ⟨b, off, none⟩) 2 q.sc ∧ (Value.slice q.wa q.W.length q.wc) = .slice (some ⟨b', off', none⟩) 1 q.wc) := Lib.hid ⟨by rw [hsa, k1], by rw [hwa, k2]⟩
  have ev : q.v = .agg #[.int .i64 q.least, .int .i64 q.most, .slice (some ⟨b, off, none⟩) 2 q.sc, .slice (some ⟨b', off', none⟩) 1 q.wc] := by unfold FlowP.v; rw [hsa, hwa, k1, k2]
  have V1 : Hid (∀ w', q.ok w' → Calls Tryz.prog 13 #[.agg #[.int .i64 q.least, .int .i64 q.most, .slice (some ⟨b, off, none⟩) 2 q.sc, .slice (some ⟨b', off', none⟩) 1 q.wc]] w' fun e w'' => e = .returned (.bool true) ∧ Below w'.heap.size w' w'') := Lib.hid fun w' h => by
    have h0 := Valid_any q w' h
    rw [ev, HF.out, Fl.ex_valid] at h0; exact h0
  have V2 : Hid (∀ w', Calls Tryz.prog 13 #[.agg #[.int .i64 0, .int .i64 0, .slice none 0 0, .slice none 0 0]] w' fun e w'' => e = .returned (.bool false) ∧ Below w'.heap.size w' w'') := Lib.hid fun w' => Valid_any q0 w' ⟨StepsA.nil _, WinsA.nil _⟩
  have V3 : Hid (∀ w', q.ok w' → Calls Tryz.prog 19 #[.agg #[.int .i64 q.least, .int .i64 q.most, .slice (some ⟨b, off, none⟩) 2 q.sc, .slice (some ⟨b', off', none⟩) 1 q.wc], .agg #[.int .i64 q.least, .int .i64 q.most, .slice (some ⟨b, off, none⟩) 2 q.sc, .slice (some ⟨b', off', none⟩) 1 q.wc]] w' fun e w'' => e = .returned (.bool true) ∧ Below w'.heap.size w' w'') := Lib.hid fun w' h => by
    have h0 := Same_any q q w' h h
    rw [ev, decide_eq_true rfl] at h0; exact h0
  have V4 : Hid (∀ w', q.ok w' → Calls Tryz.prog 19 #[.agg #[.int .i64 q.least, .int .i64 q.most, .slice (some ⟨b, off, none⟩) 2 q.sc, .slice (some ⟨b', off', none⟩) 1 q.wc], .agg #[.int .i64 0, .int .i64 0, .slice none 0 0, .slice none 0 0]] w' fun e w'' => e = .returned (.bool false) ∧ Below w'.heap.size w' w'') := Lib.hid fun w' h => by
    have h0 := Same_any q q0 w' h ⟨StepsA.nil _, WinsA.nil _⟩
    rw [ev, HF.out] at h0
    rw [show decide (Fl.exFlow = q0.f) = false by rw [q0_f]; rfl] at h0; exact h0
  rw [hsa] at c2; rw [hwa] at c3
  clear k1 k2 hAt hWt hsa hwa ev
  go_wp2_with fail
  clear c0 c1 c2 c3 d5 d2
  generalize w8.alloc (.cells #[.int .i64 0, .int .i64 0, .slice none 0 0, .slice none 0 0] 25) = w9 at *
  refine (V1.out _ Q8.out).mono ?_; rintro e w10 ⟨rfl, g⟩
  have L10 := Lib.hid (below_step L8.out g); have Q10 := Lib.hid (Q8.out.below g); have B10 := Lib.hid (B8.out.below g); clear g
  go_wp2_with fail
  refine (V2.out _).mono ?_; rintro e w11 ⟨rfl, g⟩
  have L11 := Lib.hid (below_step L10.out g); have Q11 := Lib.hid (Q10.out.below g); have B11 := Lib.hid (B10.out.below g); clear g
  obtain ⟨-, c0, c1, c2, c3⟩ := B11.out
  rw [K2.out.1] at c2; rw [K2.out.2] at c3
  go_wp2_with fail
  clear c0 c1 c2 c3
  refine (V3.out _ Q11.out).mono ?_; rintro e w12 ⟨rfl, g⟩
  have L12 := Lib.hid (below_step L11.out g); have Q12 := Lib.hid (Q11.out.below g); have B12 := Lib.hid (B11.out.below g); clear g
  obtain ⟨-, c0, c1, c2, c3⟩ := B12.out
  rw [K2.out.1] at c2; rw [K2.out.2] at c3
  go_wp2_with fail
  clear c0 c1 c2 c3
  refine (V4.out _ Q12.out).mono ?_; rintro e w13 ⟨rfl, g⟩
  have L13 := Lib.hid (below_step L12.out g); clear g
  go_wp2_with fail
  go_ret
  exact ⟨rfl, L13.out⟩
end Go.Proofs.YtcaclijkkbhfhaaGreatDoor
