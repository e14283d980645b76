/-
  The walk of CalendarFirst.
-/
import Derived.Test.YtealfgeeigffbaaSane
namespace Go.Proofs.Ytealfgeeigffbaa
open Go.RowKit Go.Shelf

theorem bookAll_ok (L : List Kal.Bk) : Kal.Ok (bookAll L) := by
  unfold bookAll
  have : ∀ (L : List Kal.Bk) (K : Kal.Kal), Kal.Ok K → Kal.Ok (L.foldl Kal.book K) := by
    intro L
    induction L with
    | nil => intro K h; exact h
    | cons b L ih => intro K h; exact ih _ (h.book b)
  exact this L _ Kal.Ok.empty
theorem mem_book {K : Kal.Kal} {b x : Kal.Bk} {i : Nat} (h : x ∈ Kal.book K b i) : x = b ∨ x ∈ K i := by
  unfold Kal.book at h
  split at h
  · unfold Kal.put at h
    split at h
    · exact Kal.mem_ins.1 h
    · exact .inr h
  · exact .inr h
theorem mem_bookAll {L : List Kal.Bk} {x : Kal.Bk} {i : Nat} (h : x ∈ bookAll L i) : x ∈ L := by
  have : ∀ (L : List Kal.Bk) (K : Kal.Kal), x ∈ L.foldl Kal.book K i → x ∈ L ∨ x ∈ K i := by
    intro L
    induction L with
    | nil => intro K h; exact .inr h
    | cons b L ih =>
      intro K h
      rcases ih _ h with h | h
      · exact .inl (by simp [h])
      · rcases mem_book h with h | h
        · exact .inl (by simp [h])
        · exact .inr h
  rcases this L _ h with h | h
  · exact h
  · cases h
theorem booked_is {W w : World} (L : List Kal.Bk) (v : Value) (B : Nat) (h : BkOwn w B v L) (hb : Below W.heap.size W w) : Calls Try.prog 30 #[v] w fun e w' => ∃ C, e = .returned (.pointer (some ⟨C, 0, none⟩)) ∧ CalIs C (bookAll L) W w' ∧ Below w.heap.size w w' := by
  obtain ⟨a, c, rfl, ha⟩ := h.form
  exact (booked_any L a c w ha).mono fun _ _ ⟨d, h1, h2, h3⟩ => ⟨d.C, h1, ⟨d, rfl, h2.mono hb.size, hb.trans (h3.mono hb.size)⟩, h3⟩
theorem some_is {W w : World} (X : List (List Int)) (a : Option Addr) (c : Nat) (h : ArrsA 4 W a c X) (hb : Below W.heap.size W w) : Calls Try.prog 11 #[.slice a X.length c] w fun e w' => ∃ v, e = .returned v ∧ BkOwn w' W.heap.size v (someL X) ∧ Below w.heap.size w w' ∧ Below W.heap.size W w' :=
  (refSome_any X a c w (h.below hb)).mono fun _ _ ⟨v, h1, h2, h3⟩ => ⟨v, h1, h2.mono hb.size, h3, hb.trans (h3.mono hb.size)⟩

/-- What First tells of the bookings of integers. -/
theorem first_none {K : Kal.Kal} (hK : Kal.Ok K) {i : Nat} (hi : i < 60) (h340 : ∀ b ∈ K i, b.e ≤ 340) {f n : Int} (hn : 1 ≤ n ∧ n ≤ 60) (hf : (0 ≤ f ∧ f < 400) ∨ (999920 < f ∧ f ≤ 1000000)) (h : Kal.first (K i) f n = none) : 1000000 < f + n := by
  have hs := Kal.first_is (f := f) (n := n) (hK.srt i hi) (fun b hb => by have := h340 b hb; omega) hn.1
  rw [h] at hs
  apply Classical.byContradiction
  intro hc
  have hf0 := hf
  have := hs (max f 340) (by omega) (by omega)
  obtain ⟨b, hb, h1, h2⟩ := Kal.anyHits_true.1 this
  have := h340 b hb
  omega
theorem first_some {K : Kal.Kal} (hK : Kal.Ok K) {i : Nat} (hi : i < 60) {f n t : Int} (hn : 1 ≤ n) (hf : 0 ≤ f) (h : Kal.first (K i) f n = some t) :
    f ≤ t ∧ t + n ≤ 1000000 ∧ busyK K (i : Int) t (t + n) = false ∧ (∀ s, f ≤ s → s < t → busyK K (i : Int) s (s + n) = true) ∧ Kal.free K ⟨i, t, t + n, 9⟩ = true := by
  have hs := Kal.first_is (f := f) (n := n) (hK.srt i hi) (fun b hb => (Kal.okB_iff.1 (hK.mem i hi b hb).1).2.2.2.1) hn
  rw [h] at hs
  obtain ⟨h1, h2, h3, h4⟩ := hs
  have hf0 := hf
  have ht : Kal.isTool (i : Int) = true := by unfold Kal.isTool; simp; omega
  have hb : ∀ s, Kal.busy (K i) s (s + n) = Kal.anyHits (K i) s (s + n) := fun s => by unfold Kal.busy; rw [decide_eq_true (by omega), Bool.true_and]
  refine ⟨h1, h2, ?_, fun s h5 h6 => ?_, ?_⟩
  · unfold busyK; rw [ht, Int.toNat_natCast, hb, h3]; rfl
  · unfold busyK; rw [ht, Int.toNat_natCast, hb, h4 s h5 h6]; rfl
  · unfold Kal.free
    rw [Kal.okB_iff.2 ⟨by simp only; omega, by simp only; omega, by simp only; omega, by simp only; omega, by simp only; omega, by simp only; omega⟩]
    simp only [Int.toNat_natCast]
    rw [hb, h3]; rfl

set_option maxRecDepth 100000 in
set_option maxHeartbeats 4000000 in
theorem firstLaw_any (a : Option Addr) (c : Nat) (X : List (List Int)) (tool start len : Int) (late : Bool) (W : World) (h : ArrsA 4 W a c X) (t1 : -9223372036854775808 ≤ tool) (t2 : tool ≤ 9223372036854775807) (s1 : -9223372036854775808 ≤ start) (s2 : start ≤ 9223372036854775807) (l1 : -9223372036854775808 ≤ len) (l2 : len ≤ 9223372036854775807) :
    Calls Try.prog 5 #[.slice a X.length c, .int .i64 tool, .int .i64 start, .int .i64 len, .bool late] W fun e w' => e = .returned (.bool true) ∧ Below W.heap.size W w' := by
  have H := Lib.hid h
  have P1 := Lib.hid (fun w => pick_any tool 6 w ⟨t1, t2⟩ (by omega))
  have P2 := Lib.hid (fun w => pick_any start 400 w ⟨s1, s2⟩ (by omega))
  have P3 := Lib.hid (fun w => pick_any len 60 w ⟨l1, l2⟩ (by omega))
  have P4 := Lib.hid (fun w => pick_any start 80 w ⟨s1, s2⟩ (by omega))
  have b1 := pickZ_bd (c := tool) (n := 6) (by omega)
  have b2 := pickZ_bd (c := start) (n := 400) (by omega)
  have b3 := pickZ_bd (c := len) (n := 60) (by omega)
  have b4 := pickZ_bd (c := start) (n := 80) (by omega)
  have HK := Lib.hid (bookAll_ok (someL X))
  have H340 := Lib.hid (show ∀ (i : Nat) (b : Kal.Bk), b ∈ bookAll (someL X) i → b.e ≤ 340 from fun i b hb => (someL_ok (mem_bookAll hb)).2.2.1)
  obtain ⟨i, hi⟩ : ∃ i : Nat, pickZ tool 6 = (i : Int) := ⟨(pickZ tool 6).toNat, by omega⟩
  rw [hi] at P1 b1
  clear h hi t1 t2 s1 s2 l1 l2
  generalize pickZ start 400 = f4 at *
  generalize pickZ start 80 = f8 at *
  generalize pickZ len 60 = n0 at *
  cases late
  · go_enter Try.func5, Try.ntmps5
    go_wp2_with fail
    refine (sane_any W).mono ?_; rintro e w1 ⟨rfl, g1⟩
    have G1 := Lib.hid g1; clear g1
    go_wp2_with fail
    refine (some_is X a c H.out G1.out).mono ?_; rintro e w2 ⟨v, rfl, o2, -, g2⟩
    have O2 := Lib.hid o2; have G2 := Lib.hid g2; clear o2 g2
    go_wp2_with fail
    refine (booked_is _ _ _ O2.out G2.out).mono ?_; rintro e w3 ⟨C, rfl, h3, -⟩
    have H3 := Lib.hid h3; clear h3
    generalize bookAll (someL X) = K at *
    go_wp2_with fail
    refine (P1.out _).mono ?_; rintro e w' ⟨rfl, rfl⟩
    go_wp2_with fail
    refine (P2.out _).mono ?_; rintro e w' ⟨rfl, rfl⟩
    go_wp2_with fail
    refine (P3.out _).mono ?_; rintro e w' ⟨rfl, rfl⟩
    go_wp2_with fail
    obtain ⟨n, hn⟩ : ∃ n : Int, 1 + n0 = n := ⟨_, rfl⟩
    have hn0 : 1 ≤ n ∧ n ≤ 60 := by omega
    rw [hn]
    clear hn
    obtain ⟨hn1, hn2⟩ := hn0
    have HFst := Lib.hid (first_is (i : Int) f4 n H3.out ⟨by omega, by omega⟩ ⟨by omega, by omega⟩)
    have hfk : firstK K (i : Int) f4 n = Kal.first (K i) f4 n := by
      unfold firstK
      rw [if_pos ⟨by unfold Kal.isTool; simp; omega, hn1⟩, Int.toNat_natCast, show max (f4) 0 = f4 by omega]
    rw [hfk] at HFst
    clear hfk
    cases hr : Kal.first (K i) f4 n with
    | none =>
      have hend := first_none HK.out (by omega) (fun b hb => H340.out i b hb) ⟨hn1, hn2⟩ (by omega) hr
      rw [hr] at HFst
      have hd : decide (1000000 < f4 + n) = true := decide_eq_true hend
      clear hr hend
      unfold FirstPost firstV at HFst
      simp only [Option.getD, Option.isSome] at HFst
      refine HFst.out.mono ?_; rintro e w4 ⟨rfl, g4⟩
      have G4 := Lib.hid (H3.out.below g4); clear g4
      go_wp2_with fail
      go_ret
      exact ⟨by simp, G4.out.bel⟩
    | some t =>
      obtain ⟨q1, q2, q3, q4, q5⟩ := first_some HK.out (by omega) hn1 (by omega) hr
      rw [hr] at HFst
      have HB := Lib.hid (show ∀ w, CalIs C K W w → Calls Try.prog 21 #[.pointer (some ⟨C, 0, none⟩), .int .i64 (i : Int), .int .i64 t, .int .i64 (t + n)] w fun r w' => r = .returned (.bool false) ∧ Below w.heap.size w w' from fun w hw => by
        have := busy_is (i : Int) t (t + n) hw; rw [q3] at this; exact this)
      have HB2 := Lib.hid (show ∀ w s, CalIs C K W w → f4 ≤ s → s < t → Calls Try.prog 21 #[.pointer (some ⟨C, 0, none⟩), .int .i64 (i : Int), .int .i64 s, .int .i64 (s + n)] w fun r w' => r = .returned (.bool true) ∧ Below w.heap.size w w' from fun w s hw h1 h2 => by
        have := busy_is (i : Int) s (s + n) hw; rw [q4 s h1 h2] at this; exact this)
      have HBk := Lib.hid (show ∀ w, CalIs C K W w → Calls Try.prog 14 #[.pointer (some ⟨C, 0, none⟩), .agg #[.int .i64 (i : Int), .int .i64 t, .int .i64 (t + n), .int .i64 9]] w fun e w' => e = .returned (.int .i64 0) ∧ Below W.heap.size W w' from fun w hw => by
        refine (book_is ⟨i, t, t + n, 9⟩ hw).mono fun _ _ ⟨h1, h2⟩ => ⟨?_, h2.bel⟩
        rw [h1, if_pos q5])
      clear hr q3 q4 q5
      unfold FirstPost firstV at HFst
      simp only [Option.getD, Option.isSome] at HFst
      refine HFst.out.mono ?_; rintro e w4 ⟨rfl, g4⟩
      have H4 := Lib.hid (H3.out.below g4); clear g4
      have hd : decide (t < f4) = false := decide_eq_false (by omega)
      go_wp2_with fail
      refine (HB.out _ H4.out).mono ?_; rintro e w5 ⟨rfl, g5⟩
      have H5 := Lib.hid (H4.out.below g5); clear g5
      go_wp2_with fail
      go_loopw [18] (fun sv wr => ∃ s : Int, sv = .int .i64 s ∧ f4 ≤ s ∧ s ≤ t ∧ Hid (CalIs C K W wr)) (fun sv _ => (t - intOf sv).toNat)
      case atStart => exact ⟨_, rfl, Int.le_refl _, q1, H5⟩
      case round =>
        obtain ⟨s, rfl, z1, z2, HC⟩ := hrel
        by_cases hlt : s < t
        · go_wp2_with fail
          refine (HB2.out _ s HC.out z1 hlt).mono ?_; rintro e w6 ⟨rfl, g6⟩
          have H6 := Lib.hid (HC.out.below g6); clear g6
          go_wp2_with fail
          go_roundw
          case rel => exact ⟨s + 1, rfl, by omega, by omega, H6⟩
          case measure => simp [intOf]; omega
        · go_wp2_with fail
          refine (HBk.out _ HC.out).mono ?_; rintro e w6 ⟨rfl, g6⟩
          have G6 := Lib.hid g6; clear g6
          go_wp2_with fail
          go_ret
          exact ⟨rfl, G6.out⟩
  · go_enter Try.func5, Try.ntmps5
    go_wp2_with fail
    refine (sane_any W).mono ?_; rintro e w1 ⟨rfl, g1⟩
    have G1 := Lib.hid g1; clear g1
    go_wp2_with fail
    refine (some_is X a c H.out G1.out).mono ?_; rintro e w2 ⟨v, rfl, o2, -, g2⟩
    have O2 := Lib.hid o2; have G2 := Lib.hid g2; clear o2 g2
    go_wp2_with fail
    refine (booked_is _ _ _ O2.out G2.out).mono ?_; rintro e w3 ⟨C, rfl, h3, -⟩
    have H3 := Lib.hid h3; clear h3
    generalize bookAll (someL X) = K at *
    go_wp2_with fail
    refine (P1.out _).mono ?_; rintro e w' ⟨rfl, rfl⟩
    go_wp2_with fail
    refine (P2.out _).mono ?_; rintro e w' ⟨rfl, rfl⟩
    go_wp2_with fail
    refine (P3.out _).mono ?_; rintro e w' ⟨rfl, rfl⟩
    go_wp2_with fail
    refine (P4.out _).mono ?_; rintro e w' ⟨rfl, rfl⟩
    go_wp2_with fail
    obtain ⟨f, hf⟩ : ∃ f : Int, 1000000 - f8 = f := ⟨_, rfl⟩
    have hf0 : 999920 < f ∧ f ≤ 1000000 := by omega
    rw [hf]
    clear hf
    obtain ⟨hf1, hf2⟩ := hf0
    obtain ⟨n, hn⟩ : ∃ n : Int, 1 + n0 = n := ⟨_, rfl⟩
    have hn0 : 1 ≤ n ∧ n ≤ 60 := by omega
    rw [hn]
    clear hn
    obtain ⟨hn1, hn2⟩ := hn0
    have HFst := Lib.hid (first_is (i : Int) f n H3.out ⟨by omega, by omega⟩ ⟨by omega, by omega⟩)
    have hfk : firstK K (i : Int) f n = Kal.first (K i) f n := by
      unfold firstK
      rw [if_pos ⟨by unfold Kal.isTool; simp; omega, hn1⟩, Int.toNat_natCast, show max (f) 0 = f by omega]
    rw [hfk] at HFst
    clear hfk
    cases hr : Kal.first (K i) f n with
    | none =>
      have hend := first_none HK.out (by omega) (fun b hb => H340.out i b hb) ⟨hn1, hn2⟩ (by omega) hr
      rw [hr] at HFst
      have hd : decide (1000000 < f + n) = true := decide_eq_true hend
      clear hr hend
      unfold FirstPost firstV at HFst
      simp only [Option.getD, Option.isSome] at HFst
      refine HFst.out.mono ?_; rintro e w4 ⟨rfl, g4⟩
      have G4 := Lib.hid (H3.out.below g4); clear g4
      go_wp2_with fail
      go_ret
      exact ⟨by simp, G4.out.bel⟩
    | some t =>
      obtain ⟨q1, q2, q3, q4, q5⟩ := first_some HK.out (by omega) hn1 (by omega) hr
      rw [hr] at HFst
      have HB := Lib.hid (show ∀ w, CalIs C K W w → Calls Try.prog 21 #[.pointer (some ⟨C, 0, none⟩), .int .i64 (i : Int), .int .i64 t, .int .i64 (t + n)] w fun r w' => r = .returned (.bool false) ∧ Below w.heap.size w w' from fun w hw => by
        have := busy_is (i : Int) t (t + n) hw; rw [q3] at this; exact this)
      have HB2 := Lib.hid (show ∀ w s, CalIs C K W w → f ≤ s → s < t → Calls Try.prog 21 #[.pointer (some ⟨C, 0, none⟩), .int .i64 (i : Int), .int .i64 s, .int .i64 (s + n)] w fun r w' => r = .returned (.bool true) ∧ Below w.heap.size w w' from fun w s hw h1 h2 => by
        have := busy_is (i : Int) s (s + n) hw; rw [q4 s h1 h2] at this; exact this)
      have HBk := Lib.hid (show ∀ w, CalIs C K W w → Calls Try.prog 14 #[.pointer (some ⟨C, 0, none⟩), .agg #[.int .i64 (i : Int), .int .i64 t, .int .i64 (t + n), .int .i64 9]] w fun e w' => e = .returned (.int .i64 0) ∧ Below W.heap.size W w' from fun w hw => by
        refine (book_is ⟨i, t, t + n, 9⟩ hw).mono fun _ _ ⟨h1, h2⟩ => ⟨?_, h2.bel⟩
        rw [h1, if_pos q5])
      clear hr q3 q4 q5
      unfold FirstPost firstV at HFst
      simp only [Option.getD, Option.isSome] at HFst
      refine HFst.out.mono ?_; rintro e w4 ⟨rfl, g4⟩
      have H4 := Lib.hid (H3.out.below g4); clear g4
      have hd : decide (t < f) = false := decide_eq_false (by omega)
      go_wp2_with fail
      refine (HB.out _ H4.out).mono ?_; rintro e w5 ⟨rfl, g5⟩
      have H5 := Lib.hid (H4.out.below g5); clear g5
      go_wp2_with fail
      go_loopw [18] (fun sv wr => ∃ s : Int, sv = .int .i64 s ∧ f ≤ s ∧ s ≤ t ∧ Hid (CalIs C K W wr)) (fun sv _ => (t - intOf sv).toNat)
      case atStart => exact ⟨_, rfl, Int.le_refl _, q1, H5⟩
      case round =>
        obtain ⟨s, rfl, z1, z2, HC⟩ := hrel
        by_cases hlt : s < t
        · go_wp2_with fail
          refine (HB2.out _ s HC.out z1 hlt).mono ?_; rintro e w6 ⟨rfl, g6⟩
          have H6 := Lib.hid (HC.out.below g6); clear g6
          go_wp2_with fail
          go_roundw
          case rel => exact ⟨s + 1, rfl, by omega, by omega, H6⟩
          case measure => simp [intOf]; omega
        · go_wp2_with fail
          refine (HBk.out _ HC.out).mono ?_; rintro e w6 ⟨rfl, g6⟩
          have G6 := Lib.hid g6; clear g6
          go_wp2_with fail
          go_ret
          exact ⟨rfl, G6.out⟩
end Go.Proofs.Ytealfgeeigffbaa
