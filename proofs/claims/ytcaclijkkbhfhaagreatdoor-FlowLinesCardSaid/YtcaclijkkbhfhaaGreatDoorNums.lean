/-
  Contract of numbers: what a word's list of numbers is, in memory of its own.
-/
import Derived.Test.YtcaclijkkbhfhaaGreatDoorRdB
namespace Go.Proofs.YtcaclijkkbhfhaaGreatDoor
open Go.RowKit Go.Shelf

/-- A slice of strings that reads as L. -/
def StrA (w : World) (a : Option Addr) (c : Nat) (L : List ByteArray) : Prop :=
  L.length ≤ c ∧ c ≤ maxLen ∧ ∀ i (h : i < L.length), ∃ b off : Nat, a = some ⟨b, off, none⟩ ∧ b < w.heap.size ∧ w.cell? ⟨b, off + i, none⟩ = some (.string L[i])
theorem StrA.below {w w' : World} {a : Option Addr} {c : Nat} {L : List ByteArray} (h : StrA w a c L) (hb : Below w.heap.size w w') : StrA w' a c L := by
  refine ⟨h.1, h.2.1, fun i hi => ?_⟩
  obtain ⟨b, off, rfl, h1, h2⟩ := h.2.2 i hi
  exact ⟨b, off, rfl, Nat.lt_of_lt_of_le h1 hb.size, (hb.cell (p := ⟨b, off + i, none⟩) h1).trans h2⟩
/-- Integers as values. -/
def intV (L : List Int) : List Value := L.map (Value.int .i64)
theorem intV_length (L : List Int) : (intV L).length = L.length := by simp [intV]
/-- A row of integers that the call has made. -/
def IntOwn (w : World) (base : Nat) (v : Value) (L : List Int) : Prop := w.ownsRow base 3 1 v L.length (intV L)
theorem IntOwn.arg {w : World} {base : Nat} {v : Value} {L : List Int} (h : IntOwn w base v L) : ∃ a c, v = .slice a L.length c ∧ IntA w a c L ∧ ∀ x, a = some x → base ≤ x.block := by
  obtain ⟨h1, ⟨rfl, h2⟩ | ⟨g, cap, cur, rfl, h2, h3, h4, h5, h6, h7⟩⟩ := h
  · exact ⟨none, 0, by rw [h2], ⟨by omega, by decide, fun i hi => by omega⟩, fun x hx => by cases hx⟩
  · refine ⟨_, cap, rfl, ⟨h4, h5, fun i hi => ⟨g, 0, rfl, ?_, ?_⟩⟩, fun x hx => by injection hx with hx; subst hx; exact h2⟩
    · exact (Array.getElem?_eq_some_iff.1 h3).1
    · have hrow : w.ownsRow base 3 1 (.slice (some ⟨g, 0, none⟩) L.length cap) L.length (intV L) := ⟨h1, .inr ⟨g, cap, cur, rfl, h2, h3, h4, h5, h6, h7⟩⟩
      have := hrow.cells (g := g) rfl i (.int .i64 L[i]) (by simp [intV, hi])
      cases i <;> simpa [Addr.add] using this
theorem IntOwn.snoc {w : World} {base : Nat} {v : Value} {L : List Int} {x : Int} (h : w.ownsRow base 3 1 v (L.length + 1) (intV L ++ [.int .i64 x])) : IntOwn w base v (L ++ [x]) := by
  unfold IntOwn intV
  rw [List.length_append, List.map_append]
  exact h
theorem IntOwn.below {w w' : World} {base : Nat} {v : Value} {L : List Int} (h : IntOwn w base v L) (hb : Below w.heap.size w w') : IntOwn w' base v L := by
  obtain ⟨h1, h2 | ⟨g, cap, cur, rfl, h2, h3, h4⟩⟩ := h
  · exact ⟨h1, .inl h2⟩
  · exact ⟨h1, .inr ⟨g, cap, cur, rfl, h2, by rw [hb.block g (Array.getElem?_eq_some_iff.1 h3).1]; exact h3, h4⟩⟩
theorem IntOwn.mono {w : World} {base base' : Nat} {v : Value} {L : List Int} (h : IntOwn w base v L) (hb : base' ≤ base) : IntOwn w base' v L := by
  obtain ⟨h1, h2 | ⟨g, cap, cur, rfl, h2, h3, h4⟩⟩ := h
  · exact ⟨h1, .inl h2⟩
  · exact ⟨h1, .inr ⟨g, cap, cur, rfl, Nat.le_trans hb h2, h3, h4⟩⟩
theorem info_int : (Tryz.prog.info? 3).map (fun i => (i.zero, i.size, i.bytes)) = some (some (.int .i64 0), 1, 8) := by kernel_rfl

theorem numbersOf_acc (P : List (List UInt8)) (k : Nat) (h : k < P.length) (acc : List Int) :
    (Fl.numbersOf (P.drop k)).map (acc ++ ·) = (Fl.number P[k]).bind fun n => (Fl.numbersOf (P.drop (k + 1))).map ((acc ++ [n]) ++ ·) := by
  rw [List.drop_eq_getElem_cons h, Fl.numbersOf]
  cases Fl.number P[k] with
  | none => rfl
  | some n => simp only [Option.bind_some]; cases Fl.numbersOf (P.drop (k + 1)) <;> simp
/-- What numbers answers. -/
def NumsPost (a : Addr) (w : World) (r : Option (List Int)) (e : Ending) (w' : World) : Prop :=
  match r with
  | none => e = raised a ∧ Below w.heap.size w w'
  | some L => (∃ v, e = .returned v ∧ IntOwn w' w.heap.size v L) ∧ Below w.heap.size w w'
theorem split_own (w : World) (PB : List ByteArray) (N : Nat) (hN : PB.length ≤ N) (hm : N ≤ maxLen) : StrA (w.alloc (.cells (Lib.cellsOf PB N) 9)) (some ⟨w.heap.size, 0, none⟩) N PB := by
  refine ⟨hN, hm, fun i hi => ⟨w.heap.size, 0, rfl, by simp, ?_⟩⟩
  have : (Lib.cellsOf PB N)[0 + i]? = some (.string PB[i]) := by
    unfold Lib.cellsOf
    rw [List.getElem?_toArray, Nat.zero_add, List.getElem?_append_left (by simpa using hi)]
    simp [hi]
  unfold World.cell?
  rw [heap_alloc_new]
  exact this
theorem splitB_size (sep : ByteArray) : ∀ (k : Nat) (s : ByteArray), ∀ x ∈ Lib.splitB sep 0 k s, x.size ≤ s.size
  | 0, s, x, h => by rw [Lib.splitB_zero, List.mem_singleton] at h; rw [h]; exact Nat.le_refl _
  | k + 1, s, x, h => by
    unfold Lib.splitB at h
    split at h
    · rw [List.mem_singleton] at h; rw [h]; exact Nat.le_refl _
    · rcases List.mem_cons.1 h with h | h
      · rw [h, ByteArray.size_extract]; omega
      · have := splitB_size sep k _ x h
        rw [ByteArray.size_extract] at this; omega

set_option maxRecDepth 100000 in
set_option maxHeartbeats 2000000 in
theorem numbers_any (s : ByteArray) (most : Nat) (w : World) (a : Addr) (ht : Tab a w) (hs : s.size ≤ 1000000) (h1 : 1 ≤ most) (h2 : most ≤ 1000) :
    Calls Tryz.prog 105 #[.string s, .int .i64 most] w (NumsPost a w (Fl.numbers s.data.toList most)) := by
  obtain ⟨PB, hPB⟩ : ∃ PB, Lib.splitB (bs [44]) 0 (min most (s.size + 1) - 1) s = PB := ⟨_, rfl⟩
  obtain ⟨N, hNN⟩ : ∃ N, min most (s.size + 1) = N := ⟨_, rfl⟩
  have hN1 : PB.length ≤ N := by
    have := Lib.splitB_length_le (bs [44]) 0 (min most (s.size + 1) - 1) s
    rw [hPB] at this; omega
  have hN2 : N ≤ 1000 := by omega
  obtain ⟨P, hP⟩ : ∃ P, PB.map (·.data.toList) = P := ⟨_, rfl⟩
  have hlen : P.length = PB.length := by rw [← hP]; simp
  have hE : Fl.numbers s.data.toList most = Fl.numbersOf P := by
    unfold Fl.numbers Lib.splitN
    rw [← hP, ← hPB, Lib.splitB_data]
    simp
  have hsz : ∀ i (h : i < PB.length), PB[i].size ≤ 1000000 := by
    intro i hi
    have := splitB_size (bs [44]) _ s PB[i] (by rw [hPB]; exact List.getElem_mem hi)
    omega
  have HC := Lib.hid (splitN_any s (bs [44]) most w a ht hs (by rw [bs_size]; decide) h1 (by omega))
  rw [hPB, hNN] at HC
  have HT := Lib.hid ht
  have HZ := Lib.hid hsz
  have HW := Lib.hid (split_own w PB N hN1 (by unfold maxLen; omega))
  have HP := Lib.hid hP; have HL := Lib.hid hlen; have HNN := Lib.hid hN2; have HN1 := Lib.hid hN1
  rw [hE]
  clear hPB hNN hE hsz ht hs hP hlen hN2 hN1 h1 h2
  obtain ⟨i0, hi, hz0, hz1, hz2⟩ := info_parts info_int
  go_enter Tryz.func105, Tryz.ntmps105
  go_wp2_with fail
  refine HC.out.mono ?_; rintro e w1 ⟨rfl, rfl⟩
  have hl1 : PB.length ≤ 1000 := Nat.le_trans HN1.out HNN.out
  go_wp2_with fail
  have T1 := Lib.hid (HT.out.below (below_new w (.cells (Lib.cellsOf PB N) 9)))
  have B1 := Lib.hid (below_new w (.cells (Lib.cellsOf PB N) 9))
  have hsz1 : w.heap.size ≤ (w.alloc (.cells (Lib.cellsOf PB N) 9)).heap.size := by simp
  generalize w.alloc (.cells (Lib.cellsOf PB N) 9) = w1 at *
  go_loopw [5, 12] (fun v i wr => ∃ (k : Nat) (acc : List Int), k ≤ PB.length ∧ acc.length = k ∧ i = .int .i64 (k : Int) ∧ IntOwn wr w1.heap.size v acc ∧ Below w1.heap.size w1 wr ∧ Hid (Fl.numbersOf P = (Fl.numbersOf (P.drop k)).map (acc ++ ·))) (fun _ i _ => PB.length - (intOf i).toNat)
  case atStart => exact ⟨0, [], by omega, rfl, rfl, World.ownsRow_nil _ _ _ _, Below.refl _ _, Lib.hid (by simp)⟩
  case round =>
    obtain ⟨k, acc, hk, hacc, rfl, hown, hb, hh⟩ := hrel
    have HA := Lib.hid hacc; clear hacc
    by_cases hlt : k < PB.length
    · obtain ⟨b, off, hbe, hbb, h0⟩ := (HW.out.below hb).2.2 k hlt
      injection hbe with hbe; injection hbe with hb1 hb2; subst hb1; subst hb2
      rw [Nat.zero_add] at h0
      have HE := Lib.hid (numbersOf_acc P k (by rw [HL.out]; exact hlt) acc)
      have HPk := Lib.hid (show P[k]'(by rw [HL.out]; exact hlt) = PB[k].data.toList by simp [← HP.out])
      rw [HPk.out] at HE
      have hz := HZ.out k hlt
      generalize PB[k] = x at *
      have HB := Lib.hid (below_step B1.out hb)
      have TR := Lib.hid (T1.out.below hb)
      cases hn : Fl.number x.data.toList with
      | none =>
        have HN := Lib.hid (fun w ht => number_no x w a ht hz hn)
        rw [hn] at HE
        have HF := Lib.hid (show Fl.numbersOf P = none by rw [hh.out, HE.out]; rfl)
        clear hn hz HE HPk hown
        go_wp2_with fail
        refine (HN.out _ TR.out).mono ?_; rintro e w2 ⟨rfl, g2⟩
        have G2 := Lib.hid (below_step HB.out g2); clear g2
        go_wp2_with fail
        exact ⟨rfl, by rw [HF.out]; exact ⟨rfl, G2.out⟩⟩
      | some n =>
        have HN := Lib.hid (fun w ht => number_yes x n w a ht hz hn)
        rw [hn] at HE
        have HF := Lib.hid (show Fl.numbersOf P = (Fl.numbersOf (P.drop (k + 1))).map ((acc ++ [n]) ++ ·) by rw [hh.out, HE.out]; rfl)
        have hal : acc.length ≤ 1000 := by have := HA.out; omega
        clear hn hz HE HPk
        go_wp2_with fail
        refine (HN.out _ TR.out).mono ?_; rintro e w2 ⟨rfl, g2⟩
        have G2 := Lib.hid (below_step HB.out g2)
        have BW := Lib.hid (below_step hb g2)
        have own2 := hown.below g2
        have hs2 := BW.out.size
        clear g2 hown hb
        go_wp2_with (at_builtin; refine wpList_append_own _ rfl _ _ 50 rfl w1.heap.size 3 i0 (.int .i64 0) 1 8 Tryz.underlying50 hi hz0 hz1 hz2 rfl (by decide) _ _ _ rfl (World.ownsRow.alloc own2 _) ⟨w2.heap.size, 0, none⟩ 1 1 [.int .i64 n] rfl rfl ?c1 ?c2 ?c3 ?c4 ?c5 ?_)
        case c1 => exact World.news_of_block (cs := #[.int .i64 n]) (t := 3) (fr := (0, 0)) (heap_alloc_new w2 _)
        case c2 => intro u hu; rw [List.mem_singleton] at hu; subst hu; simp [Value.oneCell']
        case c3 => unfold maxLen; omega
        case c4 => omega
        case c5 => simp; omega
        intro v' w3 hown' hgrow _
        have hlw := fun k e => (own2.lt k e).1
        have G3 := Lib.hid (BW.out.trans (((Below.refl w1.heap.size w2).alloc hs2 _).grown hgrow (by simp; omega) hlw))
        have O3 := Lib.hid (IntOwn.snoc hown')
        clear hown' hgrow own2 hlw
        go_wp2_with fail
        go_roundw
        case rel => exact ⟨k + 1, acc ++ [n], by omega, by have := HA.out; simp; omega, by go_num, O3.out, G3.out, HF⟩
        case measure => simp [intOf]; omega
    · have HF := Lib.hid (show Fl.numbersOf P = some acc by rw [hh.out, List.drop_of_length_le (by rw [HL.out]; omega)]; simp [Fl.numbersOf])
      go_wp2_with fail
      go_ret
      rw [HF.out]
      exact ⟨⟨_, rfl, hown.mono hsz1⟩, below_step B1.out hb⟩
end Go.Proofs.YtcaclijkkbhfhaaGreatDoor
