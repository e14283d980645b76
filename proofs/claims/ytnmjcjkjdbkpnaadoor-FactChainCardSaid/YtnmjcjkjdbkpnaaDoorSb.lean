/-
  strings.Builder at this program: the library's own contracts, laid by hand where the kit's laying names a type that the bodies do not.
-/
import Derived.Test.YtnmjcjkjdbkpnaaDoorShelf
import Derived.Shelf.Strings.BuilderK
import Derived.Shelf.Strings.BuilderF
import Derived.Test.YtnmjcjkjdbkpnaaDoorSm
import Derived.Test.YtnmjcjkjdbkpnaaDoorWaPutInt
import Derived.Lib.UnsafeStr
namespace Go.Proofs.YtnmjcjkjdbkpnaaDoor
open Go.RowKit Go.Shelf Fc
def renB : Go.Shelf.Ren := ⟨fun | 166 => 50 | 240 => 61 | 276 => 65 | n => n, fun | 75 => 80 | 80 => 83 | 164 => 99 | 20 => 20 | 70 => 76 | 9 => 9 | 0 => 0 | 72 => 78 | 37 => 68 | 3 => 3 | 4 => 4 | 5 => 5 | n => n, fun | n => n⟩
theorem lays166 : Go.Proofs.Lays.n166 Tryd.prog renB := {
  mixed := by kernel_rfl
  f166 := Tryd.func50.trans (congrArg some (by kernel_rfl))
  f240 := Tryd.func61.trans (congrArg some (by kernel_rfl))
  f276 := Tryd.func65.trans (congrArg some (by kernel_rfl))
  t0 := Tryd.underlying0
  a0 := Tryd.isAgg0
  z0 := Tryd.sizeOf0
  v0 := Tryd.zeroValue0
  t3 := Tryd.underlying3
  a3 := Tryd.isAgg3
  z3 := Tryd.sizeOf3
  v3 := Tryd.zeroValue3
  t4 := Tryd.underlying4
  a4 := Tryd.isAgg4
  z4 := Tryd.sizeOf4
  v4 := Tryd.zeroValue4
  t9 := Tryd.underlying9
  a9 := Tryd.isAgg9
  z9 := Tryd.sizeOf9
  v9 := Tryd.zeroValue9
  t20 := Tryd.underlying20
  a20 := Tryd.isAgg20
  z20 := Tryd.sizeOf20
  v20 := Tryd.zeroValue20
  t37 := Tryd.underlying68
  a37 := Tryd.isAgg68
  z37 := Tryd.sizeOf68
  v37 := Tryd.zeroValue68
  t70 := Tryd.underlying76
  a70 := Tryd.isAgg76
  z70 := Tryd.sizeOf76
  v70 := Tryd.zeroValue76
  t72 := Tryd.underlying78
  a72 := Tryd.isAgg78
  z72 := Tryd.sizeOf78
  v72 := Tryd.zeroValue78
  t75 := Tryd.underlying80
  a75 := Tryd.isAgg80
  z75 := Tryd.sizeOf80
  v75 := Tryd.zeroValue80
  t164 := Tryd.underlying99
  a164 := Tryd.isAgg99
  z164 := Tryd.sizeOf99
  v164 := Tryd.zeroValue99 }
theorem extraB : Go.Proofs.Builder.Extra Tryd.prog renB where
  sizeBuilder := by kernel_rfl
  liesBuilder := by kernel_rfl
  t5 := Tryd.underlying5
  a5 := Tryd.isAgg5
  z5 := Tryd.sizeOf5
  v5 := Tryd.zeroValue5
  infoByte := by kernel_rfl
  cellsByte := by kernel_rfl
  sizeByte := by kernel_rfl
  neB5 := by decide
theorem extraS : Go.Proofs.Builder.Extra Tryd.prog Tryd.lays169_ren where
  sizeBuilder := by kernel_rfl
  liesBuilder := by kernel_rfl
  t5 := Tryd.underlying5
  a5 := Tryd.isAgg5
  z5 := Tryd.sizeOf5
  v5 := Tryd.zeroValue5
  infoByte := by kernel_rfl
  cellsByte := by kernel_rfl
  sizeByte := by kernel_rfl
  neB5 := by decide
theorem writeString_any (B b : Nat) (bs : List Value) (s : ByteArray) (w : World) (h : Lib.IsBuilderF 78 5 B b bs w) (hlen : bs.length + s.size ≤ 140737488355328) (hBw : B ≤ w.heap.size) :
    Calls Tryd.prog 50 #[.pointer (some ⟨b, 0, none⟩), .string s] w fun e w' => e = .returned (.tuple #[.int .i64 s.size, .nilIface]) ∧ Lib.BuilderAtF 78 5 B b (.pointer (some ⟨b, 0, none⟩)) (bs ++ Lib.strCells s) w' ∧ Below B w w' ∧ Lib.OthersKept 5 (some b) w w' :=
  Any.Builder_WriteString_k lays166 extraB B b bs s w h hlen hBw
theorem bString_any (B b : Nat) (l : List UInt8) (w : World) (h : Lib.IsBuilderF 78 5 B b (Lib.byteCells l) w) (hBw : B ≤ w.heap.size) :
    Calls Tryd.prog 51 #[.pointer (some ⟨b, 0, none⟩)] w fun e w' => e = .returned (.string ⟨l.toArray⟩) ∧ Lib.IsBuilderF 78 5 B b (Lib.byteCells l) w' ∧ Below B w w' ∧ Lib.OthersKept 5 (some b) w w' :=
  Any.Builder_String_any_k Tryd.lays169 extraS B b l w h hBw
abbrev bs (l : List UInt8) : ByteArray := ⟨l.toArray⟩
theorem bs_size (l : List UInt8) : (bs l).size = l.length := by show l.toArray.size = _; simp
/-- The builder while it is filled. -/
abbrev BldAt (B : Nat) (acc : List UInt8) (w : World) : Prop := Lib.IsBuilderF 78 5 B B (Lib.byteCells acc) w
theorem BldAt.new (w : World) : BldAt w.heap.size [] (w.alloc (.cells #[.pointer none, .slice none 0 0] 78)) :=
  .inl ⟨Nat.le_refl _, .slice none 0 0, heap_alloc_new w _, ⟨rfl, .inl ⟨rfl, rfl⟩⟩, by simp [Value.ownBlock]⟩
theorem ownF_below {w w' : World} {base : Nat} {e : TypeId} {size : Nat} {v : Value} {n : Nat} {xs : List Value} (h : w.ownsRowF base e size v n xs) (hb : Below w.heap.size w w') : w'.ownsRowF base e size v n xs := by
  obtain ⟨h1, h2 | ⟨g, cap, cur, fz, h2, h3, h4, h5⟩⟩ := h
  · exact ⟨h1, .inl h2⟩
  · exact ⟨h1, .inr ⟨g, cap, cur, fz, h2, h3, (hb.block _ (lt_of_block h4)).trans h4, h5⟩⟩
theorem BldAt.below {B : Nat} {acc : List UInt8} {w w' : World} (h : BldAt B acc w) (hb : Below w.heap.size w w') : BldAt B acc w' := by
  rcases h with ⟨h1, v, h2, h3, h4⟩ | ⟨h1, v, h2, h3, h4⟩
  · exact .inl ⟨h1, v, (hb.block _ (lt_of_block h2)).trans h2, ownF_below h3 hb, h4⟩
  · exact .inr ⟨h1, v, (hb.block _ (lt_of_block h2)).trans h2, ownF_below h3 hb, h4⟩
theorem BldAt.lt {B : Nat} {acc : List UInt8} {w : World} (h : BldAt B acc w) : B < w.heap.size := by
  rcases h with ⟨_, v, h2, _⟩ | ⟨_, v, h2, _⟩ <;> exact lt_of_block h2
theorem write_any (B : Nat) (acc s : List UInt8) (w : World) (h : BldAt B acc w) (hl : acc.length + s.length ≤ 1000000) (hB : B ≤ w.heap.size) :
    Calls Tryd.prog 50 #[.pointer (some ⟨B, 0, none⟩), .string (bs s)] w fun e w' => e = .returned (.tuple #[.int .i64 s.length, .nilIface]) ∧ BldAt B (acc ++ s) w' ∧ Below B w w' ∧ Lib.OthersKept 5 (some B) w w' := by
  have := writeString_any B B (Lib.byteCells acc) (bs s) w h (by rw [Lib.byteCells_length, bs_size]; omega) hB
  rw [bs_size, Lib.strCells_eq, ← Lib.byteCells_append] at this
  exact this.mono fun _ _ ⟨h1, h2, h3, h4⟩ => ⟨h1, .inr h2, h3, h4⟩
theorem build_any (B : Nat) (acc : List UInt8) (w : World) (h : BldAt B acc w) (hB : B ≤ w.heap.size) :
    Calls Tryd.prog 51 #[.pointer (some ⟨B, 0, none⟩)] w fun e w' => e = .returned (.string (bs acc)) ∧ Below B w w' := (bString_any B B acc w h hB).mono fun _ _ ⟨h1, _, h3, _⟩ => ⟨h1, h3⟩
theorem kept_of_below {e : TypeId} {b : Option Nat} {w w' : World} (h : Below w.heap.size w w') : Lib.OthersKept e b w w' := fun k _ hk _ _ => (h.block k (lt_of_block hk)).trans hk
/-- What put leaves. -/
def StrPost (l : List UInt8) (w : World) (e : Ending) (w' : World) : Prop := e = .returned (.string (bs l)) ∧ Below w.heap.size w w'
theorem putB_len (n : Int) : (Wa.Enc.putBytes n).length ≤ 9 := by
  unfold Wa.Enc.putBytes; split
  · simp
  · exact Wa.Enc.enc_le _
theorem numsB_len (l : List Int) : (numsB l).length ≤ l.length * 9 := by
  induction l with
  | nil => simp [numsB]
  | cons a l ih => rw [numsB_cons, List.length_append, List.length_cons]; have := putB_len a; omega
theorem numsB_snoc (l : List Int) (n : Int) : numsB (l ++ [n]) = numsB l ++ Wa.Enc.putBytes n := by simp [numsB]
attribute [local go_sem] Oper.semAt_some
set_option maxRecDepth 100000 in
set_option maxHeartbeats 2000000 in
theorem put_any (l : List Int) (a : Option Addr) (c : Nat) (w : World) (hA : IntsA w a c l) (hL : l.length ≤ 1000) : Calls Tryd.prog 37 #[.slice a l.length c] w (StrPost (numsB l) w) := by
  have B0 := Lib.hid (show BldAt w.heap.size (numsB (l.take 0)) (w.alloc (.cells #[.pointer none, .slice none 0 0] 78)) ∧ Below w.heap.size w (w.alloc (.cells #[.pointer none, .slice none 0 0] 78)) from ⟨BldAt.new w, below_new _ _⟩)
  have HA := Lib.hid hA
  clear hA
  go_enter Tryd.func37, Tryd.ntmps37
  go_wp2_with fail
  go_loopw [10] (fun i wr => ∃ k : Nat, k ≤ l.length ∧ i = .int .i64 (k : Int) ∧ Hid (BldAt w.heap.size (numsB (l.take k)) wr ∧ Below w.heap.size w wr)) (fun i _ => l.length - (intOf i).toNat)
  case atStart => exact ⟨0, Nat.zero_le _, rfl, B0⟩
  case round =>
    obtain ⟨k, hk, rfl, HK⟩ := hrel
    by_cases hlt : k < l.length
    · obtain ⟨sb, so, rfl, hsb, hc⟩ := (HA.out.below HK.out.2).at (show 0 < l.length by omega)
      have x0 : wr.cell? ⟨sb, so + k * 1 + 0, none⟩ = some (.int .i64 l[k]) := hc k hlt 0 _ rfl
      have HT := Lib.hid (show numsB (l.take (k + 1)) = numsB (l.take k) ++ Wa.Enc.putBytes l[k] by rw [List.take_succ_eq_append_getElem hlt, numsB_snoc])
      simp only [Nat.mul_one, Nat.add_zero] at x0
      clear hc B0
      generalize l[k] = n at *
      have HP := Lib.hid (Wa.putInt_any n wr)
      have HM := Lib.hid (show (numsB (l.take k)).length + (Wa.Enc.putBytes n).length ≤ 1000000 by have h1 := numsB_len (l.take k); have h2 := putB_len n; rw [List.length_take] at h1; omega)
      have i1 : (0 : Int) ≤ (k : Int) := by omega
      have i2 : (k : Int) < (l.length : Int) := by omega
      have i4 : ((k : Int)).toNat = k := by omega
      go_wp2_with fail
      refine HP.out.mono ?_; rintro e w1 ⟨rfl, g1⟩
      have B1 := Lib.hid (HK.out.1.below g1)
      have G1 := Lib.hid (show Below w.heap.size w w1 from HK.out.2.trans (g1.mono (Nat.le_of_lt HK.out.1.lt)))
      clear g1 x0
      generalize Wa.Enc.putErr n = er
      go_wp2_with fail
      refine (write_any w.heap.size (numsB (l.take k)) (Wa.Enc.putBytes n) w1 B1.out HM.out (Nat.le_of_lt B1.out.lt)).mono ?_; rintro e w2 ⟨rfl, h2, g2, -⟩
      have F := Lib.hid (show BldAt w.heap.size (numsB (l.take (k + 1))) w2 ∧ Below w.heap.size w w2 from ⟨by rw [HT.out]; exact h2, G1.out.trans g2⟩)
      clear h2 g2
      go_wp2_with fail
      go_roundw
      case rel => exact ⟨k + 1, hlt, by go_num, F⟩
      case measure => simp [intOf]; omega
    · have i2 : ¬ (k : Int) < (l.length : Int) := by omega
      have HT := Lib.hid (show BldAt w.heap.size (numsB l) wr from by have := HK.out.1; rwa [List.take_of_length_le (by omega)] at this)
      go_wp2_with fail
      refine (build_any w.heap.size (numsB l) wr HT.out (Nat.le_of_lt HT.out.lt)).mono ?_; rintro e w1 ⟨rfl, g1⟩
      have F := Lib.hid (show Below w.heap.size w w1 from HK.out.2.trans g1)
      clear g1
      go_wp2_with fail
      go_ret
      exact ⟨rfl, F.out⟩
end Go.Proofs.YtnmjcjkjdbkpnaaDoor
