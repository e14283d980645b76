/-
  Contracts of Go's library at this program, each one application of the library's own; laid by the kit's commands (wip/tools/shelf.sh), the numbers are the program's. No condition beside what each says.
  Where the numbers of a plan, a stage, a window are: the rows of pointers.
  strings.Builder at this program: the library's own contracts, laid by hand where the kit's laying names a type that the bodies do not.
-/
import Derived.Shelf.Strings.Builder1
import Derived.Shelf.Strings.BuilderF
import Derived.Shelf.Strings.BuilderK
import Derived.Test.YtihohjgjklcnlaaDoorProg
import Derived.Test.YtihohjgjklcnlaaDoorQCe
import Derived.Test.YtihohjgjklcnlaaDoorQBn
import Derived.Lib.UnsafeStr
namespace Go.Proofs
open Go.Shelf
def Tryd.lays169_ren : Go.Shelf.Ren := ⟨fun | 169 => 76 | n => n, fun | 70 => 126 | 9 => 9 | 0 => 0 | 72 => 128 | 37 => 65 | 127 => 165 | 3 => 3 | 5 => 5 | n => n, fun | n => n⟩
theorem Tryd.lays169 : Go.Proofs.Lays.n169 Tryd.prog Tryd.lays169_ren := {
  mixed := by kernel_rfl
  f169 := Tryd.func76.trans (congrArg some (by kernel_rfl))
  t0 := Tryd.underlying0
  a0 := Tryd.isAgg0
  z0 := Tryd.sizeOf0
  v0 := Tryd.zeroValue0
  t3 := Tryd.underlying3
  a3 := Tryd.isAgg3
  z3 := Tryd.sizeOf3
  v3 := Tryd.zeroValue3
  t9 := Tryd.underlying9
  a9 := Tryd.isAgg9
  z9 := Tryd.sizeOf9
  v9 := Tryd.zeroValue9
  t37 := Tryd.underlying65
  a37 := Tryd.isAgg65
  z37 := Tryd.sizeOf65
  v37 := Tryd.zeroValue65
  t70 := Tryd.underlying126
  a70 := Tryd.isAgg126
  z70 := Tryd.sizeOf126
  v70 := Tryd.zeroValue126
  t72 := Tryd.underlying128
  a72 := Tryd.isAgg128
  z72 := Tryd.sizeOf128
  v72 := Tryd.zeroValue128
  t127 := Tryd.underlying165
  a127 := Tryd.isAgg165
  z127 := Tryd.sizeOf165
  v127 := Tryd.zeroValue165 }
end Go.Proofs

namespace Go.Proofs.YtihohjgjklcnlaaDoor
open Go.RowKit Go.Shelf
attribute [local go_sem] Oper.semAt_some
/-- A new row of pointers to n cells, one behind the other. -/
def PtrRow (w0 : World) (b o n : Nat) (e : Ending) (w' : World) : Prop :=
  e = .returned (.slice (some ⟨w0.heap.size, 0, none⟩) n n) ∧ w'.heap[w0.heap.size]? = some (.cells ((List.range n).map fun i => Value.pointer (some ⟨b, o + i, none⟩)).toArray 138) ∧ Below w0.heap.size w0 w'
set_option maxRecDepth 100000 in
set_option maxHeartbeats 1000000 in
theorem bounds_any (b o : Nat) (w : World) : Calls Tryd.prog 71 #[.pointer (some ⟨b, o, none⟩)] w (PtrRow w b o 3) := by
  go_enter Tryd.func71, Tryd.ntmps71
  go_upto_region 1 with (fail)
  go_region_held3 (fun v => True) (trivial) (fail)
  go_wp2_with fail
  go_ret
  exact ⟨rfl, heap_alloc_new w _, (below_new w _).drew⟩
set_option maxRecDepth 100000 in
set_option maxHeartbeats 1000000 in
theorem windowNumbers_any (b o : Nat) (w : World) : Calls Tryd.prog 75 #[.pointer (some ⟨b, o, none⟩)] w (PtrRow w b o 3) := by
  go_enter Tryd.func75, Tryd.ntmps75
  go_upto_region 1 with (fail)
  go_region_held3 (fun v => True) (trivial) (fail)
  go_wp2_with fail
  go_ret
  exact ⟨rfl, heap_alloc_new w _, (below_new w _).drew⟩
set_option maxRecDepth 100000 in
set_option maxHeartbeats 1000000 in
theorem stageNumbers_any (b o : Nat) (w : World) : Calls Tryd.prog 73 #[.pointer (some ⟨b, o, none⟩)] w (PtrRow w b o 6) := by
  go_enter Tryd.func73, Tryd.ntmps73
  go_upto_region 1 with (fail)
  go_region_held3 (fun v => True) (trivial) (fail)
  go_wp2_with fail
  go_ret
  exact ⟨rfl, heap_alloc_new w _, (below_new w _).drew⟩
end Go.Proofs.YtihohjgjklcnlaaDoor

namespace Go.Proofs.YtihohjgjklcnlaaDoor
open Go.RowKit Go.Shelf
def renB : Go.Shelf.Ren := ⟨fun | 166 => 70 | 240 => 94 | 276 => 105 | n => n, fun | 75 => 131 | 80 => 143 | 164 => 179 | 20 => 20 | 70 => 126 | 9 => 9 | 0 => 0 | 72 => 128 | 37 => 65 | 3 => 3 | 4 => 4 | 5 => 5 | n => n, fun | n => n⟩
theorem lays166 : Go.Proofs.Lays.n166 Tryd.prog renB := {
  mixed := by kernel_rfl
  f166 := Tryd.func70.trans (congrArg some (by kernel_rfl))
  f240 := Tryd.func94.trans (congrArg some (by kernel_rfl))
  f276 := Tryd.func105.trans (congrArg some (by kernel_rfl))
  t0 := Tryd.underlying0
  a0 := Tryd.isAgg0
  z0 := Tryd.sizeOf0
  v0 := Tryd.zeroValue0
  t3 := Tryd.underlying3
  a3 := Tryd.isAgg3
  z3 := Tryd.sizeOf3
  v3 := Tryd.zeroValue3
  t4 := Tryd.underlying4
  a4 := Tryd.isAgg4
  z4 := Tryd.sizeOf4
  v4 := Tryd.zeroValue4
  t9 := Tryd.underlying9
  a9 := Tryd.isAgg9
  z9 := Tryd.sizeOf9
  v9 := Tryd.zeroValue9
  t20 := Tryd.underlying20
  a20 := Tryd.isAgg20
  z20 := Tryd.sizeOf20
  v20 := Tryd.zeroValue20
  t37 := Tryd.underlying65
  a37 := Tryd.isAgg65
  z37 := Tryd.sizeOf65
  v37 := Tryd.zeroValue65
  t70 := Tryd.underlying126
  a70 := Tryd.isAgg126
  z70 := Tryd.sizeOf126
  v70 := Tryd.zeroValue126
  t72 := Tryd.underlying128
  a72 := Tryd.isAgg128
  z72 := Tryd.sizeOf128
  v72 := Tryd.zeroValue128
  t75 := Tryd.underlying131
  a75 := Tryd.isAgg131
  z75 := Tryd.sizeOf131
  v75 := Tryd.zeroValue131
  t164 := Tryd.underlying179
  a164 := Tryd.isAgg179
  z164 := Tryd.sizeOf179
  v164 := Tryd.zeroValue179 }
theorem extraB : Go.Proofs.Builder.Extra Tryd.prog renB where
  sizeBuilder := by kernel_rfl
  liesBuilder := by kernel_rfl
  t5 := Tryd.underlying5
  a5 := Tryd.isAgg5
  z5 := Tryd.sizeOf5
  v5 := Tryd.zeroValue5
  infoByte := by kernel_rfl
  cellsByte := by kernel_rfl
  sizeByte := by kernel_rfl
  neB5 := by decide
theorem extraS : Go.Proofs.Builder.Extra Tryd.prog Tryd.lays169_ren where
  sizeBuilder := by kernel_rfl
  liesBuilder := by kernel_rfl
  t5 := Tryd.underlying5
  a5 := Tryd.isAgg5
  z5 := Tryd.sizeOf5
  v5 := Tryd.zeroValue5
  infoByte := by kernel_rfl
  cellsByte := by kernel_rfl
  sizeByte := by kernel_rfl
  neB5 := by decide
theorem writeString_any (B b : Nat) (bs : List Value) (s : ByteArray) (w : World) (h : Lib.IsBuilderF 128 5 B b bs w) (hlen : bs.length + s.size ≤ 140737488355328) (hBw : B ≤ w.heap.size) :
    Calls Tryd.prog 70 #[.pointer (some ⟨b, 0, none⟩), .string s] w fun e w' => e = .returned (.tuple #[.int .i64 s.size, .nilIface]) ∧ Lib.BuilderAtF 128 5 B b (.pointer (some ⟨b, 0, none⟩)) (bs ++ Lib.strCells s) w' ∧ Below B w w' ∧ Lib.OthersKept 5 (some b) w w' :=
  Any.Builder_WriteString_k lays166 extraB B b bs s w h hlen hBw
theorem bString_any (B b : Nat) (l : List UInt8) (w : World) (h : Lib.IsBuilderF 128 5 B b (Lib.byteCells l) w) (hBw : B ≤ w.heap.size) :
    Calls Tryd.prog 76 #[.pointer (some ⟨b, 0, none⟩)] w fun e w' => e = .returned (.string ⟨l.toArray⟩) ∧ Lib.IsBuilderF 128 5 B b (Lib.byteCells l) w' ∧ Below B w w' ∧ Lib.OthersKept 5 (some b) w w' :=
  Any.Builder_String_any_k Tryd.lays169 extraS B b l w h hBw
abbrev bs (l : List UInt8) : ByteArray := ⟨l.toArray⟩
theorem bs_size (l : List UInt8) : (bs l).size = l.length := by show l.toArray.size = _; simp
/-- The builder while it is filled. -/
abbrev BldAt (B : Nat) (acc : List UInt8) (w : World) : Prop := Lib.IsBuilderF 128 5 B B (Lib.byteCells acc) w
theorem BldAt.new (w : World) : BldAt w.heap.size [] (w.alloc (.cells #[.pointer none, .slice none 0 0] 128)) :=
  .inl ⟨Nat.le_refl _, .slice none 0 0, heap_alloc_new w _, ⟨rfl, .inl ⟨rfl, rfl⟩⟩, by simp [Value.ownBlock]⟩
theorem ownF_below {w w' : World} {base : Nat} {e : TypeId} {size : Nat} {v : Value} {n : Nat} {xs : List Value} (h : w.ownsRowF base e size v n xs) (hb : Below w.heap.size w w') : w'.ownsRowF base e size v n xs := by
  obtain ⟨h1, h2 | ⟨g, cap, cur, fz, h2, h3, h4, h5⟩⟩ := h
  · exact ⟨h1, .inl h2⟩
  · exact ⟨h1, .inr ⟨g, cap, cur, fz, h2, h3, (hb.block _ (lt_of_block h4)).trans h4, h5⟩⟩
theorem BldAt.below {B : Nat} {acc : List UInt8} {w w' : World} (h : BldAt B acc w) (hb : Below w.heap.size w w') : BldAt B acc w' := by
  rcases h with ⟨h1, v, h2, h3, h4⟩ | ⟨h1, v, h2, h3, h4⟩
  · exact .inl ⟨h1, v, (hb.block _ (lt_of_block h2)).trans h2, ownF_below h3 hb, h4⟩
  · exact .inr ⟨h1, v, (hb.block _ (lt_of_block h2)).trans h2, ownF_below h3 hb, h4⟩
theorem BldAt.lt {B : Nat} {acc : List UInt8} {w : World} (h : BldAt B acc w) : B < w.heap.size := by
  rcases h with ⟨_, v, h2, _⟩ | ⟨_, v, h2, _⟩ <;> exact lt_of_block h2
theorem write_any (B : Nat) (acc s : List UInt8) (w : World) (h : BldAt B acc w) (hl : acc.length + s.length ≤ 1000000) (hB : B ≤ w.heap.size) :
    Calls Tryd.prog 70 #[.pointer (some ⟨B, 0, none⟩), .string (bs s)] w fun e w' => e = .returned (.tuple #[.int .i64 s.length, .nilIface]) ∧ BldAt B (acc ++ s) w' ∧ Below B w w' ∧ Lib.OthersKept 5 (some B) w w' := by
  have := writeString_any B B (Lib.byteCells acc) (bs s) w h (by rw [Lib.byteCells_length, bs_size]; omega) hB
  rw [bs_size, Lib.strCells_eq, ← Lib.byteCells_append] at this
  exact this.mono fun _ _ ⟨h1, h2, h3, h4⟩ => ⟨h1, .inr h2, h3, h4⟩
theorem build_any (B : Nat) (acc : List UInt8) (w : World) (h : BldAt B acc w) (hB : B ≤ w.heap.size) :
    Calls Tryd.prog 76 #[.pointer (some ⟨B, 0, none⟩)] w fun e w' => e = .returned (.string (bs acc)) ∧ Below B w w' := (bString_any B B acc w h hB).mono fun _ _ ⟨h1, _, h3, _⟩ => ⟨h1, h3⟩
theorem kept_of_below {e : TypeId} {b : Option Nat} {w w' : World} (h : Below w.heap.size w w') : Lib.OthersKept e b w w' := fun k _ hk _ _ => (h.block k (lt_of_block hk)).trans hk
/-- The bytes of a number. -/
abbrev numB (n : Int) : List UInt8 := Wa.Enc.putBytes n
theorem putErr_in {n : Int} (h1 : -4611686018427387903 ≤ n) (h2 : n ≤ 4611686018427387903) : Wa.Enc.putErr n = 0 := by unfold Wa.Enc.putErr; rw [if_neg (by omega)]
/-- What the closure put leaves: the number behind what the builder held. -/
def PutDone (B : Nat) (acc : List UInt8) (n : Int) (w : World) (e : Ending) (w' : World) : Prop :=
  e = .returned (.tuple #[]) ∧ BldAt B (acc ++ numB n) w' ∧ Below B w w' ∧ Lib.OthersKept 5 (some B) w w'
set_option maxRecDepth 100000 in
set_option maxHeartbeats 1000000 in
theorem put_any (B : Nat) (acc : List UInt8) (n : Int) (w : World) (h : BldAt B acc w) (hl : acc.length ≤ 900000) (hn : (numB n).length ≤ 1000) : Calls Tryd.prog 68 #[.int .i64 n, .pointer (some ⟨B, 0, none⟩)] w (PutDone B acc n w) := by
  have HP := Lib.hid (Wa.putInt_any n w)
  have HB := Lib.hid h
  have HL := Lib.hid (show acc.length + (numB n).length ≤ 1000000 by omega)
  clear h hl hn
  go_enter Tryd.func68, Tryd.ntmps68
  go_wp2_with fail
  refine HP.out.mono ?_; rintro e w1 ⟨rfl, g1⟩
  have HB1 := Lib.hid (HB.out.below g1)
  have G1 := Lib.hid g1
  clear g1
  generalize Wa.Enc.putErr n = er
  go_wp2_with fail
  refine (write_any B acc (numB n) w1 HB1.out HL.out (Nat.le_of_lt HB1.out.lt)).mono ?_; rintro e w2 ⟨rfl, h2, g2, k2⟩
  have F := Lib.hid (show BldAt B (acc ++ numB n) w2 ∧ Below B w w2 ∧ Lib.OthersKept 5 (some B) w w2 from ⟨h2, (Below.mono G1.out (Nat.le_of_lt HB.out.lt)).trans g2, (kept_of_below G1.out).trans k2⟩)
  clear h2 g2 k2
  go_wp2_with fail
  refine bodyPost_ret (results_none rfl _ _ _) rfl ?_
  exact ⟨rfl, F.out⟩
end Go.Proofs.YtihohjgjklcnlaaDoor
